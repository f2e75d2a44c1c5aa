/- The contract of the statement's step, termsMoved. -/
import Derived.Test.YteepmfhpjanbhaaGreatDoorKinB
import Derived.Test.YteepmfhpjanbhaaGreatDoorWide
import Derived.Deep.CutBlock
import Derived.Deep.DeepCutAuto
import Derived.Deep.RegionHeld3

namespace Go.Proofs.YteepmfhpjanbhaaGreatDoor
open Go.RowKit

/-- The step lies in a variable. -/
structure OB (W : World) (n : Nat) (S T U : ByteArray) (x y : Int) : Prop where
  c1 : W.cell? ⟨n, 1, none⟩ = some (.string S)
  c2 : W.cell? ⟨n, 2, none⟩ = some (.string T)
  c3 : W.cell? ⟨n, 3, none⟩ = some (.string U)
  c4 : W.cell? ⟨n, 4, none⟩ = some (.int .i64 x)
  c5 : W.cell? ⟨n, 5, none⟩ = some (.int .i64 y)
theorem OB.lt {W : World} {n : Nat} {S T U : ByteArray} {x y : Int} (h : OB W n S T U x y) : n < W.heap.size := World.block_lt_of_cell? _ _ h.c1
theorem OB.later {W W' : World} {n : Nat} {S T U : ByteArray} {x y : Int} (h : OB W n S T U x y) (hb : Below W.heap.size W W') : OB W' n S T U x y := ⟨cell_later hb h.c1, cell_later hb h.c2, cell_later hb h.c3, cell_later hb h.c4, cell_later hb h.c5⟩
theorem OB.alloc {W : World} {n : Nat} {S T U : ByteArray} {x y : Int} (h : OB W n S T U x y) (o : Obj) : OB (W.alloc o) n S T U x y := h.later ((Below.refl _ _).alloc (Nat.le_refl _) _)
theorem OB.new (W : World) (k : Int) (S T U : ByteArray) (x y : Int) : OB (W.alloc (.cells #[.int .i64 k, .string S, .string T, .string U, .int .i64 x, .int .i64 y] 25)) W.heap.size S T U x y := by
  constructor <;> simp [World.cell?_alloc_at]

/-- The tables that the walk reads. -/
structure Laid (wb wo wc : Nat) (W : World) : Prop where
  words : WordsAt W wb wo wc
  lev : Table W
  trm : TTable W
  pow : Pow10 W
  big : 3 < W.heap.size
theorem Laid.later {wb wo wc : Nat} {W W' : World} (h : Laid wb wo wc W) (hb : Below W.heap.size W W') : Laid wb wo wc W' :=
  ⟨h.words.of_blocks (hb.block 0 h.words.lt.1) (hb.block wb h.words.lt.2), h.lev.below hb (by have := h.big; omega), h.trm.below hb (by have := h.big; omega), h.pow.below hb h.big, Nat.lt_of_lt_of_le h.big hb.size⟩
theorem Laid.alloc {wb wo wc : Nat} {W : World} (h : Laid wb wo wc W) (o : Obj) : Laid wb wo wc (W.alloc o) := h.later ((Below.refl _ _).alloc (Nat.le_refl _) _)

/-- What is known of a text that is a term. -/
theorem read_some {s : ByteArray} {t : Tm} {w : World} {d D : Nat} {v : Value} (hs : s.size ≤ 20000) (h : TRight s t) (hin : InTm w (fun _ => True) d t v) (hD : D = 20000) : WfT D t ∧ partsT D t ≤ 20000 ∧ InTm w (fun _ => True) D t v := by
  obtain ⟨e, p, hr, _⟩ := h
  have hle := hr.le
  obtain ⟨h1, h2⟩ := RT.some hs e t 0 p hr
  obtain ⟨hw, hp⟩ := h2 D (by omega)
  exact ⟨hw, by omega, hin.fit hw⟩

theorem Below.al {w W : World} (h : Below w.heap.size w W) (o : Obj) : Below w.heap.size w (W.alloc o) := h.alloc h.size o
theorem Below.go {w W W' : World} (h : Below w.heap.size w W) (hb : Below W.heap.size W W') : Below w.heap.size w W' := h.trans (hb.mono h.size)
theorem below_undrew {W W' : World} (h : Below W.drew.heap.size W.drew W') : Below W.heap.size W W' := ⟨h.os, h.tape, h.output, h.size, h.block⟩
theorem TB5.drew {W : World} {n d : Nat} {t : Tm} {x : T5} (h : TB5 W n d t x) : TB5 W.drew n d t x := ⟨⟨h.lies.c0, h.lies.c1, h.lies.c2, h.lies.c3, h.lies.c4⟩, InTm.keep (w := W) (w' := W.drew) (fun _ _ _ => ⟨trivial, rfl⟩) h.inn⟩

/-- Where the walk stands: the step's variable, the tables, the terms in their variables; nothing old has turned. -/
structure St (w : World) (wb wo wc no : Nat) (S T U : ByteArray) (x y : Int) (L : List (Nat × Nat × Tm × T5)) (W : World) : Prop where
  o : OB W no S T U x y
  l : Laid wb wo wc W
  w : Below w.heap.size w W
  ts : ∀ p ∈ L, TB5 W p.1 p.2.1 p.2.2.1 p.2.2.2
section
variable {w : World} {wb wo wc no : Nat} {S T U : ByteArray} {x y : Int} {L : List (Nat × Nat × Tm × T5)} {W : World}
theorem St.later {W' : World} (h : St w wb wo wc no S T U x y L W) (hb : Below W.heap.size W W') : St w wb wo wc no S T U x y L W' := ⟨h.o.later hb, h.l.later hb, Below.go h.w hb, fun p hp => (h.ts p hp).later hb⟩
theorem St.alloc (h : St w wb wo wc no S T U x y L W) (o : Obj) : St w wb wo wc no S T U x y L (W.alloc o) := h.later ((Below.refl _ _).alloc (Nat.le_refl _) _)
theorem St.drew (h : St w wb wo wc no S T U x y L W) : St w wb wo wc no S T U x y L W.drew := h.later (Below.refl _ _).drew
theorem St.push {o : Obj} {n d : Nat} {t : Tm} {z : T5} (h : St w wb wo wc no S T U x y L W) (ht : TB5 (W.alloc o) n d t z) : St w wb wo wc no S T U x y ((n, d, t, z) :: L) (W.alloc o) :=
  ⟨h.o.alloc o, h.l.alloc o, Below.al h.w o, fun p hp => by
    rcases List.mem_cons.1 hp with rfl | hp
    · exact ht
    · exact (h.ts p hp).alloc o⟩
theorem St.tail {p : Nat × Nat × Tm × T5} (h : St w wb wo wc no S T U x y (p :: L) W) : St w wb wo wc no S T U x y L W := ⟨h.o, h.l, h.w, fun q hq => h.ts q (List.mem_cons_of_mem _ hq)⟩
theorem St.t0 {n d : Nat} {t : Tm} {z : T5} (h : St w wb wo wc no S T U x y ((n, d, t, z) :: L) W) : TB5 W n d t z := h.ts _ (List.mem_cons_self ..)
end

theorem limN_six (x : Int) : limN x ≤ 5 := by unfold limN; split <;> omega
theorem sameTB {W : World} {N m d e : Nat} {t : Tm} {S : Nat → Prop} {k n : Int} {nm : ByteArray} {A : Option Addr} {la lc : Nat} {A' : Option Addr} {ta tc : Nat} {k2 n2 : Int} {nm2 : ByteArray} {B : Option Addr} {lb cb : Nat} {B' : Option Addr} {tb ub : Nat} (hs : SmallT N t) (h : TB5 W m d t ⟨k, n, nm, A, la, lc, A', ta, tc⟩)
    (hin : InTm W S e t (.agg #[.int .i64 k2, .int .i64 n2, .string nm2, .slice B lb cb, .slice B' tb ub])) :
    Calls Tryz.prog 13 #[.agg #[.int .i64 k, .int .i64 n, .string nm, .slice A la lc, .slice A' ta tc], .agg #[.int .i64 k2, .int .i64 n2, .string nm2, .slice B lb cb, .slice B' tb ub]] W fun e w' => e = .returned (.bool true) ∧ Below W.heap.size W w' :=
  sameTerm_calls N t k n nm A la lc A' ta tc k2 n2 nm2 B lb cb B' tb ub d e (fun _ => True) S W hs h.inn hin

/-- A call that answers a list of so many, as a step of a region. -/
theorem step_list {ops : Array Oper} {o : Oper} {a : Act} {w : World} {K : Act → World → Prop} {Q : Exit → Act → World → Prop} {E : Prop} {args : Array Value} {f : FuncId} {R : Value → World → Prop}
    (hg : o.guard = none) (hrun : (execOp a.eval o).run Tryz.prog w = .ok (.enter f args) w) (hc : Calls Tryz.prog f args w fun e w' => ∃ v, e = .returned v ∧ R v w')
    (hK : ∀ (v : Value) (w' : World), R v w' → K (a.put o.dst v) w') :
    if Region.wanted o (yielded ops a.tmps) = true then Oper.wp Tryz.prog o a w K Q else E := by
  have hw : Region.wanted o (yielded ops a.tmps) = true := by simp [Region.wanted, hg]
  rw [if_pos hw]
  unfold Oper.wp
  rw [hrun]
  refine hc.mono ?_
  rintro e w' ⟨v, rfl, h2⟩
  exact hK v w' h2

theorem params_two {D : Nat} {a b : Tm} {va vb : Value} {W : World} (ha : WfT D a) (hb : WfT D b) (pa : partsT D a ≤ 20000) (pb : partsT D b ≤ 20000) (ia : InTm W (fun _ => True) D a va) (ib : InTm W (fun _ => True) D b vb) :
    Calls Tryz.prog 18 #[va, .slice none 0 0] W fun e w' => ∃ v, e = .returned v ∧ (Below W.heap.size W w' ∧ Calls Tryz.prog 18 #[vb, v] w' fun e w'' => ∃ v', e = .returned v' ∧ ((∃ A c, v' = .slice A (addT D b (addT D a [])).length c) ∧ Below W.heap.size W w'')) := by
  have hl1 := addT_len D a []
  simp only [List.length_nil] at hl1
  refine (rtparams_calls D a va (.slice none 0 0) [] W.heap.size W.heap.size W ha (Nat.le_refl _) (Nat.le_refl _) ia.inside (World.ownsRow_nil _ _ _ _) (by simp; omega)).mono ?_
  rintro e w' ⟨v, rfl, ho, hg⟩
  have hb1 : Below W.heap.size W w' := hg.below (Nat.le_refl _) (fun k hk => by simp [Value.ownBlock] at hk)
  refine ⟨v, rfl, hb1, ?_⟩
  have hl2 := addT_len D b (addT D a [])
  refine (rtparams_calls D b vb v (addT D a []) W.heap.size W.heap.size w' hb (Nat.le_refl _) hb1.size (ib.inside.below hb1) ho (by omega)).mono ?_
  rintro e w'' ⟨v', rfl, ho', hg'⟩
  obtain ⟨_, A, c, e, _⟩ := InStrs.of_owns ho' (by unfold maxLen; omega)
  exact ⟨v', rfl, ⟨A, c, e⟩, hb1.trans (hg'.below hb1.size fun k hk => (ho.lt k hk).1)⟩

/-- A level lies in a variable. -/
structure LB (W : World) (n : Nat) (l : LvB) (k : Int) (nm : ByteArray) (A : Option Addr) (m c : Nat) : Prop where
  c0 : W.cell? ⟨n, 0, none⟩ = some (.int .i64 k)
  c1 : W.cell? ⟨n, 1, none⟩ = some (.string nm)
  c2 : W.cell? ⟨n, 2, none⟩ = some (.slice A m c)
  inn : InLv W W.heap.size l (.agg #[.int .i64 k, .string nm, .slice A m c])
theorem LB.lt {W : World} {n : Nat} {l : LvB} {k : Int} {nm : ByteArray} {A : Option Addr} {m c : Nat} (h : LB W n l k nm A m c) : n < W.heap.size := World.block_lt_of_cell? _ _ h.c0
theorem LB.later {W W' : World} {n : Nat} {l : LvB} {k : Int} {nm : ByteArray} {A : Option Addr} {m c : Nat} (h : LB W n l k nm A m c) (hb : Below W.heap.size W W') : LB W' n l k nm A m c := ⟨cell_later hb h.c0, cell_later hb h.c1, cell_later hb h.c2, (h.inn.below hb).mono hb.size⟩
theorem LB.alloc {W : World} {n : Nat} {l : LvB} {k : Int} {nm : ByteArray} {A : Option Addr} {m c : Nat} (h : LB W n l k nm A m c) (o : Obj) : LB (W.alloc o) n l k nm A m c := h.later ((Below.refl _ _).alloc (Nat.le_refl _) _)
theorem LB.new {W : World} {l : LvB} {k : Int} {nm : ByteArray} {A : Option Addr} {m c : Nat} (h : InLv W W.heap.size l (.agg #[.int .i64 k, .string nm, .slice A m c])) : LB (W.alloc (.cells #[.int .i64 k, .string nm, .slice A m c] 44)) W.heap.size l k nm A m c := by
  refine ⟨?_, ?_, ?_, (h.below ((Below.refl _ _).alloc (Nat.le_refl _) _)).mono (by simp)⟩ <;> simp [World.cell?_alloc_at]
theorem LB.drew {W : World} {n : Nat} {l : LvB} {k : Int} {nm : ByteArray} {A : Option Addr} {m c : Nat} (h : LB W n l k nm A m c) : LB W.drew n l k nm A m c := ⟨h.c0, h.c1, h.c2, h.inn.below (Below.refl _ _).drew⟩
theorem cn (W : World) (cs : Array Value) (T : TypeId) (i n : Nat) (v : Value) (hn : n = W.heap.size) (hv : cs[i]? = some v) : (W.alloc (.cells cs T)).cell? ⟨n, i, none⟩ = some v := by
  subst hn
  have h := heap_alloc_new W (.cells cs T)
  unfold World.cell?
  rw [h]
  exact hv
theorem cp (W : World) (o : Obj) (cs : Array Value) (T : TypeId) (i n : Nat) (v : Value) (_ : True) (hn : n = W.heap.size) (hv : cs[i]? = some v) : ((W.alloc (.cells cs T)).alloc o).cell? ⟨n, i, none⟩ = some v := by
  rw [World.cell?_alloc_past _ _ _ (by subst hn; simp)]
  exact cn W cs T i n v hn hv
/-- Lists of one. -/
theorem one_strs {W : World} {n : Nat} (h : W.cell? ⟨n, 0, none⟩ = some (.string ⟨#[117]⟩)) : InStrs W W.heap.size (.slice (some ⟨n, 0, none⟩) 1 1) [⟨#[117]⟩] := by
  refine ⟨by simp [maxLen], _, _, rfl, fun i hi => ⟨n, 0, rfl, World.block_lt_of_cell? _ _ h, ?_⟩⟩
  match i, hi with
  | 0, _ => simpa using h
  | i + 1, hi => exact absurd hi (by simp)
theorem one_lvs {W : World} {n : Nat} {l : LvB} {k : Int} {nm : ByteArray} {A : Option Addr} {m c : Nat} (h : LB W n l k nm A m c) : InLvs W W.heap.size (.slice (some ⟨n, 0, none⟩) 1 1) [l] := by
  refine ⟨by simp [maxLen], _, _, rfl, fun i hi => ?_⟩
  match i, hi with
  | 0, _ => exact ⟨n, _, rfl, h.lt, ⟨k, nm, A, m, c, rfl, by simpa using h.c0, by simpa using h.c1, by simpa using h.c2⟩, h.inn⟩
  | i + 1, hi => exact absurd hi (by simp)

theorem LstT.later {W W' : World} {d : Nat} {ts : List Tm} {v : Value} (h : LstT W (fun _ => True) d ts v) (hb : Below W.heap.size W W') : LstT W' (fun _ => True) d ts v := h.keep fun b hb' _ => ⟨trivial, hb.block b hb'⟩
theorem LstT.inside {W : World} {d : Nat} {ts : List Tm} {v : Value} (h : LstT W (fun _ => True) d ts v) : LstT W (fun b => b < W.heap.size) d ts v := h.keep fun _ hb _ => ⟨hb, rfl⟩
/-- Two lists that the walk holds besides. -/
structure Two (D : Nat) (R : List Tm) (u v : Value) (W : World) : Prop where
  u : LstT W (fun _ => True) (D + 1) R u
  v : LstT W (fun _ => True) D R v
theorem Two.later {D : Nat} {R : List Tm} {u v : Value} {W W' : World} (h : Two D R u v W) (hb : Below W.heap.size W W') : Two D R u v W' := ⟨h.u.later hb, h.v.later hb⟩
theorem Two.alloc {D : Nat} {R : List Tm} {u v : Value} {W : World} (h : Two D R u v W) (o : Obj) : Two D R u v (W.alloc o) := h.later ((Below.refl _ _).alloc (Nat.le_refl _) _)

theorem lst_at {W : World} {S : Nat → Prop} {d n c : Nat} {A : Option Addr} {ts : List Tm} (h : LstT W S d ts (.slice A n c)) {i : Nat} (hi : i < ts.length) : ∃ b x, A = some ⟨b, 0, none⟩ ∧ S b ∧ Five W b (i * 5) x ∧ InTm W S d ts[i] x := by
  obtain ⟨A', c', e, hp⟩ := h
  injection e with e1 _ _
  subst e1
  exact hp i hi
theorem same_in {W : World} {N d e : Nat} {t : Tm} {k n : Int} {nm : ByteArray} {A : Option Addr} {la lc : Nat} {A' : Option Addr} {ta tc : Nat} {k2 n2 : Int} {nm2 : ByteArray} {B : Option Addr} {lb cb : Nat} {B' : Option Addr} {tb ub : Nat} (hs : SmallT N t)
    (h : InTm W (fun _ => True) d t (.agg #[.int .i64 k, .int .i64 n, .string nm, .slice A la lc, .slice A' ta tc])) (hin : InTm W (fun _ => True) e t (.agg #[.int .i64 k2, .int .i64 n2, .string nm2, .slice B lb cb, .slice B' tb ub])) :
    Calls Tryz.prog 13 #[.agg #[.int .i64 k, .int .i64 n, .string nm, .slice A la lc, .slice A' ta tc], .agg #[.int .i64 k2, .int .i64 n2, .string nm2, .slice B lb cb, .slice B' tb ub]] W.drew fun e w' => e = .returned (.bool true) ∧ Below W.drew.heap.size W.drew w' :=
  sameTerm_calls N t k n nm A la lc A' ta tc k2 n2 nm2 B lb cb B' tb ub d e (fun _ => True) (fun _ => True) W.drew hs (InTm.keep (w := W) (w' := W.drew) (fun _ _ _ => ⟨trivial, rfl⟩) h) (InTm.keep (w := W) (w' := W.drew) (fun _ _ _ => ⟨trivial, rfl⟩) hin)

theorem TB5.cells {W : World} {m d : Nat} {t : Tm} {k n : Int} {nm : ByteArray} {A : Option Addr} {la lc : Nat} {A' : Option Addr} {ta tc : Nat} (h : TB5 W m d t ⟨k, n, nm, A, la, lc, A', ta, tc⟩) :
    W.cell? ⟨m, 0, none⟩ = some (.int .i64 k) ∧ W.cell? ⟨m, 1, none⟩ = some (.int .i64 n) ∧ W.cell? ⟨m, 2, none⟩ = some (.string nm) ∧ W.cell? ⟨m, 3, none⟩ = some (.slice A la lc) ∧ W.cell? ⟨m, 4, none⟩ = some (.slice A' ta tc) :=
  ⟨h.lies.c0, by simpa using h.lies.c1, by simpa using h.lies.c2, by simpa using h.lies.c3, by simpa using h.lies.c4⟩

set_option maxRecDepth 100000 in
set_option maxHeartbeats 16000000 in
theorem moved_calls (wb wo wc : Nat) (k : Int) (S T U : ByteArray) (x y : Int) (w : World) (hS : S.size ≤ maxLen) (hT : T.size ≤ maxLen) (hU : U.size ≤ maxLen) (x0 : -9223372036854775808 ≤ x) (x1 : x ≤ 9223372036854775807) (y0 : -9223372036854775808 ≤ y) (y1 : y ≤ 9223372036854775807) (hlaid : Laid wb wo wc w) :
    Calls Tryz.prog 4 #[.agg #[.int .i64 k, .string S, .string T, .string U, .int .i64 x, .int .i64 y]] w fun e w' => e = .returned (.bool true) ∧ Below w.heap.size w w' := by
  have hL0 := hlaid.alloc (.cells #[.int .i64 k, .string S, .string T, .string U, .int .i64 x, .int .i64 y] 25)
  have HO0 := hide (OB.new w k S T U x y)
  have K1 := hide (tparse_calls S wb wo wc _ hS hL0.words)
  have HL0 := hide hL0
  have HW0 : Hid (Below w.heap.size w (w.alloc (.cells #[.int .i64 k, .string S, .string T, .string U, .int .i64 x, .int .i64 y] 25))) := (Below.refl _ _).alloc (Nat.le_refl _) _
  clear hlaid hL0
  go_enter Tryz.func4, Tryz.ntmps4
  go_wp2_with (go_at_call 5; refine K1.out.mono ?_)
  intro e w1 h9
  obtain ⟨ka, na, nma, Aa, laa, lca, Ab, taa, tca, fc, fa, rfl, hb1, hgood1, hbad1⟩ := h9
  have HO1 := hide (HO0.out.later hb1)
  have HL1 := hide (HL0.out.later hb1)
  have HW1 := hide (HW0.out.trans (hb1.mono HW0.out.size))
  have HG1 := hide hgood1
  have o2 := HO1.out.c2
  have ol := HO1.out.lt
  clear hb1 hgood1 hbad1 K1 HO0 HL0 HW0
  have K2 := hide (fun W hW => tparse_calls T wb wo wc W hT hW)
  go_wp2_with (go_at_call 5; refine (K2.out _ ?_).mono ?_)
  · exact ((HL1.out.alloc _).alloc _).words
  intro e w2 h9
  obtain ⟨kb, nb, nmb, Ba, lab, lcb, Bb, tab, tcb, gc, ga, rfl, hb2, hgood2, hbad2⟩ := h9
  have hW1s : ((w1.alloc (.cells #[.int .i64 ka, .int .i64 na, .string nma, .slice Aa laa lca, .slice Ab taa tca] 30)).alloc (.cells #[.int .i64 (fc : Nat), .int .i64 (fa : Nat)] 32)).heap.size = w1.heap.size + 2 := by simp
  have HO2 := hide (((HO1.out.alloc _).alloc _).later hb2)
  have HL2 := hide (((HL1.out.alloc _).alloc _).later hb2)
  have HW2 := hide (HW1.out.trans (((((Below.refl w1.heap.size w1).alloc (Nat.le_refl _) _).alloc (by simp) _).trans (hb2.mono (by rw [hW1s]; omega))).mono HW1.out.size))
  have fcell : w2.cell? ⟨w1.heap.size + 1, 0, none⟩ = some (.int .i64 (fc : Nat)) := by
    rw [hb2.cell (by show w1.heap.size + 1 < _; rw [hW1s]; omega)]
    simp [World.cell?_alloc_at]
  have fl : w1.heap.size + 1 < w2.heap.size := World.block_lt_of_cell? _ _ fcell
  have fl2 : w1.heap.size < w2.heap.size := by omega
  have HB2 : Hid (∀ d t, InTm w1 (fun _ => True) d t (.agg #[.int .i64 ka, .int .i64 na, .string nma, .slice Aa laa lca, .slice Ab taa tca]) → TB5 w2 w1.heap.size d t ⟨ka, na, nma, Aa, laa, lca, Ab, taa, tca⟩) := fun d t h => ((TB5.new h).alloc _).later hb2
  have HG2 := hide hgood2
  clear hb2 hgood2 hbad2 K2 HO1 HL1 HW1 o2 hW1s
  by_cases hfc : ¬ fc = 0
  · have q : ((fc : Int) != 0) = true := by simp; omega
    go_wp2_with fail
    go_ret
    exact ⟨rfl, (HW2.out.alloc (by have := HW2.out.size; omega) _).alloc (by have := HW2.out.size; simp; omega) _⟩
  rw [Classical.not_not] at hfc
  have q : ((fc : Int) != 0) = false := by simp [hfc]
  by_cases hgc : ¬ gc = 0
  · have q2 : ((gc : Int) != 0) = true := by simp; omega
    go_wp2_with fail
    go_ret
    exact ⟨rfl, (HW2.out.alloc (by have := HW2.out.size; omega) _).alloc (by have := HW2.out.size; simp; omega) _⟩
  rw [Classical.not_not] at hgc
  have q2 : ((gc : Int) != 0) = false := by simp [hgc]
  obtain ⟨D, hD⟩ : ∃ D, D = 20000 := ⟨_, rfl⟩
  obtain ⟨hsS, da, a, hina, hra⟩ := HG1.out hfc
  obtain ⟨hsT, db, b, hinb, hrb⟩ := HG2.out hgc
  obtain ⟨hwa, hpa, hina'⟩ := read_some hsS hra hina hD
  obtain ⟨hwb, hpb, hinb'⟩ := read_some hsT hrb hinb hD
  have hD' : D ≤ 20000 := by omega
  have HA2 := hide (HB2.out D a hina')
  have HNb := hide (TB5.new hinb')
  have hno : nodesT D a ≤ 1000000 := Nat.le_trans (nodesT_le D a) (by omega)
  have HWa := hide hwa
  have HWb := hide hwb
  clear hina hinb hina' hinb' hra hrb hwa hwb HG1 HG2 HB2 hD
  have IA : ∀ W n, TB5 W n D a ⟨ka, na, nma, Aa, laa, lca, Ab, taa, tca⟩ → InTm W (fun _ => True) D a (.agg #[.int .i64 ka, .int .i64 na, .string nma, .slice Aa laa lca, .slice Ab taa tca]) := fun W n h => h.inn
  have IB : ∀ W n, TB5 W n D b ⟨kb, nb, nmb, Ba, lab, lcb, Bb, tab, tcb⟩ → InTm W (fun _ => True) D b (.agg #[.int .i64 kb, .int .i64 nb, .string nmb, .slice Ba lab lcb, .slice Bb tab tcb]) := fun W n h => h.inn
  have HIA := hide IA
  have HIB := hide IB
  clear IA IB
  have K3 : Hid (∀ W na' nb', TB5 W na' D a ⟨ka, na, nma, Aa, laa, lca, Ab, taa, tca⟩ → TB5 W nb' D b ⟨kb, nb, nmb, Ba, lab, lcb, Bb, tab, tcb⟩ → Calls Tryz.prog 6 #[.agg #[.int .i64 ka, .int .i64 na, .string nma, .slice Aa laa lca, .slice Ab taa tca], .agg #[.int .i64 kb, .int .i64 nb, .string nmb, .slice Ba lab lcb, .slice Bb tab tcb]] W fun en w' => ∃ r : Bool, en = .returned (.bool r) ∧ Below W.heap.size W w') := fun W na' nb' i1 i2 => much_calls D D a b _ _ W (by omega) HWa.out HWb.out hno (HIA.out W na' i1) (HIB.out W nb' i2)
  obtain ⟨a0, a1, a2, a3, a4⟩ := HA2.out.cells
  have al := HA2.out.lt
  go_wp2_with (go_at_call 6; refine (K3.out _ w1.heap.size w2.heap.size ?_ ?_).mono ?_)
  · exact (HA2.out.alloc _).alloc _
  · exact HNb.out.alloc _
  intro e w3 h9
  obtain ⟨r, rfl, hb3⟩ := h9
  have HA3 := hide (((HA2.out.alloc _).alloc _).later hb3)
  have HB3 := hide ((HNb.out.alloc _).later hb3)
  have HO3 := hide (((HO2.out.alloc _).alloc _).later hb3)
  have HL3 := hide (((HL2.out.alloc _).alloc _).later hb3)
  have HW3 := hide (((HW2.out.alloc HW2.out.size _).alloc (by have := HW2.out.size; simp; omega) _).trans (hb3.mono (by have := HW2.out.size; simp; omega)))
  clear hb3 K3 HA2 HNb HO2 HL2 HW2 a0 a1 a2 a3 a4 al fcell fl fl2
  cases r with
  | true =>
    go_wp2_with fail
    go_ret
    exact ⟨rfl, HW3.out⟩
  | false =>
  as_aux_lemma =>
  have o4 := HO3.out.c4
  have o5 := HO3.out.c5
  have o3 := HO3.out.c3
  have ol := HO3.out.lt
  have KL1 := hide (fun W => limit_calls x W x0 x1)
  have KL2 := hide (fun W => limit_calls y W y0 y1)
  have hm := limN_six x
  have hfr := limN_six y
  go_wp2_with (go_at_call 7; refine (KL1.out _).mono ?_)
  intro e w9 h9
  obtain ⟨rfl, rfl⟩ := h9
  go_wp2_with (go_at_call 7; refine (KL2.out _).mono ?_)
  intro e w9 h9
  obtain ⟨rfl, rfl⟩ := h9
  have KLift : Hid (∀ W m, TB5 W m D a ⟨ka, na, nma, Aa, laa, lca, Ab, taa, tca⟩ → Calls Tryz.prog 8 #[.agg #[.int .i64 ka, .int .i64 na, .string nma, .slice Aa laa lca, .slice Ab taa tca], .int .i64 (limN x : Nat), .int .i64 (limN y : Nat)] W fun en w' => MadeT W.heap.size W (D + 1) (chT (liftF (limN x) (limN y)) id D 0 a) en w') := fun W m h => lift_calls (limN x) (limN y) W.heap.size D a _ W (by omega) (by omega) (Nat.le_refl _) HWa.out (HIA.out W m h).inside
  have KSub : Hid (∀ W m m', TB5 W m D a ⟨ka, na, nma, Aa, laa, lca, Ab, taa, tca⟩ → TB5 W m' D b ⟨kb, nb, nmb, Ba, lab, lcb, Bb, tab, tcb⟩ → Calls Tryz.prog 9 #[.agg #[.int .i64 ka, .int .i64 na, .string nma, .slice Aa laa lca, .slice Ab taa tca], .agg #[.int .i64 kb, .int .i64 nb, .string nmb, .slice Ba lab lcb, .slice Bb tab tcb]] W fun en w' => MadeT W.heap.size W (D + (D + 1)) (chT (substF b D) id D 0 a) en w') := fun W m m' h h' => substT_calls b D W.heap.size D a _ _ W HWb.out (by omega) (by omega) (Nat.le_refl _) HWa.out (HIA.out W m h).inside (HIB.out W m' h').inside
  have KCl : Hid (∀ W m, TB5 W m D a ⟨ka, na, nma, Aa, laa, lca, Ab, taa, tca⟩ → Calls Tryz.prog 10 #[.agg #[.int .i64 ka, .int .i64 na, .string nma, .slice Aa laa lca, .slice Ab taa tca], .int .i64 (limN x : Nat)] W fun en w' => en = .returned (.bool (closedT D (limN x) a)) ∧ Below W.heap.size W w') := fun W m h => closed_calls (limN x) (by omega) D a _ _ W HWa.out (by omega) (HIA.out W m h)
  have KHas : Hid (∀ W m, TB5 W m D a ⟨ka, na, nma, Aa, laa, lca, Ab, taa, tca⟩ → Calls Tryz.prog 11 #[.agg #[.int .i64 ka, .int .i64 na, .string nma, .slice Aa laa lca, .slice Ab taa tca], .string U] W fun en w' => en = .returned (.bool (hasT U D a)) ∧ Below W.heap.size W w') := fun W m h => has_calls U D a _ _ W HWa.out (HIA.out W m h)
  have KEq : Hid (∀ W m m', TB5 W m D a ⟨ka, na, nma, Aa, laa, lca, Ab, taa, tca⟩ → TB5 W m' D b ⟨kb, nb, nmb, Ba, lab, lcb, Bb, tab, tcb⟩ → Calls Tryz.prog 12 #[.agg #[.int .i64 ka, .int .i64 na, .string nma, .slice Aa laa lca, .slice Ab taa tca], .agg #[.int .i64 kb, .int .i64 nb, .string nmb, .slice Ba lab lcb, .slice Bb tab tcb]] W fun en w' => en = .returned (.bool (eqT D a b)) ∧ Below W.heap.size W w') := fun W m m' h h' => equalT_calls D a b _ _ W HWa.out HWb.out (HIA.out W m h) (HIB.out W m' h')
  generalize hlx : limN x = lx at *
  generalize hly : limN y = ly at *
  clear hlx hly KL1 KL2 o4 o5
  have HS3 : Hid (St w wb wo wc w.heap.size S T U x y [(w2.heap.size, D, b, (⟨kb, nb, nmb, Ba, lab, lcb, Bb, tab, tcb⟩ : T5)), (w1.heap.size, D, a, (⟨ka, na, nma, Aa, laa, lca, Ab, taa, tca⟩ : T5))] w9) := ⟨HO3.out, HL3.out, HW3.out, fun p hp => by
    rcases List.mem_cons.1 hp with rfl | hp
    · exact HB3.out
    · rcases List.mem_cons.1 hp with rfl | hp
      · exact HA3.out
      · exact absurd hp (by simp)⟩
  clear HO3 HL3 HW3 HA3 HB3 o3 ol
  obtain ⟨a0, a1, a2, a3, a4⟩ := (HS3.out.tail.t0).cells
  have al := (HS3.out.tail.t0).lt
  go_wp2_with (go_at_call 8; refine (KLift.out _ w1.heap.size ?_).mono ?_)
  · exact HS3.out.tail.t0
  intro e w4 h9
  obtain ⟨kX, nX, nmX, AX, lX, cX, AX', lX', cX', rfl, hinX, hb4⟩ := h9
  have HS4 := hide (HS3.out.later hb4)
  have HP4 := hide (HS4.out.push (TB5.new hinX))
  clear hinX hb4 KLift HS3 a0 a1 a2 a3 a4 al
  obtain ⟨a0, a1, a2, a3, a4⟩ := (HS4.out.tail.t0).cells
  have al := (HS4.out.tail.t0).lt
  obtain ⟨b0, b1, b2, b3, b4⟩ := (HS4.out.t0).cells
  have bl := (HS4.out.t0).lt
  go_wp2_with (go_at_call 9; refine (KSub.out _ w1.heap.size w2.heap.size ?_ ?_).mono ?_)
  · exact HP4.out.tail.tail.t0
  · exact HP4.out.tail.t0
  intro e w5 h9
  obtain ⟨kY, nY, nmY, AY, lY, cY, AY', lY', cY', rfl, hinY, hb5⟩ := h9
  have HS5 := hide (HP4.out.later hb5)
  have HP5 := hide (HS5.out.push (TB5.new hinY))
  clear hinY hb5 KSub HP4 HS4 a0 a1 a2 a3 a4 al b0 b1 b2 b3 b4 bl
  obtain ⟨a0, a1, a2, a3, a4⟩ := (HS5.out.tail.tail.t0).cells
  have al := (HS5.out.tail.tail.t0).lt
  go_wp2_with (go_at_call 10; refine (KCl.out _ w1.heap.size ?_).mono ?_)
  · exact HP5.out.tail.tail.tail.t0
  intro e w6 h9
  first | (subst h9; intro hb6) | (obtain ⟨rfl, hb6⟩ := h9)
  have HS6 := hide (HP5.out.later hb6)
  clear hb6 KCl HP5 HS5 a0 a1 a2 a3 a4 al
  obtain ⟨a0, a1, a2, a3, a4⟩ := (HS6.out.tail.tail.tail.t0).cells
  have al := (HS6.out.tail.tail.tail.t0).lt
  have o3 := HS6.out.o.c3
  have ol := HS6.out.o.lt
  go_wp2_with (go_at_call 11; refine (KHas.out _ w1.heap.size ?_).mono ?_)
  · exact HS6.out.tail.tail.tail.t0
  intro e w7 h9
  first | (subst h9; intro hb7) | (obtain ⟨rfl, hb7⟩ := h9)
  have HS7 := hide (HS6.out.later hb7)
  clear hb7 KHas HS6 a0 a1 a2 a3 a4 al o3 ol
  obtain ⟨a0, a1, a2, a3, a4⟩ := (HS7.out.tail.tail.tail.t0).cells
  have al := (HS7.out.tail.tail.tail.t0).lt
  obtain ⟨b0, b1, b2, b3, b4⟩ := (HS7.out.tail.tail.t0).cells
  have bl := (HS7.out.tail.tail.t0).lt
  go_wp2_with (go_at_call 12; refine (KEq.out _ w1.heap.size w2.heap.size ?_ ?_).mono ?_)
  · exact HS7.out.tail.tail.tail.t0
  · exact HS7.out.tail.tail.t0
  intro e w8 h9
  first | (subst h9; intro hb8) | (obtain ⟨rfl, hb8⟩ := h9)
  have HS8 := hide (HS7.out.later hb8)
  clear hb8 KEq HS7 a0 a1 a2 a3 a4 al b0 b1 b2 b3 b4 bl
  have KRL : Hid (∀ W m, TB5 W m D a ⟨ka, na, nma, Aa, laa, lca, Ab, taa, tca⟩ → Calls Tryz.prog 14 #[.agg #[.int .i64 ka, .int .i64 na, .string nma, .slice Aa laa lca, .slice Ab taa tca], .int .i64 (lx : Nat), .int .i64 (ly : Nat)] W fun en w' => MadeT W.heap.size W D (chT (liftF lx ly) id D 0 a) en w') := fun W m h => rlift_calls lx ly W.heap.size (by omega) (by omega) D a _ 0 ly W (by omega) HWa.out (by omega) (Nat.le_refl _) (HIA.out W m h).inside
  go_upto_region 15 with fail
  go_cut [15] (fun v wx => v = .bool true ∧ Hid (St w wb wo wc w.heap.size S T U x y [(w5.heap.size, D + (D + 1), (chT (substF b D) id D 0 a), (⟨kY, nY, nmY, AY, lY, cY, AY', lY', cY'⟩ : T5)), (w4.heap.size, D + 1, (chT (liftF lx ly) id D 0 a), (⟨kX, nX, nmX, AX, lX, cX, AX', lX', cX'⟩ : T5)), (w2.heap.size, D, b, (⟨kb, nb, nmb, Ba, lab, lcb, Bb, tab, tcb⟩ : T5)), (w1.heap.size, D, a, (⟨ka, na, nma, Aa, laa, lca, Ab, taa, tca⟩ : T5))] wx))
  case first =>
    as_aux_lemma =>
    obtain ⟨x0, x1, x2, x3, x4⟩ := (HS8.out.tail.t0).cells
    have xl := (HS8.out.tail.t0).lt
    obtain ⟨a0, a1, a2, a3, a4⟩ := (HS8.out.tail.tail.tail.t0).cells
    have al := (HS8.out.tail.tail.tail.t0).lt
    have HD := hide HS8.out.drew
    have KC := hide (KRL.out _ _ (HD.out.tail.tail.tail.t0))
    go_region_law (first
      | (refine step_madeT (f := 14) (B := w8.drew.heap.size) (d := D) (t := (chT (liftF lx ly) id D 0 a)) rfl ?_ KC.out ?_
         · simp [go_sem]
         intro kz nz nmz Az lz cz Az' lz' cz' wz hinz hbz
         have HQ := hide (HS8.out.later (below_undrew hbz))
         obtain ⟨p0, p1, p2, p3, p4⟩ := (HQ.out.tail.t0).cells
         have pl := (HQ.out.tail.t0).lt
         have KS := hide (sameTB (lift_small (by omega) hD' HWa.out) (HQ.out.tail.t0) hinz)
         clear hbz hinz KC)
      | (refine step_value (f := 13) (v := .bool true) rfl ?_ KS.out ?_
         · simp [go_sem]
         intro wy hby
         have HR := hide (HQ.out.later hby)
         clear hby KS))
    all_goals
      go_wp2_with fail
      go_meet
      case rel => exact ⟨rfl, HR.out⟩
  case rest =>
  as_aux_lemma =>
  obtain ⟨rfl, HS10⟩ := hcut
  rename World => w10
  clear KRL HS8
  have KRS : Hid (∀ W m m', TB5 W m D a ⟨ka, na, nma, Aa, laa, lca, Ab, taa, tca⟩ → TB5 W m' D b ⟨kb, nb, nmb, Ba, lab, lcb, Bb, tab, tcb⟩ → Calls Tryz.prog 15 #[.agg #[.int .i64 ka, .int .i64 na, .string nma, .slice Aa laa lca, .slice Ab taa tca], .agg #[.int .i64 kb, .int .i64 nb, .string nmb, .slice Ba lab lcb, .slice Bb tab tcb]] W fun en w' => MadeT W.heap.size W (D + D) (chT (substF b D) id D 0 a) en w') := fun W m m' h h' => rsubstT_calls b D W.heap.size _ _ HWb.out (by omega) D a W HWa.out (by omega) (Nat.le_refl _) (HIA.out W m h).inside (HIB.out W m' h').inside
  go_upto_region 16 with fail
  go_cut [16] (fun v wx => v = .bool true ∧ Hid (St w wb wo wc w.heap.size S T U x y [(w5.heap.size, D + (D + 1), (chT (substF b D) id D 0 a), (⟨kY, nY, nmY, AY, lY, cY, AY', lY', cY'⟩ : T5)), (w4.heap.size, D + 1, (chT (liftF lx ly) id D 0 a), (⟨kX, nX, nmX, AX, lX, cX, AX', lX', cX'⟩ : T5)), (w2.heap.size, D, b, (⟨kb, nb, nmb, Ba, lab, lcb, Bb, tab, tcb⟩ : T5)), (w1.heap.size, D, a, (⟨ka, na, nma, Aa, laa, lca, Ab, taa, tca⟩ : T5))] wx))
  case first =>
    as_aux_lemma =>
    obtain ⟨y0, y1, y2, y3, y4⟩ := (HS10.out.t0).cells
    have yl := (HS10.out.t0).lt
    obtain ⟨a0, a1, a2, a3, a4⟩ := (HS10.out.tail.tail.tail.t0).cells
    have al := (HS10.out.tail.tail.tail.t0).lt
    obtain ⟨b0, b1, b2, b3, b4⟩ := (HS10.out.tail.tail.t0).cells
    have bl := (HS10.out.tail.tail.t0).lt
    have HD := hide HS10.out.drew
    have KC := hide (KRS.out _ _  _ (HD.out.tail.tail.tail.t0) (HD.out.tail.tail.t0))
    go_region_law (first
      | (refine step_madeT (f := 15) (B := w10.drew.heap.size) (d := D + D) (t := (chT (substF b D) id D 0 a)) rfl ?_ KC.out ?_
         · simp [go_sem]
         intro kz nz nmz Az lz cz Az' lz' cz' wz hinz hbz
         have HQ := hide (HS10.out.later (below_undrew hbz))
         obtain ⟨p0, p1, p2, p3, p4⟩ := (HQ.out.t0).cells
         have pl := (HQ.out.t0).lt
         have KS := hide (sameTB (subst_small hD' HWa.out HWb.out) (HQ.out.t0) hinz)
         clear hbz hinz KC)
      | (refine step_value (f := 13) (v := .bool true) rfl ?_ KS.out ?_
         · simp [go_sem]
         intro wy hby
         have HR := hide (HQ.out.later hby)
         clear hby KS))
    all_goals
      go_wp2_with fail
      go_meet
      case rel => exact ⟨rfl, HR.out⟩
  case rest =>
  as_aux_lemma =>
  obtain ⟨rfl, HS12⟩ := hcut
  rename World => w12
  clear KRS HS10
  have KRC : Hid (∀ W m, TB5 W m D a ⟨ka, na, nma, Aa, laa, lca, Ab, taa, tca⟩ → Calls Tryz.prog 16 #[.agg #[.int .i64 ka, .int .i64 na, .string nma, .slice Aa laa lca, .slice Ab taa tca], .int .i64 (lx : Nat)] W fun en w' => en = .returned (.bool (closedT D lx a)) ∧ Below W.heap.size W w') := fun W m h => rclosed_calls D a _ lx _ W HWa.out (by omega) (HIA.out W m h)
  have KRH : Hid (∀ W m, TB5 W m D a ⟨ka, na, nma, Aa, laa, lca, Ab, taa, tca⟩ → Calls Tryz.prog 17 #[.agg #[.int .i64 ka, .int .i64 na, .string nma, .slice Aa laa lca, .slice Ab taa tca], .string U] W fun en w' => en = .returned (.bool (hasT U D a)) ∧ Below W.heap.size W w') := fun W m h => rhas_calls U D a _ _ W HWa.out (HIA.out W m h)
  generalize closedT D lx a = rc at *
  generalize hasT U D a = rh at *
  obtain ⟨a0, a1, a2, a3, a4⟩ := (HS12.out.tail.tail.tail.t0).cells
  have al := (HS12.out.tail.tail.tail.t0).lt
  go_wp2_with (go_at_call 16; refine (KRC.out _ w1.heap.size ?_).mono ?_)
  · exact HS12.out.tail.tail.tail.t0
  intro e w13 h9
  first | (subst h9; intro hb13) | (obtain ⟨rfl, hb13⟩ := h9)
  have HS13 := hide (HS12.out.later hb13)
  clear hb13 KRC HS12 a0 a1 a2 a3 a4 al
  obtain ⟨a0, a1, a2, a3, a4⟩ := (HS13.out.tail.tail.tail.t0).cells
  have al := (HS13.out.tail.tail.tail.t0).lt
  have o3 := HS13.out.o.c3
  have ol := HS13.out.o.lt
  go_wp2_with (go_at_call 17; refine (KRH.out _ w1.heap.size ?_).mono ?_)
  · exact HS13.out.tail.tail.tail.t0
  intro e w14 h9
  first | (subst h9; intro hb14) | (obtain ⟨rfl, hb14⟩ := h9)
  have HS14 := hide (HS13.out.later hb14)
  clear hb14 KRH HS13 a0 a1 a2 a3 a4 al o3 ol
  have HPs : Hid (∀ W m m', TB5 W m D a ⟨ka, na, nma, Aa, laa, lca, Ab, taa, tca⟩ → TB5 W m' D b ⟨kb, nb, nmb, Ba, lab, lcb, Bb, tab, tcb⟩ → Calls Tryz.prog 18 #[.agg #[.int .i64 ka, .int .i64 na, .string nma, .slice Aa laa lca, .slice Ab taa tca], .slice none 0 0] W fun e w' => ∃ v, e = .returned v ∧ (Below W.heap.size W w' ∧ Calls Tryz.prog 18 #[.agg #[.int .i64 kb, .int .i64 nb, .string nmb, .slice Ba lab lcb, .slice Bb tab tcb], v] w' fun e w'' => ∃ v', e = .returned v' ∧ ((∃ A c, v' = .slice A (addT D b (addT D a [])).length c) ∧ Below W.heap.size W w''))) := fun W m m' h h' => params_two HWa.out HWb.out hpa hpb (HIA.out W m h) (HIB.out W m' h')
  have hPl : (addT D b (addT D a [])).length ≤ 1000000 := by
    have h1 := addT_len D a []
    have h2 := addT_len D b (addT D a [])
    simp only [List.length_nil] at h1
    omega
  have HPar : Hid (ParT (addT D b (addT D a [])) D a ∧ ParT (addT D b (addT D a [])) D b) := ⟨(addT_par D a []).mono fun p hp => addT_sub D b _ p hp, addT_par D b _⟩
  have KQE : Hid ((addT D b (addT D a [])).length ≤ 6 → ∀ W m m', TB5 W m D a ⟨ka, na, nma, Aa, laa, lca, Ab, taa, tca⟩ → TB5 W m' D b ⟨kb, nb, nmb, Ba, lab, lcb, Bb, tab, tcb⟩ → Calls Tryz.prog 19 #[.agg #[.int .i64 ka, .int .i64 na, .string nma, .slice Aa laa lca, .slice Ab taa tca], .agg #[.int .i64 kb, .int .i64 nb, .string nmb, .slice Ba lab lcb, .slice Bb tab tcb]] W fun en w' => en = .returned (.bool (eqT D a b)) ∧ Below W.heap.size W w') := fun h6 W m m' h h' => requalT_calls _ h6 D a b _ _ W HWa.out HWb.out HPar.out.1 HPar.out.2 (HIA.out W m h) (HIB.out W m' h')
  generalize hNe : (addT D b (addT D a [])).length = N at *
  clear HPar hNe
  go_upto_region 18 with fail
  go_cut [106] (fun v wx => ∃ q : Bool, v = .bool q ∧ Hid ((q = true → N ≤ 6) ∧ St w wb wo wc w.heap.size S T U x y [(w5.heap.size, D + (D + 1), (chT (substF b D) id D 0 a), (⟨kY, nY, nmY, AY, lY, cY, AY', lY', cY'⟩ : T5)), (w4.heap.size, D + 1, (chT (liftF lx ly) id D 0 a), (⟨kX, nX, nmX, AX, lX, cX, AX', lX', cX'⟩ : T5)), (w2.heap.size, D, b, (⟨kb, nb, nmb, Ba, lab, lcb, Bb, tab, tcb⟩ : T5)), (w1.heap.size, D, a, (⟨ka, na, nma, Aa, laa, lca, Ab, taa, tca⟩ : T5))] wx))
  case first =>
    as_aux_lemma =>
    obtain ⟨a0, a1, a2, a3, a4⟩ := (HS14.out.tail.tail.tail.t0).cells
    have al := (HS14.out.tail.tail.tail.t0).lt
    obtain ⟨b0, b1, b2, b3, b4⟩ := (HS14.out.tail.tail.t0).cells
    have bl := (HS14.out.tail.tail.t0).lt
    have HD := hide HS14.out.drew
    have KC := hide (HPs.out _ _ _ (HD.out.tail.tail.tail.t0) (HD.out.tail.tail.t0))
    clear HPs
    go_region_law (first
      | (refine step_list (f := 18) (args := #[.agg #[.int .i64 ka, .int .i64 na, .string nma, .slice Aa laa lca, .slice Ab taa tca], .slice none 0 0]) rfl ?_ KC.out ?_
         · simp [go_sem]
         intro v1 wz hR
         have HQ := hide (HS14.out.later (below_undrew hR.1))
         obtain ⟨p0, p1, p2, p3, p4⟩ := (HQ.out.tail.tail.t0).cells
         have pl := (HQ.out.tail.tail.t0).lt
         have KC2 := hide hR.2
         clear hR KC)
      | (refine step_list (f := 18) rfl ?_ KC2.out ?_
         · simp [go_sem]
         intro v2 wy hR2
         obtain ⟨⟨A9, c9, rfl⟩, hby⟩ := hR2
         have HR := hide (HS14.out.later (below_undrew hby))
         clear hby KC2))
    all_goals
      go_wp2_with fail
      go_meet
      case rel => exact ⟨_, rfl, fun h => by have h8 := of_decide_eq_true h; omega, HR.out⟩
  case rest =>
  as_aux_lemma =>
  obtain ⟨q6, rfl, HS16'⟩ := hcut
  rename World => w16
  have HS16 := hide HS16'.out.2
  have H6 := hide HS16'.out.1
  clear HPs HS16' HS14
  go_upto_if 106 with fail
  go_cut [17] (fun v wx => v = .bool true ∧ Hid (St w wb wo wc w.heap.size S T U x y [(w5.heap.size, D + (D + 1), (chT (substF b D) id D 0 a), (⟨kY, nY, nmY, AY, lY, cY, AY', lY', cY'⟩ : T5)), (w4.heap.size, D + 1, (chT (liftF lx ly) id D 0 a), (⟨kX, nX, nmX, AX, lX, cX, AX', lX', cX'⟩ : T5)), (w2.heap.size, D, b, (⟨kb, nb, nmb, Ba, lab, lcb, Bb, tab, tcb⟩ : T5)), (w1.heap.size, D, a, (⟨ka, na, nma, Aa, laa, lca, Ab, taa, tca⟩ : T5))] wx))
  case first =>
    as_aux_lemma =>
    cases q6 with
    | true =>
      obtain ⟨a0, a1, a2, a3, a4⟩ := (HS16.out.tail.tail.tail.t0).cells
      have al := (HS16.out.tail.tail.tail.t0).lt
      obtain ⟨b0, b1, b2, b3, b4⟩ := (HS16.out.tail.tail.t0).cells
      have bl := (HS16.out.tail.tail.t0).lt
      have KE := hide (KQE.out (H6.out rfl))
      generalize eqT D a b = re at *
      go_wp2_with (go_at_call 19; refine (KE.out _ w1.heap.size w2.heap.size ?_ ?_).mono ?_)
      · exact HS16.out.tail.tail.tail.t0
      · exact HS16.out.tail.tail.t0
      intro e wz h9
      first | (subst h9; intro hbz) | (obtain ⟨rfl, hbz⟩ := h9)
      have HR := hide (HS16.out.later hbz)
      clear hbz a0 a1 a2 a3 a4 al b0 b1 b2 b3 b4 bl KE
      go_wp2_with fail
      go_meet
      case rel => exact ⟨by first | rfl | simp, HR.out⟩
    | false =>
      go_wp2_with fail
      go_meet
      case rel => exact ⟨rfl, HS16.out⟩
  case rest =>
  as_aux_lemma =>
  obtain ⟨rfl, HS17⟩ := hcut
  rename World => w17
  clear KQE H6 HS16
  have KPL := hide (fun W => lparse_calls U W hU)
  have o3 := HS17.out.o.c3
  have ol := HS17.out.o.lt
  go_upto_if 123 with (go_at_call 20; refine (KPL.out _).mono ?_)
  intro e w18 h9
  obtain ⟨kl, nml, Al, ml, cl, cc, ca, rfl, hb18, hgl, _⟩ := h9
  have HS18 := hide (HS17.out.later hb18)
  have HGl := hide hgl
  clear hb18 hgl KPL o3 ol HS17
  go_upto_if 123 with fail
  go_cut [17] (fun v wx => v = .bool true ∧ Hid (St w wb wo wc w.heap.size S T U x y [(w5.heap.size, D + (D + 1), (chT (substF b D) id D 0 a), (⟨kY, nY, nmY, AY, lY, cY, AY', lY', cY'⟩ : T5)), (w4.heap.size, D + 1, (chT (liftF lx ly) id D 0 a), (⟨kX, nX, nmX, AX, lX, cX, AX', lX', cX'⟩ : T5)), (w2.heap.size, D, b, (⟨kb, nb, nmb, Ba, lab, lcb, Bb, tab, tcb⟩ : T5)), (w1.heap.size, D, a, (⟨ka, na, nma, Aa, laa, lca, Ab, taa, tca⟩ : T5))] wx))
  case first =>
    as_aux_lemma =>
    by_cases hcc : cc = 0
    · obtain ⟨_, l, _, hinl, _⟩ := HGl.out hcc
      have qc : ((cc : Int) == 0) = true := by simp [hcc]
      have HLB := hide (LB.new hinl)
      have K21 : Hid (∀ W m nu nl, TB5 W m D a ⟨ka, na, nma, Aa, laa, lca, Ab, taa, tca⟩ → W.cell? ⟨nu, 0, none⟩ = some (.string ⟨#[117]⟩) → LB W nl l kl nml Al ml cl → Calls Tryz.prog 21 #[.agg #[.int .i64 ka, .int .i64 na, .string nma, .slice Aa laa lca, .slice Ab taa tca], .slice (some ⟨nu, 0, none⟩) 1 1, .slice (some ⟨nl, 0, none⟩) 1 1] W fun en w' => MadeT W.heap.size W (D + 1) (chT idF (Lv.bind (lookL [⟨#[117]⟩] [l])) D 0 a) en w') := fun W m nu nl h hu hl => levels_calls [⟨#[117]⟩] [l] _ _ rfl W.heap.size D a _ W (by omega) (Nat.le_refl _) HWa.out (HIA.out W m h).inside (one_strs hu) (one_lvs hl)
      have K22 : Hid (∀ W m nu nl, TB5 W m D a ⟨ka, na, nma, Aa, laa, lca, Ab, taa, tca⟩ → W.cell? ⟨nu, 0, none⟩ = some (.string ⟨#[117]⟩) → LB W nl l kl nml Al ml cl → Calls Tryz.prog 22 #[.agg #[.int .i64 ka, .int .i64 na, .string nma, .slice Aa laa lca, .slice Ab taa tca], .slice (some ⟨nu, 0, none⟩) 1 1, .slice (some ⟨nl, 0, none⟩) 1 1] W fun en w' => MadeT W.heap.size W D (chT idF (Lv.bind (lookL [⟨#[117]⟩] [l])) D 0 a) en w') := fun W m nu nl h hu hl => rlevels_calls [⟨#[117]⟩] [l] _ _ rfl W.heap.size D a _ 0 W HWa.out (Nat.le_refl _) (HIA.out W m h).inside (one_strs hu) (one_lvs hl)
      obtain ⟨a0, a1, a2, a3, a4⟩ := (HS18.out.tail.tail.tail.t0).cells
      have al := (HS18.out.tail.tail.tail.t0).lt
      clear hinl HGl
      go_wp2_with (go_at_call 21; refine (K21.out _ w1.heap.size _ _ ?_ ?_ ?_).mono ?_)
      · exact ((((HS18.out.alloc _).alloc _).alloc _).alloc _).tail.tail.tail.t0
      · exact cp _ _ _ _ _ _ _ trivial (by simp) rfl
      · refine ⟨by simp [World.cell?_alloc_at], by simp [World.cell?_alloc_at], by simp [World.cell?_alloc_at], ?_⟩
        exact (((HLB.out.alloc _).alloc _).alloc _).inn
      intro e w19 h9
      obtain ⟨kZ, nZ, nmZ, AZ, lZ, cZ, AZ', lZ', cZ', rfl, hinZ, hb19⟩ := h9
      have HS19 := hide (((((HS18.out.alloc _).alloc _).alloc _).alloc _).later hb19)
      have HLB19 := hide ((((HLB.out.alloc _).alloc _).alloc _).later hb19)
      have HP19 := hide (HS19.out.push (TB5.new hinZ))
      clear hinZ hb19 K21 HLB HS18 a0 a1 a2 a3 a4 al
      obtain ⟨a0, a1, a2, a3, a4⟩ := (HS19.out.tail.tail.tail.t0).cells
      have al := (HS19.out.tail.tail.tail.t0).lt
      obtain ⟨l0, l1, l2, _⟩ := HLB19.out
      have ll := HLB19.out.lt
      go_wp2_with fail
      obtain ⟨z0, z1, z2, z3, z4⟩ := (HP19.out.t0).cells
      have zl := (HP19.out.t0).lt
      clear a0 a1 a2 a3 a4 al l0 l1 l2 ll
      obtain ⟨a0, a1, a2, a3, a4⟩ := (HP19.out.tail.tail.tail.tail.t0).cells
      have al := (HP19.out.tail.tail.tail.tail.t0).lt
      have HLBp := hide (HLB19.out.alloc (.cells #[.int .i64 kZ, .int .i64 nZ, .string nmZ, .slice AZ lZ cZ, .slice AZ' lZ' cZ'] 30))
      obtain ⟨l0, l1, l2, _⟩ := HLBp.out
      have ll := HLBp.out.lt
      generalize w19.alloc (.cells #[.int .i64 kZ, .int .i64 nZ, .string nmZ, .slice AZ lZ cZ, .slice AZ' lZ' cZ'] 30) = W19 at *
      have K22b : Hid (∀ W nu nl, Below W19.heap.size W19 W → W.cell? ⟨nu, 0, none⟩ = some (.string ⟨#[117]⟩) → W.cell? ⟨nl, 0, none⟩ = some (.int .i64 kl) → W.cell? ⟨nl, 1, none⟩ = some (.string nml) → W.cell? ⟨nl, 2, none⟩ = some (.slice Al ml cl) → Calls Tryz.prog 22 #[.agg #[.int .i64 ka, .int .i64 na, .string nma, .slice Aa laa lca, .slice Ab taa tca], .slice (some ⟨nu, 0, none⟩) 1 1, .slice (some ⟨nl, 0, none⟩) 1 1] W fun en w' =>
          ∃ (kq nq : Int) (nmq : ByteArray) (Aq : Option Addr) (lq cq : Nat) (Aq' : Option Addr) (lq' cq' : Nat), en = .returned (.agg #[.int .i64 kq, .int .i64 nq, .string nmq, .slice Aq lq cq, .slice Aq' lq' cq']) ∧ Hid (InTm w' (fun _ => True) D (chT idF (Lv.bind (lookL [⟨#[117]⟩] [l])) D 0 a) (.agg #[.int .i64 kq, .int .i64 nq, .string nmq, .slice Aq lq cq, .slice Aq' lq' cq']) ∧ Below W19.heap.size W19 w') ∧ ((w'.cell? ⟨w19.heap.size, 0, none⟩ = some (.int .i64 kZ) ∧ w'.cell? ⟨w19.heap.size, 1, none⟩ = some (.int .i64 nZ) ∧ w'.cell? ⟨w19.heap.size, 2, none⟩ = some (.string nmZ) ∧ w'.cell? ⟨w19.heap.size, 3, none⟩ = some (.slice AZ lZ cZ) ∧ w'.cell? ⟨w19.heap.size, 4, none⟩ = some (.slice AZ' lZ' cZ')) ∧ (w'.cell? ⟨w1.heap.size, 0, none⟩ = some (.int .i64 ka) ∧ w'.cell? ⟨w1.heap.size, 1, none⟩ = some (.int .i64 na) ∧ w'.cell? ⟨w1.heap.size, 2, none⟩ = some (.string nma) ∧ w'.cell? ⟨w1.heap.size, 3, none⟩ = some (.slice Aa laa lca) ∧ w'.cell? ⟨w1.heap.size, 4, none⟩ = some (.slice Ab taa tca)) ∧ (w'.cell? ⟨w18.heap.size, 0, none⟩ = some (.int .i64 kl) ∧ w'.cell? ⟨w18.heap.size, 1, none⟩ = some (.string nml) ∧ w'.cell? ⟨w18.heap.size, 2, none⟩ = some (.slice Al ml cl)))) := fun W nu nl hW hu h0 h1 h2 => by
        refine (K22.out W w1.heap.size nu nl ((HP19.out.later hW).tail.tail.tail.tail.t0) hu ⟨h0, h1, h2, (HLBp.out.later hW).inn⟩).mono ?_
        rintro en w' ⟨kq, nq, nmq, Aq, lq, cq, Aq', lq', cq', rfl, hin, hb⟩
        have hW' := Below.go hW hb
        have h3 := (HP19.out.later hW').t0.cells
        have h4 := ((HP19.out.later hW').tail.tail.tail.tail.t0).cells
        have h5 := HLBp.out.later hW'
        exact ⟨_, _, _, _, _, _, _, _, _, rfl, ⟨hin.keep fun _ _ _ => ⟨trivial, rfl⟩, hW'⟩, h3, h4, h5.c0, h5.c1, h5.c2⟩
      have K13b : Hid (∀ (W : World) (kq nq : Int) (nmq : ByteArray) (Aq : Option Addr) (lq cq : Nat) (Aq' : Option Addr) (lq' cq' : Nat), Hid (InTm W (fun _ => True) D (chT idF (Lv.bind (lookL [⟨#[117]⟩] [l])) D 0 a) (.agg #[.int .i64 kq, .int .i64 nq, .string nmq, .slice Aq lq cq, .slice Aq' lq' cq']) ∧ Below W19.heap.size W19 W) → Calls Tryz.prog 13 #[.agg #[.int .i64 kZ, .int .i64 nZ, .string nmZ, .slice AZ lZ cZ, .slice AZ' lZ' cZ'], .agg #[.int .i64 kq, .int .i64 nq, .string nmq, .slice Aq lq cq, .slice Aq' lq' cq']] W fun en w' => en = .returned (.bool true) ∧ Hid (Below W19.heap.size W19 w') ∧ ((w'.cell? ⟨w19.heap.size, 0, none⟩ = some (.int .i64 kZ) ∧ w'.cell? ⟨w19.heap.size, 1, none⟩ = some (.int .i64 nZ) ∧ w'.cell? ⟨w19.heap.size, 2, none⟩ = some (.string nmZ) ∧ w'.cell? ⟨w19.heap.size, 3, none⟩ = some (.slice AZ lZ cZ) ∧ w'.cell? ⟨w19.heap.size, 4, none⟩ = some (.slice AZ' lZ' cZ')) ∧ (w'.cell? ⟨w1.heap.size, 0, none⟩ = some (.int .i64 ka) ∧ w'.cell? ⟨w1.heap.size, 1, none⟩ = some (.int .i64 na) ∧ w'.cell? ⟨w1.heap.size, 2, none⟩ = some (.string nma) ∧ w'.cell? ⟨w1.heap.size, 3, none⟩ = some (.slice Aa laa lca) ∧ w'.cell? ⟨w1.heap.size, 4, none⟩ = some (.slice Ab taa tca)) ∧ (w'.cell? ⟨w18.heap.size, 0, none⟩ = some (.int .i64 kl) ∧ w'.cell? ⟨w18.heap.size, 1, none⟩ = some (.string nml) ∧ w'.cell? ⟨w18.heap.size, 2, none⟩ = some (.slice Al ml cl)))) := fun W kq nq nmq Aq lq cq Aq' lq' cq' hW => by
        refine (sameTB (levels_small hD' HWa.out) ((HP19.out.later hW.out.2).t0) hW.out.1).mono ?_
        rintro en w' ⟨rfl, hb⟩
        have hW' := Below.go hW.out.2 hb
        have h3 := (HP19.out.later hW').t0.cells
        have h4 := ((HP19.out.later hW').tail.tail.tail.tail.t0).cells
        have h5 := HLBp.out.later hW'
        exact ⟨rfl, hW', h3, h4, h5.c0, h5.c1, h5.c2⟩
      go_region_held3 (fun w' => (w'.cell? ⟨w19.heap.size, 0, none⟩ = some (.int .i64 kZ) ∧ w'.cell? ⟨w19.heap.size, 1, none⟩ = some (.int .i64 nZ) ∧ w'.cell? ⟨w19.heap.size, 2, none⟩ = some (.string nmZ) ∧ w'.cell? ⟨w19.heap.size, 3, none⟩ = some (.slice AZ lZ cZ) ∧ w'.cell? ⟨w19.heap.size, 4, none⟩ = some (.slice AZ' lZ' cZ')) ∧ (w'.cell? ⟨w1.heap.size, 0, none⟩ = some (.int .i64 ka) ∧ w'.cell? ⟨w1.heap.size, 1, none⟩ = some (.int .i64 na) ∧ w'.cell? ⟨w1.heap.size, 2, none⟩ = some (.string nma) ∧ w'.cell? ⟨w1.heap.size, 3, none⟩ = some (.slice Aa laa lca) ∧ w'.cell? ⟨w1.heap.size, 4, none⟩ = some (.slice Ab taa tca)) ∧ (w'.cell? ⟨w18.heap.size, 0, none⟩ = some (.int .i64 kl) ∧ w'.cell? ⟨w18.heap.size, 1, none⟩ = some (.string nml) ∧ w'.cell? ⟨w18.heap.size, 2, none⟩ = some (.slice Al ml cl))) (go_keep) (first
        | (go_at_call 22; refine (K22b.out _ _ _ ?_ ?_ ?_ ?_ ?_).mono ?_; (repeat' (first | exact Below.refl _ _ | refine Below.drew ?_ | refine Below.alloc ?_ (by first | exact Nat.le_refl _ | (simp; done) | (simp; omega)) _)); ((first | exact cn _ _ _ _ _ _ (by simp) rfl | exact cp _ _ _ _ _ _ _ trivial (by simp) rfl | (rw [World.cell?_drew]; exact cn _ _ _ _ _ _ (by simp) rfl) | (rw [World.cell?_drew]; exact cp _ _ _ _ _ _ _ trivial (by simp) rfl))); ((first | exact cn _ _ _ _ _ _ (by simp) rfl | exact cp _ _ _ _ _ _ _ trivial (by simp) rfl | (rw [World.cell?_drew]; exact cn _ _ _ _ _ _ (by simp) rfl) | (rw [World.cell?_drew]; exact cp _ _ _ _ _ _ _ trivial (by simp) rfl))); ((first | exact cn _ _ _ _ _ _ (by simp) rfl | exact cp _ _ _ _ _ _ _ trivial (by simp) rfl | (rw [World.cell?_drew]; exact cn _ _ _ _ _ _ (by simp) rfl) | (rw [World.cell?_drew]; exact cp _ _ _ _ _ _ _ trivial (by simp) rfl))); ((first | exact cn _ _ _ _ _ _ (by simp) rfl | exact cp _ _ _ _ _ _ _ trivial (by simp) rfl | (rw [World.cell?_drew]; exact cn _ _ _ _ _ _ (by simp) rfl) | (rw [World.cell?_drew]; exact cp _ _ _ _ _ _ _ trivial (by simp) rfl))); rintro e wq ⟨kq, nq, nmq, Aq, lq, cq, Aq', lq', cq', rfl, HQ, ⟨z0, z1, z2, z3, z4⟩, ⟨a0, a1, a2, a3, a4⟩, l0, l1, l2⟩)
        | (go_at_call 13; refine (K13b.out _ _ _ _ _ _ _ _ _ _ HQ).mono ?_; rintro e wq ⟨rfl, HR, ⟨z0, z1, z2, z3, z4⟩, ⟨a0, a1, a2, a3, a4⟩, l0, l1, l2⟩))
      all_goals
        go_wp2_with fail
        go_meet
        case rel => exact ⟨by first | rfl | simp, (HP19.out.later HR.out).tail⟩
    · have qc : ((cc : Int) == 0) = false := by rw [beq_eq_false_iff_ne]; omega
      go_wp2_with fail
      go_meet
      case rel => exact ⟨rfl, (HS18.out.alloc _).alloc _⟩
  case rest =>
  as_aux_lemma =>
  obtain ⟨rfl, HS20⟩ := hcut
  rename World => w20
  clear HS18 HGl
  have KSp : Hid (∀ W m, TB5 W m D a ⟨ka, na, nma, Aa, laa, lca, Ab, taa, tca⟩ → Calls Tryz.prog 23 #[.agg #[.int .i64 ka, .int .i64 na, .string nma, .slice Aa laa lca, .slice Ab taa tca]] W fun e w' => Spined W (D + 1) (headT D a) (backT D a).reverse e w') := fun W m h => spine_calls W.heap.size D a _ W (by omega) (Nat.le_refl _) HWa.out (HIA.out W m h).inside
  have KRSp : Hid (∀ W m, TB5 W m D a ⟨ka, na, nma, Aa, laa, lca, Ab, taa, tca⟩ → Calls Tryz.prog 24 #[.agg #[.int .i64 ka, .int .i64 na, .string nma, .slice Aa laa lca, .slice Ab taa tca]] W fun e w' => Spined W D (headT D a) (backT D a).reverse e w') := fun W m h => rspine_calls W.heap.size D a _ W (by omega) (Nat.le_refl _) HWa.out (HIA.out W m h).inside
  have HRw : Hid (∀ x ∈ (backT D a).reverse, WfT D x) := fun x hx => backT_wf HWa.out x (by simpa using hx)
  have hRl : (backT D a).reverse.length ≤ D := by rw [List.length_reverse]; exact backT_len D a
  generalize (backT D a).reverse = R at *
  obtain ⟨a0, a1, a2, a3, a4⟩ := (HS20.out.tail.tail.tail.t0).cells
  have al := (HS20.out.tail.tail.tail.t0).lt
  go_wp2_with (go_at_call 23; refine (KSp.out _ w1.heap.size ?_).mono ?_)
  · exact HS20.out.tail.tail.tail.t0
  intro e w21 h9
  obtain ⟨kH, nH, nmH, AH, lH, cH, AH', lH', cH', A2, c2, rfl, hinH, hlH, hb21⟩ := h9
  have HS21 := hide (HS20.out.later hb21)
  have HP21 := hide (HS21.out.push (TB5.new hinH))
  have HLu := hide hlH
  clear hinH hlH hb21 KSp HS20 a0 a1 a2 a3 a4 al
  obtain ⟨a0, a1, a2, a3, a4⟩ := (HS21.out.tail.tail.tail.t0).cells
  have al := (HS21.out.tail.tail.tail.t0).lt
  go_wp2_with (go_at_call 24; refine (KRSp.out _ w1.heap.size ?_).mono ?_)
  · exact HP21.out.tail.tail.tail.tail.t0
  intro e w22 h9
  obtain ⟨kG, nG, nmG, AG, lG, cG, AG', lG', cG', A3, c3, rfl, hinG, hlG, hb22⟩ := h9
  have HT22 : Hid (Two D R (.slice A2 R.length c2) (.slice A3 R.length c3) w22) := ⟨(HLu.out.keep fun b hb _ => ⟨trivial, Below.heap_alloc _ _ _ hb⟩ : LstT (w21.alloc _) (fun _ => True) (D + 1) R _).later hb22, hlG⟩
  have HS22 := hide (HP21.out.later hb22)
  have HP22 := hide (HS22.out.push (TB5.new hinG))
  have HTp := hide (HT22.out.alloc (.cells #[.int .i64 kG, .int .i64 nG, .string nmG, .slice AG lG cG, .slice AG' lG' cG'] 30))
  clear hinG hlG hb22 KRSp HLu HP21 HS21 a0 a1 a2 a3 a4 al
  obtain ⟨h0, h1, h2, h3, h4⟩ := (HS22.out.t0).cells
  have hl := (HS22.out.t0).lt
  have KS26 := hide (sameTB (headT_wf HWa.out).small (HP22.out.tail.t0) (HP22.out.t0).inn)
  go_wp2_with (go_at_call 13; refine KS26.out.mono ?_)
  intro e w23 h9
  first | (subst h9; intro hb23) | (obtain ⟨rfl, hb23⟩ := h9)
  have HT23 := hide (HTp.out.later hb23)
  have HS23 := hide (HP22.out.later hb23)
  clear hb23 KS26 HTp HT22 HP22 HS22 h0 h1 h2 h3 h4 hl
  go_wp2_with fail
  go_loopg [25, 26] (R.length) (fun g f i wr => ∃ k : Nat, k + g = R.length ∧ f = .bool true ∧ i = .int .i64 k ∧ Hid (St w wb wo wc w.heap.size S T U x y [(w22.heap.size, D, headT D a, (⟨kG, nG, nmG, AG, lG, cG, AG', lG', cG'⟩ : T5)), (w21.heap.size, D + 1, headT D a, (⟨kH, nH, nmH, AH, lH, cH, AH', lH', cH'⟩ : T5)), (w5.heap.size, D + (D + 1), (chT (substF b D) id D 0 a), (⟨kY, nY, nmY, AY, lY, cY, AY', lY', cY'⟩ : T5)), (w4.heap.size, D + 1, (chT (liftF lx ly) id D 0 a), (⟨kX, nX, nmX, AX, lX, cX, AX', lX', cX'⟩ : T5)), (w2.heap.size, D, b, (⟨kb, nb, nmb, Ba, lab, lcb, Bb, tab, tcb⟩ : T5)), (w1.heap.size, D, a, (⟨ka, na, nma, Aa, laa, lca, Ab, taa, tca⟩ : T5))] wr ∧ Two D R (.slice A2 R.length c2) (.slice A3 R.length c3) wr))
  case atStart => exact ⟨0, by omega, rfl, rfl, HS23.out, HT23.out⟩
  case round =>
    obtain ⟨k9, hkg, rfl, rfl, HRd⟩ := hrel
    clear HS23 HT23
    by_cases hlt : k9 < R.length
    · as_aux_lemma =>
      obtain ⟨b1, x1, rfl, _, h5, hi1⟩ := lst_at HRd.out.2.u hlt
      obtain ⟨k1, n1, nm1, A5, l5, c5, A6, l6, c6, rfl, e0, e1, e2, e3, e4⟩ := h5
      obtain ⟨b2, x2, rfl, _, h6, hi2⟩ := lst_at HRd.out.2.v hlt
      obtain ⟨k2, n2, nm2, A7, l7, c7, A8, l8, c8, rfl, f0, f1, f2, f3, f4⟩ := h6
      have HI : Hid (∀ W, Below wr.heap.size wr W → Calls Tryz.prog 13 #[.agg #[.int .i64 k1, .int .i64 n1, .string nm1, .slice A5 l5 c5, .slice A6 l6 c6], .agg #[.int .i64 k2, .int .i64 n2, .string nm2, .slice A7 l7 c7, .slice A8 l8 c8]] W fun e w' => e = .returned (.bool true) ∧ Below W.heap.size W w') := fun W hW =>
        sameTerm_calls D R[k9] _ _ _ _ _ _ _ _ _ _ _ _ _ _ _ _ _ _ (D + 1) D (fun _ => True) (fun _ => True) W (HRw.out _ (List.getElem_mem hlt)).small (hi1.keep fun b hb _ => ⟨trivial, hW.block b hb⟩) (hi2.keep fun b hb _ => ⟨trivial, hW.block b hb⟩)
      clear hi1 hi2
      go_wp2_with fail
      have p0 : ∀ x : Later wr.heap.size wr, x.W.cell? ⟨b1, k9 * 5, none⟩ = some _ := fun x => cell_later x.h e0
      have p1 : ∀ x : Later wr.heap.size wr, x.W.cell? ⟨b1, k9 * 5 + 1, none⟩ = some _ := fun x => cell_later x.h e1
      have p2 : ∀ x : Later wr.heap.size wr, x.W.cell? ⟨b1, k9 * 5 + 2, none⟩ = some _ := fun x => cell_later x.h e2
      have p3 : ∀ x : Later wr.heap.size wr, x.W.cell? ⟨b1, k9 * 5 + 3, none⟩ = some _ := fun x => cell_later x.h e3
      have p4 : ∀ x : Later wr.heap.size wr, x.W.cell? ⟨b1, k9 * 5 + 4, none⟩ = some _ := fun x => cell_later x.h e4
      have p5 : ∀ x : Later wr.heap.size wr, x.W.cell? ⟨b2, k9 * 5, none⟩ = some _ := fun x => cell_later x.h f0
      have p6 : ∀ x : Later wr.heap.size wr, x.W.cell? ⟨b2, k9 * 5 + 1, none⟩ = some _ := fun x => cell_later x.h f1
      have p7 : ∀ x : Later wr.heap.size wr, x.W.cell? ⟨b2, k9 * 5 + 2, none⟩ = some _ := fun x => cell_later x.h f2
      have p8 : ∀ x : Later wr.heap.size wr, x.W.cell? ⟨b2, k9 * 5 + 3, none⟩ = some _ := fun x => cell_later x.h f3
      have p9 : ∀ x : Later wr.heap.size wr, x.W.cell? ⟨b2, k9 * 5 + 4, none⟩ = some _ := fun x => cell_later x.h f4
      refine wp_region_later (by kernel_rfl) (by kernel_rfl) (Below.refl wr.heap.size wr) ?_
      have hst := Later.some wr.heap.size wr
      iterate 8 quiet_step (fail)
      quiet_step (exact Later.calls HI.out (Nat.le_refl _) _)
      quiet_step (fail)
      refine wpQuiet_nil ?_
      intro _ hw'
      obtain ⟨xl, rfl⟩ := hw'
      have HR30 := hide (And.intro (HRd.out.1.later xl.h) (HRd.out.2.later xl.h))
      clear HI p0 p1 p2 p3 p4 p5 p6 p7 p8 p9 hst e0 e1 e2 e3 e4 f0 f1 f2 f3 f4
      go_wp2_with fail
      go_roundg (R.length - (k9 + 1))
      case measure => omega
      case rel => exact ⟨k9 + 1, by omega, rfl, by go_num, HR30⟩
    · as_aux_lemma =>
      have HS24 := hide HRd.out.1
      have HT24 := hide HRd.out.2
      clear HRd
      have KAp : Hid (∀ W m v, TB5 W m D b ⟨kb, nb, nmb, Ba, lab, lcb, Bb, tab, tcb⟩ → LstT W (fun _ => True) D R v → Calls Tryz.prog 25 #[.agg #[.int .i64 kb, .int .i64 nb, .string nmb, .slice Ba lab lcb, .slice Bb tab tcb], v] W fun en w' => MadeT W.heap.size W (D + 1 + R.length) (applyT b R) en w') := fun W m v h hl => apply_calls W.heap.size D b R _ v W (by omega) (Nat.le_refl _) (by omega) HWb.out (fun i hi => HRw.out _ (List.getElem_mem hi)) (HIB.out W m h).inside hl.inside
      have KRA : Hid (∀ W m v, TB5 W m D b ⟨kb, nb, nmb, Ba, lab, lcb, Bb, tab, tcb⟩ → LstT W (fun _ => True) D R v → Calls Tryz.prog 26 #[.agg #[.int .i64 kb, .int .i64 nb, .string nmb, .slice Ba lab lcb, .slice Bb tab tcb], v] W fun en w' => MadeT W.heap.size W (D + R.length) (applyT b R) en w') := fun W m v h hl => rapply_calls W.heap.size D b R _ v W (Nat.le_refl _) (by omega) (HIB.out W m h).inside hl.inside
      have HSm : Hid (SmallT (D + R.length) (applyT b R)) := applyT_small HWb.out.small (Nat.le_refl _) fun x hx => (HRw.out x hx).small
      obtain ⟨b0, b1, b2, b3, b4⟩ := (HS24.out.tail.tail.tail.tail.t0).cells
      have bl := (HS24.out.tail.tail.tail.tail.t0).lt
      go_wp2_with (go_at_call 25; refine (KAp.out _ w2.heap.size _ ?_ ?_).mono ?_)
      · exact HS24.out.tail.tail.tail.tail.t0
      · exact HT24.out.v
      intro e w25 h9
      obtain ⟨kK, nK, nmK, AK, lK, cK, AK', lK', cK', rfl, hinK, hb25⟩ := h9
      have HS25 := hide (HS24.out.later hb25)
      have HT25 := hide (HT24.out.later hb25)
      have HP25 := hide (HS25.out.push (TB5.new hinK))
      have HTp := hide (HT25.out.alloc (.cells #[.int .i64 kK, .int .i64 nK, .string nmK, .slice AK lK cK, .slice AK' lK' cK'] 30))
      clear hinK hb25 KAp HS24 HT24 HS25 HT25 b0 b1 b2 b3 b4 bl
      go_upto_region 32 with fail
      generalize hWe : w25.alloc (.cells #[.int .i64 kK, .int .i64 nK, .string nmK, .slice AK lK cK, .slice AK' lK' cK'] 30) = W25 at *
      clear hWe
      go_cut [28] (fun v wx => v = .bool true ∧ Hid (St w wb wo wc w.heap.size S T U x y [(w25.heap.size, D + 1 + R.length, applyT b R, (⟨kK, nK, nmK, AK, lK, cK, AK', lK', cK'⟩ : T5)), (w22.heap.size, D, headT D a, (⟨kG, nG, nmG, AG, lG, cG, AG', lG', cG'⟩ : T5)), (w21.heap.size, D + 1, headT D a, (⟨kH, nH, nmH, AH, lH, cH, AH', lH', cH'⟩ : T5)), (w5.heap.size, D + (D + 1), (chT (substF b D) id D 0 a), (⟨kY, nY, nmY, AY, lY, cY, AY', lY', cY'⟩ : T5)), (w4.heap.size, D + 1, (chT (liftF lx ly) id D 0 a), (⟨kX, nX, nmX, AX, lX, cX, AX', lX', cX'⟩ : T5)), (w2.heap.size, D, b, (⟨kb, nb, nmb, Ba, lab, lcb, Bb, tab, tcb⟩ : T5)), (w1.heap.size, D, a, (⟨ka, na, nma, Aa, laa, lca, Ab, taa, tca⟩ : T5))] wx))
      case first =>
        as_aux_lemma =>
        obtain ⟨x0', x1', x2', x3', x4'⟩ := (HP25.out.t0).cells
        have xl := (HP25.out.t0).lt
        obtain ⟨b0, b1, b2, b3, b4⟩ := (HP25.out.tail.tail.tail.tail.tail.t0).cells
        have bl := (HP25.out.tail.tail.tail.tail.tail.t0).lt
        have KC := hide (KRA.out W25.drew w2.heap.size _ (HP25.out.drew.tail.tail.tail.tail.tail.t0) (HTp.out.v.later (Below.refl _ _).drew))
        go_region_law (first
          | (refine step_madeT (f := 26) (B := W25.drew.heap.size) (d := D + R.length) (t := applyT b R) rfl ?_ KC.out ?_
             · simp [go_sem]
             intro kz nz nmz Az lz cz Az' lz' cz' wz hinz hbz
             have HQ := hide (HP25.out.later (below_undrew hbz))
             obtain ⟨p0, p1, p2, p3, p4⟩ := (HQ.out.t0).cells
             have pl := (HQ.out.t0).lt
             have KS := hide (sameTB HSm.out (HQ.out.t0) hinz)
             clear hbz hinz KC)
          | (refine step_value (f := 13) (v := .bool true) rfl ?_ KS.out ?_
             · simp [go_sem]
             intro wy hby
             have HR := hide (HQ.out.later hby)
             clear hby KS))
        all_goals
          go_wp2_with fail
          go_meet
          case rel => exact ⟨rfl, HR.out⟩
      case rest =>
      as_aux_lemma =>
      obtain ⟨rfl, HS26⟩ := hcut
      rename World => w26
      clear KRA HSm HP25 HTp
      have hTl : (textT D a).length ≤ 1000000000 := by have := textT_len HWa.out; omega
      have KPr : Hid (∀ W m, TB5 W m D a ⟨ka, na, nma, Aa, laa, lca, Ab, taa, tca⟩ → Laid wb wo wc W → Calls Tryz.prog 27 #[.agg #[.int .i64 ka, .int .i64 na, .string nma, .slice Aa laa lca, .slice Ab taa tca]] W fun e w' => e = .returned (.string ⟨(textT D a).toArray⟩) ∧ Below W.heap.size W w') := fun W m h hl => printT_calls D a _ W HWa.out (HIA.out W m h) hTl hl.lev hl.trm hl.pow hl.big
      have KRPr : Hid (∀ W m, TB5 W m D a ⟨ka, na, nma, Aa, laa, lca, Ab, taa, tca⟩ → Laid wb wo wc W → Calls Tryz.prog 28 #[.agg #[.int .i64 ka, .int .i64 na, .string nma, .slice Aa laa lca, .slice Ab taa tca]] W fun e w' => e = .returned (.string ⟨(textT D a).toArray⟩) ∧ Below W.heap.size W w') := fun W m h hl => rprintT_calls wb wo wc D a _ W HWa.out (HIA.out W m h) hl.words hTl
      generalize (⟨(textT D a).toArray⟩ : ByteArray) = tx at *
      have hss := sameStr_pos (rfl : tx = tx)
      obtain ⟨a0, a1, a2, a3, a4⟩ := (HS26.out.tail.tail.tail.tail.tail.tail.t0).cells
      have al := (HS26.out.tail.tail.tail.tail.tail.tail.t0).lt
      go_wp2_with (go_at_call 27; refine (KPr.out _ w1.heap.size ?_ ?_).mono ?_)
      · exact HS26.out.tail.tail.tail.tail.tail.tail.t0
      · exact HS26.out.l
      intro e w27 h9
      first | (subst h9; intro hb27) | (obtain ⟨rfl, hb27⟩ := h9)
      have HS27 := hide (HS26.out.later hb27)
      clear hb27 KPr HS26 a0 a1 a2 a3 a4 al
      obtain ⟨a0, a1, a2, a3, a4⟩ := (HS27.out.tail.tail.tail.tail.tail.tail.t0).cells
      have al := (HS27.out.tail.tail.tail.tail.tail.tail.t0).lt
      go_wp2_with (go_at_call 28; refine (KRPr.out _ w1.heap.size ?_ ?_).mono ?_)
      · exact HS27.out.tail.tail.tail.tail.tail.tail.t0
      · exact HS27.out.l
      intro e w28 h9
      first | (subst h9; intro hb28) | (obtain ⟨rfl, hb28⟩ := h9)
      have HF := hide (HS27.out.later hb28).w
      clear hb28 KRPr HS27 a0 a1 a2 a3 a4 al
      go_wp2_with fail
      go_ret
      exact ⟨by first | rfl | simp, HF.out⟩

end Go.Proofs.YteepmfhpjanbhaaGreatDoor
