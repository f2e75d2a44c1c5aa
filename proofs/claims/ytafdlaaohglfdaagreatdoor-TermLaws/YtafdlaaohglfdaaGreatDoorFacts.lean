/- What the statement's calls answer, one by one. -/
import Derived.Test.YtafdlaaohglfdaaGreatDoorCaught
import Derived.Test.YtafdlaaohglfdaaGreatDoorBack
import Derived.Test.YtafdlaaohglfdaaGreatDoorKinB
import Derived.Test.YtafdlaaohglfdaaGreatDoorApplyP
import Derived.Deep.CutBlock
import Derived.Deep.DeepCutAuto
import Derived.Deep.RegionHeld3

namespace Go.Proofs.YtafdlaaohglfdaaGreatDoor
open Go.RowKit

/-- The step lies in a variable. -/
structure OB (W : World) (n : Nat) (S T U : ByteArray) (x y : Int) : Prop where
  c1 : W.cell? ⟨n, 1, none⟩ = some (.string S)
  c2 : W.cell? ⟨n, 2, none⟩ = some (.string T)
  c3 : W.cell? ⟨n, 3, none⟩ = some (.string U)
  c4 : W.cell? ⟨n, 4, none⟩ = some (.int .i64 x)
  c5 : W.cell? ⟨n, 5, none⟩ = some (.int .i64 y)
theorem OB.lt {W : World} {n : Nat} {S T U : ByteArray} {x y : Int} (h : OB W n S T U x y) : n < W.heap.size := World.block_lt_of_cell? _ _ h.c1
theorem OB.later {W W' : World} {n : Nat} {S T U : ByteArray} {x y : Int} (h : OB W n S T U x y) (hb : Below W.heap.size W W') : OB W' n S T U x y := ⟨cell_later hb h.c1, cell_later hb h.c2, cell_later hb h.c3, cell_later hb h.c4, cell_later hb h.c5⟩
theorem OB.alloc {W : World} {n : Nat} {S T U : ByteArray} {x y : Int} (h : OB W n S T U x y) (o : Obj) : OB (W.alloc o) n S T U x y := h.later ((Below.refl _ _).alloc (Nat.le_refl _) _)
theorem OB.new (W : World) (k : Int) (S T U : ByteArray) (x y : Int) : OB (W.alloc (.cells #[.int .i64 k, .string S, .string T, .string U, .int .i64 x, .int .i64 y] 25)) W.heap.size S T U x y := by
  constructor <;> simp [World.cell?_alloc_at]


theorem TTab.trm {W : World} (h : TTab W) : TTable W := by
  have hcell : ∀ j v, tcs[j]? = some v → W.cell? ⟨1, j, none⟩ = some v := fun j v e => h.c j v e
  refine ⟨fun k hk => ?_, fun k hk => ?_, fun k hk => ?_, fun k hk => ?_⟩
  all_goals
    have : k = 0 ∨ k = 1 ∨ k = 2 ∨ k = 3 ∨ k = 4 ∨ k = 5 ∨ k = 6 := by omega
    rcases this with rfl | rfl | rfl | rfl | rfl | rfl | rfl <;> first | exact hcell _ _ rfl | exact ⟨_, hcell _ _ rfl⟩

/-- The tables that the walk reads. -/
structure Laid (wb wo wc : Nat) (W : World) : Prop where
  words : WordsAt W wb wo wc
  t : Tabs2 W
  pow : Pow10 W
theorem Laid.later {wb wo wc : Nat} {W W' : World} (h : Laid wb wo wc W) (hb : Below W.heap.size W W') : Laid wb wo wc W' :=
  ⟨h.words.of_blocks (hb.block 0 h.words.lt.1) (hb.block wb h.words.lt.2), h.t.below hb h.t.lt, h.pow.below hb (by have := h.t.lt; omega)⟩
theorem Laid.alloc {wb wo wc : Nat} {W : World} (h : Laid wb wo wc W) (o : Obj) : Laid wb wo wc (W.alloc o) := h.later ((Below.refl _ _).alloc (Nat.le_refl _) _)

theorem Below.al {w W : World} (h : Below w.heap.size w W) (o : Obj) : Below w.heap.size w (W.alloc o) := h.alloc h.size o
theorem Below.go {w W W' : World} (h : Below w.heap.size w W) (hb : Below W.heap.size W W') : Below w.heap.size w W' := h.trans (hb.mono h.size)
theorem below_undrew {W W' : World} (h : Below W.drew.heap.size W.drew W') : Below W.heap.size W W' := ⟨h.os, h.tape, h.output, h.size, h.block⟩
theorem TB5.drew {W : World} {n d : Nat} {t : Tm} {x : T5} (h : TB5 W n d t x) : TB5 W.drew n d t x := ⟨⟨h.lies.c0, h.lies.c1, h.lies.c2, h.lies.c3, h.lies.c4⟩, InTm.keep (w := W) (w' := W.drew) (fun _ _ _ => ⟨trivial, rfl⟩) h.inn⟩


/-- Where the walk stands: the step's variable, the tables, the terms in their variables; nothing old has turned. -/
structure St (w : World) (wb wo wc no : Nat) (S T U : ByteArray) (x y : Int) (L : List (Nat × Nat × Tm × T5)) (W : World) : Prop where
  o : OB W no S T U x y
  l : Laid wb wo wc W
  w : Below w.heap.size w W
  ts : ∀ p ∈ L, TB5 W p.1 p.2.1 p.2.2.1 p.2.2.2
section
variable {w : World} {wb wo wc no : Nat} {S T U : ByteArray} {x y : Int} {L : List (Nat × Nat × Tm × T5)} {W : World}
theorem St.later {W' : World} (h : St w wb wo wc no S T U x y L W) (hb : Below W.heap.size W W') : St w wb wo wc no S T U x y L W' := ⟨h.o.later hb, h.l.later hb, Below.go h.w hb, fun p hp => (h.ts p hp).later hb⟩
theorem St.alloc (h : St w wb wo wc no S T U x y L W) (o : Obj) : St w wb wo wc no S T U x y L (W.alloc o) := h.later ((Below.refl _ _).alloc (Nat.le_refl _) _)
theorem St.drew (h : St w wb wo wc no S T U x y L W) : St w wb wo wc no S T U x y L W.drew := h.later (Below.refl _ _).drew
theorem St.push {o : Obj} {n d : Nat} {t : Tm} {z : T5} (h : St w wb wo wc no S T U x y L W) (ht : TB5 (W.alloc o) n d t z) : St w wb wo wc no S T U x y ((n, d, t, z) :: L) (W.alloc o) :=
  ⟨h.o.alloc o, h.l.alloc o, Below.al h.w o, fun p hp => by
    rcases List.mem_cons.1 hp with rfl | hp
    · exact ht
    · exact (h.ts p hp).alloc o⟩
theorem St.tail {p : Nat × Nat × Tm × T5} (h : St w wb wo wc no S T U x y (p :: L) W) : St w wb wo wc no S T U x y L W := ⟨h.o, h.l, h.w, fun q hq => h.ts q (List.mem_cons_of_mem _ hq)⟩
theorem St.t0 {n d : Nat} {t : Tm} {z : T5} (h : St w wb wo wc no S T U x y ((n, d, t, z) :: L) W) : TB5 W n d t z := h.ts _ (List.mem_cons_self ..)
end


theorem limN_six (x : Int) : limN x ≤ 5 := by unfold limN; split <;> omega

/-- A call that answers a list of so many, as a step of a region. -/
theorem step_list {ops : Array Oper} {o : Oper} {a : Act} {w : World} {K : Act → World → Prop} {Q : Exit → Act → World → Prop} {E : Prop} {args : Array Value} {f : FuncId} {R : Value → World → Prop}
    (hg : o.guard = none) (hrun : (execOp a.eval o).run Tryz.prog w = .ok (.enter f args) w) (hc : Calls Tryz.prog f args w fun e w' => ∃ v, e = .returned v ∧ R v w')
    (hK : ∀ (v : Value) (w' : World), R v w' → K (a.put o.dst v) w') :
    if Region.wanted o (yielded ops a.tmps) = true then Oper.wp Tryz.prog o a w K Q else E := by
  have hw : Region.wanted o (yielded ops a.tmps) = true := by simp [Region.wanted, hg]
  rw [if_pos hw]
  unfold Oper.wp
  rw [hrun]
  refine hc.mono ?_
  rintro e w' ⟨v, rfl, h2⟩
  exact hK v w' h2


theorem LstT.later {W W' : World} {d : Nat} {ts : List Tm} {v : Value} (h : LstT W (fun _ => True) d ts v) (hb : Below W.heap.size W W') : LstT W' (fun _ => True) d ts v := h.keep fun b hb' _ => ⟨trivial, hb.block b hb'⟩
theorem LstT.inside {W : World} {d : Nat} {ts : List Tm} {v : Value} (h : LstT W (fun _ => True) d ts v) : LstT W (fun b => b < W.heap.size) d ts v := h.keep fun _ hb _ => ⟨hb, rfl⟩

theorem TB5.cells {W : World} {m d : Nat} {t : Tm} {k n : Int} {nm : ByteArray} {A : Option Addr} {la lc : Nat} {A' : Option Addr} {ta tc : Nat} (h : TB5 W m d t ⟨k, n, nm, A, la, lc, A', ta, tc⟩) :
    W.cell? ⟨m, 0, none⟩ = some (.int .i64 k) ∧ W.cell? ⟨m, 1, none⟩ = some (.int .i64 n) ∧ W.cell? ⟨m, 2, none⟩ = some (.string nm) ∧ W.cell? ⟨m, 3, none⟩ = some (.slice A la lc) ∧ W.cell? ⟨m, 4, none⟩ = some (.slice A' ta tc) :=
  ⟨h.lies.c0, by simpa using h.lies.c1, by simpa using h.lies.c2, by simpa using h.lies.c3, by simpa using h.lies.c4⟩


theorem GoodT.fit : ∀ {D e : Nat} {t : Tm}, WfT D t → GoodT e t → GoodT D t
  | 0, _, _, h, _ => absurd h (by simp [WfT])
  | _ + 1, 0, _, _, h => absurd h (by simp [GoodT])
  | _ + 1, _ + 1, _, _, .inl h => .inl h
  | _ + 1, _ + 1, t, hw, .inr ⟨h1, h2, h3, h4, h5, h6, h7, h8, h9, h⟩ => .inr ⟨h1, h2, h3, h4, h5, h6, h7, h8, h9, fun x hx => by
      obtain ⟨i, hi, rfl⟩ := List.getElem_of_mem hx
      exact (h _ hx).fit (hw.kid i hi)⟩

/-- What is known of a text that is a term. -/
theorem read_some {s : ByteArray} {t : Tm} {w : World} {d D : Nat} {v : Value} (hs : s.size ≤ 20000) (h : TRight s t) (hin : InTm w (fun _ => True) d t v) (hD : D = 20000) : WfT D t ∧ partsT D t ≤ 20000 ∧ InTm w (fun _ => True) D t v ∧ GoodT D t := by
  obtain ⟨e, p, hr, _⟩ := h
  have hle := hr.le
  obtain ⟨h1, h2⟩ := RT.some hs e t 0 p hr
  obtain ⟨hw, hp⟩ := h2 D (by omega)
  exact ⟨hw, by omega, hin.fit hw, hr.good.fit hw⟩

theorem InTm.any {w : World} {S : Nat → Prop} {d : Nat} {t : Tm} {v : Value} (h : InTm w S d t v) : InTm w (fun _ => True) d t v := h.keep fun _ _ _ => ⟨trivial, rfl⟩
theorem InTm.on {W W' : World} {d : Nat} {t : Tm} {v : Value} (h : InTm W (fun _ => True) d t v) (hb : Below W.heap.size W W') : InTm W' (fun _ => True) d t v := h.keep fun b hb' _ => ⟨trivial, hb.block b hb'⟩

section
variable {wb wo wc : Nat} {W : World}
/-- Print, of what is not too large. -/
theorem q_print {d : Nat} {t : Tm} {v : Value} {X : ByteArray} (hl : Laid wb wo wc W) (hw : WfT d t) (hp : partsT d t ≤ 400000000) (hin : InTm W (fun _ => True) d t v) (hX : X = ⟨(textT d t).toArray⟩) :
    Calls Tryz.prog 8 #[v] W fun e w' => e = .returned (.string X) ∧ Below W.heap.size W w' := by
  rw [hX]
  exact printT_calls d t v W hw hin (by have := textT_len hw; omega) hl.t.a.t hl.t.b.trm hl.pow (by have := hl.t.lt; omega)
theorem q_lift {d : Nat} {t : Tm} {v : Value} (n f0 : Nat) (hn : n ≤ 1000) (hw : WfT d t) (hd : d ≤ 100000) (hin : InTm W (fun _ => True) d t v) :
    Calls Tryz.prog 10 #[v, .int .i64 (n : Nat), .int .i64 (f0 : Nat)] W fun e w' => MadeT W.heap.size W (d + 1) (chT (liftF n f0) id d 0 t) e w' :=
  lift_calls n f0 W.heap.size d t v W (by omega) (by omega) (Nat.le_refl _) hw hin.inside
theorem q_subst {d e : Nat} {t u : Tm} {v vu : Value} (hw : WfT d t) (hu : WfT e u) (hd : d ≤ 100000) (he : e ≤ 100000) (hin : InTm W (fun _ => True) d t v) (hinu : InTm W (fun _ => True) e u vu) :
    Calls Tryz.prog 9 #[v, vu] W fun en w' => MadeT W.heap.size W (d + (e + 1)) (chT (substF u e) id d 0 t) en w' :=
  substT_calls u e W.heap.size d t v vu W hu (by omega) (by omega) (Nat.le_refl _) hw hin.inside hinu.inside

/-- Parse, of a printed term: it, unless its text is too long. -/
theorem q_parse {D : Nat} {a : Tm} {X : ByteArray} (hl : Laid wb wo wc W) (hw : WfT D a) (hg : GoodT D a) (hp : partsT D a ≤ 400000000) (hX : X = ⟨(textT D a).toArray⟩) :
    Calls Tryz.prog 11 #[.string X] W fun e w' => ∃ (k n : Int) (nm : ByteArray) (A : Option Addr) (la lc : Nat) (A' : Option Addr) (ta tc : Nat) (ev : Value) (dc : Nat) (c : Tm), e = .returned (.tuple #[.agg #[.int .i64 k, .int .i64 n, .string nm, .slice A la lc, .slice A' ta tc], ev]) ∧ Below W.heap.size W w' ∧
      InTm w' (fun _ => True) dc c (.agg #[.int .i64 k, .int .i64 n, .string nm, .slice A la lc, .slice A' ta tc]) ∧ WfT dc c ∧ partsT dc c ≤ 400000000 ∧ (X.size ≤ 20000 → ev = .nilIface ∧ X = ⟨(textT dc c).toArray⟩) := by
  have hsz : X.size = (textT D a).length := by rw [hX]; rfl
  have hlen := textT_len hw
  by_cases h : X.size ≤ 20000
  · obtain ⟨hr, he⟩ := textT_right hg
    rw [← hX] at hr he
    refine (tparse_good X D a _ W h hr he hl.t).mono ?_
    rintro e w' ⟨k, n, nm, A, la, lc, A', ta, tc, rfl, hin, hb⟩
    exact ⟨k, n, nm, A, la, lc, A', ta, tc, .nilIface, D, a, rfl, hb, hin, hw, hp, fun _ => ⟨rfl, hX⟩⟩
  · refine (tparse_toolong X W (by omega) (by unfold maxLen; omega)).mono ?_
    rintro e w' ⟨N, rfl, _, hb⟩
    refine ⟨0, 0, _, none, 0, 0, none, 0, 0, _, 1, tvar 0, rfl, hb, ?_, tvar_wf (by omega), by simp [partsT, tvar, Tm.ls, Tm.ts], fun h' => absurd h' h⟩
    exact ⟨none, 0, none, 0, rfl, fun i hi => absurd hi (by show ¬ i < 0; omega), fun i hi => absurd hi (by show ¬ i < 0; omega)⟩

/-- Spine, then Apply: the term itself. -/
theorem q_apply {D : Nat} {a : Tm} {vh va : Value} (hw : WfT D a) (hg : GoodT D a) (hD : D ≤ 20000) (hh : InTm W (fun _ => True) (D + 1) (headT D a) vh) (ha : LstT W (fun _ => True) (D + 1) (backT D a).reverse va) :
    Calls Tryz.prog 13 #[vh, va] W fun e w' => MadeT W.heap.size W (D + 1 + 1 + (backT D a).reverse.length) a e w' := by
  have hlen := backT_len D a
  have h := apply_calls W.heap.size (D + 1) (headT D a) (backT D a).reverse vh va W (by omega) (Nat.le_refl _) (by rw [List.length_reverse]; omega) ((headT_wf hw).mono (by omega)) (fun i hi => (backT_wf hw _ (List.mem_reverse.1 (List.getElem_mem hi))).mono (by omega)) hh.inside ha.inside
  rw [apply_spine hw hg.bare] at h
  exact h
end

/-- The two terms of a step. -/
structure Pair (D : Nat) (a b : Tm) : Prop where
  hD : D ≤ 20000
  wa : WfT D a
  wb : WfT D b
  pa : partsT D a ≤ 20000
  pb : partsT D b ≤ 20000
  ga : GoodT D a
  gb : GoodT D b

/-- What both sides of the second law print. -/
theorem Pair.sub {D : Nat} {a b : Tm} (h : Pair D a b) (n : Nat) : WfT (D + (D + 1)) (chT (substF b D) id D 0 a) ∧ WfT (D + (D + 1) + 1) (chT (liftF 2 n) id (D + (D + 1)) 0 (chT (substF b D) id D 0 a)) ∧ partsT (D + (D + 1) + 1) (chT (liftF 2 n) id (D + (D + 1)) 0 (chT (substF b D) id D 0 a)) ≤ 400000000 := by
  have hD := h.hD
  obtain ⟨h1, h2⟩ := subst_wf h.wb h.gb.idx (by omega) h.wa h.ga.idx (by omega)
  have h3 := subst_parts h.wb (h.gb.idx.weak (by omega)) (by omega) h.wa (h.ga.idx.weak (by omega)) (by omega)
  have h4 := lift_parts (n := 2) (f0 := n) (m := 299999) (by omega) (by omega) (b := 0) h1 h2 (by omega)
  have h5 : partsT D a * partsT D b ≤ 20000 * 20000 := Nat.mul_le_mul h.pa h.pb
  exact ⟨h1, (lift_wf (n := 2) (f0 := n) (m := 299999) (by omega) (b := 0) h1 h2 (by omega)).1, by omega⟩
theorem Pair.lifts {D : Nat} {a b : Tm} (h : Pair D a b) (n f0 : Nat) (hn : n ≤ 1000) : WfT (D + 1) (chT (liftF n f0) id D 0 a) ∧ WfT (D + 1) (chT (liftF n f0) id D 0 b) ∧ partsT (D + 1) (chT (liftF n f0) id D 0 a) ≤ 400000000 := by
  have hD := h.hD
  have h4 := lift_parts (n := n) (f0 := f0) (m := 99999) (by omega) (by omega) (b := 0) h.wa h.ga.idx (by omega)
  have := h.pa
  exact ⟨(lift_wf (n := n) (f0 := f0) (m := 99999) (by omega) (b := 0) h.wa h.ga.idx (by omega)).1, (lift_wf (n := n) (f0 := f0) (m := 99999) (by omega) (b := 0) h.wb h.gb.idx (by omega)).1, by omega⟩

end Go.Proofs.YtafdlaaohglfdaaGreatDoor

/- The contract of the statement's closed facts. -/
namespace Go.Proofs.YtafdlaaohglfdaaGreatDoor
open Go.RowKit

/-- (lam #i (app #j #k)). -/
def lamT (i j k : Nat) : Tm := .node 4 0 ⟨#[]⟩ [] [tvar i, appT (tvar j) (tvar k)]
theorem tvar_good {n : Nat} (h : n ≤ 99999) : GoodT 1 (tvar n) := .inl ⟨rfl, rfl, rfl, rfl, h⟩
theorem appT_good {j k : Nat} (hj : j ≤ 99999) (hk : k ≤ 99999) : GoodT 2 (appT (tvar j) (tvar k)) :=
  .inr ⟨(show 1 ≤ 3 by decide), (show 3 ≤ 6 by decide), rfl, fun h => absurd h (show ¬ 3 = 2 by decide), fun _ => rfl, fun h => absurd h (show ¬ 3 = 1 by decide), fun _ _ => rfl, fun l hl => absurd hl (by show ¬ l ∈ ([] : List LvB); simp), rfl, fun x hx => by
    have hx' : x ∈ [tvar j, tvar k] := hx
    rcases List.mem_cons.1 hx' with rfl | hx'
    · exact tvar_good hj
    · rw [List.mem_singleton.1 hx']; exact tvar_good hk⟩
theorem lamT_good {i j k : Nat} (hi : i ≤ 99999) (hj : j ≤ 99999) (hk : k ≤ 99999) : GoodT 3 (lamT i j k) :=
  .inr ⟨(show 1 ≤ 4 by decide), (show 4 ≤ 6 by decide), rfl, fun h => absurd h (show ¬ 4 = 2 by decide), fun _ => rfl, fun h => absurd h (show ¬ 4 = 1 by decide), fun _ _ => rfl, fun l hl => absurd hl (by show ¬ l ∈ ([] : List LvB); simp), rfl, fun x hx => by
    have hx' : x ∈ [tvar i, appT (tvar j) (tvar k)] := hx
    rcases List.mem_cons.1 hx' with rfl | hx'
    · exact (tvar_good hi).mono (e := 2) (by omega)
    · rw [List.mem_singleton.1 hx']; exact appT_good hj hk⟩
theorem appT_wf {j k : Nat} (hj : j ≤ 900000) (hk : k ≤ 900000) : WfT 2 (appT (tvar j) (tvar k)) :=
  ⟨(show 3 ≤ 6 by decide), Nat.zero_le _, fun h => absurd h (show ¬ 3 = 0 by decide), fun _ => rfl, fun _ => rfl, Nat.zero_le _, Nat.zero_le _, rfl, fun l hl => absurd hl (by show ¬ l ∈ ([] : List LvB); simp), fun i hi => by
    match i, hi with
    | 0, _ => exact tvar_wf hj
    | 1, _ => exact tvar_wf hk
    | i + 2, hi => exact absurd hi (by show ¬ i + 2 < 2; omega)⟩
theorem lamT_wf {i j k : Nat} (hi : i ≤ 900000) (hj : j ≤ 900000) (hk : k ≤ 900000) : WfT 3 (lamT i j k) :=
  ⟨(show 4 ≤ 6 by decide), Nat.zero_le _, fun h => absurd h (show ¬ 4 = 0 by decide), fun _ => rfl, fun _ => rfl, Nat.zero_le _, Nat.zero_le _, rfl, fun l hl => absurd hl (by show ¬ l ∈ ([] : List LvB); simp), fun n hn => by
    match n, hn with
    | 0, _ => exact (tvar_wf hi).mono (e := 2) (by omega)
    | 1, _ => exact appT_wf hj hk
    | n + 2, hn => exact absurd hn (by show ¬ n + 2 < 2; omega)⟩
theorem lamT_text {i j k : Nat} (hi : i < 10) (hj : j < 10) (hk : k < 10) : textT 3 (lamT i j k) = [40, 108, 97, 109, 32, 35, UInt8.ofNat (48 + i), 32, 40, 97, 112, 112, 32, 35, UInt8.ofNat (48 + j), 32, 35, UInt8.ofNat (48 + k), 41, 41] := by
  simp [textT, lamT, appT, tvar, Tm.kd, Tm.n, Tm.ls, Tm.ts, Tm.open_, spaced, tword, Lib.decDigits_one hi, Lib.decDigits_one hj, Lib.decDigits_one hk]
theorem lamT_parts (i j k : Nat) : partsT 3 (lamT i j k) = 5 := by simp [partsT, lamT, appT, tvar, Tm.ls, Tm.ts]

theorem lamT_subst : chT (substF (tvar 3) 1) id 3 0 (lamT 0 0 1) = lamT 3 0 4 := by rfl
theorem lamT_lift : chT (liftF 2 0) id 3 0 (lamT 0 0 1) = lamT 2 0 3 := by rfl

set_option maxRecDepth 100000 in
set_option maxHeartbeats 4000000 in
theorem facts_calls (wb wo wc : Nat) (w : World) (ht : Laid wb wo wc w) : Calls Tryz.prog 4 #[] w fun e w' => e = .returned (.bool true) ∧ Below w.heap.size w w' := by
  have t1 : (⟨(textT 3 (lamT 0 0 1)).toArray⟩ : ByteArray) = ⟨#[40, 108, 97, 109, 32, 35, 48, 32, 40, 97, 112, 112, 32, 35, 48, 32, 35, 49, 41, 41]⟩ := by rw [lamT_text (by omega) (by omega) (by omega)]; rfl
  have t2 : (⟨(textT 1 (tvar 3)).toArray⟩ : ByteArray) = ⟨#[35, 51]⟩ := by
    have : textT 1 (tvar 3) = [35, 51] := by simp [textT, tvar, Tm.kd, Tm.n, Lib.decDigits_one]
    rw [this]
  obtain ⟨r1, e1⟩ := textT_right (lamT_good (i := 0) (j := 0) (k := 1) (by omega) (by omega) (by omega))
  obtain ⟨r2, e2⟩ := textT_right (tvar_good (n := 3) (by omega))
  rw [t1] at r1 e1
  rw [t2] at r2 e2
  have K1 := hide (tparse_good _ 3 (lamT 0 0 1) _ w (by decide +kernel) r1 e1 ht.t)
  have K2 : Hid (∀ W, Laid wb wo wc W → _) := fun W hW => tparse_good _ 1 (tvar 3) _ W (by decide +kernel) r2 e2 hW.t
  have HL := hide ht
  clear t1 t2 r1 r2 e1 e2 ht
  go_enter Tryz.func4, Tryz.ntmps4
  go_wp2_with (go_at_call 11; refine K1.out.mono ?_)
  rintro e w1 ⟨ka, na, nma, Aa, laa, lca, Ab, taa, tca, rfl, hin1, hb1⟩
  have HT1 := hide (TB5.new hin1)
  have HL1 := hide ((HL.out.later hb1).alloc (.cells #[.int .i64 ka, .int .i64 na, .string nma, .slice Aa laa lca, .slice Ab taa tca] 29))
  have HW1 := hide (Below.al hb1 (.cells #[.int .i64 ka, .int .i64 na, .string nma, .slice Aa laa lca, .slice Ab taa tca] 29))
  clear hin1 hb1 K1 HL
  go_wp2_with (go_at_call 11; refine (K2.out _ HL1.out).mono ?_)
  rintro e w2 ⟨kb, nb, nmb, Ba, lab, lcb, Bb, tab, tcb, rfl, hin2, hb2⟩
  have HT2 := hide (TB5.new hin2)
  have HA2 := hide ((HT1.out.later hb2).alloc (.cells #[.int .i64 kb, .int .i64 nb, .string nmb, .slice Ba lab lcb, .slice Bb tab tcb] 29))
  have HL2 := hide ((HL1.out.later hb2).alloc (.cells #[.int .i64 kb, .int .i64 nb, .string nmb, .slice Ba lab lcb, .slice Bb tab tcb] 29))
  have HW2 := hide (Below.al (Below.go HW1.out hb2) (.cells #[.int .i64 kb, .int .i64 nb, .string nmb, .slice Ba lab lcb, .slice Bb tab tcb] 29))
  clear hin2 hb2 K2 HT1 HL1 HW1
  have KS := hide (q_subst (lamT_wf (by omega) (by omega) (by omega)) (tvar_wf (by omega)) (by omega) (by omega) HA2.out.inn HT2.out.inn)
  rw [lamT_subst] at KS
  obtain ⟨a0, a1, a2, a3, a4⟩ := HA2.out.cells
  have al := HA2.out.lt
  obtain ⟨b0, b1, b2, b3, b4⟩ := HT2.out.cells
  have bl := HT2.out.lt
  go_wp2_with (go_at_call 9; refine KS.out.mono ?_)
  rintro e w3 ⟨kz, nz, nmz, Az, lz, cz, Az', lz', cz', rfl, hinz, hb3⟩
  have HA3 := hide (HA2.out.later hb3)
  have HL3 := hide (HL2.out.later hb3)
  have HW3 := hide (Below.go HW2.out hb3)
  have KP := hide (q_print (X := ⟨#[40, 108, 97, 109, 32, 35, 51, 32, 40, 97, 112, 112, 32, 35, 48, 32, 35, 52, 41, 41]⟩) HL3.out ((lamT_wf (i := 3) (j := 0) (k := 4) (by omega) (by omega) (by omega)).mono (by omega)) (by rw [partsT_fuel (e := 3) (lamT_wf (by omega) (by omega) (by omega)) (by omega), lamT_parts]; omega) hinz.any (by rw [textT_fuel (e := 3) (lamT_wf (by omega) (by omega) (by omega)) (by omega), lamT_text (by omega) (by omega) (by omega)]; rfl))
  clear hinz hb3 KS HA2 HT2 HL2 HW2 a0 a1 a2 a3 a4 al b0 b1 b2 b3 b4 bl
  go_wp2_with (go_at_call 8; refine KP.out.mono ?_)
  intro e w4 h9
  first | (subst h9; intro hb4) | (obtain ⟨rfl, hb4⟩ := h9)
  have HA4 := hide (HA3.out.later hb4)
  have HL4 := hide (HL3.out.later hb4)
  have HW4 := hide (Below.go HW3.out hb4)
  clear hb4 KP HA3 HL3 HW3
  have KL := hide (q_lift 2 0 (by omega) (lamT_wf (by omega) (by omega) (by omega)) (by omega) HA4.out.inn)
  rw [lamT_lift] at KL
  obtain ⟨a0, a1, a2, a3, a4⟩ := HA4.out.cells
  have al := HA4.out.lt
  go_wp2_with (go_at_call 10; refine KL.out.mono ?_)
  rintro e w5 ⟨kz, nz, nmz, Az, lz, cz, Az', lz', cz', rfl, hinz, hb5⟩
  have HL5 := hide (HL4.out.later hb5)
  have HW5 := hide (Below.go HW4.out hb5)
  have KP := hide (q_print (X := ⟨#[40, 108, 97, 109, 32, 35, 50, 32, 40, 97, 112, 112, 32, 35, 48, 32, 35, 51, 41, 41]⟩) HL5.out ((lamT_wf (i := 2) (j := 0) (k := 3) (by omega) (by omega) (by omega)).mono (by omega)) (by rw [partsT_fuel (e := 3) (lamT_wf (by omega) (by omega) (by omega)) (by omega), lamT_parts]; omega) hinz.any (by rw [textT_fuel (e := 3) (lamT_wf (by omega) (by omega) (by omega)) (by omega), lamT_text (by omega) (by omega) (by omega)]; rfl))
  clear hinz hb5 KL HA4 HL4 HW4 a0 a1 a2 a3 a4 al
  go_wp2_with (go_at_call 8; refine KP.out.mono ?_)
  intro e w6 h9
  first | (subst h9; intro hb6) | (obtain ⟨rfl, hb6⟩ := h9)
  have HW6 := hide (Below.go HW5.out hb6)
  clear hb6 KP HW5 HL5
  go_wp2_with fail
  go_ret
  exact ⟨rfl, HW6.out⟩

end Go.Proofs.YtafdlaaohglfdaaGreatDoor
