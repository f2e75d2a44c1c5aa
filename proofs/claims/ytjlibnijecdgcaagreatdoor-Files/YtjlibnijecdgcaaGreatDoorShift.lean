/- The contracts of Apply: the document's (app) and the program's (node). -/
import Derived.Test.YtjlibnijecdgcaaGreatDoorKin

namespace Go.Proofs.YtjlibnijecdgcaaGreatDoor
open Go.RowKit

/-- An application; one of many. -/
def appT (f a : Tm) : Tm := .node 3 0 ⟨#[]⟩ [] [f, a]
def applyT (f : Tm) (xs : List Tm) : Tm := xs.foldl appT f
theorem applyT_succ (f : Tm) (xs : List Tm) (k : Nat) (h : k < xs.length) : applyT f (xs.take (k + 1)) = appT (applyT f (xs.take k)) xs[k] := by
  unfold applyT
  rw [List.take_succ_eq_append_getElem h, List.foldl_append]
  rfl

/-- The terms of a list lie there. -/
def LstT (w : World) (S : Nat → Prop) (d : Nat) (ts : List Tm) (v : Value) : Prop := ∃ (A : Option Addr) (c : Nat), v = .slice A ts.length c ∧ ∀ i (hi : i < ts.length), ∃ b x, A = some ⟨b, 0, none⟩ ∧ S b ∧ Five w b (i * 5) x ∧ InTm w S d ts[i] x
theorem LstT.keep {w w' : World} {S S' : Nat → Prop} (h : ∀ b, b < w.heap.size → S b → S' b ∧ w'.heap[b]? = w.heap[b]?) {d : Nat} {ts : List Tm} {v : Value} (hl : LstT w S d ts v) : LstT w' S' d ts v := by
  obtain ⟨A, c, e, hp⟩ := hl
  refine ⟨A, c, e, fun i hi => ?_⟩
  obtain ⟨b, x, e1, hb, h5, hin⟩ := hp i hi
  exact ⟨b, x, e1, (h b h5.lt hb).1, h5.of_block (h b h5.lt hb).2, hin.keep h⟩

/-- The value is a term, all in blocks of that kind or in new ones. -/
def MadeS (S : Nat → Prop) (w : World) (d : Nat) (t : Tm) (e : Ending) (w' : World) : Prop :=
  ∃ (k n : Int) (nm : ByteArray) (A : Option Addr) (la lc : Nat) (A' : Option Addr) (ta tc : Nat), e = .returned (.agg #[.int .i64 k, .int .i64 n, .string nm, .slice A la lc, .slice A' ta tc]) ∧
    InTm w' (fun b => S b ∨ w.heap.size ≤ b) d t (.agg #[.int .i64 k, .int .i64 n, .string nm, .slice A la lc, .slice A' ta tc]) ∧ Below w.heap.size w w'

theorem pair_in {W : World} {S : Nat → Prop} {d g : Nat} {f a : Tm} {k n : Int} {nm : ByteArray} {A : Option Addr} {m c : Nat} {A' : Option Addr} {m' c' : Nat} {k2 n2 : Int} {nm2 : ByteArray} {B : Option Addr} {l o : Nat} {B' : Option Addr} {l' o' : Nat} {fr : Nat × Nat} (hS : S g)
    (hb : W.heap[g]? = some (.cells #[.int .i64 k, .int .i64 n, .string nm, .slice A m c, .slice A' m' c', .int .i64 k2, .int .i64 n2, .string nm2, .slice B l o, .slice B' l' o'] 43 fr))
    (hf : InTm W S d f (.agg #[.int .i64 k, .int .i64 n, .string nm, .slice A m c, .slice A' m' c'])) (ha : InTm W S d a (.agg #[.int .i64 k2, .int .i64 n2, .string nm2, .slice B l o, .slice B' l' o'])) (cc : Nat) :
    InTm W S (d + 1) (appT f a) (.agg #[.int .i64 3, .int .i64 0, .string ⟨#[]⟩, .slice none 0 0, .slice (some ⟨g, 0, none⟩) 2 cc]) := by
  refine InTm.mk (kd := 3) (n := 0) rfl rfl (fun i hi => absurd hi (by simp)) fun i hi => ?_
  match i, hi with
  | 0, _ => exact ⟨g, _, rfl, hS, ⟨k, n, nm, A, m, c, A', m', c', rfl, by simp [World.cell?, hb], by simp [World.cell?, hb], by simp [World.cell?, hb], by simp [World.cell?, hb], by simp [World.cell?, hb]⟩, hf⟩
  | 1, _ => exact ⟨g, _, rfl, hS, ⟨k2, n2, nm2, B, l, o, B', l', o', rfl, by simp [World.cell?, hb], by simp [World.cell?, hb], by simp [World.cell?, hb], by simp [World.cell?, hb], by simp [World.cell?, hb]⟩, ha⟩
  | i + 2, hi => exact absurd hi (by simp)

theorem step_madeS {ops : Array Oper} {o : Oper} {a : Act} {w : World} {K : Act → World → Prop} {Q : Exit → Act → World → Prop} {E : Prop} {args : Array Value} {f : FuncId} {S : Nat → Prop} {d : Nat} {t : Tm}
    (hg : o.guard = none) (hrun : (execOp a.eval o).run Tryz.prog w = .ok (.enter f args) w) (hc : Calls Tryz.prog f args w fun e w' => MadeS S w d t e w')
    (hK : ∀ (k n : Int) (nm : ByteArray) (A : Option Addr) (la lc : Nat) (A' : Option Addr) (ta tc : Nat) (w' : World), InTm w' (fun b => S b ∨ w.heap.size ≤ b) d t (.agg #[.int .i64 k, .int .i64 n, .string nm, .slice A la lc, .slice A' ta tc]) → Below w.heap.size w w' → K (a.put o.dst (.agg #[.int .i64 k, .int .i64 n, .string nm, .slice A la lc, .slice A' ta tc])) w') :
    if Region.wanted o (yielded ops a.tmps) = true then Oper.wp Tryz.prog o a w K Q else E := by
  have hw : Region.wanted o (yielded ops a.tmps) = true := by simp [Region.wanted, hg]
  rw [if_pos hw]
  unfold Oper.wp
  rw [hrun]
  refine hc.mono ?_
  rintro e w' ⟨k, n, nm, A, la, lc, A', ta, tc, rfl, h1, h2⟩
  exact hK k n nm A la lc A' ta tc w' h1 h2

/-- A term's variable holds a term, the result's block is as it was made, and nothing old has turned. -/
structure Held2 (w : World) (B d : Nat) (t : Tm) (wr : World) : Prop where
  var : ∃ (k n : Int) (nm : ByteArray) (A : Option Addr) (la lc : Nat) (A' : Option Addr) (ta tc : Nat), TVar 43 wr w.heap.size k n nm (.slice A la lc) (.slice A' ta tc) ∧ InTm wr (fun b => b < B ∨ w.heap.size + 2 ≤ b) d t (.agg #[.int .i64 k, .int .i64 n, .string nm, .slice A la lc, .slice A' ta tc])
  zero : TVar 43 wr (w.heap.size + 1) 0 0 ⟨#[]⟩ (.slice none 0 0) (.slice none 0 0)
  old : Below w.heap.size w wr

theorem TVar.set5 {wr : World} {c : Nat} {k n : Int} {nm : ByteArray} {v v' : Value} (h : TVar 43 wr c k n nm v v') (k2 n2 : Int) (nm2 : ByteArray) (u u' : Value) : TVar 43 (set5 wr c (.int .i64 k2) (.int .i64 n2) (.string nm2) u u') c k2 n2 nm2 u u' := by
  unfold TVar at *
  simp [World.setCell, Array.getElem?_modify, h]

/-- A new term is stored in the variable. -/
theorem Held2.store {w wr w1 : World} {B d d' : Nat} {t t' : Tm} (h : Held2 w B d t wr) (hb : Below wr.heap.size wr w1) {k n : Int} {nm : ByteArray} {A : Option Addr} {la lc : Nat} {A' : Option Addr} {ta tc : Nat} {S : Nat → Prop} (hB : B ≤ w.heap.size) (hS : ∀ b, S b → b < B ∨ w.heap.size + 2 ≤ b)
    (hin : InTm w1 S d' t' (.agg #[.int .i64 k, .int .i64 n, .string nm, .slice A la lc, .slice A' ta tc])) : Held2 w B d' t' (set5 w1 w.heap.size (.int .i64 k) (.int .i64 n) (.string nm) (.slice A la lc) (.slice A' ta tc)) := by
  obtain ⟨⟨k0, n0, nm0, A0, a0, c0, A1, a1, c1, hv, _⟩, hz, ho⟩ := h
  have hv1 := hv.of_block (hb.block _ hv.lt)
  have hz1 := hz.of_block (hb.block _ hz.lt)
  refine ⟨⟨_, _, _, _, _, _, _, _, _, hv1.set5 _ _ _ _ _, hin.keep fun b _ hSb => ⟨hS b hSb, set5_block ?_⟩⟩, hz1.of_block (set5_block (by omega)), set5_below (Nat.le_refl _) (ho.trans (hb.mono ho.size))⟩
  rcases hS b hSb with h | h <;> omega

end Go.Proofs.YtjlibnijecdgcaaGreatDoor

/- The contract of the document's Spine. -/
namespace Go.Proofs.YtjlibnijecdgcaaGreatDoor
open Go.RowKit

/-- A spine's head; its arguments, the last ahead. -/
def headT : Nat → Tm → Tm
  | 0, t => t
  | d + 1, t => if t.kd = 3 then headT d (t.ch 0) else t
def backT : Nat → Tm → List Tm
  | 0, _ => []
  | d + 1, t => if t.kd = 3 then t.ch 1 :: backT d (t.ch 0) else []
theorem spine_step {d : Nat} {t : Tm} (h : t.kd = 3) : headT (d + 1) t = headT d (t.ch 0) ∧ backT (d + 1) t = t.ch 1 :: backT d (t.ch 0) := by simp [headT, backT, h]
theorem spine_end {d : Nat} {t : Tm} (h : t.kd ≠ 3) : headT (d + 1) t = t ∧ backT (d + 1) t = [] := by simp [headT, backT, h]
theorem backT_len : ∀ (d : Nat) (t : Tm), (backT d t).length ≤ d
  | 0, _ => by simp [backT]
  | d + 1, t => by
    unfold backT
    split
    · have := backT_len d (t.ch 0); simp only [List.length_cons]; omega
    · simp

theorem var_open {wr : World} {S : Nat → Prop} {e c : Nat} {u : Tm} {k n : Int} {nm : ByteArray} {A : Option Addr} {la lc : Nat} {A' : Option Addr} {ta tc : Nat} (hv : TVar 43 wr c k n nm (.slice A la lc) (.slice A' ta tc)) (hin : InTm wr S (e + 1) u (.agg #[.int .i64 k, .int .i64 n, .string nm, .slice A la lc, .slice A' ta tc])) :
    ∃ (A : Option Addr) (lc : Nat) (A' : Option Addr) (tc : Nat), TVar 43 wr c (u.kd : Nat) (u.n : Nat) u.nm (.slice A u.ls.length lc) (.slice A' u.ts.length tc) ∧ InTm wr S (e + 1) u (.agg #[.int .i64 (u.kd : Nat), .int .i64 (u.n : Nat), .string u.nm, .slice A u.ls.length lc, .slice A' u.ts.length tc]) ∧
      ∀ i (hi : i < u.ts.length), ∃ b x, A' = some ⟨b, 0, none⟩ ∧ S b ∧ Five wr b (i * 5) x ∧ InTm wr S e u.ts[i] x := by
  have h0 := hin
  obtain ⟨A1, c1, A2, c2, ev, hl, ht⟩ := hin
  refine ⟨A1, c1, A2, c2, ?_, by rw [← ev]; exact h0, ht⟩
  injection ev with ev
  unfold TVar at *
  have e1 : ([Value.int .i64 k, .int .i64 n, .string nm, .slice A la lc, .slice A' ta tc]).toArray = [Value.int .i64 (u.kd : Nat), .int .i64 (u.n : Nat), .string u.nm, .slice A1 u.ls.length c1, .slice A2 u.ts.length c2].toArray := ev
  rw [hv]
  show some (Obj.cells ([Value.int .i64 k, .int .i64 n, .string nm, .slice A la lc, .slice A' ta tc]).toArray 43 (0, 0)) = _
  rw [e1]

/-- A spine that is being taken apart: the variable holds u, so many arguments lie in the row. -/
structure SpSt (w : World) (B d k e : Nat) (L : List Tm) (u : Tm) (wr : World) (rv : Value) (xs : List Value) : Prop where
  var : ∃ (k n : Int) (nm : ByteArray) (A : Option Addr) (la lc : Nat) (A' : Option Addr) (ta tc : Nat), TVar 43 wr w.heap.size k n nm (.slice A la lc) (.slice A' ta tc) ∧ InTm wr (fun b => b < B) e u (.agg #[.int .i64 k, .int .i64 n, .string nm, .slice A la lc, .slice A' ta tc])
  zero : TVar 43 wr (w.heap.size + 1) 0 0 ⟨#[]⟩ (.slice none 0 0) (.slice none 0 0)
  old : Below w.heap.size w wr
  row : GRow (TK d L) wr 43 5 B (w.heap.size + 2) k rv xs

/-- One argument more, and the variable holds the function. -/
theorem SpSt.next {w wr w5 w6 : World} {B d k e e' : Nat} {L : List Tm} {u u' : Tm} {rv rv' : Value} {xs : List Value} (h : SpSt w B d k e L u wr rv xs) (hB : B ≤ w.heap.size) {a : Array Value} (hw : Below wr.heap.size wr w5) (hk : k < L.length) (hx : InTm w5 (fun b => b < B ∨ wr.heap.size ≤ b) d L[k] (.agg a)) (ha : a.size = 5)
    (hown : w6.ownsRow (w.heap.size + 2) 43 5 rv' (k + 1) (flat xs ++ a.toList)) (hgr : (w5.alloc (.cells a 43)).grownBy w6 rv.ownBlock) (hpl : rv'.ownBlock = rv.ownBlock ∨ rv'.ownBlock = some (w5.alloc (.cells a 43)).heap.size)
    {k1 n1 : Int} {nm1 : ByteArray} {A1 : Option Addr} {l1 c1 : Nat} {A2 : Option Addr} {l2 c2 : Nat} (hu : InTm wr (fun b => b < B) e' u' (.agg #[.int .i64 k1, .int .i64 n1, .string nm1, .slice A1 l1 c1, .slice A2 l2 c2])) :
    SpSt w B d (k + 1) e' L u' (set5 w6 w.heap.size (.int .i64 k1) (.int .i64 n1) (.string nm1) (.slice A1 l1 c1) (.slice A2 l2 c2)) rv' (xs ++ [.agg a]) ∧ ∀ b, b < wr.heap.size → rv.ownBlock ≠ some b → w6.heap[b]? = wr.heap[b]? := by
  obtain ⟨⟨k0, n0, nm0, A0, a0, c0, A3, a3, c3, hv, _⟩, hz, ho, hr⟩ := h
  have hsz := hw.size
  have hblk : ∀ b, b < wr.heap.size → rv.ownBlock ≠ some b → w6.heap[b]? = wr.heap[b]? := fun b hb hne => by
    rw [hgr.block b (by simp; omega) (fun e => hne e.symm), Below.heap_alloc _ _ _ (by omega)]
    exact hw.block b hb
  have hne : ∀ b, b < w.heap.size + 2 → rv.ownBlock ≠ some b := fun b hb e => by have := (hr.own.lt b e).1; omega
  have hl := hv.lt
  have hl2 := hz.lt
  have hrow := GRow.push (TK.keeps _ _) hr (m := wr.heap.size) (by omega) (by omega) (fun g e => (hr.own.lt g e).2) hw ⟨hk, hx⟩ ha hown hgr hpl
  have hv6 := hv.of_block (hblk _ hl (hne _ (by omega)))
  have hz6 := hz.of_block (hblk _ hl2 (hne _ (by omega)))
  have ho6 : Below w.heap.size w w6 := Below.grown ((ho.trans (hw.mono ho.size)).alloc (by have := ho.size; omega) (.cells a 43)) hgr (by simp; have := ho.size; omega) (fun j hj => by have := (hr.own.lt j hj).1; omega)
  refine ⟨⟨⟨_, _, _, _, _, _, _, _, _, hv6.set5 _ _ _ _ _, hu.keep fun b hb hS => ⟨hS, ?_⟩⟩, hz6.of_block (set5_block (by omega)), set5_below (Nat.le_refl _) ho6, ?_⟩, hblk⟩
  · rw [set5_block (by omega)]; exact hblk b hb (hne b (by omega))
  · exact GRow.set (TK.keeps _ _) (GRow.set (TK.keeps _ _) (GRow.set (TK.keeps _ _) (GRow.set (TK.keeps _ _) (GRow.set (TK.keeps _ _) hrow (by omega) hB _) (by omega) hB _) (by omega) hB _) (by omega) hB _) (by omega) hB _

/-- The parts are the terms of a list, none in block r. -/
def TKN (r d : Nat) (ts : List Tm) (W : World) (S : Nat → Prop) (j : Nat) (v : Value) : Prop := ∃ h : j < ts.length, InTm W (fun b => S b ∧ b ≠ r) d ts[j] v
theorem TKN.keeps (r d : Nat) (ts : List Tm) : Keeps (TKN r d ts) := fun _ _ _ _ _ _ h ⟨hj, hp⟩ => ⟨hj, hp.keep fun b hb hS => ⟨⟨(h b hb hS.1).1, hS.2⟩, (h b hb hS.1).2⟩⟩

theorem lst_of_row {W w' : World} {r B n0 d : Nat} {ts : List Tm} {rv : Value} {xs : List Value} (h : GRow (TKN r d ts) W 43 5 B n0 ts.length rv xs) (hr : r < n0) (hk : ∀ b, b < W.heap.size → b ≠ r → w'.heap[b]? = W.heap[b]?) :
    ∃ A c, rv = .slice A ts.length c ∧ LstT w' (fun _ => True) d ts (.slice A ts.length c) := by
  obtain ⟨A, c, e, hp⟩ := h.out (TKN.keeps _ _ _)
  refine ⟨A, c, e, A, c, rfl, fun i hi => ?_⟩
  obtain ⟨g, a, ea, hg, hz, hc, _, hin⟩ := hp i hi
  obtain ⟨k, n, nm, A1, m1, c1, A2, m2, c2, ev⟩ := hin.form
  have hin' := hin.keep (w' := w') (S' := fun _ => True) fun b hb hS => ⟨trivial, hk b hb hS.2⟩
  injection ev with ev
  subst ev
  have h5 : Five W g (i * 5) (.agg #[.int .i64 k, .int .i64 n, .string nm, .slice A1 m1 c1, .slice A2 m2 c2]) := ⟨k, n, nm, A1, m1, c1, A2, m2, c2, rfl, by simpa using hc 0 (by omega), by simpa using hc 1 (by omega), by simpa using hc 2 (by omega), by simpa using hc 3 (by omega), by simpa using hc 4 (by omega)⟩
  exact ⟨g, _, ea, trivial, h5.of_block (hk g h5.lt (by omega)), hin'⟩

/-- What Spine answers. -/
def Spined (w : World) (d : Nat) (h : Tm) (xs : List Tm) (e : Ending) (w' : World) : Prop :=
  ∃ (k n : Int) (nm : ByteArray) (A : Option Addr) (la lc : Nat) (A' : Option Addr) (ta tc : Nat) (A2 : Option Addr) (c2 : Nat), e = .returned (.tuple #[.agg #[.int .i64 k, .int .i64 n, .string nm, .slice A la lc, .slice A' ta tc], .slice A2 xs.length c2]) ∧
    InTm w' (fun _ => True) d h (.agg #[.int .i64 k, .int .i64 n, .string nm, .slice A la lc, .slice A' ta tc]) ∧ LstT w' (fun _ => True) d xs (.slice A2 xs.length c2) ∧ Below w.heap.size w w'

end Go.Proofs.YtjlibnijecdgcaaGreatDoor

/- Laws of lifting and substituting, of spines, of sizes. Plain Lean, no walk. -/
namespace Go.Proofs.YtjlibnijecdgcaaGreatDoor
open Go.RowKit

theorem WfT.kid {d : Nat} {t : Tm} (h : WfT (d + 1) t) (i : Nat) (hi : i < t.ts.length) : WfT d t.ts[i] := h.2.2.2.2.2.2.2.2.2 i hi

/-- All variables' numbers are at most m. -/
def IdxT (m : Nat) : Nat → Tm → Prop
  | 0, _ => True
  | d + 1, t => t.n ≤ m ∧ ∀ i (hi : i < t.ts.length), IdxT m d t.ts[i]

theorem IdxT.mono {m : Nat} : ∀ {d e : Nat} {t : Tm}, WfT d t → IdxT m d t → d ≤ e → IdxT m e t
  | 0, _, _, h, _, _ => absurd h (by simp [WfT])
  | d + 1, 0, _, _, _, h => absurd h (by omega)
  | d + 1, e + 1, _, hw, ⟨h1, h2⟩, he => ⟨h1, fun i hi => (h2 i hi).mono (hw.kid i hi) (by omega)⟩
theorem IdxT.weak {m m' : Nat} (hm : m ≤ m') : ∀ {d : Nat} {t : Tm}, IdxT m d t → IdxT m' d t
  | 0, _, _ => trivial
  | d + 1, _, ⟨h1, h2⟩ => ⟨by omega, fun i hi => (h2 i hi).weak hm⟩

theorem tvar_wf {n : Nat} (h : n ≤ 900000) : WfT 1 (tvar n) :=
  ⟨Nat.zero_le _, h, fun _ => ⟨rfl, rfl, rfl⟩, fun hk => absurd rfl hk, fun _ => rfl, Nat.zero_le _, Nat.zero_le _, rfl, fun _ hl => absurd hl (by show ¬ _ ∈ ([] : List LvB); simp), fun i hi => absurd hi (by show ¬ i < 0; omega)⟩
theorem tvar_idx {n m : Nat} (h : n ≤ m) : IdxT m 1 (tvar n) := ⟨h, fun i hi => absurd hi (by show ¬ i < 0; omega)⟩

section
variable {f g f' f'' : Nat → Nat → Tm}

theorem chT_fuel {h : LvB → LvB} : ∀ {e e' b : Nat} {t : Tm}, WfT e t → e ≤ e' → chT f h e' b t = chT f h e b t
  | 0, _, _, _, h, _ => absurd h (by simp [WfT])
  | e + 1, 0, _, _, _, h => absurd h (by omega)
  | e + 1, e' + 1, b, t, hw, he => by
    by_cases hk : t.kd = 0
    · by_cases hn : t.n < b
      · rw [chT_low hk hn, chT_low hk hn]
      · rw [chT_free hk hn, chT_free hk hn]
    · rw [chT_node hk, chT_node hk]
      congr 1
      refine List.ext_getElem (by simp) fun i h1 h2 => ?_
      rw [List.getElem_mapIdx, List.getElem_mapIdx]
      exact chT_fuel (hw.kid i (by simpa using h2)) (by omega)

/-- What is made of a well formed term is well formed. -/
theorem chT_wf {m m' e D : Nat} (hm : m ≤ m') (hm' : m' ≤ 900000) (he : 0 < e) (hf : ∀ M b, M ≤ m → b ≤ D → WfT e (f M b) ∧ IdxT m' e (f M b)) :
    ∀ {d b : Nat} {t : Tm}, WfT d t → IdxT m d t → b + d ≤ D → WfT (d + e) (chT f id d b t) ∧ IdxT m' (d + e) (chT f id d b t)
  | 0, _, _, h, _, _ => absurd h (by simp [WfT])
  | d + 1, b, t, hw, hx, hb => by
    by_cases hk : t.kd = 0
    · by_cases hn : t.n < b
      · rw [chT_low hk hn]
        have h1 := tvar_wf (n := t.n) hw.2.1
        exact ⟨h1.mono (by omega), (tvar_idx (Nat.le_trans hx.1 hm)).mono h1 (by omega)⟩
      · rw [chT_free hk hn]
        obtain ⟨h1, h2⟩ := hf (t.n - b) b (by have := hx.1; omega) (by omega)
        exact ⟨h1.mono (by omega), h2.mono h1 (by omega)⟩
    · rw [chT_node hk]
      have e1 : d + 1 + e = (d + e) + 1 := by omega
      rw [e1]
      have kids : ∀ i (hi : i < (t.ts.mapIdx fun i x => chT f id d (b + t.bnd i) x).length), WfT (d + e) ((t.ts.mapIdx fun i x => chT f id d (b + t.bnd i) x)[i]) ∧ IdxT m' (d + e) ((t.ts.mapIdx fun i x => chT f id d (b + t.bnd i) x)[i]) := fun i hi => by
        have hi' : i < t.ts.length := by simpa using hi
        rw [List.getElem_mapIdx]
        exact chT_wf hm hm' he hf (hw.kid i hi') (hx.2 i hi') (by have := t.bnd_le i; omega)
      obtain ⟨a1, a2, _, a4, a5, a6, a7, a8, a9, _⟩ := hw
      refine ⟨⟨a1, a2, fun h => absurd h hk, a4, a5, a6, by show (t.ls.map id).length ≤ _; rw [List.length_map]; exact a7, by show (t.ts.mapIdx _).length = _; rw [List.length_mapIdx]; exact a8, fun l hl => ?_, fun i hi => (kids i hi).1⟩, ⟨Nat.le_trans hx.1 hm, fun i hi => (kids i hi).2⟩⟩
      have hl' : l ∈ t.ls.map id := hl
      rw [List.map_id] at hl'
      exact a9 l hl'

/-- One making behind the other. -/
theorem chT_comp {k m e D : Nat} (hf : ∀ M b, M ≤ m → b ≤ D → WfT e (f M b) ∧ chT f' id e (k + b) (f M b) = f'' M b) :
    ∀ {d b : Nat} {t : Tm}, WfT d t → IdxT m d t → b + d ≤ D → chT f' id (d + e) (k + b) (chT f id d b t) = chT f'' id d b t
  | 0, _, _, h, _, _ => absurd h (by simp [WfT])
  | d + 1, b, t, hw, hx, hb => by
    have e1 : d + 1 + e = (d + e) + 1 := by omega
    by_cases hk : t.kd = 0
    · by_cases hn : t.n < b
      · rw [chT_low hk hn, chT_low hk hn, e1, chT_low rfl (by show t.n < _; omega)]
        rfl
      · rw [chT_free hk hn, chT_free hk hn]
        obtain ⟨h1, h2⟩ := hf (t.n - b) b (by have := hx.1; omega) (by omega)
        rw [chT_fuel h1 (by omega)]
        exact h2
    · rw [chT_node hk, chT_node hk, e1, chT_node (t := .node t.kd t.n t.nm (t.ls.map id) (t.ts.mapIdx fun i x => chT f id d (b + t.bnd i) x)) hk]
      refine Tm.ext rfl rfl rfl ?_ ?_
      · show (t.ls.map id).map id = t.ls.map id
        simp
      · show ((t.ts.mapIdx fun i x => chT f id d (b + t.bnd i) x).mapIdx fun i x => chT f' id (d + e) (k + b + (Tm.node t.kd t.n t.nm (t.ls.map id) (t.ts.mapIdx fun i x => chT f id d (b + t.bnd i) x)).bnd i) x) = t.ts.mapIdx fun i x => chT f'' id d (b + t.bnd i) x
        refine List.ext_getElem (by simp) fun i h1 h2 => ?_
        have hi : i < t.ts.length := by simpa using h2
        rw [List.getElem_mapIdx, List.getElem_mapIdx, List.getElem_mapIdx]
        have eb : (Tm.node t.kd t.n t.nm (t.ls.map id) (t.ts.mapIdx fun i x => chT f id d (b + t.bnd i) x)).bnd i = t.bnd i := by
          unfold Tm.bnd
          show (if 4 ≤ t.kd ∧ i + 1 = (t.ts.mapIdx fun i x => chT f id d (b + t.bnd i) x).length then 1 else 0) = _
          rw [List.length_mapIdx]
        rw [eb, Nat.add_assoc]
        exact chT_comp hf (hw.kid i hi) (hx.2 i hi) (by have := t.bnd_le i; omega)
end

theorem chT_tvar {f : Nat → Nat → Tm} {h : LvB → LvB} {n b : Nat} (hn : b ≤ n) : chT f h 1 b (tvar n) = f (n - b) b := chT_free (t := tvar n) rfl (by show ¬ n < b; omega)

/-- What was lifted by one and substituted is what it was. -/
theorem subst_lift (u : Tm) (eu : Nat) {d : Nat} {t : Tm} (hw : WfT d t) (hx : IdxT 99999 d t) (hd : d ≤ 100000) : chT (substF u eu) id (d + 1) 0 (chT (liftF 1 0) id d 0 t) = t := by
  have h := chT_comp (f := liftF 1 0) (f' := substF u eu) (f'' := liftF 0 0) (k := 0) (m := 99999) (e := 1) (D := 100000) (fun M b hM hb => ?_) (d := d) (b := 0) hw hx (by omega)
  · rw [Nat.zero_add] at h
    rw [h]
    exact chT_copy hw
  · have e1 : liftF 1 0 M b = tvar (M + 1 + b) := by unfold liftF; rw [if_pos (Nat.zero_le _)]
    rw [e1]
    refine ⟨tvar_wf (by omega), ?_⟩
    rw [chT_tvar (by omega)]
    unfold substF
    rw [if_neg (by omega)]
    unfold liftF
    rw [if_pos (Nat.zero_le _)]
    congr 1
    omega

/-- Two liftings, either way. -/
theorem lift_lift (n k c : Nat) (hk : k ≤ 100000) {e : Nat} {t : Tm} (hw : WfT e t) (hx : IdxT 99999 e t) (hc : c + e ≤ 100000) :
    chT (liftF 2 n) id (e + 1) (k + c) (chT (liftF k 0) id e c t) = chT (liftF k 0) id (e + 1) c (chT (liftF 2 n) id e c t) := by
  have h1 := chT_comp (f := liftF k 0) (f' := liftF 2 n) (f'' := fun M b => tvar ((if n ≤ M then M + 2 else M) + (k + b))) (k := k) (m := 99999) (e := 1) (D := 100000) (fun M b hM hb => ?_) (d := e) (b := c) hw hx hc
  · have h2 := chT_comp (f := liftF 2 n) (f' := liftF k 0) (f'' := fun M b => tvar ((if n ≤ M then M + 2 else M) + (k + b))) (k := 0) (m := 99999) (e := 1) (D := 100000) (fun M b hM hb => ?_) (d := e) (b := c) hw hx hc
    · rw [h1, ← h2, Nat.zero_add]
    · have e1 : liftF 2 n M b = tvar ((if n ≤ M then M + 2 else M) + b) := rfl
      rw [e1]
      have hle : (if n ≤ M then M + 2 else M) ≤ M + 2 := by split <;> omega
      refine ⟨tvar_wf (by omega), ?_⟩
      rw [chT_tvar (by omega)]
      unfold liftF
      rw [if_pos (Nat.zero_le _)]
      congr 1
      omega
  · have e1 : liftF k 0 M b = tvar (M + k + b) := by unfold liftF; rw [if_pos (Nat.zero_le _)]
    rw [e1]
    refine ⟨tvar_wf (by omega), ?_⟩
    rw [chT_tvar (by omega)]
    have e2 : M + k + b - (k + b) = M := by omega
    rw [e2]
    rfl

theorem lift_wf {n f0 m : Nat} (hn : m + n + 100000 ≤ 900000) {d b : Nat} {t : Tm} (hw : WfT d t) (hx : IdxT m d t) (hb : b + d ≤ 100000) : WfT (d + 1) (chT (liftF n f0) id d b t) ∧ IdxT (m + n + 100000) (d + 1) (chT (liftF n f0) id d b t) := by
  refine chT_wf (m := m) (D := 100000) (by omega) hn (by omega) (fun M b hM hb => ?_) hw hx hb
  have hle : (if f0 ≤ M then M + n else M) ≤ M + n := by split <;> omega
  exact ⟨tvar_wf (by omega), tvar_idx (by omega)⟩

theorem subst_wf {u : Tm} {e d : Nat} {t : Tm} (hu : WfT e u) (hxu : IdxT 99999 e u) (he : e ≤ 100000) (hw : WfT d t) (hx : IdxT 99999 d t) (hd : d ≤ 100000) : WfT (d + (e + 1)) (chT (substF u e) id d 0 t) ∧ IdxT 299999 (d + (e + 1)) (chT (substF u e) id d 0 t) := by
  refine chT_wf (m := 99999) (D := 100000) (by omega) (by omega) (by omega) (fun M b hM hb => ?_) hw hx (by omega)
  unfold substF
  split
  · obtain ⟨h1, h2⟩ := lift_wf (n := b) (f0 := 0) (m := 99999) (by omega) (b := 0) hu hxu (by omega)
    exact ⟨h1, h2.weak (by omega)⟩
  · exact ⟨(tvar_wf (by omega)).mono (by omega), (tvar_idx (m := 299999) (by omega)).mono (tvar_wf (by omega)) (by omega)⟩

/-- What was substituted, lifted from n on, is what was lifted from n + 1 on, with what is lifted. -/
theorem lift_subst (n : Nat) {u : Tm} {e d : Nat} {t : Tm} (hu : WfT e u) (hxu : IdxT 99999 e u) (he : e ≤ 100000) (hw : WfT d t) (hx : IdxT 99999 d t) (hd : d ≤ 100000) :
    chT (liftF 2 n) id (d + (e + 1)) 0 (chT (substF u e) id d 0 t) = chT (substF (chT (liftF 2 n) id e 0 u) (e + 1)) id (d + 1) 0 (chT (liftF 2 (n + 1)) id d 0 t) := by
  have h1 := chT_comp (f := substF u e) (f' := liftF 2 n) (f'' := fun M b => if M = 0 then chT (liftF b 0) id (e + 1) 0 (chT (liftF 2 n) id e 0 u) else tvar ((if n ≤ M - 1 then M - 1 + 2 else M - 1) + b)) (k := 0) (m := 99999) (e := e + 1) (D := 100000) (fun M b hM hb => ?_) (d := d) (b := 0) hw hx (by omega)
  · have h2 := chT_comp (f := liftF 2 (n + 1)) (f' := substF (chT (liftF 2 n) id e 0 u) (e + 1)) (f'' := fun M b => if M = 0 then chT (liftF b 0) id (e + 1) 0 (chT (liftF 2 n) id e 0 u) else tvar ((if n ≤ M - 1 then M - 1 + 2 else M - 1) + b)) (k := 0) (m := 99999) (e := 1) (D := 100000) (fun M b hM hb => ?_) (d := d) (b := 0) hw hx (by omega)
    · rw [Nat.zero_add] at h1 h2
      rw [h1, h2]
    · have e1 : liftF 2 (n + 1) M b = tvar ((if n + 1 ≤ M then M + 2 else M) + b) := rfl
      rw [e1]
      have hle : (if n + 1 ≤ M then M + 2 else M) ≤ M + 2 := by split <;> omega
      refine ⟨tvar_wf (by omega), ?_⟩
      rw [chT_tvar (by omega)]
      unfold substF
      by_cases hM0 : M = 0
      · subst hM0
        rw [if_pos (by rw [if_neg (by omega)]; omega), if_pos rfl, Nat.zero_add]
      · rw [if_neg hM0]
        by_cases hc : n + 1 ≤ M
        · rw [if_pos hc, if_neg (by omega), if_pos (by omega)]
          congr 1
          omega
        · rw [if_neg hc, if_neg (by omega), if_neg (by omega)]
          congr 1
          omega
  · unfold substF
    by_cases hM0 : M = 0
    · rw [if_pos hM0, if_pos hM0]
      obtain ⟨h1, _⟩ := lift_wf (n := b) (f0 := 0) (m := 99999) (by omega) (b := 0) hu hxu (by omega)
      refine ⟨h1, ?_⟩
      rw [Nat.zero_add]
      have := lift_lift n b 0 hb hu hxu (by omega)
      rw [Nat.add_zero] at this
      exact this
    · rw [if_neg hM0, if_neg hM0]
      have h1 := tvar_wf (n := M - 1 + b) (by omega)
      refine ⟨h1.mono (by omega), ?_⟩
      rw [chT_fuel h1 (by omega), chT_tvar (by omega)]
      have e2 : M - 1 + b - (0 + b) = M - 1 := by omega
      rw [e2, Nat.zero_add]
      rfl

/-- What is closed is left alone by a lifting. -/
theorem lift_closed (k n : Nat) : ∀ {d b : Nat} {t : Tm}, WfT d t → closedT d (n + b) t = true → chT (liftF k n) id d b t = t
  | 0, _, _, h, _ => absurd h (by simp [WfT])
  | d + 1, b, t, hw, hc => by
    unfold closedT at hc
    by_cases hk : t.kd = 0
    · rw [if_pos hk] at hc
      have hn2 := of_decide_eq_true hc
      by_cases hn : t.n < b
      · rw [chT_low hk hn]; exact tvar_of hw hk
      · rw [chT_free hk hn]
        have e : liftF k n (t.n - b) b = tvar t.n := by unfold liftF; rw [if_neg (by omega)]; congr 1; omega
        rw [e]; exact tvar_of hw hk
    · rw [if_neg hk] at hc
      rw [chT_node hk]
      refine Tm.ext rfl rfl rfl (by show t.ls.map id = t.ls; simp) ?_
      show (t.ts.mapIdx fun i x => chT (liftF k n) id d (b + t.bnd i) x) = t.ts
      refine List.ext_getElem (by simp) fun i h1 h2 => ?_
      rw [List.getElem_mapIdx]
      refine lift_closed k n (hw.kid i h2) ?_
      have := List.all_eq_true.1 hc i (List.mem_range.2 h2)
      rw [Tm.ch_eq h2, Nat.add_assoc] at this
      exact this

/-- An application has no levels of its own. -/
def BareT : Nat → Tm → Prop
  | 0, _ => True
  | d + 1, t => (t.kd = 3 → t.ls = []) ∧ ∀ i (hi : i < t.ts.length), BareT d t.ts[i]

theorem applyT_snoc (f : Tm) (xs : List Tm) (x : Tm) : applyT f (xs ++ [x]) = appT (applyT f xs) x := by unfold applyT; rw [List.foldl_append]; rfl

/-- A spine applied again. -/
theorem apply_spine : ∀ {d : Nat} {t : Tm}, WfT d t → BareT d t → applyT (headT d t) (backT d t).reverse = t
  | 0, _, h, _ => absurd h (by simp [WfT])
  | d + 1, t, hw, hb => by
    by_cases hk : t.kd = 3
    · obtain ⟨e1, e2⟩ := spine_step (d := d) hk
      have hl : t.ts.length = 2 := by rw [hw.2.2.2.2.2.2.2.1, hk]; rfl
      rw [e1, e2, List.reverse_cons, applyT_snoc, Tm.ch_eq (i := 0) (by omega), apply_spine (hw.kid 0 (by omega)) (hb.2 0 (by omega))]
      refine Tm.ext hk.symm (hw.2.2.2.1 (by omega)).symm (hw.2.2.2.2.1 (by omega)).symm (hb.1 hk).symm ?_
      rw [Tm.ch_eq (i := 1) (by omega)]
      show [t.ts[0], t.ts[1]] = t.ts
      refine List.ext_getElem (by simp [hl]) fun i h1 h2 => ?_
      match i, h1 with
      | 0, _ => rfl
      | 1, _ => rfl
    · obtain ⟨e1, e2⟩ := spine_end (d := d) hk
      rw [e1, e2]
      rfl

theorem partsT_fuel : ∀ {e e' : Nat} {t : Tm}, WfT e t → e ≤ e' → partsT e' t = partsT e t
  | 0, _, _, h, _ => absurd h (by simp [WfT])
  | e + 1, 0, _, _, h => absurd h (by omega)
  | e + 1, e' + 1, t, hw, he => by
    unfold partsT
    congr 2
    refine List.map_congr_left fun x hx => ?_
    obtain ⟨i, hi, rfl⟩ := List.getElem_of_mem hx
    exact partsT_fuel (hw.kid i hi) (by omega)
theorem textT_fuel : ∀ {e e' : Nat} {t : Tm}, WfT e t → e ≤ e' → textT e' t = textT e t
  | 0, _, _, h, _ => absurd h (by simp [WfT])
  | e + 1, 0, _, _, h => absurd h (by omega)
  | e + 1, e' + 1, t, hw, he => by
    unfold textT
    split
    · rfl
    · have : spaced (textT e') t.ts = spaced (textT e) t.ts := by
        unfold spaced
        refine congrArg List.flatten (List.map_congr_left fun x hx => ?_)
        obtain ⟨i, hi, rfl⟩ := List.getElem_of_mem hx
        rw [textT_fuel (hw.kid i hi) (by omega)]
      rw [this]

theorem sum_scale {α : Type} (F G : α → Nat) (P : Nat) : ∀ (l : List α), (∀ x ∈ l, F x ≤ G x * P) → (l.map F).sum ≤ (l.map G).sum * P
  | [], _ => by simp
  | x :: l, h => by
    have := sum_scale F G P l fun y hy => h y (by simp [hy])
    have := h x (by simp)
    simp only [List.map_cons, List.sum_cons, Nat.add_mul]
    omega

/-- How large what is made may be. -/
theorem chT_parts {f : Nat → Nat → Tm} {m e P D : Nat} (hP : 1 ≤ P) (hf : ∀ M b, M ≤ m → b ≤ D → WfT e (f M b) ∧ partsT e (f M b) ≤ P) : ∀ {d b : Nat} {t : Tm}, WfT d t → IdxT m d t → b + d ≤ D → partsT (d + e) (chT f id d b t) ≤ partsT d t * P
  | 0, _, _, h, _, _ => absurd h (by simp [WfT])
  | d + 1, b, t, hw, hx, hb => by
    have e1 : d + 1 + e = (d + e) + 1 := by omega
    have hp1 : 1 ≤ partsT (d + 1) t := by unfold partsT; omega
    by_cases hk : t.kd = 0
    · by_cases hn : t.n < b
      · rw [chT_low hk hn, e1]
        have : partsT (d + e + 1) (tvar t.n) = 1 := by simp [partsT, tvar, Tm.ls, Tm.ts]
        rw [this]
        exact Nat.mul_le_mul hp1 hP
      · rw [chT_free hk hn]
        obtain ⟨h1, h2⟩ := hf (t.n - b) b (by have := hx.1; omega) (by omega)
        rw [partsT_fuel h1 (by omega)]
        exact Nat.le_trans h2 (Nat.le_mul_of_pos_left _ hp1)
    · rw [chT_node hk, e1]
      show 1 + ((t.ls.map id).map Lv.nodes).sum + ((t.ts.mapIdx fun i x => chT f id d (b + t.bnd i) x).map (partsT (d + e))).sum ≤ (1 + (t.ls.map Lv.nodes).sum + (t.ts.map (partsT d)).sum) * P
      have h1 : ((t.ts.mapIdx fun i x => chT f id d (b + t.bnd i) x).map (partsT (d + e))).sum ≤ (t.ts.map (partsT d)).sum * P := by
        have key : ∀ (ts : List Tm) (k : Nat), (∀ i (hi : i < ts.length), partsT (d + e) (chT f id d (b + t.bnd (k + i)) ts[i]) ≤ partsT d ts[i] * P) → ((ts.mapIdx fun i x => chT f id d (b + t.bnd (k + i)) x).map (partsT (d + e))).sum ≤ (ts.map (partsT d)).sum * P := by
          intro ts
          induction ts with
          | nil => intro k _; simp
          | cons x r ih =>
            intro k h
            have h0 := h 0 (by simp)
            have hr := ih (k + 1) fun i hi => by
              have := h (i + 1) (by simp; omega)
              rw [show k + 1 + i = k + (i + 1) by omega]
              simpa using this
            simp only [List.mapIdx_cons, List.map_cons, List.sum_cons, Nat.add_mul]
            have e2 : (fun i (x : Tm) => chT f id d (b + t.bnd (k + (i + 1))) x) = fun i x => chT f id d (b + t.bnd (k + 1 + i)) x := by
              funext i x; rw [show k + 1 + i = k + (i + 1) by omega]
            rw [e2]
            exact Nat.add_le_add (by simpa using h0) hr
        have := key t.ts 0 fun i hi => by
          rw [Nat.zero_add]
          exact chT_parts hP hf (hw.kid i hi) (hx.2 i hi) (by have := t.bnd_le i; omega)
        simpa using this
      rw [List.map_id, Nat.add_mul, Nat.add_mul]
      have h2 : (t.ls.map Lv.nodes).sum ≤ (t.ls.map Lv.nodes).sum * P := Nat.le_mul_of_pos_right _ hP
      omega

theorem lift_parts {n f0 : Nat} (hn : n ≤ 100000) {m : Nat} (hm : m ≤ 600000) {d b : Nat} {t : Tm} (hw : WfT d t) (hx : IdxT m d t) (hb : b + d ≤ 100000) : partsT (d + 1) (chT (liftF n f0) id d b t) ≤ partsT d t := by
  have h := chT_parts (f := liftF n f0) (m := m) (e := 1) (P := 1) (D := 100000) (Nat.le_refl _) (fun M b hM hb => ?_) hw hx hb
  · rw [Nat.mul_one] at h
    exact h
  · have hle : (if f0 ≤ M then M + n else M) ≤ M + n := by split <;> omega
    exact ⟨tvar_wf (by omega), by unfold liftF; simp [partsT, tvar, Tm.ls, Tm.ts]⟩

theorem subst_parts {u : Tm} {e d : Nat} {t : Tm} (hu : WfT e u) (hxu : IdxT 299999 e u) (he : e ≤ 100000) (hw : WfT d t) (hx : IdxT 299999 d t) (hd : d ≤ 100000) : partsT (d + (e + 1)) (chT (substF u e) id d 0 t) ≤ partsT d t * partsT e u := by
  have hp : 1 ≤ partsT e u := by
    cases e with
    | zero => exact absurd hu (by simp [WfT])
    | succ e => unfold partsT; omega
  refine chT_parts (m := 299999) (D := 100000) hp (fun M b hM hb => ?_) hw hx (by omega)
  unfold substF
  split
  · exact ⟨(lift_wf (n := b) (f0 := 0) (m := 299999) (by omega) (b := 0) hu hxu (by omega)).1, lift_parts (m := 299999) hb (by omega) hu hxu (by omega)⟩
  · refine ⟨(tvar_wf (by omega)).mono (by omega), ?_⟩
    rw [partsT_fuel (tvar_wf (by omega)) (by omega)]
    have : partsT 1 (tvar (M - 1 + b)) = 1 := by simp [partsT, tvar, Tm.ls, Tm.ts]
    omega

end Go.Proofs.YtjlibnijecdgcaaGreatDoor
