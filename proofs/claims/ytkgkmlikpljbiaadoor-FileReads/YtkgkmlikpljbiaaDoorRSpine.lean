/- The contracts of Apply: the document's (app) and the program's (node). -/
import Derived.Test.YtkgkmlikpljbiaaDoorRClosed
import Derived.Test.YtkgkmlikpljbiaaDoorKin

namespace Go.Proofs.YtkgkmlikpljbiaaDoor
open Go.RowKit

/-- An application; one of many. -/
def appT (f a : Tm) : Tm := .node 3 0 ⟨#[]⟩ [] [f, a]
def applyT (f : Tm) (xs : List Tm) : Tm := xs.foldl appT f
theorem applyT_succ (f : Tm) (xs : List Tm) (k : Nat) (h : k < xs.length) : applyT f (xs.take (k + 1)) = appT (applyT f (xs.take k)) xs[k] := by
  unfold applyT
  rw [List.take_succ_eq_append_getElem h, List.foldl_append]
  rfl

/-- The terms of a list lie there. -/
def LstT (w : World) (S : Nat → Prop) (d : Nat) (ts : List Tm) (v : Value) : Prop := ∃ (A : Option Addr) (c : Nat), v = .slice A ts.length c ∧ ∀ i (hi : i < ts.length), ∃ b x, A = some ⟨b, 0, none⟩ ∧ S b ∧ Five w b (i * 5) x ∧ InTm w S d ts[i] x
theorem LstT.keep {w w' : World} {S S' : Nat → Prop} (h : ∀ b, b < w.heap.size → S b → S' b ∧ w'.heap[b]? = w.heap[b]?) {d : Nat} {ts : List Tm} {v : Value} (hl : LstT w S d ts v) : LstT w' S' d ts v := by
  obtain ⟨A, c, e, hp⟩ := hl
  refine ⟨A, c, e, fun i hi => ?_⟩
  obtain ⟨b, x, e1, hb, h5, hin⟩ := hp i hi
  exact ⟨b, x, e1, (h b h5.lt hb).1, h5.of_block (h b h5.lt hb).2, hin.keep h⟩

/-- The value is a term, all in blocks of that kind or in new ones. -/
def MadeS (S : Nat → Prop) (w : World) (d : Nat) (t : Tm) (e : Ending) (w' : World) : Prop :=
  ∃ (k n : Int) (nm : ByteArray) (A : Option Addr) (la lc : Nat) (A' : Option Addr) (ta tc : Nat), e = .returned (.agg #[.int .i64 k, .int .i64 n, .string nm, .slice A la lc, .slice A' ta tc]) ∧
    InTm w' (fun b => S b ∨ w.heap.size ≤ b) d t (.agg #[.int .i64 k, .int .i64 n, .string nm, .slice A la lc, .slice A' ta tc]) ∧ Below w.heap.size w w'

theorem pair_in {W : World} {S : Nat → Prop} {d g : Nat} {f a : Tm} {k n : Int} {nm : ByteArray} {A : Option Addr} {m c : Nat} {A' : Option Addr} {m' c' : Nat} {k2 n2 : Int} {nm2 : ByteArray} {B : Option Addr} {l o : Nat} {B' : Option Addr} {l' o' : Nat} {fr : Nat × Nat} (hS : S g)
    (hb : W.heap[g]? = some (.cells #[.int .i64 k, .int .i64 n, .string nm, .slice A m c, .slice A' m' c', .int .i64 k2, .int .i64 n2, .string nm2, .slice B l o, .slice B' l' o'] 42 fr))
    (hf : InTm W S d f (.agg #[.int .i64 k, .int .i64 n, .string nm, .slice A m c, .slice A' m' c'])) (ha : InTm W S d a (.agg #[.int .i64 k2, .int .i64 n2, .string nm2, .slice B l o, .slice B' l' o'])) (cc : Nat) :
    InTm W S (d + 1) (appT f a) (.agg #[.int .i64 3, .int .i64 0, .string ⟨#[]⟩, .slice none 0 0, .slice (some ⟨g, 0, none⟩) 2 cc]) := by
  refine InTm.mk (kd := 3) (n := 0) rfl rfl (fun i hi => absurd hi (by simp)) fun i hi => ?_
  match i, hi with
  | 0, _ => exact ⟨g, _, rfl, hS, ⟨k, n, nm, A, m, c, A', m', c', rfl, by simp [World.cell?, hb], by simp [World.cell?, hb], by simp [World.cell?, hb], by simp [World.cell?, hb], by simp [World.cell?, hb]⟩, hf⟩
  | 1, _ => exact ⟨g, _, rfl, hS, ⟨k2, n2, nm2, B, l, o, B', l', o', rfl, by simp [World.cell?, hb], by simp [World.cell?, hb], by simp [World.cell?, hb], by simp [World.cell?, hb], by simp [World.cell?, hb]⟩, ha⟩
  | i + 2, hi => exact absurd hi (by simp)

theorem step_madeS {ops : Array Oper} {o : Oper} {a : Act} {w : World} {K : Act → World → Prop} {Q : Exit → Act → World → Prop} {E : Prop} {args : Array Value} {f : FuncId} {S : Nat → Prop} {d : Nat} {t : Tm}
    (hg : o.guard = none) (hrun : (execOp a.eval o).run Tryd.prog w = .ok (.enter f args) w) (hc : Calls Tryd.prog f args w fun e w' => MadeS S w d t e w')
    (hK : ∀ (k n : Int) (nm : ByteArray) (A : Option Addr) (la lc : Nat) (A' : Option Addr) (ta tc : Nat) (w' : World), InTm w' (fun b => S b ∨ w.heap.size ≤ b) d t (.agg #[.int .i64 k, .int .i64 n, .string nm, .slice A la lc, .slice A' ta tc]) → Below w.heap.size w w' → K (a.put o.dst (.agg #[.int .i64 k, .int .i64 n, .string nm, .slice A la lc, .slice A' ta tc])) w') :
    if Region.wanted o (yielded ops a.tmps) = true then Oper.wp Tryd.prog o a w K Q else E := by
  have hw : Region.wanted o (yielded ops a.tmps) = true := by simp [Region.wanted, hg]
  rw [if_pos hw]
  unfold Oper.wp
  rw [hrun]
  refine hc.mono ?_
  rintro e w' ⟨k, n, nm, A, la, lc, A', ta, tc, rfl, h1, h2⟩
  exact hK k n nm A la lc A' ta tc w' h1 h2

/-- A term's variable holds a term, the result's block is as it was made, and nothing old has turned. -/
structure Held2 (w : World) (B d : Nat) (t : Tm) (wr : World) : Prop where
  var : ∃ (k n : Int) (nm : ByteArray) (A : Option Addr) (la lc : Nat) (A' : Option Addr) (ta tc : Nat), TVar 42 wr w.heap.size k n nm (.slice A la lc) (.slice A' ta tc) ∧ InTm wr (fun b => b < B ∨ w.heap.size + 2 ≤ b) d t (.agg #[.int .i64 k, .int .i64 n, .string nm, .slice A la lc, .slice A' ta tc])
  zero : TVar 42 wr (w.heap.size + 1) 0 0 ⟨#[]⟩ (.slice none 0 0) (.slice none 0 0)
  old : Below w.heap.size w wr

theorem TVar.set5 {wr : World} {c : Nat} {k n : Int} {nm : ByteArray} {v v' : Value} (h : TVar 42 wr c k n nm v v') (k2 n2 : Int) (nm2 : ByteArray) (u u' : Value) : TVar 42 (set5 wr c (.int .i64 k2) (.int .i64 n2) (.string nm2) u u') c k2 n2 nm2 u u' := by
  unfold TVar at *
  simp [World.setCell, Array.getElem?_modify, h]

/-- A new term is stored in the variable. -/
theorem Held2.store {w wr w1 : World} {B d d' : Nat} {t t' : Tm} (h : Held2 w B d t wr) (hb : Below wr.heap.size wr w1) {k n : Int} {nm : ByteArray} {A : Option Addr} {la lc : Nat} {A' : Option Addr} {ta tc : Nat} {S : Nat → Prop} (hB : B ≤ w.heap.size) (hS : ∀ b, S b → b < B ∨ w.heap.size + 2 ≤ b)
    (hin : InTm w1 S d' t' (.agg #[.int .i64 k, .int .i64 n, .string nm, .slice A la lc, .slice A' ta tc])) : Held2 w B d' t' (set5 w1 w.heap.size (.int .i64 k) (.int .i64 n) (.string nm) (.slice A la lc) (.slice A' ta tc)) := by
  obtain ⟨⟨k0, n0, nm0, A0, a0, c0, A1, a1, c1, hv, _⟩, hz, ho⟩ := h
  have hv1 := hv.of_block (hb.block _ hv.lt)
  have hz1 := hz.of_block (hb.block _ hz.lt)
  refine ⟨⟨_, _, _, _, _, _, _, _, _, hv1.set5 _ _ _ _ _, hin.keep fun b _ hSb => ⟨hS b hSb, set5_block ?_⟩⟩, hz1.of_block (set5_block (by omega)), set5_below (Nat.le_refl _) (ho.trans (hb.mono ho.size))⟩
  rcases hS b hSb with h | h <;> omega

end Go.Proofs.YtkgkmlikpljbiaaDoor

/- The contract of the document's Spine. -/
namespace Go.Proofs.YtkgkmlikpljbiaaDoor
open Go.RowKit

/-- A spine's head; its arguments, the last ahead. -/
def headT : Nat → Tm → Tm
  | 0, t => t
  | d + 1, t => if t.kd = 3 then headT d (t.ch 0) else t
def backT : Nat → Tm → List Tm
  | 0, _ => []
  | d + 1, t => if t.kd = 3 then t.ch 1 :: backT d (t.ch 0) else []
theorem spine_step {d : Nat} {t : Tm} (h : t.kd = 3) : headT (d + 1) t = headT d (t.ch 0) ∧ backT (d + 1) t = t.ch 1 :: backT d (t.ch 0) := by simp [headT, backT, h]
theorem spine_end {d : Nat} {t : Tm} (h : t.kd ≠ 3) : headT (d + 1) t = t ∧ backT (d + 1) t = [] := by simp [headT, backT, h]
theorem backT_len : ∀ (d : Nat) (t : Tm), (backT d t).length ≤ d
  | 0, _ => by simp [backT]
  | d + 1, t => by
    unfold backT
    split
    · have := backT_len d (t.ch 0); simp only [List.length_cons]; omega
    · simp

theorem var_open {wr : World} {S : Nat → Prop} {e c : Nat} {u : Tm} {k n : Int} {nm : ByteArray} {A : Option Addr} {la lc : Nat} {A' : Option Addr} {ta tc : Nat} (hv : TVar 42 wr c k n nm (.slice A la lc) (.slice A' ta tc)) (hin : InTm wr S (e + 1) u (.agg #[.int .i64 k, .int .i64 n, .string nm, .slice A la lc, .slice A' ta tc])) :
    ∃ (A : Option Addr) (lc : Nat) (A' : Option Addr) (tc : Nat), TVar 42 wr c (u.kd : Nat) (u.n : Nat) u.nm (.slice A u.ls.length lc) (.slice A' u.ts.length tc) ∧ InTm wr S (e + 1) u (.agg #[.int .i64 (u.kd : Nat), .int .i64 (u.n : Nat), .string u.nm, .slice A u.ls.length lc, .slice A' u.ts.length tc]) ∧
      ∀ i (hi : i < u.ts.length), ∃ b x, A' = some ⟨b, 0, none⟩ ∧ S b ∧ Five wr b (i * 5) x ∧ InTm wr S e u.ts[i] x := by
  have h0 := hin
  obtain ⟨A1, c1, A2, c2, ev, hl, ht⟩ := hin
  refine ⟨A1, c1, A2, c2, ?_, by rw [← ev]; exact h0, ht⟩
  injection ev with ev
  unfold TVar at *
  have e1 : ([Value.int .i64 k, .int .i64 n, .string nm, .slice A la lc, .slice A' ta tc]).toArray = [Value.int .i64 (u.kd : Nat), .int .i64 (u.n : Nat), .string u.nm, .slice A1 u.ls.length c1, .slice A2 u.ts.length c2].toArray := ev
  rw [hv]
  show some (Obj.cells ([Value.int .i64 k, .int .i64 n, .string nm, .slice A la lc, .slice A' ta tc]).toArray 42 (0, 0)) = _
  rw [e1]

/-- A spine that is being taken apart: the variable holds u, so many arguments lie in the row. -/
structure SpSt (w : World) (B d k e : Nat) (L : List Tm) (u : Tm) (wr : World) (rv : Value) (xs : List Value) : Prop where
  var : ∃ (k n : Int) (nm : ByteArray) (A : Option Addr) (la lc : Nat) (A' : Option Addr) (ta tc : Nat), TVar 42 wr w.heap.size k n nm (.slice A la lc) (.slice A' ta tc) ∧ InTm wr (fun b => b < B) e u (.agg #[.int .i64 k, .int .i64 n, .string nm, .slice A la lc, .slice A' ta tc])
  zero : TVar 42 wr (w.heap.size + 1) 0 0 ⟨#[]⟩ (.slice none 0 0) (.slice none 0 0)
  old : Below w.heap.size w wr
  row : GRow (TK d L) wr 42 5 B (w.heap.size + 2) k rv xs

/-- One argument more, and the variable holds the function. -/
theorem SpSt.next {w wr w5 w6 : World} {B d k e e' : Nat} {L : List Tm} {u u' : Tm} {rv rv' : Value} {xs : List Value} (h : SpSt w B d k e L u wr rv xs) (hB : B ≤ w.heap.size) {a : Array Value} (hw : Below wr.heap.size wr w5) (hk : k < L.length) (hx : InTm w5 (fun b => b < B ∨ wr.heap.size ≤ b) d L[k] (.agg a)) (ha : a.size = 5)
    (hown : w6.ownsRow (w.heap.size + 2) 42 5 rv' (k + 1) (flat xs ++ a.toList)) (hgr : (w5.alloc (.cells a 42)).grownBy w6 rv.ownBlock) (hpl : rv'.ownBlock = rv.ownBlock ∨ rv'.ownBlock = some (w5.alloc (.cells a 42)).heap.size)
    {k1 n1 : Int} {nm1 : ByteArray} {A1 : Option Addr} {l1 c1 : Nat} {A2 : Option Addr} {l2 c2 : Nat} (hu : InTm wr (fun b => b < B) e' u' (.agg #[.int .i64 k1, .int .i64 n1, .string nm1, .slice A1 l1 c1, .slice A2 l2 c2])) :
    SpSt w B d (k + 1) e' L u' (set5 w6 w.heap.size (.int .i64 k1) (.int .i64 n1) (.string nm1) (.slice A1 l1 c1) (.slice A2 l2 c2)) rv' (xs ++ [.agg a]) ∧ ∀ b, b < wr.heap.size → rv.ownBlock ≠ some b → w6.heap[b]? = wr.heap[b]? := by
  obtain ⟨⟨k0, n0, nm0, A0, a0, c0, A3, a3, c3, hv, _⟩, hz, ho, hr⟩ := h
  have hsz := hw.size
  have hblk : ∀ b, b < wr.heap.size → rv.ownBlock ≠ some b → w6.heap[b]? = wr.heap[b]? := fun b hb hne => by
    rw [hgr.block b (by simp; omega) (fun e => hne e.symm), Below.heap_alloc _ _ _ (by omega)]
    exact hw.block b hb
  have hne : ∀ b, b < w.heap.size + 2 → rv.ownBlock ≠ some b := fun b hb e => by have := (hr.own.lt b e).1; omega
  have hl := hv.lt
  have hl2 := hz.lt
  have hrow := GRow.push (TK.keeps _ _) hr (m := wr.heap.size) (by omega) (by omega) (fun g e => (hr.own.lt g e).2) hw ⟨hk, hx⟩ ha hown hgr hpl
  have hv6 := hv.of_block (hblk _ hl (hne _ (by omega)))
  have hz6 := hz.of_block (hblk _ hl2 (hne _ (by omega)))
  have ho6 : Below w.heap.size w w6 := Below.grown ((ho.trans (hw.mono ho.size)).alloc (by have := ho.size; omega) (.cells a 42)) hgr (by simp; have := ho.size; omega) (fun j hj => by have := (hr.own.lt j hj).1; omega)
  refine ⟨⟨⟨_, _, _, _, _, _, _, _, _, hv6.set5 _ _ _ _ _, hu.keep fun b hb hS => ⟨hS, ?_⟩⟩, hz6.of_block (set5_block (by omega)), set5_below (Nat.le_refl _) ho6, ?_⟩, hblk⟩
  · rw [set5_block (by omega)]; exact hblk b hb (hne b (by omega))
  · exact GRow.set (TK.keeps _ _) (GRow.set (TK.keeps _ _) (GRow.set (TK.keeps _ _) (GRow.set (TK.keeps _ _) (GRow.set (TK.keeps _ _) hrow (by omega) hB _) (by omega) hB _) (by omega) hB _) (by omega) hB _) (by omega) hB _

/-- The parts are the terms of a list, none in block r. -/
def TKN (r d : Nat) (ts : List Tm) (W : World) (S : Nat → Prop) (j : Nat) (v : Value) : Prop := ∃ h : j < ts.length, InTm W (fun b => S b ∧ b ≠ r) d ts[j] v
theorem TKN.keeps (r d : Nat) (ts : List Tm) : Keeps (TKN r d ts) := fun _ _ _ _ _ _ h ⟨hj, hp⟩ => ⟨hj, hp.keep fun b hb hS => ⟨⟨(h b hb hS.1).1, hS.2⟩, (h b hb hS.1).2⟩⟩

theorem lst_of_row {W w' : World} {r B n0 d : Nat} {ts : List Tm} {rv : Value} {xs : List Value} (h : GRow (TKN r d ts) W 42 5 B n0 ts.length rv xs) (hr : r < n0) (hk : ∀ b, b < W.heap.size → b ≠ r → w'.heap[b]? = W.heap[b]?) :
    ∃ A c, rv = .slice A ts.length c ∧ LstT w' (fun _ => True) d ts (.slice A ts.length c) := by
  obtain ⟨A, c, e, hp⟩ := h.out (TKN.keeps _ _ _)
  refine ⟨A, c, e, A, c, rfl, fun i hi => ?_⟩
  obtain ⟨g, a, ea, hg, hz, hc, _, hin⟩ := hp i hi
  obtain ⟨k, n, nm, A1, m1, c1, A2, m2, c2, ev⟩ := hin.form
  have hin' := hin.keep (w' := w') (S' := fun _ => True) fun b hb hS => ⟨trivial, hk b hb hS.2⟩
  injection ev with ev
  subst ev
  have h5 : Five W g (i * 5) (.agg #[.int .i64 k, .int .i64 n, .string nm, .slice A1 m1 c1, .slice A2 m2 c2]) := ⟨k, n, nm, A1, m1, c1, A2, m2, c2, rfl, by simpa using hc 0 (by omega), by simpa using hc 1 (by omega), by simpa using hc 2 (by omega), by simpa using hc 3 (by omega), by simpa using hc 4 (by omega)⟩
  exact ⟨g, _, ea, trivial, h5.of_block (hk g h5.lt (by omega)), hin'⟩

/-- What Spine answers. -/
def Spined (w : World) (d : Nat) (h : Tm) (xs : List Tm) (e : Ending) (w' : World) : Prop :=
  ∃ (k n : Int) (nm : ByteArray) (A : Option Addr) (la lc : Nat) (A' : Option Addr) (ta tc : Nat) (A2 : Option Addr) (c2 : Nat), e = .returned (.tuple #[.agg #[.int .i64 k, .int .i64 n, .string nm, .slice A la lc, .slice A' ta tc], .slice A2 xs.length c2]) ∧
    InTm w' (fun _ => True) d h (.agg #[.int .i64 k, .int .i64 n, .string nm, .slice A la lc, .slice A' ta tc]) ∧ LstT w' (fun _ => True) d xs (.slice A2 xs.length c2) ∧ Below w.heap.size w w'

end Go.Proofs.YtkgkmlikpljbiaaDoor
