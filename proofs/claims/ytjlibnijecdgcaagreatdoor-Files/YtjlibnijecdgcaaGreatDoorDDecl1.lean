/- The document's decl: where its walk stands. -/
import Derived.Test.YtjlibnijecdgcaaGreatDoorDTake
import Derived.Test.YtjlibnijecdgcaaGreatDoorFDecl

namespace Go.Proofs.YtjlibnijecdgcaaGreatDoor
open Go.RowKit

/-- Where the walk stands: the declaration's variable, the result's block, the reader; nothing old has turned. -/
structure RSt (w : World) (rb : Nat) (s : ByteArray) (c : Nat) (vs : Array Value) (pk code a : Nat) (W : World) : Prop where
  var : W.heap[c]? = some (.cells vs 46 (0, 0))
  res : W.heap[w.heap.size]? = some zdc
  rd : RdAt W rb s pk code a
  old : Touched w rb W
  le : pk ≤ s.size
  hc : w.heap.size < c
  hs : rb < w.heap.size
section
variable {w : World} {rb : Nat} {s : ByteArray} {c : Nat} {vs : Array Value} {pk code a : Nat} {W : World}
theorem RSt.lt (h : RSt w rb s c vs pk code a W) : c < W.heap.size := (Array.getElem?_eq_some_iff.1 h.var).1
theorem RSt.touched (h : RSt w rb s c vs pk code a W) {W' : World} {pk' c' a' : Nat} (ht : Touched W rb W') (hR : RdAt W' rb s pk' c' a') (hp : pk' ≤ s.size) : RSt w rb s c vs pk' c' a' W' :=
  ⟨(ht.at (Array.getElem?_eq_some_iff.1 h.var).1 (by have := h.hc; have := h.hs; omega)).trans h.var, (ht.at (Array.getElem?_eq_some_iff.1 h.res).1 (by have := h.hs; omega)).trans h.res, hR, h.old.trans ht, hp, h.hc, h.hs⟩
theorem RSt.set (h : RSt w rb s c vs pk code a W) (i : Nat) (u : Value) (vs' : Array Value) (e : vs.setIfInBounds i u = vs') : RSt w rb s c vs' pk code a (W.setCell ⟨c, i, none⟩ u) := by
  have hc := h.hc
  have hs := h.hs
  refine ⟨?_, (Below.heap_setCell _ _ _ _ (by show w.heap.size ≠ c; omega)).trans h.res, h.rd.setOther (b := ⟨c, i, none⟩) (by show c ≠ rb; omega) u, h.old.setNew (a := ⟨c, i, none⟩) (by show w.heap.size ≤ c; omega) u, h.le, h.hc, h.hs⟩
  rw [← e]
  simp [World.setCell, Array.getElem?_modify, h.var]
theorem RSt.grown (h : RSt w rb s c vs pk code a W) {W' : World} {row : Option Nat} (hg : W.grownBy W' row) (hr : ∀ b, row = some b → c < b) : RSt w rb s c vs pk code a W' := by
  have hc := h.hc
  have hs := h.hs
  have hl := h.lt
  have ne : ∀ b, b ≤ c → some b ≠ row := fun b hb e => by have := hr b e.symm; omega
  refine ⟨(hg.block c hl (ne c (Nat.le_refl _))).trans h.var, (hg.block _ (by omega) (ne _ (by omega))).trans h.res, ?_, ?_, h.le, h.hc, h.hs⟩
  · have := h.rd
    unfold RdAt at *
    rw [hg.block rb (by omega) (ne rb (by omega))]
    exact this
  · refine ⟨hg.os.trans h.old.os, hg.tape.trans h.old.tape, hg.output.trans h.old.output, Nat.le_trans h.old.size hg.size, fun b hb hne => ?_⟩
    rw [hg.block b (by have := h.old.size; omega) (ne b (by omega))]
    exact h.old.block b hb hne
theorem RSt.alloc (h : RSt w rb s c vs pk code a W) (o : Obj) : RSt w rb s c vs pk code a (W.alloc o) := h.grown (World.grownBy_alloc _ _ none) (fun b e => by cases e)
theorem RSt.drew (h : RSt w rb s c vs pk code a W) : RSt w rb s c vs pk code a W.drew := ⟨h.var, h.res, h.rd, ⟨h.old.os, h.old.tape, h.old.output, h.old.size, h.old.block⟩, h.le, h.hc, h.hs⟩
end
/-- A call that answers something, as a step of a region. -/
theorem step_list {ops : Array Oper} {o : Oper} {a : Act} {w : World} {K : Act → World → Prop} {Q : Exit → Act → World → Prop} {E : Prop} {args : Array Value} {f : FuncId} {R : Value → World → Prop}
    (hg : o.guard = none) (hrun : (execOp a.eval o).run Tryz.prog w = .ok (.enter f args) w) (hc : Calls Tryz.prog f args w fun e w' => ∃ v, e = .returned v ∧ R v w')
    (hK : ∀ (v : Value) (w' : World), R v w' → K (a.put o.dst v) w') :
    if Region.wanted o (yielded ops a.tmps) = true then Oper.wp Tryz.prog o a w K Q else E := by
  have hw : Region.wanted o (yielded ops a.tmps) = true := by simp [Region.wanted, hg]
  rw [if_pos hw]
  unfold Oper.wp
  rw [hrun]
  refine hc.mono ?_
  rintro e w' ⟨v, rfl, h2⟩
  exact hK v w' h2
/-- What name leaves. -/
def NameR (rb : Nat) (s : ByteArray) (pk ak : Nat) (W : World) (v : Value) (w' : World) : Prop := ∃ (qn : ByteArray) (p' c' a' : Nat), v = .string qn ∧ RdAt w' rb s p' c' a' ∧ Touched W rb w' ∧ p' ≤ s.size ∧ pk ≤ p' ∧ Goes (WordAt s) (bWord s) qn pk 0 ak p' c' a'
/-- Cells written one behind the other. -/
def wrote : Array Value → Nat → List Value → Array Value
  | vs, _, [] => vs
  | vs, o, v :: l => wrote (vs.setIfInBounds o v) (o + 1) l
theorem heap_setCells {c : Nat} {T : TypeId} : ∀ (l : List Value) (o : Nat) (vs : Array Value) (W : World), W.heap[c]? = some (.cells vs T (0, 0)) → (W.setCells c o l).heap[c]? = some (.cells (wrote vs o l) T (0, 0))
  | [], _, _, _, h => h
  | v :: l, o, vs, W, h => heap_setCells l (o + 1) (vs.setIfInBounds o v) (W.setCell ⟨c, o, none⟩ v) (by simp [World.setCell, Array.getElem?_modify, h])

/-- What the document's decl comes to. -/
def DDeclEnd (w : World) (rb : Nat) (s : ByteArray) (D p : Nat) (e : Ending) (w' : World) : Prop :=
  ∃ (l : List Value) (p' c' a' : Nat), e = .returned (.agg l.toArray) ∧ l.length = 15 ∧ l.toArray.all (·.oneCell') = true ∧ RdAt w' rb s p' c' a' ∧ Touched w rb w' ∧ p' ≤ s.size ∧
    ((c' = 0 ∧ ∃ d, DeclAt s D d p p' ∧ DeclV w' (fun b => w.heap.size < b) D d (.agg l.toArray)) ∨ (c' = 1 ∧ bDecl s D p a'))

/-- The state after a call, out of the state before it. -/
theorem step_inv {α : Type} {A : α → Nat → Nat → Prop} {bA : Nat → Nat → Prop} {x : α} {p code a p' c' a' : Nat} {F : Prop} {B : Nat → Prop} (hI : (code = 0 ∧ F) ∨ (code = 1 ∧ B a)) (hG : Goes A bA x p code a p' c' a') (hb : F → bA p a' → B a') : (c' = 0 ∧ F ∧ A x p p') ∨ (c' = 1 ∧ B a') := by
  rcases hI with ⟨h, f⟩ | ⟨h, f⟩ <;> rcases hG with ⟨h1, h2, h3⟩ | ⟨h1, h2, h3⟩ | ⟨h1, h2, h3⟩
  · exact absurd h h1
  · exact .inl ⟨h2, f, h3⟩
  · exact .inr ⟨h2, hb f h3⟩
  · exact .inr ⟨by omega, by rw [h3]; exact f⟩
  · omega
  · omega
/-- The result is stored and returned. -/
theorem decl_ret {w W : World} {rb c pk code a D p : Nat} {s : ByteArray} {vs : Array Value} (hsz : vs.size = 15) (h1 : vs.all (·.oneCell') = true) (h : RSt w rb s c vs pk code a W) (hI : (code = 0 ∧ ∃ d, DeclAt s D d p pk ∧ DeclV W (fun b => w.heap.size < b ∧ b ≠ c) D d (.agg vs)) ∨ (code = 1 ∧ bDecl s D p a)) :
    ∃ l : List Value, l.toArray = vs ∧ W.rangeAt c 0 l ∧ W.there w.heap.size 0 l.toArray.size ∧ (Tryz.prog.info? 46).map (·.size) = some l.length ∧ l.toArray.all (·.oneCell') = true ∧
      (loadVar 46 ⟨w.heap.size, 0, none⟩).run Tryz.prog (W.setCells w.heap.size 0 l) = .ok (.agg l.toArray) (W.setCells w.heap.size 0 l) ∧ DDeclEnd w rb s D p (.returned (.agg l.toArray)) (W.setCells w.heap.size 0 l) := by
  obtain ⟨l, e, g1, g2, g3, g4, g5, g6, g7⟩ := whole15 (w := w) (sc := rb) hsz rfl h1 h.var h.res
  have hc := h.hc
  have hs := h.hs
  refine ⟨l, e, g1, g2, g3, g4, g5, l, pk, code, a, rfl, ?_, g4, ?_, g7 h.old, h.le, ?_⟩
  · have := congrArg Array.size e
    rw [hsz] at this
    simpa using this
  · have := h.rd
    unfold RdAt at *
    rw [g6 rb (by omega)]
    exact this
  · rcases hI with ⟨h0, d, hd, hv⟩ | h0
    · refine .inl ⟨h0, d, hd, ?_⟩
      rw [e]
      exact hv.keep fun b _ hS => ⟨hS.1, g6 b (by omega)⟩
    · exact .inr h0

end Go.Proofs.YtjlibnijecdgcaaGreatDoor

/- The document's decl: what stays in its loop over constructors. -/
namespace Go.Proofs.YtjlibnijecdgcaaGreatDoor
open Go.RowKit

/-- Blocks between the variable and a world's end stay. -/
structure Kept (c : Nat) (W W' : World) : Prop where
  size : W.heap.size ≤ W'.heap.size
  block : ∀ b, c < b → b < W.heap.size → W'.heap[b]? = W.heap[b]?
section
variable {c : Nat} {W W' W'' : World}
theorem Kept.refl (c : Nat) (W : World) : Kept c W W := ⟨Nat.le_refl _, fun _ _ _ => rfl⟩
theorem Kept.touched (h : Kept c W W') {rb : Nat} (hr : rb ≤ c) (ht : Touched W' rb W'') : Kept c W W'' :=
  ⟨Nat.le_trans h.size ht.size, fun b hb hl => (ht.at (by have := h.size; omega) (by omega)).trans (h.block b hb hl)⟩
theorem Kept.set (h : Kept c W W') (i : Nat) (u : Value) : Kept c W (W'.setCell ⟨c, i, none⟩ u) :=
  ⟨by have := h.size; simpa [World.setCell] using this, fun b hb hl => (Below.heap_setCell _ _ _ _ (by show b ≠ c; omega)).trans (h.block b hb hl)⟩
theorem Kept.grown (h : Kept c W W') {row : Option Nat} (hg : W'.grownBy W'' row) (hr : ∀ b, row = some b → W.heap.size ≤ b) : Kept c W W'' :=
  ⟨Nat.le_trans h.size hg.size, fun b hb hl => (hg.block b (by have := h.size; omega) (fun e => by have := hr b e.symm; omega)).trans (h.block b hb hl)⟩
theorem NmsIn.kept {A : Option Addr} {ns : List ByteArray} (h : NmsIn W (fun b => c < b) A ns) (hk : Kept c W W') : NmsIn W' (fun b => c < b) A ns := h.keep fun b hb hS => ⟨hS, hk.block b hS hb⟩
theorem InTm.kept {D : Nat} {t : Tm} {v : Value} (h : InTm W (fun b => c < b) D t v) (hk : Kept c W W') : InTm W' (fun b => c < b) D t v := h.keep fun b hb hS => ⟨hS, hk.block b hS hb⟩
end
theorem RSt.other {w : World} {rb : Nat} {s : ByteArray} {c : Nat} {vs : Array Value} {pk code a : Nat} {W : World} (h : RSt w rb s c vs pk code a W) {b : Nat} (hb : c < b) (i : Nat) (u : Value) : RSt w rb s c vs pk code a (W.setCell ⟨b, i, none⟩ u) := by
  have hc := h.hc
  have hs := h.hs
  exact ⟨(Below.heap_setCell _ _ _ _ (by show c ≠ b; omega)).trans h.var, (Below.heap_setCell _ _ _ _ (by show w.heap.size ≠ b; omega)).trans h.res, h.rd.setOther (b := ⟨b, i, none⟩) (by show b ≠ rb; omega) u, h.old.setNew (a := ⟨b, i, none⟩) (by show w.heap.size ≤ b; omega) u, h.le, h.hc, h.hs⟩
/-- One constructor more. -/
theorem cts_more {wr w6 w7 : World} {rb D n0 nc : Nat} {cs : List (ByteArray × Tm)} {xs : List Value} {Ac : Option Addr} {cc : Nat} {q : ByteArray} {t : Tm} {v' : Value} {k n : Int} {nm : ByteArray} {A : Option Addr} {la lc : Nat} {A' : Option Addr} {ta tc : Nat} (hn0 : n0 ≤ wr.heap.size) (hrb : rb < n0)
    (hrow : GRow (CK D cs) wr 64 6 0 n0 cs.length (.slice Ac nc cc) xs) (hB : Touched wr rb w6) (hin : InTm w6 (fun b => wr.heap.size ≤ b) D t (.agg #[.int .i64 k, .int .i64 n, .string nm, .slice A la lc, .slice A' ta tc]))
    (hown : w7.ownsRow n0 64 6 v' (cs.length + 1) (flat xs ++ [.string q, .int .i64 k, .int .i64 n, .string nm, .slice A la lc, .slice A' ta tc])) (hgr : (w6.alloc (.cells #[.string q, .int .i64 k, .int .i64 n, .string nm, .slice A la lc, .slice A' ta tc] 64)).grownBy w7 (Value.slice Ac nc cc).ownBlock)
    (hpl : v'.ownBlock = (Value.slice Ac nc cc).ownBlock ∨ v'.ownBlock = some (w6.alloc (.cells #[.string q, .int .i64 k, .int .i64 n, .string nm, .slice A la lc, .slice A' ta tc] 64)).heap.size) :
    GRow (CK D (cs ++ [(q, t)])) w7 64 6 0 n0 (cs ++ [(q, t)]).length v' (xs ++ [.agg #[.string q, .int .i64 k, .int .i64 n, .string nm, .slice A la lc, .slice A' ta tc]]) := by
  have h1 : GRow (CK D (cs ++ [(q, t)])) w6 64 6 0 n0 cs.length (.slice Ac nc cc) xs := (hrow.touched (CK.keeps _ _) hB hrb).imp fun S j v hj ⟨hj', hv⟩ => ⟨by simp; omega, by rw [List.getElem_append_left hj']; exact hv⟩
  have hl : (cs ++ [(q, t)]).length = cs.length + 1 := by simp
  rw [hl]
  refine GRow.push (CK.keeps _ _) h1 (m := wr.heap.size) (Nat.zero_le _) hn0 (fun g e => (hrow.own.lt g e).2) (Below.refl _ _) ⟨by simp, ?_⟩ rfl hown hgr hpl
  have e1 : (cs ++ [(q, t)])[cs.length]'(by simp) = (q, t) := by rw [List.getElem_append_right (Nat.le_refl _)]; simp
  rw [e1]
  exact ⟨k, n, nm, A, la, lc, A', ta, tc, rfl, hin.keep fun b _ hb => ⟨.inr hb, rfl⟩⟩
theorem GRow.setBelow {K : World → (Nat → Prop) → Nat → Value → Prop} {W : World} {T z n0 k : Nat} {rv : Value} {xs : List Value} (hK : Keeps K) (h : GRow K W T z 0 n0 k rv xs) {c : Nat} (hc : c < n0) (i : Nat) (u : Value) : GRow K (W.setCell ⟨c, i, none⟩ u) T z 0 n0 k rv xs :=
  ⟨ownsRow_setCell_below h.own (a := ⟨c, i, none⟩) (by show c < n0; exact hc) u, h.len, h.forms, fun j hj => hK _ _ _ _ _ _ (fun b _ hS => ⟨hS, Below.heap_setCell _ _ _ _ (by show b ≠ c; have := hS.1; omega)⟩) (h.parts j hj)⟩

end Go.Proofs.YtjlibnijecdgcaaGreatDoor
