/- While the binders of a command are put into it. No walk. -/
import Derived.Test.YtekfledccpeblaaGreatDoorBt

namespace Go.Proofs.YtekfledccpeblaaGreatDoor
open Go.RowKit

/-- A command of which nothing is known, as cells. -/
abbrev zccs (a : Int) : Array Value := #[.int .i64 0, .int .i64 a, .string ⟨#[]⟩, nilV, nilV, .int .i64 0, .int .i64 0, .string ⟨#[]⟩, .bool false, .bool false, .bool false, .bool false, nilV, nilV, .int .i64 0, .int .i64 0, .string ⟨#[]⟩, .bool false, .bool false, .bool false, .bool false, nilV, nilV, .bool false, nilV, nilV]
theorem zccs_in (w : World) (S : Nat → Prop) (a : Nat) : CmIn w S (zeroC a) (zccs (a : Nat)) := CmIn.start w S a
theorem zccs_wrote (a : Int) : wrote (zccs 0) 0 (zccs a).toList = zccs a := by
  apply Array.ext'
  rw [wrote_toList (zccs a).toList (zccs 0) 0 [] (zccs 0).toList [] (by simp) rfl rfl]
  simp
section
variable {rb : Nat} {mv : Value} {s : ByteArray}
/-- While a command is read. -/
structure CSt (w : World) (rb : Nat) (mv : Value) (s : ByteArray) (c : Cm) (st : FS) (W : World) : Prop where
  res : W.heap[w.heap.size]? = some (.cells (zccs 0) 47 (0, 0))
  var : CmAt W (w.heap.size + 1) c
  rdy : Rdy W rb mv s st
  old : Touched w rb W
section
variable {w W W' : World} {c c' : Cm} {st st' st0 : FS}
theorem CSt.start (h0 : Rdy w rb mv s st0) (a : Nat) : CSt w rb mv s (zeroC a) st0 (((w.alloc (.cells (zccs 0) 47)).alloc (.cells (zccs 0) 47)).setCells (w.heap.size + 1) 0 (zccs (a : Nat)).toList) := by
  have hT : Touched w rb (((w.alloc (.cells (zccs 0) 47)).alloc (.cells (zccs 0) 47)).setCells (w.heap.size + 1) 0 (zccs (a : Nat)).toList) := ((Touched.alloc w rb _).trans (Touched.alloc _ _ _)).setsNew (by omega) _ _
  have hv := heap_setCells (zccs (a : Nat)).toList 0 _ _ (heap_alloc2_new w (.cells (zccs 0) 47) (.cells (zccs 0) 47))
  rw [zccs_wrote] at hv
  exact ⟨(heap_setCells_ne (by omega) _ _ _).trans (heap_alloc2_old _ _ _), ⟨_, hv, zccs_in _ _ _⟩, h0.puts ((h0.alloc _).alloc _) ((Touched.alloc w rb _).trans (Touched.alloc _ _ _)) (by omega) _ _, hT⟩
theorem CSt.lt (h : CSt w rb mv s c st W) : w.heap.size + 1 < W.heap.size := h.var.lt
theorem CSt.touched (h : CSt w rb mv s c st W) (hlt : rb < w.heap.size) (hR : Rdy W' rb mv s st') (hT : Touched W rb W') : CSt w rb mv s c st' W' :=
  ⟨(hT.at (by have := h.var.lt; omega) (by omega)).trans h.res, h.var.touched hT (by omega), hR, h.old.trans hT⟩
theorem CSt.set (h0 : Rdy w rb mv s st0) (h : CSt w rb mv s c st W) (i : Nat) (u : Value) (hc : ∀ v, CmIn W (fun b => w.heap.size + 1 < b) c v → CmIn W (fun b => w.heap.size + 1 < b) c' (v.setIfInBounds i u)) : CSt w rb mv s c' st (W.setCell ⟨w.heap.size + 1, i, none⟩ u) :=
  ⟨(Below.heap_setCell _ _ _ _ (by show w.heap.size ≠ w.heap.size + 1; omega)).trans h.res, h.var.set i u hc, h0.put h.rdy h.old (by omega) _ _, h.old.setNew (a := ⟨w.heap.size + 1, i, none⟩) (by show w.heap.size ≤ w.heap.size + 1; omega) _⟩
theorem CSt.sets (h0 : Rdy w rb mv s st0) (h : CSt w rb mv s c st W) (o : Nat) (l : List Value) (hc : ∀ v, CmIn W (fun b => w.heap.size + 1 < b) c v → CmIn W (fun b => w.heap.size + 1 < b) c' (wrote v o l)) : CSt w rb mv s c' st (W.setCells (w.heap.size + 1) o l) :=
  ⟨(heap_setCells_ne (by omega) _ _ _).trans h.res, h.var.sets o l hc, h0.puts h.rdy h.old (by omega) _ _, h.old.setsNew (by omega) _ _⟩
end
/-- While a command is read, ahead of its binders. -/
def CQt (w : World) (rb : Nat) (mv : Value) (s : ByteArray) (c : Cm) (st : FS) (W : World) : Prop := CSt w rb mv s c st W ∧ W.cell? ⟨w.heap.size + 1, 4, none⟩ = some nilV
section
variable {w W W' : World} {c c' : Cm} {st st' st0 : FS}
theorem CQt.start (h0 : Rdy w rb mv s st0) (a : Nat) : CQt w rb mv s (zeroC a) st0 (((w.alloc (.cells (zccs 0) 47)).alloc (.cells (zccs 0) 47)).setCells (w.heap.size + 1) 0 (zccs (a : Nat)).toList) := by
  refine ⟨CSt.start h0 a, ?_⟩
  have hv := heap_setCells (zccs (a : Nat)).toList 0 _ _ (heap_alloc2_new w (.cells (zccs 0) 47) (.cells (zccs 0) 47))
  rw [zccs_wrote] at hv
  exact cell_of hv 4 rfl
theorem CQt.touched (h : CQt w rb mv s c st W) (hlt : rb < w.heap.size) (hR : Rdy W' rb mv s st') (hT : Touched W rb W') : CQt w rb mv s c st' W' :=
  ⟨h.1.touched hlt hR hT, (World.cell?_of_block (hT.at (k := w.heap.size + 1) h.1.lt (by omega))).trans h.2⟩
theorem CQt.set (h0 : Rdy w rb mv s st0) (h : CQt w rb mv s c st W) (i : Nat) (hi : i ≠ 4) (u : Value) (hc : ∀ v, CmIn W (fun b => w.heap.size + 1 < b) c v → CmIn W (fun b => w.heap.size + 1 < b) c' (v.setIfInBounds i u)) : CQt w rb mv s c' st (W.setCell ⟨w.heap.size + 1, i, none⟩ u) := by
  refine ⟨h.1.set h0 i u hc, ?_⟩
  obtain ⟨v, hv, _⟩ := h.1.var.ex
  rw [cell_of_row _ _ 4 _ _ _ (heap_setCell_same W _ i _ _ u hv), Array.getElem?_setIfInBounds_ne hi, ← cell_of_row W _ 4 v _ _ hv]
  exact h.2
end
/-- While binders are put into the command. -/
structure BiSt (w : World) (n1 : Nat) (rb : Nat) (mv : Value) (s : ByteArray) (c : Cm) (bl : List Bd) (Ab : Option Addr) (l : List Bd) (st : FS) (A : Option Addr) (cc : Nat) (ys : List Value) (W : World) : Prop where
  res : W.heap[w.heap.size]? = some (.cells (zccs 0) 47 (0, 0))
  var : ∃ v, W.heap[w.heap.size + 1]? = some (.cells v 47 (0, 0)) ∧ CmIn W (fun b => w.heap.size + 1 < b ∧ b < n1) c (v.setIfInBounds 4 nilV) ∧ v[4]? = some (.slice A l.length cc)
  row : GRow (KL BrP l) W 64 11 0 (w.heap.size + 2) l.length (.slice A l.length cc) ys
  own : ∀ g, (Value.slice A l.length cc).ownBlock = some g → n1 ≤ g
  bds : BdsIn W (fun b => w.heap.size + 2 ≤ b ∧ b < n1) Ab bl
  rdy : Rdy W rb mv s st
  old : Touched w rb W
  le : n1 ≤ W.heap.size
  big : w.heap.size + 2 ≤ n1
section
variable {w W w6 : World} {n1 : Nat} {c : Cm} {bl l : List Bd} {Ab A : Option Addr} {st st0 : FS} {cc : Nat} {ys : List Value}
theorem BiSt.lt (h : BiSt w n1 rb mv s c bl Ab l st A cc ys W) : w.heap.size + 1 < W.heap.size := by have := h.le; have := h.big; omega
theorem BiSt.four (h : BiSt w n1 rb mv s c bl Ab l st A cc ys W) : W.cell? ⟨w.heap.size + 1, 4, none⟩ = some (.slice A l.length cc) ∧ ∀ i, W.frozen? ⟨w.heap.size + 1, i, none⟩ = false := by
  obtain ⟨v, hv, _, h4⟩ := h.var
  exact ⟨cell_of hv 4 h4, frozen_of hv⟩
theorem BiSt.begin (hq : CQt w rb mv s c st W) (hb : BdsIn W (fun b => w.heap.size + 2 ≤ b) Ab bl) : BiSt w W.heap.size rb mv s c bl Ab [] st none 0 [] W := by
  obtain ⟨h, f4⟩ := hq
  obtain ⟨v, hv, hc⟩ := h.var.ex
  have h4 : v[4]? = some nilV := by rw [← cell_of_row W _ 4 v _ _ hv]; exact f4
  have e4 : v.setIfInBounds 4 nilV = v := by
    apply Array.ext'
    rw [Array.toList_setIfInBounds]
    apply List.ext_getElem?
    intro i
    rw [List.getElem?_set]
    split
    · rename_i hi
      subst hi
      split
      · rw [← h4]; simp
      · rename_i hlt
        rw [List.getElem?_eq_none (by omega)]
    · rfl
  refine ⟨h.res, ⟨v, hv, by rw [e4]; exact hc.keep fun b hb hs => ⟨⟨hs, hb⟩, rfl⟩, h4⟩, GRow.start _ _ _ _ _ _, fun g e => by simp [Value.ownBlock] at e, hb.keep fun b hb hs => ⟨⟨hs, hb⟩, rfl⟩, h.rdy, h.old, Nat.le_refl _, h.lt⟩
theorem BiSt.done (h : BiSt w n1 rb mv s c bl Ab l st A cc ys W) : CSt w rb mv s { c with bs := l } st W := by
  obtain ⟨v, hv, hc, h4⟩ := h.var
  obtain ⟨A', c', e', hL⟩ := GRow.brs (l := l) h.row
  injection e' with e1 e2 e3
  subst e1
  have hcs := (hc.keep (w' := W) (S' := fun b => w.heap.size + 1 < b) fun b _ hs => ⟨hs.1, rfl⟩).setBs (n := cc) (hL.keep (w' := W) (S' := fun b => w.heap.size + 1 < b) fun b _ hs => ⟨by have : w.heap.size + 2 ≤ b := hs; show w.heap.size + 1 < b; omega, rfl⟩)
  have e4 : (v.setIfInBounds 4 nilV).setIfInBounds 4 (.slice A l.length cc) = v := by
    apply Array.ext'
    rw [Array.toList_setIfInBounds, Array.toList_setIfInBounds]
    apply List.ext_getElem?
    intro i
    rw [List.getElem?_set]
    split
    · rename_i hi
      subst hi
      split
      · rw [← h4]; simp
      · rename_i hlt
        rw [List.getElem?_eq_none (by simpa using hlt)]
    · rename_i hi
      rw [List.getElem?_set]
      split
      · contradiction
      · rfl
  rw [e4] at hcs
  exact ⟨h.res, ⟨v, hv, hcs⟩, h.rdy, h.old⟩
theorem BiSt.next (h0 : Rdy w rb mv s st0) (h : BiSt w n1 rb mv s c bl Ab l st A cc ys W) {x : Bd} {xv : Array Value} {o o' : Obj} {rv : Value} (hx : InX W (fun b => w.heap.size + 2 ≤ b ∧ b < n1) x.ty xv)
    (hown : w6.ownsRow (w.heap.size + 2) 64 11 rv (l.length + 1) (flat ys ++ (brcs x.nm x.im xv).toList)) (hgr : ((W.alloc o').alloc o).grownBy w6 (Value.slice A l.length cc).ownBlock) (hpl : rv.ownBlock = (Value.slice A l.length cc).ownBlock ∨ rv.ownBlock = some ((W.alloc o').alloc o).heap.size) :
    ∃ A6 c6, rv = .slice A6 (l.length + 1) c6 ∧ BiSt w n1 rb mv s c bl Ab (l ++ [x]) st A6 c6 (ys ++ [.agg (brcs x.nm x.im xv)]) (w6.setCell ⟨w.heap.size + 1, 4, none⟩ rv) := by
  have hlt := h0.lt
  have hle := h.le
  have hbig := h.big
  have hz : ((W.alloc o').alloc o).heap.size = W.heap.size + 2 := by simp
  have hB : Below W.heap.size W ((W.alloc o').alloc o) := ((Below.refl _ _).alloc (Nat.le_refl _) _).alloc (by simp) _
  have hkeep : ∀ b, b < n1 → w6.heap[b]? = W.heap[b]? := fun b hb => by
    rw [hgr.block b (by omega) (fun e => by have := h.own b e.symm; omega), hB.block b (by omega)]
  have h1 : GRow (KL BrP (l ++ [x])) ((W.alloc o').alloc o) 64 11 0 (w.heap.size + 2) l.length (.slice A l.length cc) ys := (h.row.later (KL.keeps keep_BrP _) hB).imp fun S j v hj ⟨hj', hv⟩ => ⟨by simp; omega, by rw [List.getElem_append_left hj']; exact hv⟩
  have hG := GRow.more (news := [.agg (brcs x.nm x.im xv)]) (KL.keeps keep_BrP _) h1 (fun i hi => by
    have : i = 0 := by simp at hi; omega
    subst this
    exact ⟨_, rfl, by simp [hx.size]⟩) (fun j hj => by
    have : j = 0 := by simp at hj; omega
    subst this
    refine ⟨by simp, ?_⟩
    have e1 : (l ++ [x])[l.length + 0]'(by simp) = x := by simp
    rw [e1]
    refine ⟨xv, hx.keep fun b hb hs => ⟨⟨hs.1, fun e => ?_⟩, hB.block b hb⟩, rfl⟩
    have := h.own b e
    have := hs.2
    omega) (by simpa [flat] using hown) hgr hpl
  obtain ⟨A6, c6, hv6⟩ := own_row_slice hown
  subst hv6
  refine ⟨A6, c6, rfl, ?_⟩
  have hT6 : Touched w rb w6 := ⟨hgr.os.trans (hB.os.trans h.old.os), hgr.tape.trans (hB.tape.trans h.old.tape), hgr.output.trans (hB.output.trans h.old.output), by have := hgr.size; have := h.old.size; omega, fun b hb hne => (hkeep b (by omega)).trans (h.old.block b hb hne)⟩
  have hR6 : Rdy w6 rb mv s st := h0.next (h.rdy.rd.of_block (hkeep rb (by omega))) h.rdy.ok hT6
  have hll : (l ++ [x]).length = l.length + 1 := by simp
  refine ⟨?_, ?_, ?_, ?_, ?_, h0.put hR6 hT6 (by omega) _ _, hT6.setNew (a := ⟨w.heap.size + 1, 4, none⟩) (by show w.heap.size ≤ w.heap.size + 1; omega) _, ?_, hbig⟩
  · rw [Below.heap_setCell _ _ _ _ (by show w.heap.size ≠ w.heap.size + 1; omega), hkeep _ (by omega)]
    exact h.res
  · obtain ⟨v, hv, hc, h4⟩ := h.var
    have hv6 := (hkeep (w.heap.size + 1) (by omega)).trans hv
    refine ⟨v.setIfInBounds 4 (.slice A6 (l.length + 1) c6), heap_setCell_same w6 _ 4 _ _ _ hv6, ?_, ?_⟩
    · have e4 : (v.setIfInBounds 4 (.slice A6 (l.length + 1) c6)).setIfInBounds 4 nilV = v.setIfInBounds 4 nilV := by simp
      rw [e4]
      exact hc.keep fun b _ hs => ⟨hs, by rw [Below.heap_setCell _ _ _ _ (by show b ≠ w.heap.size + 1; have := hs.1; omega), hkeep b hs.2]⟩
    · have h26 : (v.setIfInBounds 4 nilV).size = 26 := hc.size
      have h26' : v.size = 26 := by simpa using h26
      rw [hll, Array.getElem?_setIfInBounds_self_of_lt (by omega)]
  · rw [hll]
    have := hG.set (KL.keeps keep_BrP _) (c := w.heap.size + 1) (q := 4) (by omega) (Nat.zero_le _) (.slice A6 (l.length + 1) c6)
    exact this
  · intro g e
    rw [hll] at e
    rcases hpl with hp | hp
    · exact h.own g (by rw [← hp]; exact e)
    · rw [hp] at e
      have e' : ((W.alloc o').alloc o).heap.size = g := by injection e
      omega
  · exact h.bds.keep fun b hb hs => ⟨hs, by rw [Below.heap_setCell _ _ _ _ (by show b ≠ w.heap.size + 1; have := hs.1; omega), hkeep b hs.2]⟩
  · have := hgr.size
    have e : (w6.setCell ⟨w.heap.size + 1, 4, none⟩ (.slice A6 (l.length + 1) c6)).heap.size = w6.heap.size := by simp [World.setCell]
    omega
end
end
end Go.Proofs.YtekfledccpeblaaGreatDoor
