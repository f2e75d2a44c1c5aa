/- The document's command: its words, its variable. No walk. -/
import Derived.Test.YtekfledccpeblaaGreatDoorTh
import Derived.Test.YtekfledccpeblaaGreatDoorPs

namespace Go.Proofs.YtekfledccpeblaaGreatDoor
open Go.RowKit

/-- The document's list of commands' words. -/
def kindList : List ByteArray := ⟨#[]⟩ :: kindWords
theorem lastOf_kind (t : ByteArray) : lastOf kindList t 4 = wordNo t kindWords 1 := by
  by_cases h : t ∈ kindWords
  · have : ∀ q ∈ kindWords, lastOf kindList q 4 = wordNo q kindWords 1 := by decide +kernel
    exact this t h
  · rw [wordNo_none kindWords 1 fun q hq e => h (by rw [e]; exact hq)]
    refine lastOf_none 4 fun i hi e => h ?_
    have h2 : i < kindWords.length := by have : kindWords.length = 4 := rfl; omega
    have h3 : kindList.getD (i + 1) ⟨#[]⟩ = kindWords[i] := by
      unfold kindList
      rw [List.getD_cons_succ, List.getD_eq_getElem?_getD, List.getElem?_eq_getElem h2]
      rfl
    rw [← e, h3]
    exact List.getElem_mem h2
/-- The last of the first words that stands there; 0: none does. -/
def lastI (st : FS) : Nat → Nat
  | 0 => 0
  | i + 1 => if st.is (kindList.getD (i + 1) ⟨#[]⟩) = true then i + 1 else lastI st i
theorem lastI_kind (st : FS) : lastI st 4 = kindNo st := by
  unfold kindNo
  by_cases h : st.kin 3 = true
  · rw [if_pos h, ← lastOf_kind]
    have h' := h
    unfold FS.kin at h'
    simp only [Bool.and_eq_true, beq_iff_eq] at h'
    have : ∀ n, lastI st n = lastOf kindList st.t.t n := fun n => by
      induction n with
      | zero => rfl
      | succ n ih =>
        simp only [lastI, lastOf]
        unfold FS.is
        rw [ih, h'.1, h'.2]
        generalize kindList.getD (n + 1) ⟨#[]⟩ = x
        by_cases hq : x = st.t.t
        · rw [if_pos hq, if_pos (by simp [hq])]
        · rw [if_neg hq, if_neg (by simp; exact fun e => hq e.symm)]
    exact this 4
  · rw [if_neg h]
    have : ∀ n, lastI st n = 0 := fun n => by
      induction n with
      | zero => rfl
      | succ n ih =>
        simp only [lastI]
        rw [if_neg, ih]
        intro hi
        apply h
        have := FS.is_kd hi
        unfold FS.kin
        simp [this.1, this.2.1]
    exact this 4
theorem wrote_other : ∀ (l : List Value) (v : Array Value) (o j : Nat), (j < o ∨ o + l.length ≤ j) → (wrote v o l)[j]? = v[j]?
  | [], _, _, _, _ => rfl
  | x :: l, v, o, j, h => by
    simp only [wrote]
    rw [wrote_other l _ (o + 1) j (by simp at h; omega), Array.getElem?_setIfInBounds_ne (by simp at h; omega)]
theorem set_same {v : Array Value} {i : Nat} {x : Value} (h : v[i]? = some x) : v.setIfInBounds i x = v := by
  apply Array.ext'
  rw [Array.toList_setIfInBounds]
  apply List.ext_getElem?
  intro j
  rw [List.getElem?_set]
  split
  · rename_i hi
    subst hi
    split
    · rw [← h]; simp
    · rename_i hlt
      rw [List.getElem?_eq_none (by omega)]
  · rfl
/-- While the document's command is read: its variable, the result's; these fields are still nil. -/
structure DCs (w : World) (fb : Nat) (s : ByteArray) (c : Cm) (N : List Nat) (st : FS) (W : World) : Prop where
  res : W.heap[w.heap.size]? = some (.cells (zccs 0) 47 (0, 0))
  var : ∃ v, W.heap[w.heap.size + 1]? = some (.cells v 47 (0, 0)) ∧ CmIn W (fun b => w.heap.size + 1 < b) c v ∧ ∀ i ∈ N, v[i]? = some nilV
  rd : DR W fb s st
  old : Touched w fb W
section
variable {w W W' : World} {fb : Nat} {s : ByteArray} {c c' : Cm} {N N' : List Nat} {st st' st0 : FS}
theorem DCs.at_ (h : DCs w fb s c N st W) : CmAt W (w.heap.size + 1) c := by obtain ⟨v, h1, h2, _⟩ := h.var; exact ⟨v, h1, h2⟩
theorem DCs.lt (h : DCs w fb s c N st W) : w.heap.size + 1 < W.heap.size := h.at_.lt
theorem DCs.less (h : DCs w fb s c N st W) (hN : ∀ i ∈ N', i ∈ N) : DCs w fb s c N' st W := by
  obtain ⟨v, h1, h2, h3⟩ := h.var
  exact ⟨h.res, ⟨v, h1, h2, fun i hi => h3 i (hN i hi)⟩, h.rd, h.old⟩
theorem DCs.touched (h : DCs w fb s c N st W) (hlt : fb < w.heap.size) (hR : DR W' fb s st') (hT : Touched W fb W') : DCs w fb s c N st' W' := by
  have hl := h.lt
  obtain ⟨v, h1, h2, h3⟩ := h.var
  exact ⟨(hT.at (by omega) (by omega)).trans h.res, ⟨v, (hT.at hl (by omega)).trans h1, h2.keep fun b hb hs => ⟨hs, hT.at hb (by have : w.heap.size + 1 < b := hs; omega)⟩, h3⟩, hR, h.old.trans hT⟩
theorem DCs.start (h : DR w fb s st) (a : Nat) : DCs w fb s (zeroC a) [3, 4, 24, 25] st (((w.alloc (.cells (zccs 0) 47)).alloc (.cells (zccs 0) 47)).setCells (w.heap.size + 1) 0 (zccs (a : Nat)).toList) := by
  have hT : Touched w fb (((w.alloc (.cells (zccs 0) 47)).alloc (.cells (zccs 0) 47)).setCells (w.heap.size + 1) 0 (zccs (a : Nat)).toList) := ((Touched.alloc w fb _).trans (Touched.alloc _ _ _)).setsNew (by omega) _ _
  have hv := heap_setCells (zccs (a : Nat)).toList 0 _ _ (heap_alloc2_new w (.cells (zccs 0) 47) (.cells (zccs 0) 47))
  rw [zccs_wrote] at hv
  have hlt := h.lt
  refine ⟨(heap_setCells_ne (by omega) _ _ _).trans (heap_alloc2_old _ _ _), ⟨_, hv, zccs_in _ _ _, fun i hi => ?_⟩, ((h.alloc _).alloc _).of_block (heap_setCells_ne (by omega) _ _ _), hT⟩
  simp at hi
  rcases hi with rfl | rfl | rfl | rfl <;> rfl
theorem DCs.set (hlt : fb < w.heap.size) (h : DCs w fb s c N st W) (i : Nat) (u : Value) (hN : ∀ j ∈ N', j ∈ N ∧ i ≠ j) (hc : ∀ v, CmIn W (fun b => w.heap.size + 1 < b) c v → CmIn W (fun b => w.heap.size + 1 < b) c' (v.setIfInBounds i u)) : DCs w fb s c' N' st (W.setCell ⟨w.heap.size + 1, i, none⟩ u) := by
  obtain ⟨v, h1, h2, h3⟩ := h.var
  refine ⟨(Below.heap_setCell _ _ _ _ (by show w.heap.size ≠ w.heap.size + 1; omega)).trans h.res, ⟨_, heap_setCell_same W _ i _ _ u h1, (hc v h2).keep fun b _ hs => ⟨hs, Below.heap_setCell _ _ _ _ (by show b ≠ w.heap.size + 1; have : w.heap.size + 1 < b := hs; omega)⟩, fun j hj => ?_⟩, h.rd.of_block (Below.heap_setCell _ _ _ _ (by show fb ≠ w.heap.size + 1; omega)), h.old.setNew (a := ⟨w.heap.size + 1, i, none⟩) (by show w.heap.size ≤ w.heap.size + 1; omega) _⟩
  rw [Array.getElem?_setIfInBounds_ne (hN j hj).2]
  exact h3 j (hN j hj).1
theorem DCs.sets (hlt : fb < w.heap.size) (h : DCs w fb s c N st W) (o : Nat) (l : List Value) (hN : ∀ j ∈ N, j < o ∨ o + l.length ≤ j) (hc : ∀ v, CmIn W (fun b => w.heap.size + 1 < b) c v → CmIn W (fun b => w.heap.size + 1 < b) c' (wrote v o l)) : DCs w fb s c' N st (W.setCells (w.heap.size + 1) o l) := by
  obtain ⟨v, h1, h2, h3⟩ := h.var
  refine ⟨(heap_setCells_ne (by omega) _ _ _).trans h.res, ⟨_, heap_setCells l o v W h1, (hc v h2).keep fun b _ hs => ⟨hs, heap_setCells_ne (by have : w.heap.size + 1 < b := hs; omega) _ _ _⟩, fun j hj => ?_⟩, h.rd.of_block (heap_setCells_ne (by omega) _ _ _), h.old.setsNew (by omega) _ _⟩
  rw [wrote_other l v o j (hN j hj)]
  exact h3 j hj
theorem DCs.must (h : DCs w fb s c N st W) (hf : fb < w.heap.size) (q : ByteArray) : Calls Tryz.prog 29 #[.pointer (some ⟨fb, 0, none⟩), .string q] W fun e w' => e = .returned (.tuple #[]) ∧ DCs w fb s c N (st.must s q) w' :=
  (dmust_calls h.rd q).mono fun _ _ ⟨he, hd, hT⟩ => ⟨he, h.touched hf hd hT⟩
theorem DCs.step (h : DCs w fb s c N st W) (hf : fb < w.heap.size) : Calls Tryz.prog 14 #[.pointer (some ⟨fb, 0, none⟩)] W fun e w' => e = .returned (.tuple #[]) ∧ DCs w fb s c N (st.step s) w' :=
  (dstep_calls h.rd).mono fun _ _ ⟨he, hd, hT⟩ => ⟨he, h.touched hf hd hT⟩
theorem DCs.fail (h : DCs w fb s c N st W) (hf : fb < w.heap.size) : Calls Tryz.prog 26 #[.pointer (some ⟨fb, 0, none⟩)] W fun e w' => e = .returned (.tuple #[]) ∧ DCs w fb s c N st.fail w' :=
  (dfail_calls h.rd).mono fun _ _ ⟨he, hd, hT⟩ => ⟨he, h.touched hf hd hT⟩
theorem DCs.not (h : DCs w fb s c N st W) (hf : fb < w.heap.size) {q : ByteArray} (hq : st.is q = false) : Calls Tryz.prog 28 #[.pointer (some ⟨fb, 0, none⟩), .string q] W fun e w' => e = .returned (.bool false) ∧ DCs w fb s c N st w' :=
  (daccept_calls h.rd q).mono fun _ _ ⟨he, hd, hT⟩ => by rw [hq, if_neg (by simp)] at hd; rw [hq] at he; exact ⟨he, h.touched hf hd hT⟩
theorem DCs.yes (h : DCs w fb s c N st W) (hf : fb < w.heap.size) {q : ByteArray} (hq : st.is q = true) : Calls Tryz.prog 28 #[.pointer (some ⟨fb, 0, none⟩), .string q] W fun e w' => e = .returned (.bool true) ∧ DCs w fb s c N (st.step s) w' :=
  (daccept_calls h.rd q).mono fun _ _ ⟨he, hd, hT⟩ => by rw [hq, if_pos rfl] at hd; rw [hq] at he; exact ⟨he, h.touched hf hd hT⟩
theorem DCs.accept (h : DCs w fb s c N st W) (hf : fb < w.heap.size) (q : ByteArray) : Calls Tryz.prog 28 #[.pointer (some ⟨fb, 0, none⟩), .string q] W fun e w' => e = .returned (.bool (st.is q)) ∧ DCs w fb s c N (if st.is q = true then st.step s else st) w' :=
  (daccept_calls h.rd q).mono fun _ _ ⟨he, hd, hT⟩ => ⟨he, h.touched hf hd hT⟩
/-- It is answered: the load of the variable, the store into the result's. -/
theorem DCs.load (h : DCs w fb s c N st W) : ∃ v, CmIn W (fun b => w.heap.size + 1 < b) c v ∧ (ld47 (.pointer (some ⟨w.heap.size + 1, 0, none⟩))).run Tryz.prog W = .ok (.agg v) W ∧ (st47 (.pointer (some ⟨w.heap.size, 0, none⟩)) (.agg v)).run Tryz.prog W = .ok () (W.setCells w.heap.size 0 v.toList) := by
  obtain ⟨v, h1, h2, _⟩ := h.var
  exact ⟨v, h2, ld47_run (block_range h1) h2.size, st47_run (by rw [h2.size]; exact there_of h.res) h2.size h2.one⟩
theorem zccs_full {v : Array Value} (h : v.size = 26) : wrote (zccs 0) 0 v.toList = v := by
  apply Array.ext'
  rw [wrote_toList v.toList (zccs 0) 0 [] (zccs 0).toList [] (by simp) rfl (by simp [h])]
  simp
theorem DCs.ret (h : DCs w fb s c N st W) (hf : fb < w.heap.size) {v : Array Value} (hv : CmIn W (fun b => w.heap.size + 1 < b) c v) {tmps : Array Value} (hp : tmps.getD 2 undef = .pointer (some ⟨w.heap.size, 0, none⟩)) :
    bodyPost Tryz.prog Tryz.f15 (fun e w' => DQ w fb s st (CmR w c) e w') Exit.ret { tmps := tmps, defers := [] } (W.setCells w.heap.size 0 v.toList) := by
  have hr := heap_setCells v.toList 0 _ W h.res
  rw [zccs_full hv.size] at hr
  refine bodyPost_ret (results_cell_row rfl _ _ w.heap.size 47 _ (0, 0) _ hp hr Tryz.underlying47 rfl (by rw [Tryz.size47, hv.size])) rfl ?_
  exact ⟨⟨v, rfl, hv.keep fun b _ hs => ⟨by have : w.heap.size + 1 < b := hs; show w.heap.size ≤ b; omega, heap_setCells_ne (by have : w.heap.size + 1 < b := hs; omega) _ _ _⟩⟩, h.rd.of_block (heap_setCells_ne (by omega) _ _ _), h.old.setsNew (Nat.le_refl _) _ _⟩
section
variable {α : Type} {P : World → (Nat → Prop) → α → Value → Prop} {T z i : Nat} {V : World} {l : List α} {A : Option Addr} {cc : Nat} {ys : List Value} {v : Array Value}
theorem Gw.brs {eb ty : Nat} {l : List Bd} {cs : Array Value} (h : Gw BrP 64 11 V fb s st eb ty i cs l A cc ys W) : BrsIn W (fun b => V.heap.size ≤ b) A l := by
  obtain ⟨A', c', e', hL⟩ := GRow.brs (l := l) h.row
  injection e' with e1 e2 e3
  subst e1
  exact hL
theorem Gw.ctors {eb ty : Nat} {l : List Ct} {cs : Array Value} (h : Gw CtP 68 11 V fb s st eb ty i cs l A cc ys W) : CtsIn W (fun b => V.heap.size ≤ b) A l := by
  obtain ⟨A', c', e', hL⟩ := GRow.cts (l := l) h.row
  injection e' with e1 e2 e3
  subst e1
  exact hL
theorem Gw.tacs {eb ty : Nat} {l : List Tc} {cs : Array Value} (h : Gw TcP 66 5 V fb s st eb ty i cs l A cc ys W) : TcsIn W (fun b => V.heap.size ≤ b) A l := by
  obtain ⟨A', c', e', hL⟩ := GRow.tcs (l := l) h.row
  injection e' with e1 e2 e3
  subst e1
  exact hL
/-- A field that is nil begins to grow. -/
theorem DCs.grow (h : DCs w fb s c N st V) (hlt : fb < w.heap.size) (hi : i ∈ N) : ∃ v, CmIn V (fun b => w.heap.size + 1 < b) c v ∧ (∀ j ∈ N, v[j]? = some nilV) ∧ Gw P T z V fb s st (w.heap.size + 1) 47 i (v.setIfInBounds i (.slice none 0 0)) ([] : List α) none 0 [] V := by
  obtain ⟨v, h1, h2, h3⟩ := h.var
  have e := set_same (h3 i hi)
  exact ⟨v, h2, h3, Gw.start h.rd (by rw [h1, e]) (by omega) (by rw [e]; exact h3 i hi)⟩
/-- It grew. -/
theorem Gw.dcs (h : Gw P T z V fb s st (w.heap.size + 1) 47 i (v.setIfInBounds i (.slice A l.length cc)) l A cc ys W) (hV : DCs w fb s c N st0 V) (hlt : fb < w.heap.size) (hv : CmIn V (fun b => w.heap.size + 1 < b) c v) (hn : ∀ j ∈ N, v[j]? = some nilV) (hN : ∀ j ∈ N', j ∈ N ∧ i ≠ j)
    (hc : CmIn W (fun b => w.heap.size + 1 < b) c v → CmIn W (fun b => w.heap.size + 1 < b) c' (v.setIfInBounds i (.slice A l.length cc))) : DCs w fb s c' N' st W := by
  have hl := hV.lt
  have hz := h.size
  have hzo := hV.old.size
  refine ⟨(h.keep _ (by omega) (by omega) (by omega)).trans hV.res, ⟨_, h.at_, hc (hv.keep fun b hb hs => ⟨hs, h.keep b hb (by have : w.heap.size + 1 < b := hs; omega) (by have : w.heap.size + 1 < b := hs; omega)⟩), fun j hj => ?_⟩, h.rd, ⟨h.os.trans hV.old.os, h.tape.trans hV.old.tape, h.output.trans hV.old.output, Nat.le_trans hzo hz, fun b hb hne => (h.keep b (by omega) (fun e => hne (by rw [e])) (by omega)).trans (hV.old.block b hb hne)⟩⟩
  rw [Array.getElem?_setIfInBounds_ne (hN j hj).2]
  exact hn j (hN j hj).1
/-- One more, appended and stored. -/
theorem Gw.pushV {w5 w6 : World} {x : α} {a : Array Value} {o : Obj} {v' : Value} {eb ty : Nat} (hP : Keep1 P) (h : Gw P T z V fb s st eb ty i (v.setIfInBounds i (.slice A l.length cc)) l A cc ys W) (hR : DR w5 fb s st') (hT : Touched W fb w5) (hx : P w5 (fun b => W.heap.size ≤ b) x (.agg a)) (ha : a.size = z)
    (hown : w6.ownsRow V.heap.size T z v' (l.length + 1) (flat ys ++ a.toList)) (hgr : (w5.alloc o).grownBy w6 (Value.slice A l.length cc).ownBlock) (hpl : v'.ownBlock = (Value.slice A l.length cc).ownBlock ∨ v'.ownBlock = some (w5.alloc o).heap.size) :
    ∃ A' c', v' = .slice A' (l.length + 1) c' ∧ w6.cell? ⟨eb, i, none⟩ = some (.slice A l.length cc) ∧ w6.frozen? ⟨eb, i, none⟩ = false ∧ Gw P T z V fb s st' eb ty i (v.setIfInBounds i (.slice A' (l ++ [x]).length c')) (l ++ [x]) A' c' (ys ++ [.agg a]) (w6.setCell ⟨eb, i, none⟩ (.slice A' (l.length + 1) c')) := by
  obtain ⟨A', c', hv, he, hG⟩ := h.push hP hR hT hx ha hown hgr hpl
  have hl : (l ++ [x]).length = l.length + 1 := by simp
  subst hv
  rw [Array.setIfInBounds_setIfInBounds] at hG
  rw [hl] at hG ⊢
  exact ⟨A', c', rfl, cell_of he i h.fld, frozen_of he i, hG⟩
end
end
end Go.Proofs.YtekfledccpeblaaGreatDoor

/- The document's command: its binders' row, its constructors' variable. No walk. -/
namespace Go.Proofs.YtekfledccpeblaaGreatDoor
open Go.RowKit

/-- A binder's cells in a row, with its type's cells beside it. -/
def PrP (_ : World) (_ : Nat → Prop) (x : Bd × Array Value) (v : Value) : Prop := v = .agg (brcs x.1.nm x.1.im x.2)
theorem keep_PrP : Keep1 PrP := fun _ _ _ _ _ _ _ hp => hp
section
variable {V W W' w : World} {fb eb ty i kb : Nat} {s : ByteArray} {st st' st0 : FS} {cs : Array Value} {A : Option Addr} {cc : Nat} {ys : List Value}
theorem Gw.pairs {l : List (Bd × Array Value)} (h : Gw PrP 64 11 V fb s st eb ty i cs l A cc ys W) {S : Nat → Prop} (hx : ∀ j (hj : j < l.length), InX W S l[j].1.ty l[j].2) (hS : ∀ b, V.heap.size ≤ b → S b) : BrsIn W S A (l.map Prod.fst) := by
  obtain ⟨A', c', e', hp⟩ := h.row.out (KL.keeps keep_PrP _)
  injection e' with e1 e2 e3
  subst e1
  intro j hj
  have hj' : j < l.length := by simpa using hj
  obtain ⟨g, a, ea, hg, hz, hc, hin⟩ := hp j hj'
  obtain ⟨_, hv⟩ := hin
  have hv' : a = brcs l[j].1.nm l[j].1.im l[j].2 := by injection hv
  subst hv'
  exact ⟨g, l[j].2, ea, hS g hg, by simpa using hx j hj', by simpa using hc⟩
/-- Behind a field that grew nothing else has changed. -/
theorem Gw.oldT {α : Type} {P : World → (Nat → Prop) → α → Value → Prop} {T z : Nat} {l : List α} {c : Cm} {N : List Nat} (h : Gw P T z V fb s st (w.heap.size + 1) ty i cs l A cc ys W) (hV : DCs w fb s c N st0 V) : Touched w fb W := by
  have hl := hV.lt
  exact ⟨h.os.trans hV.old.os, h.tape.trans hV.old.tape, h.output.trans hV.old.output, Nat.le_trans hV.old.size h.size, fun b hb hne => (h.keep b (by omega) (fun e => hne (by rw [e])) (by omega)).trans (hV.old.block b hb hne)⟩
/-- While a constructor is read: its variable. -/
structure CtV (w0 : World) (fb : Nat) (s : ByteArray) (kb : Nat) (nm : ByteArray) (a : Nat) (xv : Array Value) (st : FS) (W : World) : Prop where
  rd : DR W fb s st
  old : Touched w0 fb W
  at_ : W.heap[kb]? = some (.cells (ctcs nm (a : Nat) xv) 68 (0, 0))
  ge : w0.heap.size ≤ kb
section
variable {w0 : World} {nm : ByteArray} {a : Nat} {xv yv : Array Value}
theorem CtV.lt (h : CtV w0 fb s kb nm a xv st W) : kb < W.heap.size := (Array.getElem?_eq_some_iff.1 h.at_).1
theorem CtV.touched (h : CtV w0 fb s kb nm a xv st W) (hf : fb < w0.heap.size) (hR : DR W' fb s st') (hT : Touched W fb W') : CtV w0 fb s kb nm a xv st' W' := by
  have hg := h.ge
  exact ⟨hR, h.old.trans hT, (hT.at h.lt (by omega)).trans h.at_, h.ge⟩
theorem ctcs_wrote (hx : xv.size = 9) (hy : yv.size = 9) : wrote (ctcs nm (a : Nat) xv) 2 yv.toList = ctcs nm (a : Nat) yv := by
  apply Array.ext'
  rw [wrote_toList yv.toList _ 2 [.string nm, .int .i64 (a : Nat)] xv.toList [] (by simp) rfl (by simp [hx, hy])]
  simp
theorem CtV.start (hR : DR w0 fb s st) (a : Nat) : CtV w0 fb s w0.heap.size ⟨#[]⟩ a xv st ((w0.alloc (.cells (ctcs ⟨#[]⟩ 0 xv) 68)).setCells w0.heap.size 0 (ctcs ⟨#[]⟩ (a : Nat) xv).toList) := by
  have hl := hR.lt
  have h0 := heap_setCells (ctcs ⟨#[]⟩ (a : Nat) xv).toList 0 _ _ (heap_alloc_new w0 (.cells (ctcs ⟨#[]⟩ 0 xv) 68))
  rw [show wrote (ctcs ⟨#[]⟩ 0 xv) 0 (ctcs ⟨#[]⟩ (a : Nat) xv).toList = ctcs ⟨#[]⟩ (a : Nat) xv from by
    apply Array.ext'
    rw [wrote_toList _ _ 0 [] (ctcs ⟨#[]⟩ 0 xv).toList [] (by simp) rfl (by simp)]
    simp] at h0
  exact ⟨(hR.alloc _).of_block (heap_setCells_ne (by omega) _ _ _), (Touched.alloc w0 fb _).setsNew (Nat.le_refl _) _ _, h0, Nat.le_refl _⟩
theorem CtV.name (h : CtV w0 fb s kb nm a xv st W) (hf : fb < w0.heap.size) (nm' : ByteArray) : CtV w0 fb s kb nm' a xv st (W.setCell ⟨kb, 0, none⟩ (.string nm')) := by
  have hg := h.ge
  refine ⟨h.rd.of_block (Below.heap_setCell _ _ _ _ (by show fb ≠ kb; omega)), h.old.setNew (a := ⟨kb, 0, none⟩) hg _, ?_, hg⟩
  rw [heap_setCell_same W _ 0 _ _ (.string nm') h.at_]
  congr 2
  apply Array.ext'
  simp
theorem CtV.type (h : CtV w0 fb s kb nm a xv st W) (hf : fb < w0.heap.size) (hx : xv.size = 9) (hy : yv.size = 9) : CtV w0 fb s kb nm a yv st (W.setCells kb 2 yv.toList) := by
  have hg := h.ge
  have h0 := heap_setCells yv.toList 2 _ _ h.at_
  rw [ctcs_wrote hx hy] at h0
  exact ⟨h.rd.of_block (heap_setCells_ne (by omega) _ _ _), h.old.setsNew hg _ _, h0, hg⟩
theorem CtV.cell (h : CtV w0 fb s kb nm a xv st W) : W.cell? ⟨kb, 0, none⟩ = some (.string nm) := cell_of h.at_ 0 (by rw [Array.getElem?_append_left (by simp)]; rfl)
theorem CtV.there (h : CtV w0 fb s kb nm a xv st W) (hx : xv.size = 9) : W.there kb 2 9 := fun j hj => by
  refine ⟨?_, frozen_of h.at_ _⟩
  have hs : (ctcs nm (a : Nat) xv).size = 11 := by simp [hx]
  rw [cell_of h.at_ (2 + j) (Array.getElem?_eq_getElem (by omega))]
  rfl
end
end
end Go.Proofs.YtekfledccpeblaaGreatDoor
