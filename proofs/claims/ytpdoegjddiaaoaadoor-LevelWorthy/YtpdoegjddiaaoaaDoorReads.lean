/- How a level stands in a text: by its tokens; and that a printed level stands so. Plain Lean. -/
import Derived.Test.YtpdoegjddiaaoaaDoorTok
import Derived.Test.YtpdoegjddiaaoaaDoorText
namespace Go.Proofs.YtpdoegjddiaaoaaDoor
open Go.RowKit

/-- A sign stands there, behind blanks. -/
def SignAt (s : ByteArray) (c p p' : Nat) : Prop := runTo blankB s p < s.size ∧ at_ s (runTo blankB s p) = c ∧ p' = runTo blankB s p + 1
/-- A name stands there, behind blanks. -/
def WordAt (s q : ByteArray) (p p' : Nat) : Prop := runTo blankB s p < s.size ∧ nameB (at_ s (runTo blankB s p)) true = true ∧ p' = runTo (fun c => nameB c false) s (runTo blankB s p + 1) ∧ p' - runTo blankB s p ≤ 40 ∧ q = s.extract (runTo blankB s p) p'
/-- A zero stands there, behind blanks. -/
def ZeroAt (s : ByteArray) (p p' : Nat) : Prop := runTo blankB s p < s.size ∧ at_ s (runTo blankB s p) = 48 ∧ runTo digitB s (runTo blankB s p + 1) = runTo blankB s p + 1 ∧ p' = runTo blankB s p + 1

/-- A level stands there. -/
def Reads (s : ByteArray) : LvB → Nat → Nat → Prop
  | .zero, p, p' => ZeroAt s p p'
  | .param q, p, p' => WordAt s q p p'
  | .succ a, p, p' => ∃ p1 p2 p3, SignAt s 40 p p1 ∧ WordAt s ⟨#[115]⟩ p1 p2 ∧ Reads s a p2 p3 ∧ SignAt s 41 p3 p'
  | .max a b, p, p' => ∃ p1 p2 p3 p4, SignAt s 40 p p1 ∧ WordAt s ⟨#[109, 97, 120]⟩ p1 p2 ∧ Reads s a p2 p3 ∧ Reads s b p3 p4 ∧ SignAt s 41 p4 p'
  | .imax a b, p, p' => ∃ p1 p2 p3 p4, SignAt s 40 p p1 ∧ WordAt s ⟨#[105, 109, 97, 120]⟩ p1 p2 ∧ Reads s a p2 p3 ∧ Reads s b p3 p4 ∧ SignAt s 41 p4 p'

/-- These bytes stand at that place. -/
def Has (s : ByteArray) (p : Nat) (t : List UInt8) : Prop := p + t.length ≤ s.size ∧ ∀ i (h : i < t.length), at_ s (p + i) = (t[i]).toNat

theorem Has.left {s : ByteArray} {p : Nat} {t u : List UInt8} (h : Has s p (t ++ u)) : Has s p t := by
  refine ⟨by have := h.1; simp at this; omega, fun i hi => ?_⟩
  have := h.2 i (by simp; omega)
  rwa [List.getElem_append_left hi] at this
theorem Has.right {s : ByteArray} {p : Nat} {t u : List UInt8} (h : Has s p (t ++ u)) : Has s (p + t.length) u := by
  refine ⟨by have := h.1; simp at this; omega, fun i hi => ?_⟩
  have := h.2 (t.length + i) (by simp; omega)
  rw [List.getElem_append_right (by omega)] at this
  simpa [Nat.add_assoc] using this
theorem Has.head {s : ByteArray} {p : Nat} {c : UInt8} {u : List UInt8} (h : Has s p (c :: u)) : p < s.size ∧ at_ s p = c.toNat ∧ Has s (p + 1) u := by
  have h1 := h.2 0 (by simp)
  have hs := h.1
  simp at h1 hs
  exact ⟨by omega, h1, Has.right (t := [c]) h⟩

/-- Neither a name nor a number goes on there. -/
def Stop (s : ByteArray) (p : Nat) : Prop := nameB (at_ s p) false = false ∧ digitB (at_ s p) = false
theorem Stop.of {s : ByteArray} {p c : Nat} (h : at_ s p = c) (hc : c = 32 ∨ c = 41 ∨ c = 40 ∨ c = 0) : Stop s p := by
  unfold Stop; rw [h]; rcases hc with rfl | rfl | rfl | rfl <;> decide
theorem at_end {s : ByteArray} {p : Nat} (h : s.size ≤ p) : at_ s p = 0 := by unfold at_; rw [dif_neg (by omega)]

/-- What a name is. -/
def Nm (q : ByteArray) : Prop := 0 < q.size ∧ q.size ≤ 40 ∧ nameB (at_ q 0) true = true ∧ ∀ i, i < q.size → nameB (at_ q i) false = true

theorem runTo_run {f : Nat → Bool} {s : ByteArray} : ∀ (n k : Nat), k + n ≤ s.size → (∀ i, i < n → f (at_ s (k + i)) = true) → runTo f s k = runTo f s (k + n)
  | 0, k, _, _ => rfl
  | n + 1, k, h, hf => by
    rw [runTo_step (by omega) (by simpa using hf 0 (by omega)), runTo_run n (k + 1) (by omega) fun i hi => by have := hf (i + 1) (by omega); rwa [show k + (i + 1) = k + 1 + i by omega] at this]
    congr 1
    omega

theorem at_data (q : ByteArray) (i : Nat) (h : i < q.size) : at_ q i = (q.data.toList[i]'(by simpa using h)).toNat := by
  unfold at_; rw [dif_pos h]; rfl

theorem has_word {s q : ByteArray} {p : Nat} (hq : Nm q) (h : Has s p q.data.toList) (hst : Stop s (p + q.size)) : WordAt s q p (p + q.size) := by
  obtain ⟨h0, h40, hf, hall⟩ := hq
  have hlen : q.data.toList.length = q.size := by simp
  have hat : ∀ i, i < q.size → at_ s (p + i) = at_ q i := fun i hi => by rw [h.2 i (by omega), at_data q i hi]
  have hsz := h.1
  rw [hlen] at hsz
  have hb : runTo blankB s p = p := runTo_stop (by
    have e := hat 0 h0
    simp at e
    rw [e]
    have := hf
    revert this
    generalize at_ q 0 = c
    intro h'
    simp [nameB, letterB] at h'
    simp [blankB]
    omega)
  have hr : runTo (fun c => nameB c false) s (p + 1) = p + q.size := by
    rw [runTo_run (q.size - 1) (p + 1) (by omega) fun i hi => by rw [show p + 1 + i = p + (i + 1) by omega, hat (i + 1) (by omega)]; exact hall _ (by omega)]
    rw [show p + 1 + (q.size - 1) = p + q.size by omega]
    exact runTo_stop hst.1
  unfold WordAt
  rw [hb]
  refine ⟨by omega, by have e := hat 0 h0; simp at e; rw [e]; exact hf, hr.symm, by omega, ?_⟩
  rw [ByteArray.ext_iff]
  apply Array.ext'
  apply List.ext_getElem
  · simp; omega
  · intro i h1 h2
    have hi : i < q.size := by omega
    have e := hat i hi
    rw [at_data q i hi] at e
    unfold at_ at e
    rw [dif_pos (by omega)] at e
    have e' := UInt8.toNat_inj.1 e
    simp
    simp at e'
    exact e'.symm

theorem Reads.ahead {s : ByteArray} {p p1 : Nat} (h : runTo blankB s p = runTo blankB s p1) : ∀ {l : LvB} {p' : Nat}, Reads s l p1 p' → Reads s l p p'
  | .zero, _, hr => by simp only [Reads, ZeroAt] at hr ⊢; rw [h]; exact hr
  | .param _, _, hr => by simp only [Reads, WordAt] at hr ⊢; rw [h]; exact hr
  | .succ _, _, ⟨a, b, c, h1, h2⟩ => ⟨a, b, c, by unfold SignAt at h1 ⊢; rw [h]; exact h1, h2⟩
  | .max _ _, _, ⟨a, b, c, d, h1, h2⟩ => ⟨a, b, c, d, by unfold SignAt at h1 ⊢; rw [h]; exact h1, h2⟩
  | .imax _ _, _, ⟨a, b, c, d, h1, h2⟩ => ⟨a, b, c, d, by unfold SignAt at h1 ⊢; rw [h]; exact h1, h2⟩

theorem has_sign {s : ByteArray} {p : Nat} {c : UInt8} {u : List UInt8} (h : Has s p (c :: u)) (hc : blankB c.toNat = false) : SignAt s c.toNat p (p + 1) := by
  obtain ⟨h1, h2, _⟩ := h.head
  have hb : runTo blankB s p = p := runTo_stop (by rw [h2]; exact hc)
  unfold SignAt
  rw [hb]
  exact ⟨h1, h2, rfl⟩

theorem has_blank {s : ByteArray} {p : Nat} {u : List UInt8} (h : Has s p (32 :: u)) : runTo blankB s p = runTo blankB s (p + 1) := by
  obtain ⟨h1, h2, _⟩ := h.head
  exact runTo_step h1 (by rw [h2]; decide)

/-- A printed level stands there. -/
theorem text_reads {s : ByteArray} : ∀ (l : LvB) (p : Nat), (∀ q, Lv.has q l → Nm q) → Has s p l.text → Stop s (p + l.text.length) → Reads s l p (p + l.text.length)
  | .zero, p, _, h, hst => by
    obtain ⟨h1, h2, _⟩ := h.head
    have hb : runTo blankB s p = p := runTo_stop (by rw [h2]; decide)
    simp only [Reads, ZeroAt, hb, Lv.text, List.length_singleton] at hst ⊢
    exact ⟨h1, h2, runTo_stop hst.2, trivial⟩
  | .param q, p, hn, h, hst => by
    have e : (Lv.text (.param q)).length = q.size := by simp [Lv.text]
    rw [e] at hst ⊢
    exact has_word (hn q rfl) h hst
  | .succ a, p, hn, h, hst => by
    have hx : Lv.text (.succ a) = (40 :: ([115] ++ (32 :: (Lv.text a ++ [41])))) := by simp [Lv.text]
    have hl : (Lv.text (.succ a)).length = 1 + 1 + 1 + a.text.length + 1 := by rw [hx]; simp; omega
    rw [hx] at h
    have h1 := h.head.2.2
    have h2 := h1.right
    have h3 := h2.head.2.2
    have h4 := h3.right
    refine ⟨p + 1, p + 1 + 1, p + 1 + 1 + 1 + a.text.length, has_sign h (by decide), ?_, ?_, ?_⟩
    · exact has_word (q := ⟨#[115]⟩) (by refine ⟨by decide, by decide, by decide, by decide⟩) h1.left (Stop.of (c := 32) h2.head.2.1 (.inl rfl))
    · refine Reads.ahead (has_blank h2) (text_reads a _ hn h3.left (Stop.of (c := 41) h4.head.2.1 (.inr (.inl rfl))))
    · have := has_sign h4 (by decide)
      rw [hl, show p + (1 + 1 + 1 + a.text.length + 1) = p + 1 + 1 + 1 + a.text.length + 1 by omega]
      exact this
  | .max a b, p, hn, h, hst => by
    have hx : Lv.text (.max a b) = (40 :: ([109, 97, 120] ++ (32 :: (Lv.text a ++ (32 :: (Lv.text b ++ [41])))))) := by simp [Lv.text]
    have hl : (Lv.text (.max a b)).length = 1 + 3 + 1 + a.text.length + 1 + b.text.length + 1 := by rw [hx]; simp; omega
    rw [hx] at h
    have h1 := h.head.2.2
    have h2 := h1.right
    have h3 := h2.head.2.2
    have h4 := h3.right
    have h5 := h4.head.2.2
    have h6 := h5.right
    refine ⟨p + 1, p + 1 + 3, p + 1 + 3 + 1 + a.text.length, p + 1 + 3 + 1 + a.text.length + 1 + b.text.length, has_sign h (by decide), ?_, ?_, ?_, ?_⟩
    · exact has_word (q := ⟨#[109, 97, 120]⟩) (by refine ⟨by decide, by decide, by decide, by decide⟩) h1.left (Stop.of (c := 32) h2.head.2.1 (.inl rfl))
    · exact Reads.ahead (has_blank h2) (text_reads a _ (fun q hq => hn q (.inl hq)) h3.left (Stop.of (c := 32) h4.head.2.1 (.inl rfl)))
    · exact Reads.ahead (has_blank h4) (text_reads b _ (fun q hq => hn q (.inr hq)) h5.left (Stop.of (c := 41) h6.head.2.1 (.inr (.inl rfl))))
    · have := has_sign h6 (by decide)
      rw [hl, show p + (1 + 3 + 1 + a.text.length + 1 + b.text.length + 1) = p + 1 + 3 + 1 + a.text.length + 1 + b.text.length + 1 by omega]
      exact this
  | .imax a b, p, hn, h, hst => by
    have hx : Lv.text (.imax a b) = (40 :: ([105, 109, 97, 120] ++ (32 :: (Lv.text a ++ (32 :: (Lv.text b ++ [41])))))) := by simp [Lv.text]
    have hl : (Lv.text (.imax a b)).length = 1 + 4 + 1 + a.text.length + 1 + b.text.length + 1 := by rw [hx]; simp; omega
    rw [hx] at h
    have h1 := h.head.2.2
    have h2 := h1.right
    have h3 := h2.head.2.2
    have h4 := h3.right
    have h5 := h4.head.2.2
    have h6 := h5.right
    refine ⟨p + 1, p + 1 + 4, p + 1 + 4 + 1 + a.text.length, p + 1 + 4 + 1 + a.text.length + 1 + b.text.length, has_sign h (by decide), ?_, ?_, ?_, ?_⟩
    · exact has_word (q := ⟨#[105, 109, 97, 120]⟩) (by refine ⟨by decide, by decide, by decide, by decide⟩) h1.left (Stop.of (c := 32) h2.head.2.1 (.inl rfl))
    · exact Reads.ahead (has_blank h2) (text_reads a _ (fun q hq => hn q (.inl hq)) h3.left (Stop.of (c := 32) h4.head.2.1 (.inl rfl)))
    · exact Reads.ahead (has_blank h4) (text_reads b _ (fun q hq => hn q (.inr hq)) h5.left (Stop.of (c := 41) h6.head.2.1 (.inr (.inl rfl))))
    · have := has_sign h6 (by decide)
      rw [hl, show p + (1 + 4 + 1 + a.text.length + 1 + b.text.length + 1) = p + 1 + 4 + 1 + a.text.length + 1 + b.text.length + 1 by omega]
      exact this

/-- The whole of a printed level's text. -/
theorem has_all (t : List UInt8) : Has ⟨t.toArray⟩ 0 t := by
  refine ⟨Nat.le_of_eq (by rw [Nat.zero_add]; rfl), fun i hi => ?_⟩
  have hs : (⟨t.toArray⟩ : ByteArray).size = t.length := rfl
  unfold at_
  rw [dif_pos (by rw [hs]; omega)]
  simp
  rfl

end Go.Proofs.YtpdoegjddiaaoaaDoor
