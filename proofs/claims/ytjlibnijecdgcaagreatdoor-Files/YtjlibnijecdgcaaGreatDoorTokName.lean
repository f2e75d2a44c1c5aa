/- A level's text: plain lists. -/
import Derived.Test.YtjlibnijecdgcaaGreatDoorTok
import Derived.Deep.CutBlock
import Derived.Deep.DeepCutAuto

namespace Go.Proofs.YtjlibnijecdgcaaGreatDoor
open Go.RowKit

/-- A level's text, as it is printed. -/
def Lv.text : LvB → List UInt8
  | .zero => [48]
  | .succ a => [40, 115, 32] ++ Lv.text a ++ [41]
  | .max a b => [40, 109, 97, 120, 32] ++ Lv.text a ++ [32] ++ Lv.text b ++ [41]
  | .imax a b => [40, 105, 109, 97, 120, 32] ++ Lv.text a ++ [32] ++ Lv.text b ++ [41]
  | .param p => p.data.toList

theorem Lv.text_len : ∀ (l : LvB), (∀ p, Lv.has p l → p.size ≤ 1000) → l.text.length ≤ 1000 * l.nodes
  | .zero, _ => by simp [text, nodes]
  | .succ a, h => by have := Lv.text_len a h; simp [text, nodes]; omega
  | .max a b, h => by have := Lv.text_len a (fun p hp => h p (.inl hp)); have := Lv.text_len b (fun p hp => h p (.inr hp)); simp [text, nodes]; omega
  | .imax a b, h => by have := Lv.text_len a (fun p hp => h p (.inl hp)); have := Lv.text_len b (fun p hp => h p (.inr hp)); simp [text, nodes]; omega
  | .param p, h => by have := h p rfl; simp only [text, nodes, Array.length_toList]; show p.data.size ≤ _; have e : p.data.size = p.size := rfl; omega

theorem bytes_append (a b : List UInt8) : (⟨a.toArray⟩ : ByteArray) ++ ⟨b.toArray⟩ = ⟨(a ++ b).toArray⟩ := by
  rw [ByteArray.ext_iff]
  simp

/-- Words of brackets. -/
def Lv.word : LvB → List UInt8
  | .succ _ => [115]
  | .max _ _ => [109, 97, 120]
  | .imax _ _ => [105, 109, 97, 120]
  | _ => []

/-- The text of the first parts, each behind a blank. -/
def Lv.kidsText (l : LvB) (k : Nat) : List UInt8 := (l.kids.take k).flatMap fun a => 32 :: Lv.text a
theorem Lv.kidsText_snoc (l : LvB) (k : Nat) (h : k < l.kids.length) : l.kidsText (k + 1) = l.kidsText k ++ [32] ++ Lv.text l.kids[k] := by
  unfold kidsText; rw [List.take_succ_eq_append_getElem h, List.flatMap_append]; simp
theorem Lv.text_kids (l : LvB) (h4 : l.kind ≠ 4) (h0 : l.kind ≠ 0) : l.text = [40] ++ l.word ++ l.kidsText l.kids.length ++ [41] := by
  cases l <;> simp [kind] at h4 h0 <;> simp [text, word, kidsText, kids]
theorem Lv.kidsText_le (l : LvB) (k : Nat) (h : k ≤ l.kids.length) : (l.kidsText k).length ≤ (l.kidsText l.kids.length).length := by
  cases l with
  | zero => simp [kids] at h; subst h; simp [kidsText]
  | param => simp [kids] at h; subst h; simp [kidsText]
  | succ a => match k, h with | 0, _ => simp [kidsText] | 1, _ => simp [kidsText, kids] | k + 2, h => simp [kids] at h
  | max a b => match k, h with | 0, _ => simp [kidsText] | 1, _ => simp [kidsText, kids] | 2, _ => simp [kidsText, kids] | k + 3, h => simp [kids] at h
  | imax a b => match k, h with | 0, _ => simp [kidsText] | 1, _ => simp [kidsText, kids] | 2, _ => simp [kidsText, kids] | k + 3, h => simp [kids] at h

end Go.Proofs.YtjlibnijecdgcaaGreatDoor

/- How a level stands in a text: by its tokens; and that a printed level stands so. Plain Lean. -/
namespace Go.Proofs.YtjlibnijecdgcaaGreatDoor
open Go.RowKit

/-- A sign stands there, behind blanks. -/
def SignAt (s : ByteArray) (c p p' : Nat) : Prop := runTo blankB s p < s.size ∧ at_ s (runTo blankB s p) = c ∧ p' = runTo blankB s p + 1
/-- A name stands there, behind blanks. -/
def WordAt (s q : ByteArray) (p p' : Nat) : Prop := runTo blankB s p < s.size ∧ nameB (at_ s (runTo blankB s p)) true = true ∧ p' = runTo (fun c => nameB c false) s (runTo blankB s p + 1) ∧ p' - runTo blankB s p ≤ 40 ∧ q = s.extract (runTo blankB s p) p'
/-- A zero stands there, behind blanks. -/
def ZeroAt (s : ByteArray) (p p' : Nat) : Prop := runTo blankB s p < s.size ∧ at_ s (runTo blankB s p) = 48 ∧ runTo digitB s (runTo blankB s p + 1) = runTo blankB s p + 1 ∧ p' = runTo blankB s p + 1

/-- A level stands there. -/
def Reads (s : ByteArray) : LvB → Nat → Nat → Prop
  | .zero, p, p' => ZeroAt s p p'
  | .param q, p, p' => WordAt s q p p'
  | .succ a, p, p' => ∃ p1 p2 p3, SignAt s 40 p p1 ∧ WordAt s ⟨#[115]⟩ p1 p2 ∧ Reads s a p2 p3 ∧ SignAt s 41 p3 p'
  | .max a b, p, p' => ∃ p1 p2 p3 p4, SignAt s 40 p p1 ∧ WordAt s ⟨#[109, 97, 120]⟩ p1 p2 ∧ Reads s a p2 p3 ∧ Reads s b p3 p4 ∧ SignAt s 41 p4 p'
  | .imax a b, p, p' => ∃ p1 p2 p3 p4, SignAt s 40 p p1 ∧ WordAt s ⟨#[105, 109, 97, 120]⟩ p1 p2 ∧ Reads s a p2 p3 ∧ Reads s b p3 p4 ∧ SignAt s 41 p4 p'

/-- These bytes stand at that place. -/
def Has (s : ByteArray) (p : Nat) (t : List UInt8) : Prop := p + t.length ≤ s.size ∧ ∀ i (h : i < t.length), at_ s (p + i) = (t[i]).toNat

theorem Has.left {s : ByteArray} {p : Nat} {t u : List UInt8} (h : Has s p (t ++ u)) : Has s p t := by
  refine ⟨by have := h.1; simp at this; omega, fun i hi => ?_⟩
  have := h.2 i (by simp; omega)
  rwa [List.getElem_append_left hi] at this
theorem Has.right {s : ByteArray} {p : Nat} {t u : List UInt8} (h : Has s p (t ++ u)) : Has s (p + t.length) u := by
  refine ⟨by have := h.1; simp at this; omega, fun i hi => ?_⟩
  have := h.2 (t.length + i) (by simp; omega)
  rw [List.getElem_append_right (by omega)] at this
  simpa [Nat.add_assoc] using this
theorem Has.head {s : ByteArray} {p : Nat} {c : UInt8} {u : List UInt8} (h : Has s p (c :: u)) : p < s.size ∧ at_ s p = c.toNat ∧ Has s (p + 1) u := by
  have h1 := h.2 0 (by simp)
  have hs := h.1
  simp at h1 hs
  exact ⟨by omega, h1, Has.right (t := [c]) h⟩

/-- Neither a name nor a number goes on there. -/
def Stop (s : ByteArray) (p : Nat) : Prop := nameB (at_ s p) false = false ∧ digitB (at_ s p) = false
theorem Stop.of {s : ByteArray} {p c : Nat} (h : at_ s p = c) (hc : c = 32 ∨ c = 41 ∨ c = 40 ∨ c = 0) : Stop s p := by
  unfold Stop; rw [h]; rcases hc with rfl | rfl | rfl | rfl <;> decide
theorem at_end {s : ByteArray} {p : Nat} (h : s.size ≤ p) : at_ s p = 0 := by unfold at_; rw [dif_neg (by omega)]

/-- What a name is. -/
def Nm (q : ByteArray) : Prop := 0 < q.size ∧ q.size ≤ 40 ∧ nameB (at_ q 0) true = true ∧ ∀ i, i < q.size → nameB (at_ q i) false = true

theorem runTo_run {f : Nat → Bool} {s : ByteArray} : ∀ (n k : Nat), k + n ≤ s.size → (∀ i, i < n → f (at_ s (k + i)) = true) → runTo f s k = runTo f s (k + n)
  | 0, k, _, _ => rfl
  | n + 1, k, h, hf => by
    rw [runTo_step (by omega) (by simpa using hf 0 (by omega)), runTo_run n (k + 1) (by omega) fun i hi => by have := hf (i + 1) (by omega); rwa [show k + (i + 1) = k + 1 + i by omega] at this]
    congr 1
    omega

theorem at_data (q : ByteArray) (i : Nat) (h : i < q.size) : at_ q i = (q.data.toList[i]'(by simpa using h)).toNat := by
  unfold at_; rw [dif_pos h]; rfl

theorem has_word {s q : ByteArray} {p : Nat} (hq : Nm q) (h : Has s p q.data.toList) (hst : Stop s (p + q.size)) : WordAt s q p (p + q.size) := by
  obtain ⟨h0, h40, hf, hall⟩ := hq
  have hlen : q.data.toList.length = q.size := by simp
  have hat : ∀ i, i < q.size → at_ s (p + i) = at_ q i := fun i hi => by rw [h.2 i (by omega), at_data q i hi]
  have hsz := h.1
  rw [hlen] at hsz
  have hb : runTo blankB s p = p := runTo_stop (by
    have e := hat 0 h0
    simp at e
    rw [e]
    have := hf
    revert this
    generalize at_ q 0 = c
    intro h'
    simp [nameB, letterB] at h'
    simp [blankB]
    omega)
  have hr : runTo (fun c => nameB c false) s (p + 1) = p + q.size := by
    rw [runTo_run (q.size - 1) (p + 1) (by omega) fun i hi => by rw [show p + 1 + i = p + (i + 1) by omega, hat (i + 1) (by omega)]; exact hall _ (by omega)]
    rw [show p + 1 + (q.size - 1) = p + q.size by omega]
    exact runTo_stop hst.1
  unfold WordAt
  rw [hb]
  refine ⟨by omega, by have e := hat 0 h0; simp at e; rw [e]; exact hf, hr.symm, by omega, ?_⟩
  rw [ByteArray.ext_iff]
  apply Array.ext'
  apply List.ext_getElem
  · simp; omega
  · intro i h1 h2
    have hi : i < q.size := by omega
    have e := hat i hi
    rw [at_data q i hi] at e
    unfold at_ at e
    rw [dif_pos (by omega)] at e
    have e' := UInt8.toNat_inj.1 e
    simp
    simp at e'
    exact e'.symm

theorem Reads.ahead {s : ByteArray} {p p1 : Nat} (h : runTo blankB s p = runTo blankB s p1) : ∀ {l : LvB} {p' : Nat}, Reads s l p1 p' → Reads s l p p'
  | .zero, _, hr => by simp only [Reads, ZeroAt] at hr ⊢; rw [h]; exact hr
  | .param _, _, hr => by simp only [Reads, WordAt] at hr ⊢; rw [h]; exact hr
  | .succ _, _, ⟨a, b, c, h1, h2⟩ => ⟨a, b, c, by unfold SignAt at h1 ⊢; rw [h]; exact h1, h2⟩
  | .max _ _, _, ⟨a, b, c, d, h1, h2⟩ => ⟨a, b, c, d, by unfold SignAt at h1 ⊢; rw [h]; exact h1, h2⟩
  | .imax _ _, _, ⟨a, b, c, d, h1, h2⟩ => ⟨a, b, c, d, by unfold SignAt at h1 ⊢; rw [h]; exact h1, h2⟩

theorem has_sign {s : ByteArray} {p : Nat} {c : UInt8} {u : List UInt8} (h : Has s p (c :: u)) (hc : blankB c.toNat = false) : SignAt s c.toNat p (p + 1) := by
  obtain ⟨h1, h2, _⟩ := h.head
  have hb : runTo blankB s p = p := runTo_stop (by rw [h2]; exact hc)
  unfold SignAt
  rw [hb]
  exact ⟨h1, h2, rfl⟩

theorem has_blank {s : ByteArray} {p : Nat} {u : List UInt8} (h : Has s p (32 :: u)) : runTo blankB s p = runTo blankB s (p + 1) := by
  obtain ⟨h1, h2, _⟩ := h.head
  exact runTo_step h1 (by rw [h2]; decide)

/-- A printed level stands there. -/
theorem text_reads {s : ByteArray} : ∀ (l : LvB) (p : Nat), (∀ q, Lv.has q l → Nm q) → Has s p l.text → Stop s (p + l.text.length) → Reads s l p (p + l.text.length)
  | .zero, p, _, h, hst => by
    obtain ⟨h1, h2, _⟩ := h.head
    have hb : runTo blankB s p = p := runTo_stop (by rw [h2]; decide)
    simp only [Reads, ZeroAt, hb, Lv.text, List.length_singleton] at hst ⊢
    exact ⟨h1, h2, runTo_stop hst.2, trivial⟩
  | .param q, p, hn, h, hst => by
    have e : (Lv.text (.param q)).length = q.size := by simp [Lv.text]
    rw [e] at hst ⊢
    exact has_word (hn q rfl) h hst
  | .succ a, p, hn, h, hst => by
    have hx : Lv.text (.succ a) = (40 :: ([115] ++ (32 :: (Lv.text a ++ [41])))) := by simp [Lv.text]
    have hl : (Lv.text (.succ a)).length = 1 + 1 + 1 + a.text.length + 1 := by rw [hx]; simp; omega
    rw [hx] at h
    have h1 := h.head.2.2
    have h2 := h1.right
    have h3 := h2.head.2.2
    have h4 := h3.right
    refine ⟨p + 1, p + 1 + 1, p + 1 + 1 + 1 + a.text.length, has_sign h (by decide), ?_, ?_, ?_⟩
    · exact has_word (q := ⟨#[115]⟩) (by refine ⟨by decide, by decide, by decide, by decide⟩) h1.left (Stop.of (c := 32) h2.head.2.1 (.inl rfl))
    · refine Reads.ahead (has_blank h2) (text_reads a _ hn h3.left (Stop.of (c := 41) h4.head.2.1 (.inr (.inl rfl))))
    · have := has_sign h4 (by decide)
      rw [hl, show p + (1 + 1 + 1 + a.text.length + 1) = p + 1 + 1 + 1 + a.text.length + 1 by omega]
      exact this
  | .max a b, p, hn, h, hst => by
    have hx : Lv.text (.max a b) = (40 :: ([109, 97, 120] ++ (32 :: (Lv.text a ++ (32 :: (Lv.text b ++ [41])))))) := by simp [Lv.text]
    have hl : (Lv.text (.max a b)).length = 1 + 3 + 1 + a.text.length + 1 + b.text.length + 1 := by rw [hx]; simp; omega
    rw [hx] at h
    have h1 := h.head.2.2
    have h2 := h1.right
    have h3 := h2.head.2.2
    have h4 := h3.right
    have h5 := h4.head.2.2
    have h6 := h5.right
    refine ⟨p + 1, p + 1 + 3, p + 1 + 3 + 1 + a.text.length, p + 1 + 3 + 1 + a.text.length + 1 + b.text.length, has_sign h (by decide), ?_, ?_, ?_, ?_⟩
    · exact has_word (q := ⟨#[109, 97, 120]⟩) (by refine ⟨by decide, by decide, by decide, by decide⟩) h1.left (Stop.of (c := 32) h2.head.2.1 (.inl rfl))
    · exact Reads.ahead (has_blank h2) (text_reads a _ (fun q hq => hn q (.inl hq)) h3.left (Stop.of (c := 32) h4.head.2.1 (.inl rfl)))
    · exact Reads.ahead (has_blank h4) (text_reads b _ (fun q hq => hn q (.inr hq)) h5.left (Stop.of (c := 41) h6.head.2.1 (.inr (.inl rfl))))
    · have := has_sign h6 (by decide)
      rw [hl, show p + (1 + 3 + 1 + a.text.length + 1 + b.text.length + 1) = p + 1 + 3 + 1 + a.text.length + 1 + b.text.length + 1 by omega]
      exact this
  | .imax a b, p, hn, h, hst => by
    have hx : Lv.text (.imax a b) = (40 :: ([105, 109, 97, 120] ++ (32 :: (Lv.text a ++ (32 :: (Lv.text b ++ [41])))))) := by simp [Lv.text]
    have hl : (Lv.text (.imax a b)).length = 1 + 4 + 1 + a.text.length + 1 + b.text.length + 1 := by rw [hx]; simp; omega
    rw [hx] at h
    have h1 := h.head.2.2
    have h2 := h1.right
    have h3 := h2.head.2.2
    have h4 := h3.right
    have h5 := h4.head.2.2
    have h6 := h5.right
    refine ⟨p + 1, p + 1 + 4, p + 1 + 4 + 1 + a.text.length, p + 1 + 4 + 1 + a.text.length + 1 + b.text.length, has_sign h (by decide), ?_, ?_, ?_, ?_⟩
    · exact has_word (q := ⟨#[105, 109, 97, 120]⟩) (by refine ⟨by decide, by decide, by decide, by decide⟩) h1.left (Stop.of (c := 32) h2.head.2.1 (.inl rfl))
    · exact Reads.ahead (has_blank h2) (text_reads a _ (fun q hq => hn q (.inl hq)) h3.left (Stop.of (c := 32) h4.head.2.1 (.inl rfl)))
    · exact Reads.ahead (has_blank h4) (text_reads b _ (fun q hq => hn q (.inr hq)) h5.left (Stop.of (c := 41) h6.head.2.1 (.inr (.inl rfl))))
    · have := has_sign h6 (by decide)
      rw [hl, show p + (1 + 4 + 1 + a.text.length + 1 + b.text.length + 1) = p + 1 + 4 + 1 + a.text.length + 1 + b.text.length + 1 by omega]
      exact this

/-- The whole of a printed level's text. -/
theorem has_all (t : List UInt8) : Has ⟨t.toArray⟩ 0 t := by
  refine ⟨Nat.le_of_eq (by rw [Nat.zero_add]; rfl), fun i hi => ?_⟩
  have hs : (⟨t.toArray⟩ : ByteArray).size = t.length := rfl
  unfold at_
  rw [dif_pos (by rw [hs]; omega)]
  simp
  rfl

end Go.Proofs.YtjlibnijecdgcaaGreatDoor

/- The contract of token: the next token of a text, where it begins, whether one does. -/
namespace Go.Proofs.YtjlibnijecdgcaaGreatDoor
open Go.RowKit

theorem tokAt_hash {s : ByteArray} {k : Nat} (h1 : ¬ (at_ s k = 40 ∨ at_ s k = 41)) (h2 : nameB (at_ s k) true = false) (h3 : at_ s k = 35) :
    tokAt s k = if runTo digitB s (k + 1) = k + 1 ∨ 5 < runTo digitB s (k + 1) - (k + 1) ∨ (1 < runTo digitB s (k + 1) - (k + 1) ∧ at_ s (k + 1) = 48) then ⟨⟨#[]⟩, k, false⟩ else ⟨s.extract k (runTo digitB s (k + 1)), k, true⟩ := by
  unfold tokAt
  rw [if_neg h1, if_neg (by simp [h2]), if_pos (.inl h3)]
  simp only [if_pos h3]

theorem tokAt_digit {s : ByteArray} {k : Nat} (h1 : ¬ (at_ s k = 40 ∨ at_ s k = 41)) (h2 : nameB (at_ s k) true = false) (h3 : at_ s k ≠ 35) (h4 : digitB (at_ s k) = true) :
    tokAt s k = if runTo digitB s (k + 1) = k ∨ 5 < runTo digitB s (k + 1) - k ∨ (1 < runTo digitB s (k + 1) - k ∧ at_ s k = 48) then ⟨⟨#[]⟩, k, false⟩ else ⟨s.extract k (runTo digitB s (k + 1)), k, true⟩ := by
  unfold tokAt
  rw [if_neg h1, if_neg (by simp [h2]), if_pos (.inr h4)]
  simp only [if_neg h3]

end Go.Proofs.YtjlibnijecdgcaaGreatDoor

/- What a call changes: one block alone, and new ones. -/
namespace Go.Proofs.YtjlibnijecdgcaaGreatDoor
open Go.RowKit

/-- What the walk changes: the map alone, and new blocks. -/
def Touched (w : World) (m : Nat) (w' : World) : Prop := w.grownBy w' (some m)

theorem Touched.refl (w : World) (m : Nat) : Touched w m w := World.grownBy.refl _ _
theorem Touched.trans {w w' w'' : World} {m : Nat} (h : Touched w m w') (h' : Touched w' m w'') : Touched w m w'' :=
  ⟨h'.os.trans h.os, h'.tape.trans h.tape, h'.output.trans h.output, Nat.le_trans h.size h'.size, fun k hk hne => (h'.block k (Nat.lt_of_lt_of_le hk h.size) hne).trans (h.block k hk hne)⟩
theorem Touched.alloc (w : World) (m : Nat) (o : Obj) : Touched w m (w.alloc o) := World.grownBy_alloc _ _ _
theorem Touched.cell {w w' : World} {m : Nat} (h : Touched w m w') {p : Addr} (hp : p.block < w.heap.size) (hne : p.block ≠ m) : w'.cell? p = w.cell? p :=
  World.cell?_of_block (h.block p.block hp (by simpa using hne))
theorem Touched.below {w w' : World} {m B : Nat} (h : Touched w m w') (hB : B ≤ w.heap.size) (hm : B ≤ m) : Below B w w' :=
  (Below.refl _ _).grown h hB fun k hk => by injection hk with hk; omega
theorem Touched.of_below {w w' : World} {m : Nat} (h : Below w.heap.size w w') : Touched w m w' := ⟨h.os, h.tape, h.output, h.size, fun k hk _ => h.block k hk⟩
theorem Touched.setNew {w w' : World} {m : Nat} (h : Touched w m w') {a : Addr} (ha : w.heap.size ≤ a.block) (u : Value) : Touched w m (w'.setCell a u) :=
  ⟨h.os, h.tape, h.output, by simp [World.setCell]; exact h.size, fun k hk hne => by rw [Below.heap_setCell _ _ _ _ (by omega)]; exact h.block k hk hne⟩

end Go.Proofs.YtjlibnijecdgcaaGreatDoor

/- The reader: its memory, and the contracts of isName, fail, next, take. -/
namespace Go.Proofs.YtjlibnijecdgcaaGreatDoor
open Go.RowKit

section
variable {w w' : World} {rb : Nat} {s : ByteArray} {p code a : Nat}
end

theorem Touched.set (w : World) (m : Nat) {a : Addr} (ha : a.block = m) (u : Value) : Touched w m (w.setCell a u) :=
  ⟨rfl, rfl, rfl, by simp [World.setCell], fun k _ hne => Below.heap_setCell _ _ _ _ (fun e => hne (by rw [e, ha]))⟩

theorem sameLit (t : ByteArray) (l : List UInt8) : (t.toList == l) = decide (t = ⟨l.toArray⟩) := by
  rw [Bool.eq_iff_iff, beq_iff_eq, decide_eq_true_eq, ByteArray.toList_eq]
  constructor
  · intro h
    exact WideShapes.bytes_inj (by rw [h])
  · rintro rfl; rfl
theorem sameLit_pos {t : ByteArray} {l : List UInt8} (h : t = ⟨l.toArray⟩) : (t.toList == l) = true := by rw [sameLit]; simp [h]
theorem sameLit_neg {t : ByteArray} {l : List UInt8} (h : t ≠ ⟨l.toArray⟩) : (t.toList == l) = false := by rw [sameLit]; simp [h]

def isNameB (t : ByteArray) : Bool := decide (t ≠ ⟨#[]⟩) && nameB (at_ t 0) true

theorem emptyBeq (t : ByteArray) : (t.toList == (⟨#[]⟩ : ByteArray).toList) = decide (t = ⟨#[]⟩) := sameStr t ⟨#[]⟩

theorem ne_empty {t : ByteArray} (h : t ≠ ⟨#[]⟩) : (t.toList == ([] : List UInt8)) = false := by
  have := sameStr_neg (a := t) (b := ⟨#[]⟩) h
  simpa using this

end Go.Proofs.YtjlibnijecdgcaaGreatDoor

/- A token that is a name by its first byte is a name. Plain Lean. -/
namespace Go.Proofs.YtjlibnijecdgcaaGreatDoor
open Go.RowKit

theorem at_extract {s : ByteArray} {a b i : Nat} (hb : b ≤ s.size) (hi : a + i < b) : at_ (s.extract a b) i = at_ s (a + i) := by
  have h1 : i < (s.extract a b).size := by rw [ByteArray.size_extract]; omega
  unfold at_
  rw [dif_pos h1, dif_pos (by omega)]
  congr 1
  exact ByteArray.getElem_extract ..

theorem run_all {f : Nat → Bool} {s : ByteArray} : ∀ (n k j : Nat), k ≤ j → j < run f s n k → f (at_ s j) = true
  | 0, k, j, h1, h2 => by simp [run] at h2; omega
  | n + 1, k, j, h1, h2 => by
    simp only [run] at h2
    split at h2
    · rename_i hh
      by_cases e : j = k
      · subst e; exact hh.2
      · exact run_all n (k + 1) j (by omega) h2
    · omega

theorem nameB_goes {c : Nat} (h : nameB c true = true) : nameB c false = true := by
  simp [nameB] at h ⊢
  exact .inl h

theorem isNameB_first {t : ByteArray} (h : isNameB t = true) : t ≠ ⟨#[]⟩ ∧ nameB (at_ t 0) true = true := by simpa [isNameB] using h

theorem tok_name {s : ByteArray} {p : Nat} (hp : p ≤ s.size) (hn : isNameB (tok s p).t = true) : Nm (tok s p).t := by
  obtain ⟨hne, hf⟩ := isNameB_first hn
  have hle := runTo_le blankB s hp
  unfold tok at hne hf ⊢
  split
  · rename_i h; rw [if_pos h] at hne; exact absurd rfl hne
  · rename_i h
    rw [if_neg h] at hne hf
    have hk : runTo blankB s p < s.size := by omega
    generalize runTo blankB s p = k at *
    unfold tokAt at hne hf ⊢
    by_cases h1 : at_ s k = 40 ∨ at_ s k = 41
    · rw [if_pos h1] at hf
      simp only [] at hf
      rw [at_extract (by omega) (by omega), Nat.add_zero] at hf
      rcases h1 with e | e <;> rw [e] at hf <;> simp [nameB, letterB] at hf
    · rw [if_neg h1] at hne hf ⊢
      by_cases h2 : nameB (at_ s k) true = true
      · rw [if_pos h2] at hne hf ⊢
        have hge := runTo_ge (fun c => nameB c false) s (k + 1)
        have hre := runTo_le (fun c => nameB c false) s (k := k + 1) (by omega)
        by_cases h3 : 40 < runTo (fun c => nameB c false) s (k + 1) - k
        · rw [if_pos h3] at hne; exact absurd rfl hne
        · rw [if_neg h3] at hne hf ⊢
          simp only []
          have hsz : (s.extract k (runTo (fun c => nameB c false) s (k + 1))).size = runTo (fun c => nameB c false) s (k + 1) - k := by rw [ByteArray.size_extract]; omega
          refine ⟨by rw [hsz]; omega, by rw [hsz]; omega, hf, fun i hi => ?_⟩
          rw [hsz] at hi
          rw [at_extract hre (by omega)]
          by_cases hi0 : i = 0
          · subst hi0; exact nameB_goes h2
          · exact run_all (f := fun c => nameB c false) _ (k + 1) (k + i) (by omega) (by have : runTo (fun c => nameB c false) s (k + 1) = run (fun c => nameB c false) s (s.size - (k + 1)) (k + 1) := rfl; rw [← this]; omega)
      · rw [if_neg h2] at hne hf ⊢
        exfalso
        by_cases h3 : at_ s k = 35 ∨ digitB (at_ s k) = true
        · rw [if_pos h3] at hne hf
          simp only [] at hne hf
          generalize (if at_ s k = 35 then k + 1 else k) = d at hne hf
          by_cases h4 : runTo digitB s (k + 1) = d ∨ 5 < runTo digitB s (k + 1) - d ∨ (1 < runTo digitB s (k + 1) - d ∧ at_ s d = 48)
          · rw [if_pos h4] at hne; exact absurd rfl hne
          · rw [if_neg h4] at hf
            simp only [] at hf
            have hge := runTo_ge digitB s (k + 1)
            have hre := runTo_le digitB s (k := k + 1) (by omega)
            rw [at_extract hre (by omega), Nat.add_zero] at hf
            exact h2 hf
        · rw [if_neg h3] at hne; exact absurd rfl hne

end Go.Proofs.YtjlibnijecdgcaaGreatDoor
