/- Tokens of a level's text, as a function of the text and a place: no walk. -/
import Derived.Test.YtpdoegjddiaaoaaDoorNameByte
namespace Go.Proofs.YtpdoegjddiaaoaaDoor
open Go.RowKit

/-- The byte at a place; 0 behind the end. -/
def at_ (s : ByteArray) (k : Nat) : Nat := if h : k < s.size then (s[k]).toNat else 0
theorem at_eq {s : ByteArray} {k : Nat} (h : k < s.size) : (s[k]).toNat = at_ s k := by simp [at_, h]
theorem at_lt (s : ByteArray) (k : Nat) : at_ s k < 256 := by unfold at_; split; exact (s[k]).toNat_lt; omega

/-- How far a run of bytes goes. -/
def run (f : Nat → Bool) (s : ByteArray) : Nat → Nat → Nat
  | 0, k => k
  | n + 1, k => if k < s.size ∧ f (at_ s k) = true then run f s n (k + 1) else k
def runTo (f : Nat → Bool) (s : ByteArray) (k : Nat) : Nat := run f s (s.size - k) k

theorem run_ge (f : Nat → Bool) (s : ByteArray) : ∀ n k, k ≤ run f s n k
  | 0, k => Nat.le_refl _
  | n + 1, k => by simp only [run]; split; have := run_ge f s n (k + 1); omega; omega
theorem run_le (f : Nat → Bool) (s : ByteArray) : ∀ n k, k ≤ s.size → run f s n k ≤ s.size
  | 0, k, h => h
  | n + 1, k, h => by simp only [run]; split; rename_i h'; exact run_le f s n (k + 1) (by omega); exact h
theorem runTo_ge (f : Nat → Bool) (s : ByteArray) (k : Nat) : k ≤ runTo f s k := run_ge f s _ k
theorem runTo_le (f : Nat → Bool) (s : ByteArray) {k : Nat} (h : k ≤ s.size) : runTo f s k ≤ s.size := run_le f s _ k h
theorem runTo_step {f : Nat → Bool} {s : ByteArray} {k : Nat} (h : k < s.size) (hf : f (at_ s k) = true) : runTo f s k = runTo f s (k + 1) := by
  unfold runTo
  rw [show s.size - k = (s.size - (k + 1)) + 1 by omega]
  simp [run, h, hf]
theorem runTo_stop {f : Nat → Bool} {s : ByteArray} {k : Nat} (hf : f (at_ s k) = false) : runTo f s k = k := by
  unfold runTo
  cases s.size - k with
  | zero => rfl
  | succ n => simp [run, hf]
theorem runTo_end {f : Nat → Bool} {s : ByteArray} {k : Nat} (h : s.size ≤ k) : runTo f s k = k := by
  unfold runTo
  rw [show s.size - k = 0 by omega]
  rfl

def blankB (c : Nat) : Bool := c == 32 || c == 9 || c == 10
def digitB (c : Nat) : Bool := 48 ≤ c && c ≤ 57

structure Token where
  t : ByteArray
  at_ : Nat
  ok : Bool

/-- The token that begins at a place that is no blank. -/
def tokAt (s : ByteArray) (k : Nat) : Token :=
  if at_ s k = 40 ∨ at_ s k = 41 then ⟨s.extract k (k + 1), k, true⟩
  else if nameB (at_ s k) true = true then
    if 40 < runTo (fun c => nameB c false) s (k + 1) - k then ⟨⟨#[]⟩, k, false⟩ else ⟨s.extract k (runTo (fun c => nameB c false) s (k + 1)), k, true⟩
  else if at_ s k = 35 ∨ digitB (at_ s k) = true then
    let q := runTo digitB s (k + 1)
    let d := if at_ s k = 35 then k + 1 else k
    if q = d ∨ 5 < q - d ∨ (1 < q - d ∧ at_ s d = 48) then ⟨⟨#[]⟩, k, false⟩ else ⟨s.extract k q, k, true⟩
  else ⟨⟨#[]⟩, k, false⟩

def tok (s : ByteArray) (p : Nat) : Token :=
  if runTo blankB s p = s.size then ⟨⟨#[]⟩, runTo blankB s p, true⟩ else tokAt s (runTo blankB s p)

theorem tokAt_facts {s : ByteArray} {k : Nat} (h : k < s.size) : (tokAt s k).at_ = k ∧ k + (tokAt s k).t.size ≤ s.size ∧ (tokAt s k).t.size ≤ 40 ∧ ((tokAt s k).ok = false → (tokAt s k).t = ⟨#[]⟩) ∧ ((tokAt s k).ok = true → 0 < (tokAt s k).t.size) := by
  have h1 := runTo_ge (fun c => nameB c false) s (k + 1)
  have h2 := runTo_le (fun c => nameB c false) s (k := k + 1) (by omega)
  have h3 := runTo_ge digitB s (k + 1)
  have h4 := runTo_le digitB s (k := k + 1) (by omega)
  have he : (⟨#[]⟩ : ByteArray).size = 0 := rfl
  unfold tokAt
  split
  · simp only [ByteArray.size_extract]; simp; omega
  · split
    · split
      · simp only [he]; simp; omega
      · simp only [ByteArray.size_extract]; simp; omega
    · split
      · dsimp only
        have hd : (if at_ s k = 35 then k + 1 else k) = k + 1 ∨ (if at_ s k = 35 then k + 1 else k) = k := by split <;> simp
        generalize (if at_ s k = 35 then k + 1 else k) = d at hd ⊢
        split
        · refine ⟨rfl, ?_, ?_, fun _ => rfl, fun h => by cases h⟩
          · show k + 0 ≤ s.size; omega
          · show 0 ≤ 40; omega
        · rename_i hn
          simp only [not_or] at hn
          simp only [ByteArray.size_extract]
          simp
          omega
      · simp only [he]; simp; omega

theorem tok_facts {s : ByteArray} {p : Nat} (h : p ≤ s.size) : p ≤ (tok s p).at_ ∧ (tok s p).at_ + (tok s p).t.size ≤ s.size ∧ (tok s p).t.size ≤ 40 ∧ ((tok s p).ok = false → (tok s p).t = ⟨#[]⟩) := by
  have h1 := runTo_ge blankB s p
  have h2 := runTo_le blankB s h
  unfold tok
  split
  · rename_i e
    refine ⟨h1, ?_, ?_, fun h => by cases h⟩
    · show runTo blankB s p + 0 ≤ s.size; omega
    · show 0 ≤ 40; omega
  · rename_i e
    obtain ⟨f1, f2, f3, f4, f5⟩ := tokAt_facts (s := s) (k := runTo blankB s p) (by omega)
    exact ⟨by rw [f1]; exact h1, by rw [f1]; exact f2, f3, f4⟩

end Go.Proofs.YtpdoegjddiaaoaaDoor
