/- A token that is a name by its first byte is a name. Plain Lean. -/
import Derived.Test.YtpdoegjddiaaoaaDoorReads
import Derived.Test.YtpdoegjddiaaoaaDoorReader
namespace Go.Proofs.YtpdoegjddiaaoaaDoor
open Go.RowKit

theorem at_extract {s : ByteArray} {a b i : Nat} (hb : b ≤ s.size) (hi : a + i < b) : at_ (s.extract a b) i = at_ s (a + i) := by
  have h1 : i < (s.extract a b).size := by rw [ByteArray.size_extract]; omega
  unfold at_
  rw [dif_pos h1, dif_pos (by omega)]
  congr 1
  exact ByteArray.getElem_extract ..

theorem run_all {f : Nat → Bool} {s : ByteArray} : ∀ (n k j : Nat), k ≤ j → j < run f s n k → f (at_ s j) = true
  | 0, k, j, h1, h2 => by simp [run] at h2; omega
  | n + 1, k, j, h1, h2 => by
    simp only [run] at h2
    split at h2
    · rename_i hh
      by_cases e : j = k
      · subst e; exact hh.2
      · exact run_all n (k + 1) j (by omega) h2
    · omega

theorem nameB_goes {c : Nat} (h : nameB c true = true) : nameB c false = true := by
  simp [nameB] at h ⊢
  exact .inl h

theorem isNameB_first {t : ByteArray} (h : isNameB t = true) : t ≠ ⟨#[]⟩ ∧ nameB (at_ t 0) true = true := by simpa [isNameB] using h

theorem tok_name {s : ByteArray} {p : Nat} (hp : p ≤ s.size) (hn : isNameB (tok s p).t = true) : Nm (tok s p).t := by
  obtain ⟨hne, hf⟩ := isNameB_first hn
  have hle := runTo_le blankB s hp
  unfold tok at hne hf ⊢
  split
  · rename_i h; rw [if_pos h] at hne; exact absurd rfl hne
  · rename_i h
    rw [if_neg h] at hne hf
    have hk : runTo blankB s p < s.size := by omega
    generalize runTo blankB s p = k at *
    unfold tokAt at hne hf ⊢
    by_cases h1 : at_ s k = 40 ∨ at_ s k = 41
    · rw [if_pos h1] at hf
      simp only [] at hf
      rw [at_extract (by omega) (by omega), Nat.add_zero] at hf
      rcases h1 with e | e <;> rw [e] at hf <;> simp [nameB, letterB] at hf
    · rw [if_neg h1] at hne hf ⊢
      by_cases h2 : nameB (at_ s k) true = true
      · rw [if_pos h2] at hne hf ⊢
        have hge := runTo_ge (fun c => nameB c false) s (k + 1)
        have hre := runTo_le (fun c => nameB c false) s (k := k + 1) (by omega)
        by_cases h3 : 40 < runTo (fun c => nameB c false) s (k + 1) - k
        · rw [if_pos h3] at hne; exact absurd rfl hne
        · rw [if_neg h3] at hne hf ⊢
          simp only []
          have hsz : (s.extract k (runTo (fun c => nameB c false) s (k + 1))).size = runTo (fun c => nameB c false) s (k + 1) - k := by rw [ByteArray.size_extract]; omega
          refine ⟨by rw [hsz]; omega, by rw [hsz]; omega, hf, fun i hi => ?_⟩
          rw [hsz] at hi
          rw [at_extract hre (by omega)]
          by_cases hi0 : i = 0
          · subst hi0; exact nameB_goes h2
          · exact run_all (f := fun c => nameB c false) _ (k + 1) (k + i) (by omega) (by have : runTo (fun c => nameB c false) s (k + 1) = run (fun c => nameB c false) s (s.size - (k + 1)) (k + 1) := rfl; rw [← this]; omega)
      · rw [if_neg h2] at hne hf ⊢
        exfalso
        by_cases h3 : at_ s k = 35 ∨ digitB (at_ s k) = true
        · rw [if_pos h3] at hne hf
          simp only [] at hne hf
          generalize (if at_ s k = 35 then k + 1 else k) = d at hne hf
          by_cases h4 : runTo digitB s (k + 1) = d ∨ 5 < runTo digitB s (k + 1) - d ∨ (1 < runTo digitB s (k + 1) - d ∧ at_ s d = 48)
          · rw [if_pos h4] at hne; exact absurd rfl hne
          · rw [if_neg h4] at hf
            simp only [] at hf
            have hge := runTo_ge digitB s (k + 1)
            have hre := runTo_le digitB s (k := k + 1) (by omega)
            rw [at_extract hre (by omega), Nat.add_zero] at hf
            exact h2 hf
        · rw [if_neg h3] at hne; exact absurd rfl hne

end Go.Proofs.YtpdoegjddiaaoaaDoor
