/- The contract of token: the next token of a text, where it begins, whether one does. -/
import Derived.Test.YtkgkmlikpljbiaaDoorTok
import Derived.Deep.CutBlock
import Derived.Deep.DeepCutAuto
import Derived.Test.YtkgkmlikpljbiaaDoorReads

namespace Go.Proofs.YtkgkmlikpljbiaaDoor
open Go.RowKit

theorem tokAt_hash {s : ByteArray} {k : Nat} (h1 : ¬ (at_ s k = 40 ∨ at_ s k = 41)) (h2 : nameB (at_ s k) true = false) (h3 : at_ s k = 35) :
    tokAt s k = if runTo digitB s (k + 1) = k + 1 ∨ 5 < runTo digitB s (k + 1) - (k + 1) ∨ (1 < runTo digitB s (k + 1) - (k + 1) ∧ at_ s (k + 1) = 48) then ⟨⟨#[]⟩, k, false⟩ else ⟨s.extract k (runTo digitB s (k + 1)), k, true⟩ := by
  unfold tokAt
  rw [if_neg h1, if_neg (by simp [h2]), if_pos (.inl h3)]
  simp only [if_pos h3]

theorem tokAt_digit {s : ByteArray} {k : Nat} (h1 : ¬ (at_ s k = 40 ∨ at_ s k = 41)) (h2 : nameB (at_ s k) true = false) (h3 : at_ s k ≠ 35) (h4 : digitB (at_ s k) = true) :
    tokAt s k = if runTo digitB s (k + 1) = k ∨ 5 < runTo digitB s (k + 1) - k ∨ (1 < runTo digitB s (k + 1) - k ∧ at_ s k = 48) then ⟨⟨#[]⟩, k, false⟩ else ⟨s.extract k (runTo digitB s (k + 1)), k, true⟩ := by
  unfold tokAt
  rw [if_neg h1, if_neg (by simp [h2]), if_pos (.inr h4)]
  simp only [if_neg h3]

end Go.Proofs.YtkgkmlikpljbiaaDoor

/- What a call changes: one block alone, and new ones. -/
namespace Go.Proofs.YtkgkmlikpljbiaaDoor
open Go.RowKit

/-- What the walk changes: the map alone, and new blocks. -/
def Touched (w : World) (m : Nat) (w' : World) : Prop := w.grownBy w' (some m)

theorem Touched.refl (w : World) (m : Nat) : Touched w m w := World.grownBy.refl _ _
theorem Touched.trans {w w' w'' : World} {m : Nat} (h : Touched w m w') (h' : Touched w' m w'') : Touched w m w'' :=
  ⟨h'.os.trans h.os, h'.tape.trans h.tape, h'.output.trans h.output, Nat.le_trans h.size h'.size, fun k hk hne => (h'.block k (Nat.lt_of_lt_of_le hk h.size) hne).trans (h.block k hk hne)⟩
theorem Touched.alloc (w : World) (m : Nat) (o : Obj) : Touched w m (w.alloc o) := World.grownBy_alloc _ _ _
theorem Touched.cell {w w' : World} {m : Nat} (h : Touched w m w') {p : Addr} (hp : p.block < w.heap.size) (hne : p.block ≠ m) : w'.cell? p = w.cell? p :=
  World.cell?_of_block (h.block p.block hp (by simpa using hne))
theorem Touched.below {w w' : World} {m B : Nat} (h : Touched w m w') (hB : B ≤ w.heap.size) (hm : B ≤ m) : Below B w w' :=
  (Below.refl _ _).grown h hB fun k hk => by injection hk with hk; omega
theorem Touched.of_below {w w' : World} {m : Nat} (h : Below w.heap.size w w') : Touched w m w' := ⟨h.os, h.tape, h.output, h.size, fun k hk _ => h.block k hk⟩
theorem Touched.setNew {w w' : World} {m : Nat} (h : Touched w m w') {a : Addr} (ha : w.heap.size ≤ a.block) (u : Value) : Touched w m (w'.setCell a u) :=
  ⟨h.os, h.tape, h.output, by simp [World.setCell]; exact h.size, fun k hk hne => by rw [Below.heap_setCell _ _ _ _ (by omega)]; exact h.block k hk hne⟩

end Go.Proofs.YtkgkmlikpljbiaaDoor

/- The reader: its memory, and the contracts of isName, fail, next, take. -/
namespace Go.Proofs.YtkgkmlikpljbiaaDoor
open Go.RowKit

section
variable {w w' : World} {rb : Nat} {s : ByteArray} {p code a : Nat}
end

theorem Touched.set (w : World) (m : Nat) {a : Addr} (ha : a.block = m) (u : Value) : Touched w m (w.setCell a u) :=
  ⟨rfl, rfl, rfl, by simp [World.setCell], fun k _ hne => Below.heap_setCell _ _ _ _ (fun e => hne (by rw [e, ha]))⟩

theorem sameLit (t : ByteArray) (l : List UInt8) : (t.toList == l) = decide (t = ⟨l.toArray⟩) := by
  rw [Bool.eq_iff_iff, beq_iff_eq, decide_eq_true_eq, ByteArray.toList_eq]
  constructor
  · intro h
    exact WideShapes.bytes_inj (by rw [h])
  · rintro rfl; rfl
theorem sameLit_pos {t : ByteArray} {l : List UInt8} (h : t = ⟨l.toArray⟩) : (t.toList == l) = true := by rw [sameLit]; simp [h]
theorem sameLit_neg {t : ByteArray} {l : List UInt8} (h : t ≠ ⟨l.toArray⟩) : (t.toList == l) = false := by rw [sameLit]; simp [h]

def isNameB (t : ByteArray) : Bool := decide (t ≠ ⟨#[]⟩) && nameB (at_ t 0) true

theorem emptyBeq (t : ByteArray) : (t.toList == (⟨#[]⟩ : ByteArray).toList) = decide (t = ⟨#[]⟩) := sameStr t ⟨#[]⟩

theorem ne_empty {t : ByteArray} (h : t ≠ ⟨#[]⟩) : (t.toList == ([] : List UInt8)) = false := by
  have := sameStr_neg (a := t) (b := ⟨#[]⟩) h
  simpa using this

end Go.Proofs.YtkgkmlikpljbiaaDoor

/- A token that is a name by its first byte is a name. Plain Lean. -/
namespace Go.Proofs.YtkgkmlikpljbiaaDoor
open Go.RowKit

theorem at_extract {s : ByteArray} {a b i : Nat} (hb : b ≤ s.size) (hi : a + i < b) : at_ (s.extract a b) i = at_ s (a + i) := by
  have h1 : i < (s.extract a b).size := by rw [ByteArray.size_extract]; omega
  unfold at_
  rw [dif_pos h1, dif_pos (by omega)]
  congr 1
  exact ByteArray.getElem_extract ..

theorem run_all {f : Nat → Bool} {s : ByteArray} : ∀ (n k j : Nat), k ≤ j → j < run f s n k → f (at_ s j) = true
  | 0, k, j, h1, h2 => by simp [run] at h2; omega
  | n + 1, k, j, h1, h2 => by
    simp only [run] at h2
    split at h2
    · rename_i hh
      by_cases e : j = k
      · subst e; exact hh.2
      · exact run_all n (k + 1) j (by omega) h2
    · omega

theorem nameB_goes {c : Nat} (h : nameB c true = true) : nameB c false = true := by
  simp [nameB] at h ⊢
  exact .inl h

theorem isNameB_first {t : ByteArray} (h : isNameB t = true) : t ≠ ⟨#[]⟩ ∧ nameB (at_ t 0) true = true := by simpa [isNameB] using h

theorem tok_name {s : ByteArray} {p : Nat} (hp : p ≤ s.size) (hn : isNameB (tok s p).t = true) : Nm (tok s p).t := by
  obtain ⟨hne, hf⟩ := isNameB_first hn
  have hle := runTo_le blankB s hp
  unfold tok at hne hf ⊢
  split
  · rename_i h; rw [if_pos h] at hne; exact absurd rfl hne
  · rename_i h
    rw [if_neg h] at hne hf
    have hk : runTo blankB s p < s.size := by omega
    generalize runTo blankB s p = k at *
    unfold tokAt at hne hf ⊢
    by_cases h1 : at_ s k = 40 ∨ at_ s k = 41
    · rw [if_pos h1] at hf
      simp only [] at hf
      rw [at_extract (by omega) (by omega), Nat.add_zero] at hf
      rcases h1 with e | e <;> rw [e] at hf <;> simp [nameB, letterB] at hf
    · rw [if_neg h1] at hne hf ⊢
      by_cases h2 : nameB (at_ s k) true = true
      · rw [if_pos h2] at hne hf ⊢
        have hge := runTo_ge (fun c => nameB c false) s (k + 1)
        have hre := runTo_le (fun c => nameB c false) s (k := k + 1) (by omega)
        by_cases h3 : 40 < runTo (fun c => nameB c false) s (k + 1) - k
        · rw [if_pos h3] at hne; exact absurd rfl hne
        · rw [if_neg h3] at hne hf ⊢
          simp only []
          have hsz : (s.extract k (runTo (fun c => nameB c false) s (k + 1))).size = runTo (fun c => nameB c false) s (k + 1) - k := by rw [ByteArray.size_extract]; omega
          refine ⟨by rw [hsz]; omega, by rw [hsz]; omega, hf, fun i hi => ?_⟩
          rw [hsz] at hi
          rw [at_extract hre (by omega)]
          by_cases hi0 : i = 0
          · subst hi0; exact nameB_goes h2
          · exact run_all (f := fun c => nameB c false) _ (k + 1) (k + i) (by omega) (by have : runTo (fun c => nameB c false) s (k + 1) = run (fun c => nameB c false) s (s.size - (k + 1)) (k + 1) := rfl; rw [← this]; omega)
      · rw [if_neg h2] at hne hf ⊢
        exfalso
        by_cases h3 : at_ s k = 35 ∨ digitB (at_ s k) = true
        · rw [if_pos h3] at hne hf
          simp only [] at hne hf
          generalize (if at_ s k = 35 then k + 1 else k) = d at hne hf
          by_cases h4 : runTo digitB s (k + 1) = d ∨ 5 < runTo digitB s (k + 1) - d ∨ (1 < runTo digitB s (k + 1) - d ∧ at_ s d = 48)
          · rw [if_pos h4] at hne; exact absurd rfl hne
          · rw [if_neg h4] at hf
            simp only [] at hf
            have hge := runTo_ge digitB s (k + 1)
            have hre := runTo_le digitB s (k := k + 1) (by omega)
            rw [at_extract hre (by omega), Nat.add_zero] at hf
            exact h2 hf
        · rw [if_neg h3] at hne; exact absurd rfl hne

end Go.Proofs.YtkgkmlikpljbiaaDoor
