/- What stands in a text is small. -/
import Derived.Test.YtnbpmmgekoclpaaGreatDoorTRead
import Derived.Test.YtnbpmmgekoclpaaGreatDoorTakeAll
import Derived.Test.YtnbpmmgekoclpaaGreatDoorBrack
import Derived.Test.YtnbpmmgekoclpaaGreatDoorAlike
namespace Go.Proofs.YtnbpmmgekoclpaaGreatDoor
open Go.RowKit

theorem SignAt.lt {s : ByteArray} {c p p' : Nat} (h : SignAt s c p p') : p < p' := by have := runTo_ge blankB s p; have := h.2.2; omega
theorem WordAt.lt {s q : ByteArray} {p p' : Nat} (h : WordAt s q p p') : p < p' := by have := runTo_ge blankB s p; have := runTo_ge (fun c => nameB c false) s (runTo blankB s p + 1); have := h.2.2.1; omega
theorem ZeroAt.lt {s : ByteArray} {p p' : Nat} (h : ZeroAt s p p') : p < p' := by have := runTo_ge blankB s p; have := h.2.2.2; omega
theorem Reads.lt {s : ByteArray} : ∀ {l : LvB} {p p' : Nat}, Reads s l p p' → p < p'
  | .zero, _, _, h => ZeroAt.lt h
  | .param _, _, _, h => WordAt.lt h
  | .succ _, _, _, ⟨_, _, _, h1, h2, h3, h4⟩ => by have := h1.lt; have := h2.lt; have := h3.lt; have := h4.lt; omega
  | .max _ _, _, _, ⟨_, _, _, _, h1, h2, h3, h4, h5⟩ => by have := h1.lt; have := h2.lt; have := h3.lt; have := h4.lt; have := h5.lt; omega
  | .imax _ _, _, _, ⟨_, _, _, _, h1, h2, h3, h4, h5⟩ => by have := h1.lt; have := h2.lt; have := h3.lt; have := h4.lt; have := h5.lt; omega

theorem ReadsAll.few {s : ByteArray} : ∀ {ls : List LvB} {p p' : Nat}, p ≤ s.size → ReadsAll s ls p p' → ls.length ≤ p' - p ∧ p ≤ p' ∧ p' ≤ s.size
  | [], p, p', hp, h => by have e : p' = p := h; subst e; exact ⟨by simp, Nat.le_refl _, hp⟩
  | l :: ls, p, p', hp, ⟨p1, h1, h2⟩ => by
    have a := h1.lt
    have b := h1.le
    have ⟨c, d, e⟩ := ReadsAll.few b h2
    exact ⟨by simp; omega, by omega, e⟩

theorem NamePart.le {s nm : ByteArray} {kd p p' : Nat} (h : NamePart s kd nm p p') (hp : p ≤ s.size) : p ≤ p' ∧ p' ≤ s.size := by
  rcases h with ⟨_, h⟩ | ⟨_, _, rfl⟩
  · exact ⟨Nat.le_of_lt h.lt, h.le⟩
  · exact ⟨Nat.le_refl _, hp⟩

theorem LvPart.few {s : ByteArray} {ls : List LvB} {kd p p' : Nat} (h : LvPart s kd ls p p') (hp : p ≤ s.size) : ls.length ≤ s.size ∧ p ≤ p' ∧ p' ≤ s.size := by
  rcases h with ⟨_, l, rfl, h⟩ | ⟨_, h, _⟩ | ⟨_, _, rfl, rfl⟩
  · have := h.lt; have := h.le; exact ⟨by simp; omega, by omega, by omega⟩
  · have ⟨a, b, c⟩ := ReadsAll.few hp h; exact ⟨by omega, b, c⟩
  · exact ⟨by simp, Nat.le_refl _, hp⟩

theorem Seq.at {R : Tm → Nat → Nat → Prop} : ∀ {ts : List Tm} {p p' : Nat}, Seq R ts p p' → ∀ i (hi : i < ts.length), ∃ x y, R ts[i] x y
  | [], _, _, _, _, hi => absurd hi (by simp)
  | _ :: _, _, _, ⟨p1, h1, _⟩, 0, _ => ⟨_, p1, h1⟩
  | _ :: _, _, _, ⟨_, _, h2⟩, i + 1, hi => Seq.at h2 i (by simpa using hi)

theorem IdxAt.small {s : ByteArray} {n p p' : Nat} (h : IdxAt s n p p') : n ≤ 99999 := by
  obtain ⟨h1, h2, h3, h4, h5⟩ := h
  have hd : Digs (s.extract (runTo blankB s p + 1) p') := run_digs (by omega) h3.symm
  have hle := digitEnd_le h1
  have hz : (s.extract (runTo blankB s p + 1) p').data.toList.length ≤ 5 := by
    show (s.extract (runTo blankB s p + 1) p').data.toList.length ≤ 5
    have : (s.extract (runTo blankB s p + 1) p').size = min p' s.size - (runTo blankB s p + 1) := ByteArray.size_extract
    have e : (s.extract (runTo blankB s p + 1) p').data.toList.length = (s.extract (runTo blankB s p + 1) p').size := rfl
    omega
  have hlt := decF_lt (s.extract (runTo blankB s p + 1) p').data.toList 0 hd
  have hp : 10 ^ (s.extract (runTo blankB s p + 1) p').data.toList.length ≤ 10 ^ 5 := Nat.pow_le_pow_right (by decide) hz
  have : n = decF 0 (s.extract (runTo blankB s p + 1) p').data.toList := h5
  omega

/-- What stands in a text is no greater than that. -/
theorem RT.small {s : ByteArray} (hs : s.size ≤ 20000) : ∀ {d : Nat} {t : Tm} {p p' : Nat}, RT s d t p p' → SmallT d t
  | 0, _, _, _, h => absurd h (by simp [RT])
  | d + 1, t, p, p', .inl ⟨h1, h2, h3, h4, h5⟩ => ⟨by omega, h5.small, by rw [h3]; simp, by rw [h4]; simp, fun i hi => absurd hi (by rw [h4]; simp)⟩
  | d + 1, t, p, p', .inr ⟨p1, p2, p3, p4, p5, q, h1, h2, h3, h4, h5, h6, h7, h8, h9⟩ => by
    have a := h5.le h2.le
    have b := h6.few a.2
    refine ⟨h3.pos.2, by omega, by omega, ?_, fun i hi => ?_⟩
    · rw [h8]; unfold tparts; split <;> (try split) <;> omega
    · obtain ⟨x, y, hxy⟩ := h7.at i hi
      exact RT.small hs hxy

end Go.Proofs.YtnbpmmgekoclpaaGreatDoor
