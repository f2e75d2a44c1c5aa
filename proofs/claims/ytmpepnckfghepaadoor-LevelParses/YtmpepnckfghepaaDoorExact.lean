/- Where the reading of a level fails, and at which place; tokens of the document's reader and of the program's scanner side by side. Plain Lean. -/
import Derived.Test.YtmpepnckfghepaaDoorTokName
namespace Go.Proofs.YtmpepnckfghepaaDoor
open Go.RowKit

theorem tok_place (s : ByteArray) (p : Nat) (hp : p ≤ s.size) : (tok s p).at_ = runTo blankB s p := by
  have hle := runTo_le blankB s hp
  unfold tok
  split
  · rfl
  · exact (tokAt_facts (by omega)).1

theorem tok_in {s : ByteArray} {p : Nat} (hp : p ≤ s.size) (h : (tok s p).t ≠ ⟨#[]⟩) : runTo blankB s p < s.size ∧ tok s p = tokAt s (runTo blankB s p) := by
  have hle := runTo_le blankB s hp
  unfold tok at h ⊢
  split
  · rename_i e; rw [if_pos e] at h; exact absurd rfl h
  · exact ⟨by omega, rfl⟩

theorem tok_end {s : ByteArray} {p : Nat} (hp : p ≤ s.size) : ((tok s p).ok = true ∧ (tok s p).t = ⟨#[]⟩) ↔ runTo blankB s p = s.size := by
  have hle := runTo_le blankB s hp
  unfold tok
  split
  · rename_i e; exact ⟨fun _ => e, fun _ => ⟨rfl, rfl⟩⟩
  · rename_i e
    refine ⟨fun h => ?_, fun h => absurd h e⟩
    have := (tokAt_facts (s := s) (k := runTo blankB s p) (by omega)).2.2.2.2 h.1
    rw [h.2] at this
    exact absurd this (by decide)

/-- The end of a run of a name's bytes, of digits. -/
abbrev nameEnd (s : ByteArray) (k : Nat) : Nat := runTo (fun c => nameB c false) s (k + 1)
abbrev digitEnd (s : ByteArray) (k : Nat) : Nat := runTo digitB s (k + 1)
theorem nameEnd_ge (s : ByteArray) (k : Nat) : k + 1 ≤ nameEnd s k := runTo_ge _ s (k + 1)
theorem nameEnd_le {s : ByteArray} {k : Nat} (h : k < s.size) : nameEnd s k ≤ s.size := runTo_le _ s (by omega)
theorem digitEnd_ge (s : ByteArray) (k : Nat) : k + 1 ≤ digitEnd s k := runTo_ge _ s (k + 1)
theorem digitEnd_le {s : ByteArray} {k : Nat} (h : k < s.size) : digitEnd s k ≤ s.size := runTo_le _ s (by omega)

theorem tokAt_cases (s : ByteArray) (k : Nat) : (at_ s k = 40 ∧ tokAt s k = ⟨s.extract k (k + 1), k, true⟩) ∨ (at_ s k = 41 ∧ tokAt s k = ⟨s.extract k (k + 1), k, true⟩) ∨
    (nameB (at_ s k) true = true ∧ 40 < nameEnd s k - k ∧ tokAt s k = ⟨⟨#[]⟩, k, false⟩) ∨ (nameB (at_ s k) true = true ∧ ¬ 40 < nameEnd s k - k ∧ tokAt s k = ⟨s.extract k (nameEnd s k), k, true⟩) ∨
    (digitB (at_ s k) = true ∧ (5 < digitEnd s k - k ∨ (1 < digitEnd s k - k ∧ at_ s k = 48)) ∧ tokAt s k = ⟨⟨#[]⟩, k, false⟩) ∨ (digitB (at_ s k) = true ∧ ¬ (5 < digitEnd s k - k ∨ (1 < digitEnd s k - k ∧ at_ s k = 48)) ∧ tokAt s k = ⟨s.extract k (digitEnd s k), k, true⟩) ∨
    (at_ s k = 35 ∧ (digitEnd s k = k + 1 ∨ 5 < digitEnd s k - (k + 1) ∨ (1 < digitEnd s k - (k + 1) ∧ at_ s (k + 1) = 48)) ∧ tokAt s k = ⟨⟨#[]⟩, k, false⟩) ∨ (at_ s k = 35 ∧ ¬ (digitEnd s k = k + 1 ∨ 5 < digitEnd s k - (k + 1) ∨ (1 < digitEnd s k - (k + 1) ∧ at_ s (k + 1) = 48)) ∧ tokAt s k = ⟨s.extract k (digitEnd s k), k, true⟩) ∨
    (at_ s k ≠ 40 ∧ at_ s k ≠ 41 ∧ nameB (at_ s k) true = false ∧ digitB (at_ s k) = false ∧ at_ s k ≠ 35 ∧ tokAt s k = ⟨⟨#[]⟩, k, false⟩) := by
  have hge := runTo_ge digitB s (k + 1)
  unfold tokAt
  by_cases h1 : at_ s k = 40
  · left; simp [h1]
  by_cases h2 : at_ s k = 41
  · right; left; simp [h2]
  rw [if_neg (by omega)]
  by_cases h3 : nameB (at_ s k) true = true
  · rw [if_pos h3]
    by_cases h4 : 40 < nameEnd s k - k
    · rw [if_pos h4]; exact .inr (.inr (.inl ⟨h3, h4, rfl⟩))
    · rw [if_neg h4]; exact .inr (.inr (.inr (.inl ⟨h3, h4, rfl⟩)))
  rw [if_neg h3]
  by_cases h5 : digitB (at_ s k) = true
  · have h35 : at_ s k ≠ 35 := by intro e; rw [e] at h5; simp [digitB] at h5
    rw [if_pos (.inr h5)]
    simp only [if_neg h35]
    have hne : digitEnd s k ≠ k := by show runTo digitB s (k + 1) ≠ k; omega
    by_cases h6 : 5 < digitEnd s k - k ∨ (1 < digitEnd s k - k ∧ at_ s k = 48)
    · rw [if_pos (.inr h6)]; exact .inr (.inr (.inr (.inr (.inl ⟨h5, h6, rfl⟩))))
    · rw [if_neg (by intro h; rcases h with h | h; exact hne h; exact h6 h)]; exact .inr (.inr (.inr (.inr (.inr (.inl ⟨h5, h6, rfl⟩)))))
  by_cases h7 : at_ s k = 35
  · rw [if_pos (.inl h7)]
    simp only [if_pos h7]
    by_cases h6 : digitEnd s k = k + 1 ∨ 5 < digitEnd s k - (k + 1) ∨ (1 < digitEnd s k - (k + 1) ∧ at_ s (k + 1) = 48)
    · rw [if_pos h6]; exact .inr (.inr (.inr (.inr (.inr (.inr (.inl ⟨h7, h6, rfl⟩))))))
    · rw [if_neg h6]; exact .inr (.inr (.inr (.inr (.inr (.inr (.inr (.inl ⟨h7, h6, rfl⟩)))))))
  · rw [if_neg (by intro h; rcases h with h | h; exact h7 h; exact h5 h)]
    exact .inr (.inr (.inr (.inr (.inr (.inr (.inr (.inr ⟨h1, h2, by simpa using h3, by simpa using h5, h7, rfl⟩)))))))

theorem extract_first {s : ByteArray} {k q : Nat} (hq : k < q) (hqs : q ≤ s.size) : at_ (s.extract k q) 0 = at_ s k := by
  rw [at_extract hqs (by omega), Nat.add_zero]

theorem at_lit (c : UInt8) : at_ ⟨#[c]⟩ 0 = c.toNat := by unfold at_; rw [dif_pos (show 0 < (⟨#[c]⟩ : ByteArray).size from Nat.zero_lt_one)]; rfl

/-- What the first byte of a token says. -/
theorem tokAt_first {s : ByteArray} {k : Nat} (hk : k < s.size) (h : (tokAt s k).t ≠ ⟨#[]⟩) : at_ (tokAt s k).t 0 = at_ s k := by
  have h1 := nameEnd_ge s k
  have h2 := nameEnd_le hk
  have h3 := digitEnd_ge s k
  have h4 := digitEnd_le hk
  rcases tokAt_cases s k with ⟨_, e⟩ | ⟨_, e⟩ | ⟨_, _, e⟩ | ⟨_, _, e⟩ | ⟨_, _, e⟩ | ⟨_, _, e⟩ | ⟨_, _, e⟩ | ⟨_, _, e⟩ | ⟨_, _, _, _, _, e⟩ <;> rw [e] at h ⊢
  · exact extract_first (by omega) (by omega)
  · exact extract_first (by omega) (by omega)
  · exact absurd rfl h
  · exact extract_first (by omega) h2
  · exact absurd rfl h
  · exact extract_first (by omega) h4
  · exact absurd rfl h
  · exact extract_first (by omega) h4
  · exact absurd rfl h

theorem tok_sign {s : ByteArray} {p : Nat} {c : UInt8} (hp : p ≤ s.size) (h : (tok s p).t = ⟨#[c]⟩) : SignAt s c.toNat p ((tok s p).at_ + 1) := by
  have hne : (tok s p).t ≠ ⟨#[]⟩ := by rw [h]; intro e; cases e
  obtain ⟨hk, e⟩ := tok_in hp hne
  rw [tok_place s p hp]
  refine ⟨hk, ?_, rfl⟩
  rw [e] at hne h
  have := tokAt_first hk hne
  rw [h, at_lit] at this
  exact this.symm

theorem tok_open {s : ByteArray} {p : Nat} (hp : p ≤ s.size) (h : (tok s p).t = ⟨#[40]⟩) : SignAt s 40 p ((tok s p).at_ + 1) := tok_sign (c := 40) hp h
theorem tok_shut {s : ByteArray} {p : Nat} (hp : p ≤ s.size) (h : (tok s p).t = ⟨#[41]⟩) : SignAt s 41 p ((tok s p).at_ + 1) := tok_sign (c := 41) hp h

theorem tok_word {s : ByteArray} {p : Nat} (hp : p ≤ s.size) (h : isNameB (tok s p).t = true) : WordAt s (tok s p).t p ((tok s p).at_ + (tok s p).t.size) := by
  obtain ⟨hne, hf⟩ := isNameB_first h
  obtain ⟨hk, e⟩ := tok_in hp hne
  rw [tok_place s p hp]
  rw [e] at hne hf ⊢
  clear e
  unfold WordAt
  have hf' := hf
  rw [tokAt_first hk hne] at hf'
  have h1 := nameEnd_ge s (runTo blankB s p)
  have h2 := nameEnd_le hk
  generalize runTo blankB s p = k at *
  have hd : digitB (at_ s k) = false := by
    have := hf'
    simp [nameB, letterB] at this
    simp [digitB]
    omega
  have ho : at_ s k ≠ 40 ∧ at_ s k ≠ 41 ∧ at_ s k ≠ 35 := by
    have := hf'
    simp [nameB, letterB] at this
    omega
  rcases tokAt_cases s k with ⟨x, _⟩ | ⟨x, _⟩ | ⟨_, _, e'⟩ | ⟨_, x, e'⟩ | ⟨x, _, _⟩ | ⟨x, _, _⟩ | ⟨x, _, _⟩ | ⟨x, _, _⟩ | ⟨_, _, x, _⟩
  · exact absurd x ho.1
  · exact absurd x ho.2.1
  · rw [e'] at hne; exact absurd rfl hne
  · have hsz : (s.extract k (nameEnd s k)).size = nameEnd s k - k := by rw [ByteArray.size_extract]; have : nameEnd s k ≤ s.size := h2; omega
    rw [e']
    simp only [hsz]
    have e3 : k + (nameEnd s k - k) = nameEnd s k := by have : k + 1 ≤ nameEnd s k := h1; omega
    rw [e3]
    exact ⟨hk, hf', rfl, by omega, rfl⟩
  · rw [x] at hd; cases hd
  · rw [x] at hd; cases hd
  · exact absurd x ho.2.2
  · exact absurd x ho.2.2
  · rw [x] at hf'; cases hf'

theorem tok_zero {s : ByteArray} {p : Nat} (hp : p ≤ s.size) (h : (tok s p).t = ⟨#[48]⟩) : ZeroAt s p ((tok s p).at_ + 1) := by
  have hne : (tok s p).t ≠ ⟨#[]⟩ := by rw [h]; intro e; cases e
  obtain ⟨hk, e⟩ := tok_in hp hne
  rw [tok_place s p hp]
  rw [e] at hne h
  have hf := tokAt_first hk hne
  rw [h, at_lit] at hf
  have hf' : at_ s (runTo blankB s p) = 48 := hf.symm
  have h3 := digitEnd_ge s (runTo blankB s p)
  have h4 := digitEnd_le hk
  refine ⟨hk, hf', ?_, rfl⟩
  generalize runTo blankB s p = k at *
  have hd : digitB (at_ s k) = true := by rw [hf']; decide
  rcases tokAt_cases s k with ⟨x, _⟩ | ⟨x, _⟩ | ⟨x, _⟩ | ⟨x, _⟩ | ⟨_, _, e'⟩ | ⟨_, x, _⟩ | ⟨x, _, _⟩ | ⟨x, _, _⟩ | ⟨_, _, _, x, _⟩
  · omega
  · omega
  · rw [hf'] at x; simp [nameB, letterB] at x
  · rw [hf'] at x; simp [nameB, letterB] at x
  · rw [e'] at h; cases h
  · simp only [not_or, not_and] at x
    show digitEnd s k = k + 1
    by_cases h1 : 1 < digitEnd s k - k
    · exact absurd hf' (x.2 h1)
    · omega
  · omega
  · omega
  · rw [hd] at x; cases x

/-- Levels stand there, one behind the other. -/
def ReadsAll (s : ByteArray) : List LvB → Nat → Nat → Prop
  | [], p, p' => p' = p
  | a :: bs, p, p' => ∃ p1, Reads s a p p1 ∧ ReadsAll s bs p1 p'

/-- A word of levels, and its kind. -/
def KindOf (q : ByteArray) (kd : Nat) : Prop := (q = ⟨#[115]⟩ ∧ kd = 1) ∨ (q = ⟨#[109, 97, 120]⟩ ∧ kd = 2) ∨ (q = ⟨#[105, 109, 97, 120]⟩ ∧ kd = 3)
def partsOf (kd : Nat) : Nat := if kd = 1 then 1 else 2

/-- No level stands there: the first token that can't stand where it does is at that place. -/
inductive Fails (s : ByteArray) : Nat → Nat → Prop
  | none {p : Nat} : (tok s p).t ≠ ⟨#[48]⟩ → isNameB (tok s p).t = false → (tok s p).t ≠ ⟨#[40]⟩ → Fails s p (runTo blankB s p)
  | word {p p1 : Nat} : SignAt s 40 p p1 → (tok s p1).t ≠ ⟨#[115]⟩ → (tok s p1).t ≠ ⟨#[109, 97, 120]⟩ → (tok s p1).t ≠ ⟨#[105, 109, 97, 120]⟩ → Fails s p (runTo blankB s p1)
  | part {p p1 p2 pj a kd : Nat} {q : ByteArray} {ls : List LvB} : SignAt s 40 p p1 → WordAt s q p1 p2 → KindOf q kd → ReadsAll s ls p2 pj → ls.length < partsOf kd → Fails s pj a → Fails s p a
  | close {p p1 p2 p3 kd : Nat} {q : ByteArray} {ls : List LvB} : SignAt s 40 p p1 → WordAt s q p1 p2 → KindOf q kd → ReadsAll s ls p2 p3 → ls.length = partsOf kd → (tok s p3).t ≠ ⟨#[41]⟩ → Fails s p (runTo blankB s p3)

/-- The whole text is no level: where the first fault stands. -/
def Wrong (s : ByteArray) (a : Nat) : Prop := Fails s 0 a ∨ ∃ (l : LvB) (p' : Nat), Reads s l 0 p' ∧ runTo blankB s p' ≠ s.size ∧ a = runTo blankB s p'

/-- The scanner's token at a place: its kind, and where it ends. (good: what the number behind a sharp says.) -/
def scanAt (good : ByteArray → Bool) (s : ByteArray) (k : Nat) : Nat × Nat :=
  if at_ s k = 40 then (1, k + 1) else if at_ s k = 41 then (2, k + 1) else if digitB (at_ s k) = true then (4, digitEnd s k)
  else if at_ s k = 35 then (if good (s.extract (k + 1) (digitEnd s k)) = true then 5 else 6, digitEnd s k)
  else if nameB (at_ s k) true = true then (if nameEnd s k - k ≤ 40 then 3 else 6, nameEnd s k) else (6, k + 1)

theorem scanAt_end {good : ByteArray → Bool} {s : ByteArray} {k : Nat} (hk : k < s.size) : k < (scanAt good s k).2 ∧ (scanAt good s k).2 ≤ s.size ∧ (scanAt good s k).1 ≤ 6 ∧ 1 ≤ (scanAt good s k).1 := by
  have h1 := nameEnd_ge s k
  have h2 := nameEnd_le hk
  have h3 := digitEnd_ge s k
  have h4 := digitEnd_le hk
  unfold scanAt
  repeat' split
  all_goals (simp only []; omega)

/-- The scanner's token at a place where no level begins. -/
theorem scan_none {good : ByteArray → Bool} {s : ByteArray} {p : Nat} (hk : runTo blankB s p < s.size) (h0 : (tok s p).t ≠ ⟨#[48]⟩) (hn : isNameB (tok s p).t = false) (ho : (tok s p).t ≠ ⟨#[40]⟩) :
    (scanAt good s (runTo blankB s p)).1 ≠ 1 ∧ (scanAt good s (runTo blankB s p)).1 ≠ 3 ∧ ((scanAt good s (runTo blankB s p)).1 = 4 → s.extract (runTo blankB s p) (scanAt good s (runTo blankB s p)).2 ≠ ⟨#[48]⟩) := by
  have e : tok s p = tokAt s (runTo blankB s p) := by unfold tok; rw [if_neg (by omega)]
  rw [e] at h0 hn ho
  clear e
  generalize runTo blankB s p = k at *
  have h1 := nameEnd_ge s k
  have h2 := nameEnd_le hk
  have h3 := digitEnd_ge s k
  have h4 := digitEnd_le hk
  have hex1 : ∀ c : UInt8, at_ s k = c.toNat → s.extract k (k + 1) = ⟨#[c]⟩ := fun c hc => by
    have e3 : s[k] = c := UInt8.toNat_inj.1 (by rw [at_eq hk]; exact hc)
    rw [ByteArray.ext_iff]
    apply Array.ext'
    apply List.ext_getElem
    · simp; omega
    · intro i h1' h2'
      simp at h2'
      subst h2'
      simp
      exact e3
  have hname : nameB (at_ s k) true = true → ∀ q, k < q → q ≤ s.size → isNameB (s.extract k q) = true := fun hb q hq hqs => by
    unfold isNameB
    rw [extract_first hq hqs, hb]
    have : s.extract k q ≠ ⟨#[]⟩ := by
      intro e
      have := congrArg ByteArray.size e
      rw [ByteArray.size_extract] at this
      have e0 : (⟨#[]⟩ : ByteArray).size = 0 := rfl
      rw [e0] at this
      omega
    simp [this]
  refine ⟨fun h => ?_, fun h => ?_, fun h he => ?_⟩
  · have hc : at_ s k = 40 := by
      unfold scanAt at h
      by_cases hc : at_ s k = 40
      · exact hc
      · rw [if_neg hc] at h
        repeat' (split at h)
        all_goals simp at h
    rcases tokAt_cases s k with ⟨_, e⟩ | ⟨x, _⟩ | ⟨x, _⟩ | ⟨x, _⟩ | ⟨x, _⟩ | ⟨x, _⟩ | ⟨x, _⟩ | ⟨x, _⟩ | ⟨x, _⟩
    · rw [e] at ho; exact ho (hex1 40 hc)
    · omega
    all_goals first | omega | (rw [hc] at x; simp [nameB, letterB, digitB] at x)
  · have hc : nameB (at_ s k) true = true ∧ nameEnd s k - k ≤ 40 := by
      unfold scanAt at h
      repeat' (split at h)
      all_goals first | (simp at h; done) | (exact ⟨by assumption, by assumption⟩)
    rcases tokAt_cases s k with ⟨x, e⟩ | ⟨x, _⟩ | ⟨_, x, _⟩ | ⟨_, _, e⟩ | ⟨x, _⟩ | ⟨x, _⟩ | ⟨x, _⟩ | ⟨x, _⟩ | ⟨_, _, x, _⟩
    · rw [x] at hc; simp [nameB, letterB] at hc
    · rw [x] at hc; simp [nameB, letterB] at hc
    · omega
    · rw [e] at hn; rw [hname hc.1 _ (by omega) h2] at hn; cases hn
    · have := hc.1; simp [nameB, letterB] at this; simp [digitB] at x; omega
    · have := hc.1; simp [nameB, letterB] at this; simp [digitB] at x; omega
    · rw [x] at hc; simp [nameB, letterB] at hc
    · rw [x] at hc; simp [nameB, letterB] at hc
    · rw [x] at hc; simp at hc
  · have hc : digitB (at_ s k) = true ∧ (scanAt good s k).2 = digitEnd s k := by
      unfold scanAt at h ⊢
      repeat' (split at h)
      all_goals first | (simp at h; done) | skip
      all_goals (refine ⟨by assumption, ?_⟩; simp_all)
    rw [hc.2] at he
    have hsz := congrArg ByteArray.size he
    rw [ByteArray.size_extract] at hsz
    have e1 : (⟨#[48]⟩ : ByteArray).size = 1 := rfl
    rw [e1] at hsz
    have hq : digitEnd s k ≤ s.size := h4
    have hq' : k + 1 ≤ digitEnd s k := h3
    have hqe : digitEnd s k = k + 1 := by omega
    rcases tokAt_cases s k with ⟨x, e⟩ | ⟨x, _⟩ | ⟨x, _⟩ | ⟨x, _⟩ | ⟨_, x, _⟩ | ⟨_, x, e⟩ | ⟨x, _⟩ | ⟨x, _⟩ | ⟨_, _, _, x, _⟩
    · rw [x] at hc; simp [digitB] at hc
    · rw [x] at hc; simp [digitB] at hc
    · have := hc.1; simp [digitB] at this; simp [nameB, letterB] at x; omega
    · have := hc.1; simp [digitB] at this; simp [nameB, letterB] at x; omega
    · omega
    · rw [e] at h0; exact h0 he
    · rw [x] at hc; simp [digitB] at hc
    · rw [x] at hc; simp [digitB] at hc
    · rw [x] at hc; simp at hc

/-- A name that stands there is the document's token. -/
theorem scan_word {good : ByteArray → Bool} {s : ByteArray} {p : Nat} (hk : runTo blankB s p < s.size) (h : (scanAt good s (runTo blankB s p)).1 = 3) :
    (tok s p).t = s.extract (runTo blankB s p) (scanAt good s (runTo blankB s p)).2 := by
  have e : tok s p = tokAt s (runTo blankB s p) := by unfold tok; rw [if_neg (by omega)]
  rw [e]
  clear e
  generalize runTo blankB s p = k at *
  have hc : nameB (at_ s k) true = true ∧ nameEnd s k - k ≤ 40 ∧ (scanAt good s k).2 = nameEnd s k := by
    unfold scanAt at h ⊢
    repeat' (split at h)
    all_goals first | (simp at h; done) | skip
    all_goals (refine ⟨by assumption, by assumption, ?_⟩; simp_all)
  rw [hc.2.2]
  rcases tokAt_cases s k with ⟨x, e⟩ | ⟨x, _⟩ | ⟨_, x, _⟩ | ⟨_, _, e⟩ | ⟨x, _⟩ | ⟨x, _⟩ | ⟨x, _⟩ | ⟨x, _⟩ | ⟨_, _, x, _⟩
  · rw [x] at hc; simp [nameB, letterB] at hc
  · rw [x] at hc; simp [nameB, letterB] at hc
  · omega
  · rw [e]
  · have := hc.1; simp [nameB, letterB] at this; simp [digitB] at x; omega
  · have := hc.1; simp [nameB, letterB] at this; simp [digitB] at x; omega
  · rw [x] at hc; simp [nameB, letterB] at hc
  · rw [x] at hc; simp [nameB, letterB] at hc
  · rw [x] at hc; simp at hc

/-- A closing bracket that stands there is the document's token. -/
theorem scan_close {good : ByteArray → Bool} {s : ByteArray} {p : Nat} (hk : runTo blankB s p < s.size) (h : (tok s p).t ≠ ⟨#[41]⟩) : (scanAt good s (runTo blankB s p)).1 ≠ 2 := by
  have e : tok s p = tokAt s (runTo blankB s p) := by unfold tok; rw [if_neg (by omega)]
  rw [e] at h
  clear e
  generalize runTo blankB s p = k at *
  intro h2
  have hc : at_ s k = 41 := by
    unfold scanAt at h2
    repeat' (split at h2)
    all_goals first | (simp at h2; done) | assumption
  rcases tokAt_cases s k with ⟨x, _⟩ | ⟨_, e⟩ | ⟨x, _⟩ | ⟨x, _⟩ | ⟨x, _⟩ | ⟨x, _⟩ | ⟨x, _⟩ | ⟨x, _⟩ | ⟨_, x, _⟩
  · omega
  · rw [e] at h
    refine h ?_
    have e3 : s[k] = 41 := UInt8.toNat_inj.1 (by rw [at_eq hk]; exact hc)
    rw [ByteArray.ext_iff]
    apply Array.ext'
    apply List.ext_getElem
    · simp; omega
    · intro i h1' h2'
      simp at h2'
      subst h2'
      simp
      exact e3
  all_goals first | omega | (rw [hc] at x; simp [nameB, letterB, digitB] at x)

end Go.Proofs.YtmpepnckfghepaaDoor
