/- The language's tokens, as functions of the text and a place: no walk. -/
import Derived.Test.YtekfledccpeblaaGreatDoorTok

namespace Go.Proofs.YtekfledccpeblaaGreatDoor
open Go.RowKit

/-- Letters; what else may stand in a part of a name; all but a line's end. -/
def alphaB (c : Nat) : Bool := (97 ≤ c && c ≤ 122) || (65 ≤ c && c ≤ 90)
def partB (c : Nat) : Bool := alphaB c || digitB c || c == 95 || c == 39
def lineB (c : Nat) : Bool := c != 10

/-- Blanks and remarks. -/
def skipN (s : ByteArray) : Nat → Nat → Nat
  | 0, p => p
  | n + 1, p => if p < s.size ∧ blankB (at_ s p) = true then skipN s n (p + 1)
      else if p + 1 < s.size ∧ at_ s p = 45 ∧ at_ s (p + 1) = 45 then skipN s n (runTo lineB s p) else p
def skip (s : ByteArray) (p : Nat) : Nat := skipN s (s.size - p) p

/-- A name's further parts, each behind a dot. -/
def dotsN (s : ByteArray) : Nat → Nat → Nat
  | 0, q => q
  | n + 1, q => if q + 1 < s.size ∧ at_ s q = 46 ∧ alphaB (at_ s (q + 1)) = true then dotsN s n (runTo partB s (q + 1)) else q
def dots (s : ByteArray) (q : Nat) : Nat := dotsN s (s.size - q) q
def lnameEnd (s : ByteArray) (p : Nat) : Nat := dots s (runTo partB s p)

theorem runTo_line {s : ByteArray} {p : Nat} (h : p < s.size) (hc : at_ s p = 45) : p + 1 ≤ runTo lineB s p := by
  rw [runTo_step h (by simp [lineB, hc])]
  exact runTo_ge _ _ _
theorem skipN_le (s : ByteArray) : ∀ n p, p ≤ s.size → p ≤ skipN s n p ∧ skipN s n p ≤ s.size
  | 0, p, h => ⟨Nat.le_refl _, h⟩
  | n + 1, p, h => by
    simp only [skipN]
    split
    · rename_i h1
      have := skipN_le s n (p + 1) (by omega)
      omega
    · split
      · rename_i h1
        have := runTo_line (by omega) h1.2.1
        have := runTo_le lineB s h
        have := skipN_le s n (runTo lineB s p) (by omega)
        omega
      · exact ⟨Nat.le_refl _, h⟩
theorem skip_le {s : ByteArray} {p : Nat} (h : p ≤ s.size) : p ≤ skip s p ∧ skip s p ≤ s.size := skipN_le s _ p h
/-- More rounds than there are bytes change nothing. -/
theorem skipN_more (s : ByteArray) : ∀ n m p, s.size - p ≤ n → s.size - p ≤ m → p ≤ s.size → skipN s n p = skipN s m p
  | 0, 0, _, _, _, _ => rfl
  | 0, m + 1, p, h, _, hp => by
    simp only [skipN]
    rw [if_neg (by omega), if_neg (by omega)]
  | n + 1, 0, p, _, h, hp => by
    simp only [skipN]
    rw [if_neg (by omega), if_neg (by omega)]
  | n + 1, m + 1, p, h, h', hp => by
    simp only [skipN]
    split
    · rename_i h1
      exact skipN_more s n m (p + 1) (by omega) (by omega) (by omega)
    · split
      · rename_i h1
        have h2 := runTo_line (by omega) h1.2.1
        have h3 := runTo_le lineB s hp
        exact skipN_more s n m _ (by omega) (by omega) h3
      · rfl
theorem skip_blank {s : ByteArray} {p : Nat} (h : p < s.size) (hb : blankB (at_ s p) = true) : skip s p = skip s (p + 1) := by
  unfold skip
  rw [show s.size - p = (s.size - (p + 1)) + 1 by omega]
  simp only [skipN]
  rw [if_pos ⟨h, hb⟩]
theorem skip_line {s : ByteArray} {p : Nat} (h : p + 1 < s.size) (h1 : at_ s p = 45) (h2 : at_ s (p + 1) = 45) : skip s p = skip s (runTo lineB s p) := by
  have h3 := runTo_line (by omega) h1
  have h4 := runTo_le lineB s (k := p) (by omega)
  unfold skip
  rw [show s.size - p = (s.size - (p + 1)) + 1 by omega]
  simp only [skipN]
  rw [if_neg (by rw [h1]; simp [blankB]), if_pos ⟨h, h1, h2⟩]
  exact skipN_more s _ _ _ (by omega) (by omega) h4
theorem skip_stop {s : ByteArray} {p : Nat} (hb : blankB (at_ s p) = false) (hl : ¬ (p + 1 < s.size ∧ at_ s p = 45 ∧ at_ s (p + 1) = 45)) : skip s p = p := by
  unfold skip
  cases s.size - p with
  | zero => rfl
  | succ n => simp only [skipN]; rw [if_neg (by rw [hb]; simp), if_neg hl]
theorem skip_end {s : ByteArray} {p : Nat} (h : s.size ≤ p) : skip s p = p := by
  unfold skip
  rw [show s.size - p = 0 by omega]
  rfl

theorem dotsN_le (s : ByteArray) : ∀ n q, q ≤ s.size → q ≤ dotsN s n q ∧ dotsN s n q ≤ s.size
  | 0, q, h => ⟨Nat.le_refl _, h⟩
  | n + 1, q, h => by
    simp only [dotsN]
    split
    · rename_i h1
      have h2 := runTo_ge partB s (q + 1)
      have h3 := runTo_le partB s (k := q + 1) (by omega)
      have := dotsN_le s n (runTo partB s (q + 1)) h3
      omega
    · exact ⟨Nat.le_refl _, h⟩
theorem dotsN_more (s : ByteArray) : ∀ n m q, s.size - q ≤ n → s.size - q ≤ m → q ≤ s.size → dotsN s n q = dotsN s m q
  | 0, 0, _, _, _, _ => rfl
  | 0, m + 1, q, h, _, hq => by
    simp only [dotsN]
    rw [if_neg (by omega)]
  | n + 1, 0, q, _, h, hq => by
    simp only [dotsN]
    rw [if_neg (by omega)]
  | n + 1, m + 1, q, h, h', hq => by
    simp only [dotsN]
    split
    · rename_i h1
      have h2 := runTo_ge partB s (q + 1)
      have h3 := runTo_le partB s (k := q + 1) (by omega)
      exact dotsN_more s n m _ (by omega) (by omega) h3
    · rfl
theorem dots_step {s : ByteArray} {q : Nat} (h : q + 1 < s.size) (h1 : at_ s q = 46) (h2 : alphaB (at_ s (q + 1)) = true) : dots s q = dots s (runTo partB s (q + 1)) := by
  have h3 := runTo_ge partB s (q + 1)
  have h4 := runTo_le partB s (k := q + 1) (by omega)
  unfold dots
  rw [show s.size - q = (s.size - (q + 1)) + 1 by omega]
  simp only [dotsN]
  rw [if_pos ⟨h, h1, h2⟩]
  exact dotsN_more s _ _ _ (by omega) (by omega) h4
theorem dots_stop {s : ByteArray} {q : Nat} (h : ¬ (q + 1 < s.size ∧ at_ s q = 46 ∧ alphaB (at_ s (q + 1)) = true)) : dots s q = q := by
  unfold dots
  cases s.size - q with
  | zero => rfl
  | succ n => simp only [dotsN]; rw [if_neg h]
theorem dots_le {s : ByteArray} {q : Nat} (h : q ≤ s.size) : q ≤ dots s q ∧ dots s q ≤ s.size := dotsN_le s _ q h
theorem lnameEnd_le {s : ByteArray} {p : Nat} (h : p ≤ s.size) : p ≤ lnameEnd s p ∧ lnameEnd s p ≤ s.size := by
  have h1 := runTo_ge partB s p
  have h2 := runTo_le partB s h
  have := dots_le h2
  unfold lnameEnd
  omega

/-- The words that are no names. -/
def lwords : List ByteArray := [⟨#[97, 120, 105, 111, 109]⟩, ⟨#[100, 101, 102]⟩, ⟨#[116, 104, 101, 111, 114, 101, 109]⟩, ⟨#[105, 110, 100, 117, 99, 116, 105, 118, 101]⟩, ⟨#[102, 117, 110]⟩, ⟨#[102, 111, 114, 97, 108, 108]⟩, ⟨#[108, 101, 116]⟩, ⟨#[105, 110]⟩, ⟨#[98, 121]⟩, ⟨#[84, 121, 112, 101]⟩, ⟨#[80, 114, 111, 112]⟩, ⟨#[83, 111, 114, 116]⟩, ⟨#[109, 97, 120]⟩, ⟨#[105, 109, 97, 120]⟩]
def isWord (t : ByteArray) : Bool := lwords.any fun q => decide (t = q)
/-- Signs of two bytes, of one. -/
def twoB (a b : Nat) : Bool := (a == 58 && b == 61) || (a == 61 && b == 62) || (a == 45 && b == 62) || (a == 46 && b == 123)
def oneB (c : Nat) : Bool := c == 40 || c == 41 || c == 123 || c == 125 || c == 58 || c == 44 || c == 46 || c == 124 || c == 64 || c == 95 || c == 61 || c == 59 || c == 43

/-- A token: its kind (0 the end, 1 a name, 2 a number, 3 a sign or a word, 4 none), its text, its place. -/
structure LTok where
  kd : Nat
  t : ByteArray
  at_ : Nat
/-- The token that begins at a place that is no blank, and where it ends. -/
def lexAt (s : ByteArray) (p : Nat) : LTok × Nat :=
  if alphaB (at_ s p) = true then
    if 40 < lnameEnd s p - p then (⟨4, ⟨#[]⟩, p⟩, p)
    else if isWord (s.extract p (lnameEnd s p)) = true then (⟨3, s.extract p (lnameEnd s p), p⟩, lnameEnd s p) else (⟨1, s.extract p (lnameEnd s p), p⟩, lnameEnd s p)
  else if digitB (at_ s p) = true then
    if 2 < runTo digitB s p - p ∨ (runTo digitB s p - p = 2 ∧ at_ s p = 48) then (⟨4, ⟨#[]⟩, p⟩, p) else (⟨2, s.extract p (runTo digitB s p), p⟩, runTo digitB s p)
  else if p + 1 < s.size ∧ twoB (at_ s p) (at_ s (p + 1)) = true then (⟨3, s.extract p (p + 2), p⟩, p + 2)
  else if oneB (at_ s p) = true then (⟨3, s.extract p (p + 1), p⟩, p + 1)
  else (⟨4, ⟨#[]⟩, p⟩, p)
/-- The token at or behind a place. -/
def lex (s : ByteArray) (p : Nat) : LTok × Nat := if skip s p = s.size then (⟨0, ⟨#[]⟩, s.size⟩, s.size) else lexAt s (skip s p)

end Go.Proofs.YtekfledccpeblaaGreatDoor
