/- Bytes of a text; runs of them; numbers; levels as mathematics. No walk. -/
import Derived.Test.YtekfledccpeblaaGreatDoorRows
import Derived.WalkKit
import Derived.WalkSpells
import Derived.WalkLawsBesides
import Derived.WideShapes
import Derived.Deep.LoopGhost
import Derived.Deep.QuietTactic
import Derived.BigQuiet
import Derived.WalkSmall
import Derived.Deep.RegionWith
import Derived.Deep.RegionHeld3
import Derived.Deep.MidRow
import Derived.Lib.ItoaNum

namespace Go.Proofs.YtekfledccpeblaaGreatDoor
open Go.RowKit

theorem hide {p : Prop} (h : p) : Hid p := h

/-- The byte at a place; 0 behind the end. -/
def at_ (s : ByteArray) (k : Nat) : Nat := if h : k < s.size then (s[k]).toNat else 0
theorem at_eq {s : ByteArray} {k : Nat} (h : k < s.size) : (s[k]).toNat = at_ s k := by simp [at_, h]
theorem at_lt (s : ByteArray) (k : Nat) : at_ s k < 256 := by unfold at_; split; exact (s[k]).toNat_lt; omega
/-- How far a run of bytes goes. -/
def run (f : Nat → Bool) (s : ByteArray) : Nat → Nat → Nat
  | 0, k => k
  | n + 1, k => if k < s.size ∧ f (at_ s k) = true then run f s n (k + 1) else k
def runTo (f : Nat → Bool) (s : ByteArray) (k : Nat) : Nat := run f s (s.size - k) k
theorem run_ge (f : Nat → Bool) (s : ByteArray) : ∀ n k, k ≤ run f s n k
  | 0, k => Nat.le_refl _
  | n + 1, k => by simp only [run]; split; have := run_ge f s n (k + 1); omega; omega
theorem run_le (f : Nat → Bool) (s : ByteArray) : ∀ n k, k ≤ s.size → run f s n k ≤ s.size
  | 0, k, h => h
  | n + 1, k, h => by simp only [run]; split; rename_i h'; exact run_le f s n (k + 1) (by omega); exact h
theorem runTo_ge (f : Nat → Bool) (s : ByteArray) (k : Nat) : k ≤ runTo f s k := run_ge f s _ k
theorem runTo_le (f : Nat → Bool) (s : ByteArray) {k : Nat} (h : k ≤ s.size) : runTo f s k ≤ s.size := run_le f s _ k h
theorem runTo_step {f : Nat → Bool} {s : ByteArray} {k : Nat} (h : k < s.size) (hf : f (at_ s k) = true) : runTo f s k = runTo f s (k + 1) := by
  unfold runTo
  rw [show s.size - k = (s.size - (k + 1)) + 1 by omega]
  simp [run, h, hf]
theorem runTo_stop {f : Nat → Bool} {s : ByteArray} {k : Nat} (hf : f (at_ s k) = false) : runTo f s k = k := by
  unfold runTo
  cases s.size - k with
  | zero => rfl
  | succ n => simp [run, hf]
theorem runTo_end {f : Nat → Bool} {s : ByteArray} {k : Nat} (h : s.size ≤ k) : runTo f s k = k := by
  unfold runTo
  rw [show s.size - k = 0 by omega]
  rfl
def blankB (c : Nat) : Bool := c == 32 || c == 9 || c == 10
def digitB (c : Nat) : Bool := 48 ≤ c && c ≤ 57
/-- These bytes stand at that place. -/
def Has (s : ByteArray) (p : Nat) (t : List UInt8) : Prop := p + t.length ≤ s.size ∧ ∀ i (h : i < t.length), at_ s (p + i) = (t[i]).toNat
theorem Has.left {s : ByteArray} {p : Nat} {t u : List UInt8} (h : Has s p (t ++ u)) : Has s p t := by
  refine ⟨by have := h.1; simp at this; omega, fun i hi => ?_⟩
  have := h.2 i (by simp; omega)
  rwa [List.getElem_append_left hi] at this
theorem Has.right {s : ByteArray} {p : Nat} {t u : List UInt8} (h : Has s p (t ++ u)) : Has s (p + t.length) u := by
  refine ⟨by have := h.1; simp at this; omega, fun i hi => ?_⟩
  have := h.2 (t.length + i) (by simp; omega)
  rw [List.getElem_append_right (by omega)] at this
  simpa [Nat.add_assoc] using this
theorem Has.head {s : ByteArray} {p : Nat} {c : UInt8} {u : List UInt8} (h : Has s p (c :: u)) : p < s.size ∧ at_ s p = c.toNat ∧ Has s (p + 1) u := by
  have h1 := h.2 0 (by simp)
  have hs := h.1
  simp at h1 hs
  exact ⟨by omega, h1, Has.right (t := [c]) h⟩
theorem at_data (q : ByteArray) (i : Nat) (h : i < q.size) : at_ q i = (q.data.toList[i]'(by simpa using h)).toNat := by
  unfold at_; rw [dif_pos h]; rfl
theorem at_extract {s : ByteArray} {a b i : Nat} (hb : b ≤ s.size) (hi : a + i < b) : at_ (s.extract a b) i = at_ s (a + i) := by
  have h1 : i < (s.extract a b).size := by rw [ByteArray.size_extract]; omega
  unfold at_
  rw [dif_pos h1, dif_pos (by omega)]
  congr 1
  exact ByteArray.getElem_extract ..
theorem run_all {f : Nat → Bool} {s : ByteArray} : ∀ (n k j : Nat), k ≤ j → j < run f s n k → f (at_ s j) = true
  | 0, k, j, h1, h2 => by simp [run] at h2; omega
  | n + 1, k, j, h1, h2 => by
    simp only [run] at h2
    split at h2
    · rename_i hh
      by_cases e : j = k
      · subst e; exact hh.2
      · exact run_all n (k + 1) j (by omega) h2
    · omega
/-- What digits mean. -/
def decF : Nat → List UInt8 → Nat
  | acc, [] => acc
  | acc, c :: r => decF (acc * 10 + (c.toNat - 48)) r
def decV (d : ByteArray) : Nat := decF 0 d.data.toList
theorem pow_move (a P : Nat) : a * (P * 10) = a * 10 * P := by rw [Nat.mul_comm P 10, Nat.mul_assoc]
theorem decF_ge : ∀ (l : List UInt8) (acc : Nat), acc * 10 ^ l.length ≤ decF acc l
  | [], acc => by rw [List.length_nil, Nat.pow_zero, Nat.mul_one]; exact Nat.le_refl _
  | c :: r, acc => by
    have ih := decF_ge r (acc * 10 + (c.toNat - 48))
    rw [List.length_cons, Nat.pow_succ]
    show acc * (10 ^ r.length * 10) ≤ decF (acc * 10 + (c.toNat - 48)) r
    generalize decF (acc * 10 + (c.toNat - 48)) r = D at *
    generalize 10 ^ r.length = P at *
    rw [pow_move]
    exact Nat.le_trans (Nat.mul_le_mul_right P (Nat.le_add_right _ _)) ih
theorem decF_lt : ∀ (l : List UInt8) (acc : Nat), (∀ c ∈ l, 48 ≤ c.toNat ∧ c.toNat ≤ 57) → decF acc l < (acc + 1) * 10 ^ l.length
  | [], acc, _ => by rw [List.length_nil, Nat.pow_zero, Nat.mul_one]; exact Nat.lt_succ_self _
  | c :: r, acc, h => by
    have ih := decF_lt r (acc * 10 + (c.toNat - 48)) fun x hx => h x (by simp [hx])
    have hc := h c (by simp)
    rw [List.length_cons, Nat.pow_succ]
    show decF (acc * 10 + (c.toNat - 48)) r < (acc + 1) * (10 ^ r.length * 10)
    have hx : acc * 10 + (c.toNat - 48) + 1 ≤ (acc + 1) * 10 := by omega
    generalize acc * 10 + (c.toNat - 48) = x at *
    generalize decF x r = D at *
    generalize 10 ^ r.length = P at *
    rw [pow_move]
    exact Nat.lt_of_lt_of_le ih (Nat.mul_le_mul_right P hx)
def Digs (d : ByteArray) : Prop := ∀ c ∈ d.data.toList, 48 ≤ c.toNat ∧ c.toNat ≤ 57
theorem run_digs {s : ByteArray} {a q : Nat} (ha : a ≤ s.size) (hq : runTo digitB s a = q) : Digs (s.extract a q) := by
  have hle := runTo_le digitB s ha
  have hge := runTo_ge digitB s a
  rw [hq] at hle hge
  intro c hc
  obtain ⟨i, hi, rfl⟩ := List.getElem_of_mem hc
  have hsz : (s.extract a q).data.toList.length = q - a := by
    have h1 : (s.extract a q).size = q - a := by rw [ByteArray.size_extract]; omega
    have h2 : (s.extract a q).data.toList.length = (s.extract a q).size := by rw [Array.length_toList]; rfl
    rw [h2, h1]
  rw [hsz] at hi
  have h1 : at_ (s.extract a q) i = at_ s (a + i) := at_extract hle (by omega)
  rw [at_data _ i (by rw [ByteArray.size_extract]; omega)] at h1
  have h2 : digitB (at_ s (a + i)) = true := run_all (f := digitB) _ a (a + i) (by omega) (by have : run digitB s (s.size - a) a = q := hq; rw [this]; omega)
  simp [digitB] at h2
  rw [h1]
  exact h2

/-- A level. -/
inductive Lv (α : Type) where
  | zero
  | succ (a : Lv α)
  | max (a b : Lv α)
  | imax (a b : Lv α)
  | param (p : α)
abbrev LvB := Lv ByteArray
def Lv.kind {α : Type} : Lv α → Nat
  | .zero => 0
  | .succ _ => 1
  | .max _ _ => 2
  | .imax _ _ => 3
  | .param _ => 4
def Lv.nm : LvB → ByteArray
  | .param p => p
  | _ => ⟨#[]⟩
def Lv.kids {α : Type} : Lv α → List (Lv α)
  | .zero => []
  | .succ a => [a]
  | .max a b => [a, b]
  | .imax a b => [a, b]
  | .param _ => []
def Lv.nodes {α : Type} : Lv α → Nat
  | .zero => 1
  | .succ a => a.nodes + 1
  | .max a b => a.nodes + b.nodes + 1
  | .imax a b => a.nodes + b.nodes + 1
  | .param _ => 1

end Go.Proofs.YtekfledccpeblaaGreatDoor
