/- A level's text: plain lists. -/
import Derived.Test.YtpdoegjddiaaoaaDoorTools
namespace Go.Proofs.YtpdoegjddiaaoaaDoor
open Go.RowKit

/-- A level's text, as it is printed. -/
def Lv.text : LvB → List UInt8
  | .zero => [48]
  | .succ a => [40, 115, 32] ++ Lv.text a ++ [41]
  | .max a b => [40, 109, 97, 120, 32] ++ Lv.text a ++ [32] ++ Lv.text b ++ [41]
  | .imax a b => [40, 105, 109, 97, 120, 32] ++ Lv.text a ++ [32] ++ Lv.text b ++ [41]
  | .param p => p.data.toList

theorem Lv.text_len : ∀ (l : LvB), (∀ p, Lv.has p l → p.size ≤ 1000) → l.text.length ≤ 1000 * l.nodes
  | .zero, _ => by simp [text, nodes]
  | .succ a, h => by have := Lv.text_len a h; simp [text, nodes]; omega
  | .max a b, h => by have := Lv.text_len a (fun p hp => h p (.inl hp)); have := Lv.text_len b (fun p hp => h p (.inr hp)); simp [text, nodes]; omega
  | .imax a b, h => by have := Lv.text_len a (fun p hp => h p (.inl hp)); have := Lv.text_len b (fun p hp => h p (.inr hp)); simp [text, nodes]; omega
  | .param p, h => by have := h p rfl; simp only [text, nodes, Array.length_toList]; show p.data.size ≤ _; have e : p.data.size = p.size := rfl; omega

theorem bytes_append (a b : List UInt8) : (⟨a.toArray⟩ : ByteArray) ++ ⟨b.toArray⟩ = ⟨(a ++ b).toArray⟩ := by
  rw [ByteArray.ext_iff]
  simp

/-- Words of brackets. -/
def Lv.word : LvB → List UInt8
  | .succ _ => [115]
  | .max _ _ => [109, 97, 120]
  | .imax _ _ => [105, 109, 97, 120]
  | _ => []

/-- The text of the first parts, each behind a blank. -/
def Lv.kidsText (l : LvB) (k : Nat) : List UInt8 := (l.kids.take k).flatMap fun a => 32 :: Lv.text a
theorem Lv.kidsText_snoc (l : LvB) (k : Nat) (h : k < l.kids.length) : l.kidsText (k + 1) = l.kidsText k ++ [32] ++ Lv.text l.kids[k] := by
  unfold kidsText; rw [List.take_succ_eq_append_getElem h, List.flatMap_append]; simp
theorem Lv.text_kids (l : LvB) (h4 : l.kind ≠ 4) (h0 : l.kind ≠ 0) : l.text = [40] ++ l.word ++ l.kidsText l.kids.length ++ [41] := by
  cases l <;> simp [kind] at h4 h0 <;> simp [text, word, kidsText, kids]
theorem Lv.kidsText_le (l : LvB) (k : Nat) (h : k ≤ l.kids.length) : (l.kidsText k).length ≤ (l.kidsText l.kids.length).length := by
  cases l with
  | zero => simp [kids] at h; subst h; simp [kidsText]
  | param => simp [kids] at h; subst h; simp [kidsText]
  | succ a => match k, h with | 0, _ => simp [kidsText] | 1, _ => simp [kidsText, kids] | k + 2, h => simp [kids] at h
  | max a b => match k, h with | 0, _ => simp [kidsText] | 1, _ => simp [kidsText, kids] | 2, _ => simp [kidsText, kids] | k + 3, h => simp [kids] at h
  | imax a b => match k, h with | 0, _ => simp [kidsText] | 1, _ => simp [kidsText, kids] | 2, _ => simp [kidsText, kids] | k + 3, h => simp [kids] at h

end Go.Proofs.YtpdoegjddiaaoaaDoor
