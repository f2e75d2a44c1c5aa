/- Two levels are the same as they are written: plain Lean. -/
import Derived.Test.YtmpepnckfghepaaDoorTools
namespace Go.Proofs.YtmpepnckfghepaaDoor
open Go.RowKit

noncomputable def eqB (a b : LvB) : Bool := @decide (a = b) (Classical.propDecidable _)
theorem eqB_true {a b : LvB} (h : a = b) : eqB a b = true := @decide_eq_true _ (Classical.propDecidable _) h
theorem eqB_false {a b : LvB} (h : a ≠ b) : eqB a b = false := @decide_eq_false _ (Classical.propDecidable _) h

/-- A level is its kind, its name and its parts. -/
theorem Lv.ext3 {a b : LvB} (h1 : a.kind = b.kind) (h2 : a.nm = b.nm) (h3 : a.kids = b.kids) : a = b := by
  cases a <;> cases b <;> simp [kind, nm, kids] at h1 h2 h3 ⊢ <;> first | exact h2 | exact h3

noncomputable def kidsB (a b : LvB) : Bool := @decide (a.kids = b.kids) (Classical.propDecidable _)
theorem kidsB_len {a b : LvB} (h : a.kids.length ≠ b.kids.length) : kidsB a b = false := by
  refine @decide_eq_false _ (Classical.propDecidable _) fun e => ?_; exact h (by rw [e])
theorem kidsB_false {a b : LvB} {k : Nat} (h1 : k < a.kids.length) (h2 : k < b.kids.length) (h : a.kids[k] ≠ b.kids[k]) : kidsB a b = false := by
  refine @decide_eq_false _ (Classical.propDecidable _) fun e => ?_; exact h (by simp [e])
theorem kidsB_true {a b : LvB} (hl : a.kids.length = b.kids.length) (h : ∀ j (h1 : j < a.kids.length) (h2 : j < b.kids.length), a.kids[j] = b.kids[j]) : kidsB a b = true := by
  exact @decide_eq_true _ (Classical.propDecidable _) <| List.ext_getElem hl h
theorem eqB_parts (a b : LvB) : eqB a b = (decide (a.kind = b.kind) && decide (a.nm = b.nm) && kidsB a b) := by
  by_cases h : a = b
  · subst h; rw [eqB_true rfl, kidsB_true rfl fun _ _ _ => rfl]; simp
  · rw [eqB_false h]
    by_cases h1 : a.kind = b.kind
    · by_cases h2 : a.nm = b.nm
      · have : kidsB a b = false := by refine @decide_eq_false _ (Classical.propDecidable _) fun e => ?_; exact h (Lv.ext3 h1 h2 e)
        rw [this]; simp
      · simp [h2]
    · simp [h1]

end Go.Proofs.YtmpepnckfghepaaDoor
