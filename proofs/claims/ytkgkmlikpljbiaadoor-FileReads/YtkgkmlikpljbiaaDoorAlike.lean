/- Two levels are the same as they are written: plain Lean. -/
import Derived.Test.YtkgkmlikpljbiaaDoorTok
import Derived.Test.YtkgkmlikpljbiaaDoorTm
import Derived.Deep.CutBlock
import Derived.Deep.DeepCutAuto

namespace Go.Proofs.YtkgkmlikpljbiaaDoor
open Go.RowKit

noncomputable def eqB (a b : LvB) : Bool := @decide (a = b) (Classical.propDecidable _)
theorem eqB_true {a b : LvB} (h : a = b) : eqB a b = true := @decide_eq_true _ (Classical.propDecidable _) h
theorem eqB_false {a b : LvB} (h : a ≠ b) : eqB a b = false := @decide_eq_false _ (Classical.propDecidable _) h

/-- A level is its kind, its name and its parts. -/
theorem Lv.ext3 {a b : LvB} (h1 : a.kind = b.kind) (h2 : a.nm = b.nm) (h3 : a.kids = b.kids) : a = b := by
  cases a <;> cases b <;> simp [kind, nm, kids] at h1 h2 h3 ⊢ <;> first | exact h2 | exact h3

noncomputable def kidsB (a b : LvB) : Bool := @decide (a.kids = b.kids) (Classical.propDecidable _)
theorem kidsB_len {a b : LvB} (h : a.kids.length ≠ b.kids.length) : kidsB a b = false := by
  refine @decide_eq_false _ (Classical.propDecidable _) fun e => ?_; exact h (by rw [e])
theorem kidsB_false {a b : LvB} {k : Nat} (h1 : k < a.kids.length) (h2 : k < b.kids.length) (h : a.kids[k] ≠ b.kids[k]) : kidsB a b = false := by
  refine @decide_eq_false _ (Classical.propDecidable _) fun e => ?_; exact h (by simp [e])
theorem kidsB_true {a b : LvB} (hl : a.kids.length = b.kids.length) (h : ∀ j (h1 : j < a.kids.length) (h2 : j < b.kids.length), a.kids[j] = b.kids[j]) : kidsB a b = true := by
  exact @decide_eq_true _ (Classical.propDecidable _) <| List.ext_getElem hl h
theorem eqB_parts (a b : LvB) : eqB a b = (decide (a.kind = b.kind) && decide (a.nm = b.nm) && kidsB a b) := by
  by_cases h : a = b
  · subst h; rw [eqB_true rfl, kidsB_true rfl fun _ _ _ => rfl]; simp
  · rw [eqB_false h]
    by_cases h1 : a.kind = b.kind
    · by_cases h2 : a.nm = b.nm
      · have : kidsB a b = false := by refine @decide_eq_false _ (Classical.propDecidable _) fun e => ?_; exact h (Lv.ext3 h1 h2 e)
        rw [this]; simp
      · simp [h2]
    · simp [h1]

end Go.Proofs.YtkgkmlikpljbiaaDoor

/- A region that draws its order and calls functions that make memory but leave the old alone: one walk in the order of the text serves every order. -/
namespace Go.Proofs.YtkgkmlikpljbiaaDoor
open Go.RowKit

/-- A world in which the blocks below n are as they were. -/
structure Later (n : Nat) (W0 : World) where
  W : World
  h : Below n W0 W

theorem Later.some (n : Nat) (W0 : World) : Nonempty (Later n W0) := ⟨⟨W0, Below.refl _ _⟩⟩

theorem wp_region_later {P : Program} {id : Nat} {Q : Exit → Act → World → Prop} {a : Act} {w : World} {l : List Oper} (hm : P.follows .mixedOrders = true) (hB : Region.lexB .any l.toArray = true) {n : Nat} {W0 : World} (hw : Below n W0 w)
    (h : wpQuiet P l.toArray (fun w' => ∃ x : Later n W0, w' = x.W) (fun a' => ∀ w', (∃ x : Later n W0, w' = x.W) → Q .normal a' w') l a) : (Code.region id l.toArray true).wp P Q a w :=
  wp_region_quiet (C := fun w' => ∃ x : Later n W0, w' = x.W) hm hB ⟨⟨w.drew, hw.drew⟩, rfl⟩ (by simpa using h)

/-- A contract, as such a walk wants it. -/
theorem Later.calls {n : Nat} {W0 : World} {f : FuncId} {args : Array Value} {r : Value} (h : ∀ W, Below n W0 W → Calls Tryd.prog f args W fun e w' => e = .returned r ∧ Below W.heap.size W w') (hn : n ≤ W0.heap.size) (x : Later n W0) :
    Calls Tryd.prog f args x.W fun e w' => e = .returned r ∧ ∃ y : Later n W0, w' = y.W :=
  (h x.W x.h).mono fun _ w' ⟨he, hb⟩ => ⟨he, ⟨w', x.h.trans (hb.mono (Nat.le_trans hn x.h.size))⟩, rfl⟩

end Go.Proofs.YtkgkmlikpljbiaaDoor

/- The contract of the document's SameLevel: two levels are the same as they are written. -/
namespace Go.Proofs.YtkgkmlikpljbiaaDoor
open Go.RowKit

/-- Behind two boxes of three cells nothing old has turned. -/
def Boxes (w : World) (c0 c1 c2 d0 d1 d2 : Value) (W : World) : Prop := Below (w.heap.size + 2) ((w.alloc (.cells #[c0, c1, c2] 99)).alloc (.cells #[d0, d1, d2] 99)) W
section
variable {w W : World} {c0 c1 c2 d0 d1 d2 : Value}
theorem Boxes.old (h : Boxes w c0 c1 c2 d0 d1 d2 W) : Below w.heap.size w W := (((Below.refl _ _).alloc (Nat.le_refl _) _).alloc (by simp) _).trans (Below.mono h (by omega))
theorem Boxes.size (h : Boxes w c0 c1 c2 d0 d1 d2 W) : w.heap.size + 2 ≤ W.heap.size := by have := Below.size h; simpa using this
theorem Boxes.then {W' : World} (h : Boxes w c0 c1 c2 d0 d1 d2 W) (h' : Below W.heap.size W W') : Boxes w c0 c1 c2 d0 d1 d2 W' := Below.trans h (h'.mono h.size)
theorem Boxes.cells (h : Boxes w c0 c1 c2 d0 d1 d2 W) : W.cell? ⟨w.heap.size, 0, none⟩ = some c0 ∧ W.cell? ⟨w.heap.size, 1, none⟩ = some c1 ∧ W.cell? ⟨w.heap.size, 2, none⟩ = some c2 ∧ W.cell? ⟨w.heap.size + 1, 0, none⟩ = some d0 ∧ W.cell? ⟨w.heap.size + 1, 1, none⟩ = some d1 ∧ W.cell? ⟨w.heap.size + 1, 2, none⟩ = some d2 := by
  refine ⟨?_, ?_, ?_, ?_, ?_, ?_⟩ <;> (rw [Below.cell h (by simp)]; simp [World.cell?_alloc_at])
end

end Go.Proofs.YtkgkmlikpljbiaaDoor

/- The contract of the document's SameTerm, at one term that lies there twice. -/
namespace Go.Proofs.YtkgkmlikpljbiaaDoor
open Go.RowKit

/-- A term's numbers are small. -/
def SmallT : Nat → Tm → Prop
  | 0, _ => False
  | d + 1, t => t.kd ≤ 6 ∧ t.n ≤ 1000000000 ∧ t.ls.length ≤ 200000 ∧ t.ts.length ≤ 3 ∧ ∀ i (hi : i < t.ts.length), SmallT d t.ts[i]

abbrev five (k n : Int) (nm : ByteArray) (v v' : Value) : Obj := .cells #[.int .i64 k, .int .i64 n, .string nm, v, v'] 42

/-- Behind two boxes nothing old has turned. -/
def Boxes5 (w : World) (o o' : Obj) (W : World) : Prop := Below (w.heap.size + 2) ((w.alloc o).alloc o') W
section
variable {w W : World} {o o' : Obj}
theorem Boxes5.old (h : Boxes5 w o o' W) : Below w.heap.size w W := (((Below.refl _ _).alloc (Nat.le_refl _) _).alloc (by simp) _).trans (Below.mono h (by omega))
theorem Boxes5.size (h : Boxes5 w o o' W) : w.heap.size + 2 ≤ W.heap.size := by have := Below.size h; simpa using this
theorem Boxes5.then {W' : World} (h : Boxes5 w o o' W) (h' : Below W.heap.size W W') : Boxes5 w o o' W' := Below.trans h (h'.mono h.size)
end
theorem Boxes5.cells {w W : World} {a0 a1 a2 a3 a4 b0 b1 b2 b3 b4 : Value} (h : Boxes5 w (.cells #[a0, a1, a2, a3, a4] 42) (.cells #[b0, b1, b2, b3, b4] 42) W) : W.cell? ⟨w.heap.size, 3, none⟩ = some a3 ∧ W.cell? ⟨w.heap.size, 4, none⟩ = some a4 ∧ W.cell? ⟨w.heap.size + 1, 3, none⟩ = some b3 ∧ W.cell? ⟨w.heap.size + 1, 4, none⟩ = some b4 := by
  refine ⟨?_, ?_, ?_, ?_⟩ <;> (rw [Below.cell h (by simp)]; simp [World.cell?_alloc_at])

end Go.Proofs.YtkgkmlikpljbiaaDoor
