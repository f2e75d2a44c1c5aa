/- A region that draws its order and calls functions that make memory but leave the old alone: one walk in the order of the text serves every order. -/
import Derived.Test.YtpdoegjddiaaoaaDoorTools
namespace Go.Proofs.YtpdoegjddiaaoaaDoor
open Go.RowKit

/-- A world in which the blocks below n are as they were. -/
structure Later (n : Nat) (W0 : World) where
  W : World
  h : Below n W0 W

theorem Later.some (n : Nat) (W0 : World) : Nonempty (Later n W0) := ⟨⟨W0, Below.refl _ _⟩⟩

theorem wp_region_later {P : Program} {id : Nat} {Q : Exit → Act → World → Prop} {a : Act} {w : World} {l : List Oper} (hm : P.follows .mixedOrders = true) (hB : Region.lexB .any l.toArray = true) {n : Nat} {W0 : World} (hw : Below n W0 w)
    (h : wpQuiet P l.toArray (fun w' => ∃ x : Later n W0, w' = x.W) (fun a' => ∀ w', (∃ x : Later n W0, w' = x.W) → Q .normal a' w') l a) : (Code.region id l.toArray true).wp P Q a w :=
  wp_region_quiet (C := fun w' => ∃ x : Later n W0, w' = x.W) hm hB ⟨⟨w.drew, hw.drew⟩, rfl⟩ (by simpa using h)

/-- A contract, as such a walk wants it. -/
theorem Later.calls {n : Nat} {W0 : World} {f : FuncId} {args : Array Value} {r : Value} (h : ∀ W, Below n W0 W → Calls Tryd.prog f args W fun e w' => e = .returned r ∧ Below W.heap.size W w') (hn : n ≤ W0.heap.size) (x : Later n W0) :
    Calls Tryd.prog f args x.W fun e w' => e = .returned r ∧ ∃ y : Later n W0, w' = y.W :=
  (h x.W x.h).mono fun _ w' ⟨he, hb⟩ => ⟨he, ⟨w', x.h.trans (hb.mono (Nat.le_trans hn x.h.size))⟩, rfl⟩

end Go.Proofs.YtpdoegjddiaaoaaDoor
