/- What the scanner throws; the contract of misplaced. -/
import Derived.Test.YtnbpmmgekoclpaaGreatDoorScan
namespace Go.Proofs.YtnbpmmgekoclpaaGreatDoor
open Go.RowKit

/-- A fault was thrown: that code, that place; of what was there the scanner alone has turned. -/
def Threw (w : World) (sc code a : Nat) (e : Ending) (w' : World) : Prop :=
  ∃ fb : Nat, e = .panicked [{ v := .iface 52 (.pointer (some ⟨fb, 0, none⟩)), recovered := false }] ∧ w.heap.size ≤ fb ∧ w'.heap[fb]? = some (.cells #[.int .i64 (code : Nat), .int .i64 (a : Nat)] 36 (0, 0)) ∧ Touched w sc w'

theorem Threw.from {w w0 w' : World} {sc code a : Nat} {e : Ending} (h : Threw w sc code a e w') (ht : Touched w0 sc w) : Threw w0 sc code a e w' := by
  obtain ⟨fb, he, h1, h2, h3⟩ := h
  exact ⟨fb, he, Nat.le_trans ht.size h1, h2, ht.trans h3⟩

set_option maxHeartbeats 1000000 in
theorem misplaced_calls (kd : Int) (k : Nat) (t : ByteArray) (sc : Nat) (w : World) :
    Calls Tryz.prog 32 #[.agg #[.int .i64 kd, .int .i64 (k : Nat), .string t]] w fun e w' => Threw w sc 1 k e w' := by
  go_enter Tryz.func32, Tryz.ntmps32
  go_wp2_with fail
  refine ⟨rfl, w.heap.size + 1, rfl, by omega, ?_, ?_⟩
  · have := heap_alloc_new (w.alloc (.cells #[.int .i64 kd, .int .i64 (k : Nat), .string t] 58)) (.cells #[.int .i64 (1 : Nat), .int .i64 (k : Nat)] 36)
    simpa using this
  · exact (Touched.alloc _ _ _).trans (Touched.alloc _ _ _)

end Go.Proofs.YtnbpmmgekoclpaaGreatDoor
