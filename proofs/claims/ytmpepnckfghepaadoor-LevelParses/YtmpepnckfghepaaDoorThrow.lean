/- What the scanner throws; the contract of misplaced. -/
import Derived.Test.YtmpepnckfghepaaDoorScan
namespace Go.Proofs.YtmpepnckfghepaaDoor
open Go.RowKit

/-- A fault was thrown: that code, that place; of what was there the scanner alone has turned. -/
def Threw (w : World) (sc code a : Nat) (e : Ending) (w' : World) : Prop :=
  ∃ fb : Nat, e = .panicked [{ v := .iface 62 (.pointer (some ⟨fb, 0, none⟩)), recovered := false }] ∧ w.heap.size ≤ fb ∧ w'.heap[fb]? = some (.cells #[.int .i64 (code : Nat), .int .i64 (a : Nat)] 35 (0, 0)) ∧ Touched w sc w'

theorem Threw.from {w w0 w' : World} {sc code a : Nat} {e : Ending} (h : Threw w sc code a e w') (ht : Touched w0 sc w) : Threw w0 sc code a e w' := by
  obtain ⟨fb, he, h1, h2, h3⟩ := h
  exact ⟨fb, he, Nat.le_trans ht.size h1, h2, ht.trans h3⟩

set_option maxHeartbeats 1000000 in
theorem throwAt_calls (code a sc : Nat) (w : World) : Calls Tryd.prog 27 #[.int .i64 (code : Nat), .int .i64 (a : Nat)] w fun e w' => Threw w sc code a e w' := by
  go_enter Tryd.func27, Tryd.ntmps27
  go_wp2_with fail
  exact ⟨rfl, w.heap.size, rfl, Nat.le_refl _, heap_alloc_new _ _, Touched.alloc _ _ _⟩

set_option maxHeartbeats 1000000 in
theorem throw_calls (code sc : Nat) (w : World) : Calls Tryd.prog 16 #[.int .i64 (code : Nat)] w fun e w' => Threw w sc code 0 e w' := by
  have K := hide (throwAt_calls code 0 sc w)
  go_enter Tryd.func16, Tryd.ntmps16
  go_wp2_with (go_at_call 27; refine K.out.mono ?_)
  intro e w1 h1
  obtain ⟨fb, rfl, h2⟩ := h1
  have H2 := hide h2
  clear h2
  go_wp2_with fail
  exact ⟨rfl, fb, rfl, H2.out⟩

set_option maxHeartbeats 1000000 in
theorem misplaced_calls (kd : Int) (k : Nat) (t : ByteArray) (sc : Nat) (w : World) :
    Calls Tryd.prog 19 #[.agg #[.int .i64 kd, .int .i64 (k : Nat), .string t]] w fun e w' => Threw w sc 1 k e w' := by
  have K := hide (throwAt_calls 1 k sc (w.alloc (.cells #[.int .i64 kd, .int .i64 (k : Nat), .string t] 56)))
  go_enter Tryd.func19, Tryd.ntmps19
  go_wp2_with (go_at_call 27; refine K.out.mono ?_)
  intro e w1 h1
  have h2 := h1.from (Touched.alloc w sc (.cells #[.int .i64 kd, .int .i64 (k : Nat), .string t] 56))
  obtain ⟨fb, rfl, h3⟩ := h2
  have H2 := hide h3
  clear h1 h3
  go_wp2_with fail
  exact ⟨rfl, fb, rfl, H2.out⟩

end Go.Proofs.YtmpepnckfghepaaDoor
