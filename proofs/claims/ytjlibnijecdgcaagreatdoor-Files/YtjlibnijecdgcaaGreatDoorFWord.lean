/- The contract of wordOf. -/
import Derived.Test.YtjlibnijecdgcaaGreatDoorFScan

namespace Go.Proofs.YtjlibnijecdgcaaGreatDoor
open Go.RowKit

set_option maxRecDepth 100000 in
set_option maxHeartbeats 4000000 in
theorem wordOf_calls (kd : Nat) (w : World) (h1 : 1 ≤ kd) (h3 : kd ≤ 3) (hf : FWords w) : Calls Tryz.prog 20 #[.int .i64 (kd : Nat)] w fun e w' => e = .returned (.string (dword kd)) ∧ Below w.heap.size w w' := by
  obtain ⟨c0, c1, c2, c3⟩ := hf
  have hfx1 := fx1
  have hfx2 := fx2
  have hfx3 := fx3
  match kd, h1, h3 with
  | 1, _, _ =>
    go_enter Tryz.func20, Tryz.ntmps20
    go_wp2_with fail
    go_ret
    exact ⟨rfl, Below.refl _ _⟩
  | 2, _, _ =>
    go_enter Tryz.func20, Tryz.ntmps20
    go_wp2_with fail
    go_ret
    exact ⟨rfl, Below.refl _ _⟩
  | 3, _, _ =>
    go_enter Tryz.func20, Tryz.ntmps20
    go_wp2_with fail
    go_ret
    exact ⟨rfl, Below.refl _ _⟩

end Go.Proofs.YtjlibnijecdgcaaGreatDoor
