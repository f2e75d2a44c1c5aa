/- The contract of nameByte: whether a byte may stand in a name. -/
import Derived.Test.YtpdoegjddiaaoaaDoorTools
namespace Go.Proofs.YtpdoegjddiaaoaaDoor
open Go.RowKit

def letterB (c : Nat) : Bool := (97 ≤ c && c ≤ 122) || (65 ≤ c && c ≤ 90) || c == 95
def nameB (c : Nat) (first : Bool) : Bool := letterB c || (!first && ((48 ≤ c && c ≤ 57) || c == 46 || c == 39))

set_option maxHeartbeats 400000 in
theorem nameByte_calls (c : Nat) (first : Bool) (w : World) (hc : c < 256) :
    Calls Tryd.prog 46 #[.int .u8 c, .bool first] w fun e w' => e = .returned (.bool (nameB c first)) ∧ w' = w := by
  go_enter Tryd.func46, Tryd.ntmps46
  go_wp2
  all_goals
    go_ret
    refine ⟨ret_bool ?_, rfl⟩
    rw [Bool.eq_iff_iff]
    simp [nameB, letterB]
    omega


end Go.Proofs.YtpdoegjddiaaoaaDoor
