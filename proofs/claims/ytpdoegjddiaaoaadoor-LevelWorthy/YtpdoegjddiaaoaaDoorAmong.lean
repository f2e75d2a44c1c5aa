/- The contract of among: whether a name stands in a list. -/
import Derived.Test.YtpdoegjddiaaoaaDoorTools
namespace Go.Proofs.YtpdoegjddiaaoaaDoor
open Go.RowKit

set_option maxHeartbeats 400000 in
theorem among_calls (q : ByteArray) (ns : List ByteArray) (v : Value) (B : Nat) (w : World) (hs : InStrs w B v ns) :
    Calls Tryd.prog 15 #[.string q, v] w fun e w' => e = .returned (.bool (hasB q ns)) ∧ w' = w := by
  obtain ⟨hm, A, cap, rfl, hc⟩ := hs
  unfold maxLen at hm
  go_enter Tryd.func15, Tryd.ntmps15
  go_wp2
  go_loop [5] (fun i => ∃ k : Nat, k ≤ ns.length ∧ i = .int .i64 k ∧ ∀ j (h : j < ns.length), j < k → ns[j] ≠ q) (fun i => ns.length - (intOf i).toNat)
  case atStart => exact ⟨0, Nat.zero_le _, rfl, fun j _ h => absurd h (by omega)⟩
  case round =>
    obtain ⟨k, hk, rfl, hno⟩ := hrel
    have HN : Hid (∀ j (h : j < ns.length), j < k → ns[j] ≠ q) := hno
    clear hno
    by_cases hlt : k < ns.length
    · obtain ⟨b, o, rfl, hb, hcell⟩ := hc k hlt
      clear hc
      by_cases he : ns[k] = q
      · have H := hasB_true hlt he
        have hs := sameStr_pos he
        clear he
        go_wp2
        go_ret
        exact ⟨rfl, rfl⟩
      · have hs := sameStr_neg he
        have HE : Hid (ns[k] ≠ q) := he
        clear he
        go_wp2
        go_round
        case rel => exact ⟨k + 1, by omega, by go_num, fun j h hj => if e : j = k then by subst e; exact HE.out else HN.out j h (by omega)⟩
        case measure => simp [intOf]; omega
    · clear hc
      go_wp2
      go_ret
      exact ⟨ret_bool (hasB_false fun j h => HN.out j h (by omega)).symm, rfl⟩


end Go.Proofs.YtpdoegjddiaaoaaDoor
