/- The contract of worth at a max: four calls in an order that is left open. -/
import Derived.Test.YtpdoegjddiaaoaaDoorPart
namespace Go.Proofs.YtpdoegjddiaaoaaDoor
open Go.RowKit

set_option maxHeartbeats 1000000 in
theorem worth_max (F : FuncId) (C : Array Value) (k' k2 : Int) (nm' nm2 : ByteArray) (A' A2 : Option Addr) (b cap n' cap' n2 cap2 wa wc : Nat) (w : World) (hbs : b < w.heap.size)
    (c0 : w.cell? ⟨b, 0, none⟩ = some (.int .i64 k')) (c1 : w.cell? ⟨b, 0 + 1, none⟩ = some (.string nm')) (c2 : w.cell? ⟨b, 0 + 2, none⟩ = some (.slice A' n' cap'))
    (c3 : w.cell? ⟨b, 3, none⟩ = some (.int .i64 k2)) (c4 : w.cell? ⟨b, 3 + 1, none⟩ = some (.string nm2)) (c5 : w.cell? ⟨b, 3 + 2, none⟩ = some (.slice A2 n2 cap2))
    (iha : ∀ w', Below w.heap.size w w' → Calls Tryd.prog 16 #[.agg #[.int .i64 k', .string nm', .slice A' n' cap'], .func (.func F) #[] C] w' fun e w'' => e = .returned (.int .i64 (wa : Nat)) ∧ Below w'.heap.size w' w'')
    (ihc : ∀ w', Below w.heap.size w w' → Calls Tryd.prog 16 #[.agg #[.int .i64 k2, .string nm2, .slice A2 n2 cap2], .func (.func F) #[] C] w' fun e w'' => e = .returned (.int .i64 (wc : Nat)) ∧ Below w'.heap.size w' w'') :
    Calls Tryd.prog 16 #[.agg #[.int .i64 2, .string ⟨#[]⟩, .slice (some ⟨b, 0, none⟩) 2 cap], .func (.func F) #[] C] w fun e w' => e = .returned (.int .i64 (max wa wc : Nat)) ∧ Below w.heap.size w w' := by
  have HI := hide (Box.calls (w := w) (c0 := .int .i64 2) (c1 := .string ⟨#[]⟩) (c2 := .slice (some ⟨b, 0, none⟩) 2 cap) iha)
  have HJ := hide (Box.calls (w := w) (c0 := .int .i64 2) (c1 := .string ⟨#[]⟩) (c2 := .slice (some ⟨b, 0, none⟩) 2 cap) ihc)
  have HP := hide (Box.calls (w := w) (c0 := .int .i64 2) (c1 := .string ⟨#[]⟩) (c2 := .slice (some ⟨b, 0, none⟩) 2 cap) fun w' (hb' : Below w.heap.size w w') => part_calls 2 k' ⟨#[]⟩ nm' b 2 cap 0 n' cap' A' w' (Nat.lt_of_lt_of_le hbs hb'.size) (by omega) (cell_later hb' c0) (cell_later hb' c1) (cell_later hb' c2))
  have HQ := hide (Box.calls (w := w) (c0 := .int .i64 2) (c1 := .string ⟨#[]⟩) (c2 := .slice (some ⟨b, 0, none⟩) 2 cap) fun w' (hb' : Below w.heap.size w w') => part_calls 2 k2 ⟨#[]⟩ nm2 b 2 cap 1 n2 cap2 A2 w' (Nat.lt_of_lt_of_le hbs hb'.size) (by omega) (cell_later hb' c3) (cell_later hb' c4) (cell_later hb' c5))
  clear iha ihc c0 c1 c2 c3 c4 c5
  go_enter Tryd.func16, Tryd.ntmps16
  go_wp2_with fail
  have HB := hide (Box.start w (.int .i64 2) (.string ⟨#[]⟩) (.slice (some ⟨b, 0, none⟩) 2 cap)).drew
  go_region_with (first
    | (go_at_call_of 31 (Value.int IntKind.i64 0); refine (HP.out _ ?_).mono ?_; exact HB.out; rintro e w' ⟨rfl, HB, g0, g1, g2⟩)
    | (go_at_call_of 31 (Value.int IntKind.i64 1); refine (HQ.out _ ?_).mono ?_; exact HB.out; rintro e w' ⟨rfl, HB, g0, g1, g2⟩)
    | (go_at_call_of 16 nm'; refine (HI.out _ ?_).mono ?_; exact HB.out; rintro e w' ⟨rfl, HB, g0, g1, g2⟩)
    | (go_at_call_of 16 nm2; refine (HJ.out _ ?_).mono ?_; exact HB.out; rintro e w' ⟨rfl, HB, g0, g1, g2⟩))
  all_goals go_wp2_with fail
  all_goals
    go_ret
    refine ⟨ret_int ?_, HB.out.old⟩
    first | omega | (simp; omega) | (split <;> omega)

end Go.Proofs.YtpdoegjddiaaoaaDoor
