/- LevelWorthy holds, as a tied card: for every script, the closed facts of levels hold, what package level says of the order of two levels holds of their worths, and what it prints reads back. Its listed variables are tied to the program's text (over the pruned copy of the project that this seat holds). -/
import Derived.Test.YtfdfeoojapcnmaaDoorProof
import Derived.Test.YtfdfeoojapcnmaaDoorTie
import Derived.Test.YtfdfeoojapcnmaaDoorCards
import Derived.SevenTiedAt
namespace Go.Proofs.YtfdfeoojapcnmaaDoor
open Go

theorem levelWorthy_holds : Rows.LevelWorthyCardSaid :=
  Claim7.holds_tied_plain_at .later [] [.data, .data, .data, .sentinel, .sentinel, .data, .data] true (true, "87c58219565a7cc297f11c2e6d9e634333c4d8cdf78dc008642a4f1e66fbe323") true
    row_holds (fun _ h => by cases h) (by kernel_rfl) (fun _ h => by cases h) levelWorthy_row_tie rfl ⟨rfl, rfl⟩ (by kernel_rfl) rfl
    (fun f fn hf hfn => by
      obtain rfl : f = 3 := Option.some.inj ((show Tryd.prog.funcNamed "provekernel/provekernellaw.LevelWorthy" = some 3 by kernel_rfl).symm.trans hf) |>.symm
      obtain rfl : fn = Tryd.f3 := (Option.some.inj (Tryd.func3.symm.trans hfn)).symm
      exact ⟨by kernel_rfl, fun j t ht => by
        rw [Tryd.params3] at ht
        have hm : t ∈ [22] := by simpa using Array.mem_of_getElem? ht
        have hall : ([22].all fun u => !Tryd.prog.wantsStandIn u) = true := by kernel_rfl
        exact (show Tryd.prog.wantsStandIn t = false by simpa using List.all_eq_true.1 hall t hm)⟩)
    (by kernel_rfl)
#print axioms levelWorthy_holds

end Go.Proofs.YtfdfeoojapcnmaaDoor
