/- LevelMakes holds, as a tied card: for every script, package level's Print, Params, Subst and Worth answer as the document's do, for every two texts of a step that are levels. Its one listed variable, the table of shapes, is tied to the program's text (over the pruned copy of the project that this seat holds). -/
import Derived.Test.YtdbpkbhglghdoaaDoorProof
import Derived.Test.YtdbpkbhglghdoaaDoorTie
import Derived.Test.YtdbpkbhglghdoaaDoorCards
import Derived.SevenTiedAt
namespace Go.Proofs.YtdbpkbhglghdoaaDoor
open Go

theorem levelMakes_holds : Rows.LevelMakesCardSaid :=
  Claim7.holds_tied_plain_at .later [] [.data] true (true, "760548e0c1e10a81ba1e91aae79cf3df66211081297d6ccfc48977f06095ad1a") false
    row_holds (fun _ h => by cases h) (by kernel_rfl) (fun _ h => by cases h) levelMakes_row_tie rfl ⟨rfl, rfl⟩ (by kernel_rfl) rfl
    (fun f fn hf hfn => by
      obtain rfl : f = 3 := Option.some.inj ((show Tryd.prog.funcNamed "provekernel/provekernellaw.LevelMakes" = some 3 by kernel_rfl).symm.trans hf) |>.symm
      obtain rfl : fn = Tryd.f3 := (Option.some.inj (Tryd.func3.symm.trans hfn)).symm
      exact ⟨by kernel_rfl, fun j t ht => by
        rw [Tryd.params3] at ht
        have hm : t ∈ [22] := by simpa using Array.mem_of_getElem? ht
        have hall : ([22].all fun u => !Tryd.prog.wantsStandIn u) = true := by kernel_rfl
        exact (show Tryd.prog.wantsStandIn t = false by simpa using List.all_eq_true.1 hall t hm)⟩)
    (by kernel_rfl)
#print axioms levelMakes_holds

end Go.Proofs.YtdbpkbhglghdoaaDoor
