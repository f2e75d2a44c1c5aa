/-
  DERIVED. GIVEN WITH THE SEED: THE CARDS: each row of YtdbpkbhglghdoaaDoorRows.lean that lists a variable, with what it lists TIED to the program's text (the seventh form; the later family's looks); each row that meets fmt, with fmt's text TOLD by the authors' own Lean function (tested against real Go, not proved from fmt's source: count such statements apart). THE CARD IS WHAT COUNTS. Prove the row's statement (the work); the ties are given (YtdbpkbhglghdoaaDoorTie.lean); close each card by the builder's one call (the guide's Derived/Test/ToyasCard.lean, 'card_holds'). Laid BY PROGRAM, IN A SANDBOX (cutbox-door.mjs). By AI agents, Wed Nov 11 2026. No macro, syntax, notation, axiom, sorry.
-/
import Derived.Test.YtdbpkbhglghdoaaDoorRows
import GoSem.ClaimSeven
namespace Go.Proofs.YtdbpkbhglghdoaaDoor
namespace Rows

/-- THE TIED CARD OF 'provekernellaw.LevelMakes'. -/
def levelMakesCard : Claim7 := { stood := { row := levelMakesRow, standIns := [], harness := (true, "760548e0c1e10a81ba1e91aae79cf3df66211081297d6ccfc48977f06095ad1a"), looks := false }, kinds := [], alts := [], laidByText := true, laidKinds := [.data], laidTests := true, laidLooks := .later }
def LevelMakesCardSaid : Prop := Claim7.holds Tryd.pinned (.plain (OpenSpec.ofChange levelMakesSpec)) levelMakesCard

/-- THE SECOND FORM's CARD OF 'provekernellaw.LevelMakes'. -/
def levelMakesUptoCard : Claim7 := { stood := { row := levelMakesUptoRow, standIns := [], harness := (true, "760548e0c1e10a81ba1e91aae79cf3df66211081297d6ccfc48977f06095ad1a"), looks := false }, kinds := [], alts := [], laidByText := true, laidKinds := [.data], laidTests := true, laidLooks := .later }
def LevelMakesUptoCardSaid : Prop := Claim7.holds Tryd.pinned (.plain (OpenSpec.upto levelMakesSpec)) levelMakesUptoCard
end Rows
end Go.Proofs.YtdbpkbhglghdoaaDoor
