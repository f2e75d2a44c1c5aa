/-
  DERIVED. GIVEN WITH THE SEED: THE CARDS: each row of YtahcgpnjlmpkpaaGreatDoorRows.lean that lists a variable, with what it lists TIED to the program's text (the seventh form; the later family's looks); each row that meets fmt, with fmt's text TOLD by the authors' own Lean function (tested against real Go, not proved from fmt's source: count such statements apart). THE CARD IS WHAT COUNTS. Prove the row's statement (the work); the ties are given (YtahcgpnjlmpkpaaGreatDoorTie.lean); close each card by the builder's one call (the guide's Derived/Test/ToyasCard.lean, 'card_holds'). Laid BY PROGRAM, IN A SANDBOX (cutbox-door.mjs). By AI agents, Wed Nov 11 2026. No macro, syntax, notation, axiom, sorry.
-/
import Derived.Test.YtahcgpnjlmpkpaaGreatDoorRows
import GoSem.ClaimSeven
namespace Go.Proofs.YtahcgpnjlmpkpaaGreatDoor
namespace Rows

/-- THE TIED CARD OF 'provekernellaw.TermParses'. -/
def termParsesCard : Claim7 := { stood := { row := termParsesRow, standIns := [], harness := (true, "1f9749c57d573946b5db13493f94160ea32cdfcca1604704b5c8761f8bfab20e"), looks := true }, kinds := [], alts := [], laidByText := true, laidKinds := [.data, .data, .data, .handle, .data, .sentinel, .sentinel, .data, .data, .data], laidTests := true, laidLooks := .later }
def TermParsesCardSaid : Prop := Claim7.holds Tryz.pinned (.plain (OpenSpec.ofChange termParsesSpec)) termParsesCard

/-- THE SECOND FORM's CARD OF 'provekernellaw.TermParses'. -/
def termParsesUptoCard : Claim7 := { stood := { row := termParsesUptoRow, standIns := [], harness := (true, "1f9749c57d573946b5db13493f94160ea32cdfcca1604704b5c8761f8bfab20e"), looks := true }, kinds := [], alts := [], laidByText := true, laidKinds := [.data, .data, .data, .handle, .data, .sentinel, .sentinel, .data, .data, .data], laidTests := true, laidLooks := .later }
def TermParsesUptoCardSaid : Prop := Claim7.holds Tryz.pinned (.plain (OpenSpec.upto termParsesSpec)) termParsesUptoCard
end Rows
end Go.Proofs.YtahcgpnjlmpkpaaGreatDoor
