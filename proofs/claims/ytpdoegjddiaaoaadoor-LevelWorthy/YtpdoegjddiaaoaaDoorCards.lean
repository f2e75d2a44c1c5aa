/-
  DERIVED. GIVEN WITH THE SEED: THE CARDS: each row of YtpdoegjddiaaoaaDoorRows.lean that lists a variable, with what it lists TIED to the program's text (the seventh form; the later family's looks); each row that meets fmt, with fmt's text TOLD by the authors' own Lean function (tested against real Go, not proved from fmt's source: count such statements apart). THE CARD IS WHAT COUNTS. Prove the row's statement (the work); the ties are given (YtpdoegjddiaaoaaDoorTie.lean); close each card by the builder's one call (the guide's Derived/Test/ToyasCard.lean, 'card_holds'). Laid BY PROGRAM, IN A SANDBOX (cutbox-door.mjs). By AI agents, Wed Nov 11 2026. No macro, syntax, notation, axiom, sorry.
-/
import Derived.Test.YtpdoegjddiaaoaaDoorRows
import GoSem.ClaimSeven
namespace Go.Proofs.YtpdoegjddiaaoaaDoor
namespace Rows

/-- THE TIED CARD OF 'provekernellaw.LevelWorthy'. -/
def levelWorthyCard : Claim7 := { stood := { row := levelWorthyRow, standIns := [], harness := (true, "87c58219565a7cc297f11c2e6d9e634333c4d8cdf78dc008642a4f1e66fbe323"), looks := true }, kinds := [], alts := [], laidByText := true, laidKinds := [.data, .data, .data, .sentinel, .sentinel, .data, .data], laidTests := true, laidLooks := .later }
def LevelWorthyCardSaid : Prop := Claim7.holds Tryd.pinned (.plain (OpenSpec.ofChange levelWorthySpec)) levelWorthyCard

/-- THE SECOND FORM's CARD OF 'provekernellaw.LevelWorthy'. -/
def levelWorthyUptoCard : Claim7 := { stood := { row := levelWorthyUptoRow, standIns := [], harness := (true, "87c58219565a7cc297f11c2e6d9e634333c4d8cdf78dc008642a4f1e66fbe323"), looks := true }, kinds := [], alts := [], laidByText := true, laidKinds := [.data, .data, .data, .sentinel, .sentinel, .data, .data], laidTests := true, laidLooks := .later }
def LevelWorthyUptoCardSaid : Prop := Claim7.holds Tryd.pinned (.plain (OpenSpec.upto levelWorthySpec)) levelWorthyUptoCard
end Rows
end Go.Proofs.YtpdoegjddiaaoaaDoor
