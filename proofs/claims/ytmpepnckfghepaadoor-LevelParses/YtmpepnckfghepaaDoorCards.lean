/-
  DERIVED. GIVEN WITH THE SEED: THE CARDS: each row of YtmpepnckfghepaaDoorRows.lean that lists a variable, with what it lists TIED to the program's text (the seventh form; the later family's looks); each row that meets fmt, with fmt's text TOLD by the authors' own Lean function (tested against real Go, not proved from fmt's source: count such statements apart). THE CARD IS WHAT COUNTS. Prove the row's statement (the work); the ties are given (YtmpepnckfghepaaDoorTie.lean); close each card by the builder's one call (the guide's Derived/Test/ToyasCard.lean, 'card_holds'). Laid BY PROGRAM, IN A SANDBOX (cutbox-door.mjs). By AI agents, Wed Nov 11 2026. No macro, syntax, notation, axiom, sorry.
-/
import Derived.Test.YtmpepnckfghepaaDoorRows
import GoSem.ClaimSeven
namespace Go.Proofs.YtmpepnckfghepaaDoor
namespace Rows

/-- THE TIED CARD OF 'provekernellaw.LevelParses'. -/
def levelParsesCard : Claim7 := { stood := { row := levelParsesRow, standIns := [], harness := (true, "69feb3887a26db5daacbafac8ed29ab49c3a1bb5986db516b49ce9bb9af78835"), looks := true }, kinds := [], alts := [], laidByText := true, laidKinds := [.data, .data, .data, .handle, .sentinel, .sentinel, .data, .data], laidTests := true, laidLooks := .later }
def LevelParsesCardSaid : Prop := Claim7.holds Tryd.pinned (.plain (OpenSpec.ofChange levelParsesSpec)) levelParsesCard

/-- THE SECOND FORM's CARD OF 'provekernellaw.LevelParses'. -/
def levelParsesUptoCard : Claim7 := { stood := { row := levelParsesUptoRow, standIns := [], harness := (true, "69feb3887a26db5daacbafac8ed29ab49c3a1bb5986db516b49ce9bb9af78835"), looks := true }, kinds := [], alts := [], laidByText := true, laidKinds := [.data, .data, .data, .handle, .sentinel, .sentinel, .data, .data], laidTests := true, laidLooks := .later }
def LevelParsesUptoCardSaid : Prop := Claim7.holds Tryd.pinned (.plain (OpenSpec.upto levelParsesSpec)) levelParsesUptoCard
end Rows
end Go.Proofs.YtmpepnckfghepaaDoor
