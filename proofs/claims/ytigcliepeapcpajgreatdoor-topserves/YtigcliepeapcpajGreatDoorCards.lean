/-
  DERIVED. GIVEN WITH THE SEED: THE CARDS: each row of YtigcliepeapcpajGreatDoorRows.lean that lists a variable, with what it lists TIED to the program's text (the seventh form; the later family's looks); each row that meets fmt, with fmt's text TOLD by the authors' own Lean function (tested against real Go, not proved from fmt's source: count such statements apart). THE CARD IS WHAT COUNTS. Prove the row's statement (the work); the ties are given (YtigcliepeapcpajGreatDoorTie.lean); close each card by the builder's one call (the guide's Derived/Test/ToyasCard.lean, 'card_holds'). Laid BY PROGRAM, IN A SANDBOX (cutbox-door.mjs). By AI agents, Wed Nov 11 2026. No macro, syntax, notation, axiom, sorry.
-/
import Derived.Test.YtigcliepeapcpajGreatDoorRows
import GoSem.ClaimSeven
namespace Go.Proofs.YtigcliepeapcpajGreatDoor
namespace Rows

/-- THE TIED CARD OF 'noontop.TopServes'. -/
def topServesCard : Claim7 := { stood := { row := topServesRow, standIns := [], harness := (true, "3b68161b197b16c1b096ab938967e1237fcd93c9b1a15136a4fba78a25217e0e"), looks := false }, kinds := [], alts := [], laidByText := true, laidKinds := [.data, .data, .data, .data, .data], laidTests := true, laidLooks := .later }
def TopServesCardSaid : Prop := Claim7.holds Tryz.pinned (.plain (OpenSpec.ofChange topServesSpec)) topServesCard

/-- THE SECOND FORM's CARD OF 'noontop.TopServes'. -/
def topServesUptoCard : Claim7 := { stood := { row := topServesUptoRow, standIns := [], harness := (true, "3b68161b197b16c1b096ab938967e1237fcd93c9b1a15136a4fba78a25217e0e"), looks := false }, kinds := [], alts := [], laidByText := true, laidKinds := [.data, .data, .data, .data, .data], laidTests := true, laidLooks := .later }
def TopServesUptoCardSaid : Prop := Claim7.holds Tryz.pinned (.plain (OpenSpec.upto topServesSpec)) topServesUptoCard
end Rows
end Go.Proofs.YtigcliepeapcpajGreatDoor
