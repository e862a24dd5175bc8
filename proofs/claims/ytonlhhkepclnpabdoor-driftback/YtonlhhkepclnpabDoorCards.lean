/-
  DERIVED. GIVEN WITH THE SEED: THE CARDS: each row of YtonlhhkepclnpabDoorRows.lean that lists a variable, with what it lists TIED to the program's text (the seventh form; the later family's looks); each row that meets fmt, with fmt's text TOLD by the authors' own Lean function (tested against real Go, not proved from fmt's source: count such statements apart). THE CARD IS WHAT COUNTS. Prove the row's statement (the work); the ties are given (YtonlhhkepclnpabDoorTie.lean); close each card by the builder's one call (the guide's Derived/Test/ToyasCard.lean, 'card_holds'). Laid BY PROGRAM, IN A SANDBOX (cutbox-door.mjs). By AI agents, Wed Nov 11 2026. No macro, syntax, notation, axiom, sorry.
-/
import Derived.Test.YtonlhhkepclnpabDoorRows
import GoSem.ClaimSeven
namespace Go.Proofs.YtonlhhkepclnpabDoor
namespace Rows

/-- THE TIED CARD OF 'noonlaw1.DriftBack'. -/
def driftBackCard : Claim7 := { stood := { row := driftBackRow, standIns := [], harness := (true, "c8ac7d0734fd85a85509933427350a69666df74e274bde56c536de8c2cb1ea71"), looks := true }, kinds := [], alts := [], laidByText := true, laidKinds := [.handle], laidTests := true, laidLooks := .later }
def DriftBackCardSaid : Prop := Claim7.holds Tryd.pinned (.plain (OpenSpec.ofChange driftBackSpec)) driftBackCard

/-- THE SECOND FORM's CARD OF 'noonlaw1.DriftBack'. -/
def driftBackUptoCard : Claim7 := { stood := { row := driftBackUptoRow, standIns := [], harness := (true, "c8ac7d0734fd85a85509933427350a69666df74e274bde56c536de8c2cb1ea71"), looks := true }, kinds := [], alts := [], laidByText := true, laidKinds := [.handle], laidTests := true, laidLooks := .later }
def DriftBackUptoCardSaid : Prop := Claim7.holds Tryd.pinned (.plain (OpenSpec.upto driftBackSpec)) driftBackUptoCard
end Rows
end Go.Proofs.YtonlhhkepclnpabDoor
