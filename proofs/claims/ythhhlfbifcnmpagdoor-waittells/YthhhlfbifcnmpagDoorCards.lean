/-
  DERIVED. GIVEN WITH THE SEED: THE CARDS: each row of YthhhlfbifcnmpagDoorRows.lean that lists a variable, with what it lists TIED to the program's text (the seventh form; the later family's looks); each row that meets fmt, with fmt's text TOLD by the authors' own Lean function (tested against real Go, not proved from fmt's source: count such statements apart). THE CARD IS WHAT COUNTS. Prove the row's statement (the work); the ties are given (YthhhlfbifcnmpagDoorTie.lean); close each card by the builder's one call (the guide's Derived/Test/ToyasCard.lean, 'card_holds'). Laid BY PROGRAM, IN A SANDBOX (cutbox-door.mjs). By AI agents, Wed Nov 11 2026. No macro, syntax, notation, axiom, sorry.
-/
import Derived.Test.YthhhlfbifcnmpagDoorRows
import GoSem.ClaimSeven
namespace Go.Proofs.YthhhlfbifcnmpagDoor
namespace Rows

/-- THE TIED CARD OF 'noonlaw2.WaitTells'. -/
def waitTellsCard : Claim7 := { stood := { row := waitTellsRow, standIns := [], harness := (true, "e24542fa85c96f2c72743f4be20895acf8edd6d234c14987faff289482c97ff5"), looks := true }, kinds := [], alts := [], laidByText := true, laidKinds := [.handle], laidTests := true, laidLooks := .later }
def WaitTellsCardSaid : Prop := Claim7.holds Tryd.pinned (.plain (OpenSpec.ofChange waitTellsSpec)) waitTellsCard

/-- THE TIED CARD OF 'noonlaw2.WaitOver'. -/
def waitOverCard : Claim7 := { stood := { row := waitOverRow, standIns := [], harness := (true, "e24542fa85c96f2c72743f4be20895acf8edd6d234c14987faff289482c97ff5"), looks := true }, kinds := [], alts := [], laidByText := true, laidKinds := [.handle], laidTests := true, laidLooks := .later }
def WaitOverCardSaid : Prop := Claim7.holds Tryd.pinned (.plain (OpenSpec.ofChange waitOverSpec)) waitOverCard

/-- THE SECOND FORM's CARD OF 'noonlaw2.WaitTells'. -/
def waitTellsUptoCard : Claim7 := { stood := { row := waitTellsUptoRow, standIns := [], harness := (true, "e24542fa85c96f2c72743f4be20895acf8edd6d234c14987faff289482c97ff5"), looks := true }, kinds := [], alts := [], laidByText := true, laidKinds := [.handle], laidTests := true, laidLooks := .later }
def WaitTellsUptoCardSaid : Prop := Claim7.holds Tryd.pinned (.plain (OpenSpec.upto waitTellsSpec)) waitTellsUptoCard

/-- THE SECOND FORM's CARD OF 'noonlaw2.WaitOver'. -/
def waitOverUptoCard : Claim7 := { stood := { row := waitOverUptoRow, standIns := [], harness := (true, "e24542fa85c96f2c72743f4be20895acf8edd6d234c14987faff289482c97ff5"), looks := true }, kinds := [], alts := [], laidByText := true, laidKinds := [.handle], laidTests := true, laidLooks := .later }
def WaitOverUptoCardSaid : Prop := Claim7.holds Tryd.pinned (.plain (OpenSpec.upto waitOverSpec)) waitOverUptoCard
end Rows
end Go.Proofs.YthhhlfbifcnmpagDoor
