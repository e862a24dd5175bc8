/-
  DERIVED. GIVEN WITH THE SEED: THE CARDS: each row of YthejaecljkjliabDoorRows.lean that lists a variable, with what it lists TIED to the program's text (the seventh form; the later family's looks); each row that meets fmt, with fmt's text TOLD by the authors' own Lean function (tested against real Go, not proved from fmt's source: count such statements apart). THE CARD IS WHAT COUNTS. Prove the row's statement (the work); the ties are given (YthejaecljkjliabDoorTie.lean); close each card by the builder's one call (the guide's Derived/Test/ToyasCard.lean, 'card_holds'). Laid BY PROGRAM, IN A SANDBOX (cutbox-door.mjs). By AI agents, Wed Nov 11 2026. No macro, syntax, notation, axiom, sorry.
-/
import Derived.Test.YthejaecljkjliabDoorRows
import GoSem.ClaimSeven
namespace Go.Proofs.YthejaecljkjliabDoor
namespace Rows

/-- THE TIED CARD OF 'noonlaw1.DriftBack'. -/
def driftBackCard : Claim7 := { stood := { row := driftBackRow, standIns := [], harness := (true, "c890b2d790393d4cddaf32826f1129a394b59aa6cac9310fa4f67fca63b525de"), looks := true }, kinds := [], alts := [], laidByText := true, laidKinds := [.handle], laidTests := true, laidLooks := .later }
def DriftBackCardSaid : Prop := Claim7.holds Tryd.pinned (.plain (OpenSpec.ofChange driftBackSpec)) driftBackCard

/-- THE TIED CARD OF 'noonlaw1.ProbeTells'. -/
def probeTellsCard : Claim7 := { stood := { row := probeTellsRow, standIns := [], harness := (true, "c890b2d790393d4cddaf32826f1129a394b59aa6cac9310fa4f67fca63b525de"), looks := true }, kinds := [], alts := [], laidByText := true, laidKinds := [.handle], laidTests := true, laidLooks := .later }
def ProbeTellsCardSaid : Prop := Claim7.holds Tryd.pinned (.plain (OpenSpec.ofChange probeTellsSpec)) probeTellsCard

/-- THE TIED CARD OF 'noonlaw1.VoteTells'. -/
def voteTellsCard : Claim7 := { stood := { row := voteTellsRow, standIns := [], harness := (true, "c890b2d790393d4cddaf32826f1129a394b59aa6cac9310fa4f67fca63b525de"), looks := true }, kinds := [], alts := [], laidByText := true, laidKinds := [.handle], laidTests := true, laidLooks := .later }
def VoteTellsCardSaid : Prop := Claim7.holds Tryd.pinned (.plain (OpenSpec.ofChange voteTellsSpec)) voteTellsCard

/-- THE SECOND FORM's CARD OF 'noonlaw1.DriftBack'. -/
def driftBackUptoCard : Claim7 := { stood := { row := driftBackUptoRow, standIns := [], harness := (true, "c890b2d790393d4cddaf32826f1129a394b59aa6cac9310fa4f67fca63b525de"), looks := true }, kinds := [], alts := [], laidByText := true, laidKinds := [.handle], laidTests := true, laidLooks := .later }
def DriftBackUptoCardSaid : Prop := Claim7.holds Tryd.pinned (.plain (OpenSpec.upto driftBackSpec)) driftBackUptoCard

/-- THE SECOND FORM's CARD OF 'noonlaw1.ProbeTells'. -/
def probeTellsUptoCard : Claim7 := { stood := { row := probeTellsUptoRow, standIns := [], harness := (true, "c890b2d790393d4cddaf32826f1129a394b59aa6cac9310fa4f67fca63b525de"), looks := true }, kinds := [], alts := [], laidByText := true, laidKinds := [.handle], laidTests := true, laidLooks := .later }
def ProbeTellsUptoCardSaid : Prop := Claim7.holds Tryd.pinned (.plain (OpenSpec.upto probeTellsSpec)) probeTellsUptoCard

/-- THE SECOND FORM's CARD OF 'noonlaw1.VoteTells'. -/
def voteTellsUptoCard : Claim7 := { stood := { row := voteTellsUptoRow, standIns := [], harness := (true, "c890b2d790393d4cddaf32826f1129a394b59aa6cac9310fa4f67fca63b525de"), looks := true }, kinds := [], alts := [], laidByText := true, laidKinds := [.handle], laidTests := true, laidLooks := .later }
def VoteTellsUptoCardSaid : Prop := Claim7.holds Tryd.pinned (.plain (OpenSpec.upto voteTellsSpec)) voteTellsUptoCard
end Rows
end Go.Proofs.YthejaecljkjliabDoor
