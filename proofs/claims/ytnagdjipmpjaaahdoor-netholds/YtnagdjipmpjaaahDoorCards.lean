/-
  DERIVED. GIVEN WITH THE SEED: THE CARDS: each row of YtnagdjipmpjaaahDoorRows.lean that lists a variable, with what it lists TIED to the program's text (the seventh form; the later family's looks); each row that meets fmt, with fmt's text TOLD by the authors' own Lean function (tested against real Go, not proved from fmt's source: count such statements apart). THE CARD IS WHAT COUNTS. Prove the row's statement (the work); the ties are given (YtnagdjipmpjaaahDoorTie.lean); close each card by the builder's one call (the guide's Derived/Test/ToyasCard.lean, 'card_holds'). Laid BY PROGRAM, IN A SANDBOX (cutbox-door.mjs). By AI agents, Wed Nov 11 2026. No macro, syntax, notation, axiom, sorry.
-/
import Derived.Test.YtnagdjipmpjaaahDoorRows
import GoSem.ClaimSeven
namespace Go.Proofs.YtnagdjipmpjaaahDoor
namespace Rows

/-- THE TIED CARD OF 'noonlaw4.WorldUnder'. -/
def worldUnderCard : Claim7 := { stood := { row := worldUnderRow, standIns := [], harness := (true, "509869ec3b635a385f846f9a99f3f9b77944601933d7c22b86ee44923e292226"), looks := true }, kinds := [], alts := [], laidByText := true, laidKinds := [.handle], laidTests := true, laidLooks := .later }
def WorldUnderCardSaid : Prop := Claim7.holds Tryd.pinned (.plain (OpenSpec.ofChange worldUnderSpec)) worldUnderCard

/-- THE TIED CARD OF 'noonlaw2.WorldPlays'. -/
def worldPlaysCard : Claim7 := { stood := { row := worldPlaysRow, standIns := [], harness := (true, "509869ec3b635a385f846f9a99f3f9b77944601933d7c22b86ee44923e292226"), looks := true }, kinds := [], alts := [], laidByText := true, laidKinds := [.handle], laidTests := true, laidLooks := .later }
def WorldPlaysCardSaid : Prop := Claim7.holds Tryd.pinned (.plain (OpenSpec.ofChange worldPlaysSpec)) worldPlaysCard

/-- THE TIED CARD OF 'noonlaw4.NodeLearns'. -/
def nodeLearnsCard : Claim7 := { stood := { row := nodeLearnsRow, standIns := [], harness := (true, "509869ec3b635a385f846f9a99f3f9b77944601933d7c22b86ee44923e292226"), looks := true }, kinds := [], alts := [], laidByText := true, laidKinds := [.handle], laidTests := true, laidLooks := .later }
def NodeLearnsCardSaid : Prop := Claim7.holds Tryd.pinned (.plain (OpenSpec.ofChange nodeLearnsSpec)) nodeLearnsCard

/-- THE TIED CARD OF 'noonlaw2.NodePlays'. -/
def nodePlaysCard : Claim7 := { stood := { row := nodePlaysRow, standIns := [], harness := (true, "509869ec3b635a385f846f9a99f3f9b77944601933d7c22b86ee44923e292226"), looks := true }, kinds := [], alts := [], laidByText := true, laidKinds := [.handle], laidTests := true, laidLooks := .later }
def NodePlaysCardSaid : Prop := Claim7.holds Tryd.pinned (.plain (OpenSpec.ofChange nodePlaysSpec)) nodePlaysCard

/-- THE TIED CARD OF 'noonlaw2.NetHolds'. -/
def netHoldsCard : Claim7 := { stood := { row := netHoldsRow, standIns := [], harness := (true, "509869ec3b635a385f846f9a99f3f9b77944601933d7c22b86ee44923e292226"), looks := true }, kinds := [], alts := [], laidByText := true, laidKinds := [.handle], laidTests := true, laidLooks := .later }
def NetHoldsCardSaid : Prop := Claim7.holds Tryd.pinned (.plain (OpenSpec.ofChange netHoldsSpec)) netHoldsCard

/-- THE SECOND FORM's CARD OF 'noonlaw4.WorldUnder'. -/
def worldUnderUptoCard : Claim7 := { stood := { row := worldUnderUptoRow, standIns := [], harness := (true, "509869ec3b635a385f846f9a99f3f9b77944601933d7c22b86ee44923e292226"), looks := true }, kinds := [], alts := [], laidByText := true, laidKinds := [.handle], laidTests := true, laidLooks := .later }
def WorldUnderUptoCardSaid : Prop := Claim7.holds Tryd.pinned (.plain (OpenSpec.upto worldUnderSpec)) worldUnderUptoCard

/-- THE SECOND FORM's CARD OF 'noonlaw2.WorldPlays'. -/
def worldPlaysUptoCard : Claim7 := { stood := { row := worldPlaysUptoRow, standIns := [], harness := (true, "509869ec3b635a385f846f9a99f3f9b77944601933d7c22b86ee44923e292226"), looks := true }, kinds := [], alts := [], laidByText := true, laidKinds := [.handle], laidTests := true, laidLooks := .later }
def WorldPlaysUptoCardSaid : Prop := Claim7.holds Tryd.pinned (.plain (OpenSpec.upto worldPlaysSpec)) worldPlaysUptoCard

/-- THE SECOND FORM's CARD OF 'noonlaw4.NodeLearns'. -/
def nodeLearnsUptoCard : Claim7 := { stood := { row := nodeLearnsUptoRow, standIns := [], harness := (true, "509869ec3b635a385f846f9a99f3f9b77944601933d7c22b86ee44923e292226"), looks := true }, kinds := [], alts := [], laidByText := true, laidKinds := [.handle], laidTests := true, laidLooks := .later }
def NodeLearnsUptoCardSaid : Prop := Claim7.holds Tryd.pinned (.plain (OpenSpec.upto nodeLearnsSpec)) nodeLearnsUptoCard

/-- THE SECOND FORM's CARD OF 'noonlaw2.NodePlays'. -/
def nodePlaysUptoCard : Claim7 := { stood := { row := nodePlaysUptoRow, standIns := [], harness := (true, "509869ec3b635a385f846f9a99f3f9b77944601933d7c22b86ee44923e292226"), looks := true }, kinds := [], alts := [], laidByText := true, laidKinds := [.handle], laidTests := true, laidLooks := .later }
def NodePlaysUptoCardSaid : Prop := Claim7.holds Tryd.pinned (.plain (OpenSpec.upto nodePlaysSpec)) nodePlaysUptoCard

/-- THE SECOND FORM's CARD OF 'noonlaw2.NetHolds'. -/
def netHoldsUptoCard : Claim7 := { stood := { row := netHoldsUptoRow, standIns := [], harness := (true, "509869ec3b635a385f846f9a99f3f9b77944601933d7c22b86ee44923e292226"), looks := true }, kinds := [], alts := [], laidByText := true, laidKinds := [.handle], laidTests := true, laidLooks := .later }
def NetHoldsUptoCardSaid : Prop := Claim7.holds Tryd.pinned (.plain (OpenSpec.upto netHoldsSpec)) netHoldsUptoCard
end Rows
end Go.Proofs.YtnagdjipmpjaaahDoor
