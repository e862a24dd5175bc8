/-
  DERIVED. GIVEN WITH THE SEED: THE CARDS: each row of YthdjjjajhjmajafDoorRows.lean that lists a variable, with what it lists TIED to the program's text (the seventh form; the later family's looks); each row that meets fmt, with fmt's text TOLD by the authors' own Lean function (tested against real Go, not proved from fmt's source: count such statements apart). THE CARD IS WHAT COUNTS. Prove the row's statement (the work); the ties are given (YthdjjjajhjmajafDoorTie.lean); close each card by the builder's one call (the guide's Derived/Test/ToyasCard.lean, 'card_holds'). Laid BY PROGRAM, IN A SANDBOX (cutbox-door.mjs). By AI agents, Wed Nov 11 2026. No macro, syntax, notation, axiom, sorry.
-/
import Derived.Test.YthdjjjajhjmajafDoorRows
import GoSem.ClaimSeven
namespace Go.Proofs.YthdjjjajhjmajafDoor
namespace Rows

/-- THE TIED CARD OF 'noonlaw1.HullTells'. -/
def hullTellsCard : Claim7 := { stood := { row := hullTellsRow, standIns := [], harness := (true, "7576cbf6c02c37ce3eacdd7f5234fe636e7d473df73bd3b78579059ee1340353"), looks := true }, kinds := [], alts := [], laidByText := true, laidKinds := [.handle], laidTests := true, laidLooks := .later }
def HullTellsCardSaid : Prop := Claim7.holds Tryd.pinned (.plain (OpenSpec.ofChange hullTellsSpec)) hullTellsCard

/-- THE TIED CARD OF 'noonlaw4.HullLine'. -/
def hullLineCard : Claim7 := { stood := { row := hullLineRow, standIns := [], harness := (true, "7576cbf6c02c37ce3eacdd7f5234fe636e7d473df73bd3b78579059ee1340353"), looks := true }, kinds := [], alts := [], laidByText := true, laidKinds := [.handle], laidTests := true, laidLooks := .later }
def HullLineCardSaid : Prop := Claim7.holds Tryd.pinned (.plain (OpenSpec.ofChange hullLineSpec)) hullLineCard

/-- THE TIED CARD OF 'noonlaw2.ClockHolds'. -/
def clockHoldsCard : Claim7 := { stood := { row := clockHoldsRow, standIns := [], harness := (true, "7576cbf6c02c37ce3eacdd7f5234fe636e7d473df73bd3b78579059ee1340353"), looks := true }, kinds := [], alts := [], laidByText := true, laidKinds := [.handle], laidTests := true, laidLooks := .later }
def ClockHoldsCardSaid : Prop := Claim7.holds Tryd.pinned (.plain (OpenSpec.ofChange clockHoldsSpec)) clockHoldsCard

/-- THE TIED CARD OF 'noonlaw4.ClockWidens'. -/
def clockWidensCard : Claim7 := { stood := { row := clockWidensRow, standIns := [], harness := (true, "7576cbf6c02c37ce3eacdd7f5234fe636e7d473df73bd3b78579059ee1340353"), looks := true }, kinds := [], alts := [], laidByText := true, laidKinds := [.handle], laidTests := true, laidLooks := .later }
def ClockWidensCardSaid : Prop := Claim7.holds Tryd.pinned (.plain (OpenSpec.ofChange clockWidensSpec)) clockWidensCard

/-- THE TIED CARD OF 'noonlaw2.ClockPlays'. -/
def clockPlaysCard : Claim7 := { stood := { row := clockPlaysRow, standIns := [], harness := (true, "7576cbf6c02c37ce3eacdd7f5234fe636e7d473df73bd3b78579059ee1340353"), looks := true }, kinds := [], alts := [], laidByText := true, laidKinds := [.handle], laidTests := true, laidLooks := .later }
def ClockPlaysCardSaid : Prop := Claim7.holds Tryd.pinned (.plain (OpenSpec.ofChange clockPlaysSpec)) clockPlaysCard

/-- THE SECOND FORM's CARD OF 'noonlaw1.HullTells'. -/
def hullTellsUptoCard : Claim7 := { stood := { row := hullTellsUptoRow, standIns := [], harness := (true, "7576cbf6c02c37ce3eacdd7f5234fe636e7d473df73bd3b78579059ee1340353"), looks := true }, kinds := [], alts := [], laidByText := true, laidKinds := [.handle], laidTests := true, laidLooks := .later }
def HullTellsUptoCardSaid : Prop := Claim7.holds Tryd.pinned (.plain (OpenSpec.upto hullTellsSpec)) hullTellsUptoCard

/-- THE SECOND FORM's CARD OF 'noonlaw4.HullLine'. -/
def hullLineUptoCard : Claim7 := { stood := { row := hullLineUptoRow, standIns := [], harness := (true, "7576cbf6c02c37ce3eacdd7f5234fe636e7d473df73bd3b78579059ee1340353"), looks := true }, kinds := [], alts := [], laidByText := true, laidKinds := [.handle], laidTests := true, laidLooks := .later }
def HullLineUptoCardSaid : Prop := Claim7.holds Tryd.pinned (.plain (OpenSpec.upto hullLineSpec)) hullLineUptoCard

/-- THE SECOND FORM's CARD OF 'noonlaw2.ClockHolds'. -/
def clockHoldsUptoCard : Claim7 := { stood := { row := clockHoldsUptoRow, standIns := [], harness := (true, "7576cbf6c02c37ce3eacdd7f5234fe636e7d473df73bd3b78579059ee1340353"), looks := true }, kinds := [], alts := [], laidByText := true, laidKinds := [.handle], laidTests := true, laidLooks := .later }
def ClockHoldsUptoCardSaid : Prop := Claim7.holds Tryd.pinned (.plain (OpenSpec.upto clockHoldsSpec)) clockHoldsUptoCard

/-- THE SECOND FORM's CARD OF 'noonlaw4.ClockWidens'. -/
def clockWidensUptoCard : Claim7 := { stood := { row := clockWidensUptoRow, standIns := [], harness := (true, "7576cbf6c02c37ce3eacdd7f5234fe636e7d473df73bd3b78579059ee1340353"), looks := true }, kinds := [], alts := [], laidByText := true, laidKinds := [.handle], laidTests := true, laidLooks := .later }
def ClockWidensUptoCardSaid : Prop := Claim7.holds Tryd.pinned (.plain (OpenSpec.upto clockWidensSpec)) clockWidensUptoCard

/-- THE SECOND FORM's CARD OF 'noonlaw2.ClockPlays'. -/
def clockPlaysUptoCard : Claim7 := { stood := { row := clockPlaysUptoRow, standIns := [], harness := (true, "7576cbf6c02c37ce3eacdd7f5234fe636e7d473df73bd3b78579059ee1340353"), looks := true }, kinds := [], alts := [], laidByText := true, laidKinds := [.handle], laidTests := true, laidLooks := .later }
def ClockPlaysUptoCardSaid : Prop := Claim7.holds Tryd.pinned (.plain (OpenSpec.upto clockPlaysSpec)) clockPlaysUptoCard
end Rows
end Go.Proofs.YthdjjjajhjmajafDoor
