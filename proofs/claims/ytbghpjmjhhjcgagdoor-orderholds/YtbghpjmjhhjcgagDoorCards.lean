/-
  DERIVED. GIVEN WITH THE SEED: THE CARDS: each row of YtbghpjmjhhjcgagDoorRows.lean that lists a variable, with what it lists TIED to the program's text (the seventh form; the later family's looks); each row that meets fmt, with fmt's text TOLD by the authors' own Lean function (tested against real Go, not proved from fmt's source: count such statements apart). THE CARD IS WHAT COUNTS. Prove the row's statement (the work); the ties are given (YtbghpjmjhhjcgagDoorTie.lean); close each card by the builder's one call (the guide's Derived/Test/ToyasCard.lean, 'card_holds'). Laid BY PROGRAM, IN A SANDBOX (cutbox-door.mjs). By AI agents, Wed Nov 11 2026. No macro, syntax, notation, axiom, sorry.
-/
import Derived.Test.YtbghpjmjhhjcgagDoorRows
import GoSem.ClaimSeven
namespace Go.Proofs.YtbghpjmjhhjcgagDoor
namespace Rows

/-- THE TIED CARD OF 'noonlaw2.WaitTells'. -/
def waitTellsCard : Claim7 := { stood := { row := waitTellsRow, standIns := [], harness := (true, "b163cc76e6604e00f455c9f7533d740195ceeeba1acf2aa8e7fd1471c0942953"), looks := true }, kinds := [], alts := [], laidByText := true, laidKinds := [.handle], laidTests := true, laidLooks := .later }
def WaitTellsCardSaid : Prop := Claim7.holds Tryd.pinned (.plain (OpenSpec.ofChange waitTellsSpec)) waitTellsCard

/-- THE TIED CARD OF 'noonlaw2.WaitOver'. -/
def waitOverCard : Claim7 := { stood := { row := waitOverRow, standIns := [], harness := (true, "b163cc76e6604e00f455c9f7533d740195ceeeba1acf2aa8e7fd1471c0942953"), looks := true }, kinds := [], alts := [], laidByText := true, laidKinds := [.handle], laidTests := true, laidLooks := .later }
def WaitOverCardSaid : Prop := Claim7.holds Tryd.pinned (.plain (OpenSpec.ofChange waitOverSpec)) waitOverCard

/-- THE TIED CARD OF 'noonlaw2.OrderTells'. -/
def orderTellsCard : Claim7 := { stood := { row := orderTellsRow, standIns := [], harness := (true, "b163cc76e6604e00f455c9f7533d740195ceeeba1acf2aa8e7fd1471c0942953"), looks := true }, kinds := [], alts := [], laidByText := true, laidKinds := [.handle], laidTests := true, laidLooks := .later }
def OrderTellsCardSaid : Prop := Claim7.holds Tryd.pinned (.plain (OpenSpec.ofChange orderTellsSpec)) orderTellsCard

/-- THE TIED CARD OF 'noonlaw2.OrderHolds'. -/
def orderHoldsCard : Claim7 := { stood := { row := orderHoldsRow, standIns := [], harness := (true, "b163cc76e6604e00f455c9f7533d740195ceeeba1acf2aa8e7fd1471c0942953"), looks := true }, kinds := [], alts := [], laidByText := true, laidKinds := [.handle], laidTests := true, laidLooks := .later }
def OrderHoldsCardSaid : Prop := Claim7.holds Tryd.pinned (.plain (OpenSpec.ofChange orderHoldsSpec)) orderHoldsCard

/-- THE SECOND FORM's CARD OF 'noonlaw2.WaitTells'. -/
def waitTellsUptoCard : Claim7 := { stood := { row := waitTellsUptoRow, standIns := [], harness := (true, "b163cc76e6604e00f455c9f7533d740195ceeeba1acf2aa8e7fd1471c0942953"), looks := true }, kinds := [], alts := [], laidByText := true, laidKinds := [.handle], laidTests := true, laidLooks := .later }
def WaitTellsUptoCardSaid : Prop := Claim7.holds Tryd.pinned (.plain (OpenSpec.upto waitTellsSpec)) waitTellsUptoCard

/-- THE SECOND FORM's CARD OF 'noonlaw2.WaitOver'. -/
def waitOverUptoCard : Claim7 := { stood := { row := waitOverUptoRow, standIns := [], harness := (true, "b163cc76e6604e00f455c9f7533d740195ceeeba1acf2aa8e7fd1471c0942953"), looks := true }, kinds := [], alts := [], laidByText := true, laidKinds := [.handle], laidTests := true, laidLooks := .later }
def WaitOverUptoCardSaid : Prop := Claim7.holds Tryd.pinned (.plain (OpenSpec.upto waitOverSpec)) waitOverUptoCard

/-- THE SECOND FORM's CARD OF 'noonlaw2.OrderTells'. -/
def orderTellsUptoCard : Claim7 := { stood := { row := orderTellsUptoRow, standIns := [], harness := (true, "b163cc76e6604e00f455c9f7533d740195ceeeba1acf2aa8e7fd1471c0942953"), looks := true }, kinds := [], alts := [], laidByText := true, laidKinds := [.handle], laidTests := true, laidLooks := .later }
def OrderTellsUptoCardSaid : Prop := Claim7.holds Tryd.pinned (.plain (OpenSpec.upto orderTellsSpec)) orderTellsUptoCard

/-- THE SECOND FORM's CARD OF 'noonlaw2.OrderHolds'. -/
def orderHoldsUptoCard : Claim7 := { stood := { row := orderHoldsUptoRow, standIns := [], harness := (true, "b163cc76e6604e00f455c9f7533d740195ceeeba1acf2aa8e7fd1471c0942953"), looks := true }, kinds := [], alts := [], laidByText := true, laidKinds := [.handle], laidTests := true, laidLooks := .later }
def OrderHoldsUptoCardSaid : Prop := Claim7.holds Tryd.pinned (.plain (OpenSpec.upto orderHoldsSpec)) orderHoldsUptoCard
end Rows
end Go.Proofs.YtbghpjmjhhjcgagDoor
