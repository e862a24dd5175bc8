/-
  DERIVED. GIVEN WITH THE SEED: THE CARDS: each row of YtigcliepeapcpajDoorRows.lean that lists a variable, with what it lists TIED to the program's text (the seventh form; the later family's looks); each row that meets fmt, with fmt's text TOLD by the authors' own Lean function (tested against real Go, not proved from fmt's source: count such statements apart). THE CARD IS WHAT COUNTS. Prove the row's statement (the work); the ties are given (YtigcliepeapcpajDoorTie.lean); close each card by the builder's one call (the guide's Derived/Test/ToyasCard.lean, 'card_holds'). Laid BY PROGRAM, IN A SANDBOX (cutbox-door.mjs). By AI agents, Wed Nov 11 2026. No macro, syntax, notation, axiom, sorry.
-/
import Derived.Test.YtigcliepeapcpajDoorRows
import GoSem.ClaimSeven
namespace Go.Proofs.YtigcliepeapcpajDoor
namespace Rows

/-- THE TIED CARD OF 'noonlaw3.KeeperPlays'. -/
def keeperPlaysCard : Claim7 := { stood := { row := keeperPlaysRow, standIns := [], harness := (true, "3b6cda8d1be4bdf3fe6a209c5611fa00ef658572c451e71ff5230124bc975224"), looks := true }, kinds := [], alts := [], laidByText := true, laidKinds := [.handle], laidTests := true, laidLooks := .later }
def KeeperPlaysCardSaid : Prop := Claim7.holds Tryd.pinned (.plain (OpenSpec.ofChange keeperPlaysSpec)) keeperPlaysCard

/-- THE SECOND FORM's CARD OF 'noonlaw3.KeeperPlays'. -/
def keeperPlaysUptoCard : Claim7 := { stood := { row := keeperPlaysUptoRow, standIns := [], harness := (true, "3b6cda8d1be4bdf3fe6a209c5611fa00ef658572c451e71ff5230124bc975224"), looks := true }, kinds := [], alts := [], laidByText := true, laidKinds := [.handle], laidTests := true, laidLooks := .later }
def KeeperPlaysUptoCardSaid : Prop := Claim7.holds Tryd.pinned (.plain (OpenSpec.upto keeperPlaysSpec)) keeperPlaysUptoCard
end Rows
end Go.Proofs.YtigcliepeapcpajDoor
