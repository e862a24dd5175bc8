/-
  DERIVED. GIVEN WITH THE SEED: THE CARDS: each row of YtkchfpphakcljacDoorRows.lean that lists a variable, with what it lists TIED to the program's text (the seventh form; the later family's looks); each row that meets fmt, with fmt's text TOLD by the authors' own Lean function (tested against real Go, not proved from fmt's source: count such statements apart). THE CARD IS WHAT COUNTS. Prove the row's statement (the work); the ties are given (YtkchfpphakcljacDoorTie.lean); close each card by the builder's one call (the guide's Derived/Test/ToyasCard.lean, 'card_holds'). Laid BY PROGRAM, IN A SANDBOX (cutbox-door.mjs). By AI agents, Wed Nov 11 2026. No macro, syntax, notation, axiom, sorry.
-/
import Derived.Test.YtkchfpphakcljacDoorRows
import GoSem.ClaimSeven
namespace Go.Proofs.YtkchfpphakcljacDoor
namespace Rows

/-- THE TIED CARD OF 'noonlaw4.VoteAll'. -/
def voteAllCard : Claim7 := { stood := { row := voteAllRow, standIns := [], harness := (true, "c7a029886d01e7bbfd60e6d614120b2ba0afa85c1dec618ddea30af388abb138"), looks := true }, kinds := [], alts := [], laidByText := true, laidKinds := [.handle], laidTests := true, laidLooks := .later }
def VoteAllCardSaid : Prop := Claim7.holds Tryd.pinned (.plain (OpenSpec.ofChange voteAllSpec)) voteAllCard

/-- THE SECOND FORM's CARD OF 'noonlaw4.VoteAll'. -/
def voteAllUptoCard : Claim7 := { stood := { row := voteAllUptoRow, standIns := [], harness := (true, "c7a029886d01e7bbfd60e6d614120b2ba0afa85c1dec618ddea30af388abb138"), looks := true }, kinds := [], alts := [], laidByText := true, laidKinds := [.handle], laidTests := true, laidLooks := .later }
def VoteAllUptoCardSaid : Prop := Claim7.holds Tryd.pinned (.plain (OpenSpec.upto voteAllSpec)) voteAllUptoCard
end Rows
end Go.Proofs.YtkchfpphakcljacDoor
