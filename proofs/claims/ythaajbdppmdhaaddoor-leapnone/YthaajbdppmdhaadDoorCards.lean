/-
  DERIVED. GIVEN WITH THE SEED: THE CARDS: each row of YthaajbdppmdhaadDoorRows.lean that lists a variable, with what it lists TIED to the program's text (the seventh form; the later family's looks); each row that meets fmt, with fmt's text TOLD by the authors' own Lean function (tested against real Go, not proved from fmt's source: count such statements apart). THE CARD IS WHAT COUNTS. Prove the row's statement (the work); the ties are given (YthaajbdppmdhaadDoorTie.lean); close each card by the builder's one call (the guide's Derived/Test/ToyasCard.lean, 'card_holds'). Laid BY PROGRAM, IN A SANDBOX (cutbox-door.mjs). By AI agents, Wed Nov 11 2026. No macro, syntax, notation, axiom, sorry.
-/
import Derived.Test.YthaajbdppmdhaadDoorRows
import GoSem.ClaimSeven
namespace Go.Proofs.YthaajbdppmdhaadDoor
namespace Rows

/-- THE TIED CARD OF 'noonlaw1.LeapBack'. -/
def leapBackCard : Claim7 := { stood := { row := leapBackRow, standIns := [], harness := (true, "45688007c98df5732dadf03bb9f793b1a11d5e6731c700f14892ea94706645cd"), looks := false }, kinds := [], alts := [], laidByText := true, laidKinds := [.data, .data, .data, .data, .data, .data], laidTests := true, laidLooks := .later }
def LeapBackCardSaid : Prop := Claim7.holds Tryd.pinned (.plain (OpenSpec.ofChange leapBackSpec)) leapBackCard

/-- THE TIED CARD OF 'noonlaw4.LeapNone'. -/
def leapNoneCard : Claim7 := { stood := { row := leapNoneRow, standIns := [], harness := (true, "45688007c98df5732dadf03bb9f793b1a11d5e6731c700f14892ea94706645cd"), looks := false }, kinds := [], alts := [], laidByText := true, laidKinds := [.data], laidTests := true, laidLooks := .later }
def LeapNoneCardSaid : Prop := Claim7.holds Tryd.pinned (.plain (OpenSpec.ofChange leapNoneSpec)) leapNoneCard

/-- THE SECOND FORM's CARD OF 'noonlaw1.LeapBack'. -/
def leapBackUptoCard : Claim7 := { stood := { row := leapBackUptoRow, standIns := [], harness := (true, "45688007c98df5732dadf03bb9f793b1a11d5e6731c700f14892ea94706645cd"), looks := false }, kinds := [], alts := [], laidByText := true, laidKinds := [.data, .data, .data, .data, .data, .data], laidTests := true, laidLooks := .later }
def LeapBackUptoCardSaid : Prop := Claim7.holds Tryd.pinned (.plain (OpenSpec.upto leapBackSpec)) leapBackUptoCard

/-- THE SECOND FORM's CARD OF 'noonlaw4.LeapNone'. -/
def leapNoneUptoCard : Claim7 := { stood := { row := leapNoneUptoRow, standIns := [], harness := (true, "45688007c98df5732dadf03bb9f793b1a11d5e6731c700f14892ea94706645cd"), looks := false }, kinds := [], alts := [], laidByText := true, laidKinds := [.data], laidTests := true, laidLooks := .later }
def LeapNoneUptoCardSaid : Prop := Claim7.holds Tryd.pinned (.plain (OpenSpec.upto leapNoneSpec)) leapNoneUptoCard
end Rows
end Go.Proofs.YthaajbdppmdhaadDoor
