/-
  DERIVED. GIVEN WITH THE SEED: THE CARDS: each row of YtkjnbpfgodhopadDoorRows.lean that lists a variable, with what it lists TIED to the program's text (the seventh form; the later family's looks); each row that meets fmt, with fmt's text TOLD by the authors' own Lean function (tested against real Go, not proved from fmt's source: count such statements apart). THE CARD IS WHAT COUNTS. Prove the row's statement (the work); the ties are given (YtkjnbpfgodhopadDoorTie.lean); close each card by the builder's one call (the guide's Derived/Test/ToyasCard.lean, 'card_holds'). Laid BY PROGRAM, IN A SANDBOX (cutbox-door.mjs). By AI agents, Wed Nov 11 2026. No macro, syntax, notation, axiom, sorry.
-/
import Derived.Test.YtkjnbpfgodhopadDoorRows
import GoSem.ClaimSeven
namespace Go.Proofs.YtkjnbpfgodhopadDoor
namespace Rows

/-- THE TIED CARD OF 'noonlaw1.LeapBack'. -/
def leapBackCard : Claim7 := { stood := { row := leapBackRow, standIns := [], harness := (true, "3abe65bbb80bf91777d4e262f900eada9748dbcd4d13d5a6ec379c09f4f51ef8"), looks := true }, kinds := [], alts := [], laidByText := true, laidKinds := [.data, .data, .data, .data, .data, .data], laidTests := true, laidLooks := .later }
def LeapBackCardSaid : Prop := Claim7.holds Tryd.pinned (.plain (OpenSpec.ofChange leapBackSpec)) leapBackCard

/-- THE TIED CARD OF 'noonlaw4.LeapNone'. -/
def leapNoneCard : Claim7 := { stood := { row := leapNoneRow, standIns := [], harness := (true, "3abe65bbb80bf91777d4e262f900eada9748dbcd4d13d5a6ec379c09f4f51ef8"), looks := true }, kinds := [], alts := [], laidByText := true, laidKinds := [.data], laidTests := true, laidLooks := .later }
def LeapNoneCardSaid : Prop := Claim7.holds Tryd.pinned (.plain (OpenSpec.ofChange leapNoneSpec)) leapNoneCard

/-- THE TIED CARD OF 'noonlaw1.BoundsTell'. -/
def boundsTellCard : Claim7 := { stood := { row := boundsTellRow, standIns := [], harness := (true, "3abe65bbb80bf91777d4e262f900eada9748dbcd4d13d5a6ec379c09f4f51ef8"), looks := true }, kinds := [], alts := [], laidByText := true, laidKinds := [.handle], laidTests := true, laidLooks := .later }
def BoundsTellCardSaid : Prop := Claim7.holds Tryd.pinned (.plain (OpenSpec.ofChange boundsTellSpec)) boundsTellCard

/-- THE TIED CARD OF 'noonlaw1.BoundsHold'. -/
def boundsHoldCard : Claim7 := { stood := { row := boundsHoldRow, standIns := [], harness := (true, "3abe65bbb80bf91777d4e262f900eada9748dbcd4d13d5a6ec379c09f4f51ef8"), looks := true }, kinds := [], alts := [], laidByText := true, laidKinds := [.handle], laidTests := true, laidLooks := .later }
def BoundsHoldCardSaid : Prop := Claim7.holds Tryd.pinned (.plain (OpenSpec.ofChange boundsHoldSpec)) boundsHoldCard

/-- THE TIED CARD OF 'noonlaw4.BoundsChain'. -/
def boundsChainCard : Claim7 := { stood := { row := boundsChainRow, standIns := [], harness := (true, "3abe65bbb80bf91777d4e262f900eada9748dbcd4d13d5a6ec379c09f4f51ef8"), looks := true }, kinds := [], alts := [], laidByText := true, laidKinds := [.handle], laidTests := true, laidLooks := .later }
def BoundsChainCardSaid : Prop := Claim7.holds Tryd.pinned (.plain (OpenSpec.ofChange boundsChainSpec)) boundsChainCard

/-- THE SECOND FORM's CARD OF 'noonlaw1.LeapBack'. -/
def leapBackUptoCard : Claim7 := { stood := { row := leapBackUptoRow, standIns := [], harness := (true, "3abe65bbb80bf91777d4e262f900eada9748dbcd4d13d5a6ec379c09f4f51ef8"), looks := true }, kinds := [], alts := [], laidByText := true, laidKinds := [.data, .data, .data, .data, .data, .data], laidTests := true, laidLooks := .later }
def LeapBackUptoCardSaid : Prop := Claim7.holds Tryd.pinned (.plain (OpenSpec.upto leapBackSpec)) leapBackUptoCard

/-- THE SECOND FORM's CARD OF 'noonlaw4.LeapNone'. -/
def leapNoneUptoCard : Claim7 := { stood := { row := leapNoneUptoRow, standIns := [], harness := (true, "3abe65bbb80bf91777d4e262f900eada9748dbcd4d13d5a6ec379c09f4f51ef8"), looks := true }, kinds := [], alts := [], laidByText := true, laidKinds := [.data], laidTests := true, laidLooks := .later }
def LeapNoneUptoCardSaid : Prop := Claim7.holds Tryd.pinned (.plain (OpenSpec.upto leapNoneSpec)) leapNoneUptoCard

/-- THE SECOND FORM's CARD OF 'noonlaw1.BoundsTell'. -/
def boundsTellUptoCard : Claim7 := { stood := { row := boundsTellUptoRow, standIns := [], harness := (true, "3abe65bbb80bf91777d4e262f900eada9748dbcd4d13d5a6ec379c09f4f51ef8"), looks := true }, kinds := [], alts := [], laidByText := true, laidKinds := [.handle], laidTests := true, laidLooks := .later }
def BoundsTellUptoCardSaid : Prop := Claim7.holds Tryd.pinned (.plain (OpenSpec.upto boundsTellSpec)) boundsTellUptoCard

/-- THE SECOND FORM's CARD OF 'noonlaw1.BoundsHold'. -/
def boundsHoldUptoCard : Claim7 := { stood := { row := boundsHoldUptoRow, standIns := [], harness := (true, "3abe65bbb80bf91777d4e262f900eada9748dbcd4d13d5a6ec379c09f4f51ef8"), looks := true }, kinds := [], alts := [], laidByText := true, laidKinds := [.handle], laidTests := true, laidLooks := .later }
def BoundsHoldUptoCardSaid : Prop := Claim7.holds Tryd.pinned (.plain (OpenSpec.upto boundsHoldSpec)) boundsHoldUptoCard

/-- THE SECOND FORM's CARD OF 'noonlaw4.BoundsChain'. -/
def boundsChainUptoCard : Claim7 := { stood := { row := boundsChainUptoRow, standIns := [], harness := (true, "3abe65bbb80bf91777d4e262f900eada9748dbcd4d13d5a6ec379c09f4f51ef8"), looks := true }, kinds := [], alts := [], laidByText := true, laidKinds := [.handle], laidTests := true, laidLooks := .later }
def BoundsChainUptoCardSaid : Prop := Claim7.holds Tryd.pinned (.plain (OpenSpec.upto boundsChainSpec)) boundsChainUptoCard
end Rows
end Go.Proofs.YtkjnbpfgodhopadDoor
