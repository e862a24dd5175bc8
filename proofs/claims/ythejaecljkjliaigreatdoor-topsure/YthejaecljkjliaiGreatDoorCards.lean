/-
  DERIVED. GIVEN WITH THE SEED: THE CARDS: each row of YthejaecljkjliaiGreatDoorRows.lean that lists a variable, with what it lists TIED to the program's text (the seventh form; the later family's looks); each row that meets fmt, with fmt's text TOLD by the authors' own Lean function (tested against real Go, not proved from fmt's source: count such statements apart). THE CARD IS WHAT COUNTS. Prove the row's statement (the work); the ties are given (YthejaecljkjliaiGreatDoorTie.lean); close each card by the builder's one call (the guide's Derived/Test/ToyasCard.lean, 'card_holds'). Laid BY PROGRAM, IN A SANDBOX (cutbox-door.mjs). By AI agents, Wed Nov 11 2026. No macro, syntax, notation, axiom, sorry.
-/
import Derived.Test.YthejaecljkjliaiGreatDoorRows
import GoSem.ClaimSeven
namespace Go.Proofs.YthejaecljkjliaiGreatDoor
namespace Rows

/-- THE TIED CARD OF 'noonlaw2.NetPlays'. -/
def netPlaysCard : Claim7 := { stood := { row := netPlaysRow, standIns := [], harness := (true, "6e2fbc9a027dc681bf97e970ba6b04a41a8d7114fc2186c23a1f2e88f41c5f9e"), looks := true }, kinds := [], alts := [], laidByText := true, laidKinds := [.handle], laidTests := true, laidLooks := .later }
def NetPlaysCardSaid : Prop := Claim7.holds Tryz.pinned (.plain (OpenSpec.ofChange netPlaysSpec)) netPlaysCard

/-- THE TIED CARD OF 'noontop.TopSure'. -/
def topSureCard : Claim7 := { stood := { row := topSureRow, standIns := [], harness := (true, "6e2fbc9a027dc681bf97e970ba6b04a41a8d7114fc2186c23a1f2e88f41c5f9e"), looks := true }, kinds := [], alts := [], laidByText := true, laidKinds := [.handle], laidTests := true, laidLooks := .later }
def TopSureCardSaid : Prop := Claim7.holds Tryz.pinned (.plain (OpenSpec.ofChange topSureSpec)) topSureCard

/-- THE SECOND FORM's CARD OF 'noonlaw2.NetPlays'. -/
def netPlaysUptoCard : Claim7 := { stood := { row := netPlaysUptoRow, standIns := [], harness := (true, "6e2fbc9a027dc681bf97e970ba6b04a41a8d7114fc2186c23a1f2e88f41c5f9e"), looks := true }, kinds := [], alts := [], laidByText := true, laidKinds := [.handle], laidTests := true, laidLooks := .later }
def NetPlaysUptoCardSaid : Prop := Claim7.holds Tryz.pinned (.plain (OpenSpec.upto netPlaysSpec)) netPlaysUptoCard

/-- THE SECOND FORM's CARD OF 'noontop.TopSure'. -/
def topSureUptoCard : Claim7 := { stood := { row := topSureUptoRow, standIns := [], harness := (true, "6e2fbc9a027dc681bf97e970ba6b04a41a8d7114fc2186c23a1f2e88f41c5f9e"), looks := true }, kinds := [], alts := [], laidByText := true, laidKinds := [.handle], laidTests := true, laidLooks := .later }
def TopSureUptoCardSaid : Prop := Claim7.holds Tryz.pinned (.plain (OpenSpec.upto topSureSpec)) topSureUptoCard
end Rows
end Go.Proofs.YthejaecljkjliaiGreatDoor
