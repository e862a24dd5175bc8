/-
  DERIVED. GIVEN WITH THE SEED: THE CARDS: each row of YtdhgfdbghfefnaaDoorRows.lean that lists a variable, with what it lists TIED to the program's text (the seventh form; the later family's looks); each row that meets fmt, with fmt's text TOLD by the authors' own Lean function (tested against real Go, not proved from fmt's source: count such statements apart). THE CARD IS WHAT COUNTS. Prove the row's statement (the work); the ties are given (YtdhgfdbghfefnaaDoorTie.lean); close each card by the builder's one call (the guide's Derived/Test/ToyasCard.lean, 'card_holds'). Laid BY PROGRAM, IN A SANDBOX (cutbox-door.mjs). By AI agents, Wed Nov 11 2026. No macro, syntax, notation, axiom, sorry.
-/
import Derived.Test.YtdhgfdbghfefnaaDoorRows
import GoSem.ClaimSeven
namespace Go.Proofs.YtdhgfdbghfefnaaDoor
namespace Rows

/-- THE TIED CARD OF 'noonlaw1.SpanTells'. -/
def spanTellsCard : Claim7 := { stood := { row := spanTellsRow, standIns := [], harness := (true, "c4fef3a7e1d8a1873e0176b515c4a8deed1ac440534da185a9b6c6f9b6a191d6"), looks := true }, kinds := [], alts := [], laidByText := true, laidKinds := [.data, .data, .data, .handle, .sentinel, .sentinel], laidTests := true, laidLooks := .later }
def SpanTellsCardSaid : Prop := Claim7.holds Tryd.pinned (.plain (OpenSpec.ofChange spanTellsSpec)) spanTellsCard

/-- THE TIED CARD OF 'noonlaw1.SpanHolds'. -/
def spanHoldsCard : Claim7 := { stood := { row := spanHoldsRow, standIns := [], harness := (true, "c4fef3a7e1d8a1873e0176b515c4a8deed1ac440534da185a9b6c6f9b6a191d6"), looks := true }, kinds := [], alts := [], laidByText := true, laidKinds := [.data, .data, .data, .sentinel, .sentinel], laidTests := true, laidLooks := .later }
def SpanHoldsCardSaid : Prop := Claim7.holds Tryd.pinned (.plain (OpenSpec.ofChange spanHoldsSpec)) spanHoldsCard

/-- THE TIED CARD OF 'noonlaw1.DriftTells'. -/
def driftTellsCard : Claim7 := { stood := { row := driftTellsRow, standIns := [], harness := (true, "c4fef3a7e1d8a1873e0176b515c4a8deed1ac440534da185a9b6c6f9b6a191d6"), looks := true }, kinds := [], alts := [], laidByText := true, laidKinds := [.handle], laidTests := true, laidLooks := .later }
def DriftTellsCardSaid : Prop := Claim7.holds Tryd.pinned (.plain (OpenSpec.ofChange driftTellsSpec)) driftTellsCard

/-- THE SECOND FORM's CARD OF 'noonlaw1.SpanTells'. -/
def spanTellsUptoCard : Claim7 := { stood := { row := spanTellsUptoRow, standIns := [], harness := (true, "c4fef3a7e1d8a1873e0176b515c4a8deed1ac440534da185a9b6c6f9b6a191d6"), looks := true }, kinds := [], alts := [], laidByText := true, laidKinds := [.data, .data, .data, .handle, .sentinel, .sentinel], laidTests := true, laidLooks := .later }
def SpanTellsUptoCardSaid : Prop := Claim7.holds Tryd.pinned (.plain (OpenSpec.upto spanTellsSpec)) spanTellsUptoCard

/-- THE SECOND FORM's CARD OF 'noonlaw1.SpanHolds'. -/
def spanHoldsUptoCard : Claim7 := { stood := { row := spanHoldsUptoRow, standIns := [], harness := (true, "c4fef3a7e1d8a1873e0176b515c4a8deed1ac440534da185a9b6c6f9b6a191d6"), looks := true }, kinds := [], alts := [], laidByText := true, laidKinds := [.data, .data, .data, .sentinel, .sentinel], laidTests := true, laidLooks := .later }
def SpanHoldsUptoCardSaid : Prop := Claim7.holds Tryd.pinned (.plain (OpenSpec.upto spanHoldsSpec)) spanHoldsUptoCard

/-- THE SECOND FORM's CARD OF 'noonlaw1.DriftTells'. -/
def driftTellsUptoCard : Claim7 := { stood := { row := driftTellsUptoRow, standIns := [], harness := (true, "c4fef3a7e1d8a1873e0176b515c4a8deed1ac440534da185a9b6c6f9b6a191d6"), looks := true }, kinds := [], alts := [], laidByText := true, laidKinds := [.handle], laidTests := true, laidLooks := .later }
def DriftTellsUptoCardSaid : Prop := Claim7.holds Tryd.pinned (.plain (OpenSpec.upto driftTellsSpec)) driftTellsUptoCard
end Rows
end Go.Proofs.YtdhgfdbghfefnaaDoor
