/-
  DERIVED. GIVEN WITH THE SEED: THE CARDS: each row of YtjdeeeefapijeaeDoorRows.lean that lists a variable, with what it lists TIED to the program's text (the seventh form; the later family's looks); each row that meets fmt, with fmt's text TOLD by the authors' own Lean function (tested against real Go, not proved from fmt's source: count such statements apart). THE CARD IS WHAT COUNTS. Prove the row's statement (the work); the ties are given (YtjdeeeefapijeaeDoorTie.lean); close each card by the builder's one call (the guide's Derived/Test/ToyasCard.lean, 'card_holds'). Laid BY PROGRAM, IN A SANDBOX (cutbox-door.mjs). By AI agents, Wed Nov 11 2026. No macro, syntax, notation, axiom, sorry.
-/
import Derived.Test.YtjdeeeefapijeaeDoorRows
import GoSem.ClaimSeven
namespace Go.Proofs.YtjdeeeefapijeaeDoor
namespace Rows

/-- THE TIED CARD OF 'noonlaw1.LoopsTell'. -/
def loopsTellCard : Claim7 := { stood := { row := loopsTellRow, standIns := [], harness := (true, "60b9fcc38ad0e575eca311e09cc0a62cf4b38ff971718a0b4d660ec45bee6cad"), looks := true }, kinds := [], alts := [], laidByText := true, laidKinds := [.handle], laidTests := true, laidLooks := .later }
def LoopsTellCardSaid : Prop := Claim7.holds Tryd.pinned (.plain (OpenSpec.ofChange loopsTellSpec)) loopsTellCard

/-- THE TIED CARD OF 'noonlaw1.LoopsProve'. -/
def loopsProveCard : Claim7 := { stood := { row := loopsProveRow, standIns := [], harness := (true, "60b9fcc38ad0e575eca311e09cc0a62cf4b38ff971718a0b4d660ec45bee6cad"), looks := true }, kinds := [], alts := [], laidByText := true, laidKinds := [.handle], laidTests := true, laidLooks := .later }
def LoopsProveCardSaid : Prop := Claim7.holds Tryd.pinned (.plain (OpenSpec.ofChange loopsProveSpec)) loopsProveCard

/-- THE TIED CARD OF 'noonlaw4.LoopsAround'. -/
def loopsAroundCard : Claim7 := { stood := { row := loopsAroundRow, standIns := [], harness := (true, "60b9fcc38ad0e575eca311e09cc0a62cf4b38ff971718a0b4d660ec45bee6cad"), looks := true }, kinds := [], alts := [], laidByText := true, laidKinds := [.handle], laidTests := true, laidLooks := .later }
def LoopsAroundCardSaid : Prop := Claim7.holds Tryd.pinned (.plain (OpenSpec.ofChange loopsAroundSpec)) loopsAroundCard

/-- THE TIED CARD OF 'noonlaw1.TreeTells'. -/
def treeTellsCard : Claim7 := { stood := { row := treeTellsRow, standIns := [], harness := (true, "60b9fcc38ad0e575eca311e09cc0a62cf4b38ff971718a0b4d660ec45bee6cad"), looks := true }, kinds := [], alts := [], laidByText := true, laidKinds := [.handle], laidTests := true, laidLooks := .later }
def TreeTellsCardSaid : Prop := Claim7.holds Tryd.pinned (.plain (OpenSpec.ofChange treeTellsSpec)) treeTellsCard

/-- THE TIED CARD OF 'noonlaw1.TreeWider'. -/
def treeWiderCard : Claim7 := { stood := { row := treeWiderRow, standIns := [], harness := (true, "60b9fcc38ad0e575eca311e09cc0a62cf4b38ff971718a0b4d660ec45bee6cad"), looks := true }, kinds := [], alts := [], laidByText := true, laidKinds := [.handle], laidTests := true, laidLooks := .later }
def TreeWiderCardSaid : Prop := Claim7.holds Tryd.pinned (.plain (OpenSpec.ofChange treeWiderSpec)) treeWiderCard

/-- THE TIED CARD OF 'noonlaw4.TreeAll'. -/
def treeAllCard : Claim7 := { stood := { row := treeAllRow, standIns := [], harness := (true, "60b9fcc38ad0e575eca311e09cc0a62cf4b38ff971718a0b4d660ec45bee6cad"), looks := true }, kinds := [], alts := [], laidByText := true, laidKinds := [.handle], laidTests := true, laidLooks := .later }
def TreeAllCardSaid : Prop := Claim7.holds Tryd.pinned (.plain (OpenSpec.ofChange treeAllSpec)) treeAllCard

/-- THE SECOND FORM's CARD OF 'noonlaw1.LoopsTell'. -/
def loopsTellUptoCard : Claim7 := { stood := { row := loopsTellUptoRow, standIns := [], harness := (true, "60b9fcc38ad0e575eca311e09cc0a62cf4b38ff971718a0b4d660ec45bee6cad"), looks := true }, kinds := [], alts := [], laidByText := true, laidKinds := [.handle], laidTests := true, laidLooks := .later }
def LoopsTellUptoCardSaid : Prop := Claim7.holds Tryd.pinned (.plain (OpenSpec.upto loopsTellSpec)) loopsTellUptoCard

/-- THE SECOND FORM's CARD OF 'noonlaw1.LoopsProve'. -/
def loopsProveUptoCard : Claim7 := { stood := { row := loopsProveUptoRow, standIns := [], harness := (true, "60b9fcc38ad0e575eca311e09cc0a62cf4b38ff971718a0b4d660ec45bee6cad"), looks := true }, kinds := [], alts := [], laidByText := true, laidKinds := [.handle], laidTests := true, laidLooks := .later }
def LoopsProveUptoCardSaid : Prop := Claim7.holds Tryd.pinned (.plain (OpenSpec.upto loopsProveSpec)) loopsProveUptoCard

/-- THE SECOND FORM's CARD OF 'noonlaw4.LoopsAround'. -/
def loopsAroundUptoCard : Claim7 := { stood := { row := loopsAroundUptoRow, standIns := [], harness := (true, "60b9fcc38ad0e575eca311e09cc0a62cf4b38ff971718a0b4d660ec45bee6cad"), looks := true }, kinds := [], alts := [], laidByText := true, laidKinds := [.handle], laidTests := true, laidLooks := .later }
def LoopsAroundUptoCardSaid : Prop := Claim7.holds Tryd.pinned (.plain (OpenSpec.upto loopsAroundSpec)) loopsAroundUptoCard

/-- THE SECOND FORM's CARD OF 'noonlaw1.TreeTells'. -/
def treeTellsUptoCard : Claim7 := { stood := { row := treeTellsUptoRow, standIns := [], harness := (true, "60b9fcc38ad0e575eca311e09cc0a62cf4b38ff971718a0b4d660ec45bee6cad"), looks := true }, kinds := [], alts := [], laidByText := true, laidKinds := [.handle], laidTests := true, laidLooks := .later }
def TreeTellsUptoCardSaid : Prop := Claim7.holds Tryd.pinned (.plain (OpenSpec.upto treeTellsSpec)) treeTellsUptoCard

/-- THE SECOND FORM's CARD OF 'noonlaw1.TreeWider'. -/
def treeWiderUptoCard : Claim7 := { stood := { row := treeWiderUptoRow, standIns := [], harness := (true, "60b9fcc38ad0e575eca311e09cc0a62cf4b38ff971718a0b4d660ec45bee6cad"), looks := true }, kinds := [], alts := [], laidByText := true, laidKinds := [.handle], laidTests := true, laidLooks := .later }
def TreeWiderUptoCardSaid : Prop := Claim7.holds Tryd.pinned (.plain (OpenSpec.upto treeWiderSpec)) treeWiderUptoCard

/-- THE SECOND FORM's CARD OF 'noonlaw4.TreeAll'. -/
def treeAllUptoCard : Claim7 := { stood := { row := treeAllUptoRow, standIns := [], harness := (true, "60b9fcc38ad0e575eca311e09cc0a62cf4b38ff971718a0b4d660ec45bee6cad"), looks := true }, kinds := [], alts := [], laidByText := true, laidKinds := [.handle], laidTests := true, laidLooks := .later }
def TreeAllUptoCardSaid : Prop := Claim7.holds Tryd.pinned (.plain (OpenSpec.upto treeAllSpec)) treeAllUptoCard
end Rows
end Go.Proofs.YtjdeeeefapijeaeDoor
