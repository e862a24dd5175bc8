/-
  DERIVED. GIVEN WITH THE SEED: THE CARDS: each row of YtiebojccnaelbaeDoorRows.lean that lists a variable, with what it lists TIED to the program's text (the seventh form; the later family's looks); each row that meets fmt, with fmt's text TOLD by the authors' own Lean function (tested against real Go, not proved from fmt's source: count such statements apart). THE CARD IS WHAT COUNTS. Prove the row's statement (the work); the ties are given (YtiebojccnaelbaeDoorTie.lean); close each card by the builder's one call (the guide's Derived/Test/ToyasCard.lean, 'card_holds'). Laid BY PROGRAM, IN A SANDBOX (cutbox-door.mjs). By AI agents, Wed Nov 11 2026. No macro, syntax, notation, axiom, sorry.
-/
import Derived.Test.YtiebojccnaelbaeDoorRows
import GoSem.ClaimSeven
namespace Go.Proofs.YtiebojccnaelbaeDoor
namespace Rows

/-- THE TIED CARD OF 'noonlaw1.LoopsTell'. -/
def loopsTellCard : Claim7 := { stood := { row := loopsTellRow, standIns := [], harness := (true, "dc6dcbf3f992230eb0f9051e78653fab3a551c1095ec274a3d2ff967bdbd08ce"), looks := true }, kinds := [], alts := [], laidByText := true, laidKinds := [.handle], laidTests := true, laidLooks := .later }
def LoopsTellCardSaid : Prop := Claim7.holds Tryd.pinned (.plain (OpenSpec.ofChange loopsTellSpec)) loopsTellCard

/-- THE TIED CARD OF 'noonlaw1.LoopsProve'. -/
def loopsProveCard : Claim7 := { stood := { row := loopsProveRow, standIns := [], harness := (true, "dc6dcbf3f992230eb0f9051e78653fab3a551c1095ec274a3d2ff967bdbd08ce"), looks := true }, kinds := [], alts := [], laidByText := true, laidKinds := [.handle], laidTests := true, laidLooks := .later }
def LoopsProveCardSaid : Prop := Claim7.holds Tryd.pinned (.plain (OpenSpec.ofChange loopsProveSpec)) loopsProveCard

/-- THE TIED CARD OF 'noonlaw4.LoopsAround'. -/
def loopsAroundCard : Claim7 := { stood := { row := loopsAroundRow, standIns := [], harness := (true, "dc6dcbf3f992230eb0f9051e78653fab3a551c1095ec274a3d2ff967bdbd08ce"), looks := true }, kinds := [], alts := [], laidByText := true, laidKinds := [.handle], laidTests := true, laidLooks := .later }
def LoopsAroundCardSaid : Prop := Claim7.holds Tryd.pinned (.plain (OpenSpec.ofChange loopsAroundSpec)) loopsAroundCard

/-- THE SECOND FORM's CARD OF 'noonlaw1.LoopsTell'. -/
def loopsTellUptoCard : Claim7 := { stood := { row := loopsTellUptoRow, standIns := [], harness := (true, "dc6dcbf3f992230eb0f9051e78653fab3a551c1095ec274a3d2ff967bdbd08ce"), looks := true }, kinds := [], alts := [], laidByText := true, laidKinds := [.handle], laidTests := true, laidLooks := .later }
def LoopsTellUptoCardSaid : Prop := Claim7.holds Tryd.pinned (.plain (OpenSpec.upto loopsTellSpec)) loopsTellUptoCard

/-- THE SECOND FORM's CARD OF 'noonlaw1.LoopsProve'. -/
def loopsProveUptoCard : Claim7 := { stood := { row := loopsProveUptoRow, standIns := [], harness := (true, "dc6dcbf3f992230eb0f9051e78653fab3a551c1095ec274a3d2ff967bdbd08ce"), looks := true }, kinds := [], alts := [], laidByText := true, laidKinds := [.handle], laidTests := true, laidLooks := .later }
def LoopsProveUptoCardSaid : Prop := Claim7.holds Tryd.pinned (.plain (OpenSpec.upto loopsProveSpec)) loopsProveUptoCard

/-- THE SECOND FORM's CARD OF 'noonlaw4.LoopsAround'. -/
def loopsAroundUptoCard : Claim7 := { stood := { row := loopsAroundUptoRow, standIns := [], harness := (true, "dc6dcbf3f992230eb0f9051e78653fab3a551c1095ec274a3d2ff967bdbd08ce"), looks := true }, kinds := [], alts := [], laidByText := true, laidKinds := [.handle], laidTests := true, laidLooks := .later }
def LoopsAroundUptoCardSaid : Prop := Claim7.holds Tryd.pinned (.plain (OpenSpec.upto loopsAroundSpec)) loopsAroundUptoCard
end Rows
end Go.Proofs.YtiebojccnaelbaeDoor
