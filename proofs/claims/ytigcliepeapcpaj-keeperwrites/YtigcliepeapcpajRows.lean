/-
  No cell of these rows narrows 'for every input' (looked for: loops, veiled, ifaces, maps, wideKeys, modest, calm, conditions, laid).
  DERIVED. THE GIVEN ROWS OF THIS SEAT. 4 by the template 'for every input the law returns true; each argument reads behind the call as it read before'; 0 by the template 'total and deterministic' (their statements: YtigcliepeapcpajTotals.lean).
  GIVEN WITH THE SEED: the statements are not yours to turn. If you find one false, say at which input.
  Laid BY PROGRAM, IN A SANDBOX (cutbox-rows.mjs): the forced cells as the released guide's own fill.sh prints them over the translation bfcd6048fa42401a… (all of the seat's roots in one cut). By AI agents, Wed Nov 11 2026. No macro, syntax, notation, axiom, sorry.
-/
import Derived.Test.YtigcliepeapcpajChecked
import GoSem.Claim
import GoSem.ClaimJoined
import GoSem.ClaimMapViews
import Derived.JoinedTies
import Derived.KernelRfl
namespace Go.Proofs.Ytigcliepeapcpaj
/- THE CELL 'sum', in the pinned program and in every row, IS THE sha256 OF THE DUMP (.gsa) THAT YtigcliepeapcpajProg.lean LOADS. Nothing in Lean hashes anything: it is a label: what it is worth is what the hold of that sum in a sandbox is worth. -/
noncomputable def Try.pinned : Pinned := { name := "ytigcliepeapcpaj", sum := "bfcd6048fa42401a5f7b7b16d047bf7d1a7f0ebf7bba83e048e514c20a1c6b95", checked := Try.checked }
namespace Rows
def none {H : Type} : Left H := { results := [], args := [] }

/-- 'noonlaw4.WireLong': WHATEVER THE INPUT: true; the input reads as it did. -/
def wireLongSpec : ChangeSpec := { name := "wireLong", fn := fun _ => fun
  | [d] => { results := [.lit (.bool true)], args := [d] }
  | _ => none }
def wireLongRow : OpenClaim := { program := "ytigcliepeapcpaj", sum := "bfcd6048fa42401a5f7b7b16d047bf7d1a7f0ebf7bba83e048e514c20a1c6b95", func := "noonmark/noonlaw4.WireLong", spec := "wireLong", apart := false }
def WireLongSaid : Prop := wireLongRow.holds Try.pinned (OpenSpec.ofChange wireLongSpec)

/-- ITS FALSE NEIGHBOUR: 'it returns false'. Refute it at one input. -/
def wireLongWrong : ChangeSpec := { name := "wireLong", fn := fun _ => fun
  | [d] => { results := [.lit (.bool false)], args := [d] }
  | _ => none }
def WireLongWrongFalsely : Prop := wireLongRow.holds Try.pinned (OpenSpec.ofChange wireLongWrong)

/-- 'noontop.TopWires': WHATEVER THE INPUT: true; the input reads as it did. -/
def topWiresSpec : ChangeSpec := { name := "topWires", fn := fun _ => fun
  | [d1, d2, d3, d4, d5, d6] => { results := [.lit (.bool true)], args := [d1, d2, d3, d4, d5, d6] }
  | _ => none }
def topWiresRow : OpenClaim := { program := "ytigcliepeapcpaj", sum := "bfcd6048fa42401a5f7b7b16d047bf7d1a7f0ebf7bba83e048e514c20a1c6b95", func := "noonmark/noontop.TopWires", spec := "topWires", unfollowed := true, recurses := true, apart := false }
def TopWiresSaid : Prop := topWiresRow.holds Try.pinned (OpenSpec.ofChange topWiresSpec)

/-- ITS FALSE NEIGHBOUR: 'it returns false'. Refute it at one input. -/
def topWiresWrong : ChangeSpec := { name := "topWires", fn := fun _ => fun
  | [d1, d2, d3, d4, d5, d6] => { results := [.lit (.bool false)], args := [d1, d2, d3, d4, d5, d6] }
  | _ => none }
def TopWiresWrongFalsely : Prop := topWiresRow.holds Try.pinned (OpenSpec.ofChange topWiresWrong)

/-- 'noonlaw3.KeeperRises': WHATEVER THE INPUT: true; the input reads as it did. -/
def keeperRisesSpec : ChangeSpec := { name := "keeperRises", fn := fun _ => fun
  | [d1, d2] => { results := [.lit (.bool true)], args := [d1, d2] }
  | _ => none }
def keeperRisesRow : OpenClaim := { program := "ytigcliepeapcpaj", sum := "bfcd6048fa42401a5f7b7b16d047bf7d1a7f0ebf7bba83e048e514c20a1c6b95", func := "noonmark/noonlaw3.KeeperRises", spec := "keeperRises", apart := false }
def KeeperRisesSaid : Prop := keeperRisesRow.holds Try.pinned (OpenSpec.ofChange keeperRisesSpec)

/-- ITS FALSE NEIGHBOUR: 'it returns false'. Refute it at one input. -/
def keeperRisesWrong : ChangeSpec := { name := "keeperRises", fn := fun _ => fun
  | [d1, d2] => { results := [.lit (.bool false)], args := [d1, d2] }
  | _ => none }
def KeeperRisesWrongFalsely : Prop := keeperRisesRow.holds Try.pinned (OpenSpec.ofChange keeperRisesWrong)

/-- 'noonlaw4.KeeperWrites': WHATEVER THE INPUT: true; the input reads as it did. -/
def keeperWritesSpec : ChangeSpec := { name := "keeperWrites", fn := fun _ => fun
  | [d1, d2] => { results := [.lit (.bool true)], args := [d1, d2] }
  | _ => none }
def keeperWritesRow : OpenClaim := { program := "ytigcliepeapcpaj", sum := "bfcd6048fa42401a5f7b7b16d047bf7d1a7f0ebf7bba83e048e514c20a1c6b95", func := "noonmark/noonlaw4.KeeperWrites", spec := "keeperWrites", apart := false }
def KeeperWritesSaid : Prop := keeperWritesRow.holds Try.pinned (OpenSpec.ofChange keeperWritesSpec)

/-- ITS FALSE NEIGHBOUR: 'it returns false'. Refute it at one input. -/
def keeperWritesWrong : ChangeSpec := { name := "keeperWrites", fn := fun _ => fun
  | [d1, d2] => { results := [.lit (.bool false)], args := [d1, d2] }
  | _ => none }
def KeeperWritesWrongFalsely : Prop := keeperWritesRow.holds Try.pinned (OpenSpec.ofChange keeperWritesWrong)

/- THE SECOND FORM. 'bulk': how many values and letters a reading holds, each counted each time it is reached (what is shared counts as often as it is met; a slice's spare places count too). A statement '..UptoSaid' is the law's where the arguments, and the package variables that the reading takes, are together of bulk at most 1048576: NARROWER than '..Said'. Prove '..Said' where nothing that the law and all that it calls make is longer than what came in: it says more and counts as full. Else prove '..UptoSaid'. A law counts once. -/
mutual
def uptoBulk {H : Type} : DataW H → Nat
  | .lit (.string bytes) => bytes.length + 1
  | .lit _ => 1
  | .nil => 1
  | .ptr d => uptoBulk d + 1
  | .slice elems spare => uptoBulkAll elems + uptoBulkAll spare + 1
  | .agg parts => uptoBulkAll parts + 1
  | .iface _ d => uptoBulk d + 1
  | .map entries => uptoBulkEntries entries + 1
  | .held _ => 1
def uptoBulkAll {H : Type} : List (DataW H) → Nat
  | [] => 0
  | d :: r => uptoBulk d + uptoBulkAll r
def uptoBulkEntries {H : Type} : List (Lit × DataW H) → Nat
  | [] => 0
  | x :: r => uptoBulkEntry x + uptoBulkEntries r
def uptoBulkEntry {H : Type} : Lit × DataW H → Nat
  | (.string bytes, d) => bytes.length + uptoBulk d + 1
  | (_, d) => uptoBulk d + 1
 end
def uptoSmall : (H : Type) → List (DataW H) → Bool := fun _ ds => decide (uptoBulkAll ds ≤ 1048576)
def OpenSpec.upto (s : _root_.Go.ChangeSpec) : _root_.Go.OpenSpec := { _root_.Go.OpenSpec.ofChange s with cond := some uptoSmall }

/-- 'noonlaw4.WireLong', WHERE WHAT IT READS IS OF BULK AT MOST 1048576: true; the input reads as it did. -/
def wireLongUptoRow : OpenClaim := { program := "ytigcliepeapcpaj", sum := "bfcd6048fa42401a5f7b7b16d047bf7d1a7f0ebf7bba83e048e514c20a1c6b95", func := "noonmark/noonlaw4.WireLong", spec := "wireLong", apart := false, narrowed := true }
def WireLongUptoSaid : Prop := wireLongUptoRow.holds Try.pinned (OpenSpec.upto wireLongSpec)

/-- 'noontop.TopWires', WHERE WHAT IT READS IS OF BULK AT MOST 1048576: true; the input reads as it did. -/
def topWiresUptoRow : OpenClaim := { program := "ytigcliepeapcpaj", sum := "bfcd6048fa42401a5f7b7b16d047bf7d1a7f0ebf7bba83e048e514c20a1c6b95", func := "noonmark/noontop.TopWires", spec := "topWires", unfollowed := true, recurses := true, apart := false, narrowed := true }
def TopWiresUptoSaid : Prop := topWiresUptoRow.holds Try.pinned (OpenSpec.upto topWiresSpec)

/-- 'noonlaw3.KeeperRises', WHERE WHAT IT READS IS OF BULK AT MOST 1048576: true; the input reads as it did. -/
def keeperRisesUptoRow : OpenClaim := { program := "ytigcliepeapcpaj", sum := "bfcd6048fa42401a5f7b7b16d047bf7d1a7f0ebf7bba83e048e514c20a1c6b95", func := "noonmark/noonlaw3.KeeperRises", spec := "keeperRises", apart := false, narrowed := true }
def KeeperRisesUptoSaid : Prop := keeperRisesUptoRow.holds Try.pinned (OpenSpec.upto keeperRisesSpec)

/-- 'noonlaw4.KeeperWrites', WHERE WHAT IT READS IS OF BULK AT MOST 1048576: true; the input reads as it did. -/
def keeperWritesUptoRow : OpenClaim := { program := "ytigcliepeapcpaj", sum := "bfcd6048fa42401a5f7b7b16d047bf7d1a7f0ebf7bba83e048e514c20a1c6b95", func := "noonmark/noonlaw4.KeeperWrites", spec := "keeperWrites", apart := false, narrowed := true }
def KeeperWritesUptoSaid : Prop := keeperWritesUptoRow.holds Try.pinned (OpenSpec.upto keeperWritesSpec)

end Rows
end Go.Proofs.Ytigcliepeapcpaj
