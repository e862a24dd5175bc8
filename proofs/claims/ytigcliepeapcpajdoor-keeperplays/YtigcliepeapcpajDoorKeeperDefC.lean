/- What package keeper must answer: Crash, Kept. -/
import Derived.Test.YtigcliepeapcpajDoorKeeperDef
namespace Go.Proofs.YtigcliepeapcpajDoor
open Go.ChangeShapes Go.WideShapes Go.ChangeAt Go.RowKit
set_option linter.unusedVariables false

structure KqC (w0 : World) extends Kq w0 where
  crash : ∀ (b : Nat) (c : Kp) (m : Nat) (u : World), Below w0.heap.size w0 u → w0.heap.size ≤ b → R u b c → c.I m → m ≤ 1000 → Calls Tryd.prog 6 #[.pointer (some ⟨b, 0, none⟩)] u fun o w' => o = .returned (.tuple #[]) ∧ R w' b c.crashC ∧ Keeps (fun k => k = b) u w'
  kept : ∀ (b : Nat) (c : Kp) (m : Nat) (u : World), Below w0.heap.size w0 u → w0.heap.size ≤ b → R u b c → c.I m → m ≤ 1000 → Calls Tryd.prog 9 #[.pointer (some ⟨b, 0, none⟩)] u fun o w' => o = .returned (.int .i64 c.k) ∧ R w' b c ∧ Keeps (fun k => k = b) u w'
end Go.Proofs.YtigcliepeapcpajDoor
