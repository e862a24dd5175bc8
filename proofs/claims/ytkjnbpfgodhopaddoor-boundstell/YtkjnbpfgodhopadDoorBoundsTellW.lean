/- From what package bounds must answer to the law BoundsTell. -/
import Derived.Test.YtkjnbpfgodhopadDoorBoundsMore
import Derived.Test.YtkjnbpfgodhopadDoorBoundsTellA
import Derived.Test.YtkjnbpfgodhopadDoorBoundsTellB
namespace Go.Proofs.YtkjnbpfgodhopadDoor.boundsTell
open Go.ChangeShapes Go.WideShapes Go.ChangeAt Go.RowKit Go.Proofs.YtkjnbpfgodhopadDoor.told
set_option linter.unusedVariables false

theorem all_ways (z : Int) (a : Option Addr) (m cap : Nat) (q : Nat → Eg) (x y : Int) (ca : Option Addr) (k cc : Nat) (c : Nat → Int) (w : World) (B : BdA w) (hH : EHanded w a m q) (hK : NHanded w ca k c) (wz : In64 z) (wx : In64 x) (wy : In64 y) (he : EnvE w) :
    Calls Tryd.prog 5 #[.int .i64 z, .slice a m cap, .int .i64 x, .int .i64 y, .slice ca k cc] w fun e w' => e = .returned (.bool true) ∧ Below w.heap.size w w' := by
  have kE := fun u (hu : Below w.heap.size w u) => redges_any z a m cap q u (hH.on hu)
  have kC := fun u (hu : Below w.heap.size w u) => B.check z a m cap q u hu (hH.on hu) wz
  by_cases h : eE z q m = 0
  · have hE := eE_zero h
    obtain ⟨n, rfl⟩ : ∃ n : Nat, z = n := ⟨z.toNat, by have := hE.n1; omega⟩
    obtain ⟨fb, fe, hF⟩ := fitA_some n q m k c
    obtain ⟨ae, T, hA⟩ := allA_some hE
    obtain ⟨lo, hi, be, hB⟩ := betA_some h hA x y
    rw [h] at kE kC
    exact good n a m cap q x y ca k cc c fb fe w he hE h hH hK hF ae T hA lo hi be hB kE kC
      (fun u hu => B.fits n a m cap q ca k cc c fb fe u hu (hH.on hu) (hK.on hu) wz hF)
      (fun u hu => B.all n a m cap q ae T u hu (hH.on hu) wz (Or.inr ⟨h, by rw [Int.toNat_natCast]; exact hA⟩))
      (fun u hu => B.between n a m cap q x y lo hi be u hu (hH.on hu) wz wx wy hB)
  · exact wrong z a m cap x y ca k cc (eE z q m) tb0 w he h hH.1 hK.1 kE kC
      (fun u hu => B.fits z a m cap q ca k cc c false _ u hu (hH.on hu) (hK.on hu) wz (Or.inl ⟨h, rfl, rfl⟩))
      (fun u hu => B.all z a m cap q _ tb0 u hu (hH.on hu) wz (Or.inl ⟨h, rfl⟩))
      (fun u hu => B.between z a m cap q x y 0 0 _ u hu (hH.on hu) wz wx wy (Or.inl ⟨h, rfl, rfl, rfl⟩))
end Go.Proofs.YtkjnbpfgodhopadDoor.boundsTell
