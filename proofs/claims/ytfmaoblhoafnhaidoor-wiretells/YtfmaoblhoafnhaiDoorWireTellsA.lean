/- The ways through the law WireTells. -/
import Derived.Test.YtfmaoblhoafnhaiDoorWireDefC
import Derived.Test.YtfmaoblhoafnhaiDoorWireRefB
import Derived.Deep.QuietTactic
import Derived.Deep.RegionHeld
import Derived.Test.YtfmaoblhoafnhaiDoorTold
namespace Go.Proofs.YtfmaoblhoafnhaiDoor.wireTells
open Go.ChangeShapes Go.WideShapes Go.ChangeAt Go.RowKit Go.Joins Go.Proofs.YtfmaoblhoafnhaiDoor.told
set_option linter.unusedVariables false
set_option linter.unusedSimpArgs false

theorem error_w (f : Int) (w : World) (he : EnvE w) : Calls Tryd.prog 5 #[errc f, .int .i64 f] w fun e w' => e = .returned (.bool true) ∧ Below w.heap.size w w' := error_same f w he
set_option maxRecDepth 100000 in
set_option maxHeartbeats 40000000 in
theorem ways (l1 l2 : Int) (l3 : Bool) (l4 l5 l6 : Int) (s : ByteArray) (x1 x2 : Int) (t : ByteArray) (w : World) (he : EnvE w) (e1 : Int) (g1 : ByteArray) (m1 m2 : Int) (m3 : Bool) (m4 m5 m6 : Int) (b2 : Bool) (e2 : Int) (b3 : Bool) (e3 : Int) (g2 : ByteArray) (y1 y2 : Int) (b4 : Bool) (e4 : Int)
    (n1 : Hid (e1 ≠ 0 → g1 = ⟨#[]⟩)) (n2 : Hid (e2 = if b2 = true then 0 else 2)) (n3 : Hid (e3 = if b3 = true then 0 else 1)) (n3' : Hid (b3 = false → g2 = ⟨#[]⟩)) (n4 : Hid (e4 = if b4 = true then 0 else 2))
    (cA : Hid (∀ u, Below w.heap.size w u → Calls Tryd.prog 4 #[.agg #[.int .i64 l1, .int .i64 l2, .bool l3, .int .i64 l4, .int .i64 l5, .int .i64 l6]] u fun o w' => o = .returned (.int .i64 e1) ∧ Below u.heap.size u w'))
    (cC : Hid (∀ u, Below w.heap.size w u → Calls Tryd.prog 6 #[.agg #[.int .i64 l1, .int .i64 l2, .bool l3, .int .i64 l4, .int .i64 l5, .int .i64 l6]] u fun o w' => o = .returned (errc e1) ∧ Below u.heap.size u w'))
    (cB : Hid (e1 = 0 → ∀ u, Below w.heap.size w u → Calls Tryd.prog 7 #[.agg #[.int .i64 l1, .int .i64 l2, .bool l3, .int .i64 l4, .int .i64 l5, .int .i64 l6]] u fun o w' => o = .returned (.string g1) ∧ Below u.heap.size u w'))
    (cL : Hid (∀ u, Below w.heap.size w u → Calls Tryd.prog 8 #[.agg #[.int .i64 l1, .int .i64 l2, .bool l3, .int .i64 l4, .int .i64 l5, .int .i64 l6]] u fun o w' => o = .returned (.tuple #[.string g1, errc e1]) ∧ Below u.heap.size u w'))
    (cR : Hid (∀ u, Below w.heap.size w u → Calls Tryd.prog 9 #[.string s] u fun o w' => o = .returned (.tuple #[.agg #[.int .i64 m1, .int .i64 m2, .bool m3, .int .i64 m4, .int .i64 m5, .int .i64 m6], .bool b2]) ∧ Below u.heap.size u w'))
    (cK : Hid (∀ u, Below w.heap.size w u → Calls Tryd.prog 10 #[.string s] u fun o w' => o = .returned (.tuple #[.agg #[.int .i64 m1, .int .i64 m2, .bool m3, .int .i64 m4, .int .i64 m5, .int .i64 m6], errc e2]) ∧ Below u.heap.size u w'))
    (cO : Hid (∀ u, Below w.heap.size w u → Calls Tryd.prog 11 #[.agg #[.int .i64 x1, .int .i64 x2]] u fun o w' => o = .returned (.bool b3) ∧ Below u.heap.size u w'))
    (cP : Hid (b3 = true → ∀ u, Below w.heap.size w u → Calls Tryd.prog 12 #[.agg #[.int .i64 x1, .int .i64 x2]] u fun o w' => o = .returned (.string g2) ∧ Below u.heap.size u w'))
    (cS : Hid (∀ u, Below w.heap.size w u → Calls Tryd.prog 13 #[.agg #[.int .i64 x1, .int .i64 x2]] u fun o w' => o = .returned (.tuple #[.string g2, errc e3]) ∧ Below u.heap.size u w'))
    (cT : Hid (∀ u, Below w.heap.size w u → Calls Tryd.prog 14 #[.string t] u fun o w' => o = .returned (.tuple #[.agg #[.int .i64 y1, .int .i64 y2], .bool b4]) ∧ Below u.heap.size u w'))
    (cU : Hid (∀ u, Below w.heap.size w u → Calls Tryd.prog 15 #[.string t] u fun o w' => o = .returned (.tuple #[.agg #[.int .i64 y1, .int .i64 y2], errc e4]) ∧ Below u.heap.size u w')) :
    Calls Tryd.prog 3 #[.agg #[.int .i64 l1, .int .i64 l2, .bool l3, .int .i64 l4, .int .i64 l5, .int .i64 l6], .string s, .agg #[.int .i64 x1, .int .i64 x2], .string t] w fun o w' => o = .returned (.bool true) ∧ Below w.heap.size w w' := by
  have cE : Hid (∀ f u, Below w.heap.size w u → Calls Tryd.prog 5 #[errc f, .int .i64 f] u fun o w' => o = .returned (.bool true) ∧ Below u.heap.size u w') := fun f u hu => error_w f u (he.below hu)
  clear he
  go_enter Tryd.func3, Tryd.ntmps3
  go_upto_region 1 with (fail)
  have B0 : Hid (Below w.heap.size w ((w.alloc (Obj.cells #[.int .i64 l1, .int .i64 l2, .bool l3, .int .i64 l4, .int .i64 l5, .int .i64 l6] 23)).alloc (Obj.cells #[.int .i64 x1, .int .i64 x2] 25))) := rbel_al (rbel_al (Below.refl _ _))
  have L0 : Hid (Row ((w.alloc (Obj.cells #[.int .i64 l1, .int .i64 l2, .bool l3, .int .i64 l4, .int .i64 l5, .int .i64 l6] 23)).alloc (Obj.cells #[.int .i64 x1, .int .i64 x2] 25)) w.heap.size [.int .i64 l1, .int .i64 l2, .bool l3, .int .i64 l4, .int .i64 l5, .int .i64 l6]) := Row.al (Row.made rfl)
  have X0 : Hid (Row ((w.alloc (Obj.cells #[.int .i64 l1, .int .i64 l2, .bool l3, .int .i64 l4, .int .i64 l5, .int .i64 l6] 23)).alloc (Obj.cells #[.int .i64 x1, .int .i64 x2] 25)) (w.heap.size + 1) [.int .i64 x1, .int .i64 x2]) := Row.made (by simp)
  generalize ((w.alloc (Obj.cells #[.int .i64 l1, .int .i64 l2, .bool l3, .int .i64 l4, .int .i64 l5, .int .i64 l6] 23)).alloc (Obj.cells #[.int .i64 x1, .int .i64 x2] 25)) = W at *
  have l0_0 := L0.out.c 0 _ rfl
  have l0_1 := L0.out.c 1 _ rfl
  have l0_2 := L0.out.c 2 _ rfl
  have l0_3 := L0.out.c 3 _ rfl
  have l0_4 := L0.out.c 4 _ rfl
  have l0_5 := L0.out.c 5 _ rfl
  have l0_z := L0.out.lt
  have x0_0 := X0.out.c 0 _ rfl
  have x0_1 := X0.out.c 1 _ rfl
  have x0_z := X0.out.lt
  go_upto_if 30 with (first
    | (go_at_call 4; refine (cA.out _ B0.out).mono ?_; rintro o u1 ⟨rfl, hb⟩; have B1 : Hid (Below w.heap.size w u1) := rbel_on hb B0.out; have L1 : Hid (Row u1 w.heap.size [.int .i64 l1, .int .i64 l2, .bool l3, .int .i64 l4, .int .i64 l5, .int .i64 l6]) := Row.on hb L0.out; have l1_0 := L1.out.c 0 _ rfl; have l1_1 := L1.out.c 1 _ rfl; have l1_2 := L1.out.c 2 _ rfl; have l1_3 := L1.out.c 3 _ rfl; have l1_4 := L1.out.c 4 _ rfl; have l1_5 := L1.out.c 5 _ rfl; have l1_z := L1.out.lt; have X1 : Hid (Row u1 (w.heap.size + 1) [.int .i64 x1, .int .i64 x2]) := Row.on hb X0.out; have x1_0 := X1.out.c 0 _ rfl; have x1_1 := X1.out.c 1 _ rfl; have x1_z := X1.out.lt; clear hb)
    | (go_at_call 6; refine (cC.out _ B1.out).mono ?_; rintro o u2 ⟨rfl, hb⟩; have B2 : Hid (Below w.heap.size w u2) := rbel_on hb B1.out; have L2 : Hid (Row u2 w.heap.size [.int .i64 l1, .int .i64 l2, .bool l3, .int .i64 l4, .int .i64 l5, .int .i64 l6]) := Row.on hb L1.out; have l2_0 := L2.out.c 0 _ rfl; have l2_1 := L2.out.c 1 _ rfl; have l2_2 := L2.out.c 2 _ rfl; have l2_3 := L2.out.c 3 _ rfl; have l2_4 := L2.out.c 4 _ rfl; have l2_5 := L2.out.c 5 _ rfl; have l2_z := L2.out.lt; have X2 : Hid (Row u2 (w.heap.size + 1) [.int .i64 x1, .int .i64 x2]) := Row.on hb X1.out; have x2_0 := X2.out.c 0 _ rfl; have x2_1 := X2.out.c 1 _ rfl; have x2_z := X2.out.lt; clear hb)
    | (go_at_call 5; refine (cE.out _ _ B2.out).mono ?_; rintro o u3 ⟨rfl, hb⟩; have B3 : Hid (Below w.heap.size w u3) := rbel_on hb B2.out; have L3 : Hid (Row u3 w.heap.size [.int .i64 l1, .int .i64 l2, .bool l3, .int .i64 l4, .int .i64 l5, .int .i64 l6]) := Row.on hb L2.out; have l3_0 := L3.out.c 0 _ rfl; have l3_1 := L3.out.c 1 _ rfl; have l3_2 := L3.out.c 2 _ rfl; have l3_3 := L3.out.c 3 _ rfl; have l3_4 := L3.out.c 4 _ rfl; have l3_5 := L3.out.c 5 _ rfl; have l3_z := L3.out.lt; have X3 : Hid (Row u3 (w.heap.size + 1) [.int .i64 x1, .int .i64 x2]) := Row.on hb X2.out; have x3_0 := X3.out.c 0 _ rfl; have x3_1 := X3.out.c 1 _ rfl; have x3_z := X3.out.lt; clear hb))
  go_cut [11] from 31 to 32 (fun v w' => v = .string g1 ∧ Below w.heap.size w w' ∧ Row w' w.heap.size [.int .i64 l1, .int .i64 l2, .bool l3, .int .i64 l4, .int .i64 l5, .int .i64 l6] ∧ Row w' (w.heap.size + 1) [.int .i64 x1, .int .i64 x2])
  case first =>
    clear cA cC cL cR cK cO cP cS cT cU cE
    by_cases z : e1 = 0
    · have cB0 := cB.out z
      subst z
      go_wp2_with (go_at_call 7; refine (cB0 _ B3.out).mono ?_; rintro o u4 ⟨rfl, hb⟩; have B4 : Hid (Below w.heap.size w u4) := rbel_on hb B3.out; have L4 : Hid (Row u4 w.heap.size [.int .i64 l1, .int .i64 l2, .bool l3, .int .i64 l4, .int .i64 l5, .int .i64 l6]) := Row.on hb L3.out; have X4 : Hid (Row u4 (w.heap.size + 1) [.int .i64 x1, .int .i64 x2]) := Row.on hb X3.out; clear hb)
      go_meet
      case rel => exact ⟨rfl, B4.out, L4.out, X4.out⟩
    · have z' : (e1 == 0) = false := by simpa using z
      have eg : Hid (g1 = ⟨#[]⟩) := n1.out z
      go_wp2
      go_meet
      case rel => exact ⟨by rw [eg.out], B3.out, L3.out, X3.out⟩
  case rest =>
    obtain ⟨rfl, hB, hL, hX⟩ := hcut
    have B4 : Hid (Below w.heap.size w wc) := hB
    have L4 : Hid (Row wc w.heap.size [.int .i64 l1, .int .i64 l2, .bool l3, .int .i64 l4, .int .i64 l5, .int .i64 l6]) := hL
    have X4 : Hid (Row wc (w.heap.size + 1) [.int .i64 x1, .int .i64 x2]) := hX
    clear hB hL hX B0 L0 X0 B1 L1 X1 B2 L2 X2 B3 L3 X3 cA cC cB
    have l4_0 := L4.out.c 0 _ rfl
    have l4_1 := L4.out.c 1 _ rfl
    have l4_2 := L4.out.c 2 _ rfl
    have l4_3 := L4.out.c 3 _ rfl
    have l4_4 := L4.out.c 4 _ rfl
    have l4_5 := L4.out.c 5 _ rfl
    have l4_z := L4.out.lt
    have x4_0 := X4.out.c 0 _ rfl
    have x4_1 := X4.out.c 1 _ rfl
    have x4_z := X4.out.lt
    go_upto_if 52 with (first
        | (go_at_call 8; refine (cL.out _ B4.out).mono ?_; rintro o u5 ⟨rfl, hb⟩; have B5 : Hid (Below w.heap.size w u5) := rbel_on hb B4.out; have X5 : Hid (Row u5 (w.heap.size + 1) [.int .i64 x1, .int .i64 x2]) := Row.on hb X4.out; have x5_0 := X5.out.c 0 _ rfl; have x5_1 := X5.out.c 1 _ rfl; have x5_z := X5.out.lt; clear hb)
        | (go_at_call 5; refine (cE.out _ _ B5.out).mono ?_; rintro o u6 ⟨rfl, hb⟩; have B6 : Hid (Below w.heap.size w u6) := rbel_on hb B5.out; have X6 : Hid (Row u6 (w.heap.size + 1) [.int .i64 x1, .int .i64 x2]) := Row.on hb X5.out; have x6_0 := X6.out.c 0 _ rfl; have x6_1 := X6.out.c 1 _ rfl; have x6_z := X6.out.lt; clear hb)
        | (go_at_call 9; refine (cR.out _ B6.out).mono ?_; rintro o u7 ⟨rfl, hb⟩; have B7 : Hid (Below w.heap.size w (u7.alloc (Obj.cells #[.int .i64 m1, .int .i64 m2, .bool m3, .int .i64 m4, .int .i64 m5, .int .i64 m6] 23))) := rbel_al (rbel_on hb B6.out); have X7 : Hid (Row (u7.alloc (Obj.cells #[.int .i64 m1, .int .i64 m2, .bool m3, .int .i64 m4, .int .i64 m5, .int .i64 m6] 23)) (w.heap.size + 1) [.int .i64 x1, .int .i64 x2]) := Row.al (Row.on hb X6.out); have x7_0 := X7.out.c 0 _ rfl; have x7_1 := X7.out.c 1 _ rfl; have x7_z := X7.out.lt; have M7 : Hid (Row (u7.alloc (Obj.cells #[.int .i64 m1, .int .i64 m2, .bool m3, .int .i64 m4, .int .i64 m5, .int .i64 m6] 23)) u7.heap.size [.int .i64 m1, .int .i64 m2, .bool m3, .int .i64 m4, .int .i64 m5, .int .i64 m6]) := Row.made rfl; have m7_0 := M7.out.c 0 _ rfl; have m7_1 := M7.out.c 1 _ rfl; have m7_2 := M7.out.c 2 _ rfl; have m7_3 := M7.out.c 3 _ rfl; have m7_4 := M7.out.c 4 _ rfl; have m7_5 := M7.out.c 5 _ rfl; have m7_z := M7.out.lt; clear hb))
    generalize hW7 : (u7.alloc (Obj.cells #[.int .i64 m1, .int .i64 m2, .bool m3, .int .i64 m4, .int .i64 m5, .int .i64 m6] 23)) = W7 at *
    generalize u7.heap.size = gM at *
    go_cut [9] from 52 to 52 (fun v w' => v = .int .i64 e2 ∧ Below w.heap.size w w' ∧ Row w' (w.heap.size + 1) [.int .i64 x1, .int .i64 x2] ∧ Row w' gM [.int .i64 m1, .int .i64 m2, .bool m3, .int .i64 m4, .int .i64 m5, .int .i64 m6])
    case first =>
      clear cL cR cK cO cP cS cT cU cE
      cases b2
      · have n2' : Hid (e2 = 2) := n2.out
        go_wp2
        go_meet
        case rel => exact ⟨by rw [n2'.out], B7.out, X7.out, M7.out⟩
      · have n2' : Hid (e2 = 0) := n2.out
        go_wp2
        go_meet
        case rel => exact ⟨by rw [n2'.out], B7.out, X7.out, M7.out⟩
    case rest =>
      obtain ⟨rfl, hB, hX, hM⟩ := hcut
      have B8 : Hid (Below w.heap.size w wc) := hB
      have X8 : Hid (Row wc (w.heap.size + 1) [.int .i64 x1, .int .i64 x2]) := hX
      have M8 : Hid (Row wc gM [.int .i64 m1, .int .i64 m2, .bool m3, .int .i64 m4, .int .i64 m5, .int .i64 m6]) := hM
      clear hB hX hM cL cR
      have x8_0 := X8.out.c 0 _ rfl
      have x8_1 := X8.out.c 1 _ rfl
      have x8_z := X8.out.lt
      have m8_0 := M8.out.c 0 _ rfl
      have m8_1 := M8.out.c 1 _ rfl
      have m8_2 := M8.out.c 2 _ rfl
      have m8_3 := M8.out.c 3 _ rfl
      have m8_4 := M8.out.c 4 _ rfl
      have m8_5 := M8.out.c 5 _ rfl
      have m8_z := M8.out.lt
      go_upto_if 68 with (first
          | (go_at_call 10; refine (cK.out _ B8.out).mono ?_; rintro o u9 ⟨rfl, hb⟩; have B9 : Hid (Below w.heap.size w (u9.alloc (Obj.cells #[.int .i64 m1, .int .i64 m2, .bool m3, .int .i64 m4, .int .i64 m5, .int .i64 m6] 23))) := rbel_al (rbel_on hb B8.out); have X9 : Hid (Row (u9.alloc (Obj.cells #[.int .i64 m1, .int .i64 m2, .bool m3, .int .i64 m4, .int .i64 m5, .int .i64 m6] 23)) (w.heap.size + 1) [.int .i64 x1, .int .i64 x2]) := Row.al (Row.on hb X8.out); have x9_0 := X9.out.c 0 _ rfl; have x9_1 := X9.out.c 1 _ rfl; have x9_z := X9.out.lt; have M9 : Hid (Row (u9.alloc (Obj.cells #[.int .i64 m1, .int .i64 m2, .bool m3, .int .i64 m4, .int .i64 m5, .int .i64 m6] 23)) gM [.int .i64 m1, .int .i64 m2, .bool m3, .int .i64 m4, .int .i64 m5, .int .i64 m6]) := Row.al (Row.on hb M8.out); have m9_0 := M9.out.c 0 _ rfl; have m9_1 := M9.out.c 1 _ rfl; have m9_2 := M9.out.c 2 _ rfl; have m9_3 := M9.out.c 3 _ rfl; have m9_4 := M9.out.c 4 _ rfl; have m9_5 := M9.out.c 5 _ rfl; have m9_z := M9.out.lt; have K9 : Hid (Row (u9.alloc (Obj.cells #[.int .i64 m1, .int .i64 m2, .bool m3, .int .i64 m4, .int .i64 m5, .int .i64 m6] 23)) u9.heap.size [.int .i64 m1, .int .i64 m2, .bool m3, .int .i64 m4, .int .i64 m5, .int .i64 m6]) := Row.made rfl; have k9_0 := K9.out.c 0 _ rfl; have k9_1 := K9.out.c 1 _ rfl; have k9_2 := K9.out.c 2 _ rfl; have k9_3 := K9.out.c 3 _ rfl; have k9_4 := K9.out.c 4 _ rfl; have k9_5 := K9.out.c 5 _ rfl; have k9_z := K9.out.lt; clear hb)
          | (go_at_call 5; refine (cE.out _ _ B9.out).mono ?_; rintro o u10 ⟨rfl, hb⟩; have B10 : Hid (Below w.heap.size w u10) := rbel_on hb B9.out; have X10 : Hid (Row u10 (w.heap.size + 1) [.int .i64 x1, .int .i64 x2]) := Row.on hb X9.out; have x10_0 := X10.out.c 0 _ rfl; have x10_1 := X10.out.c 1 _ rfl; have x10_z := X10.out.lt; have M10 : Hid (Row u10 gM [.int .i64 m1, .int .i64 m2, .bool m3, .int .i64 m4, .int .i64 m5, .int .i64 m6]) := Row.on hb M9.out; have m10_0 := M10.out.c 0 _ rfl; have m10_1 := M10.out.c 1 _ rfl; have m10_2 := M10.out.c 2 _ rfl; have m10_3 := M10.out.c 3 _ rfl; have m10_4 := M10.out.c 4 _ rfl; have m10_5 := M10.out.c 5 _ rfl; have m10_z := M10.out.lt; have K10 : Hid (Row u10 _ [.int .i64 m1, .int .i64 m2, .bool m3, .int .i64 m4, .int .i64 m5, .int .i64 m6]) := Row.on hb K9.out; have k10_0 := K10.out.c 0 _ rfl; have k10_1 := K10.out.c 1 _ rfl; have k10_2 := K10.out.c 2 _ rfl; have k10_3 := K10.out.c 3 _ rfl; have k10_4 := K10.out.c 4 _ rfl; have k10_5 := K10.out.c 5 _ rfl; have k10_z := K10.out.lt; clear hb)
          | (go_at_call 11; refine (cO.out _ B10.out).mono ?_; rintro o u11 ⟨rfl, hb⟩; have B11 : Hid (Below w.heap.size w u11) := rbel_on hb B10.out; have X11 : Hid (Row u11 (w.heap.size + 1) [.int .i64 x1, .int .i64 x2]) := Row.on hb X10.out; have x11_0 := X11.out.c 0 _ rfl; have x11_1 := X11.out.c 1 _ rfl; have x11_z := X11.out.lt; clear hb))
      go_cut [9, 11] from 68 to 70 (fun v v' w' => v = .int .i64 e3 ∧ v' = .string g2 ∧ Below w.heap.size w w' ∧ Row w' (w.heap.size + 1) [.int .i64 x1, .int .i64 x2])
      case first =>
        clear cK cO cS cT cU cE
        cases b3
        · have n3a : Hid (e3 = 1) := n3.out
          have eg : Hid (g2 = ⟨#[]⟩) := n3'.out rfl
          go_wp2
          go_meet
          case rel => exact ⟨by rw [n3a.out], by rw [eg.out], B11.out, X11.out⟩
        · have n3a : Hid (e3 = 0) := n3.out
          have cP0 := cP.out rfl
          go_wp2_with (go_at_call 12; refine (cP0 _ B11.out).mono ?_; rintro o u12 ⟨rfl, hb⟩; have B12 : Hid (Below w.heap.size w u12) := rbel_on hb B11.out; have X12 : Hid (Row u12 (w.heap.size + 1) [.int .i64 x1, .int .i64 x2]) := Row.on hb X11.out; clear hb)
          go_meet
          case rel => exact ⟨by rw [n3a.out], rfl, B12.out, X12.out⟩
      case rest =>
        obtain ⟨rfl, rfl, hB, hX⟩ := hcut
        have B13 : Hid (Below w.heap.size w wc) := hB
        have X13 : Hid (Row wc (w.heap.size + 1) [.int .i64 x1, .int .i64 x2]) := hX
        clear hB hX cK cO cP
        have x13_0 := X13.out.c 0 _ rfl
        have x13_1 := X13.out.c 1 _ rfl
        have x13_z := X13.out.lt
        go_upto_if 90 with (first
            | (go_at_call 13; refine (cS.out _ B13.out).mono ?_; rintro o u14 ⟨rfl, hb⟩; have B14 : Hid (Below w.heap.size w u14) := rbel_on hb B13.out; have X14 : Hid (Row u14 (w.heap.size + 1) [.int .i64 x1, .int .i64 x2]) := Row.on hb X13.out; have x14_0 := X14.out.c 0 _ rfl; have x14_1 := X14.out.c 1 _ rfl; have x14_z := X14.out.lt; clear hb)
            | (go_at_call 5; refine (cE.out _ _ B14.out).mono ?_; rintro o u15 ⟨rfl, hb⟩; have B15 : Hid (Below w.heap.size w u15) := rbel_on hb B14.out; have X15 : Hid (Row u15 (w.heap.size + 1) [.int .i64 x1, .int .i64 x2]) := Row.on hb X14.out; have x15_0 := X15.out.c 0 _ rfl; have x15_1 := X15.out.c 1 _ rfl; have x15_z := X15.out.lt; clear hb)
            | (go_at_call 14; refine (cT.out _ B15.out).mono ?_; rintro o u16 ⟨rfl, hb⟩; have B16 : Hid (Below w.heap.size w (u16.alloc (Obj.cells #[.int .i64 y1, .int .i64 y2] 25))) := rbel_al (rbel_on hb B15.out); have Y16 : Hid (Row (u16.alloc (Obj.cells #[.int .i64 y1, .int .i64 y2] 25)) u16.heap.size [.int .i64 y1, .int .i64 y2]) := Row.made rfl; have y16_0 := Y16.out.c 0 _ rfl; have y16_1 := Y16.out.c 1 _ rfl; have y16_z := Y16.out.lt; clear hb))
        generalize hW16 : (u16.alloc (Obj.cells #[.int .i64 y1, .int .i64 y2] 25)) = W16 at *
        generalize u16.heap.size = gY at *
        go_cut [9] from 90 to 90 (fun v w' => v = .int .i64 e4 ∧ Below w.heap.size w w' ∧ Row w' gY [.int .i64 y1, .int .i64 y2])
        case first =>
          clear cS cT cU cE
          cases b4
          · have n4' : Hid (e4 = 2) := n4.out
            go_wp2
            go_meet
            case rel => exact ⟨by rw [n4'.out], B16.out, Y16.out⟩
          · have n4' : Hid (e4 = 0) := n4.out
            go_wp2
            go_meet
            case rel => exact ⟨by rw [n4'.out], B16.out, Y16.out⟩
        case rest =>
          obtain ⟨rfl, hB, hY⟩ := hcut
          have B17 : Hid (Below w.heap.size w wc) := hB
          have Y17 : Hid (Row wc gY [.int .i64 y1, .int .i64 y2]) := hY
          clear hB hY cS cT
          have y17_0 := Y17.out.c 0 _ rfl
          have y17_1 := Y17.out.c 1 _ rfl
          have y17_z := Y17.out.lt
          go_wp2_with (first
              | (go_at_call 15; refine (cU.out _ B17.out).mono ?_; rintro o u18 ⟨rfl, hb⟩; have B18 : Hid (Below w.heap.size w (u18.alloc (Obj.cells #[.int .i64 y1, .int .i64 y2] 25))) := rbel_al (rbel_on hb B17.out); have Y18 : Hid (Row (u18.alloc (Obj.cells #[.int .i64 y1, .int .i64 y2] 25)) gY [.int .i64 y1, .int .i64 y2]) := Row.al (Row.on hb Y17.out); have y18_0 := Y18.out.c 0 _ rfl; have y18_1 := Y18.out.c 1 _ rfl; have y18_z := Y18.out.lt; have Z18 : Hid (Row (u18.alloc (Obj.cells #[.int .i64 y1, .int .i64 y2] 25)) u18.heap.size [.int .i64 y1, .int .i64 y2]) := Row.made rfl; have z18_0 := Z18.out.c 0 _ rfl; have z18_1 := Z18.out.c 1 _ rfl; have z18_z := Z18.out.lt; clear hb)
              | (go_at_call 5; refine (cE.out _ _ B18.out).mono ?_; rintro o u19 ⟨rfl, hb⟩; have B19 : Hid (Below w.heap.size w u19) := rbel_on hb B18.out; have Y19 : Hid (Row u19 gY [.int .i64 y1, .int .i64 y2]) := Row.on hb Y18.out; have y19_0 := Y19.out.c 0 _ rfl; have y19_1 := Y19.out.c 1 _ rfl; have y19_z := Y19.out.lt; have Z19 : Hid (Row u19 _ [.int .i64 y1, .int .i64 y2]) := Row.on hb Z18.out; have z19_0 := Z19.out.c 0 _ rfl; have z19_1 := Z19.out.c 1 _ rfl; have z19_z := Z19.out.lt; clear hb))
          go_ret
          exact ⟨rfl, B19.out⟩
end Go.Proofs.YtfmaoblhoafnhaiDoor.wireTells
