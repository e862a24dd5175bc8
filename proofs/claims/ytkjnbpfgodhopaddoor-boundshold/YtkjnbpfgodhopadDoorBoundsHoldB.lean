/- The ways through the law BoundsHold where there is a bound. -/
import Derived.Test.YtkjnbpfgodhopadDoorBoundsHoldA
namespace Go.Proofs.YtkjnbpfgodhopadDoor.boundsHold
open Go.ChangeShapes Go.WideShapes Go.ChangeAt Go.RowKit Go.Joins Go.Proofs.YtkjnbpfgodhopadDoor.told
set_option linter.unusedVariables false
set_option linter.unusedSimpArgs false

theorem ecs_one (q : Nat → Eg) : ∀ m, ∀ u ∈ ecs q m, u.oneCell' = true
  | 0, u, h => by simp [ecs] at h
  | m + 1, u, h => by
    simp only [ecs, List.mem_append] at h
    rcases h with h | h
    · exact ecs_one q m u h
    · simp at h
      rcases h with rfl | rfl | rfl | rfl <;> rfl
theorem ecs_cells {w : World} {b off m : Nat} {q : Nat → Eg} (h : Esp w b off m q) (j : Nat) (u : Value) (hj : (ecs q m)[j]? = some u) : w.cell? ⟨b, off + j, none⟩ = some u := by
  have len := ecs_len q m
  have jl : j < m * 4 := by
    apply Classical.byContradiction
    intro c
    rw [List.getElem?_eq_none (by omega)] at hj
    cases hj
  obtain ⟨i, r, hr, rfl⟩ : ∃ i r, r < 4 ∧ j = i * 4 + r := ⟨j / 4, j % 4, by omega, by omega⟩
  obtain ⟨x0, x1, x2, x3⟩ := ecs_at q m i (by omega)
  obtain ⟨y0, y1, y2, y3⟩ := h i (by omega)
  have hr' : r = 0 ∨ r = 1 ∨ r = 2 ∨ r = 3 := by omega
  rcases hr' with rfl | rfl | rfl | rfl
  · rw [Nat.add_zero, x0] at hj; rw [Nat.add_zero, y0]; exact hj
  · rw [x1] at hj; rw [← Nat.add_assoc, y1]; exact hj
  · rw [x2] at hj; rw [← Nat.add_assoc, y2]; exact hj
  · rw [x3] at hj; rw [← Nat.add_assoc, y3]; exact hj
theorem append_nn (ty : TypeId) (c : Nat) (w : World) : (Builtin.append_ #[42, 42] ty #[.slice none 0 0, .slice none 0 c]).run Tryd.prog w = .ok (.slice none 0 0) w := by kernel_rfl
/-- Edges that are handed over, behind none. -/
theorem append_arg {ops : Array Oper} {rest : List Oper} {o : Oper} {ac : Act} {Q : Exit → Act → World → Prop} (w : World) (hg : o.guard = none) (s x : Operand)
    (hop : o.op = .call { callee := .builtin .append, args := #[s, x], argTypes := #[42, 42] }) (hs : ac.eval s = .slice none 0 0) (a : Option Addr) (m cap : Nat) (q : Nat → Eg) (hx : ac.eval x = .slice a m cap) (hH : EHanded w a m q) (h40 : m ≤ 40)
    (hK : ∀ v' w', w'.ownsRow w.heap.size 50 4 v' m (ecs q m) → Below w.heap.size w w' → wpList Tryd.prog ops Q rest (ac.put o.dst v') w') : wpList Tryd.prog ops Q (o :: rest) ac w := by
  obtain ⟨i0, hi0, hz0, hz1, hz2⟩ := info_parts infoEdge
  cases a with
  | none =>
    have m0 : m = 0 := by
      rcases hH.2 with e | ⟨_, _, e, _⟩
      · exact e
      · cases e
    subst m0
    refine wpList_plain hg fun K hK' => ?_
    unfold Oper.wp execOp
    simp only [hop, resolve, invoke, builtin, Sem.run_bind, Sem.run_pure, Result.andThen_ok, List.map_toArray, List.map_cons, List.map_nil, hs, hx, append_nn]
    exact hK' _ _ (hK _ _ (World.ownsRow_nil _ _ _ _) (Below.refl _ _))
  | some ad =>
    refine wpList_append_own w hg s x 42 hop w.heap.size 50 i0 (.agg #[.int .i64 0, .int .i64 0, .int .i64 0, .int .i64 0]) 4 32 Tryd.underlying42 hi0 hz0 hz1 hz2 rfl (by decide) (.slice none 0 0) 0 [] hs (World.ownsRow_nil _ _ _ _) ad m cap (ecs q m) hx (ecs_len q m) ?c1 (ecs_one q m) (by unfold maxLen; omega) (by omega) (Nat.le_refl _) ?_
    case c1 =>
      intro j u hj
      rcases hH.2 with e | ⟨b, off, e, hE⟩
      · subst e; simp [ecs] at hj
      · obtain rfl := Option.some.inj e
        have := ecs_cells hE j u hj
        simp only [Addr.add]
        split
        case isTrue h => subst h; simpa using this
        case isFalse h => exact this
    intro v' w' h1 h2 _
    rw [Nat.zero_add, List.nil_append] at h1
    exact hK v' w' h1 ((Below.refl _ _).grown h2 (Nat.le_refl _) (fun j hj => by simp [Value.ownBlock] at hj))
set_option maxRecDepth 100000 in
set_option maxHeartbeats 8000000 in
theorem good (z : Int) (a : Option Addr) (m cap : Nat) (q : Nat → Eg) (ca : Option Addr) (k cc : Nat) (c : Nat → Int) (X Y : Nat) (t ga gb gl gh : Int) (w : World) (B : Bd w) (lo hi l1 h1 l2 h2 l3 h3 ls hs : Int) (fb bb : Bool) (FE E1 E2 E3 E4 : Value)
    (hH : EHanded w a m q) (h40 : m ≤ 40) (hN : NHanded w ca k c) (hX : (X : Int) < z) (hY : (Y : Int) < z)
    (cX : ∀ u, Below w.heap.size w u → Calls Tryd.prog 22 #[.int .i64 z, .slice a m cap, .int .i64 X, .int .i64 Y] u fun r w' => r = .returned (.tuple #[.agg #[.int .i64 lo, .int .i64 hi], .nilIface]) ∧ Below u.heap.size u w')
    (cF : ∀ u, Below w.heap.size w u → Calls Tryd.prog 19 #[.int .i64 z, .slice a m cap, .slice ca k cc] u fun r w' => r = .returned (.tuple #[.bool fb, FE]) ∧ Below u.heap.size u w')
    (hF : (FE = .nilIface ∧ bb = fb) ∨ ((∃ v, FE = .iface 76 v) ∧ bb = false))
    (hW : bb = true → (k : Int) = z ∧ lo ≤ c Y - c X ∧ c Y - c X ≤ hi ∧ -1000000000000 ≤ c X ∧ c X ≤ 1000000000000 ∧ -1000000000000 ≤ c Y ∧ c Y ≤ 1000000000000)
    (hO : okB lo hi = true)
    (c1 : ∀ u, Below w.heap.size w u → Calls Tryd.prog 22 #[.int .i64 z, .slice a m cap, .int .i64 X, .int .i64 t] u fun r w' => r = .returned (.tuple #[.agg #[.int .i64 l1, .int .i64 h1], E1]) ∧ Below u.heap.size u w')
    (c2 : ∀ u, Below w.heap.size w u → Calls Tryd.prog 22 #[.int .i64 z, .slice a m cap, .int .i64 t, .int .i64 Y] u fun r w' => r = .returned (.tuple #[.agg #[.int .i64 l2, .int .i64 h2], E2]) ∧ Below u.heap.size u w')
    (cS : ∀ u, Calls Tryd.prog 24 #[.agg #[.int .i64 l1, .int .i64 h1], .agg #[.int .i64 l2, .int .i64 h2]] u fun r w' => r = .returned (.tuple #[.agg #[.int .i64 ls, .int .i64 hs], E3]) ∧ Below u.heap.size u w')
    (hT : (∃ v, E1 = .iface 76 v) ∨ (E1 = .nilIface ∧ ∃ v, E2 = .iface 76 v) ∨ (E1 = .nilIface ∧ E2 = .nilIface ∧ ∃ v, E3 = .iface 76 v) ∨ (E1 = .nilIface ∧ E2 = .nilIface ∧ E3 = .nilIface ∧ ls ≤ lo ∧ hi ≤ hs))
    (c3 : ∀ u a' cap', Below w.heap.size w u → EHanded u a' (m + 1) (fun i => if i < m then q i else ⟨ga, gb, gl, gh⟩) → Calls Tryd.prog 22 #[.int .i64 z, .slice a' (m + 1) cap', .int .i64 X, .int .i64 Y] u fun r w' => r = .returned (.tuple #[.agg #[.int .i64 l3, .int .i64 h3], E4]) ∧ Below u.heap.size u w')
    (hL : (∃ v, E4 = .iface 76 v) ∨ (E4 = .nilIface ∧ lo ≤ l3 ∧ h3 ≤ hi)) :
    Calls Tryd.prog 6 #[.int .i64 z, .slice a m cap, .slice ca k cc, .int .i64 X, .int .i64 Y, .int .i64 t, .agg #[.int .i64 ga, .int .i64 gb, .int .i64 gl, .int .i64 gh]] w fun e w' => e = .returned (.bool true) ∧ Below w.heap.size w w' := by
  have hU : Below w.heap.size w ((w.alloc (.cells #[.int .i64 ga, .int .i64 gb, .int .i64 gl, .int .i64 gh] 50)).alloc (.cells #[.int .i64 0, .int .i64 1, .int .i64 1, .int .i64 2, .int .i64 1, .int .i64 2, .int .i64 10, .int .i64 20] 50)) := rbel_al (rbel_al (Below.refl _ _))
  have rU : Row ((w.alloc (.cells #[.int .i64 ga, .int .i64 gb, .int .i64 gl, .int .i64 gh] 50)).alloc (.cells #[.int .i64 0, .int .i64 1, .int .i64 1, .int .i64 2, .int .i64 1, .int .i64 2, .int .i64 10, .int .i64 20] 50)) (w.heap.size + 1) twoCells := Row.made (by simp)
  have rM : Row ((w.alloc (.cells #[.int .i64 ga, .int .i64 gb, .int .i64 gl, .int .i64 gh] 50)).alloc (.cells #[.int .i64 0, .int .i64 1, .int .i64 1, .int .i64 2, .int .i64 1, .int .i64 2, .int .i64 10, .int .i64 20] 50)) w.heap.size [.int .i64 ga, .int .i64 gb, .int .i64 gl, .int .i64 gh] := Row.al (Row.made rfl)
  have c0 := fact B _ hU _ rU
  have HU : Hid (Below w.heap.size w ((w.alloc (.cells #[.int .i64 ga, .int .i64 gb, .int .i64 gl, .int .i64 gh] 50)).alloc (.cells #[.int .i64 0, .int .i64 1, .int .i64 1, .int .i64 2, .int .i64 1, .int .i64 2, .int .i64 10, .int .i64 20] 50))) := hU
  have RM : Hid (Row ((w.alloc (.cells #[.int .i64 ga, .int .i64 gb, .int .i64 gl, .int .i64 gh] 50)).alloc (.cells #[.int .i64 0, .int .i64 1, .int .i64 1, .int .i64 2, .int .i64 1, .int .i64 2, .int .i64 10, .int .i64 20] 50)) w.heap.size [.int .i64 ga, .int .i64 gb, .int .i64 gl, .int .i64 gh]) := rM
  clear rU hU rM
  have HH : Hid (EHanded w a m q) := hH
  have HN : Hid (NHanded w ca k c) := hN
  have HF : Hid _ := hF
  have HWt : Hid (bb = true → (k : Int) = z ∧ lo ≤ c Y - c X ∧ c Y - c X ≤ hi ∧ -1000000000000 ≤ c X ∧ c X ≤ 1000000000000 ∧ -1000000000000 ≤ c Y ∧ c Y ≤ 1000000000000) := hW
  have HO : Hid (okB lo hi = true) := hO
  have HT : Hid _ := hT
  have HL : Hid _ := hL
  have g1 : decide ((X : Int) < 0) = false := decide_eq_false (by omega)
  have g2 : decide (z ≤ (X : Int)) = false := decide_eq_false (by omega)
  have g3 : decide ((Y : Int) < 0) = false := decide_eq_false (by omega)
  have g4 : decide (z ≤ (Y : Int)) = false := decide_eq_false (by omega)
  clear B hH hN hF hW hO hT hL
  have cnt : Mark 0 := .mk _
  go_enter Tryd.func6, Tryd.ntmps6
  go_upto_region 11 with (first
    | (go_at_call 22; have cq : Mark 0 := cnt; refine c0.mono ?_; clear cq cnt; have cnt : Mark 1 := .mk _; rintro e' u0 ⟨rfl, hb⟩; have HW0 : Hid (Below w.heap.size w u0) := rbel_on hb HU.out; have RM0 : Hid (Row u0 w.heap.size [.int .i64 ga, .int .i64 gb, .int .i64 gl, .int .i64 gh]) := Row.on hb RM.out; clear hb)
    | (go_at_call 22; have cq : Mark 1 := cnt; refine (cX _ (rbel_al HW0.out)).mono ?_; clear cq cnt; have cnt : Mark 2 := .mk _; rintro e' u1 ⟨rfl, hb⟩; have HW1 : Hid (Below w.heap.size w u1) := rbel_on hb (rbel_al HW0.out); have RM1 : Hid (Row u1 w.heap.size [.int .i64 ga, .int .i64 gb, .int .i64 gl, .int .i64 gh]) := Row.on hb RM0.out.al; clear hb)
    | (go_at_call 19; refine (cF _ (rbel_al HW1.out)).mono ?_; rintro e' u2 ⟨rfl, hb⟩; have HW2 : Hid (Below w.heap.size w u2) := rbel_on hb (rbel_al HW1.out); have RM2 : Hid (Row u2 w.heap.size [.int .i64 ga, .int .i64 gb, .int .i64 gl, .int .i64 gh]) := Row.on hb RM1.out.al; have RX2 : Hid (Row u2 u1.heap.size [.int .i64 lo, .int .i64 hi]) := Row.on hb (Row.made rfl); clear hb))
  clear HU RM HW0 RM0 HW1 RM1 c0 cX cF
  go_cut [102] from 98 to 102 (fun v w' => v = .bool bb ∧ w' = u2)
  case first =>
    as_aux_lemma =>
      rcases HF.out with ⟨rfl, rfl⟩ | ⟨⟨v, rfl⟩, rfl⟩
      all_goals
        go_wp2
        go_meet
        case rel => exact ⟨rfl, rfl⟩
  case rest =>
    obtain ⟨rfl, rfl⟩ := hcut
    clear HF
    go_upto_if 102 with (fail)
    go_cut [] from 22 to 203 (fun w' => Row w' u1.heap.size [.int .i64 lo, .int .i64 hi] ∧ Row w' w.heap.size [.int .i64 ga, .int .i64 gb, .int .i64 gl, .int .i64 gh] ∧ Below w.heap.size w w')
    case first =>
      as_aux_lemma =>
        cases bb with
        | false =>
          go_wp2
          go_meet
          case rel => exact ⟨RX2.out, RM2.out, HW2.out⟩
        | true =>
          obtain ⟨kz, b1, b2, b3, b4, b5, b6⟩ := HWt.out rfl
          have kz' : ((k : Int) == z) = true := by simpa using kz
          obtain ⟨cb, co, rfl, hNr⟩ : ∃ cb co : Nat, ca = some ⟨cb, co, none⟩ ∧ Nrd w cb co k c := by
            rcases HN.out.2 with e | h
            · omega
            · exact h
          have x0 := (hNr.on HW2.out) X (by omega)
          have y0 := (hNr.on HW2.out) Y (by omega)
          have r0 := RX2.out.c 0 _ rfl
          have r1 := RX2.out.c 1 _ rfl
          have rl := RX2.out.lt
          have xl := World.block_lt_of_cell? _ _ x0
          have wd : IntKind.i64.wrap (c Y - c X) = c Y - c X := IntWalk.i64_in _ (by omega)
          have kX : (X : Int) < k := by omega
          have kY : (Y : Int) < k := by omega
          have cH := fun u => has_yes lo hi (c Y - c X) u HO.out b1 b2
          generalize c X = vx at *
          generalize c Y = vy at *
          clear hNr b1 b2 b3 b4 b5 b6 HWt HN
          go_upto_region 14 with (fail)
          go_region_held (fun w' => w'.cell? ⟨u1.heap.size, 0, none⟩ = some (.int .i64 lo) ∧ w'.cell? ⟨u1.heap.size, 1, none⟩ = some (.int .i64 hi) ∧ w'.cell? ⟨cb, co + X, none⟩ = some (.int .i64 vx) ∧ w'.cell? ⟨cb, co + Y, none⟩ = some (.int .i64 vy)) (go_keep) (first | (go_at_call 23; refine (cH _).mono ?_; rintro e' u3 ⟨rfl, hb⟩; have HB3 : Hid _ := hb; have s0 : u3.cell? ⟨u1.heap.size, 0, none⟩ = some (.int .i64 lo) := (hb.cell (p := ⟨u1.heap.size, 0, none⟩) rl).trans r0; have s1 : u3.cell? ⟨u1.heap.size, 1, none⟩ = some (.int .i64 hi) := (hb.cell (p := ⟨u1.heap.size, 1, none⟩) rl).trans r1; have s2 : u3.cell? ⟨cb, co + X, none⟩ = some (.int .i64 vx) := (hb.cell (p := ⟨cb, co + X, none⟩) xl).trans x0; have s3 : u3.cell? ⟨cb, co + Y, none⟩ = some (.int .i64 vy) := (hb.cell (p := ⟨cb, co + Y, none⟩) xl).trans y0; clear hb))
          go_wp2
          go_meet
          case rel => exact ⟨Row.on HB3.out RX2.out.dr, Row.on HB3.out RM2.out.dr, rbel_on HB3.out (rbel_dr HW2.out)⟩
    case rest =>
      obtain ⟨hRX, hRM, hWc⟩ := hcut
      have RX : Hid (Row wc u1.heap.size [.int .i64 lo, .int .i64 hi]) := hRX
      have RM : Hid (Row wc w.heap.size [.int .i64 ga, .int .i64 gb, .int .i64 gl, .int .i64 gh]) := hRM
      have HW : Hid (Below w.heap.size w wc) := hWc
      clear hRX hRM hWc RX2 RM2 HW2 HWt HN HO
      have cnt : Mark 0 := .mk _
      go_upto_region 20 with (first
        | (go_at_call 22; have cq : Mark 0 := cnt; refine (c1 _ HW.out).mono ?_; clear cq cnt; have cnt : Mark 1 := .mk _; rintro e' u4 ⟨rfl, hb⟩; have HW4 : Hid (Below w.heap.size w u4) := rbel_on hb HW.out; have RX4 : Hid (Row u4 u1.heap.size [.int .i64 lo, .int .i64 hi]) := Row.on hb RX.out; have RM4 : Hid (Row u4 w.heap.size [.int .i64 ga, .int .i64 gb, .int .i64 gl, .int .i64 gh]) := Row.on hb RM.out; clear hb)
        | (go_at_call 22; have cq : Mark 1 := cnt; refine (c2 _ (rbel_al HW4.out)).mono ?_; clear cq cnt; have cnt : Mark 2 := .mk _; rintro e' u5 ⟨rfl, hb⟩; have HW5 : Hid (Below w.heap.size w u5) := rbel_on hb (rbel_al HW4.out); have RX5 : Hid (Row u5 u1.heap.size [.int .i64 lo, .int .i64 hi]) := Row.on hb RX4.out.al; have RM5 : Hid (Row u5 w.heap.size [.int .i64 ga, .int .i64 gb, .int .i64 gl, .int .i64 gh]) := Row.on hb RM4.out.al; have ry := Row.on hb (Row.made (W := u4) (vs := [.int .i64 l1, .int .i64 h1]) rfl); have ry0 := ry.c 0 _ rfl; have ry1 := ry.c 1 _ rfl; have ryl := ry.lt; clear ry; clear hb)
        | (go_at_call 24; refine (cS _).mono ?_; rintro e' u6 ⟨rfl, hb⟩; have HW6 : Hid (Below w.heap.size w u6) := rbel_on hb (rbel_al HW5.out); have RX6 : Hid (Row u6 u1.heap.size [.int .i64 lo, .int .i64 hi]) := Row.on hb RX5.out.al; have RM6 : Hid (Row u6 w.heap.size [.int .i64 ga, .int .i64 gb, .int .i64 gl, .int .i64 gh]) := Row.on hb RM5.out.al; clear hb ry0 ry1 ryl))
      clear HW RX RM HW4 RX4 RM4 HW5 RX5 RM5 c1 c2 cS
      have rx0 := RX6.out.c 0 _ rfl
      have rx1 := RX6.out.c 1 _ rfl
      have rxl := RX6.out.lt
      go_cut [172] from 149 to 172 (fun v w' => v = .bool false ∧ w' = u6.alloc (.cells #[.int .i64 ls, .int .i64 hs] 48))
      case first =>
        as_aux_lemma =>
          rcases HT.out with ⟨v, rfl⟩ | ⟨rfl, v, rfl⟩ | ⟨rfl, rfl, v, rfl⟩ | ⟨rfl, rfl, rfl, d1, d2⟩
          · go_wp2
            go_meet
            case rel => exact ⟨rfl, rfl⟩
          · go_wp2
            go_meet
            case rel => exact ⟨rfl, rfl⟩
          · go_wp2
            go_meet
            case rel => exact ⟨rfl, rfl⟩
          · have e1 : decide (lo < ls) = false := decide_eq_false (by omega)
            have e2 : decide (hs < hi) = false := decide_eq_false (by omega)
            go_wp2
            go_meet
            case rel => exact ⟨rfl, rfl⟩
      case rest =>
        obtain ⟨rfl, rfl⟩ := hcut
        clear HT rx0 rx1 rxl
        obtain ⟨i0, hi0, hz0, hz1, hz2⟩ := info_parts infoEdge
        have HW7 : Hid (Below w.heap.size w (u6.alloc (.cells #[.int .i64 ls, .int .i64 hs] 48))) := rbel_al HW6.out
        have HH7 : Hid (EHanded (u6.alloc (.cells #[.int .i64 ls, .int .i64 hs] 48)) a m q) := HH.out.on HW7.out
        have RX7 : Hid (Row (u6.alloc (.cells #[.int .i64 ls, .int .i64 hs] 48)) u1.heap.size [.int .i64 lo, .int .i64 hi]) := RX6.out.al
        have RM7 : Hid (Row (u6.alloc (.cells #[.int .i64 ls, .int .i64 hs] 48)) w.heap.size [.int .i64 ga, .int .i64 gb, .int .i64 gl, .int .i64 gh]) := RM6.out.al
        clear HW6 RX6 RM6 HH
        generalize u6.alloc (.cells #[.int .i64 ls, .int .i64 hs] 48) = U7 at *
        go_wp2_with (at_builtin; refine append_arg _ rfl _ _ rfl rfl a m cap q rfl HH7.out h40 ?_)
        intro v8 u8 hown hb
        have HO8 : Hid (u8.ownsRow U7.heap.size 50 4 v8 m (ecs q m)) := hown
        have HW8 : Hid (Below w.heap.size w u8) := rbel_on hb HW7.out
        have RX8 : Hid (Row u8 u1.heap.size [.int .i64 lo, .int .i64 hi]) := Row.on hb RX7.out
        have rm := Row.on hb RM7.out
        have z8 := hb.size
        have z7 := HW7.out.size
        have m0 := rm.c 0 _ rfl
        have m1 := rm.c 1 _ rfl
        have m2 := rm.c 2 _ rfl
        have m3 := rm.c 3 _ rfl
        have rxb := RX7.out.lt
        have rxw : w.heap.size < U7.heap.size := RM7.out.lt
        clear hb HH7 RM7 RX7 HW7 rm
        go_wp2_with (at_builtin; refine wpList_append_own _ rfl _ _ 42 rfl U7.heap.size 50 i0 (.agg #[.int .i64 0, .int .i64 0, .int .i64 0, .int .i64 0]) 4 32 Tryd.underlying42 hi0 hz0 hz1 hz2 rfl (by decide) _ _ _ rfl (hown.alloc _) ⟨u8.heap.size, 0, none⟩ 1 1 [.int .i64 ga, .int .i64 gb, .int .i64 gl, .int .i64 gh] rfl rfl ?c1 ?c2 ?c3 ?c4 ?c5 ?_)
        case c1 =>
          intro j u hj
          rw [Addr.add_lit, World.cell?_alloc_at _ _ _ _ (by simp)]
          simpa using hj
        case c2 =>
          intro u hu
          simp at hu
          rcases hu with rfl | rfl | rfl | rfl <;> rfl
        case c3 => unfold maxLen; omega
        case c4 => omega
        case c5 => simp; omega
        intro v9 u9 hown9 hgrow _
        have ho : u9.ownsRow U7.heap.size 50 4 v9 (m + 1) (ecs (fun i => if i < m then q i else ⟨ga, gb, gl, gh⟩) (m + 1)) := by
          show u9.ownsRow U7.heap.size 50 4 v9 (m + 1) (ecs (fun i => if i < m then q i else ⟨ga, gb, gl, gh⟩) m ++ [.int .i64 (if m < m then q m else ⟨ga, gb, gl, gh⟩ : Eg).a, .int .i64 (if m < m then q m else ⟨ga, gb, gl, gh⟩ : Eg).b, .int .i64 (if m < m then q m else ⟨ga, gb, gl, gh⟩ : Eg).lo, .int .i64 (if m < m then q m else ⟨ga, gb, gl, gh⟩ : Eg).hi])
          rw [if_neg (Nat.lt_irrefl m), ecs_congr m (q := fun i => if i < m then q i else ⟨ga, gb, gl, gh⟩) (q' := q) (fun i hi => if_pos hi)]
          exact hown9
        have ob : ∀ j, v8.ownBlock = some j → U7.heap.size ≤ j := fun j hj => (hown.lt j hj).1
        have HW9 : Hid (Below w.heap.size w u9) := (rbel_al HW8.out).grown hgrow (by simp; omega) (fun j hj => by have := ob j hj; omega)
        have RX9 : Hid (Row u9 u1.heap.size [.int .i64 lo, .int .i64 hi]) := by
          have hbu : Below U7.heap.size (u8.alloc (.cells #[.int .i64 ga, .int .i64 gb, .int .i64 gl, .int .i64 gh] 50)) u9 := (Below.refl _ _).grown hgrow (by simp; omega) ob
          have rr : Row (u8.alloc (.cells #[.int .i64 ga, .int .i64 gb, .int .i64 gl, .int .i64 gh] 50)) u1.heap.size [.int .i64 lo, .int .i64 hi] := RX8.out.al
          exact ⟨fun i v hv => (hbu.cell (p := ⟨u1.heap.size, i, none⟩) rxb).trans (rr.c i v hv), fun i v hv => (hbu.frozen (p := ⟨u1.heap.size, i, none⟩) rxb).trans (rr.f i v hv)⟩
        obtain ⟨a9, cap9, rfl, hH9⟩ := own_edges ho (by omega)
        have cL := c3 u9 a9 cap9 HW9.out hH9
        clear hown hown9 hgrow ho hH9 HO8 HW8 RX8 c3 m0 m1 m2 m3 z8 z7 rxb rxw ob
        as_aux_lemma =>
          rcases HL.out with ⟨v, rfl⟩ | ⟨rfl, d1, d2⟩
          · go_wp2_with (go_at_call 22; refine cL.mono ?_; rintro e' u10 ⟨rfl, hb⟩; have HB : Hid _ := hb; have rx := Row.on hb RX9.out; have rx0 := rx.c 0 _ rfl; have rx1 := rx.c 1 _ rfl; have rxl := rx.lt; clear hb rx)
            go_ret
            exact ⟨rfl, rbel_al (rbel_on HB.out HW9.out)⟩
          · have e1 : decide (lo ≤ l3) = true := decide_eq_true d1
            have e2 : decide (h3 ≤ hi) = true := decide_eq_true d2
            go_wp2_with (go_at_call 22; refine cL.mono ?_; rintro e' u10 ⟨rfl, hb⟩; have HB : Hid _ := hb; have rx := Row.on hb RX9.out; have rx0 := rx.c 0 _ rfl; have rx1 := rx.c 1 _ rfl; have rxl := rx.lt; clear hb rx)
            go_ret
            exact ⟨rfl, rbel_al (rbel_on HB.out HW9.out)⟩
end Go.Proofs.YtkjnbpfgodhopadDoor.boundsHold
