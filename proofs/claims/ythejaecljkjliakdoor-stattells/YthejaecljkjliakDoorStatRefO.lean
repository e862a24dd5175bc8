/- What the document's own reckoning (package noonref2) answers of numbers: Sorted. -/
import Derived.Test.YthejaecljkjliakDoorStatDef
import Derived.Test.YthejaecljkjliakDoorOwnInts
import Derived.Lib.SmallJoins
import Derived.IntWalk
import Derived.BigQuiet
import Derived.Deep.QuietTactic
import Derived.Laws.AppendOwnNone
namespace Go.Proofs.YthejaecljkjliakDoor
open Go.ChangeShapes Go.WideShapes Go.ChangeAt Go.RowKit Go.Joins
set_option linter.unusedVariables false
set_option linter.unusedSimpArgs false

/-- Numbers as cells. -/
def icL (l : List Int) : List Value := l.map (fun x => .int .i64 x)
theorem icL_len (l : List Int) : (icL l).length = l.length := by simp [icL]
theorem icL_at {l : List Int} {j : Nat} {x : Int} (h : l[j]? = some x) : (icL l)[j]? = some (.int .i64 x) := by simp [icL, h]
theorem icL_one (l : List Int) : ∀ u ∈ icL l, u.oneCell' = true := fun u hu => by
  obtain ⟨x, _, rfl⟩ := List.mem_map.1 hu
  rfl
theorem icL_app (l m : List Int) : icL (l ++ m) = icL l ++ icL m := by simp [icL]
/-- One more number, in its place. -/
theorem ins_ok {L : List Int} {x : Int} {k : Nat} (s : L.Pairwise (fun a b => a ≤ b)) (hlo : ∀ j y, j < k → L[j]? = some y → y < x) (hhi : L[k]? = none ∨ ∃ y, L[k]? = some y ∧ ¬ y < x) : (L.take k ++ [x] ++ L.drop k).Pairwise (fun a b => a ≤ b) ∧ (L.take k ++ [x] ++ L.drop k).Perm (L ++ [x]) := by
  have sp := List.take_append_drop k L
  have lo : ∀ y ∈ L.take k, y < x := fun y hy => by
    obtain ⟨j, hj, e⟩ := List.getElem_of_mem hy
    rw [List.length_take] at hj
    rw [List.getElem_take] at e
    exact hlo j y (by omega) (by rw [List.getElem?_eq_getElem (by omega), e])
  have hi : ∀ y ∈ L.drop k, x ≤ y := fun y hy => by
    obtain ⟨j, hj, e⟩ := List.getElem_of_mem hy
    rw [List.length_drop] at hj
    rw [List.getElem_drop] at e
    rcases hhi with q | ⟨y0, q1, q2⟩
    · rw [List.getElem?_eq_getElem (by omega)] at q
      cases q
    · have e0 : L[k] = y0 := by rw [List.getElem?_eq_getElem (by omega)] at q1; exact Option.some.inj q1
      by_cases c : j = 0
      · subst c
        simp only [Nat.add_zero] at e
        omega
      · have := List.pairwise_iff_getElem.1 s k (k + j) (by omega) (by omega) (by omega)
        omega
  constructor
  · rw [List.append_assoc, List.pairwise_append]
    refine ⟨s.sublist (List.take_sublist k L), ?_, fun a ha b hb => ?_⟩
    · rw [List.singleton_append, List.pairwise_cons]
      exact ⟨fun b hb => hi b hb, s.sublist (List.drop_sublist k L)⟩
    · rw [List.singleton_append, List.mem_cons] at hb
      have := lo a ha
      rcases hb with rfl | hb
      · omega
      · have := hi b hb
        omega
  · have p : (L.take k ++ [x] ++ L.drop k).Perm (L.take k ++ L.drop k ++ [x]) := by
      rw [List.append_assoc, List.append_assoc]
      exact List.Perm.append_left _ List.perm_append_comm
    rw [sp] at p
    exact p
theorem take_cell {w : World} {base g c i k j : Nat} {L : List Int} {u : Value} (h : w.ownsRow base 3 1 (.slice (some ⟨g, 0, none⟩) i c) i (icL L)) (hl : L.length = i) (hk : k ≤ i) (hj : (icL (L.take k))[j]? = some u) : w.cell? ⟨g, 0 + j, none⟩ = some u := by
  have lj := (List.getElem?_eq_some_iff.1 hj).1
  rw [icL_len, List.length_take] at lj
  rw [Nat.zero_add, h.cellAt j (by omega)]
  unfold icL at hj ⊢
  rw [List.map_take, List.getElem?_take] at hj
  rw [if_pos (by omega)] at hj
  exact hj
theorem drop_cell {w : World} {base g c i k j : Nat} {L : List Int} {u : Value} (h : w.ownsRow base 3 1 (.slice (some ⟨g, 0, none⟩) i c) i (icL L)) (hl : L.length = i) (hk : k ≤ i) (hj : (icL (L.drop k))[j]? = some u) : w.cell? ⟨g, k + j, none⟩ = some u := by
  have lj := (List.getElem?_eq_some_iff.1 hj).1
  rw [icL_len, List.length_drop] at lj
  rw [h.cellAt (k + j) (by omega)]
  unfold icL at hj ⊢
  rw [List.map_drop, List.getElem?_drop] at hj
  exact hj
theorem len_ins {L : List Int} {i k : Nat} {x : Int} (h : L.length = i) (hk : k ≤ i) : (L.take k ++ [x] ++ L.drop k).length = i + 1 := by
  simp
  omega
theorem own_less {w : World} {base base' n size : Nat} {e : TypeId} {v : Value} {xs : List Value} (hb : base' ≤ base) (h : w.ownsRow base e size v n xs) : w.ownsRow base' e size v n xs := by
  refine ⟨h.1, ?_⟩
  rcases h.2 with h' | ⟨g, cap, cur, h1, h2, h3⟩
  · exact Or.inl h'
  · exact Or.inr ⟨g, cap, cur, h1, Nat.le_trans hb h2, h3⟩
set_option maxRecDepth 100000 in
set_option maxHeartbeats 8000000 in
theorem rsorted_any (a : Option Addr) (n cap : Nat) (z : Nat → Int) (w : World) (h60 : n ≤ 60) (hH : NHanded w a n z) :
    Calls Tryd.prog 9 #[.slice a n cap] w fun e w' => ∃ v L, e = .returned v ∧ w'.ownsRow w.heap.size 3 1 v n (icL L) ∧ L.length = n ∧ L.Pairwise (fun a b => a ≤ b) ∧ L.Perm (lsN z n) ∧ Below w.heap.size w w' := by
  have HP : Hid (n = 0 ∨ ∃ b off : Nat, a = some ⟨b, off, none⟩ ∧ Nrd w b off n z) := hH.2
  obtain ⟨i0, hi0, hz0, hz1, hz2⟩ := info_parts infoIntN
  clear hH
  go_enter Tryd.func9, Tryd.ntmps9
  go_wp2
  go_loopw [3, 4] (fun v vi wr => ∃ (i : Nat) (L : List Int), i ≤ n ∧ vi = .int .i64 i ∧ L.length = i ∧ wr.ownsRow w.heap.size 3 1 v i (icL L) ∧ L.Pairwise (fun a b => a ≤ b) ∧ L.Perm (lsN z i) ∧ Below w.heap.size w wr) (fun _ i _ => n - (intOf i).toNat)
  case atStart => exact ⟨0, [], Nat.zero_le _, rfl, rfl, World.ownsRow_nil _ _ _ _, List.Pairwise.nil, List.Perm.refl _, Below.refl _ _⟩
  case round =>
    obtain ⟨i, L, hi, rfl, hLl, hown, hS, hPm, hw⟩ := hrel
    by_cases hlt : i < n
    · have hl3 : (i : Int) < n := by omega
      obtain ⟨b, off, rfl, hP⟩ : ∃ b off : Nat, a = some ⟨b, off, none⟩ ∧ Nrd w b off n z := by
        rcases HP.out with e | h
        · omega
        · exact h
      have HX : Hid (∀ u, Below w.heap.size w u → u.cell? ⟨b, off + i, none⟩ = some (.int .i64 (z i))) := fun u hu => (hP.on hu) i hlt
      have HPn : Hid (∀ M : List Int, M.Perm (L ++ [z i]) → M.Perm (lsN z (i + 1))) := fun M h => by rw [lsN_snoc]; exact h.trans (hPm.append_right _)
      have HS : Hid (L.Pairwise (fun a b => a ≤ b)) := hS
      have HLl : Hid (L.length = i) := hLl
      have HW : Hid (Below w.heap.size w wr) := hw
      clear hP hS hPm HP
      generalize z i = x at *
      rcases hown.2 with ⟨hv, e⟩ | ⟨g, c, cur, hv, hg, hgb, hcn, hcm, hcs, htk⟩
      · subst e
        subst hv
        have e0 : L = [] := List.length_eq_zero_iff.1 hLl
        subst e0
        have d1 : decide ((0 : Int) < 0) = false := rfl
        have x0 := HX.out wr hw
        rw [Nat.add_zero] at x0
        have zb : b < wr.heap.size := World.block_lt_of_cell? _ _ x0
        have zw := hw.size
        clear hown hLl HS HLl hw
        have cnt : Mark 0 := .mk _
        go_wp2
        refine wp_loop_rounds 1 ?_
        rw [rounds_succ]
        go_wp2
        go_quiet (fail)
        go_wp2_with (first
          | (at_builtin; have cq : Mark 0 := cnt; refine wpList_append_own_none rfl _ _ 23 rfl w.heap.size 3 i0 1 Tryd.underlying23 hi0 (.slice none 0 0) 0 [] rfl (World.ownsRow_nil _ _ _ _) rfl ?_; clear cq cnt; have cnt : Mark 1 := .mk _)
          | (at_builtin; have cq : Mark 1 := cnt; refine wpList_append_own _ rfl _ _ 23 rfl w.heap.size 3 i0 (.int .i64 0) 1 8 Tryd.underlying23 hi0 hz0 hz1 hz2 rfl (by decide) (.slice none 0 0) 0 [] rfl (World.ownsRow_nil _ _ _ _) ⟨wr.heap.size, 0, none⟩ 1 1 [.int .i64 x] rfl rfl (fun j u hj => by rw [Addr.add_lit]; exact (Row.made (W := wr.drewN nq) (vs := [.int .i64 x]) rfl).c _ _ (by simpa using hj)) (fun u hu => by simp at hu; rw [hu]; rfl) (by unfold maxLen; omega) (by omega) (by simp; omega) ?_; intro v2 w2 hown2 hgrow2 _; clear cq cnt; have cnt : Mark 2 := .mk _; have HO2 : Hid (w2.ownsRow w.heap.size 3 1 v2 1 (icL [x])) := hown2; have HW2 : Hid (Below w.heap.size w w2) := (rbel_al (rbel_drn HW.out)).grown hgrow2 (by have := HW.out.size; simp; omega) (fun j hj => by cases hj); clear hown2 hgrow2)
          | (at_builtin; have cq : Mark 2 := cnt; refine wpList_append_own_none rfl _ _ 23 rfl w.heap.size 3 i0 1 Tryd.underlying23 hi0 v2 1 (icL [x]) rfl HO2.out rfl ?_; clear cq cnt))
        go_roundw
        case rel => exact ⟨1, [x], by omega, by go_num, rfl, HO2.out, by simp, HPn.out _ (List.Perm.refl _), HW2.out⟩
        case measure => simp [intOf]; omega
      · have HO : Hid (wr.ownsRow w.heap.size 3 1 u3 i (icL L)) := hown
        have HG : Hid (w.heap.size ≤ g) := hg
        clear hown hgb hcs htk hw hLl
        subst hv
        go_wp2
        go_loopw [5] (fun vk wr' => ∃ k : Nat, k ≤ i ∧ vk = .int .i64 k ∧ (∀ j y, j < k → L[j]? = some y → y < x) ∧ wr'.ownsRow w.heap.size 3 1 (.slice (some ⟨g, 0, none⟩) i c) i (icL L) ∧ Below w.heap.size w wr') (fun vk _ => i - (intOf vk).toNat)
        case atStart => exact ⟨0, Nat.zero_le _, rfl, fun j y hj => by omega, HO.out, HW.out⟩
        case round =>
          clear HO HW
          obtain ⟨k, hk, rfl, hlo, hown, hw⟩ := hrel
          have HLo : Hid (∀ j y, j < k → L[j]? = some y → y < x) := hlo
          have HO : Hid (wr.ownsRow w.heap.size 3 1 (.slice (some ⟨g, 0, none⟩) i c) i (icL L)) := hown
          have HW : Hid (Below w.heap.size w wr) := hw
          have x0 := HX.out wr hw
          have zb : b < wr.heap.size := World.block_lt_of_cell? _ _ x0
          have zw := hw.size
          clear hlo
          by_cases hki : k < i
          · have hl4 : (k : Int) < i := by omega
            have d1 : decide ((k : Int) < i) = true := decide_eq_true hl4
            have d1' : decide (k < i) = true := decide_eq_true hki
            obtain ⟨y, hy⟩ : ∃ y, L[k]? = some y := ⟨_, List.getElem?_eq_getElem (by have := HLl.out; omega)⟩
            have y0 : wr.cell? ⟨g, k, none⟩ = some (.int .i64 y) := by rw [hown.cellAt k (by omega)]; exact icL_at hy
            have zg : g < wr.heap.size := World.block_lt_of_cell? _ _ y0
            by_cases c1 : y < x
            · have d2 : decide (y < x) = true := decide_eq_true c1
              have HLo1 : Hid (∀ j y, j < k + 1 → L[j]? = some y → y < x) := fun j y' hj hy' => by
                by_cases q : j = k
                · subst q; rw [hy] at hy'; have := Option.some.inj hy'; omega
                · exact HLo.out j y' (by omega) hy'
              clear hown hw hy HLo
              go_wp2
              go_quiet (fail)
              go_wp2
              go_roundw
              case rel => exact ⟨k + 1, by omega, by go_num, HLo1.out, HO.out, rbel_drn HW.out⟩
              case measure => simp [intOf]; omega
            · have d2 : decide (y < x) = false := decide_eq_false c1
              have HIn : Hid _ := ins_ok HS.out HLo.out (Or.inr ⟨y, hy, c1⟩)
              have GL := zg
              clear hown hw hy HLo
              have HGl : Hid (g < wr.heap.size) := GL
              have cnt : Mark 0 := .mk _
              have hck : k < c := by omega
              have hc1 : ¬ (k = c) := by omega
              have hc2 : ¬ (c = k) := by omega
              go_wp2
              go_quiet (fail)
              go_wp2_with (first
                | (at_builtin; have cq : Mark 0 := cnt; refine wpList_append_own _ rfl _ _ 23 rfl wr.heap.size 3 i0 (.int .i64 0) 1 8 Tryd.underlying23 hi0 hz0 hz1 hz2 rfl (by decide) (.slice none 0 0) 0 [] rfl (World.ownsRow_nil _ _ _ _) ⟨g, 0, none⟩ k c (icL (L.take k)) rfl (by rw [icL_len, List.length_take]; have := HLl.out; omega) (fun j u hj => by rw [Addr.add_lit]; exact take_cell HO.out HLl.out hk hj) (icL_one _) (by unfold maxLen; omega) (by omega) (by first | (simp; done) | omega) ?_; intro v1 w1 hown1 hgrow1 _; clear cq cnt; have cnt : Mark 1 := .mk _; have HO1 : Hid (w1.ownsRow wr.heap.size 3 1 v1 k (icL (L.take k))) := (by have h := hown1; rw [Nat.zero_add, List.nil_append] at h; exact h); have HOo1 : Hid (w1.ownsRow w.heap.size 3 1 (.slice (some ⟨g, 0, none⟩) i c) i (icL L)) := own_grownN hgrow1 (fun g' _ e => by cases e) HO.out; have HW1 : Hid (Below w.heap.size w w1) := (rbel_drn HW.out).grown hgrow1 HW.out.size (fun j hj => by cases hj); have hs1 : wr.heap.size ≤ w1.heap.size := hgrow1.size; have x1 := HX.out w1 HW1.out; clear hown1 hgrow1)
                | (at_builtin; have cq : Mark 1 := cnt; refine wpList_append_own _ rfl _ _ 23 rfl wr.heap.size 3 i0 (.int .i64 0) 1 8 Tryd.underlying23 hi0 hz0 hz1 hz2 rfl (by decide) _ _ _ rfl (HO1.out.alloc _) ⟨w1.heap.size, 0, none⟩ 1 1 [.int .i64 x] rfl rfl (fun j u hj => by rw [Addr.add_lit]; exact (Row.made (W := w1) (vs := [.int .i64 x]) rfl).c _ _ (by simpa using hj)) (fun u hu => by simp at hu; rw [hu]; rfl) (by unfold maxLen; omega) (by omega) (by simp; omega) ?_; intro v2 w2 hown2 hgrow2 _; clear cq cnt; have cnt : Mark 2 := .mk _; have HO2 : Hid (w2.ownsRow wr.heap.size 3 1 v2 (k + 1) (icL (L.take k ++ [x]))) := (by show w2.ownsRow _ _ _ _ _ (icL (L.take k ++ [x])); rw [icL_app]; exact hown2); have HOo2 : Hid (w2.ownsRow w.heap.size 3 1 (.slice (some ⟨g, 0, none⟩) i c) i (icL L)) := own_grownN hgrow2 (fun g' hg' e => by simp [Value.ownBlock] at hg'; have := (HO1.out.lt g' e.symm).1; have := HGl.out; omega) (HOo1.out.alloc _); have HW2 : Hid (Below w.heap.size w w2) := (rbel_al HW1.out).grown hgrow2 (by have := HW.out.size; simp; omega) (fun j hj => by have := (HO1.out.lt j hj).1; have := HW.out.size; omega); have hs2 : wr.heap.size ≤ w2.heap.size := (by have := hgrow2.size; simp at this; omega); clear hown2 hgrow2)
                | (at_builtin; have cq : Mark 2 := cnt; refine wpList_append_own _ rfl _ _ 23 rfl wr.heap.size 3 i0 (.int .i64 0) 1 8 Tryd.underlying23 hi0 hz0 hz1 hz2 rfl (by decide) _ _ _ rfl HO2.out ⟨g, k, none⟩ (i - k) (c - k) (icL (L.drop k)) rfl (by rw [icL_len, List.length_drop]; have := HLl.out; omega) (fun j u hj => by rw [Addr.add_lit]; exact drop_cell HOo2.out HLl.out hk hj) (icL_one _) (by unfold maxLen; omega) (by omega) hs2 ?_; intro v3 w3 hown3 hgrow3 _; clear cq cnt; have HO3 : Hid (w3.ownsRow wr.heap.size 3 1 v3 (i + 1) (icL (L.take k ++ [x] ++ L.drop k))) := (by have h := hown3; rw [← icL_app] at h; rw [show i + 1 = k + 1 + (i - k) by omega]; exact h); have HW3 : Hid (Below w.heap.size w w3) := HW2.out.grown hgrow3 HW2.out.size (fun j hj => by have := (HO2.out.lt j hj).1; have := HW.out.size; omega); clear hown3 hgrow3))
              go_roundw
              case rel => exact ⟨i + 1, L.take k ++ [x] ++ L.drop k, by omega, by go_num, len_ins HLl.out hk, own_less (HW.out.size) HO3.out, HIn.out.1, HPn.out _ HIn.out.2, HW3.out⟩
              case measure => simp [intOf]; omega
          · have d1 : decide ((k : Int) < i) = false := decide_eq_false (by omega)
            have d1' : decide (k < i) = false := decide_eq_false hki
            have HIn : Hid _ := ins_ok HS.out HLo.out (Or.inl (List.getElem?_eq_none (by have := HLl.out; omega)))
            have GL := (hown.lt g rfl).2
            clear hown hw HLo
            have HGl : Hid (g < wr.heap.size) := GL
            have cnt : Mark 0 := .mk _
            by_cases hck : k < c
            · have hc1 : ¬ (k = c) := by omega
              have hc2 : ¬ (c = k) := by omega
              go_wp2
              go_quiet (fail)
              go_wp2_with (first
                | (at_builtin; have cq : Mark 0 := cnt; refine wpList_append_own _ rfl _ _ 23 rfl wr.heap.size 3 i0 (.int .i64 0) 1 8 Tryd.underlying23 hi0 hz0 hz1 hz2 rfl (by decide) (.slice none 0 0) 0 [] rfl (World.ownsRow_nil _ _ _ _) ⟨g, 0, none⟩ k c (icL (L.take k)) rfl (by rw [icL_len, List.length_take]; have := HLl.out; omega) (fun j u hj => by rw [Addr.add_lit]; exact take_cell HO.out HLl.out hk hj) (icL_one _) (by unfold maxLen; omega) (by omega) (by first | (simp; done) | omega) ?_; intro v1 w1 hown1 hgrow1 _; clear cq cnt; have cnt : Mark 1 := .mk _; have HO1 : Hid (w1.ownsRow wr.heap.size 3 1 v1 k (icL (L.take k))) := (by have h := hown1; rw [Nat.zero_add, List.nil_append] at h; exact h); have HOo1 : Hid (w1.ownsRow w.heap.size 3 1 (.slice (some ⟨g, 0, none⟩) i c) i (icL L)) := own_grownN hgrow1 (fun g' _ e => by cases e) HO.out; have HW1 : Hid (Below w.heap.size w w1) := (rbel_drn HW.out).grown hgrow1 HW.out.size (fun j hj => by cases hj); have hs1 : wr.heap.size ≤ w1.heap.size := hgrow1.size; have x1 := HX.out w1 HW1.out; clear hown1 hgrow1)
                | (at_builtin; have cq : Mark 1 := cnt; refine wpList_append_own _ rfl _ _ 23 rfl wr.heap.size 3 i0 (.int .i64 0) 1 8 Tryd.underlying23 hi0 hz0 hz1 hz2 rfl (by decide) _ _ _ rfl (HO1.out.alloc _) ⟨w1.heap.size, 0, none⟩ 1 1 [.int .i64 x] rfl rfl (fun j u hj => by rw [Addr.add_lit]; exact (Row.made (W := w1) (vs := [.int .i64 x]) rfl).c _ _ (by simpa using hj)) (fun u hu => by simp at hu; rw [hu]; rfl) (by unfold maxLen; omega) (by omega) (by simp; omega) ?_; intro v2 w2 hown2 hgrow2 _; clear cq cnt; have cnt : Mark 2 := .mk _; have HO2 : Hid (w2.ownsRow wr.heap.size 3 1 v2 (k + 1) (icL (L.take k ++ [x]))) := (by show w2.ownsRow _ _ _ _ _ (icL (L.take k ++ [x])); rw [icL_app]; exact hown2); have HOo2 : Hid (w2.ownsRow w.heap.size 3 1 (.slice (some ⟨g, 0, none⟩) i c) i (icL L)) := own_grownN hgrow2 (fun g' hg' e => by simp [Value.ownBlock] at hg'; have := (HO1.out.lt g' e.symm).1; have := HGl.out; omega) (HOo1.out.alloc _); have HW2 : Hid (Below w.heap.size w w2) := (rbel_al HW1.out).grown hgrow2 (by have := HW.out.size; simp; omega) (fun j hj => by have := (HO1.out.lt j hj).1; have := HW.out.size; omega); have hs2 : wr.heap.size ≤ w2.heap.size := (by have := hgrow2.size; simp at this; omega); clear hown2 hgrow2)
                | (at_builtin; have cq : Mark 2 := cnt; refine wpList_append_own _ rfl _ _ 23 rfl wr.heap.size 3 i0 (.int .i64 0) 1 8 Tryd.underlying23 hi0 hz0 hz1 hz2 rfl (by decide) _ _ _ rfl HO2.out ⟨g, k, none⟩ (i - k) (c - k) (icL (L.drop k)) rfl (by rw [icL_len, List.length_drop]; have := HLl.out; omega) (fun j u hj => by rw [Addr.add_lit]; exact drop_cell HOo2.out HLl.out hk hj) (icL_one _) (by unfold maxLen; omega) (by omega) hs2 ?_; intro v3 w3 hown3 hgrow3 _; clear cq cnt; have HO3 : Hid (w3.ownsRow wr.heap.size 3 1 v3 (i + 1) (icL (L.take k ++ [x] ++ L.drop k))) := (by have h := hown3; rw [← icL_app] at h; rw [show i + 1 = k + 1 + (i - k) by omega]; exact h); have HW3 : Hid (Below w.heap.size w w3) := HW2.out.grown hgrow3 HW2.out.size (fun j hj => by have := (HO2.out.lt j hj).1; have := HW.out.size; omega); clear hown3 hgrow3))
              go_roundw
              case rel => exact ⟨i + 1, L.take k ++ [x] ++ L.drop k, by omega, by go_num, len_ins HLl.out hk, own_less (HW.out.size) HO3.out, HIn.out.1, HPn.out _ HIn.out.2, HW3.out⟩
              case measure => simp [intOf]; omega
            · have ec : c = k := by omega
              have ei : i = k := by omega
              have ld : L.drop k = [] := List.drop_eq_nil_of_le (by have := HLl.out; omega)
              have HLd : Hid (L.drop k = []) := ld
              subst ec
              subst ei
              clear hck ld
              go_wp2
              go_quiet (fail)
              go_wp2_with (first
                | (at_builtin; have cq : Mark 0 := cnt; refine wpList_append_own _ rfl _ _ 23 rfl wr.heap.size 3 i0 (.int .i64 0) 1 8 Tryd.underlying23 hi0 hz0 hz1 hz2 rfl (by decide) (.slice none 0 0) 0 [] rfl (World.ownsRow_nil _ _ _ _) ⟨g, 0, none⟩ i i (icL (L.take i)) rfl (by rw [icL_len, List.length_take]; have := HLl.out; omega) (fun j u hj => by rw [Addr.add_lit]; exact take_cell HO.out HLl.out hk hj) (icL_one _) (by unfold maxLen; omega) (by omega) (by first | (simp; done) | omega) ?_; intro v1 w1 hown1 hgrow1 _; clear cq cnt; have cnt : Mark 1 := .mk _; have HO1 : Hid (w1.ownsRow wr.heap.size 3 1 v1 i (icL (L.take i))) := (by have h := hown1; rw [Nat.zero_add, List.nil_append] at h; exact h); have HOo1 : Hid (w1.ownsRow w.heap.size 3 1 (.slice (some ⟨g, 0, none⟩) i i) i (icL L)) := own_grownN hgrow1 (fun g' _ e => by cases e) HO.out; have HW1 : Hid (Below w.heap.size w w1) := (rbel_drn HW.out).grown hgrow1 HW.out.size (fun j hj => by cases hj); have hs1 : wr.heap.size ≤ w1.heap.size := hgrow1.size; have x1 := HX.out w1 HW1.out; clear hown1 hgrow1)
                | (at_builtin; have cq : Mark 1 := cnt; refine wpList_append_own _ rfl _ _ 23 rfl wr.heap.size 3 i0 (.int .i64 0) 1 8 Tryd.underlying23 hi0 hz0 hz1 hz2 rfl (by decide) _ _ _ rfl (HO1.out.alloc _) ⟨w1.heap.size, 0, none⟩ 1 1 [.int .i64 x] rfl rfl (fun j u hj => by rw [Addr.add_lit]; exact (Row.made (W := w1) (vs := [.int .i64 x]) rfl).c _ _ (by simpa using hj)) (fun u hu => by simp at hu; rw [hu]; rfl) (by unfold maxLen; omega) (by omega) (by simp; omega) ?_; intro v2 w2 hown2 hgrow2 _; clear cq cnt; have cnt : Mark 2 := .mk _; have HO2 : Hid (w2.ownsRow wr.heap.size 3 1 v2 (i + 1) (icL (L.take i ++ [x]))) := (by show w2.ownsRow _ _ _ _ _ (icL (L.take i ++ [x])); rw [icL_app]; exact hown2); have HOo2 : Hid (w2.ownsRow w.heap.size 3 1 (.slice (some ⟨g, 0, none⟩) i i) i (icL L)) := own_grownN hgrow2 (fun g' hg' e => by simp [Value.ownBlock] at hg'; have := (HO1.out.lt g' e.symm).1; have := HGl.out; omega) (HOo1.out.alloc _); have HW2 : Hid (Below w.heap.size w w2) := (rbel_al HW1.out).grown hgrow2 (by have := HW.out.size; simp; omega) (fun j hj => by have := (HO1.out.lt j hj).1; have := HW.out.size; omega); have hs2 : wr.heap.size ≤ w2.heap.size := (by have := hgrow2.size; simp at this; omega); clear hown2 hgrow2)
                | (at_builtin; have cq : Mark 2 := cnt; refine wpList_append_own _ rfl _ _ 23 rfl wr.heap.size 3 i0 (.int .i64 0) 1 8 Tryd.underlying23 hi0 hz0 hz1 hz2 rfl (by decide) _ _ _ rfl HO2.out ⟨g, 0, none⟩ 0 0 (icL (L.drop i)) rfl (by rw [HLd.out]; rfl) (fun j u hj => by rw [HLd.out] at hj; cases hj) (icL_one _) (by unfold maxLen; omega) (by omega) hs2 ?_; intro v3 w3 hown3 hgrow3 _; clear cq cnt; have HO3 : Hid (w3.ownsRow wr.heap.size 3 1 v3 (i + 1) (icL (L.take i ++ [x] ++ L.drop i))) := (by have h := hown3; rw [← icL_app] at h; rw [show i + 1 = i + 1 + 0 by omega]; exact h); have HW3 : Hid (Below w.heap.size w w3) := HW2.out.grown hgrow3 HW2.out.size (fun j hj => by have := (HO2.out.lt j hj).1; have := HW.out.size; omega); clear hown3 hgrow3))
              go_roundw
              case rel => exact ⟨i + 1, L.take i ++ [x] ++ L.drop i, by omega, by go_num, len_ins HLl.out hk, own_less (HW.out.size) HO3.out, HIn.out.1, HPn.out _ HIn.out.2, HW3.out⟩
              case measure => simp [intOf]; omega
    · have hl3 : ¬ ((i : Int) < n) := by omega
      have e : i = n := by omega
      subst e
      have HR : Hid (wr.ownsRow w.heap.size 3 1 u3 i (icL L) ∧ L.length = i ∧ L.Pairwise (fun a b => a ≤ b) ∧ L.Perm (lsN z i) ∧ Below w.heap.size w wr) := ⟨hown, hLl, hS, hPm, hw⟩
      clear hown hLl hS hPm hw
      go_wp2
      go_ret
      first | exact ⟨_, rfl, L, HR.out⟩ | exact ⟨_, L, rfl, HR.out⟩
end Go.Proofs.YthejaecljkjliakDoor
