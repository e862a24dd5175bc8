/- What civil.Parse answers of any text. -/
import Derived.Test.YthaajbdppmdhaacDoorCivilPrint
namespace Go.Proofs.YthaajbdppmdhaacDoor
open Go.ChangeShapes Go.WideShapes Go.ChangeAt Go.RowKit
set_option linter.unusedVariables false
set_option linter.unusedSimpArgs false

set_option maxHeartbeats 1000000 in
theorem parse_syn (s : ByteArray) (w : World) (hm : s.size ≤ maxLen) (h : ¬ Shp s) :
    Calls Tryd.prog 26 #[.string s] w fun e w' => e = .returned (.tuple #[.agg #[.int .i64 0, .int .i64 0, .int .i64 0], .iface 81 (.int .i64 2)]) ∧ Below w.heap.size w w' := by
  have c : ∀ u, Calls Tryd.prog 63 #[.string s, .string ⟨#[48, 48, 48, 48, 45, 48, 48, 45, 48, 48]⟩] u fun e w' => e = .returned (.bool false) ∧ Below u.heap.size u w' := fun u => fits_no s fD u hm (by decide) (fun k => h ((fits_date s).1 k))
  clear h
  go_enter Tryd.func26, Tryd.ntmps26
  go_wp2_with (go_at_call 63; refine (c _).mono ?_; rintro e u ⟨rfl, hb⟩; have hw : Below w.heap.size w u := rbel_on hb (rbel_al (Below.refl _ _)); have PZ : Row u w.heap.size [.int .i64 0, .int .i64 0, .int .i64 0] := Row.on hb (Row.made rfl); have a0 := PZ.c 0 _ rfl; have a1 := PZ.c 1 _ rfl; have a2 := PZ.c 2 _ rfl; have f0 := PZ.f 0 _ rfl; have f1 := PZ.f 1 _ rfl; have f2 := PZ.f 2 _ rfl; clear hb)
  exact bodyPost_ret (v := _) (by simp [results, Tryd.results26, go_sem, *]) rfl ⟨rfl, by (repeat (first | assumption | exact Below.refl _ _ | refine Below.alloc ?_ (by first | (simp; done) | (simp; omega) | omega) _ | refine Below.setCell ?_ (by first | (simp; done) | (simp; omega) | omega) _ | apply Below.drew | apply rbel_drn))⟩

theorem pv_date {s : ByteArray} (h : Shp s) : (0 ≤ yr s ∧ yr s < 10000000000) ∧ (0 ≤ mo s ∧ mo s < 10000000000) ∧ (0 ≤ da s ∧ da s < 10000000000) := by
  obtain ⟨hs, _, _, p, q, r⟩ := h
  have key : ∀ t : ByteArray, t.size ≤ 10 → allD t → 0 ≤ pv t.data.toList ∧ pv t.data.toList < 10000000000 := fun t ht hd => by
    have := pv_small t t.size (Nat.le_refl _) ht (fun i h _ => hd i h)
    rwa [List.take_of_length_le (by show t.data.size ≤ t.size; exact Nat.le_refl _)] at this
  exact ⟨key _ (by rw [ByteArray.size_extract]; omega) p, key _ (by rw [ByteArray.size_extract]; omega) q, key _ (by rw [ByteArray.size_extract]; omega) r⟩

set_option maxRecDepth 100000 in
set_option maxHeartbeats 4000000 in
theorem parse_shp (s : ByteArray) (y m d e : Int) (w : World) (h : Shp s) (he : EnvA w)
    (hy : Hid ((okD (yr s) (mo s) (da s) = false ∧ e = 1 ∧ y = 0 ∧ m = 0 ∧ d = 0) ∨ (okD (yr s) (mo s) (da s) = true ∧ e = 0 ∧ y = yr s ∧ m = mo s ∧ d = da s))) :
    Calls Tryd.prog 26 #[.string s] w fun x w' => x = .returned (.tuple #[.agg #[.int .i64 y, .int .i64 m, .int .i64 d], errc e]) ∧ Below w.heap.size w w' := by
  have cF : ∀ u, Calls Tryd.prog 63 #[.string s, .string ⟨#[48, 48, 48, 48, 45, 48, 48, 45, 48, 48]⟩] u fun e w' => e = .returned (.bool true) ∧ Below u.heap.size u w' := fun u => fits_yes s fD u (by decide) ((fits_date s).2 h)
  obtain ⟨⟨y1, y2⟩, ⟨m1, m2⟩, ⟨d1, d2⟩⟩ := pv_date h
  obtain ⟨hs, _, _, p, q, r⟩ := h
  have e1 : (s.extract 0 4).size = 4 := by rw [ByteArray.size_extract]; omega
  have e2 : (s.extract 5 7).size = 2 := by rw [ByteArray.size_extract]; omega
  have e3 : (s.extract 8 10).size = 2 := by rw [ByteArray.size_extract]; omega
  have c1 : ∀ u, Calls Tryd.prog 64 #[.string (s.extract 0 4)] u fun e w' => e = .returned (.int .i64 (yr s)) ∧ w' = u := fun u => value_any (s.extract 0 4) u (by omega) p
  have c2 : ∀ u, Calls Tryd.prog 64 #[.string (s.extract 5 7)] u fun e w' => e = .returned (.int .i64 (mo s)) ∧ w' = u := fun u => value_any (s.extract 5 7) u (by omega) q
  have c3 : ∀ u, Calls Tryd.prog 64 #[.string (s.extract 8 10)] u fun e w' => e = .returned (.int .i64 (da s)) ∧ w' = u := fun u => value_any (s.extract 8 10) u (by omega) r
  have cC := fun u hu => check_any (yr s) (mo s) (da s) u (WalkArith.wf_i64 (by omega)) (WalkArith.wf_i64 (by omega)) (WalkArith.wf_i64 (by omega)) hu
  generalize yr s = Y at *
  generalize mo s = M at *
  generalize da s = D at *
  have HE : Hid (EnvA w) := he
  clear p q r he
  have cnt : Mark 0 := .mk _
  go_enter Tryd.func26, Tryd.ntmps26
  go_wp2_with (go_at_call 63; refine (cF _).mono ?_; rintro e v ⟨rfl, hb⟩; have hv : Below w.heap.size w v := rbel_on hb (rbel_al (Below.refl _ _)); have PV : Row v w.heap.size [.int .i64 0, .int .i64 0, .int .i64 0] := Row.on hb (Row.made rfl); have vz := PV.lt; have v0 := PV.c 0 _ rfl; clear hb)
  go_region_held (fun w' => w'.cell? ⟨w.heap.size, 0, none⟩ = some (.int .i64 0)) (go_keep) (first
    | (go_at_call 64; have cq : Mark 0 := cnt; refine (c1 _).mono ?_; clear cq cnt; have cnt : Mark 1 := .mk _; rintro e u ⟨rfl, hu⟩; rw [hu]; clear hu)
    | (go_at_call 64; have cq : Mark 1 := cnt; refine (c2 _).mono ?_; clear cq cnt; have cnt : Mark 2 := .mk _; rintro e u ⟨rfl, hu⟩; rw [hu]; clear hu)
    | (go_at_call 64; have cq : Mark 2 := cnt; refine (c3 _).mono ?_; clear cq cnt; have cnt : Mark 3 := .mk _; rintro e u ⟨rfl, hu⟩; rw [hu]; clear hu))
  all_goals
    have PZ : Row ((v.alloc (.cells #[.int .i64 Y, .int .i64 M, .int .i64 D] 39)).drew) w.heap.size [.int .i64 0, .int .i64 0, .int .i64 0] := Row.dr (Row.al PV)
    have PX : Row ((v.alloc (.cells #[.int .i64 Y, .int .i64 M, .int .i64 D] 39)).drew) v.heap.size [.int .i64 Y, .int .i64 M, .int .i64 D] := Row.dr (Row.made rfl)
    have hw : Below w.heap.size w ((v.alloc (.cells #[.int .i64 Y, .int .i64 M, .int .i64 D] 39)).drew) := rbel_dr (rbel_al hv)
    generalize ((v.alloc (.cells #[.int .i64 Y, .int .i64 M, .int .i64 D] 39)).drew) = W at *
    have g0 := PX.c 0 _ rfl
    have g1 := PX.c 1 _ rfl
    have g2 := PX.c 2 _ rfl
    rcases hy.out with ⟨o, rfl, rfl, rfl, rfl⟩ | ⟨o, rfl, rfl, rfl, rfl⟩
    · rw [eD_no o, errc_not (by decide)] at cC
      clear o hy
      go_wp2_with (go_at_call 17; refine (cC _ (HE.out.below hw)).mono ?_; rintro x u ⟨rfl, hb⟩; have hw2 : Below w.heap.size w u := rbel_on hb hw; have QZ := Row.on hb PZ; have QX := Row.on hb PX; have a0 := QZ.c 0 _ rfl; have a1 := QZ.c 1 _ rfl; have a2 := QZ.c 2 _ rfl; have b0 := QX.c 0 _ rfl; have b1 := QX.c 1 _ rfl; have b2 := QX.c 2 _ rfl; have f0 := QZ.f 0 _ rfl; have f1 := QZ.f 1 _ rfl; have f2 := QZ.f 2 _ rfl; clear hb)
      exact bodyPost_ret (v := .tuple #[.agg #[.int .i64 0, .int .i64 0, .int .i64 0], .iface 81 (.int .i64 1)]) (by simp [results, Tryd.results26, go_sem, *]) rfl ⟨rfl, by (repeat (first | assumption | refine Below.setCell ?_ (by first | (simp; done) | (simp; omega) | omega) _ | apply Below.drew | apply rbel_drn))⟩
    · rw [eD_ok o, errc_zero] at cC
      clear o hy
      go_wp2_with (go_at_call 17; refine (cC _ (HE.out.below hw)).mono ?_; rintro x u ⟨rfl, hb⟩; have hw2 : Below w.heap.size w u := rbel_on hb hw; have QZ := Row.on hb PZ; have QX := Row.on hb PX; have a0 := QZ.c 0 _ rfl; have a1 := QZ.c 1 _ rfl; have a2 := QZ.c 2 _ rfl; have b0 := QX.c 0 _ rfl; have b1 := QX.c 1 _ rfl; have b2 := QX.c 2 _ rfl; have f0 := QZ.f 0 _ rfl; have f1 := QZ.f 1 _ rfl; have f2 := QZ.f 2 _ rfl; clear hb)
      exact bodyPost_ret (v := .tuple #[.agg #[.int .i64 y, .int .i64 m, .int .i64 d], .nilIface]) (by simp [results, Tryd.results26, go_sem, *]) rfl ⟨rfl, by (repeat (first | assumption | refine Below.setCell ?_ (by first | (simp; done) | (simp; omega) | omega) _ | apply Below.drew | apply rbel_drn))⟩

theorem parse_any (s : ByteArray) (y m d e : Int) (w : World) (he : EnvA w) (hm : s.size ≤ maxLen) (h : RD s y m d e) :
    Calls Tryd.prog 26 #[.string s] w fun x w' => x = .returned (.tuple #[.agg #[.int .i64 y, .int .i64 m, .int .i64 d], errc e]) ∧ Below w.heap.size w w' := by
  rcases h with ⟨hn, rfl, rfl, rfl, rfl⟩ | ⟨sh, o, rfl, rfl, rfl, rfl⟩ | ⟨sh, o, rfl, rfl, rfl, rfl⟩
  · exact parse_syn s w hm hn
  · exact parse_shp s 0 0 0 1 w sh he (Or.inl ⟨o, rfl, rfl, rfl, rfl⟩ : _ ∨ _)
  · exact parse_shp s _ _ _ 0 w sh he (Or.inr ⟨o, rfl, rfl, rfl, rfl⟩ : _ ∨ _)
end Go.Proofs.YthaajbdppmdhaacDoor
