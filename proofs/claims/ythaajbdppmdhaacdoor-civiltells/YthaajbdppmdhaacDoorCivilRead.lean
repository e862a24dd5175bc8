/- What the document's own reckoning (package noonref1) answers of texts: ReadDate. -/
import Derived.Test.YthaajbdppmdhaacDoorCivilText2
namespace Go.Proofs.YthaajbdppmdhaacDoor
open Go.ChangeShapes Go.WideShapes Go.ChangeAt Go.RowKit Go.Joins
set_option linter.unusedVariables false
set_option linter.unusedSimpArgs false

theorem plain_at (s : ByteArray) (h : s.size ≤ 10) : ∃ (a : Int) (x : Bool), (x = true ↔ allD s) ∧ (x = true → a = pv s.data.toList) ∧ ∀ u, Calls Tryd.prog 62 #[.string s] u fun e w' => e = .returned (.tuple #[.int .i64 a, .bool x]) ∧ w' = u := by
  by_cases c : allD s
  · exact ⟨_, true, ⟨fun _ => c, fun _ => rfl⟩, fun _ => rfl, fun u => rplain_ok s u h c⟩
  · exact ⟨0, false, ⟨fun h => absurd h (by decide), fun h => absurd h c⟩, fun h => absurd h (by decide), fun u => rplain_no s u h c⟩
set_option maxRecDepth 100000 in
set_option maxHeartbeats 2000000 in
theorem rread_len (s : ByteArray) (hs : s.size ≤ 9223372036854775807) (h : ¬ s.size = 10) (w : World) :
    Calls Tryd.prog 25 #[.string s] w fun e w' => e = .returned (.tuple #[.agg #[.int .i64 0, .int .i64 0, .int .i64 0], .int .i64 2]) ∧ Below w.heap.size w w' := by
  have h1 : (((s.size : Nat) : Int) == 10) = false := by simp; omega
  go_enter Tryd.func25, Tryd.ntmps25
  go_wp2
  exact bodyPost_ret (v := _) (by simp [results, Tryd.results25, go_sem, *]) rfl ⟨rfl, by (repeat (first | assumption | apply rbel_al | exact Below.refl _ _ | refine Below.setCell ?_ (by first | (simp; done) | (simp; omega) | omega) _ | apply Below.drew))⟩

set_option maxRecDepth 100000 in
set_option maxHeartbeats 2000000 in
theorem rread_4 (s : ByteArray) (hs : s.size = 10) (h4 : ¬ s[4].toNat = 45) (w : World) :
    Calls Tryd.prog 25 #[.string s] w fun e w' => e = .returned (.tuple #[.agg #[.int .i64 0, .int .i64 0, .int .i64 0], .int .i64 2]) ∧ Below w.heap.size w w' := by
  have h1 : (((s[4].toNat : Nat) : Int) == 45) = false := by simp; omega
  go_enter Tryd.func25, Tryd.ntmps25
  go_wp2
  exact bodyPost_ret (v := _) (by simp [results, Tryd.results25, go_sem, *]) rfl ⟨rfl, by (repeat (first | assumption | apply rbel_al | exact Below.refl _ _ | refine Below.setCell ?_ (by first | (simp; done) | (simp; omega) | omega) _ | apply Below.drew))⟩

set_option maxRecDepth 100000 in
set_option maxHeartbeats 2000000 in
theorem rread_7 (s : ByteArray) (hs : s.size = 10) (h4 : s[4].toNat = 45) (h7 : ¬ s[7].toNat = 45) (w : World) :
    Calls Tryd.prog 25 #[.string s] w fun e w' => e = .returned (.tuple #[.agg #[.int .i64 0, .int .i64 0, .int .i64 0], .int .i64 2]) ∧ Below w.heap.size w w' := by
  have h1 : (((s[7].toNat : Nat) : Int) == 45) = false := by simp; omega
  have h2 : ((s[4].toNat : Nat) : Int) = 45 := by omega
  go_enter Tryd.func25, Tryd.ntmps25
  go_wp2
  exact bodyPost_ret (v := _) (by simp [results, Tryd.results25, go_sem, *]) rfl ⟨rfl, by (repeat (first | assumption | apply rbel_al | exact Below.refl _ _ | refine Below.setCell ?_ (by first | (simp; done) | (simp; omega) | omega) _ | apply Below.drew))⟩

set_option maxRecDepth 100000 in
set_option maxHeartbeats 2000000 in
theorem rread_x (s : ByteArray) (hs : s.size = 10) (h4 : s[4].toNat = 45) (h7 : s[7].toNat = 45) (a b c : Int) (y z : Bool) (cA : ∀ u, Calls Tryd.prog 62 #[.string (s.extract 0 4)] u fun e w' => e = .returned (.tuple #[.int .i64 a, .bool false]) ∧ w' = u) (cB : ∀ u, Calls Tryd.prog 62 #[.string (s.extract 5 7)] u fun e w' => e = .returned (.tuple #[.int .i64 b, .bool y]) ∧ w' = u) (cC : ∀ u, Calls Tryd.prog 62 #[.string (s.extract 8 10)] u fun e w' => e = .returned (.tuple #[.int .i64 c, .bool z]) ∧ w' = u) (w : World) :
    Calls Tryd.prog 25 #[.string s] w fun e w' => e = .returned (.tuple #[.agg #[.int .i64 0, .int .i64 0, .int .i64 0], .int .i64 2]) ∧ Below w.heap.size w w' := by
  have h5 : ((s[4].toNat : Nat) : Int) = 45 := by omega
  have h8 : ((s[7].toNat : Nat) : Int) = 45 := by omega
  have mk : Mark 0 := .mk _
  go_enter Tryd.func25, Tryd.ntmps25
  go_wp2_with (first | (go_at_call 62; have cq : Mark 0 := mk; refine (cA _).mono ?_; clear cq mk; have mk : Mark 1 := .mk _; rintro e u ⟨rfl, hu⟩; rw [hu]; clear hu) | (go_at_call 62; have cq : Mark 1 := mk; refine (cB _).mono ?_; clear cq mk; have mk : Mark 2 := .mk _; rintro e u ⟨rfl, hu⟩; rw [hu]; clear hu) | (go_at_call 62; have cq : Mark 2 := mk; refine (cC _).mono ?_; clear cq mk; have mk : Mark 3 := .mk _; rintro e u ⟨rfl, hu⟩; rw [hu]; clear hu))
  exact bodyPost_ret (v := _) (by simp [results, Tryd.results25, go_sem, *]) rfl ⟨rfl, by (repeat (first | assumption | apply rbel_al | exact Below.refl _ _ | refine Below.setCell ?_ (by first | (simp; done) | (simp; omega) | omega) _ | apply Below.drew))⟩

set_option maxRecDepth 100000 in
set_option maxHeartbeats 2000000 in
theorem rread_y (s : ByteArray) (hs : s.size = 10) (h4 : s[4].toNat = 45) (h7 : s[7].toNat = 45) (a b c : Int) (z : Bool) (cA : ∀ u, Calls Tryd.prog 62 #[.string (s.extract 0 4)] u fun e w' => e = .returned (.tuple #[.int .i64 a, .bool true]) ∧ w' = u) (cB : ∀ u, Calls Tryd.prog 62 #[.string (s.extract 5 7)] u fun e w' => e = .returned (.tuple #[.int .i64 b, .bool false]) ∧ w' = u) (cC : ∀ u, Calls Tryd.prog 62 #[.string (s.extract 8 10)] u fun e w' => e = .returned (.tuple #[.int .i64 c, .bool z]) ∧ w' = u) (w : World) :
    Calls Tryd.prog 25 #[.string s] w fun e w' => e = .returned (.tuple #[.agg #[.int .i64 0, .int .i64 0, .int .i64 0], .int .i64 2]) ∧ Below w.heap.size w w' := by
  have h5 : ((s[4].toNat : Nat) : Int) = 45 := by omega
  have h8 : ((s[7].toNat : Nat) : Int) = 45 := by omega
  have mk : Mark 0 := .mk _
  go_enter Tryd.func25, Tryd.ntmps25
  go_wp2_with (first | (go_at_call 62; have cq : Mark 0 := mk; refine (cA _).mono ?_; clear cq mk; have mk : Mark 1 := .mk _; rintro e u ⟨rfl, hu⟩; rw [hu]; clear hu) | (go_at_call 62; have cq : Mark 1 := mk; refine (cB _).mono ?_; clear cq mk; have mk : Mark 2 := .mk _; rintro e u ⟨rfl, hu⟩; rw [hu]; clear hu) | (go_at_call 62; have cq : Mark 2 := mk; refine (cC _).mono ?_; clear cq mk; have mk : Mark 3 := .mk _; rintro e u ⟨rfl, hu⟩; rw [hu]; clear hu))
  exact bodyPost_ret (v := _) (by simp [results, Tryd.results25, go_sem, *]) rfl ⟨rfl, by (repeat (first | assumption | apply rbel_al | exact Below.refl _ _ | refine Below.setCell ?_ (by first | (simp; done) | (simp; omega) | omega) _ | apply Below.drew))⟩

set_option maxRecDepth 100000 in
set_option maxHeartbeats 2000000 in
theorem rread_z (s : ByteArray) (hs : s.size = 10) (h4 : s[4].toNat = 45) (h7 : s[7].toNat = 45) (a b c : Int) (cA : ∀ u, Calls Tryd.prog 62 #[.string (s.extract 0 4)] u fun e w' => e = .returned (.tuple #[.int .i64 a, .bool true]) ∧ w' = u) (cB : ∀ u, Calls Tryd.prog 62 #[.string (s.extract 5 7)] u fun e w' => e = .returned (.tuple #[.int .i64 b, .bool true]) ∧ w' = u) (cC : ∀ u, Calls Tryd.prog 62 #[.string (s.extract 8 10)] u fun e w' => e = .returned (.tuple #[.int .i64 c, .bool false]) ∧ w' = u) (w : World) :
    Calls Tryd.prog 25 #[.string s] w fun e w' => e = .returned (.tuple #[.agg #[.int .i64 0, .int .i64 0, .int .i64 0], .int .i64 2]) ∧ Below w.heap.size w w' := by
  have h5 : ((s[4].toNat : Nat) : Int) = 45 := by omega
  have h8 : ((s[7].toNat : Nat) : Int) = 45 := by omega
  have mk : Mark 0 := .mk _
  go_enter Tryd.func25, Tryd.ntmps25
  go_wp2_with (first | (go_at_call 62; have cq : Mark 0 := mk; refine (cA _).mono ?_; clear cq mk; have mk : Mark 1 := .mk _; rintro e u ⟨rfl, hu⟩; rw [hu]; clear hu) | (go_at_call 62; have cq : Mark 1 := mk; refine (cB _).mono ?_; clear cq mk; have mk : Mark 2 := .mk _; rintro e u ⟨rfl, hu⟩; rw [hu]; clear hu) | (go_at_call 62; have cq : Mark 2 := mk; refine (cC _).mono ?_; clear cq mk; have mk : Mark 3 := .mk _; rintro e u ⟨rfl, hu⟩; rw [hu]; clear hu))
  exact bodyPost_ret (v := _) (by simp [results, Tryd.results25, go_sem, *]) rfl ⟨rfl, by (repeat (first | assumption | apply rbel_al | exact Below.refl _ _ | refine Below.setCell ?_ (by first | (simp; done) | (simp; omega) | omega) _ | apply Below.drew))⟩

set_option maxRecDepth 100000 in
set_option maxHeartbeats 2000000 in
theorem rread_no (s : ByteArray) (hs : s.size = 10) (h4 : s[4].toNat = 45) (h7 : s[7].toNat = 45) (a b c : Int) (cA : ∀ u, Calls Tryd.prog 62 #[.string (s.extract 0 4)] u fun e w' => e = .returned (.tuple #[.int .i64 a, .bool true]) ∧ w' = u) (cB : ∀ u, Calls Tryd.prog 62 #[.string (s.extract 5 7)] u fun e w' => e = .returned (.tuple #[.int .i64 b, .bool true]) ∧ w' = u) (cC : ∀ u, Calls Tryd.prog 62 #[.string (s.extract 8 10)] u fun e w' => e = .returned (.tuple #[.int .i64 c, .bool true]) ∧ w' = u) (ho : okD a b c = false) (w : World) :
    Calls Tryd.prog 25 #[.string s] w fun e w' => e = .returned (.tuple #[.agg #[.int .i64 0, .int .i64 0, .int .i64 0], .int .i64 1]) ∧ Below w.heap.size w w' := by
  have h5 : ((s[4].toNat : Nat) : Int) = 45 := by omega
  have h8 : ((s[7].toNat : Nat) : Int) = 45 := by omega
  have mk : Mark 0 := .mk _
  have cT := fun u => rdate_any a b c u
  rw [ho] at cT
  go_enter Tryd.func25, Tryd.ntmps25
  go_wp2_with (first | (go_at_call 62; have cq : Mark 0 := mk; refine (cA _).mono ?_; clear cq mk; have mk : Mark 1 := .mk _; rintro e u ⟨rfl, hu⟩; rw [hu]; clear hu) | (go_at_call 62; have cq : Mark 1 := mk; refine (cB _).mono ?_; clear cq mk; have mk : Mark 2 := .mk _; rintro e u ⟨rfl, hu⟩; rw [hu]; clear hu) | (go_at_call 62; have cq : Mark 2 := mk; refine (cC _).mono ?_; clear cq mk; have mk : Mark 3 := .mk _; rintro e u ⟨rfl, hu⟩; rw [hu]; clear hu) | (go_at_call 14; have cq : Mark 3 := mk; refine (cT _).mono ?_; clear cq mk; have mk : Mark 4 := .mk _; rintro e u0 ⟨rfl, hb⟩; have hw : Below w.heap.size w u0 := rbel_on hb (rbel_al (rbel_al (Below.refl _ _))); have PR : Row u0 w.heap.size [.int .i64 0, .int .i64 0, .int .i64 0] := Row.on hb (Row.al (Row.made rfl)); have PD : Row u0 (w.heap.size + 1) [.int .i64 a, .int .i64 b, .int .i64 c] := Row.on hb (Row.made (by simp)); have cR0 := PR.c 0 _ rfl; have cR1 := PR.c 1 _ rfl; have cR2 := PR.c 2 _ rfl; have fR0 := PR.f 0 _ rfl; have fR1 := PR.f 1 _ rfl; have fR2 := PR.f 2 _ rfl; have cD0 := PD.c 0 _ rfl; have cD1 := PD.c 1 _ rfl; have cD2 := PD.c 2 _ rfl; have zR := PR.lt; have zD := PD.lt))
  exact bodyPost_ret (v := _) (by simp [results, Tryd.results25, go_sem, *]) rfl ⟨rfl, by (repeat (first | assumption | apply rbel_al | exact Below.refl _ _ | refine Below.setCell ?_ (by first | (simp; done) | (simp; omega) | omega) _ | apply Below.drew))⟩

set_option maxRecDepth 100000 in
set_option maxHeartbeats 2000000 in
theorem rread_ok (s : ByteArray) (hs : s.size = 10) (h4 : s[4].toNat = 45) (h7 : s[7].toNat = 45) (a b c : Int) (cA : ∀ u, Calls Tryd.prog 62 #[.string (s.extract 0 4)] u fun e w' => e = .returned (.tuple #[.int .i64 a, .bool true]) ∧ w' = u) (cB : ∀ u, Calls Tryd.prog 62 #[.string (s.extract 5 7)] u fun e w' => e = .returned (.tuple #[.int .i64 b, .bool true]) ∧ w' = u) (cC : ∀ u, Calls Tryd.prog 62 #[.string (s.extract 8 10)] u fun e w' => e = .returned (.tuple #[.int .i64 c, .bool true]) ∧ w' = u) (ho : okD a b c = true) (w : World) :
    Calls Tryd.prog 25 #[.string s] w fun e w' => e = .returned (.tuple #[.agg #[.int .i64 a, .int .i64 b, .int .i64 c], .int .i64 0]) ∧ Below w.heap.size w w' := by
  have h5 : ((s[4].toNat : Nat) : Int) = 45 := by omega
  have h8 : ((s[7].toNat : Nat) : Int) = 45 := by omega
  have mk : Mark 0 := .mk _
  have cT := fun u => rdate_any a b c u
  rw [ho] at cT
  go_enter Tryd.func25, Tryd.ntmps25
  go_wp2_with (first | (go_at_call 62; have cq : Mark 0 := mk; refine (cA _).mono ?_; clear cq mk; have mk : Mark 1 := .mk _; rintro e u ⟨rfl, hu⟩; rw [hu]; clear hu) | (go_at_call 62; have cq : Mark 1 := mk; refine (cB _).mono ?_; clear cq mk; have mk : Mark 2 := .mk _; rintro e u ⟨rfl, hu⟩; rw [hu]; clear hu) | (go_at_call 62; have cq : Mark 2 := mk; refine (cC _).mono ?_; clear cq mk; have mk : Mark 3 := .mk _; rintro e u ⟨rfl, hu⟩; rw [hu]; clear hu) | (go_at_call 14; have cq : Mark 3 := mk; refine (cT _).mono ?_; clear cq mk; have mk : Mark 4 := .mk _; rintro e u0 ⟨rfl, hb⟩; have hw : Below w.heap.size w u0 := rbel_on hb (rbel_al (rbel_al (Below.refl _ _))); have PR : Row u0 w.heap.size [.int .i64 0, .int .i64 0, .int .i64 0] := Row.on hb (Row.al (Row.made rfl)); have PD : Row u0 (w.heap.size + 1) [.int .i64 a, .int .i64 b, .int .i64 c] := Row.on hb (Row.made (by simp)); have cR0 := PR.c 0 _ rfl; have cR1 := PR.c 1 _ rfl; have cR2 := PR.c 2 _ rfl; have fR0 := PR.f 0 _ rfl; have fR1 := PR.f 1 _ rfl; have fR2 := PR.f 2 _ rfl; have cD0 := PD.c 0 _ rfl; have cD1 := PD.c 1 _ rfl; have cD2 := PD.c 2 _ rfl; have zR := PR.lt; have zD := PD.lt))
  exact bodyPost_ret (v := _) (by simp [results, Tryd.results25, go_sem, *]) rfl ⟨rfl, by (repeat (first | assumption | apply rbel_al | exact Below.refl _ _ | refine Below.setCell ?_ (by first | (simp; done) | (simp; omega) | omega) _ | apply Below.drew))⟩

theorem rread_any (s : ByteArray) (y m d e : Int) (w : World) (hs : s.size ≤ 9223372036854775807) (hR : RD s y m d e) :
    Calls Tryd.prog 25 #[.string s] w fun x w' => x = .returned (.tuple #[.agg #[.int .i64 y, .int .i64 m, .int .i64 d], .int .i64 e]) ∧ Below w.heap.size w w' := by
  by_cases h : s.size = 10
  · by_cases h4 : s[4].toNat = 45
    · by_cases h7 : s[7].toNat = 45
      · obtain ⟨a, x, x1, x2, cA⟩ := plain_at (s.extract 0 4) (by simp; omega)
        obtain ⟨b, y', y1, y2, cB⟩ := plain_at (s.extract 5 7) (by simp; omega)
        obtain ⟨c, z, z1, z2, cC⟩ := plain_at (s.extract 8 10) (by simp; omega)
        cases x with
        | false =>
          have ns : ¬ Shp s := fun ⟨_, _, _, q, _⟩ => absurd (x1.2 q) (by decide)
          rcases hR with ⟨_, rfl, rfl, rfl, rfl⟩ | ⟨k, _⟩ | ⟨k, _⟩
          · exact rread_x s h h4 h7 a b c y' z cA cB cC w
          · exact absurd k ns
          · exact absurd k ns
        | true =>
          cases y' with
          | false =>
            have ns : ¬ Shp s := fun ⟨_, _, _, _, q, _⟩ => absurd (y1.2 q) (by decide)
            rcases hR with ⟨_, rfl, rfl, rfl, rfl⟩ | ⟨k, _⟩ | ⟨k, _⟩
            · exact rread_y s h h4 h7 a b c z cA cB cC w
            · exact absurd k ns
            · exact absurd k ns
          | true =>
            cases z with
            | false =>
              have ns : ¬ Shp s := fun ⟨_, _, _, _, _, q⟩ => absurd (z1.2 q) (by decide)
              rcases hR with ⟨_, rfl, rfl, rfl, rfl⟩ | ⟨k, _⟩ | ⟨k, _⟩
              · exact rread_z s h h4 h7 a b c cA cB cC w
              · exact absurd k ns
              · exact absurd k ns
            | true =>
              have e1 : a = yr s := x2 rfl
              have e2 : b = mo s := y2 rfl
              have e3 : c = da s := z2 rfl
              subst e1 e2 e3
              have sh : Shp s := ⟨h, h4, h7, x1.1 rfl, y1.1 rfl, z1.1 rfl⟩
              rcases hR with ⟨k, _⟩ | ⟨_, o, rfl, rfl, rfl, rfl⟩ | ⟨_, o, rfl, rfl, rfl, rfl⟩
              · exact absurd sh k
              · exact rread_no s h h4 h7 _ _ _ cA cB cC o w
              · exact rread_ok s h h4 h7 _ _ _ cA cB cC o w
      · have ns : ¬ Shp s := fun ⟨_, _, q, _⟩ => h7 q
        rcases hR with ⟨_, rfl, rfl, rfl, rfl⟩ | ⟨k, _⟩ | ⟨k, _⟩
        · exact rread_7 s h h4 h7 w
        · exact absurd k ns
        · exact absurd k ns
    · have ns : ¬ Shp s := fun ⟨_, q, _⟩ => h4 q
      rcases hR with ⟨_, rfl, rfl, rfl, rfl⟩ | ⟨k, _⟩ | ⟨k, _⟩
      · exact rread_4 s h h4 w
      · exact absurd k ns
      · exact absurd k ns
  · have ns : ¬ Shp s := fun ⟨q, _⟩ => h q
    rcases hR with ⟨_, rfl, rfl, rfl, rfl⟩ | ⟨k, _⟩ | ⟨k, _⟩
    · exact rread_len s hs h w
    · exact absurd k ns
    · exact absurd k ns
end Go.Proofs.YthaajbdppmdhaacDoor
