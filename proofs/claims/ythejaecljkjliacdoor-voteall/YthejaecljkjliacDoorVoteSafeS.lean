/- What package vote answers: Safe, Meet. -/
import Derived.Test.YthejaecljkjliacDoorVoteRes
namespace Go.Proofs.YthejaecljkjliacDoor
open Go.ChangeShapes Go.WideShapes Go.ChangeAt Go.RowKit
set_option linter.unusedVariables false
set_option linter.unusedSimpArgs false

theorem not_f {x : Bool} (h : (!x) = true) : x = false := by simpa using h
theorem not_t {x : Bool} (h : (!x) = false) : x = true := by simpa using h
theorem not_n {x : Bool} (h : ¬ (!x) = true) : x = true := by simpa using h

set_option maxHeartbeats 1000000 in
theorem safe_no (a : Option Addr) (n cap : Nat) (d e : Int) (w : World) (he : e ≠ 0) (cC : ∀ u, Below w.heap.size w u → Calls Tryd.prog 45 #[.slice a n cap] u fun x w' => x = .returned (.iface 81 (.int .i64 e)) ∧ Below u.heap.size u w') :
    Calls Tryd.prog 13 #[.slice a n cap, .int .i64 d] w fun x w' => x = .returned (.tuple #[.agg #[.int .i64 0, .int .i64 0], .iface 81 (.int .i64 e)]) ∧ Below w.heap.size w w' := by
  go_enter Tryd.func13, Tryd.ntmps13
  go_wp2_with (go_at_call 45; refine (cC _ (rbel_al (rbel_al (rbel_al (Below.refl _ _))))).mono ?_; rintro e u0 ⟨rfl, hb⟩; have hw : Below w.heap.size w u0 := rbel_on hb (rbel_al (rbel_al (rbel_al (Below.refl _ _)))); have PR : Row u0 (w.heap.size + 2) [.int .i64 0, .int .i64 0] := Row.on hb (Row.made (by simp)); have cR0 := PR.c 0 _ rfl; have cR1 := PR.c 1 _ rfl; have fR0 := PR.f 0 _ rfl; have fR1 := PR.f 1 _ rfl; have zR := PR.lt)
  exact bodyPost_ret (v := _) (by simp [results, Tryd.results13, go_sem, *]) rfl ⟨rfl, by (repeat (first | assumption | refine Below.setCell ?_ (by first | (simp; done) | (simp; omega) | omega) _ | apply Below.drew))⟩

set_option maxHeartbeats 1000000 in
theorem safe_out (a : Option Addr) (n cap : Nat) (d : Int) (w : World) (hn : n ≤ 40) (hd : d < 0 ∨ (n : Int) ≤ d) (cC : ∀ u, Below w.heap.size w u → Calls Tryd.prog 45 #[.slice a n cap] u fun x w' => x = .returned .nilIface ∧ Below u.heap.size u w') :
    Calls Tryd.prog 13 #[.slice a n cap, .int .i64 d] w fun x w' => x = .returned (.tuple #[.agg #[.int .i64 0, .int .i64 0], .iface 81 (.int .i64 1)]) ∧ Below w.heap.size w w' := by
  by_cases c1 : d < 0
  · clear hd
    go_enter Tryd.func13, Tryd.ntmps13
    go_wp2_with (go_at_call 45; refine (cC _ (rbel_al (rbel_al (rbel_al (Below.refl _ _))))).mono ?_; rintro e u0 ⟨rfl, hb⟩; have hw : Below w.heap.size w u0 := rbel_on hb (rbel_al (rbel_al (rbel_al (Below.refl _ _)))); have PR : Row u0 (w.heap.size + 2) [.int .i64 0, .int .i64 0] := Row.on hb (Row.made (by simp)); have PD : Row u0 (w.heap.size + 1) [.int .i64 d] := Row.on hb (Row.al (Row.made (by simp))); have PL : Row u0 w.heap.size [.slice a n cap] := Row.on hb (Row.al (Row.al (Row.made (by simp)))); have cL0 := PL.c 0 _ rfl; have cD0 := PD.c 0 _ rfl; have cR0 := PR.c 0 _ rfl; have cR1 := PR.c 1 _ rfl; have fR0 := PR.f 0 _ rfl; have fR1 := PR.f 1 _ rfl; have zR := PR.lt)
    exact bodyPost_ret (v := _) (by simp [results, Tryd.results13, go_sem, *]) rfl ⟨rfl, by (repeat (first | assumption | refine Below.setCell ?_ (by first | (simp; done) | (simp; omega) | omega) _ | apply Below.drew))⟩
  · have c2 : (n : Int) ≤ d := by omega
    clear hd
    go_enter Tryd.func13, Tryd.ntmps13
    go_wp2_with (go_at_call 45; refine (cC _ (rbel_al (rbel_al (rbel_al (Below.refl _ _))))).mono ?_; rintro e u0 ⟨rfl, hb⟩; have hw : Below w.heap.size w u0 := rbel_on hb (rbel_al (rbel_al (rbel_al (Below.refl _ _)))); have PR : Row u0 (w.heap.size + 2) [.int .i64 0, .int .i64 0] := Row.on hb (Row.made (by simp)); have PD : Row u0 (w.heap.size + 1) [.int .i64 d] := Row.on hb (Row.al (Row.made (by simp))); have PL : Row u0 w.heap.size [.slice a n cap] := Row.on hb (Row.al (Row.al (Row.made (by simp)))); have cL0 := PL.c 0 _ rfl; have cD0 := PD.c 0 _ rfl; have cR0 := PR.c 0 _ rfl; have cR1 := PR.c 1 _ rfl; have fR0 := PR.f 0 _ rfl; have fR1 := PR.f 1 _ rfl; have zR := PR.lt)
    exact bodyPost_ret (v := _) (by simp [results, Tryd.results13, go_sem, *]) rfl ⟨rfl, by (repeat (first | assumption | refine Below.setCell ?_ (by first | (simp; done) | (simp; omega) | omega) _ | apply Below.drew))⟩

set_option maxHeartbeats 4000000 in
theorem safe_told_ok (b off n cap : Nat) (q : Nat → Int × Int) (d : Int) (w : World) (h0 : 0 < n) (h40 : n ≤ 40) (hP : Sps w b off n q) (ok : ∀ i, i < n → okB (q i).1 (q i).2 = true) (hd : 0 ≤ d) (hdn : d < n) :
    Calls Tryd.prog 13 #[.slice (some ⟨b, off, none⟩) n cap, .int .i64 d] w fun x w' => (((∀ y, cnt q n y < n - d) ∧ x = .returned (.tuple #[.agg #[.int .i64 0, .int .i64 0], .iface 81 (.int .i64 7)])) ∨
      ∃ lo hi, IsSafe (cnt q n) (n - d) lo hi ∧ x = .returned (.tuple #[.agg #[.int .i64 lo, .int .i64 hi], .nilIface])) ∧ Below w.heap.size w w' := by
  have hmf : ∀ (fn : Go.Fn) (first cap : Array Value) (w : World), (Instr.makeFunc fn first cap).run Tryd.prog w = .ok (.func fn first cap) w := fun _ _ _ _ => rfl
  have cC : ∀ u, Below w.heap.size w u → Calls Tryd.prog 45 #[.slice (some ⟨b, off, none⟩) n cap] u fun x w' => x = .returned .nilIface ∧ Below u.heap.size u w' := fun u hu => vcheck_any b off n cap n q .nilIface u h0 h40 (hP.on hu) (Nat.le_refl _) ok (Or.inl ⟨rfl, rfl⟩)
  have cW : ∀ (A B : Nat) u, A + 2 < B → Below w.heap.size w u → B + 2 = u.heap.size → SafeIn A (A + 1) (B + 1) B (.slice (some ⟨b, off, none⟩) n cap) d (0, 0, false) u → Calls Tryd.prog 46 #[.slice (some ⟨b, off, none⟩) n cap, .func (.func 50) #[] #[.pointer (some ⟨A, 0, none⟩), .pointer (some ⟨A + 1, 0, none⟩), .pointer (some ⟨B + 1, 0, none⟩), .pointer (some ⟨B, 0, none⟩)]] u
      fun e w' => e = .returned (.tuple #[]) ∧ ∃ L, Steps q n L ∧ SafeIn A (A + 1) (B + 1) B (.slice (some ⟨b, off, none⟩) n cap) d (toldBy (safeT (n - d)) (0, 0, false) L (2 * n - 1)) w' ∧ Keeps (fun b => b = B + 1 ∨ b = B) u w' := fun A B u h1 hu h2 hI =>
    walk_safe (safeT (n - d)) (SafeIn A (A + 1) (B + 1) B (.slice (some ⟨b, off, none⟩) n cap) d) (fun b => b = B + 1 ∨ b = B) _ _ _ _ b off n cap q (0, 0, false) u h0 h40 (hP.on hu) ok (fun st u u' h hb => h.on hb) (fun k hk => by omega) hI (fun st lo hi k u h x1 x2 x3 => safe1 A (A + 1) (B + 1) B n cap _ d (by omega) (by omega) (by omega) (by omega) (by omega) st lo hi k u h h40 hd hdn)
  have okk := fun i hi => (okB_t (ok i hi)).1
  clear hP ok
  go_enter Tryd.func13, Tryd.ntmps13
  go_wp2_with (first
    | (go_at_call 45; refine (cC _ (rbel_al (rbel_al (rbel_al (Below.refl _ _))))).mono ?_; rintro e u0 ⟨rfl, hb⟩; have hw : Below w.heap.size w u0 := rbel_on hb (rbel_al (rbel_al (rbel_al (Below.refl _ _)))); have PR : Row u0 (w.heap.size + 2) [.int .i64 0, .int .i64 0] := Row.on hb (Row.made (by simp)); have PD : Row u0 (w.heap.size + 1) [.int .i64 d] := Row.on hb (Row.al (Row.made (by simp))); have PL : Row u0 w.heap.size [.slice (some ⟨b, off, none⟩) n cap] := Row.on hb (Row.al (Row.al (Row.made (by simp)))); have cL0 := PL.c 0 _ rfl; have cD0 := PD.c 0 _ rfl; have zR := PR.lt; have y0 : w.heap.size < u0.heap.size := (by omega); have y1 : ¬ (w.heap.size = u0.heap.size) := (by omega); have y2 : ¬ (u0.heap.size = w.heap.size) := (by omega); have y3 : ¬ (w.heap.size = u0.heap.size + 1) := (by omega); have y4 : ¬ (u0.heap.size + 1 = w.heap.size) := (by omega); clear hb)
    | (go_at_call 46; refine (cW w.heap.size u0.heap.size _ zR (rbel_al (rbel_al hw)) (by simp) ⟨Row.al (Row.al PL), Row.al (Row.al PD), Row.made (by simp), Row.al (Row.made rfl)⟩).mono ?_; rintro e u1 ⟨rfl, L, hL, hI, hK⟩; have PR1 : Row u1 (w.heap.size + 2) [.int .i64 0, .int .i64 0] := hK.row (by omega) (Row.al (Row.al PR)); have hm := safe_told hL okk h0 (K := n - d) (by omega); have hw1 : Below w.heap.size w u1 := (rbel_al (rbel_al hw)).trans (hK.below (by simp; omega) (by intro k hk; omega)); have PS := hI.safe; have PF := hI.found; have cS0 := PS.c 0 _ rfl; have cS1 := PS.c 1 _ rfl; have cF0 := PF.c 0 _ rfl; have cR0 := PR1.c 0 _ rfl; have cR1 := PR1.c 1 _ rfl; have fR0 := PR1.f 0 _ rfl; have fR1 := PR1.f 1 _ rfl; have zR1 := PR1.lt; have zS := PS.lt; have zF := PF.lt; clear hI hK hL cC cW))
  · have ff : (toldBy (safeT (n - d)) (0, 0, false) L (2 * n - 1)).2.2 = false := by first | assumption | exact not_f (by assumption) | exact not_t (by assumption) | exact not_n (by assumption)
    rcases hm with ⟨e1, e2⟩ | ⟨e1, e2⟩
    · refine bodyPost_ret (v := .tuple #[.agg #[.int .i64 0, .int .i64 0], .iface 81 (.int .i64 7)]) (by simp [results, Tryd.results13, go_sem, *]) rfl ⟨Or.inl ⟨e2, rfl⟩, by (repeat (first | assumption | refine Below.setCell ?_ (by first | (simp; done) | (simp; omega) | omega) _ | apply Below.drew))⟩
    · rw [e1] at ff; cases ff
  · have ff : (toldBy (safeT (n - d)) (0, 0, false) L (2 * n - 1)).2.2 = true := by first | assumption | exact not_f (by assumption) | exact not_t (by assumption) | exact not_n (by assumption)
    rcases hm with ⟨e1, e2⟩ | ⟨e1, e2⟩
    · rw [e1] at ff; cases ff
    · refine bodyPost_ret (v := .tuple #[.agg #[.int .i64 (toldBy (safeT (n - d)) (0, 0, false) L (2 * n - 1)).1, .int .i64 (toldBy (safeT (n - d)) (0, 0, false) L (2 * n - 1)).2.1], .nilIface]) (by simp [results, Tryd.results13, go_sem, *]) rfl ⟨Or.inr ⟨_, _, e2, rfl⟩, by (repeat (first | assumption | refine Below.setCell ?_ (by first | (simp; done) | (simp; omega) | omega) _ | apply Below.drew))⟩

/-- vote.Most, as it must answer. -/

theorem safe_any (a : Option Addr) (n cap : Nat) (q : Nat → Int × Int) (d lo hi e : Int) (w : World) (hH : Handed w a n q) (hR : SafeRes q n d lo hi e) :
    Calls Tryd.prog 13 #[.slice a n cap, .int .i64 d] w fun x w' => x = .returned (.tuple #[.agg #[.int .i64 lo, .int .i64 hi], errn e]) ∧ Below w.heap.size w w' := by
  rcases hR with ⟨h, rfl, rfl, rfl⟩ | ⟨h, hd, rfl, rfl, rfl⟩ | ⟨h, hd, hdn, hx, rfl, rfl, rfl⟩ | ⟨h, hd, hdn, rfl, hs⟩
  · rw [errn_not h]
    exact safe_no a n cap d _ w h (fun u hu => by rw [← errn_not h]; exact vcheck_e a n cap q u (hH.on hu))
  · obtain ⟨h0, h40, ok⟩ := vE_zero h
    rw [errn_not (by decide)]
    exact safe_out a n cap d w h40 hd (fun u hu => by rw [← errn_zero, ← h]; exact vcheck_e a n cap q u (hH.on hu))
  · obtain ⟨h0, h40, ok⟩ := vE_zero h
    obtain ⟨b, off, rfl, hP⟩ := hH.row h0
    rw [errn_not (by decide)]
    refine (safe_told_ok b off n cap q d w h0 h40 hP ok hd hdn).mono ?_
    rintro x w' ⟨⟨_, rfl⟩ | ⟨lo', hi', hs', rfl⟩, hb⟩
    · exact ⟨rfl, hb⟩
    · have := hx lo'; have := hs'.first; omega
  · obtain ⟨h0, h40, ok⟩ := vE_zero h
    obtain ⟨b, off, rfl, hP⟩ := hH.row h0
    rw [errn_zero]
    refine (safe_told_ok b off n cap q d w h0 h40 hP ok hd hdn).mono ?_
    rintro x w' ⟨⟨hx, rfl⟩ | ⟨lo', hi', hs', rfl⟩, hb⟩
    · have := hx lo; have := hs.first; omega
    · obtain ⟨rfl, rfl⟩ := hs.same hs'
      exact ⟨rfl, hb⟩
set_option maxHeartbeats 1000000 in
theorem vmeet_of (a : Option Addr) (n cap : Nat) (lo hi : Int) (ev : Value) (w : World) (cS : ∀ u, Below w.heap.size w u → Calls Tryd.prog 13 #[.slice a n cap, .int .i64 0] u fun x w' => x = .returned (.tuple #[.agg #[.int .i64 lo, .int .i64 hi], ev]) ∧ Below u.heap.size u w') :
    Calls Tryd.prog 9 #[.slice a n cap] w fun x w' => x = .returned (.tuple #[.agg #[.int .i64 lo, .int .i64 hi], ev]) ∧ Below w.heap.size w w' := by
  go_enter Tryd.func9, Tryd.ntmps9
  go_wp2_with (go_at_call 13; refine (cS _ (rbel_al (Below.refl _ _))).mono ?_; rintro e u0 ⟨rfl, hb⟩; have hw : Below w.heap.size w u0 := rbel_on hb (rbel_al (Below.refl _ _)); have PR : Row u0 w.heap.size [.int .i64 0, .int .i64 0] := Row.on hb (Row.made rfl); have cR0 := PR.c 0 _ rfl; have cR1 := PR.c 1 _ rfl; have fR0 := PR.f 0 _ rfl; have fR1 := PR.f 1 _ rfl; have zR := PR.lt)
  exact bodyPost_ret (v := _) (by simp [results, Tryd.results9, go_sem, *]) rfl ⟨rfl, by (repeat (first | assumption | refine Below.setCell ?_ (by first | (simp; done) | (simp; omega) | omega) _ | apply Below.drew))⟩
/-- vote.Meet, as it must answer. -/
theorem vmeet_any (a : Option Addr) (n cap : Nat) (q : Nat → Int × Int) (lo hi e : Int) (w : World) (hH : Handed w a n q) (hR : SafeRes q n 0 lo hi e) :
    Calls Tryd.prog 9 #[.slice a n cap] w fun x w' => x = .returned (.tuple #[.agg #[.int .i64 lo, .int .i64 hi], errn e]) ∧ Below w.heap.size w w' :=
  vmeet_of a n cap lo hi _ w (fun u hu => safe_any a n cap q 0 lo hi e u (hH.on hu) hR)
end Go.Proofs.YthejaecljkjliacDoor
