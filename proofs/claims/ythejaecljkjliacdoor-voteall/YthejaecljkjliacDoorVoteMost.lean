/- What package vote answers: Most. -/
import Derived.Test.YthejaecljkjliacDoorVoteRes
import Derived.Test.YthejaecljkjliacDoorVoteWalk
import Derived.Test.YthejaecljkjliacDoorVoteTold
namespace Go.Proofs.YthejaecljkjliacDoor
open Go.ChangeShapes Go.WideShapes Go.ChangeAt Go.RowKit
set_option linter.unusedVariables false
set_option linter.unusedSimpArgs false

set_option maxHeartbeats 1000000 in
theorem most_no (a : Option Addr) (n cap : Nat) (e : Int) (w : World) (he : e ≠ 0) (cC : ∀ u, Below w.heap.size w u → Calls Tryd.prog 45 #[.slice a n cap] u fun x w' => x = .returned (.iface 81 (.int .i64 e)) ∧ Below u.heap.size u w') :
    Calls Tryd.prog 11 #[.slice a n cap] w fun x w' => x = .returned (.tuple #[.agg #[.int .i64 0, .int .i64 0], .int .i64 0, .iface 81 (.int .i64 e)]) ∧ Below w.heap.size w w' := by
  have cnt0 : Mark 0 := .mk _
  go_enter Tryd.func11, Tryd.ntmps11
  go_wp2_with (go_at_call 45; refine (cC _ (rbel_al (Below.refl _ _))).mono ?_; rintro e u0 ⟨rfl, hb⟩; have hw : Below w.heap.size w u0 := rbel_on hb (rbel_al (Below.refl _ _)); have PR : Row u0 w.heap.size [.int .i64 0, .int .i64 0] := Row.on hb (Row.made rfl); have cR0 := PR.c 0 _ rfl; have cR1 := PR.c 1 _ rfl; have fR0 := PR.f 0 _ rfl; have fR1 := PR.f 1 _ rfl; have zR := PR.lt)
  exact bodyPost_ret (v := _) (by simp [results, Tryd.results11, go_sem, *]) rfl ⟨rfl, by (repeat (first | assumption | refine Below.setCell ?_ (by first | (simp; done) | (simp; omega) | omega) _ | apply Below.drew))⟩

set_option maxHeartbeats 2000000 in
theorem most_told_ok (b off n cap : Nat) (q : Nat → Int × Int) (w : World) (h0 : 0 < n) (h40 : n ≤ 40) (hP : Sps w b off n q) (ok : ∀ i, i < n → okB (q i).1 (q i).2 = true) :
    Calls Tryd.prog 11 #[.slice (some ⟨b, off, none⟩) n cap] w fun x w' => ∃ lo hi m, IsMost (cnt q n) lo hi m ∧ x = .returned (.tuple #[.agg #[.int .i64 lo, .int .i64 hi], .int .i64 m, .nilIface]) ∧ Below w.heap.size w w' := by
  have hmf : ∀ (fn : Go.Fn) (first cap : Array Value) (w : World), (Instr.makeFunc fn first cap).run Tryd.prog w = .ok (.func fn first cap) w := fun _ _ _ _ => rfl
  have cC : ∀ u, Below w.heap.size w u → Calls Tryd.prog 45 #[.slice (some ⟨b, off, none⟩) n cap] u fun x w' => x = .returned .nilIface ∧ Below u.heap.size u w' := fun u hu => vcheck_any b off n cap n q .nilIface u h0 h40 (hP.on hu) (Nat.le_refl _) ok (Or.inl ⟨rfl, rfl⟩)
  have cW : ∀ (B : Nat) u, w.heap.size < B → Below w.heap.size w u → B + 2 = u.heap.size → MostIn B (B + 1) (0, 0, 0) u → Calls Tryd.prog 46 #[.slice (some ⟨b, off, none⟩) n cap, .func (.func 47) #[] #[.pointer (some ⟨B + 1, 0, none⟩), .pointer (some ⟨B, 0, none⟩)]] u
      fun e w' => e = .returned (.tuple #[]) ∧ ∃ L, Steps q n L ∧ MostIn B (B + 1) (toldBy mostT (0, 0, 0) L (2 * n - 1)) w' ∧ Keeps (fun b => b = B ∨ b = B + 1) u w' := fun B u h1 hu h2 hI =>
    walk_most mostT (MostIn B (B + 1)) (fun b => b = B ∨ b = B + 1) _ _ b off n cap q (0, 0, 0) u h0 h40 (hP.on hu) ok (fun st u u' h hb => h.on hb) (fun k hk => by omega) hI (fun st lo hi k u h x1 x2 x3 => most1 B (B + 1) (by omega) st lo hi k u h (by omega) x3)
  have okk := fun i hi => (okB_t (ok i hi)).1
  clear hP ok
  go_enter Tryd.func11, Tryd.ntmps11
  go_wp2_with (first
    | (go_at_call 45; refine (cC _ (rbel_al (Below.refl _ _))).mono ?_; rintro e u0 ⟨rfl, hb⟩; have hw : Below w.heap.size w u0 := rbel_on hb (rbel_al (Below.refl _ _)); have PR : Row u0 w.heap.size [.int .i64 0, .int .i64 0] := Row.on hb (Row.made rfl); have zR := PR.lt; clear hb)
    | (go_at_call 46; refine (cW u0.heap.size _ zR (rbel_al (rbel_al hw)) (by simp) ⟨Row.al (Row.made rfl), Row.made (by simp), by decide, by decide⟩).mono ?_; rintro e u1 ⟨rfl, L, hL, hI, hK⟩; have PR1 : Row u1 w.heap.size [.int .i64 0, .int .i64 0] := hK.row (by omega) (Row.al (Row.al PR)); have hm := most_told hL okk h0; have hw1 : Below w.heap.size w u1 := (rbel_al (rbel_al hw)).trans (hK.below (by simp; omega) (by intro k hk; omega)); have PB := hI.best; have PM := hI.most; have cB0 := PB.c 0 _ rfl; have cB1 := PB.c 1 _ rfl; have cM0 := PM.c 0 _ rfl; have cR0 := PR1.c 0 _ rfl; have cR1 := PR1.c 1 _ rfl; have fR0 := PR1.f 0 _ rfl; have fR1 := PR1.f 1 _ rfl; have zR1 := PR1.lt; have zB := PB.lt; have zM := PM.lt; have nb1 : ¬ (u0.heap.size = w.heap.size) := (by omega); have nb2 : ¬ (u0.heap.size + 1 = w.heap.size) := (by omega); have nb3 : ¬ (w.heap.size = u0.heap.size) := (by omega); have nb4 : ¬ (w.heap.size = u0.heap.size + 1) := (by omega); clear hI hK hL cC cW))
  generalize toldBy mostT (0, 0, 0) L (2 * n - 1) = a at *
  obtain ⟨lo, hi, m⟩ := a
  simp only at cB0 cB1 cM0 hm
  go_region
  all_goals
    go_wp2
    refine bodyPost_ret (v := .tuple #[.agg #[.int .i64 lo, .int .i64 hi], .int .i64 m, .nilIface]) (by simp [results, Tryd.results11, go_sem, *]) rfl ⟨lo, hi, m, hm, rfl, by (repeat (first | assumption | refine Below.setCell ?_ (by first | (simp; done) | (simp; omega) | omega) _ | apply Below.drew))⟩
end Go.Proofs.YthejaecljkjliacDoor
