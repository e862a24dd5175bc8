/- What package loops' search does when it goes back. -/
import Derived.Test.YtiebojccnaelbaeDoorLoopsAll
import Derived.Test.YtiebojccnaelbaeDoorLoopsRev
import Derived.Deep.RegionHeld
namespace Go.Proofs.YtiebojccnaelbaeDoor
open Go.ChangeShapes Go.WideShapes Go.ChangeAt Go.RowKit Go.Joins
set_option linter.unusedVariables false
set_option linter.unusedSimpArgs false

set_option maxRecDepth 100000 in
set_option maxHeartbeats 8000000 in
theorem ahead_any (a : Option Addr) (m cap : Nat) (q : Nat → Eg) (bm bb n v : Nat) (M Y : Nat → Int) (w : World) (hE : Egs n q m) (hH : EHanded w a m q) (S : Srm w bm bb n M Y) (hv : v < n) (ok : okS m (Y v)) :
    Calls Tryd.prog 52 #[.agg #[.slice a m cap, .slice (some ⟨bm, 0, none⟩) n n, .slice (some ⟨bb, 0, none⟩) n n], .int .i64 v] w fun e w' => e = .returned (.int .i64 (frN q (Y v) : Nat)) ∧ Below w.heap.size w w' := by
  have h6 : n ≤ 6 := by have := hE.n6; omega
  have cL : ∀ u, Below w.heap.size w u → Calls Tryd.prog 18 #[.slice a m cap, .int .i64 (Y v)] u fun e w' => e = .returned (.agg #[.int .i64 (frN q (Y v) : Nat), .int .i64 (toS q (Y v)), .int .i64 (coS q (Y v))]) ∧ Below u.heap.size u w' := fun u hu => by
    rw [frN_eq hE ok]
    exact legOf_any n a m cap q (Y v) u hE (hH.on hu) ok
  have c1 := S.yB.c v _ (nums_at Y n v hv)
  have l1 := S.yB.lt
  have hv3 : (v : Int) < n := by omega
  have lf := leg_f
  clear hE hH S ok
  generalize frN q (Y v) = f at *
  generalize toS q (Y v) = t at *
  generalize coS q (Y v) = co at *
  generalize Y v = y at *
  go_enter Tryd.func52, Tryd.ntmps52
  go_wp2
  go_region_held (fun w' => w'.cell? ⟨w.heap.size, 0, none⟩ = some (.slice a m cap) ∧ w'.cell? ⟨w.heap.size, 2, none⟩ = some (.slice (some ⟨bb, 0, none⟩) n n) ∧ w'.cell? ⟨bb, v, none⟩ = some (.int .i64 y)) (go_keep) (first | (go_at_call 18; refine (cL _ (rbel_dr (rbel_al (Below.refl _ _)))).mono ?_; rintro e u0 ⟨rfl, hb⟩; have b0 : Below w.heap.size w u0 := rbel_on hb (rbel_dr (rbel_al (Below.refl _ _))); have r := Row.on hb (Row.dr (Row.made (W := w) (vs := [.slice a m cap, .slice (some ⟨bm, 0, none⟩) n n, .slice (some ⟨bb, 0, none⟩) n n]) rfl)); have r0 := r.c 0 _ rfl; have r2 := r.c 2 _ rfl; have c2 : u0.cell? ⟨bb, v, none⟩ = some (.int .i64 y) := (by rw [b0.cell l1]; exact c1); have HB : Hid (Below w.heap.size w u0) := b0; clear hb b0 r))
  go_wp2
  go_ret
  exact ⟨rfl, HB.out⟩
end Go.Proofs.YtiebojccnaelbaeDoor
