/- Package tree answers as the document says. -/
import Derived.Test.YtjdeeeefapijeaeDoorTreeGrow
import Derived.Test.YtjdeeeefapijeaeDoorTreeSpw
import Derived.Test.YtjdeeeefapijeaeDoorBoundsPkg
namespace Go.Proofs.YtjdeeeefapijeaeDoor
open Go.ChangeShapes Go.WideShapes Go.ChangeAt Go.RowKit Go.Joins
set_option linter.unusedVariables false
set_option linter.unusedSimpArgs false

/-- What grow answers where it tells an error. -/
theorem grow_err (z : Int) (a : Option Addr) (m cap : Nat) (q : Nat → Eg) (root e : Int) (w : World) (hH : EHanded w a m q) (h : (eE z q m ≠ 0 ∧ e = eE z q m) ∨ (eE z q m = 0 ∧ (root < 0 ∨ z ≤ root) ∧ e = 1)) :
    Calls Tryd.prog 40 #[.int .i64 z, .slice a m cap, .int .i64 root] w fun o w' => o = .returned (.tuple #[.agg #[.slice none 0 0, .slice none 0 0], .iface 72 (.int .i64 e)]) ∧ Below w.heap.size w w' := by
  rcases h with ⟨h0, rfl⟩ | ⟨h0, hr, rfl⟩
  · have := grow_bad z a m cap q root w hH h0
    rwa [errc_not h0] at this
  · have := grow_no z a m cap q root w hH h0 (by omega)
    rwa [errc_not (by decide)] at this
theorem err_ne {z : Int} {q : Nat → Eg} {m : Nat} {root e : Int} (h : (eE z q m ≠ 0 ∧ e = eE z q m) ∨ (eE z q m = 0 ∧ (root < 0 ∨ z ≤ root) ∧ e = 1)) : e ≠ 0 := by
  rcases h with ⟨h0, rfl⟩ | ⟨_, _, rfl⟩
  · exact h0
  · decide
set_option maxRecDepth 100000 in
set_option maxHeartbeats 4000000 in
theorem parents_err (z : Int) (a : Option Addr) (m cap : Nat) (root e : Int) (w : World) (cG : Calls Tryd.prog 40 #[.int .i64 z, .slice a m cap, .int .i64 root] w fun o w' => o = .returned (.tuple #[.agg #[.slice none 0 0, .slice none 0 0], .iface 72 (.int .i64 e)]) ∧ Below w.heap.size w w') :
    Calls Tryd.prog 19 #[.int .i64 z, .slice a m cap, .int .i64 root] w fun o w' => o = .returned (.tuple #[.slice none 0 0, .iface 72 (.int .i64 e)]) ∧ Below w.heap.size w w' := by
  go_enter Tryd.func19, Tryd.ntmps19
  go_wp2_with (go_at_call 40; refine cG.mono ?_; rintro o u0 ⟨rfl, hb⟩; have HB : Hid _ := hb; clear hb)
  go_ret2
  exact ⟨rfl, rbel_al HB.out⟩
set_option maxRecDepth 100000 in
set_option maxHeartbeats 4000000 in
theorem parents_good (n : Nat) (a : Option Addr) (m cap : Nat) (q : Nat → Eg) (r : Nat) (w : World) (cG : Calls Tryd.prog 40 #[.int .i64 n, .slice a m cap, .int .i64 r] w fun o w' => GrR q m n r w o w') :
    Calls Tryd.prog 19 #[.int .i64 n, .slice a m cap, .int .i64 r] w fun o w' => ∃ gb : Nat, o = .returned (.tuple #[.slice (some ⟨gb, 0, none⟩) n n, .nilIface]) ∧ Blk w' 3 gb (byR n (treeT q m n r)) ∧ Below w.heap.size w w' := by
  unfold GrR at cG
  go_enter Tryd.func19, Tryd.ntmps19
  go_wp2_with (go_at_call 40; refine cG.mono ?_; rintro o u0 ⟨g, c, gb, rfl, _, _, hB, hb⟩; have HK : Hid (Blk u0 3 gb (byR n (treeT q m n r))) := hB; have HB : Hid _ := hb; clear hb hB)
  go_ret2
  exact ⟨gb, rfl, HK.out.al, rbel_al HB.out⟩
set_option maxRecDepth 100000 in
set_option maxHeartbeats 4000000 in
theorem spans_err (z : Int) (a : Option Addr) (m cap : Nat) (root e : Int) (w : World) (cG : Calls Tryd.prog 40 #[.int .i64 z, .slice a m cap, .int .i64 root] w fun o w' => o = .returned (.tuple #[.agg #[.slice none 0 0, .slice none 0 0], .iface 72 (.int .i64 e)]) ∧ Below w.heap.size w w') :
    Calls Tryd.prog 22 #[.int .i64 z, .slice a m cap, .int .i64 root] w fun o w' => o = .returned (.tuple #[.slice none 0 0, .slice none 0 0, .iface 72 (.int .i64 e)]) ∧ Below w.heap.size w w' := by
  go_enter Tryd.func22, Tryd.ntmps22
  go_wp2_with (go_at_call 40; refine cG.mono ?_; rintro o u0 ⟨rfl, hb⟩; have HB : Hid _ := hb; clear hb)
  go_ret3
  exact ⟨rfl, rbel_al HB.out⟩
theorem ts {w : World} : Ts w := ⟨fun z a m cap q root e u _ hH _ _ hP => by
  rcases hP with h | h | ⟨h0, hr, rfl⟩
  · have h' : (eE z q m ≠ 0 ∧ e = eE z q m) ∨ (eE z q m = 0 ∧ (root < 0 ∨ z ≤ root) ∧ e = 1) := Or.inl h
    refine (parents_err z a m cap root e u (grow_err z a m cap q root e u hH h')).mono ?_
    rintro o w' ⟨rfl, hb⟩
    exact ⟨none, 0, 0, fun _ => 0, by rw [errc_not (err_ne h')], ⟨by omega, Or.inl rfl⟩, fun _ => rfl, fun he => absurd he (err_ne h'), hb⟩
  · have h' : (eE z q m ≠ 0 ∧ e = eE z q m) ∨ (eE z q m = 0 ∧ (root < 0 ∨ z ≤ root) ∧ e = 1) := Or.inr h
    refine (parents_err z a m cap root e u (grow_err z a m cap q root e u hH h')).mono ?_
    rintro o w' ⟨rfl, hb⟩
    exact ⟨none, 0, 0, fun _ => 0, by rw [errc_not (err_ne h')], ⟨by omega, Or.inl rfl⟩, fun _ => rfl, fun he => absurd he (err_ne h'), hb⟩
  · obtain ⟨n, rfl⟩ : ∃ n : Nat, z = n := ⟨z.toNat, by omega⟩
    obtain ⟨r, rfl⟩ : ∃ r : Nat, root = r := ⟨root.toNat, by omega⟩
    have h6 := (eE_zero h0).n6
    refine (parents_good n a m cap q r u (grow_good n a m cap q r u hH h0 (by omega))).mono ?_
    rintro o w' ⟨gb, rfl, hB, hb⟩
    rw [Int.toNat_natCast, Int.toNat_natCast]
    exact ⟨_, n, n, (treeT q m n r).by_, by rw [errc_zero], ⟨by omega, Or.inr ⟨gb, 0, rfl, fun i hi => by rw [Nat.zero_add]; exact hB.c i _ (byR_at n _ i hi)⟩⟩, fun h => absurd rfl h, fun _ => ⟨rfl, fun i _ => rfl⟩, hb⟩⟩
theorem tss {w : World} : TsS w := ⟨fun z a m cap q root e u _ hH _ _ hP => by
  rcases hP with h | h | ⟨h0, hr, hF⟩
  · have h' : (eE z q m ≠ 0 ∧ e = eE z q m) ∨ (eE z q m = 0 ∧ (root < 0 ∨ z ≤ root) ∧ e = 1) := Or.inl h
    refine (spans_err z a m cap root e u (grow_err z a m cap q root e u hH h')).mono ?_
    rintro o w' ⟨rfl, hb⟩
    exact ⟨none, 0, 0, fun _ => (0, 0), none, 0, 0, fun _ => false, by rw [errc_not (err_ne h')], ⟨by omega, Or.inl rfl⟩, ⟨by omega, Or.inl rfl⟩, fun _ => ⟨rfl, rfl⟩, fun he => absurd he (err_ne h'), hb⟩
  · have h' : (eE z q m ≠ 0 ∧ e = eE z q m) ∨ (eE z q m = 0 ∧ (root < 0 ∨ z ≤ root) ∧ e = 1) := Or.inr h
    refine (spans_err z a m cap root e u (grow_err z a m cap q root e u hH h')).mono ?_
    rintro o w' ⟨rfl, hb⟩
    exact ⟨none, 0, 0, fun _ => (0, 0), none, 0, 0, fun _ => false, by rw [errc_not (err_ne h')], ⟨by omega, Or.inl rfl⟩, ⟨by omega, Or.inl rfl⟩, fun _ => ⟨rfl, rfl⟩, fun he => absurd he (err_ne h'), hb⟩
  · obtain ⟨n, rfl⟩ : ∃ n : Nat, z = n := ⟨z.toNat, by omega⟩
    obtain ⟨r, rfl⟩ : ∃ r : Nat, root = r := ⟨root.toNat, by omega⟩
    rw [Int.toNat_natCast, Int.toNat_natCast] at hF ⊢
    exact spans_good n a m cap q r e u (eE_zero h0) hH (by omega) (grow_good n a m cap q r u hH h0 (by omega)) hF⟩
theorem bdt {w : World} : Bd w := bd w
end Go.Proofs.YtjdeeeefapijeaeDoor
