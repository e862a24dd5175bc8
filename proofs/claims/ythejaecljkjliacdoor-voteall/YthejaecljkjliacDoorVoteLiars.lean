/- What vote.Liars answers of any spans: the places of those that have nothing of what is in the most. -/
import Derived.Test.YthejaecljkjliacDoorVoteSafeC
namespace Go.Proofs.YthejaecljkjliacDoor
open Go.ChangeShapes Go.WideShapes Go.ChangeAt Go.RowKit
set_option linter.unusedVariables false
set_option linter.unusedSimpArgs false

/-- Has it nothing of what is from lo to hi? -/
def lies (lo hi : Int) (s : Int × Int) : Bool := decide (s.2 < lo ∨ hi < s.1)
/-- The places of those that have nothing of it, among the first n. -/
def liars (lo hi : Int) (q : Nat → Int × Int) : Nat → List Int
  | 0 => []
  | n + 1 => if lies lo hi (q n) = true then liars lo hi q n ++ [(n : Int)] else liars lo hi q n
theorem liars_le (lo hi : Int) (q : Nat → Int × Int) : ∀ n, (liars lo hi q n).length ≤ n
  | 0 => Nat.le_refl _
  | n + 1 => by
    have ih := liars_le lo hi q n
    simp only [liars]
    split
    · simp; omega
    · omega

set_option maxHeartbeats 1000000 in
theorem liars1 (B : Nat) (lo hi : Int) (s : Int × Int) (w : World) (h : Row w B [.int .i64 lo, .int .i64 hi]) :
    Calls Tryd.prog 49 #[.agg #[.int .i64 s.1, .int .i64 s.2], .pointer (some ⟨B, 0, none⟩)] w fun e w' => e = .returned (.bool (lies lo hi s)) ∧ Below w.heap.size w w' := by
  have c0 := h.c 0 _ rfl
  have c1 := h.c 1 _ rfl
  have z := h.lt
  have n1 : ¬ (B = w.heap.size) := by omega
  have n2 : ¬ (w.heap.size = B) := by omega
  by_cases a1 : s.2 < lo
  · have T : Hid (lies lo hi s = true) := decide_eq_true (Or.inl a1)
    go_enter Tryd.func49, Tryd.ntmps49
    go_wp2
    go_ret
    exact ⟨by rw [T.out]; rfl, rbel_al (Below.refl _ _)⟩
  · by_cases a2 : hi < s.1
    · have T : Hid (lies lo hi s = true) := decide_eq_true (Or.inr a2)
      go_enter Tryd.func49, Tryd.ntmps49
      go_wp2
      go_ret
      refine ⟨?_, rbel_al (Below.refl _ _)⟩
      rw [T.out]
      have d2 : decide (hi < s.1) = true := decide_eq_true a2
      simp [d2]
    · have T : Hid (lies lo hi s = false) := decide_eq_false (by omega)
      go_enter Tryd.func49, Tryd.ntmps49
      go_wp2
      go_ret
      refine ⟨?_, rbel_al (Below.refl _ _)⟩
      rw [T.out]
      have d1 : decide (s.2 < lo) = false := decide_eq_false (by omega)
      have d2 : decide (hi < s.1) = false := decide_eq_false (by omega)
      simp [d1, d2]

theorem infoInt : (Tryd.prog.info? 3).map (fun i => (i.zero, i.size, i.bytes)) = some (some (.int .i64 0), 1, 8) := by kernel_rfl

set_option maxHeartbeats 4000000 in
set_option maxRecDepth 100000 in
theorem places_any (b off n cap B : Nat) (lo hi : Int) (q : Nat → Int × Int) (w : World) (h0 : 0 < n) (h40 : n ≤ 40) (hP : Sps w b off n q) (hR : Row w B [.int .i64 lo, .int .i64 hi]) :
    Calls Tryd.prog 48 #[.slice (some ⟨b, off, none⟩) n cap, .func (.func 49) #[] #[.pointer (some ⟨B, 0, none⟩)]] w fun e w' => ∃ v, e = .returned v ∧ w'.ownsRow w.heap.size 3 1 v (liars lo hi q n).length ((liars lo hi q n).map (Value.int .i64)) ∧ Below w.heap.size w w' := by
  obtain ⟨i0, hi0, hz0, hz1, hz2⟩ := info_parts infoInt
  have hbl : b < w.heap.size := World.block_lt_of_cell? _ _ (hP 0 h0).1
  have hB := hR.lt
  go_enter Tryd.func48, Tryd.ntmps48
  go_wp2
  go_loopw [5, 11] (fun v i wr => ∃ k : Nat, k ≤ n ∧ i = .int .i64 k ∧ wr.ownsRow w.heap.size 3 1 v (liars lo hi q k).length ((liars lo hi q k).map (Value.int .i64)) ∧ Below w.heap.size w wr) (fun _ i _ => n - (intOf i).toNat)
  case atStart => exact ⟨0, Nat.zero_le _, rfl, own_empty w _ 1, rbel_al (Below.refl _ _)⟩
  case round =>
    obtain ⟨k, hk, rfl, hown, hw⟩ := hrel
    have zz := hw.size
    by_cases hlt : k < n
    · obtain ⟨x0, x1⟩ := (hP.on hw) k hlt
      have PR := Row.on hw hR
      have nb : ¬ (b = wr.heap.size) := by omega
      have ll := liars_le lo hi q k
      have CL : ∀ u, Row u B [.int .i64 lo, .int .i64 hi] → Calls Tryd.prog 49 #[.agg #[.int .i64 (q k).1, .int .i64 (q k).2], .pointer (some ⟨B, 0, none⟩)] u fun e w' => e = .returned (.bool (lies lo hi (q k))) ∧ Below u.heap.size u w' := fun u h => liars1 B lo hi (q k) u h
      have HL : Hid (∀ z, lies lo hi (q k) = z → liars lo hi q (k + 1) = if z = true then liars lo hi q k ++ [(k : Int)] else liars lo hi q k) := fun z hz => by subst hz; rfl
      clear hP hR
      cases hl : lies lo hi (q k) with
      | true =>
        rw [hl] at CL
        replace HL : Hid (liars lo hi q (k + 1) = liars lo hi q k ++ [(k : Int)]) := HL.out true hl
        go_wp2_with (first
          | (go_at_call 49; refine (CL _ (Row.al PR)).mono ?_; rintro e u0 ⟨rfl, hb⟩; have hg0 : Below wr.heap.size wr u0 := (((Below.refl _ _).alloc (Nat.le_refl _) _).trans (hb.mono (by simp))); replace hown := own_on hg0 hown; replace hw : Below w.heap.size w u0 := rbel_on hb (rbel_al hw); clear hb)
          | (at_builtin; refine wpList_append_own _ rfl _ _ 33 rfl w.heap.size 3 i0 (.int .i64 0) 1 8 Tryd.underlying33 hi0 hz0 hz1 hz2 rfl (by decide) _ _ _ rfl (hown.alloc _) ⟨u0.heap.size, 0, none⟩ 1 1 [.int .i64 k] rfl rfl ?c1 ?c2 ?c3 ?c4 ?c5 ?_))
        case c1 =>
          intro j u hj
          rw [Addr.add_lit, World.cell?_alloc_at _ _ _ _ (by simp)]
          simpa using hj
        case c2 =>
          intro u hu
          simp at hu
          rcases hu with rfl; rfl
        case c3 => unfold maxLen; omega
        case c4 => omega
        case c5 => have := hw.size; simp; omega
        intro v' w1 hown' hgrow _
        have hown1 : Hid (w1.ownsRow w.heap.size 3 1 v' (liars lo hi q (k + 1)).length ((liars lo hi q (k + 1)).map (Value.int .i64))) := by
          show w1.ownsRow w.heap.size 3 1 v' _ _
          rw [HL.out, List.length_append, List.map_append]
          exact hown'
        have hw1 : Below w.heap.size w w1 := (rbel_al hw).grown hgrow (by have := hw.size; simp; omega) (fun j hj => (hown.lt j hj).1)
        clear hown' hgrow hown
        go_wp2
        go_roundw
        case rel => exact ⟨k + 1, by omega, by go_num, hown1.out, hw1⟩
        case measure => simp [intOf]; omega
      | false =>
        rw [hl] at CL
        replace HL : Hid (liars lo hi q (k + 1) = liars lo hi q k) := HL.out false hl
        go_wp2_with (go_at_call 49; refine (CL _ (Row.al PR)).mono ?_; rintro e u0 ⟨rfl, hb⟩; have hg0 : Below wr.heap.size wr u0 := (((Below.refl _ _).alloc (Nat.le_refl _) _).trans (hb.mono (by simp))); replace hown := own_on hg0 hown; replace hw : Below w.heap.size w u0 := rbel_on hb (rbel_al hw); clear hb)
        go_roundw
        case rel => exact ⟨k + 1, by omega, by go_num, by rw [HL.out]; exact hown, hw⟩
        case measure => simp [intOf]; omega
    · have kn : k = n := by omega
      subst kn
      go_wp2
      go_ret
      exact ⟨_, rfl, hown, hw⟩

theorem own_mono {w : World} {base base' : Nat} {e : TypeId} {size n : Nat} {v : Value} {xs : List Value} (h : w.ownsRow base e size v n xs) (hb : base' ≤ base) : w.ownsRow base' e size v n xs := by
  refine ⟨h.1, ?_⟩
  rcases h.2 with h | ⟨g, cap, cur, h1, h2, h3⟩
  · exact Or.inl h
  · exact Or.inr ⟨g, cap, cur, h1, by omega, h3⟩
theorem own_slice {w : World} {base : Nat} {e : TypeId} {size n : Nat} {v : Value} {xs : List Value} (h : w.ownsRow base e size v n xs) : ∃ a cap, v = .slice a n cap := by
  rcases h.2 with ⟨h1, h2⟩ | ⟨g, cap, cur, h1, _⟩
  · exact ⟨none, 0, by rw [h1, h2]⟩
  · exact ⟨_, _, h1⟩

set_option maxHeartbeats 1000000 in
theorem liars_no (a : Option Addr) (n cap : Nat) (e : Int) (w : World) (he : e ≠ 0) (cM : ∀ u, Below w.heap.size w u → Calls Tryd.prog 11 #[.slice a n cap] u fun x w' => x = .returned (.tuple #[.agg #[.int .i64 0, .int .i64 0], .int .i64 0, .iface 81 (.int .i64 e)]) ∧ Below u.heap.size u w') :
    Calls Tryd.prog 12 #[.slice a n cap] w fun x w' => x = .returned (.tuple #[.slice none 0 0, .iface 81 (.int .i64 e)]) ∧ Below w.heap.size w w' := by
  go_enter Tryd.func12, Tryd.ntmps12
  go_wp2_with (go_at_call 11; refine (cM _ (Below.refl _ _)).mono ?_; rintro e u0 ⟨rfl, hb⟩)
  go_ret2
  exact ⟨rfl, rbel_al hb⟩

set_option maxHeartbeats 1000000 in
theorem liars_ok (b off n cap : Nat) (lo hi m : Int) (q : Nat → Int × Int) (w : World) (h0 : 0 < n) (h40 : n ≤ 40) (hP : Sps w b off n q) (cM : ∀ u, Below w.heap.size w u → Calls Tryd.prog 11 #[.slice (some ⟨b, off, none⟩) n cap] u fun x w' => x = .returned (.tuple #[.agg #[.int .i64 lo, .int .i64 hi], .int .i64 m, .nilIface]) ∧ Below u.heap.size u w') :
    Calls Tryd.prog 12 #[.slice (some ⟨b, off, none⟩) n cap] w fun x w' => ∃ v, x = .returned (.tuple #[v, .nilIface]) ∧ w'.ownsRow w.heap.size 3 1 v (liars lo hi q n).length ((liars lo hi q n).map (Value.int .i64)) ∧ Below w.heap.size w w' := by
  have hmf : ∀ (fn : Go.Fn) (first cap : Array Value) (w : World), (Instr.makeFunc fn first cap).run Tryd.prog w = .ok (.func fn first cap) w := fun _ _ _ _ => rfl
  have cP : ∀ B u, Below w.heap.size w u → Row u B [.int .i64 lo, .int .i64 hi] → Calls Tryd.prog 48 #[.slice (some ⟨b, off, none⟩) n cap, .func (.func 49) #[] #[.pointer (some ⟨B, 0, none⟩)]] u fun e w' => ∃ v, e = .returned v ∧ w'.ownsRow u.heap.size 3 1 v (liars lo hi q n).length ((liars lo hi q n).map (Value.int .i64)) ∧ Below u.heap.size u w' :=
    fun B u hu hR => places_any b off n cap B lo hi q u h0 h40 (hP.on hu) hR
  clear hP
  go_enter Tryd.func12, Tryd.ntmps12
  go_wp2_with (first
    | (go_at_call 11; refine (cM _ (Below.refl _ _)).mono ?_; rintro e u0 ⟨rfl, hb⟩)
    | (go_at_call 48; refine (cP u0.heap.size _ (rbel_al hb) (Row.made rfl)).mono ?_; rintro e u1 ⟨v, rfl, hown, hb1⟩))
  go_ret2
  exact ⟨v, rfl, own_mono hown (by have := hb.size; simp; omega), rbel_on hb1 (rbel_al hb)⟩
/-- vote.Liars, where something is wrong with the spans. -/
theorem liars_e (a : Option Addr) (n cap : Nat) (q : Nat → Int × Int) (w : World) (hH : Handed w a n q) (h : vE q n ≠ 0) :
    Calls Tryd.prog 12 #[.slice a n cap] w fun x w' => x = .returned (.tuple #[.slice none 0 0, errn (vE q n)]) ∧ Below w.heap.size w w' := by
  rw [errn_not h]
  refine liars_no a n cap _ w h (fun u hu => ?_)
  rw [← errn_not h]
  exact most_any a n cap q 0 0 0 _ u (hH.on hu) (Or.inl ⟨h, rfl, rfl, rfl, rfl⟩)
/-- .. and where nothing is. -/
theorem liars_any (b off n cap : Nat) (lo hi m : Int) (q : Nat → Int × Int) (w : World) (hP : Sps w b off n q) (h : vE q n = 0) (hM : IsMost (cnt q n) lo hi m) :
    Calls Tryd.prog 12 #[.slice (some ⟨b, off, none⟩) n cap] w fun x w' => ∃ v, x = .returned (.tuple #[v, .nilIface]) ∧ w'.ownsRow w.heap.size 3 1 v (liars lo hi q n).length ((liars lo hi q n).map (Value.int .i64)) ∧ Below w.heap.size w w' := by
  obtain ⟨h0, h40, ok⟩ := vE_zero h
  refine liars_ok b off n cap lo hi m q w h0 h40 hP (fun u hu => ?_)
  rw [← errn_zero]
  exact most_any _ n cap q lo hi m 0 u ⟨by omega, Or.inr ⟨b, off, rfl, hP.on hu⟩⟩ (Or.inr ⟨h, rfl, hM⟩)
end Go.Proofs.YthejaecljkjliacDoor
