/- Numbers cloned, and sorted. -/
import Derived.Test.YthejaecljkjliakDoorOwnInts
import Derived.Test.YthejaecljkjliakDoorStatDef
import Derived.Test.YthejaecljkjliakDoorStatLay
import Derived.Lib.SmallJoins
import Derived.IntWalk
namespace Go.Proofs.YthejaecljkjliakDoor
open Go.ChangeShapes Go.WideShapes Go.ChangeAt Go.RowKit Go.Joins
set_option linter.unusedVariables false
set_option linter.unusedSimpArgs false

theorem nilI (n c : Nat) (u : World) : (binOp .eql 23 (.slice none n c) (.slice none 0 0)).run Tryd.prog u = .ok (.bool true) u := by kernel_rfl
theorem someI (a : Addr) (n c : Nat) (u : World) : (binOp .eql 23 (.slice (some a) n c) (.slice none 0 0)).run Tryd.prog u = .ok (.bool false) u := by kernel_rfl
theorem own_emptyI (w : World) (e : TypeId) (size : Nat) : (w.alloc (.cells #[] e)).ownsRow w.heap.size e size (.slice (some ⟨w.heap.size, 0, none⟩) 0 0) 0 [] := by
  refine ⟨by simp, Or.inr ⟨w.heap.size, 0, #[], rfl, Nat.le_refl _, ?_, Nat.le_refl _, Nat.zero_le _, by simp, by simp⟩⟩
  show (w.heap.push _)[w.heap.size]? = _
  simp
theorem icn_one (z : Nat → Int) : ∀ n, ∀ u ∈ icn z n, u.oneCell' = true
  | 0, u, h => by cases h
  | n + 1, u, h => by
    simp only [icn, List.mem_append, List.mem_singleton] at h
    rcases h with h | rfl
    · exact icn_one z n u h
    · rfl
set_option maxHeartbeats 1000000 in
theorem clone_ints (ad : Option Addr) (n cap : Nat) (z : Nat → Int) (w : World) (h60 : n ≤ 60) (hH : NHanded w ad n z) :
    Calls Tryd.prog 19 #[.slice ad n cap] w fun e w' => ∃ v, e = .returned v ∧ w'.ownsRow w.heap.size 3 1 v n (icn z n) ∧ Below w.heap.size w w' := by
  have q1 := nilI
  have q2 := someI
  obtain ⟨i0, hi0, hz0, hz1, hz2⟩ := info_parts infoIntN
  cases ad with
  | none =>
    have n0 : n = 0 := by
      rcases hH.2 with e | ⟨b, off, e, _⟩
      · exact e
      · cases e
    subst n0
    clear hH
    go_enter Tryd.func19, Tryd.ntmps19
    go_wp2
    go_ret
    exact ⟨_, rfl, World.ownsRow_nil _ _ _ _, Below.refl _ _⟩
  | some a =>
    have HC : Hid (∀ j u, (icn z n)[j]? = some u → (w.alloc (.cells #[] 3)).cell? (a.add j) = some u) := by
      intro j u hj
      have l := (List.getElem?_eq_some_iff.1 hj).1
      rw [icn_len] at l
      rcases hH.2 with e | ⟨b, off, e, hP⟩
      · omega
      · obtain rfl := Option.some.inj e
        rw [Addr.add_lit]
        have c := hP j l
        rw [icn_at z l] at hj
        rw [← hj, (rbel_al (Below.refl w.heap.size w)).cell (p := ⟨b, off + j, none⟩) (World.block_lt_of_cell? _ _ c)]
        exact c
    have HL : Hid ((icn z n).length = n * 1) := by show (icn z n).length = n * 1; rw [icn_len]; omega
    have H1 : Hid (∀ u ∈ icn z n, u.oneCell' = true) := icn_one z n
    clear hH
    generalize icn z n = news at *
    go_enter Tryd.func19, Tryd.ntmps19
    go_wp2_with (at_builtin; refine wpList_append_own _ rfl _ _ 23 rfl w.heap.size 3 i0 (.int .i64 0) 1 8 Tryd.underlying23 hi0 hz0 hz1 hz2 rfl (by decide) _ 0 [] rfl (own_emptyI w 3 1) a n cap news rfl HL.out HC.out H1.out (by unfold maxLen; omega) (by omega) (by simp) ?_)
    intro v' w1 hown' hgrow _
    have HO : Hid (w1.ownsRow w.heap.size 3 1 v' n news) := hown'
    have hw1 : Hid (Below w.heap.size w w1) := (rbel_al (Below.refl _ _)).grown hgrow (by simp) (fun j hj => ((own_emptyI w 3 1).lt j hj).1)
    clear hown' hgrow HC HL H1
    go_wp2
    go_ret
    exact ⟨_, rfl, HO.out, hw1.out⟩
section
open Go.Sort Go.Shelf
/-- The closure that compares. -/
theorem median1_any (x y : Int) (W : World) : Calls Tryd.prog 21 #[.int .i64 x, .int .i64 y] W fun e w' => e = .returned (.int .i64 (Lib.compareInt x y)) ∧ ∃ q, w' = W.drewN q := by
  have hcon := AnyG.cmp_Compare_int Tryd.cmpInt x y W
  change Calls Tryd.prog 22 _ _ _ at hcon
  generalize Lib.compareInt x y = r at hcon ⊢
  go_enter Tryd.func21, Tryd.ntmps21
  go_wp2_with (go_at_call 22; refine hcon.mono ?_; rintro e w' ⟨rfl, rfl⟩)
  go_ret
  exact ⟨rfl, 0, rfl⟩
theorem ltI (x y : Int) : ltOf Lib.compareInt x y = decide (x < y) := by
  unfold ltOf Lib.compareInt
  by_cases h1 : x < y
  · simp [h1]
  · by_cases h2 : y < x <;> simp [h1, h2]
theorem swoI : SWO (ltOf Lib.compareInt) := ⟨fun x => by rw [ltI]; simp, fun x y z h1 h2 => by rw [ltI] at *; simp at *; omega, fun x y z h1 h2 => by rw [ltI] at *; simp at *; omega⟩
theorem sort_belowI {w0 w : World} {base blk off n : Nat} {d : Array Int} {os : Array Obj} (h : Below base w0 w) (h1 : base ≤ blk) (h2 : base ≤ w.heap.size) : Below base w0 (sortWorld (Value.int .i64) w blk off n d os) := by
  refine h.trans ⟨rfl, rfl, rfl, ?_, fun k hk => ?_⟩
  · unfold sortWorld grow putRow mapBlock
    simp [Sort.ahead]
  · unfold sortWorld grow putRow mapBlock
    simp only [Array.getElem?_append]
    rw [if_pos (by simp [Sort.ahead]; omega)]
    simp only [Array.getElem?_modify]
    rw [if_neg (by omega)]
    rfl
theorem holds_of_ownI {w : World} {base g n cap : Nat} {e : TypeId} {z : Nat → Int} (h : w.ownsRow base e 1 (.slice (some ⟨g, 0, none⟩) n cap) n (icn z n)) : Holds (Value.int .i64) w g 0 (lsN z n).toArray := by
  intro j hj
  have hj' : j < n := by simpa [lsN_len] using hj
  rw [Nat.zero_add, h.cellAt j (by omega), icn_at z hj']
  refine ⟨?_, h.frozenAt j⟩
  have := lsN_at z hj'
  simp [this]
theorem mid_of {z : Nat → Int} {n : Nat} {d' : Array Int} {v : Int} (hn : 0 < n) (hp : PermIn 0 (lsN z n).toArray.size (lsN z n).toArray d') (hs : SortedIn (ltOf Lib.compareInt) 0 (lsN z n).toArray.size d') (hv : IsMid (lsN z n) ((n - 1) / 2) v) : d'.size = n ∧ d'[(n - 1) / 2]! = v := by
  have sz : (lsN z n).toArray.size = n := by simp [lsN_len]
  rw [sz] at hp hs
  obtain ⟨p1, _, p3⟩ := hp
  have s' : d'.size = n := p1.trans sz
  refine ⟨s', ?_⟩
  have e1 : (lsN z n).toArray.extract 0 n = (lsN z n).toArray := by have l := lsN_len z n; simp; rw [List.take_of_length_le (by omega)]
  have e2 : d'.extract 0 n = d' := by rw [← s']; simp
  rw [e1, e2] at p3
  have p4 : d'.toList.Perm (lsN z n) := p3
  have so : d'.toList.Pairwise (fun a b => a ≤ b) := by
    rw [List.pairwise_iff_getElem]
    intro i j hi hj hij
    simp at hi hj
    have t := hs i j (Nat.zero_le _) hij (by omega)
    rw [ltI] at t
    simp [hi, hj] at t
    simpa using t
  have g : d'.toList[(n - 1) / 2]? = some d'[(n - 1) / 2]! := by
    have : (n - 1) / 2 < d'.size := by omega
    simp [this]
  exact IsMid.one ((mid_sorted so g).perm p4) hv
set_option maxHeartbeats 1000000 in
theorem sort_ints (g n cap : Nat) (z : Nat → Int) (v : Int) (w0 w : World) (hB : Below w0.heap.size w0 w) (hg : w0.heap.size ≤ g) (hO : w.ownsRow w0.heap.size 3 1 (.slice (some ⟨g, 0, none⟩) n cap) n (icn z n)) (hn : 0 < n) (h60 : n ≤ 60) (hv : IsMid (lsN z n) ((n - 1) / 2) v) :
    Calls Tryd.prog 20 #[.slice (some ⟨g, 0, none⟩) n cap, .func (.func 21) #[] #[]] w fun e w' => e = .returned (.tuple #[]) ∧ w'.cell? ⟨g, (n - 1) / 2, none⟩ = some (.int .i64 v) ∧ Below w0.heap.size w0 w' := by
  have hH := holds_of_ownI hO
  have hb : g < w.heap.size := (hO.lt g rfl).2
  have sz : (lsN z n).toArray.size = n := by simp [lsN_len]
  have cmp : CmpReads Tryd.prog 21 #[] (Value.int .i64) Lib.compareInt g 0 (lsN z n).toArray.size w := fun _ _ _ _ x y => median1_any x y _
  have h := Any.slices_SortFunc Tryd.sortInt (Value.int .i64) (fun _ => rfl) Lib.compareInt swoI 21 #[] g 0 cap (lsN z n).toArray w (enters_of Tryd.func21 (by kernel_rfl) rfl) cmp.lays hH hb (by omega)
  change Calls Tryd.prog 20 _ _ _ at h
  have h2 := h.mono (fun e w' (q : _ ∧ _) => (⟨q.1, by
    obtain ⟨d', m, os, hp, hs, hw⟩ := q.2
    obtain ⟨s', hm⟩ := mid_of hn hp hs hv
    have hh := holds_sortWorld (Value.int .i64) w g 0 m (lsN z n).toArray d' os hb hH (s'.trans sz.symm)
    have c := (hh ((n - 1) / 2) (by omega)).1
    rw [Nat.zero_add, hm] at c
    rw [hw]
    exact ⟨c, sort_belowI hB hg hB.size⟩⟩ : e = .returned (.tuple #[]) ∧ w'.cell? ⟨g, (n - 1) / 2, none⟩ = some (.int .i64 v) ∧ Below w0.heap.size w0 w'))
  rw [sz] at h2
  exact h2
end
end Go.Proofs.YthejaecljkjliakDoor
