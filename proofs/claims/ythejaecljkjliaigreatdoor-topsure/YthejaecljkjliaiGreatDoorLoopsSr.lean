/- The search of package loops as it lies in memory; what a try of a step does. -/
import Derived.Test.YthejaecljkjliaiGreatDoorNm14
import Derived.Test.YthejaecljkjliaiGreatDoorNm02
namespace Go.Proofs.YthejaecljkjliaiGreatDoor
open Go.ChangeShapes Go.WideShapes Go.ChangeAt Go.RowKit Go.Joins
set_option linter.unusedVariables false
set_option linter.unusedSimpArgs false

def nums (M : Nat → Int) (n : Nat) : List Value := (List.range n).map fun i => .int .i64 (M i)
theorem nums_at (M : Nat → Int) (n i : Nat) (h : i < n) : (nums M n)[i]? = some (.int .i64 (M i)) := by simp [nums, h]
theorem nums_set (M : Nat → Int) (n v : Nat) (x : Int) (hv : v < n) : (nums M n).set v (.int .i64 x) = nums (updI M v x) n := by
  apply List.ext_getElem?
  intro k
  by_cases hk : k < n
  · rw [nums_at _ _ _ hk]
    by_cases e : v = k
    · subst e
      rw [List.getElem?_set_self (by simp [nums]; exact hk), updI_at]
    · rw [List.getElem?_set_ne e, nums_at _ _ _ hk, updI_ne _ _ (fun h => e h.symm)]
  · rw [List.getElem?_eq_none (by simp [nums]; omega), List.getElem?_eq_none (by simp [nums]; omega)]
/-- How far ahead each node can be, and its last step: two rows. -/
structure Srm (u : World) (bm bb n : Nat) (M Y : Nat → Int) : Prop where
  mB : Blk u 3 bm (nums M n)
  yB : Blk u 3 bb (nums Y n)
  ne : bm ≠ bb
/-- The blocks of a search. -/
def Sbk (bm bb k : Nat) : Prop := k = bm ∨ k = bb
section
variable {W u w : World} {bm bb n b i d : Nat} {M Y : Nat → Int} {ob : Obj} {x : Value}
theorem Srm.on (hb : Below W.heap.size W u) (h : Srm W bm bb n M Y) : Srm u bm bb n M Y := ⟨h.mB.on hb, h.yB.on hb, h.ne⟩
theorem Srm.al (h : Srm W bm bb n M Y) : Srm (W.alloc ob) bm bb n M Y := ⟨h.mB.al, h.yB.al, h.ne⟩
theorem Srm.dr (h : Srm W bm bb n M Y) : Srm W.drew bm bb n M Y := ⟨h.mB, h.yB, h.ne⟩
theorem Srm.drn (h : Srm W bm bb n M Y) : Srm (W.drewN d) bm bb n M Y := ⟨h.mB, h.yB, h.ne⟩
theorem Srm.put {v : Nat} {a c : Int} (hv : v < n) (h : Srm W bm bb n M Y) : Srm ((W.setCell ⟨bm, v, none⟩ (.int .i64 a)).setCell ⟨bb, v, none⟩ (.int .i64 c)) bm bb n (updI M v a) (updI Y v c) :=
  ⟨by rw [← nums_set _ _ _ _ hv]; exact (h.mB.put v).far h.ne, by rw [← nums_set _ _ _ _ hv]; exact (h.yB.far (fun e => h.ne e.symm)).put v, h.ne⟩
theorem Srm.keep {S : Nat → Prop} (hk : Keeps S W u) (h1 : ¬ S bm) (h2 : ¬ S bb) (h : Srm W bm bb n M Y) : Srm u bm bb n M Y := ⟨(hk.block _ h.mB.lt h1).trans h.mB, (hk.block _ h.yB.lt h2).trans h.yB, h.ne⟩
end
theorem EHanded.onK {S : Nat → Prop} {W u : World} {a : Option Addr} {m : Nat} {q : Nat → Eg} (hk : Keeps S W u) (hn : ∀ b off, 0 < m → a = some ⟨b, off, none⟩ → ¬ S b) (h : EHanded W a m q) : EHanded u a m q := by
  refine ⟨h.1, ?_⟩
  rcases h.2 with e | ⟨b, off, e, s⟩
  · exact Or.inl e
  · by_cases m0 : m = 0
    · exact Or.inl m0
    · exact Or.inr ⟨b, off, e, fun i hi => by
        obtain ⟨h0, h1, h2, h3⟩ := s i hi
        have nb := hn b off (by omega) e
        exact ⟨hk.cell nb h0, hk.cell nb h1, hk.cell nb h2, hk.cell nb h3⟩⟩
set_option maxRecDepth 100000 in
set_option maxHeartbeats 8000000 in
theorem try_no' (a : Option Addr) (m cap bm bb n f t : Nat) (M Y : Nat → Int) (x co : Int) (w : World) (S : Srm w bm bb n M Y) (hf : f < n) (ht : t < n) (h6 : n ≤ 6)
    (cL : ∀ u, Below w.heap.size w u → Calls Tryz.prog 107 #[.slice a m cap, .int .i64 x] u fun e w' => e = .returned (.agg #[.int .i64 f, .int .i64 t, .int .i64 co]) ∧ Below u.heap.size u w')
    (mf mt : Int) (hmf : M f = mf) (hmt : M t = mt) (wm : IntKind.i64.wrap (mf + co) = mf + co) (hd : mt ≤ mf + co) :
    Calls Tryz.prog 106 #[.agg #[.slice a m cap, .slice (some ⟨bm, 0, none⟩) n n, .slice (some ⟨bb, 0, none⟩) n n], .int .i64 x] w fun e w' => e = .returned (.bool false) ∧ Srm w' bm bb n M Y ∧ Keeps (Sbk bm bb) w w' := by
  have hS : Hid (Srm w bm bb n M Y) := S
  have c1 := S.mB.c f _ (nums_at M n f hf)
  have c2 := S.mB.c t _ (nums_at M n t ht)
  rw [hmf] at c1
  rw [hmt] at c2
  have l1 := S.mB.lt
  have l2 := S.yB.lt
  have hf3 : (f : Int) < n := by omega
  have ht3 : (t : Int) < n := by omega
  clear S hmf hmt
  go_enter Tryz.func106, Tryz.ntmps106
  go_wp2_with (go_at_call 107; refine (cL _ (rbel_al (Below.refl _ _))).mono ?_; rintro e u0 ⟨rfl, hb⟩; have r := Row.on hb (Row.made (W := w) (vs := [.slice a m cap, .slice (some ⟨bm, 0, none⟩) n n, .slice (some ⟨bb, 0, none⟩) n n]) rfl); have r0 := r.c 0 _ rfl; have r1 := r.c 1 _ rfl; have r2 := r.c 2 _ rfl; have b0 : Below w.heap.size w u0 := rbel_on hb (rbel_al (Below.refl _ _)); replace c1 : u0.cell? ⟨bm, f, none⟩ = some (.int .i64 mf) := (by rw [b0.cell l1]; exact c1); replace c2 : u0.cell? ⟨bm, t, none⟩ = some (.int .i64 mt) := (by rw [b0.cell l1]; exact c2); have z0 := r.lt; have z1 : w.heap.size ≤ u0.heap.size := b0.size; have k1 : bm < u0.heap.size := (by omega); have k2 : bb < u0.heap.size := (by omega); have HB : Hid _ := b0; clear hb r b0)
  go_quiet (fail)
  go_wp2
  go_ret
  exact ⟨rfl, (hS.out.on HB.out).al.drn, (Keeps.of HB.out).al.drn⟩
set_option maxRecDepth 100000 in
set_option maxHeartbeats 8000000 in
theorem try_yes' (a : Option Addr) (m cap bm bb n f t : Nat) (M Y : Nat → Int) (x co : Int) (w : World) (S : Srm w bm bb n M Y) (hf : f < n) (ht : t < n) (h6 : n ≤ 6)
    (cL : ∀ u, Below w.heap.size w u → Calls Tryz.prog 107 #[.slice a m cap, .int .i64 x] u fun e w' => e = .returned (.agg #[.int .i64 f, .int .i64 t, .int .i64 co]) ∧ Below u.heap.size u w')
    (mf mt : Int) (hmf : M f = mf) (hmt : M t = mt) (wm : IntKind.i64.wrap (mf + co) = mf + co) (hd : ¬ mt ≤ mf + co) :
    Calls Tryz.prog 106 #[.agg #[.slice a m cap, .slice (some ⟨bm, 0, none⟩) n n, .slice (some ⟨bb, 0, none⟩) n n], .int .i64 x] w fun e w' => e = .returned (.bool true) ∧ Srm w' bm bb n (updI M t (mf + co)) (updI Y t x) ∧ Keeps (Sbk bm bb) w w' := by
  have hS : Hid (Srm w bm bb n M Y) := S
  have c1 := S.mB.c f _ (nums_at M n f hf)
  have c2 := S.mB.c t _ (nums_at M n t ht)
  rw [hmf] at c1
  rw [hmt] at c2
  have c3 := S.yB.c t _ (nums_at Y n t ht)
  have f1 := S.mB.f t
  have f2 := S.yB.f t
  have nm := S.ne
  have nm' : ¬ (bb = bm) := fun e => nm e.symm
  have l1 := S.mB.lt
  have l2 := S.yB.lt
  have hf3 : (f : Int) < n := by omega
  have ht3 : (t : Int) < n := by omega
  clear S hmf hmt
  go_enter Tryz.func106, Tryz.ntmps106
  go_wp2_with (go_at_call 107; refine (cL _ (rbel_al (Below.refl _ _))).mono ?_; rintro e u0 ⟨rfl, hb⟩; have r := Row.on hb (Row.made (W := w) (vs := [.slice a m cap, .slice (some ⟨bm, 0, none⟩) n n, .slice (some ⟨bb, 0, none⟩) n n]) rfl); have r0 := r.c 0 _ rfl; have r1 := r.c 1 _ rfl; have r2 := r.c 2 _ rfl; have b0 : Below w.heap.size w u0 := rbel_on hb (rbel_al (Below.refl _ _)); replace c1 : u0.cell? ⟨bm, f, none⟩ = some (.int .i64 mf) := (by rw [b0.cell l1]; exact c1); replace c2 : u0.cell? ⟨bm, t, none⟩ = some (.int .i64 mt) := (by rw [b0.cell l1]; exact c2); replace c3 : u0.cell? ⟨bb, t, none⟩ = some (.int .i64 (Y t)) := (by rw [b0.cell l2]; exact c3); replace f1 : u0.frozen? ⟨bm, t, none⟩ = false := (by rw [b0.frozen l1]; exact f1); replace f2 : u0.frozen? ⟨bb, t, none⟩ = false := (by rw [b0.frozen l2]; exact f2); have z0 := r.lt; have q1 : ¬ (w.heap.size = bm) := (by omega); have q2 : ¬ (w.heap.size = bb) := (by omega); have z1 : w.heap.size ≤ u0.heap.size := b0.size; have k1 : bm < u0.heap.size := (by omega); have k2 : bb < u0.heap.size := (by omega); have HB : Hid _ := b0; clear hb r b0)
  have q3 : ¬ (u0.heap.size = bm) := by omega
  have q4 : ¬ (u0.heap.size = bb) := by omega
  have q5 : ¬ (u0.heap.size = w.heap.size) := by omega
  go_quiet (fail)
  go_wp2
  go_region
  go_wp2
  go_ret
  exact ⟨rfl, ((hS.out.on HB.out).al.drn).put ht, Keeps.put (Or.inr rfl) (Keeps.put (Or.inl rfl) ((Keeps.of HB.out).al.drn))⟩
/-- What a try of a step does. -/
def TryR (q : Nat → Eg) (bm bb n : Nat) (M Y : Nat → Int) (x : Int) (w : World) (e : Ending) (w' : World) : Prop :=
  ((Tgt q M x ∧ e = .returned (.bool false) ∧ Srm w' bm bb n M Y) ∨ (¬ Tgt q M x ∧ e = .returned (.bool true) ∧ Srm w' bm bb n (updI M (toN q x) (M (frN q x) + coS q x)) (updI Y (toN q x) x))) ∧ Keeps (Sbk bm bb) w w'
theorem try_any (a : Option Addr) (m cap : Nat) (q : Nat → Eg) (bm bb n : Nat) (M Y : Nat → Int) (x : Int) (w : World) (hE : Egs n q m) (hH : EHanded w a m q) (S : Srm w bm bb n M Y) (ok : okS m x) (lo : ∀ v, v < n → -480000000000000 ≤ M v ∧ M v ≤ 0) :
    Calls Tryz.prog 106 #[.agg #[.slice a m cap, .slice (some ⟨bm, 0, none⟩) n n, .slice (some ⟨bb, 0, none⟩) n n], .int .i64 x] w fun e w' => TryR q bm bb n M Y x w e w' := by
  have hf := frN_lt hE ok
  have ht := toN_lt hE ok
  have h6 : n ≤ 6 := by have := hE.n6; omega
  have cL : ∀ u, Below w.heap.size w u → Calls Tryz.prog 107 #[.slice a m cap, .int .i64 x] u fun e w' => e = .returned (.agg #[.int .i64 (frN q x : Nat), .int .i64 (toN q x : Nat), .int .i64 (coS q x)]) ∧ Below u.heap.size u w' := fun u hu => by
    rw [frN_eq hE ok, toN_eq hE ok]
    exact legOf_any n a m cap q x u hE (hH.on hu) ok
  have co := coS_in hE ok
  have l1 := lo _ hf
  have wm : IntKind.i64.wrap (M (frN q x) + coS q x) = M (frN q x) + coS q x := IntWalk.i64_in _ (by omega)
  by_cases h : M (toN q x) ≤ M (frN q x) + coS q x
  · exact (try_no' a m cap bm bb n _ _ M Y x _ w S hf ht h6 cL _ _ rfl rfl wm h).mono (by rintro e w' ⟨h1, h2, h3⟩; exact ⟨Or.inl ⟨h, h1, h2⟩, h3⟩)
  · exact (try_yes' a m cap bm bb n _ _ M Y x _ w S hf ht h6 cL _ _ rfl rfl wm h).mono (by rintro e w' ⟨h1, h2, h3⟩; exact ⟨Or.inr ⟨h, h1, h2⟩, h3⟩)
end Go.Proofs.YthejaecljkjliaiGreatDoor
