/- Package clock, as it landed, answers as the document asks. -/
import Derived.Test.YthdjjjajhjmajafDoorClockPkgB
import Derived.Test.YthdjjjajhjmajafDoorClockPkgC
import Derived.Test.YthdjjjajhjmajafDoorClockPkgL
import Derived.Test.YthdjjjajhjmajafDoorClockPkgP
namespace Go.Proofs.YthdjjjajhjmajafDoor
open Go.ChangeShapes Go.WideShapes Go.ChangeAt Go.RowKit Go.Joins
set_option linter.unusedVariables false

theorem plearn_any (b : Nat) (c : Ck) (x y : Int) (u : World) (hR : PC u b c) (hI : c.I) :
    Calls Tryd.prog 21 #[.pointer (some ⟨b, 0, none⟩), .agg #[.int .i64 x, .int .i64 y]] u fun o w' => o = .returned (errc (c.learnE x y)) ∧ PC w' b (c.learnC x y) ∧ Keeps (fun k => k = b) u w' := by
  cases ho : okB x y with
  | false =>
    have e : c.learnE x y = 1 := by unfold Ck.learnE; rw [ho]; rfl
    have e2 : c.learnC x y = c := by unfold Ck.learnC; rw [e]; rfl
    rw [e, e2]
    exact (plearn_out b c x y u ho).mono fun _ _ ⟨he, hb⟩ => ⟨he, PC.keep hb hR, .of hb⟩
  | true =>
    cases k : c.k with
    | false =>
      have e : c.learnE x y = 0 := by unfold Ck.learnE; rw [ho, k]; rfl
      have e2 : c.learnC x y = { c with k := true, lo := x, hi := y, s := c.h } := by unfold Ck.learnC; rw [if_pos e]; unfold Ck.bLo Ck.bHi; rw [k]; rfl
      rw [e, e2]
      exact plearn_yes b c x y x y u hR ho fun w hw => pboth_n b c x y w (PC.keep hw hR) k
    | true =>
      by_cases hn : c.nowE = 0
      · by_cases q : c.bLo x ≤ c.bHi y
        · have e : c.learnE x y = 0 := by unfold Ck.learnE; rw [if_pos ho, if_pos k, if_pos hn, if_pos q]
          have e2 : c.learnC x y = { c with k := true, lo := c.bLo x, hi := c.bHi y, s := c.h } := by unfold Ck.learnC; rw [if_pos e]
          rw [e, e2]
          exact plearn_yes b c x y _ _ u hR ho fun w hw => pboth_yes b c x y w (PC.keep hw hR) hI k hn (by omega)
        · have e : c.learnE x y = 7 := by unfold Ck.learnE; rw [if_pos ho, if_pos k, if_pos hn, if_neg q]
          have e2 : c.learnC x y = c := by unfold Ck.learnC; rw [e]; rfl
          rw [e, e2]
          exact (plearn_no b c x y _ _ 7 u ho (by decide) fun w hw => pboth_clash b c x y w (PC.keep hw hR) hI k hn (by omega)).mono fun _ _ ⟨he, hb⟩ => ⟨he, PC.keep hb hR, .of hb⟩
      · have e : c.learnE x y = c.nowE := by unfold Ck.learnE; rw [if_pos ho, if_pos k, if_neg hn]
        have e2 : c.learnC x y = c := by unfold Ck.learnC; rw [e, if_neg hn]
        rw [e, e2]
        exact (plearn_no b c x y _ _ c.nowE u ho hn fun w hw => pboth_e b c x y w (PC.keep hw hR) hI k hn).mono fun _ _ ⟨he, hb⟩ => ⟨he, PC.keep hb hR, .of hb⟩
def cp {w : World} : Cp w where
  R := PC
  lt := fun h => Blk.lt h
  on := fun h e => e.trans h
  new := fun p u _ h0 h1 => pnew_ok p u h0 h1
  bad := fun p u _ _ h => pnew_no p u h
  step := fun b c x u _ _ hR _ _ => pstep_any b c x u hR
  learn := fun b c x y u _ _ hR hI _ _ => plearn_any b c x y u hR hI
  now := fun b c u _ _ hR hI => (pnow_any b c u hR hI).mono fun _ _ ⟨he, hb⟩ => ⟨he, PC.keep hb hR, .of hb⟩
def cpp {w : World} : CpP w := { toCp := cp, point := fun b c u _ _ hR hI => ppoint_any b c u hR hI }
def cph {w : World} : CpH w := { toCpP := cpp, here := fun b c u _ _ hR hI => (phere_any b c u hR).mono fun _ _ ⟨he, hw⟩ => ⟨he, hw ▸ hR, hw ▸ Keeps.refl _ _⟩ }
end Go.Proofs.YthdjjjajhjmajafDoor
