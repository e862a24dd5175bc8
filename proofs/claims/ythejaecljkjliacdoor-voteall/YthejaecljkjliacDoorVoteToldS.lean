/- What the closure of vote.Safe makes of a span of numbers that are in as many. -/
import Derived.Test.YthejaecljkjliacDoorVoteChk
namespace Go.Proofs.YthejaecljkjliacDoor
open Go.ChangeShapes Go.WideShapes Go.ChangeAt Go.RowKit
set_option linter.unusedVariables false
set_option linter.unusedSimpArgs false

/-- What lies in the variables of vote.Safe. -/
structure SafeIn (Bl Bd Bf Bs : Nat) (sl : Value) (d : Int) (a : Int × Int × Bool) (u : World) : Prop where
  list : Row u Bl [sl]
  bad : Row u Bd [.int .i64 d]
  found : Row u Bf [.bool a.2.2]
  safe : Row u Bs [.int .i64 a.1, .int .i64 a.2.1]
theorem SafeIn.on {Bl Bd Bf Bs : Nat} {sl : Value} {d : Int} {a : Int × Int × Bool} {u u' : World} (h : SafeIn Bl Bd Bf Bs sl d a u) (hb : Below u.heap.size u u') : SafeIn Bl Bd Bf Bs sl d a u' := ⟨Row.on hb h.list, Row.on hb h.bad, Row.on hb h.found, Row.on hb h.safe⟩

set_option maxHeartbeats 1000000 in
theorem safe1 (Bl Bd Bf Bs n cap : Nat) (ad : Option Addr) (d : Int) (n1 : Bf ≠ Bs) (n2 : Bl ≠ Bs) (n3 : Bd ≠ Bs) (n4 : Bl ≠ Bf) (n5 : Bd ≠ Bf) (a : Int × Int × Bool) (lo hi k : Int) (w : World) (h : SafeIn Bl Bd Bf Bs (.slice ad n cap) d a w) (hn : n ≤ 40) (hd : 0 ≤ d) (hdn : d < n) :
    Calls Tryd.prog 50 #[.agg #[.int .i64 lo, .int .i64 hi], .int .i64 k, .pointer (some ⟨Bl, 0, none⟩), .pointer (some ⟨Bd, 0, none⟩), .pointer (some ⟨Bf, 0, none⟩), .pointer (some ⟨Bs, 0, none⟩)] w fun e w' =>
      e = .returned (.tuple #[]) ∧ SafeIn Bl Bd Bf Bs (.slice ad n cap) d (safeT (n - d) a lo hi k) w' ∧ Keeps (fun b => b = Bf ∨ b = Bs) w w' := by
  obtain ⟨x, y, f⟩ := a
  obtain ⟨PL, PD, PF, PS⟩ := h
  simp only at PF PS
  have zL := PL.lt
  have zD := PD.lt
  have zF := PF.lt
  have zS := PS.lt
  have cL0 := PL.c 0 _ rfl
  have cD0 := PD.c 0 _ rfl
  have cF0 := PF.c 0 _ rfl
  have fF0 := PF.f 0 _ rfl
  have cS0 := PS.c 0 _ rfl
  have cS1 := PS.c 1 _ rfl
  have fS0 := PS.f 0 _ rfl
  have fS1 := PS.f 1 _ rfl
  have m1 : ¬ (Bl = w.heap.size) := by omega
  have m2 : ¬ (Bd = w.heap.size) := by omega
  have m3 : ¬ (Bf = w.heap.size) := by omega
  have m4 : ¬ (Bs = w.heap.size) := by omega
  have m5 : ¬ (w.heap.size = Bs) := by omega
  have m6 : ¬ (w.heap.size = Bf) := by omega
  have n6 : ¬ (Bf = Bs) := n1
  have n7 : ¬ (Bs = Bf) := fun e => n1 e.symm
  by_cases c1 : k < n - d
  · have T : Hid (safeT (n - d) (x, y, f) lo hi k = (x, y, f)) := if_pos c1
    go_enter Tryd.func50, Tryd.ntmps50
    go_wp2
    (try simp only [Exit.inBlock, Exit.then]); refine bodyPost_ret (results_none rfl _ _ _) rfl ?_
    rw [T.out]
    exact ⟨rfl, ⟨Row.al PL, Row.al PD, Row.al PF, Row.al PS⟩, .al (.refl _ _)⟩
  · cases f with
    | false =>
      have T : Hid (safeT (n - d) (x, y, false) lo hi k = (lo, hi, true)) := if_neg c1
      go_enter Tryd.func50, Tryd.ntmps50
      go_wp2
      go_end0
      rw [T.out]
      exact ⟨rfl, ⟨Row.al (Row.far (Ne.symm n2) (Row.far (Ne.symm n4) (Row.far (Ne.symm n2) PL))), Row.al (Row.far (Ne.symm n3) (Row.far (Ne.symm n5) (Row.far (Ne.symm n3) PD))), Row.al (Row.far (Ne.symm n1) (Row.put 0 (Row.far (Ne.symm n1) PF))), Row.al (Row.put 1 (Row.far n1 (Row.put 0 PS)))⟩,
        .al (.put (Or.inr rfl) (.put (Or.inl rfl) (.put (Or.inr rfl) (.refl _ _))))⟩
    | true =>
      have T : Hid (safeT (n - d) (x, y, true) lo hi k = (x, hi, true)) := if_neg c1
      go_enter Tryd.func50, Tryd.ntmps50
      go_wp2
      go_end0
      rw [T.out]
      exact ⟨rfl, ⟨Row.al (Row.far (Ne.symm n2) PL), Row.al (Row.far (Ne.symm n3) PD), Row.al (Row.far (Ne.symm n1) PF), Row.al (Row.put 1 PS)⟩, .al (.put (Or.inr rfl) (.refl _ _))⟩
end Go.Proofs.YthejaecljkjliacDoor
