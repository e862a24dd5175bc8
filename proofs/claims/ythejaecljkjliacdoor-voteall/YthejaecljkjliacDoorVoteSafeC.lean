/- What package vote answers: Most besides. -/
import Derived.Test.YthejaecljkjliacDoorVoteSafeS
import Derived.Test.YthejaecljkjliacDoorVoteMost
namespace Go.Proofs.YthejaecljkjliacDoor
open Go.ChangeShapes Go.WideShapes Go.ChangeAt Go.RowKit
set_option linter.unusedVariables false
set_option linter.unusedSimpArgs false


theorem most_any (a : Option Addr) (n cap : Nat) (q : Nat → Int × Int) (lo hi m e : Int) (w : World) (hH : Handed w a n q) (hR : MostRes q n lo hi m e) :
    Calls Tryd.prog 11 #[.slice a n cap] w fun x w' => x = .returned (.tuple #[.agg #[.int .i64 lo, .int .i64 hi], .int .i64 m, errn e]) ∧ Below w.heap.size w w' := by
  rcases hR with ⟨h, rfl, rfl, rfl, rfl⟩ | ⟨h, rfl, hm⟩
  · rw [errn_not h]
    exact most_no a n cap _ w h (fun u hu => by rw [← errn_not h]; exact vcheck_e a n cap q u (hH.on hu))
  · obtain ⟨h0, h40, ok⟩ := vE_zero h
    obtain ⟨b, off, rfl, hP⟩ := hH.row h0
    rw [errn_zero]
    refine (most_told_ok b off n cap q w h0 h40 hP ok).mono ?_
    rintro x w' ⟨lo', hi', m', hm', rfl, hb⟩
    obtain ⟨rfl, rfl, rfl⟩ := hm.same hm'
    exact ⟨rfl, hb⟩
end Go.Proofs.YthejaecljkjliacDoor
