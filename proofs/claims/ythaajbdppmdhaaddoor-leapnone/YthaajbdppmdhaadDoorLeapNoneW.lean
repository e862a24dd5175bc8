/- From what package leap must answer to the law LeapNone. -/
import Derived.Test.YthaajbdppmdhaadDoorLeapNoneA
namespace Go.Proofs.YthaajbdppmdhaadDoor.leapNone
open Go.ChangeShapes Go.WideShapes Go.ChangeAt Go.RowKit
set_option linter.unusedVariables false

theorem all_ways (N : Int) (w : World) (L : Lp w) (LS : LpS w) (wN : In64 N)
    (cN : ∀ (y m d : Int) (u : World), Below w.heap.size w u → okD y m d = true → Calls Tryd.prog 10 #[.agg #[.int .i64 y, .int .i64 m, .int .i64 d]] u fun e w' => e = .returned (.tuple #[.int .i64 (dnum y m d), .nilIface]) ∧ Below u.heap.size u w') :
    Calls Tryd.prog 4 #[.int .i64 N] w fun e w' => e = .returned (.bool true) ∧ Below w.heap.size w w' := by
  have hH : ∀ u : World, LHanded u none 0 (fun _ => (0, false)) := fun u => ⟨by omega, Or.inl rfl⟩
  have z : lE (fun _ => ((0 : Int), false)) 0 = 0 := rfl
  have hL := lps_of z
  have m0 : ∀ D, mor (fun _ => ((0 : Int), false)) 0 D = 0 := fun D => rfl
  have b0 : ∀ D, bg (fun _ => ((0 : Int), false)) 0 D = 86400 * D := fun D => by unfold bg; rw [m0]; omega
  by_cases x : inS (fun _ => ((0 : Int), false)) 0 N
  · obtain ⟨ly, lm, ld, lh, li, ls, hU⟩ := utc_some hL x
    obtain ⟨ok, oh, ol, es⟩ := hU.hands hL
    have rg := dnum_range ok
    have hD := hU.2.1
    obtain ⟨o1, o2, o3, o4, o5, o6⟩ := okH_t oh
    have nb : N < 7258118400 := by have := x.2; rw [b0] at this; omega
    rw [b0] at es
    unfold sec at es
    have kU := fun u (hu : Below w.heap.size w u) => L.utc none 0 0 _ N ly lm ld lh li ls 0 u hu (hH u) wN (Or.inr ⟨z, x, rfl, hU⟩)
    have kA := fun u (hu : Below w.heap.size w u) => L.ahead none 0 0 _ N 0 0 u hu (hH u) wN (Or.inr ⟨z, x, rfl, _, hD, (m0 _).symm⟩)
    have kS := fun u (hu : Below w.heap.size w u) => LS.smear none 0 0 _ N (1000 * N) 0 u hu (hH u) wN (Or.inr ⟨z, x, rfl, Or.inr ⟨fun i hi => by omega, _, hD, by rw [m0]; omega⟩⟩)
    exact inside N ly lm ld lh li ls _ w x.1 (by omega) rg.1 (by omega) o1 o2 o3 o4 o5 o6 (by omega) kU kA kS (fun u hu => cN ly lm ld u hu ok)
  · have sx : sE (fun _ => ((0 : Int), false)) 0 N 1 := Or.inr ⟨z, x, rfl⟩
    have kU := fun u (hu : Below w.heap.size w u) => L.utc none 0 0 _ N 0 0 0 0 0 0 1 u hu (hH u) wN (Or.inl ⟨sx, rfl, rfl, rfl, rfl, rfl, rfl⟩)
    by_cases c : N < 0
    · exact low N 1 w c kU
    · have : 7258118400 ≤ N := by
        apply Classical.byContradiction
        intro hn
        exact x ⟨by omega, by rw [b0]; omega⟩
      exact high N 1 w (by omega) (by omega) kU
end Go.Proofs.YthaajbdppmdhaadDoor.leapNone
