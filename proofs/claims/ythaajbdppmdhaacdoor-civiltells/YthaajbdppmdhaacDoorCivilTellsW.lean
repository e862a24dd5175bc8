/- From what package civil must answer to the law CivilTells. -/
import Derived.Test.YthaajbdppmdhaacDoorCivilCiv
import Derived.Test.YthaajbdppmdhaacDoorCivilTellsA
namespace Go.Proofs.YthaajbdppmdhaacDoor.civilTells
open Go.ChangeShapes Go.WideShapes Go.ChangeAt Go.RowKit Go.Proofs.YthaajbdppmdhaacDoor.told
set_option linter.unusedVariables false

theorem all_ways (y m d n yy mm : Int) (s : ByteArray) (w : World) (C : Civ w) (w1 : In64 y) (w2 : In64 m) (w3 : In64 d) (wn : In64 n) (wy : In64 yy) (wm : In64 mm) (hs : s.size ≤ maxLen) (he : EnvE w) :
    Calls Tryd.prog 4 #[.agg #[.int .i64 y, .int .i64 m, .int .i64 d], .int .i64 n, .int .i64 yy, .int .i64 mm, .string s] w fun e w' => e = .returned (.bool true) ∧ Below w.heap.size w w' := by
  obtain ⟨ry, rm, rd, e4, hR⟩ := rd_some s
  have hs' : s.size ≤ 9223372036854775807 := by unfold maxLen at hs; omega
  obtain ⟨e2, oy, om, od, hN, cOf⟩ : ∃ e2 oy om od : Int, ((n < 0 ∧ e2 = 1 ∧ oy = 0 ∧ om = 0 ∧ od = 0) ∨ (84005 < n ∧ e2 = 1 ∧ oy = 0 ∧ om = 0 ∧ od = 0) ∨ (0 ≤ n ∧ n ≤ 84005 ∧ e2 = 0 ∧ ∀ u, Calls Tryd.prog 21 #[.int .i64 n] u fun e w' => e = .returned (.agg #[.int .i64 oy, .int .i64 om, .int .i64 od]) ∧ Below u.heap.size u w')) ∧
      ∀ u, Below w.heap.size w u → Calls Tryd.prog 22 #[.int .i64 n] u fun e w' => e = .returned (.tuple #[.agg #[.int .i64 oy, .int .i64 om, .int .i64 od], errv e2]) ∧ Below u.heap.size u w' := by
    by_cases h1 : n < 0
    · exact ⟨1, 0, 0, 0, Or.inl ⟨h1, rfl, rfl, rfl, rfl⟩, fun u hu => C.ofNo n u hu wn (Or.inl h1)⟩
    · by_cases h2 : 84005 < n
      · exact ⟨1, 0, 0, 0, Or.inr (Or.inl ⟨h2, rfl, rfl, rfl, rfl⟩), fun u hu => C.ofNo n u hu wn (Or.inr h2)⟩
      · obtain ⟨oy, om, od, ok, hd⟩ := dnum_some n (by omega) (by omega)
        exact ⟨0, oy, om, od, Or.inr (Or.inr ⟨by omega, by omega, rfl, fun u => rof_any n oy om od u ok hd⟩), fun u hu => C.ofOk n oy om od u hu ok hd⟩
  obtain ⟨e3, k3, hY, cDy⟩ : ∃ e3 k3 : Int, ((yy < 1970 ∧ e3 = 1 ∧ k3 = 0) ∨ (1970 ≤ yy ∧ 2199 < yy ∧ e3 = 1 ∧ k3 = 0) ∨ (1970 ≤ yy ∧ yy ≤ 2199 ∧ mm < 1 ∧ e3 = 1 ∧ k3 = 0) ∨ (1970 ≤ yy ∧ yy ≤ 2199 ∧ 1 ≤ mm ∧ 12 < mm ∧ e3 = 1 ∧ k3 = 0) ∨ (1970 ≤ yy ∧ yy ≤ 2199 ∧ 1 ≤ mm ∧ mm ≤ 12 ∧ e3 = 0 ∧ ∀ u, Calls Tryd.prog 23 #[.int .i64 yy, .int .i64 mm] u fun e w' => e = .returned (.int .i64 k3) ∧ Below u.heap.size u w')) ∧
      ∀ u, Below w.heap.size w u → Calls Tryd.prog 24 #[.int .i64 yy, .int .i64 mm] u fun e w' => e = .returned (.tuple #[.int .i64 k3, errv e3]) ∧ Below u.heap.size u w' := by
    by_cases a1 : 1970 ≤ yy
    · by_cases a2 : yy ≤ 2199
      · by_cases a3 : 1 ≤ mm
        · by_cases a4 : mm ≤ 12
          · refine ⟨0, mdays yy mm, Or.inr (Or.inr (Or.inr (Or.inr ⟨a1, a2, a3, a4, rfl, fun u => ?_⟩))), fun u hu => C.daysOk yy mm u hu a1 a2 a3 a4⟩
            refine (rdays_any yy mm u (by omega) (by omega)).mono ?_
            rintro e w' ⟨rfl, rfl⟩
            exact ⟨rfl, Below.refl _ _⟩
          · exact ⟨1, 0, Or.inr (Or.inr (Or.inr (Or.inl ⟨a1, a2, a3, by omega, rfl, rfl⟩))), fun u hu => C.daysNo yy mm u hu wy wm (by omega)⟩
        · exact ⟨1, 0, Or.inr (Or.inr (Or.inl ⟨a1, a2, by omega, rfl, rfl⟩)), fun u hu => C.daysNo yy mm u hu wy wm (by omega)⟩
      · exact ⟨1, 0, Or.inr (Or.inl ⟨a1, by omega, rfl, rfl⟩), fun u hu => C.daysNo yy mm u hu wy wm (by omega)⟩
    · exact ⟨1, 0, Or.inl ⟨by omega, rfl, rfl⟩, fun u hu => C.daysNo yy mm u hu wy wm (by omega)⟩
  have hO : (okD y m d = true ∧ eD y m d = 0 ∧ (∀ u, Calls Tryd.prog 15 #[.agg #[.int .i64 y, .int .i64 m, .int .i64 d]] u fun e w' => e = .returned (.int .i64 (if okD y m d = true then dnum y m d else 0)) ∧ Below u.heap.size u w') ∧
      (∀ u, Calls Tryd.prog 16 #[.agg #[.int .i64 y, .int .i64 m, .int .i64 d]] u fun e w' => e = .returned (.string (if okD y m d = true then dtext y m d else ⟨#[]⟩)) ∧ Below u.heap.size u w')) ∨
      (okD y m d = false ∧ eD y m d = 1 ∧ (if okD y m d = true then dnum y m d else 0) = 0 ∧ (if okD y m d = true then dtext y m d else ⟨#[]⟩) = ⟨#[]⟩) := by
    cases o : okD y m d with
    | true => exact Or.inl ⟨rfl, eD_ok o, fun u => rnum_any y m d u o, fun u => rtext_any y m d u o⟩
    | false => exact Or.inr ⟨rfl, eD_no o, rfl, rfl⟩
  exact ways y m d n yy mm (eD y m d) (if okD y m d = true then dnum y m d else 0) e2 oy om od e3 k3 e4 ry rm rd s (if okD y m d = true then dtext y m d else ⟨#[]⟩) (okD y m d) w he (fun u => rdate_any y m d u) hO (fun u hu => C.check y m d u hu w1 w2 w3) (fun u hu => C.num y m d u hu w1 w2 w3) (fun u hu => C.print y m d u hu w1 w2 w3) (fun u => rlast_any u) hN cOf hY cDy (fun u => rread_any s ry rm rd e4 u hs' hR) (fun u hu => C.parse s ry rm rd e4 u hu hs hR)
end Go.Proofs.YthaajbdppmdhaacDoor.civilTells
