/- From what package civil must answer to the law CivilNext. -/
import Derived.Test.YthaajbdppmdhaacDoorCivilCiv
import Derived.Test.YthaajbdppmdhaacDoorCivilNextA
namespace Go.Proofs.YthaajbdppmdhaacDoor.civilNext
open Go.ChangeShapes Go.WideShapes Go.ChangeAt Go.RowKit
set_option linter.unusedVariables false

theorem fact_is : okD 1970 3 1 = true ∧ dnum 1970 3 1 = 59 := by decide +kernel
theorem last_day : okD 2199 12 31 = true ∧ dnum 2199 12 31 = 84005 := by decide +kernel
theorem all_ways (n : Int) (s : ByteArray) (w : World) (C : Civ w) (wn : In64 n) (hs : s.size ≤ maxLen) :
    Calls Tryd.prog 5 #[.int .i64 n, .string s] w fun e w' => e = .returned (.bool true) ∧ Below w.heap.size w w' := by
  have cF := fun u hu => C.ofOk 59 1970 3 1 u hu fact_is.1 fact_is.2
  obtain ⟨py, pm, pd, pe, hR⟩ := rd_some s
  have cP := fun u hu => C.parse s py pm pd pe u hu hs hR
  by_cases hn : n < 0 ∨ 84005 < n
  · have cO := fun u hu => C.ofNo n u hu wn hn
    by_cases h0 : pe = 0
    · subst h0
      rw [errc_zero] at cP
      rcases hR with ⟨_, k, _⟩ | ⟨_, _, k, _⟩ | ⟨sh, o, _, rfl, rfl, rfl⟩
      · cases k
      · cases k
      · have cPP := fun u hu => C.printOk o u hu
        rw [read_text sh] at cPP
        exact out_ok n _ _ _ s w cF cP cPP cO
    · rw [errc_not h0] at cP
      exact out_no n py pm pd s w cF pe cP cO
  · obtain ⟨y, m, d, ok, hd⟩ := dnum_some n (by omega) (by omega)
    obtain ⟨a1, a2, a3, a4, a5, a6⟩ := okD_t ok
    have ml := mdays_le y m
    have cO := fun u hu => C.ofOk n y m d u hu ok hd
    have cN := fun u hu => C.numOk ok u hu
    rw [hd] at cN
    have cT := fun u hu => C.printOk ok u hu
    have z10 : (dtext y m d).size ≤ maxLen := by show 10 ≤ maxLen; decide
    have cR := fun u hu => C.parse (dtext y m d) y m d 0 u hu z10 (text_read ok)
    rw [errc_zero] at cR
    by_cases hl : n = 84005
    · obtain ⟨rfl, rfl, rfl⟩ := dnum_one ok last_day.1 (by rw [hd, hl, last_day.2])
      have cO2 := fun u hu => C.ofNo (n + 1) u hu (WalkArith.wf_i64 (by omega)) (by omega)
      by_cases h0 : pe = 0
      · subst h0
        rw [errc_zero] at cP
        rcases hR with ⟨_, k, _⟩ | ⟨_, _, k, _⟩ | ⟨sh, o, _, rfl, rfl, rfl⟩
        · cases k
        · cases k
        · have cPP := fun u hu => C.printOk o u hu
          rw [read_text sh] at cPP
          exact last_ok n _ _ _ s _ w cF cP cPP cO cN cT cR (by omega) (by omega) cO2
      · rw [errc_not h0] at cP
        exact last_no n py pm pd s _ w cF pe cP cO cN cT cR (by omega) (by omega) cO2
    · have on := okD_next ok (by omega)
      have dn := dnum_next ok
      rw [hd] at dn
      have cO2 := fun u hu => C.ofOk (n + 1) _ _ _ u hu on dn
      have cK := fun u hu => C.daysOk y m u hu a1 a2 a3 a4
      unfold nxt at cO2
      by_cases q : d < mdays y m
      · simp only [if_pos q] at cO2
        by_cases h0 : pe = 0
        · subst h0
          rw [errc_zero] at cP
          rcases hR with ⟨_, k, _⟩ | ⟨_, _, k, _⟩ | ⟨sh, o, _, rfl, rfl, rfl⟩
          · cases k
          · cases k
          · have cPP := fun u hu => C.printOk o u hu
            rw [read_text sh] at cPP
            exact day_ok n _ _ _ y m d s _ _ w cF cP cPP cO cN cT cR (by omega) (by omega) a1 a2 a3 a4 a5 (by omega) q cO2 cK
        · rw [errc_not h0] at cP
          exact day_no n py pm pd y m d s _ _ w cF pe cP cO cN cT cR (by omega) (by omega) a1 a2 a3 a4 a5 (by omega) q cO2 cK
      · by_cases q2 : m < 12
        · simp only [if_neg q, if_pos q2] at cO2
          by_cases h0 : pe = 0
          · subst h0
            rw [errc_zero] at cP
            rcases hR with ⟨_, k, _⟩ | ⟨_, _, k, _⟩ | ⟨sh, o, _, rfl, rfl, rfl⟩
            · cases k
            · cases k
            · have cPP := fun u hu => C.printOk o u hu
              rw [read_text sh] at cPP
              exact month_ok n _ _ _ y m d s _ _ w cF cP cPP cO cN cT cR (by omega) (by omega) a1 a2 a3 a4 a5 (by omega) q q2 cO2 cK
          · rw [errc_not h0] at cP
            exact month_no n py pm pd y m d s _ _ w cF pe cP cO cN cT cR (by omega) (by omega) a1 a2 a3 a4 a5 (by omega) q q2 cO2 cK
        · simp only [if_neg q, if_neg q2] at cO2
          by_cases h0 : pe = 0
          · subst h0
            rw [errc_zero] at cP
            rcases hR with ⟨_, k, _⟩ | ⟨_, _, k, _⟩ | ⟨sh, o, _, rfl, rfl, rfl⟩
            · cases k
            · cases k
            · have cPP := fun u hu => C.printOk o u hu
              rw [read_text sh] at cPP
              exact year_ok n _ _ _ y m d s _ _ w cF cP cPP cO cN cT cR (by omega) (by omega) a1 a2 a3 a4 a5 (by omega) q q2 cO2 cK
          · rw [errc_not h0] at cP
            exact year_no n py pm pd y m d s _ _ w cF pe cP cO cN cT cR (by omega) (by omega) a1 a2 a3 a4 a5 (by omega) q q2 cO2 cK
end Go.Proofs.YthaajbdppmdhaacDoor.civilNext
