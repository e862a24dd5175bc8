/- What package world answers: letters that come. What package world answers: Do. -/
import Derived.Test.YthejaecljkjliaiGreatDoorWorldPkgS
import Derived.Laws.OwnMore
import Derived.BigQuiet
import Derived.Deep.QuietTactic
import Derived.Deep.RegionWith
import Derived.Deep.RegionLaw
import Derived.Laws.AppendOwnNone
import Derived.Maps.AppendAt
import Derived.Deep.CutRange
import Derived.Deep.CutBlock
import Derived.BigRegion
import Derived.IntWalk
namespace Go.Proofs.YthejaecljkjliaiGreatDoor
open Go.ChangeShapes Go.WideShapes Go.ChangeAt Go.RowKit Go.Joins
set_option linter.unusedVariables false
set_option linter.unusedSimpArgs false

/-- An append to a row of the call's own that has room, as one step of a region that draws its order. -/
theorem step_append_fits {P : Program} {ops : Array Oper} {o : Oper} {a : Act} {w : World} {K : Act → World → Prop} {Q : Exit → Act → World → Prop} {E : Prop}
    (hg : o.guard = none) (s x : Operand) (t : TypeId) (hop : o.op = Op.call { callee := Callee.builtin Builtin.append, args := #[s, x], argTypes := #[t, t] })
    (base : Nat) (e : TypeId) (i : TypeInfo) (size : Nat) (h1 : P.underlying t = some (.slice e)) (h2 : P.info? e = some i) (h4 : i.size = size)
    (g n cap : Nat) (xs : List Value) (hs : a.eval s = .slice (some ⟨g, 0, none⟩) n cap) (hown : w.ownsRow base e size (.slice (some ⟨g, 0, none⟩) n cap) n xs)
    (ad : Addr) (m c tot : Nat) (news : List Value) (hx : a.eval x = .slice (some ad) m c) (hn : news.length = m * size) (hc : ∀ j u, news[j]? = some u → w.cell? (ad.add j) = some u) (h1c : ∀ u ∈ news, u.oneCell' = true)
    (ht : n + m = tot) (hroom : tot ≤ cap)
    (hK : ∀ w', w'.ownsRow base e size (.slice (some ⟨g, 0, none⟩) tot cap) tot (xs ++ news) → w.grownBy w' (some g) → K (a.put o.dst (.slice (some ⟨g, 0, none⟩) tot cap)) w') :
    if Region.wanted o (yielded ops a.tmps) = true then Oper.wp P o a w K Q else E := by
  have hw : Region.wanted o (yielded ops a.tmps) = true := by simp [Region.wanted, hg]
  rw [if_pos hw]
  subst ht
  obtain ⟨w', hr, g1, g2⟩ := run_append_fits (P := P) w base t o.type e i size h1 h2 h4 g n cap xs hown ad m c news hn hc h1c hroom
  unfold Oper.wp execOp
  simp only [hop, resolve, invoke, builtin, Sem.run_bind, Sem.run_pure, Result.andThen_ok, List.map_toArray, List.map_cons, List.map_nil, hs, hx, hr]
  exact hK w' g1 g2
/-- Fewer of a row. -/
theorem own_lessW {w : World} {base size g n m cap : Nat} {e : TypeId} {xs : List Value} (h : w.ownsRow base e size (.slice (some ⟨g, 0, none⟩) n cap) n xs) (hm : m ≤ n) : w.ownsRow base e size (.slice (some ⟨g, 0, none⟩) m cap) m (xs.take (m * size)) := by
  rcases h.2 with ⟨h', _⟩ | ⟨g', cap', cur, h', hb, hg, hnc, hcm, hcs, htake⟩
  · simp at h'
  · simp only [Value.slice.injEq, Option.some.injEq, Addr.mk.injEq, and_true, true_and] at h'
    obtain ⟨rfl, rfl⟩ := h'
    have le : m * size ≤ n * size := Nat.mul_le_mul_right _ hm
    refine ⟨by rw [List.length_take, h.1]; omega, Or.inr ⟨g, cap, cur, rfl, hb, hg, Nat.le_trans hm hnc, hcm, hcs, ?_⟩⟩
    rw [← htake, List.take_take, Nat.min_eq_left le]
/-- clear of one letter behind a row. -/
theorem own_clear {P : Program} {w : World} {g N cap : Nat} {t e : TypeId} {xs : List Value} (ht : P.underlying t = some (.slice e)) (hv : ∀ w, (zeroValue e).run P w = .ok (.agg #[.int .i64 0, .int .i64 0, .bool false, .int .i64 0, .int .i64 0, .int .i64 0]) w) (h : w.ownsRow 0 e 6 (.slice (some ⟨g, 0, none⟩) N cap) N xs) (hc : N < cap) :
    ∃ w', (∀ c ty, (Builtin.clear_ #[t] ty #[.slice (some ⟨g, N * 6, none⟩) 1 c]).run P w = .ok (.tuple #[]) w') ∧ w'.ownsRow 0 e 6 (.slice (some ⟨g, 0, none⟩) N cap) N xs ∧ w.grownBy w' (some g) := by
  rcases h.2 with ⟨h', _⟩ | ⟨g', cap', cur, h', hb, hg, hnc, hcm, hcs, htake⟩
  · simp at h'
  · simp only [Value.slice.injEq, Option.some.injEq, Addr.mk.injEq, and_true, true_and] at h'
    obtain ⟨rfl, rfl⟩ := h'
    have hzc : (Builtin.zeroCells (.agg #[.int .i64 0, .int .i64 0, .bool false, .int .i64 0, .int .i64 0, .int .i64 0] : Value).cells 1).toList = [.int .i64 0, .int .i64 0, .bool false, .int .i64 0, .int .i64 0, .int .i64 0] := by first | rfl | kernel_rfl | simp [Builtin.zeroCells, Value.cells]
    have hst := run_storeCells_at P g (N * 6) e [.int .i64 0, .int .i64 0, .bool false, .int .i64 0, .int .i64 0, .int .i64 0] 0 cur w hg (by simp; omega) (ltc_one ⟨0, 0, false, 0, 0, 0⟩)
    simp only [Nat.add_zero] at hst
    refine ⟨w.setRow g (cur.toList.take (N * 6) ++ ([.int .i64 0, .int .i64 0, .bool false, .int .i64 0, .int .i64 0, .int .i64 0] : List Value) ++ cur.toList.drop (N * 6 + ([.int .i64 0, .int .i64 0, .bool false, .int .i64 0, .int .i64 0, .int .i64 0] : List Value).length)).toArray, fun c ty => ?_, ⟨h.1, Or.inr ⟨g, cap, _, rfl, hb, setRow_heap w g cur _ e _ hg, hnc, hcm, ?_, ?_⟩⟩, ⟨rfl, rfl, rfl, by simp, fun k _ hk => setRow_other w g k _ (fun e => hk (by simp [e]))⟩⟩
    · simp [Builtin.clear_, run_underlying ht, hv, hzc, hst]
      done
    · simp only [List.size_toArray, List.length_append, List.length_take, List.length_drop, Array.length_toList]
      simp
      omega
    · have l : (cur.toList.take (N * 6)).length = N * 6 := by rw [List.length_take, Array.length_toList]; omega
      rw [List.append_assoc]
      exact (List.take_left' l).trans htake
theorem zeroLetter : ∀ w, (zeroValue 98).run Tryz.prog w = .ok (.agg #[.int .i64 0, .int .i64 0, .bool false, .int .i64 0, .int .i64 0, .int .i64 0]) w := Tryz.zeroValue98
set_option maxRecDepth 100000 in
set_option maxHeartbeats 8000000 in
theorem del_any (g N cap k : Nat) (L : List Lt) (hL : L.length = N + 1) (hk : k ≤ N) (hN : N ≤ 100) (u : World) (ho : u.ownsRow 0 98 6 (.slice (some ⟨g, 0, none⟩) (N + 1) cap) (N + 1) (lcs L)) :
    Calls Tryz.prog 89 #[.slice (some ⟨g, 0, none⟩) ((N + 1 : Nat) : Int).toNat cap, .int .i64 k, .int .i64 ((k : Int) + 1)] u fun o w' => o = .returned (.slice (some ⟨g, 0, none⟩) N cap) ∧ w'.ownsRow 0 98 6 (.slice (some ⟨g, 0, none⟩) N cap) N (lcs (L.eraseIdx k)) ∧ Keeps (fun j => j = g) u w' := by
  obtain ⟨i0, hi0, hz0, hz1, hz2⟩ := info_parts infoLetter
  have hcap : N + 1 ≤ cap ∧ cap ≤ 9223372036854775807 ∧ g < u.heap.size := by
    rcases ho.2 with ⟨h', _⟩ | ⟨g', cap', cur, h', hb, hg, hnc, hcm, hcs, htake⟩
    · simp at h'
    · simp only [Value.slice.injEq, Option.some.injEq, Addr.mk.injEq, and_true, true_and] at h'
      obtain ⟨rfl, rfl⟩ := h'
      exact ⟨hnc, by unfold maxLen at hcm; omega, (ho.lt g rfl).2⟩
  obtain ⟨hc1, hc2, gl⟩ := hcap
  have e1 : lcs L = lcs (L.take (k + 1)) ++ lcs (L.drop (k + 1)) := by rw [← lcs_app, List.take_append_drop]
  have e0 : lcs L = lcs (L.take k) ++ lcs (L.drop k) := by rw [← lcs_app, List.take_append_drop]
  have ll : (lcs (L.take (k + 1))).length = (k + 1) * 6 := by rw [lcs_len, List.length_take]; congr 1; omega
  have lk : (lcs (L.take k)).length = k * 6 := by rw [lcs_len, List.length_take]; congr 1; omega
  have HO : Hid (u.ownsRow 0 98 6 (.slice (some ⟨g, 0, none⟩) k cap) k (lcs (L.take k))) := by
    have := own_lessW ho (m := k) (by omega)
    rw [e0, ← lk, List.take_left] at this
    exact this
  have NC : Hid (∀ j q, (lcs (L.drop (k + 1)))[j]? = some q → u.cell? ((⟨g, (k + 1) * 6, none⟩ : Addr).add j) = some q) := fun j q hj => by
    have := ho.cells (g := g) rfl ((k + 1) * 6 + j) q (by rw [e1, List.getElem?_append_right (by omega), ll, Nat.add_sub_cancel_left]; exact hj)
    rw [Addr.add_lit] at this ⊢
    rw [Nat.zero_add] at this
    exact this
  have NL : Hid ((lcs (L.drop (k + 1))).length = (N + 1 - (k + 1)) * 6) := by show _ = _; rw [lcs_len, List.length_drop, hL]
  have ND : Hid (cap = k + 1 → lcs (L.drop (k + 1)) = []) := fun e => by rw [List.drop_eq_nil_of_le (by omega)]; rfl
  have LE : Hid (lcs (L.take k) ++ lcs (L.drop (k + 1)) = lcs (L.eraseIdx k)) := by show _ = _; rw [← lcs_app, List.eraseIdx_eq_take_drop_succ]
  rw [Int.toNat_natCast]
  have wk : IntKind.i64.wrap ((k : Int) + 1) = (k : Int) + 1 := IntWalk.i64_in _ (by omega)
  have d1 : ((k : Int) == (k : Int) + 1) = false := by simp; omega
  have k1 : (k : Int) + 1 ≤ (N : Int) + 1 := by omega
  have k2 : (k : Int) ≤ (N : Int) + 1 := by omega
  have k3 : (k : Int) ≤ (cap : Int) := by omega
  have k4 : (k : Int) ≤ (k : Int) + 1 := by omega
  have k5 : (N : Int) + 1 ≤ (cap : Int) := by omega
  have k6 : (0 : Int) ≤ (k : Int) + 1 := by omega
  have k7 : ((k : Int) + 1).toNat = k + 1 := by omega
  have k8 : ((N : Int) + 1).toNat = N + 1 := by omega
  have k9 : (N : Int) ≤ (N : Int) + 1 := by omega
  have kA : ¬ cap = N := by omega
  have HE : Hid ((L.length = N + 1 ∧ k ≤ N ∧ N ≤ 100 ∧ N + 1 ≤ cap)) := ⟨hL, hk, hN, hc1⟩
  clear ho e1 e0 ll lk
  go_enter Tryz.func89, Tryz.ntmps89
  go_wp2
  by_cases hc : cap = k + 1
  · subst hc
    have ek : k = N := by omega
    subst ek
    go_region_law (refine step_append_fits rfl (.tmp 22) (.tmp 25) 53 rfl 0 98 i0 6 Tryz.underlying53 hi0 hz1 g k (k + 1) (lcs (L.take k)) (by simp [Act.eval, Act.put]) HO.out ⟨g, 0, none⟩ (k + 1 - (k + 1)) (k + 1 - (k + 1)) k (lcs (L.drop (k + 1))) (by simp [Act.eval, Act.put]) NL.out (fun j q hj => by rw [ND.out rfl] at hj; cases hj) (lcs_one _) (by have := HE.out; omega) (by omega) ?_; intro w1 hown1 hgrow1; have HO1 : Hid _ := hown1; have HG1 : Hid _ := hgrow1; have gl1 : g < w1.heap.size := (hown1.lt g rfl).2; obtain ⟨w2, hcl, ho2, hg2⟩ := own_clear (P := Tryz.prog) (t := 53) (e := 98) Tryz.underlying53 zeroLetter hown1 (by have := HE.out; omega); have HO2 : Hid _ := ho2; have HG2 : Hid _ := hg2; clear hown1 hgrow1 ho2 hg2)
    all_goals
      have HR : Hid (w2.ownsRow 0 98 6 (.slice (some ⟨g, 0, none⟩) k (k + 1)) k (lcs (L.eraseIdx k)) ∧ Keeps (fun j => j = g) u w2) := by
        refine ⟨by rw [← LE.out]; exact HO2.out, ?_⟩
        have q1 : Keeps (fun j => j = g) u w1 := ⟨HG1.out.os, HG1.out.tape, HG1.out.output, HG1.out.size, fun k hk hn => HG1.out.block k hk (fun e => hn (by injection e))⟩
        have q2 : Keeps (fun j => j = g) w1 w2 := ⟨HG2.out.os, HG2.out.tape, HG2.out.output, HG2.out.size, fun k hk hn => HG2.out.block k hk (fun e => hn (by injection e))⟩
        exact q1.trans q2
      clear HO1 HG1 HO2 HG2
      go_wp2
      go_ret
      exact ⟨rfl, HR.out.1, HR.out.2⟩
  · go_region_law (refine step_append_fits rfl (.tmp 22) (.tmp 25) 53 rfl 0 98 i0 6 Tryz.underlying53 hi0 hz1 g k cap (lcs (L.take k)) (by simp [Act.eval, Act.put]) HO.out ⟨g, (k + 1) * 6, none⟩ (N + 1 - (k + 1)) (cap - (k + 1)) N (lcs (L.drop (k + 1))) (by simp [Act.eval, Act.put, hc]) NL.out NC.out (lcs_one _) (by have := HE.out; omega) (by omega) ?_; intro w1 hown1 hgrow1; have HO1 : Hid _ := hown1; have HG1 : Hid _ := hgrow1; have gl1 : g < w1.heap.size := (hown1.lt g rfl).2; obtain ⟨w2, hcl, ho2, hg2⟩ := own_clear (P := Tryz.prog) (t := 53) (e := 98) Tryz.underlying53 zeroLetter hown1 (by have := HE.out; omega); have HO2 : Hid _ := ho2; have HG2 : Hid _ := hg2; clear hown1 hgrow1 ho2 hg2)
    all_goals
      have HR : Hid (w2.ownsRow 0 98 6 (.slice (some ⟨g, 0, none⟩) N cap) N (lcs (L.eraseIdx k)) ∧ Keeps (fun j => j = g) u w2) := by
        refine ⟨by rw [← LE.out]; exact HO2.out, ?_⟩
        have q1 : Keeps (fun j => j = g) u w1 := ⟨HG1.out.os, HG1.out.tape, HG1.out.output, HG1.out.size, fun k hk hn => HG1.out.block k hk (fun e => hn (by injection e))⟩
        have q2 : Keeps (fun j => j = g) w1 w2 := ⟨HG2.out.os, HG2.out.tape, HG2.out.output, HG2.out.size, fun k hk hn => HG2.out.block k hk (fun e => hn (by injection e))⟩
        exact q1.trans q2
      clear HO1 HG1 HO2 HG2
      go_wp2
      go_ret
      exact ⟨rfl, HR.out.1, HR.out.2⟩
section
variable {u : World} {mb cb cc : Nat} {S : Ws} {v : Value}
set_option maxRecDepth 100000 in
set_option maxHeartbeats 8000000 in
theorem letter_bad (h : PW u mb cb cc S v) (hI : S.I) (a : Int) (hb : a < 0 ∨ (S.under.length : Int) ≤ a) :
    Calls Tryz.prog 52 #[.pointer (some ⟨mb, 0, none⟩), .int .i64 a] u fun o w' => o = .returned (.tuple #[.pointer none, errc 5]) ∧ w' = u := by
  obtain ⟨va, vcap, rfl, hform⟩ := h.len
  have c2 := h.r.c 2 _ rfl
  have l0 := h.r.lt
  have lu := hI.un
  rw [errc_not (e := 5) (by decide)]
  clear h hI hform
  by_cases d : a < 0
  · have e1 : decide (a < 0) = true := decide_eq_true d
    clear hb
    go_enter Tryz.func52, Tryz.ntmps52
    go_wp2
    go_ret2
    exact ⟨rfl, rfl⟩
  · have e1 : decide (a < 0) = false := decide_eq_false d
    have e2 : decide ((S.under.length : Int) ≤ a) = true := decide_eq_true (by omega)
    have e3 : (S.under.length : Int) ≤ a := by omega
    clear hb
    go_enter Tryz.func52, Tryz.ntmps52
    go_wp2
    go_ret2
    exact ⟨rfl, rfl⟩
set_option maxRecDepth 100000 in
set_option maxHeartbeats 8000000 in
theorem letter_ok (h : PW u mb cb cc S v) (hI : S.I) (k : Nat) (l : Lt) (hk : S.under[k]? = some l) :
    Calls Tryz.prog 52 #[.pointer (some ⟨mb, 0, none⟩), .int .i64 k] u fun o w' => ∃ g, o = .returned (.tuple #[.pointer (some ⟨g, 0, none⟩), errc 0]) ∧ Row w' g (ltc l) ∧ u.heap.size ≤ g ∧ Below u.heap.size u w' := by
  obtain ⟨va, vcap, rfl, hform⟩ := h.len
  have kl : k < S.under.length := by
    rcases Nat.lt_or_ge k S.under.length with h | h
    · exact h
    · rw [List.getElem?_eq_none h] at hk; cases hk
  obtain ⟨g, rfl, gc, gm, gu, gn, gk, gL⟩ := hform.resolve_left (fun h => by rw [h.2.1] at kl; exact absurd kl (by simp))
  have c2 := h.r.c 2 _ rfl
  have l0 := h.r.lt
  have lu := hI.un
  have LL := gL k l hk
  obtain ⟨l1, l2, l3, l4, l5, l6⟩ := l
  have a0 : u.cell? ⟨g, k * 6, none⟩ = some (.int .i64 l1) := by have := LL 0 _ rfl; simpa using this
  have a1 : u.cell? ⟨g, k * 6 + 1, none⟩ = some (.int .i64 l2) := by have := LL 1 _ rfl; simpa using this
  have a2 : u.cell? ⟨g, k * 6 + 2, none⟩ = some (.bool l3) := by have := LL 2 _ rfl; simpa using this
  have a3 : u.cell? ⟨g, k * 6 + 3, none⟩ = some (.int .i64 l4) := by have := LL 3 _ rfl; simpa using this
  have a4 : u.cell? ⟨g, k * 6 + 4, none⟩ = some (.int .i64 l5) := by have := LL 4 _ rfl; simpa using this
  have a5 : u.cell? ⟨g, k * 6 + 5, none⟩ = some (.int .i64 l6) := by have := LL 5 _ rfl; simpa using this
  rw [errc_zero]
  have d1 : decide ((k : Int) < 0) = false := decide_eq_false (by omega)
  have d2 : decide ((S.under.length : Int) ≤ (k : Int)) = false := decide_eq_false (by omega)
  have d3 : (k : Int) < (S.under.length : Int) := by omega
  have d4 : ¬ ((S.under.length : Int) ≤ (k : Int)) := by omega
  clear h hI gL LL hk
  go_enter Tryz.func52, Tryz.ntmps52
  go_wp2
  go_ret2
  first | exact ⟨_, rfl, Row.made rfl, Nat.le_refl _, rbel_al (Below.refl _ _)⟩ | exact ⟨rfl, Row.made rfl, Nat.le_refl _, rbel_al (Below.refl _ _)⟩
set_option maxRecDepth 100000 in
set_option maxHeartbeats 8000000 in
theorem take_bad (h : PW u mb cb cc S v) (hI : S.I) (a : Int) (hb : a < 0 ∨ (S.under.length : Int) ≤ a) :
    Calls Tryz.prog 51 #[.pointer (some ⟨mb, 0, none⟩), .int .i64 a] u fun o w' => o = .returned (.tuple #[.pointer none, errc 5]) ∧ w' = u := by
  have cL := letter_bad h hI a hb
  rw [errc_not (e := 5) (by decide)] at cL ⊢
  clear h hI hb
  go_enter Tryz.func51, Tryz.ntmps51
  go_wp2_with (go_at_call 52; refine cL.mono ?_; rintro o w0 ⟨rfl, hu⟩; rw [hu]; clear hu)
  go_ret2
  exact ⟨rfl, rfl⟩
set_option maxRecDepth 100000 in
set_option maxHeartbeats 8000000 in
theorem take_ok (h : PW u mb cb cc S v) (hI : S.I) (k : Nat) (l : Lt) (hk : S.under[k]? = some l) :
    Calls Tryz.prog 51 #[.pointer (some ⟨mb, 0, none⟩), .int .i64 k] u fun o w' => ∃ g v', o = .returned (.tuple #[.pointer (some ⟨g, 0, none⟩), errc 0]) ∧ Row w' g (ltc l) ∧ u.heap.size ≤ g ∧ PW w' mb cb cc { S with under := S.under.eraseIdx k } v' ∧ KpW u w' mb cb v v' ∧ v'.ownBlock = v.ownBlock := by
  have cL := letter_ok h hI k l hk
  rw [errc_zero] at cL ⊢
  obtain ⟨va, vcap, rfl, hform⟩ := h.len
  have kl : k < S.under.length := by
    rcases Nat.lt_or_ge k S.under.length with h | h
    · exact h
    · rw [List.getElem?_eq_none h] at hk; cases hk
  obtain ⟨g, rfl, gc, gm, gu, gn, gk, gL⟩ := hform.resolve_left (fun h => by rw [h.2.1] at kl; exact absurd kl (by simp))
  have lu := hI.un
  obtain ⟨N, hN⟩ : ∃ N, S.under.length = N + 1 := ⟨S.under.length - 1, by omega⟩
  have HD : Hid (∀ W, Below u.heap.size u W → Calls Tryz.prog 89 #[.slice (some ⟨g, 0, none⟩) (N + 1) vcap, .int .i64 k, .int .i64 ((k : Int) + 1)] W fun o w' => o = .returned (.slice (some ⟨g, 0, none⟩) N vcap) ∧ w'.ownsRow 0 98 6 (.slice (some ⟨g, 0, none⟩) N vcap) N (lcs (S.under.eraseIdx k)) ∧ Keeps (fun j => j = g) W w') := fun W hW => by
    have := (PW.on hW h).o
    rw [hN] at this
    have q := del_any g N vcap k S.under hN (by omega) (by omega) W this
    rw [Int.toNat_natCast] at q
    exact q
  have HP : Hid (PW u mb cb cc S (.slice (some ⟨g, 0, none⟩) (N + 1) vcap)) := by rw [← hN]; exact h
  have wk : IntKind.i64.wrap ((k : Int) + 1) = (k : Int) + 1 := IntWalk.i64_in _ (by omega)
  rw [hN]
  have HN : Hid (S.under.length = N + 1 ∧ k < N + 1) := ⟨hN, by omega⟩
  clear h hI hform gL hk
  go_enter Tryz.func51, Tryz.ntmps51
  go_wp2_with (first | (go_at_call 52; refine cL.mono ?_; rintro o u1 ⟨gl, rfl, hr, hg, hb⟩; have HB : Hid (Below u.heap.size u u1) := hb; have HR : Hid (Row u1 gl (ltc l)) := hr; have HG : Hid (u.heap.size ≤ gl) := hg; have HP1 : Hid (PW u1 mb cb cc S (.slice (some ⟨g, 0, none⟩) (N + 1) vcap)) := PW.on hb HP.out; have c2 := HP1.out.r.c 2 _ rfl; have l1 := HP1.out.r.lt; clear hb hr hg) | (go_at_call 89; refine (HD.out _ HB.out).mono ?_; rintro o u2 ⟨rfl, ho, hK⟩; have HO : Hid _ := ho; have HK : Hid (Keeps (fun j => j = g) u1 u2) := hK; have hr2 := hK.row gn.symm HP1.out.r; have f2 := hr2.f 2 _ rfl; have m2 := hr2.c 2 _ rfl; have l2 := hr2.lt; clear ho hK hr2))
  have lg : gl < u1.heap.size := HR.out.lt
  have hm : N = (S.under.eraseIdx k).length := by rw [List.length_eraseIdx_of_lt (by have := HN.out; omega), HN.out.1]; rfl
  have KX : Keeps (fun j => (Value.slice (some ⟨g, 0, none⟩) (N + 1) vcap).ownBlock = some j) u u2 := (Keeps.of HB.out).trans ⟨HK.out.os, HK.out.tape, HK.out.output, HK.out.size, fun j hj hn => HK.out.block j hj (fun e => hn (by rw [e]; rfl))⟩
  obtain ⟨g1, g2⟩ := PW.turn HP.out KX HO.out hm (fun j hj => Or.inl hj)
  have RG : Row (u2.setCell ⟨mb, 2, none⟩ (.slice (some ⟨g, 0, none⟩) N vcap)) gl (ltc l) := Row.far (by have := HG.out; have := HP.out.r.lt; omega) (HK.out.row (fun e => by have := HG.out; omega) HR.out)
  have G : Hid (_ ∧ _ ∧ _) := ⟨g1, g2, RG⟩
  clear g1 g2 RG KX hm
  go_ret2
  first | exact ⟨gl, rfl, G.out.2.2, HG.out, _, G.out.1, G.out.2.1, rfl⟩ | exact ⟨gl, _, rfl, G.out.2.2, HG.out, G.out.1, G.out.2.1, rfl⟩
end
end Go.Proofs.YthejaecljkjliaiGreatDoor
namespace Go.Proofs.YthejaecljkjliaiGreatDoor
open Go.ChangeShapes Go.WideShapes Go.ChangeAt Go.RowKit Go.Joins
set_option linter.unusedVariables false
set_option linter.unusedSimpArgs false

section
variable {u : World} {mb cb cc : Nat} {S : Ws} {v : Value}
/-- A world of clocks behind a call. -/
def Gp (u w' : World) (mb cb cc : Nat) (v : Value) (S' : Ws) (v' : Value) : Prop := PW w' mb cb cc S' v' ∧ KpW u w' mb cb v v'
theorem Gp.same {w' : World} (h : PW u mb cb cc S v) (hb : Below u.heap.size u w') : Gp u w' mb cb cc v S v := ⟨h.on hb, .same hb⟩
theorem Gp.from {W w' : World} {S' : Ws} {v' : Value} (hW : Below u.heap.size u W) (h : Gp W w' mb cb cc v S' v') : Gp u w' mb cb cc v S' v' := ⟨h.1, h.2.from hW⟩
theorem goon_any (h : PW u mb cb cc S v) (hI : S.I) {a e : Int} {S' : Ws} (hD : ((a < 0 ∨ 1000000 < a ∨ 1000000000 < S.time + a) ∧ S' = S ∧ e = 1) ∨ ((0 ≤ a ∧ a ≤ 1000000 ∧ S.time + a ≤ 1000000000) ∧ S' = { S with time := S.time + a } ∧ e = 0)) (W : World) (hW : Below u.heap.size u W) :
    Calls Tryz.prog 49 #[.pointer (some ⟨mb, 0, none⟩), .int .i64 a] W fun o w' => o = .returned (errc e) ∧ ∃ v', Gp u w' mb cb cc v S' v' := by
  rcases hD with ⟨c, rfl, rfl⟩ | ⟨c, rfl, rfl⟩
  · refine (goon_bad (h.on hW) hI a c).mono ?_
    rintro o w' ⟨rfl, rfl⟩
    exact ⟨rfl, v, .same h hW⟩
  · refine (goon_ok (h.on hW) hI a c).mono ?_
    rintro o w' ⟨rfl, g1, g2⟩
    exact ⟨rfl, v, .from hW ⟨g1, g2⟩⟩
theorem wask_any (h : PW u mb cb cc S v) (hI : S.I) {a b e : Int} {S' : Ws} (hD : (¬ (S.hs a ∧ S.hs b) ∧ S' = S ∧ e = 1) ∨ ((S.hs a ∧ S.hs b) ∧ a = b ∧ S' = S ∧ e = 3) ∨ ((S.hs a ∧ S.hs b) ∧ a ≠ b ∧ 40 ≤ S.under.length ∧ S' = S ∧ e = 4) ∨ ((S.hs a ∧ S.hs b) ∧ a ≠ b ∧ S.under.length < 40 ∧ S' = { S with under := S.under ++ [⟨a, b, false, 0, 0, S.rd a.toNat⟩] } ∧ e = 0)) (W : World) (hW : Below u.heap.size u W) :
    Calls Tryz.prog 50 #[.pointer (some ⟨mb, 0, none⟩), .int .i64 a, .int .i64 b] W fun o w' => o = .returned (errc e) ∧ ∃ v', Gp u w' mb cb cc v S' v' := by
  rcases hD with ⟨c, rfl, rfl⟩ | ⟨c, d, rfl, rfl⟩ | ⟨c, d, l, rfl, rfl⟩ | ⟨c, d, l, rfl, rfl⟩
  · by_cases q : S'.hs a
    · refine (wask_none2 (h.on hW) hI a b q (fun r => c ⟨q, r⟩)).mono ?_
      rintro o w' ⟨rfl, rfl⟩
      exact ⟨rfl, v, .same h hW⟩
    · refine (wask_none1 (h.on hW) hI a b q).mono ?_
      rintro o w' ⟨rfl, rfl⟩
      exact ⟨rfl, v, .same h hW⟩
  · refine (wask_self (h.on hW) hI a b c.1 c.2 d).mono ?_
    rintro o w' ⟨rfl, rfl⟩
    exact ⟨rfl, v, .same h hW⟩
  · refine (wask_full (h.on hW) hI a b c.1 c.2 d l).mono ?_
    rintro o w' ⟨rfl, hb⟩
    exact ⟨rfl, v, .same h (rbel_on hb hW)⟩
  · refine (wask_ok (h.on hW) hI a b c.1 c.2 d l).mono ?_
    rintro o w' ⟨v', rfl, g1, g2⟩
    exact ⟨rfl, v', .from hW ⟨g1, g2⟩⟩
/-- What comes. -/
def Cm (u w' : World) (v' pv : Value) (r : Option Lt) : Prop := (r = none ∧ pv = .pointer none) ∨ ∃ l g, r = some l ∧ pv = .pointer (some ⟨g, 0, none⟩) ∧ Row w' g (ltc l) ∧ u.heap.size ≤ g ∧ v'.ownBlock ≠ some g
theorem take_any (h : PW u mb cb cc S v) (hI : S.I) {a e : Int} {S' : Ws} {r : Option Lt} (hD : ((a < 0 ∨ (S.under.length : Int) ≤ a) ∧ S' = S ∧ r = none ∧ e = 5) ∨ ((0 ≤ a ∧ a < S.under.length) ∧ S' = { S with under := S.under.eraseIdx a.toNat } ∧ r = S.under[a.toNat]? ∧ e = 0)) (W : World) (hW : Below u.heap.size u W) :
    Calls Tryz.prog 51 #[.pointer (some ⟨mb, 0, none⟩), .int .i64 a] W fun o w' => ∃ pv v', o = .returned (.tuple #[pv, errc e]) ∧ Gp u w' mb cb cc v S' v' ∧ Cm u w' v' pv r := by
  rcases hD with ⟨c, rfl, rfl, rfl⟩ | ⟨c, rfl, rfl, rfl⟩
  · refine (take_bad (h.on hW) hI a c).mono ?_
    rintro o w' ⟨rfl, rfl⟩
    exact ⟨_, v, rfl, .same h hW, Or.inl ⟨rfl, rfl⟩⟩
  · obtain ⟨k, rfl⟩ : ∃ k : Nat, a = k := ⟨a.toNat, by omega⟩
    rw [Int.toNat_natCast]
    have hk : k < S.under.length := by omega
    have e1 : S.under[k]? = some S.under[k] := List.getElem?_eq_getElem hk
    refine (take_ok (h.on hW) hI k _ e1).mono ?_
    rintro o w' ⟨g, v', rfl, hr, hg, g1, g2, g3⟩
    refine ⟨_, v', rfl, .from hW ⟨g1, g2⟩, Or.inr ⟨_, g, e1, rfl, hr, Nat.le_trans hW.size hg, fun q => ?_⟩⟩
    rw [g3] at q
    have := ((h.on hW).o.lt g q).2
    omega
theorem letter_any (h : PW u mb cb cc S v) (hI : S.I) {a e : Int} {S' : Ws} {r : Option Lt} (hD : ((a < 0 ∨ (S.under.length : Int) ≤ a) ∧ S' = S ∧ r = none ∧ e = 5) ∨ ((0 ≤ a ∧ a < S.under.length) ∧ S' = S ∧ r = S.under[a.toNat]? ∧ e = 0)) (W : World) (hW : Below u.heap.size u W) :
    Calls Tryz.prog 52 #[.pointer (some ⟨mb, 0, none⟩), .int .i64 a] W fun o w' => ∃ pv v', o = .returned (.tuple #[pv, errc e]) ∧ Gp u w' mb cb cc v S' v' ∧ Cm u w' v' pv r := by
  rcases hD with ⟨c, rfl, rfl, rfl⟩ | ⟨c, rfl, rfl, rfl⟩
  · refine (letter_bad (h.on hW) hI a c).mono ?_
    rintro o w' ⟨rfl, rfl⟩
    exact ⟨_, v, rfl, .same h hW, Or.inl ⟨rfl, rfl⟩⟩
  · obtain ⟨k, rfl⟩ : ∃ k : Nat, a = k := ⟨a.toNat, by omega⟩
    rw [Int.toNat_natCast]
    have hk : k < S'.under.length := by omega
    have e1 : S'.under[k]? = some S'.under[k] := List.getElem?_eq_getElem hk
    refine (letter_ok (h.on hW) hI k _ e1).mono ?_
    rintro o w' ⟨g, rfl, hr, hg, hb⟩
    refine ⟨_, v, rfl, .same h (rbel_on hb hW), Or.inr ⟨_, g, e1, rfl, hr, Nat.le_trans hW.size hg, fun q => ?_⟩⟩
    have := ((h.on hW).o.lt g q).2
    omega
set_option maxRecDepth 100000 in
set_option maxHeartbeats 8000000 in
theorem do_go (x y : Int) (ev : Value) (S' : Ws) (hc : ∀ W, Below u.heap.size u W → Calls Tryz.prog 49 #[.pointer (some ⟨mb, 0, none⟩), .int .i64 x] W fun o w' => o = .returned ev ∧ ∃ v', Gp u w' mb cb cc v S' v') :
    Calls Tryz.prog 29 #[.pointer (some ⟨mb, 0, none⟩), .agg #[.int .i64 1, .int .i64 x, .int .i64 y]] u fun o w' => ∃ pv v', o = .returned (.tuple #[pv, ev]) ∧ Gp u w' mb cb cc v S' v' ∧ Cm u w' v' pv none := by
  have HC : Hid _ := hc
  clear hc
  go_enter Tryz.func29, Tryz.ntmps29
  go_wp2_with (go_at_call 49; refine (HC.out _ (rbel_al (Below.refl _ _))).mono ?_; rintro o w1 ⟨rfl, v', hg⟩; have HG : Hid (Gp u w1 mb cb cc v S' v') := hg; clear hg)
  go_ret2
  first | exact ⟨_, v', rfl, HG.out, Or.inl ⟨rfl, rfl⟩⟩ | exact ⟨v', rfl, HG.out, Or.inl ⟨rfl, rfl⟩⟩ | exact ⟨v', HG.out, Or.inl ⟨rfl, rfl⟩⟩
set_option maxRecDepth 100000 in
set_option maxHeartbeats 8000000 in
theorem do_ask (x y : Int) (ev : Value) (S' : Ws) (hc : ∀ W, Below u.heap.size u W → Calls Tryz.prog 50 #[.pointer (some ⟨mb, 0, none⟩), .int .i64 x, .int .i64 y] W fun o w' => o = .returned ev ∧ ∃ v', Gp u w' mb cb cc v S' v') :
    Calls Tryz.prog 29 #[.pointer (some ⟨mb, 0, none⟩), .agg #[.int .i64 2, .int .i64 x, .int .i64 y]] u fun o w' => ∃ pv v', o = .returned (.tuple #[pv, ev]) ∧ Gp u w' mb cb cc v S' v' ∧ Cm u w' v' pv none := by
  have HC : Hid _ := hc
  clear hc
  go_enter Tryz.func29, Tryz.ntmps29
  go_wp2_with (go_at_call 50; refine (HC.out _ (rbel_al (Below.refl _ _))).mono ?_; rintro o w1 ⟨rfl, v', hg⟩; have HG : Hid (Gp u w1 mb cb cc v S' v') := hg; clear hg)
  go_ret2
  first | exact ⟨_, v', rfl, HG.out, Or.inl ⟨rfl, rfl⟩⟩ | exact ⟨v', rfl, HG.out, Or.inl ⟨rfl, rfl⟩⟩ | exact ⟨v', HG.out, Or.inl ⟨rfl, rfl⟩⟩
set_option maxRecDepth 100000 in
set_option maxHeartbeats 8000000 in
theorem do_deliver (x y : Int) (ev : Value) (S' : Ws) (r : Option Lt) (hc : ∀ W, Below u.heap.size u W → Calls Tryz.prog 51 #[.pointer (some ⟨mb, 0, none⟩), .int .i64 x] W fun o w' => ∃ pv v', o = .returned (.tuple #[pv, ev]) ∧ Gp u w' mb cb cc v S' v' ∧ Cm u w' v' pv r) :
    Calls Tryz.prog 29 #[.pointer (some ⟨mb, 0, none⟩), .agg #[.int .i64 3, .int .i64 x, .int .i64 y]] u fun o w' => ∃ pv v', o = .returned (.tuple #[pv, ev]) ∧ Gp u w' mb cb cc v S' v' ∧ Cm u w' v' pv r := by
  have HC : Hid _ := hc
  clear hc
  go_enter Tryz.func29, Tryz.ntmps29
  go_wp2_with (go_at_call 51; refine (HC.out _ (rbel_al (Below.refl _ _))).mono ?_; rintro o w1 ⟨pv, v', rfl, hg, hm⟩; have HG : Hid (Gp u w1 mb cb cc v S' v') := hg; have HM : Hid (Cm u w1 v' pv r) := hm; clear hg hm)
  go_ret2
  first | exact ⟨_, v', rfl, HG.out, HM.out⟩ | exact ⟨v', rfl, HG.out, HM.out⟩ | exact ⟨pv, rfl, v', HG.out, HM.out⟩ | exact ⟨v', HG.out, HM.out⟩
set_option maxRecDepth 100000 in
set_option maxHeartbeats 8000000 in
theorem do_lose (x y : Int) (ev : Value) (S' : Ws) (r : Option Lt) (hc : ∀ W, Below u.heap.size u W → Calls Tryz.prog 51 #[.pointer (some ⟨mb, 0, none⟩), .int .i64 x] W fun o w' => ∃ pv v', o = .returned (.tuple #[pv, ev]) ∧ Gp u w' mb cb cc v S' v' ∧ Cm u w' v' pv r) :
    Calls Tryz.prog 29 #[.pointer (some ⟨mb, 0, none⟩), .agg #[.int .i64 4, .int .i64 x, .int .i64 y]] u fun o w' => ∃ pv v', o = .returned (.tuple #[pv, ev]) ∧ Gp u w' mb cb cc v S' v' ∧ Cm u w' v' pv none := by
  have HC : Hid _ := hc
  clear hc
  go_enter Tryz.func29, Tryz.ntmps29
  go_wp2_with (go_at_call 51; refine (HC.out _ (rbel_al (Below.refl _ _))).mono ?_; rintro o w1 ⟨pv, v', rfl, hg, hm⟩; have HG : Hid (Gp u w1 mb cb cc v S' v') := hg; have HM : Hid (Cm u w1 v' pv r) := hm; clear hg hm)
  go_ret2
  first | exact ⟨_, v', rfl, HG.out, Or.inl ⟨rfl, rfl⟩⟩ | exact ⟨v', rfl, HG.out, Or.inl ⟨rfl, rfl⟩⟩ | exact ⟨pv, rfl, v', HG.out, Or.inl ⟨rfl, rfl⟩⟩ | exact ⟨v', HG.out, Or.inl ⟨rfl, rfl⟩⟩
set_option maxRecDepth 100000 in
set_option maxHeartbeats 8000000 in
theorem do_repeat (x y : Int) (ev : Value) (S' : Ws) (r : Option Lt) (hc : ∀ W, Below u.heap.size u W → Calls Tryz.prog 52 #[.pointer (some ⟨mb, 0, none⟩), .int .i64 x] W fun o w' => ∃ pv v', o = .returned (.tuple #[pv, ev]) ∧ Gp u w' mb cb cc v S' v' ∧ Cm u w' v' pv r) :
    Calls Tryz.prog 29 #[.pointer (some ⟨mb, 0, none⟩), .agg #[.int .i64 5, .int .i64 x, .int .i64 y]] u fun o w' => ∃ pv v', o = .returned (.tuple #[pv, ev]) ∧ Gp u w' mb cb cc v S' v' ∧ Cm u w' v' pv r := by
  have HC : Hid _ := hc
  clear hc
  go_enter Tryz.func29, Tryz.ntmps29
  go_wp2_with (go_at_call 52; refine (HC.out _ (rbel_al (Below.refl _ _))).mono ?_; rintro o w1 ⟨pv, v', rfl, hg, hm⟩; have HG : Hid (Gp u w1 mb cb cc v S' v') := hg; have HM : Hid (Cm u w1 v' pv r) := hm; clear hg hm)
  go_ret2
  first | exact ⟨_, v', rfl, HG.out, HM.out⟩ | exact ⟨v', rfl, HG.out, HM.out⟩ | exact ⟨pv, rfl, v', HG.out, HM.out⟩ | exact ⟨v', HG.out, HM.out⟩
set_option maxRecDepth 100000 in
set_option maxHeartbeats 8000000 in
theorem do_none (h : PW u mb cb cc S v) (wh x y : Int) (hw : wh < 1 ∨ 5 < wh) :
    Calls Tryz.prog 29 #[.pointer (some ⟨mb, 0, none⟩), .agg #[.int .i64 wh, .int .i64 x, .int .i64 y]] u fun o w' => ∃ pv v', o = .returned (.tuple #[pv, errc 1]) ∧ Gp u w' mb cb cc v S v' ∧ Cm u w' v' pv none := by
  rw [errc_not (e := 1) (by decide)]
  have HP : Hid (PW u mb cb cc S v) := h
  have n1 : ¬ wh = 1 := by omega
  have n2 : ¬ wh = 2 := by omega
  have n3 : ¬ wh = 3 := by omega
  have n4 : ¬ wh = 4 := by omega
  have n5 : ¬ wh = 5 := by omega
  clear h hw
  go_enter Tryz.func29, Tryz.ntmps29
  go_wp2
  go_ret2
  first | exact ⟨_, v, rfl, .same HP.out (rbel_al (Below.refl _ _)), Or.inl ⟨rfl, rfl⟩⟩ | exact ⟨v, .same HP.out (rbel_al (Below.refl _ _)), Or.inl ⟨rfl, rfl⟩⟩
/-- Any act. -/
theorem do_any (h : PW u mb cb cc S v) (hI : S.I) {wh x y e : Int} {S' : Ws} {r : Option Lt} (hD : DoR S wh x y S' r e) :
    Calls Tryz.prog 29 #[.pointer (some ⟨mb, 0, none⟩), .agg #[.int .i64 wh, .int .i64 x, .int .i64 y]] u fun o w' => ∃ pv v', o = .returned (.tuple #[pv, errc e]) ∧ Gp u w' mb cb cc v S' v' ∧ Cm u w' v' pv r := by
  rcases hD with ⟨rfl, c, rfl, rfl, rfl⟩ | ⟨rfl, c, rfl, rfl, rfl⟩ | ⟨rfl, c, rfl, rfl, rfl⟩ | ⟨rfl, c, d, rfl, rfl, rfl⟩ | ⟨rfl, c, d, l, rfl, rfl, rfl⟩ | ⟨rfl, c, d, l, rfl, rfl, rfl⟩ | ⟨hw, c, rfl, rfl, rfl⟩ | ⟨rfl, c, rfl, rfl, rfl⟩ | ⟨rfl, c, rfl, rfl, rfl⟩ | ⟨rfl, c, rfl, rfl, rfl⟩ | ⟨hw, rfl, rfl, rfl⟩
  · exact do_go x y _ _ (goon_any h hI (Or.inl ⟨c, rfl, rfl⟩))
  · exact do_go x y _ _ (goon_any h hI (Or.inr ⟨c, rfl, rfl⟩))
  · exact do_ask x y _ _ (wask_any h hI (Or.inl ⟨c, rfl, rfl⟩))
  · exact do_ask x y _ _ (wask_any h hI (Or.inr (Or.inl ⟨c, d, rfl, rfl⟩)))
  · exact do_ask x y _ _ (wask_any h hI (Or.inr (Or.inr (Or.inl ⟨c, d, l, rfl, rfl⟩))))
  · exact do_ask x y _ _ (wask_any h hI (Or.inr (Or.inr (Or.inr ⟨c, d, l, rfl, rfl⟩))))
  · rcases hw with rfl | rfl | rfl
    · exact do_deliver x y _ _ _ (take_any h hI (Or.inl ⟨c, rfl, rfl, rfl⟩))
    · exact do_lose x y _ _ none (take_any h hI (Or.inl ⟨c, rfl, rfl, rfl⟩))
    · exact do_repeat x y _ _ _ (letter_any h hI (Or.inl ⟨c, rfl, rfl, rfl⟩))
  · exact do_deliver x y _ _ _ (take_any h hI (Or.inr ⟨c, rfl, rfl, rfl⟩))
  · exact do_lose x y _ _ _ (take_any h hI (Or.inr ⟨c, rfl, rfl, rfl⟩))
  · exact do_repeat x y _ _ _ (letter_any h hI (Or.inr ⟨c, rfl, rfl, rfl⟩))
  · exact do_none h wh x y hw
end
end Go.Proofs.YthejaecljkjliaiGreatDoor
