/- A net, act by act: asked, answered: plain mathematics. A net of two clocks, asked once: plain mathematics. noonsame.Error, where it is another error, or none. What arguments of types []api.Act and api.Letter are. What arguments of types []int are. -/
import Derived.Test.YtnagdjipmpjaaahDoorNm11
import Derived.Test.YtnagdjipmpjaaahDoorTold
import Derived.Test.YtnagdjipmpjaaahDoorNm02
import Derived.Test.YtnagdjipmpjaaahDoorNm03
import Derived.Test.YtnagdjipmpjaaahDoorNm04
import Derived.Deep.Slices
import Derived.Deep.Strs
import Derived.ChangeSlices
import Derived.Lib.SmallJoins
import Derived.OpenShut
namespace Go.Proofs.YtnagdjipmpjaaahDoor
set_option linter.unusedVariables false

section
variable {N : Nn}
/-- One node asks another one. -/
theorem ask_ok (g : N.T) {a b : Nat} (ha : a < N.W.n) (hb : b < N.W.n) (ne : a ≠ b) (hu : N.W.under = []) :
    NDoR N 2 a b ⟨{ N.W with under := [⟨a, b, false, 0, 0, N.W.rd a⟩] }, N.p, N.nd⟩ 0 := by
  refine ⟨_, none, 0, Or.inr (Or.inr (Or.inr (Or.inr (Or.inr (Or.inl ⟨rfl, ⟨⟨by omega, by omega⟩, by omega, by omega⟩, by omega, by rw [hu]; decide, rfl, rfl, rfl⟩))))), Or.inl ⟨rfl, ?_, rfl⟩⟩
  rw [hu, Int.toNat_natCast]
  rfl
/-- Time goes on. -/
theorem go_ok (g : N.T) {t y : Int} (t0 : 0 ≤ t) (t1 : t ≤ 1000000) (t2 : N.W.time + t ≤ 1000000000) : NDoR N 1 t y ⟨{ N.W with time := N.W.time + t }, N.p, N.nd⟩ 0 :=
  ⟨_, none, 0, Or.inr (Or.inl ⟨rfl, ⟨t0, t1, t2⟩, rfl, rfl, rfl⟩), Or.inl ⟨rfl, rfl, rfl⟩⟩
/-- The question comes, and is answered. -/
theorem come_ask (g : N.T) {a b : Nat} {t y : Int} (hu : N.W.under = [⟨a, b, false, 0, 0, t⟩]) :
    NDoR N 3 0 y ⟨{ N.W with under := [⟨b, a, true, t, N.W.rd b, N.W.rd b⟩] }, N.p, updN N.nd b { N.nd b with h := N.W.rd b }⟩ 0 := by
  have hl := g.lk _ (by rw [hu]; exact List.mem_singleton.2 rfl)
  obtain ⟨a', b', h1, h2, h3, h4, h5, q⟩ := hl
  have ea : a' = a := by have : (a : Int) = a' := h1; omega
  have eb : b' = b := by have : (b : Int) = b' := h2; omega
  subst ea
  subst eb
  have kn := g.kn _ h4
  have e0 : ({ N.W with under := N.W.under.eraseIdx (0 : Int).toNat } : Ws) = { N.W with under := [] } := by rw [hu]; rfl
  refine ⟨{ N.W with under := [] }, some ⟨a', b', false, 0, 0, t⟩, 0, Or.inr (Or.inr (Or.inr (Or.inr (Or.inr (Or.inr (Or.inr (Or.inl ⟨rfl, ⟨by omega, by rw [hu]; show (0 : Int) < ((1 : Nat) : Int); decide⟩, e0.symm, by rw [hu]; rfl, rfl⟩))))))), Or.inr ⟨_, { N.nd b' with h := N.W.rd b' }, rfl, rfl, ⟨a', b', h1, h2, h3, h4, h5, q⟩, ?_, Or.inr ⟨rfl, _, Or.inr (Or.inr (Or.inr ⟨rfl, ⟨⟨by show (0 : Int) ≤ a'; omega, by show (a' : Int) < N.W.n; omega⟩, by show (0 : Int) ≤ b'; omega, by show (b' : Int) < N.W.n; omega⟩, by show 0 < 40; omega, rfl, rfl⟩)), ?_⟩⟩⟩
  · rw [Int.toNat_natCast]
    refine Or.inr (Or.inr (Or.inl ⟨kn.nbk g.g h4, ?_, rfl, rfl, rfl, rfl⟩))
    show ¬ ((b' : Int) ≠ (N.nd b').id ∨ (a' : Int) = (N.nd b').id ∨ (a' : Int) < 0 ∨ ((N.nd b').n : Int) ≤ a')
    rw [kn.id, kn.n]
    omega
  · simp only [Int.toNat_natCast]
    rfl
/-- The answer comes, and is kept. -/
theorem come_ans (g : N.T) {a b : Nat} {t1 t2 t y : Int} (hu : N.W.under = [⟨b, a, true, t1, t2, t⟩]) :
    NDoR N 3 0 y ⟨{ N.W with under := [] }, N.p, updN N.nd a ((N.nd a).kept b (N.W.rd a) ((N.nd a).bLo b (N.W.rd a) (t - N.W.rd a)) ((N.nd a).bHi b (N.W.rd a) (oH t1 t2 (N.W.rd a) (N.nd a).p)))⟩ 0 := by
  have hl := g.lk _ (by rw [hu]; exact List.mem_singleton.2 rfl)
  obtain ⟨c', hh, kc⟩ := hear_true g.g hl (g.kn _ (by
    obtain ⟨a', b', h1, h2, h3, h4, h5, q⟩ := hl
    have h2' : (a : Int) = b' := h2
    show ((a : Int)).toNat < N.W.n
    omega))
  have e0 : ({ N.W with under := N.W.under.eraseIdx (0 : Int).toNat } : Ws) = { N.W with under := [] } := by rw [hu]; rfl
  have ec : c' = (N.nd a).kept b (N.W.rd a) ((N.nd a).bLo b (N.W.rd a) (t - N.W.rd a)) ((N.nd a).bHi b (N.W.rd a) (oH t1 t2 (N.W.rd a) (N.nd a).p)) := by
    rcases hh with ⟨_, _, z, _⟩ | ⟨_, _, _, z, _⟩ | ⟨_, _, _, _, z, _⟩ | ⟨_, _, _, _, _, z, _⟩ | ⟨_, _, _, _, _, _, z, _⟩ | ⟨_, _, _, _, _, rfl, _⟩
    · cases z
    · cases z
    · cases z
    · cases z
    · cases z
    · simp only [Int.toNat_natCast]
      rfl
  refine ⟨{ N.W with under := [] }, some ⟨b, a, true, t1, t2, t⟩, 0, Or.inr (Or.inr (Or.inr (Or.inr (Or.inr (Or.inr (Or.inr (Or.inl ⟨rfl, ⟨by omega, by rw [hu]; show (0 : Int) < ((1 : Nat) : Int); decide⟩, e0.symm, by rw [hu]; rfl, rfl⟩))))))), Or.inr ⟨_, c', rfl, rfl, hl, hh, Or.inl ⟨rfl, ?_, rfl⟩⟩⟩
  rw [ec]
  simp only [Int.toNat_natCast]
end
end Go.Proofs.YtnagdjipmpjaaahDoor
namespace Go.Proofs.YtnagdjipmpjaaahDoor.netOne
set_option linter.unusedVariables false

def z2 (i : Nat) : Int := if i = 0 then 0 else 100
def r2 (i : Nat) : Int := 0
theorem be : BeE 2 z2 2 r2 0 0 := Or.inr (Or.inr (Or.inr ⟨by decide, rfl, fun i hi => by unfold z2 r2; split <;> omega, rfl⟩))
def n0 : Nn := Nn.made 2 z2 r2 0
def n1 : Nn := ⟨{ n0.W with under := [⟨0, 1, false, 0, 0, n0.W.rd 0⟩] }, n0.p, n0.nd⟩
def n2 : Nn := ⟨{ n1.W with under := [⟨1, 0, true, n0.W.rd 0, n1.W.rd 1, n1.W.rd 1⟩] }, n1.p, updN n1.nd 1 { n1.nd 1 with h := n1.W.rd 1 }⟩
def n3 : Nn := ⟨{ n2.W with under := [] }, n2.p, updN n2.nd 0 ((n2.nd 0).kept 1 (n2.W.rd 0) ((n2.nd 0).bLo 1 (n2.W.rd 0) (n1.W.rd 1 - n2.W.rd 0)) ((n2.nd 0).bHi 1 (n2.W.rd 0) (oH (n0.W.rd 0) (n1.W.rd 1) (n2.W.rd 0) (n2.nd 0).p)))⟩
theorem t0 : n0.T := Nn.made_t be
theorem d1 : NDoR n0 2 0 1 n1 0 := ask_ok t0 (a := 0) (b := 1) (by decide) (by decide) (by decide) rfl
theorem t1 : n1.T := (d1.t t0).1
theorem d2 : NDoR n1 3 0 0 n2 0 := come_ask t1 (a := 0) (b := 1) rfl
theorem t2 : n2.T := (d2.t t1).1
theorem d3 : NDoR n2 3 0 0 n3 0 := come_ans t2 (a := 0) (b := 1) rfl
theorem t3 : n3.T := (d3.t t2).1
theorem eo3 : eoN n3 = [⟨0, 1, 98, 104⟩] := by rfl
theorem arc3 {u v : Nat} {c : Int} (g : Arc (egf (eoN n3)) (eoN n3).length u v c) : (u = 0 ∧ v = 1 ∧ c = 104) ∨ (u = 1 ∧ v = 0 ∧ c = -98) := by
  rw [eo3] at g
  obtain ⟨j, hj, q⟩ := g
  have hj' : j < 1 := hj
  obtain rfl : j = 0 := by omega
  rcases q with ⟨q1, q2, rfl⟩ | ⟨q1, q2, rfl⟩
  · have q1' : (u : Int) = 0 := q1
    have q2' : (v : Int) = 1 := q2
    exact Or.inl ⟨by omega, by omega, rfl⟩
  · have q1' : (u : Int) = 1 := q1
    have q2' : (v : Int) = 0 := q2
    exact Or.inr ⟨by omega, by omega, rfl⟩
theorem fit3 {k : Int} (h1 : 98 ≤ k) (h2 : k ≤ 104) : ∀ u v c, Arc (egf (eoN n3)) (eoN n3).length u v c → (fun i : Nat => if i = 0 then (0 : Int) else k) v - (fun i : Nat => if i = 0 then (0 : Int) else k) u ≤ c := fun u v c g => by
  rcases arc3 g with ⟨rfl, rfl, rfl⟩ | ⟨rfl, rfl, rfl⟩
  · show k - 0 ≤ 104
    omega
  · show 0 - k ≤ -98
    omega
theorem w1 : Wk (Arc (egf (eoN n3)) (eoN n3).length) 1 0 1 104 := by
  have := (Wk.nil (R := Arc (egf (eoN n3)) (eoN n3).length) 0).snoc (k := 1) (b := 104) (by rw [eo3]; exact ⟨0, by decide, Or.inl ⟨rfl, rfl, rfl⟩⟩)
  exact this
theorem w2 : Wk (Arc (egf (eoN n3)) (eoN n3).length) 1 1 0 (-98) := by
  have := (Wk.nil (R := Arc (egf (eoN n3)) (eoN n3).length) 1).snoc (k := 0) (b := -98) (by rw [eo3]; exact ⟨0, by decide, Or.inr ⟨rfl, rfl, rfl⟩⟩)
  exact this
theorem bet : BetA n3.W.n (egf (eoN n3)) (eoN n3).length 0 1 98 104 0 := by
  obtain ⟨T, hA⟩ := eoN_all t3
  obtain ⟨lo, hi, e, h⟩ := betA_some (egs_e (eoN_egs t3)) hA 0 1
  have h' := h
  rcases eoN_bet t3 (a := 0) (b := 1) ⟨by omega, by decide, by omega, by decide⟩ h with ⟨_, _, _, no⟩ | ⟨rfl, _, _, _, _, x1, x2⟩
  · exact absurd w1 (no _ _)
  · have y1 := wk_fit (fit3 (k := 104) (by omega) (by omega)) x1.1.choose_spec
    have y2 := x1.2 _ _ w1
    have y3 := wk_fit (fit3 (k := 98) (by omega) (by omega)) x2.1.choose_spec
    have y4 := x2.2 _ _ w2
    have y1' : (104 : Int) - 0 ≤ hi := y1
    have y3' : (0 : Int) - 98 ≤ -lo := y3
    obtain rfl : hi = 104 := by omega
    obtain rfl : lo = 98 := by omega
    exact h'
end Go.Proofs.YtnagdjipmpjaaahDoor.netOne
namespace Go.Proofs.YtnagdjipmpjaaahDoor
open Go.ChangeShapes Go.WideShapes Go.ChangeAt Go.RowKit Go.Proofs.YtnagdjipmpjaaahDoor.told
set_option linter.unusedVariables false
set_option linter.unusedSimpArgs false

theorem error_diffN (k f : Int) (w : World) (he : EnvE w) (h : k ≠ f) :
    Calls Tryd.prog 10 #[.iface 95 (.int .i64 k), .int .i64 f] w fun e w' => e = .returned (.bool false) ∧ Below w.heap.size w w' := by
  have H : Hid (EnvE w) := he
  have h' : (k == f) = false := by simpa using h
  clear he h
  go_enter Tryd.func10, Tryd.ntmps10
  go_wp2_with (go_at_call 41; refine (told_errno k _ H.out).mono ?_; rintro e u ⟨rfl, hb⟩)
  go_ret
  exact ⟨by simp [h'], hb⟩
theorem error_niln (f : Int) (w : World) (h : f ≠ 0) :
    Calls Tryd.prog 10 #[.nilIface, .int .i64 f] w fun e w' => e = .returned (.bool false) ∧ Below w.heap.size w w' := by
  have h' : ((0 : Int) == f) = false := by simpa using (Ne.symm h)
  clear h
  go_enter Tryd.func10, Tryd.ntmps10
  go_wp2_with (go_at_call 41; refine (told_nil _).mono ?_; rintro e u ⟨rfl, hb⟩)
  go_ret
  exact ⟨by simp [h'], hb⟩
/-- Another error than f, or none. -/
theorem error_not (e f : Int) (w : World) (he : EnvE w) (h : e ≠ f) (h0 : f ≠ 0) :
    Calls Tryd.prog 10 #[errc e, .int .i64 f] w fun e w' => e = .returned (.bool false) ∧ Below w.heap.size w w' := by
  by_cases z : e = 0
  · subst z; rw [errc_zero]; exact error_niln f w h0
  · rw [errc_not z]; exact error_diffN e f w he h
theorem error_is (f : Int) (w : World) (he : EnvE w) :
    Calls Tryd.prog 10 #[errc f, .int .i64 f] w fun e w' => e = .returned (.bool true) ∧ Below w.heap.size w w' := error_same f w he
end Go.Proofs.YtnagdjipmpjaaahDoor
namespace Go.Proofs.YtnagdjipmpjaaahDoor
open Go.ChangeShapes Go.WideShapes Go.ChangeAt Go.RowKit Go.Joins Go.Deep
set_option linter.unusedVariables false

/-- An act. -/
structure Ac where
  wh : Int
  a : Int
  b : Int
structure Ac.In (q : Ac) : Prop where
  wh : In64 q.wh
  a : In64 q.a
  b : In64 q.b
/-- Acts lie in a row behind an address. -/
def Acs (w : World) (b off n : Nat) (q : Nat → Ac) : Prop := ∀ i, i < n → w.cell? ⟨b, off + i * 3, none⟩ = some (.int .i64 (q i).wh) ∧ w.cell? ⟨b, off + i * 3 + 1, none⟩ = some (.int .i64 (q i).a) ∧ w.cell? ⟨b, off + i * 3 + 2, none⟩ = some (.int .i64 (q i).b) ∧ (q i).In
def AHanded (w : World) (a : Option Addr) (n : Nat) (q : Nat → Ac) : Prop := n ≤ 9223372036854775807 ∧ (n = 0 ∨ ∃ b off : Nat, a = some ⟨b, off, none⟩ ∧ Acs w b off n q)
theorem cellsAct : Tryd.prog.cellsOf 32 = 3 := by kernel_rfl
theorem cells3a {α : Type} {cs : List α} (h : cs.length = 3) : ∃ a b c, cs = [a, b, c] := by
  match cs, h with
  | [a, b, c], _ => exact ⟨a, b, c, rfl⟩
section
variable {H : Type} {enc : TypeId × Value → H} {w : World} {base : Nat} {spare : Nat → Bool} {held : Bool}
set_option maxRecDepth 100000 in
theorem open_act_cells {fuel : Nat} {cs : List Value} {x : DataW H × List MemPlace} (hl : cs.length = 3) (h : DataW.trod enc Tryd.prog w base spare held fuel 32 cs = some x) :
    ∃ q : Ac, cs = [.int .i64 q.wh, .int .i64 q.a, .int .i64 q.b] ∧ q.In := by
  obtain ⟨v0, v1, v2, rfl⟩ := cells3a hl
  obtain ⟨y0, y1, y2, n, hx, _, h0, h1, h2⟩ := trod_struct3 Tryd.underlying32 h
  have k : Tryd.prog.cellsOf 3 = 1 := by kernel_rfl
  have g0 : DataW.trod enc Tryd.prog w base spare held n 3 [v0] = some y0 := by simpa [k] using h0
  have g1 : DataW.trod enc Tryd.prog w base spare held n 3 [v1] = some y1 := by simpa [k] using h1
  have g2 : DataW.trod enc Tryd.prog w base spare held n 3 [v2] = some y2 := by simpa [k] using h2
  obtain ⟨n0, e0, i0, f0⟩ := DataW.trod_int Tryd.underlying3 g0
  obtain ⟨n1, e1, i1, f1⟩ := DataW.trod_int Tryd.underlying3 g1
  obtain ⟨n2, e2, i2, f2⟩ := DataW.trod_int Tryd.underlying3 g2
  simp at e0 e1 e2
  exact ⟨⟨n0, n1, n2⟩, by rw [e0, e1, e2], f0, f1, f2⟩
set_option maxRecDepth 100000 in
theorem open_acts {r : Reach} {b0 : Nat} {v : Value} {d : DataW H} {p : List MemPlace} (hv : Value.okWide Tryd.prog w r b0 39 v) (h : DataW.Trod enc Tryd.prog w base spare held 39 v d p) :
    ∃ (a : Option Addr) (n cap : Nat) (q : Nat → Ac), v = .slice a n cap ∧ AHanded w a n q := by
  obtain ⟨a, n, cap, rfl⟩ := okWide_slice Tryd.underlying39 hv
  obtain ⟨fuel, hf⟩ := h
  have hf' : DataW.trod enc Tryd.prog w base spare held fuel 39 [.slice a n cap] = some (d, p) := by simpa [Value.cells] using hf
  rcases open_slice Tryd.underlying39 hf' with ⟨hcs, hx⟩ | ⟨a', len', cap', m, nf, D, Pl, hcs, hb, hl, hm, hmm, hx, hx2⟩
  · simp at hcs
    exact ⟨a, n, cap, fun _ => ⟨0, 0, 0⟩, rfl, by omega, Or.inl hcs.2.1⟩
  · simp at hcs
    obtain ⟨rfl, rfl, rfl⟩ := hcs
    unfold maxLen at hm
    by_cases h0 : n = 0
    · exact ⟨_, n, cap, fun _ => ⟨0, 0, 0⟩, rfl, by omega, Or.inl h0⟩
    have hnm : n ≤ m := by rw [hmm]; split <;> omega
    have each : ∀ i, i < n → ∃ q : Ac, w.cell? (a'.add (i * 3)) = some (.int .i64 q.wh) ∧ w.cell? (a'.add (i * 3 + 1)) = some (.int .i64 q.a) ∧ w.cell? (a'.add (i * 3 + 2)) = some (.int .i64 q.b) ∧ q.In := by
      intro i hi
      obtain ⟨cs', h1, h2⟩ := hx2 i (by omega)
      rw [cellsAct] at h1
      obtain ⟨_, hlen, hcell⟩ := World.cells?_some h1
      obtain ⟨q, rfl, hq⟩ := open_act_cells hlen h2
      refine ⟨q, ?_, ?_, ?_, hq⟩
      · have := hcell 0 (by omega); rw [add_add] at this; simpa using this
      · have := hcell 1 (by omega); rw [add_add] at this; simpa using this
      · have := hcell 2 (by omega); rw [add_add] at this; simpa using this
    haveI : Inhabited Ac := ⟨⟨0, 0, 0⟩⟩
    obtain ⟨q, hq⟩ := choose_lt each
    obtain ⟨b, off, spot⟩ := a'
    have hspot : spot = none := by simpa [Addr.add] using World.cell?_spot (hq 0 (by omega)).1
    subst hspot
    refine ⟨_, n, cap, q, rfl, by omega, Or.inr ⟨b, off, rfl, fun i hi => ?_⟩⟩
    obtain ⟨g0, g1, g2, g3⟩ := hq i hi
    rw [add_plain] at g0 g1 g2
    exact ⟨g0, g1, g2, g3⟩
theorem trod_struct6 {P : Program} {t : TypeId} {f0 f1 f2 f3 f4 f5 : Field} {fuel : Nat} {cs : List Value} {x : DataW H × List MemPlace} (ht : P.underlying t = some (.struct #[f0, f1, f2, f3, f4, f5])) (h : DataW.trod enc P w base spare held fuel t cs = some x) :
    ∃ y0 y1 y2 y3 y4 y5 n, DataW.trod enc P w base spare held n f0.type ((cs.drop f0.offset).take (P.cellsOf f0.type)) = some y0 ∧
      DataW.trod enc P w base spare held n f1.type ((cs.drop f1.offset).take (P.cellsOf f1.type)) = some y1 ∧ DataW.trod enc P w base spare held n f2.type ((cs.drop f2.offset).take (P.cellsOf f2.type)) = some y2 ∧
      DataW.trod enc P w base spare held n f3.type ((cs.drop f3.offset).take (P.cellsOf f3.type)) = some y3 ∧ DataW.trod enc P w base spare held n f4.type ((cs.drop f4.offset).take (P.cellsOf f4.type)) = some y4 ∧
      DataW.trod enc P w base spare held n f5.type ((cs.drop f5.offset).take (P.cellsOf f5.type)) = some y5 := by
  obtain ⟨xs, n, _, rfl, hl, hlen, hf⟩ := DataW.trod_struct ht h
  match xs, hlen with
  | [y0, y1, y2, y3, y4, y5], _ => exact ⟨y0, y1, y2, y3, y4, y5, n, by simpa using hf 0 f0 rfl, by simpa using hf 1 f1 rfl, by simpa using hf 2 f2 rfl, by simpa using hf 3 f3 rfl, by simpa using hf 4 f4 rfl, by simpa using hf 5 f5 rfl⟩
theorem cellsLetter : Tryd.prog.cellsOf 37 = 6 := by kernel_rfl
theorem array6 {α : Type} {cs : Array α} (h : cs.size = 6) : ∃ c0 c1 c2 c3 c4 c5, cs = #[c0, c1, c2, c3, c4, c5] := by
  obtain ⟨l⟩ := cs
  match l, h with
  | [c0, c1, c2, c3, c4, c5], _ => exact ⟨c0, c1, c2, c3, c4, c5, rfl⟩
/-- A letter's clocks are numbers that an int can be. -/
def Lt.In (l : Lt) : Prop := In64 l.frm ∧ In64 l.to
set_option maxRecDepth 100000 in
theorem open_letter {r : Reach} {b0 : Nat} {v : Value} {d : DataW H} {p : List MemPlace} (hv : Value.okWide Tryd.prog w r b0 37 v) (h : DataW.Trod enc Tryd.prog w base spare held 37 v d p) :
    ∃ l : Lt, v = ltv l ∧ l.In := by
  obtain ⟨cs, rfl, hsz⟩ := okWide_struct Tryd.underlying37 hv
  rw [cellsLetter] at hsz
  obtain ⟨v0, v1, v2, v3, v4, v5, rfl⟩ := array6 hsz
  obtain ⟨fuel, hf⟩ := h
  have hf' : DataW.trod enc Tryd.prog w base spare held fuel 37 [v0, v1, v2, v3, v4, v5] = some (d, p) := by simpa [Value.cells] using hf
  obtain ⟨y0, y1, y2, y3, y4, y5, n, h0, h1, h2, h3, h4, h5⟩ := trod_struct6 Tryd.underlying37 hf'
  have k : Tryd.prog.cellsOf 3 = 1 := by kernel_rfl
  have kb : Tryd.prog.cellsOf 4 = 1 := by kernel_rfl
  have g0 : DataW.trod enc Tryd.prog w base spare held n 3 [v0] = some y0 := by simpa [k, kb] using h0
  have g1 : DataW.trod enc Tryd.prog w base spare held n 3 [v1] = some y1 := by simpa [k, kb] using h1
  have g2 : DataW.trod enc Tryd.prog w base spare held n 4 [v2] = some y2 := by simpa [k, kb] using h2
  have g3 : DataW.trod enc Tryd.prog w base spare held n 3 [v3] = some y3 := by simpa [k, kb] using h3
  have g4 : DataW.trod enc Tryd.prog w base spare held n 3 [v4] = some y4 := by simpa [k, kb] using h4
  have g5 : DataW.trod enc Tryd.prog w base spare held n 3 [v5] = some y5 := by simpa [k, kb] using h5
  obtain ⟨n0, e0, _, f0⟩ := DataW.trod_int Tryd.underlying3 g0
  obtain ⟨n1, e1, _, f1⟩ := DataW.trod_int Tryd.underlying3 g1
  obtain ⟨n2, e2, _⟩ := DataW.trod_bool Tryd.underlying4 g2
  obtain ⟨n3, e3, _, f3⟩ := DataW.trod_int Tryd.underlying3 g3
  obtain ⟨n4, e4, _, f4⟩ := DataW.trod_int Tryd.underlying3 g4
  obtain ⟨n5, e5, _, f5⟩ := DataW.trod_int Tryd.underlying3 g5
  simp at e0 e1 e2 e3 e4 e5
  exact ⟨⟨n0, n1, n2, n3, n4, n5⟩, by rw [e0, e1, e2, e3, e4, e5]; rfl, f0, f1⟩
end
end Go.Proofs.YtnagdjipmpjaaahDoor
namespace Go.Proofs.YtnagdjipmpjaaahDoor
open Go.ChangeShapes Go.WideShapes Go.ChangeAt Go.RowKit Go.Joins Go.Deep
set_option linter.unusedVariables false

section
variable {H : Type} {enc : TypeId × Value → H} {w : World} {base : Nat} {spare : Nat → Bool} {held : Bool}
set_option maxRecDepth 100000 in
theorem open_nums {fuel : Nat} {cs : List Value} {x : DataW H × List MemPlace} (h : DataW.trod enc Tryd.prog w base spare held fuel 27 cs = some x) :
    ∃ (a : Option Addr) (n cap : Nat) (z : Nat → Int), cs = [.slice a n cap] ∧ NHanded w a n z ∧ ∀ j, j < n → In64 (z j) := by
  have k : Tryd.prog.cellsOf 3 = 1 := by kernel_rfl
  rcases Go.ChangeShapes.open_ints Tryd.underlying27 Tryd.underlying3 k h with ⟨hcs, hx⟩ | ⟨a', len', cap', zs, hcs, hb, hl, hm, hlen, hx, hcell, hwf⟩
  · exact ⟨none, 0, 0, fun _ => 0, hcs, ⟨by omega, Or.inl rfl⟩, fun j hj => by omega⟩
  · unfold maxLen at hm
    have hnz : len' ≤ zs.length := by rw [hlen]; split <;> omega
    by_cases h0 : len' = 0
    · exact ⟨_, len', cap', fun _ => 0, hcs, ⟨by omega, Or.inl h0⟩, fun j hj => by omega⟩
    obtain ⟨b, off, spot⟩ := a'
    have hspot : spot = none := by simpa [Addr.add] using World.cell?_spot (hcell 0 (by omega))
    subst hspot
    refine ⟨_, len', cap', fun i => zs.getD i 0, hcs, ⟨by omega, Or.inr ⟨b, off, rfl, fun i hi => ?_⟩⟩, fun j hj => ?_⟩
    · have g := hcell i (by omega)
      rwa [add_plain] at g
    · have jl : j < zs.length := by omega
      show In64 (zs.getD j 0)
      rw [List.getD_eq_getElem?_getD, List.getElem?_eq_getElem jl]
      exact hwf _ (List.getElem_mem jl)
set_option maxRecDepth 100000 in
theorem open_ns {r : Reach} {b0 : Nat} {v : Value} {d : DataW H} {p : List MemPlace} (hv : Value.okWide Tryd.prog w r b0 27 v) (h : DataW.Trod enc Tryd.prog w base spare held 27 v d p) :
    ∃ (a : Option Addr) (n cap : Nat) (z : Nat → Int), v = .slice a n cap ∧ NHanded w a n z ∧ ∀ j, j < n → In64 (z j) := by
  obtain ⟨a, n, cap, rfl⟩ := okWide_slice Tryd.underlying27 hv
  obtain ⟨fuel, hf⟩ := h
  have hf' : DataW.trod enc Tryd.prog w base spare held fuel 27 [.slice a n cap] = some (d, p) := by simpa [Value.cells] using hf
  obtain ⟨a2, n2, c2, z, e, h1⟩ := open_nums hf'
  simp at e
  obtain ⟨rfl, rfl, rfl⟩ := e
  exact ⟨a, n, cap, z, rfl, h1⟩
end
end Go.Proofs.YtnagdjipmpjaaahDoor
