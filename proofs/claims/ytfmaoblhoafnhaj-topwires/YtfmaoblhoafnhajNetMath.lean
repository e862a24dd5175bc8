/- A net of nodes, in a world of clocks: plain mathematics. -/
import Derived.Test.YtfmaoblhoafnhajNm07
namespace Go.Proofs.Ytfmaoblhoafnhaj
set_option linter.unusedVariables false

/-- What a clock shows at a time. -/
def shw (S : Ws) (i : Nat) (t : Int) : Int := sh (S.starts i) (S.rates i) t
theorem shw_rd (S : Ws) (i : Nat) : shw S i S.time = S.rd i := rfl
/-- Rates within a bound. -/
structure RtB (S : Ws) (p : Int) : Prop where
  i : S.I
  p0 : 0 ≤ p
  p1 : p ≤ 1000
  ra : ∀ i, i < S.n → -p ≤ S.rates i ∧ S.rates i ≤ p
theorem shw_b {S : Ws} {p : Int} (g : RtB S p) {i : Nat} (hi : i < S.n) {t : Int} (t0 : 0 ≤ t) (t1 : t ≤ S.time) : 0 ≤ shw S i t ∧ shw S i t ≤ 1002000000 := by
  have a := g.i.st i hi
  have b := g.ra i hi
  have c := g.p1
  have d := g.i.t1
  exact sh_time a.1 a.2 (by omega) (by omega) t0 (by omega)
theorem shw_mono {S : Ws} {p : Int} (g : RtB S p) {i : Nat} (hi : i < S.n) {t u : Int} (h : t ≤ u) : shw S i t ≤ shw S i u := by
  have b := g.ra i hi
  have c := g.p1
  have := sh_mono (s := S.starts i) (r := S.rates i) (t := t) (d := u - t) (by omega) (by omega) (by omega)
  rw [show t + (u - t) = u by omega] at this
  exact this
/-- A letter under way: from one clock to another one, as it was written. -/
def Lk (S : Ws) (l : Lt) : Prop := ∃ a b : Nat, l.frm = a ∧ l.to = b ∧ a < S.n ∧ b < S.n ∧ a ≠ b ∧
  ((l.ans = false ∧ l.t1 = 0 ∧ l.t2 = 0 ∧ ∃ t, 0 ≤ t ∧ t ≤ S.time ∧ l.t = shw S a t) ∨
   (l.ans = true ∧ ∃ t1 t2, 0 ≤ t1 ∧ t1 ≤ t2 ∧ t2 ≤ S.time ∧ l.t1 = shw S b t1 ∧ l.t2 = shw S a t2 ∧ l.t = shw S a t2))
/-- What a node knows is true. -/
structure Kn (S : Ws) (p : Int) (i : Nat) (c : Nd) : Prop where
  id : c.id = i
  n : c.n = S.n
  p : c.p = p
  h0 : -1 ≤ c.h
  h1 : c.h ≤ S.rd i
  kn : ∀ k, c.has k = true → k < S.n ∧ k ≠ i ∧ -3000000000 ≤ c.lo k ∧ c.hi k ≤ 3000000000 ∧ ∃ t, 0 ≤ t ∧ t ≤ S.time ∧ c.at_ k = shw S i t ∧ c.at_ k ≤ c.h ∧ c.lo k ≤ shw S k t - shw S i t ∧ shw S k t - shw S i t ≤ c.hi k
theorem Kn.i {S : Ws} {p : Int} {i : Nat} {c : Nd} (h : Kn S p i c) (g : RtB S p) (hi : i < S.n) : c.I := by
  have b := shw_b g hi g.i.t0 (Int.le_refl _)
  rw [shw_rd] at b
  have h1 := h.h1
  refine ⟨by rw [h.id, h.n]; exact hi, by rw [h.n]; exact g.i.n6, by rw [h.p]; exact g.p0, by rw [h.p]; exact g.p1, h.h0, by omega, fun k hk => ?_⟩
  obtain ⟨k1, k2, k3, k4, t, t0, t1, ea, eh, l1, l2⟩ := h.kn k hk
  have b1 := shw_b g hi t0 t1
  exact ⟨by rw [h.n]; exact k1, by rw [h.id]; exact k2, okB_mk ⟨by omega, by omega, by omega⟩, by omega, eh⟩
theorem Kn.nbk {S : Ws} {p : Int} {i : Nat} {c : Nd} (h : Kn S p i c) (g : RtB S p) (hi : i < S.n) : ¬ c.bk (S.rd i) := by
  have b := shw_b g hi g.i.t0 (Int.le_refl _)
  rw [shw_rd] at b
  have h1 := h.h1
  unfold Nd.bk
  omega
/-- How the clocks truly differ is in what is told. -/
theorem Kn.aged {S : Ws} {p : Int} {i : Nat} {c : Nd} (h : Kn S p i c) (g : RtB S p) (hi : i < S.n) {k : Nat} (hk : c.has k = true) :
    c.alo k (S.rd i) ≤ S.rd k - S.rd i ∧ S.rd k - S.rd i ≤ c.ahi k (S.rd i) ∧ -4000000000 ≤ c.alo k (S.rd i) ∧ c.ahi k (S.rd i) ≤ 4000000000 := by
  obtain ⟨k1, k2, k3, k4, t, t0, t1, ea, eh, l1, l2⟩ := h.kn k hk
  have ri := g.ra i hi
  have rk := g.ra k k1
  have q := aged_true (sa := S.starts i) (ra := S.rates i) (sb := S.starts k) (rb := S.rates k) g.p0 g.p1 ri.1 ri.2 rk.1 rk.2 t1 l1 l2
  have b1 := shw_b g hi t0 t1
  have b2 := shw_b g hi g.i.t0 (Int.le_refl _)
  have m := shw_mono g hi t1
  have e : c.sk k (S.rd i) = 2 + ((shw S i S.time - shw S i t) * 3 * p + 1000000 - 1) / 1000000 := by
    unfold Nd.sk
    rw [ea, h.p, ← shw_rd]
  have m1 : 0 ≤ (shw S i S.time - shw S i t) * 3 * p := Int.mul_nonneg (by omega) g.p0
  have m2 : (shw S i S.time - shw S i t) * 3 * p ≤ 3006000000 * 1000 := Int.mul_le_mul (by omega) g.p1 g.p0 (by omega)
  unfold Nd.alo Nd.ahi
  rw [e]
  refine ⟨q.1, q.2, by omega, by omega⟩
/-- Time goes on. -/
def Ws.at_ (S : Ws) (u : Int) : Ws := { S with time := u }
theorem RtB.on {S S' : Ws} {p : Int} (g : RtB S p) (hi : S'.I) (hn : S'.n = S.n) (hr : S'.rates = S.rates) : RtB S' p := ⟨hi, g.p0, g.p1, fun i h => by rw [hr]; exact g.ra i (by rw [hn] at h; exact h)⟩
/-- .. and what was true is. -/
theorem Lk.on {S S' : Ws} {l : Lt} (h : Lk S l) (hn : S'.n = S.n) (hs : S'.starts = S.starts) (hr : S'.rates = S.rates) (ht : S.time ≤ S'.time) : Lk S' l := by
  have e : ∀ i t, shw S' i t = shw S i t := fun i t => by unfold shw; rw [hs, hr]
  obtain ⟨a, b, h1, h2, h3, h4, h5, q⟩ := h
  refine ⟨a, b, h1, h2, by rw [hn]; exact h3, by rw [hn]; exact h4, h5, ?_⟩
  rcases q with ⟨q1, q2, q3, t, t0, t1, q4⟩ | ⟨q1, t1, t2, t0, t3, t4, q2, q3, q4⟩
  · exact Or.inl ⟨q1, q2, q3, t, t0, by omega, by rw [e]; exact q4⟩
  · exact Or.inr ⟨q1, t1, t2, t0, t3, by omega, by rw [e]; exact q2, by rw [e]; exact q3, by rw [e]; exact q4⟩
theorem Kn.on {S S' : Ws} {p : Int} {i : Nat} {c : Nd} (h : Kn S p i c) (g : RtB S p) (hi : i < S.n) (hn : S'.n = S.n) (hs : S'.starts = S.starts) (hr : S'.rates = S.rates) (ht : S.time ≤ S'.time) : Kn S' p i c := by
  have e : ∀ i t, shw S' i t = shw S i t := fun i t => by unfold shw; rw [hs, hr]
  have m := shw_mono g hi ht
  have q : S'.rd i = shw S i S'.time := by rw [← shw_rd, e]
  refine ⟨h.id, by rw [hn]; exact h.n, h.p, h.h0, by have := h.h1; rw [q]; rw [shw_rd] at m; omega, fun k hk => ?_⟩
  obtain ⟨k1, k2, k3, k4, t, t0, t1, ea, eh, l1, l2⟩ := h.kn k hk
  exact ⟨by rw [hn]; exact k1, k2, k3, k4, t, t0, by omega, by rw [e]; exact ea, eh, by rw [e, e]; exact l1, by rw [e, e]; exact l2⟩
/-- A letter that comes is heard: nothing is at fault, and what is kept is true. -/
theorem hear_true {S : Ws} {p : Int} {l : Lt} {c : Nd} (g : RtB S p) (hl : Lk S l) (hc : Kn S p l.to.toNat c) : ∃ c', HearR c l (S.rd l.to.toNat) c' l.ans 0 ∧ Kn S p l.to.toNat c' := by
  obtain ⟨a, b, h1, h2, h3, h4, h5, q⟩ := hl
  have eb : l.to.toNat = b := by rw [h2]; exact Int.toNat_natCast b
  have ea : l.frm.toNat = a := by rw [h1]; exact Int.toNat_natCast a
  rw [eb] at hc ⊢
  have nb := hc.nbk g h4
  have ng : ¬ c.bad l := by
    clear q
    unfold Nd.bad
    rw [hc.id, hc.n]
    omega
  have bb := shw_b g h4 g.i.t0 (Int.le_refl _)
  rw [shw_rd] at bb
  rcases q with ⟨q1, q2, q3, t, t0, t1, q4⟩ | ⟨q1, t1, t2, t0, t3, t4, q2, q3, q4⟩
  · rw [q1]
    refine ⟨{ c with h := S.rd b }, Or.inr (Or.inr (Or.inl ⟨nb, ng, q1, rfl, rfl, rfl⟩)), ⟨hc.id, hc.n, hc.p, by show -1 ≤ S.rd b; omega, Int.le_refl _, fun k hk => ?_⟩⟩
    obtain ⟨k1, k2, k3, k4, t, t0, t1, ea, eh, l1, l2⟩ := hc.kn k hk
    exact ⟨k1, k2, k3, k4, t, t0, t1, ea, by have := hc.h1; show c.at_ k ≤ S.rd b; omega, l1, l2⟩
  · have rb := g.ra b h4
    have ra := g.ra a h3
    have pt := probe_holds (sa := S.starts b) (ra := S.rates b) (sb := S.starts a) (rb := S.rates a) g.p0 g.p1 rb.1 rb.2 ra.1 ra.2 t3 t4
    have pt' : l.t - S.rd b ≤ S.rd a - S.rd b ∧ S.rd a - S.rd b ≤ oH l.t1 l.t2 (S.rd b) c.p := by
      rw [q2, q3, q4, hc.p]
      exact pt
    have b1 := shw_b g h4 t0 (show t1 ≤ S.time by omega)
    have b2 := shw_b g h3 (show 0 ≤ t2 by omega) t4
    have ba := shw_b g h3 g.i.t0 (Int.le_refl _)
    rw [shw_rd] at ba
    have m := shw_mono g h4 (show t1 ≤ S.time by omega)
    rw [shw_rd] at m
    have pp := hc.p
    have p0 := g.p0
    have p1 := g.p1
    have m1 : 0 ≤ (S.rd b - l.t1) * 3 * c.p := Int.mul_nonneg (by omega) (by omega)
    have m2 : (S.rd b - l.t1) * 3 * c.p ≤ 3006000000 * 1000 := Int.mul_le_mul (by omega) (by omega) (by omega) (by omega)
    have ob : oH l.t1 l.t2 (S.rd b) c.p ≤ 2000000000 := by unfold oH; omega
    have oe : oE l.t1 l.t2 l.t (S.rd b) c.p = 0 := by
      refine oE_fine ?_ (decide_eq_true (by omega)) (tmB_mk (by omega)) (tmB_mk (by omega)) (by omega)
      unfold pE
      rw [if_pos ⟨tmB_mk (by omega), tmB_mk (by omega), tmB_mk (by omega), tmB_mk (by omega)⟩, if_neg (by omega)]
    have ag : c.has a = true → c.alo a (S.rd b) ≤ S.rd a - S.rd b ∧ S.rd a - S.rd b ≤ c.ahi a (S.rd b) := fun h => ⟨(hc.aged g h4 h).1, (hc.aged g h4 h).2.1⟩
    have x1 : c.bLo a (S.rd b) (Nd.oL l (S.rd b)) ≤ S.rd a - S.rd b ∧ Nd.oL l (S.rd b) ≤ c.bLo a (S.rd b) (Nd.oL l (S.rd b)) := by
      have el : Nd.oL l (S.rd b) = l.t - S.rd b := rfl
      unfold Nd.bLo
      split
      · rename_i h
        have := (ag h).1
        split <;> omega
      · omega
    have x2 : S.rd a - S.rd b ≤ c.bHi a (S.rd b) (c.oU l (S.rd b)) ∧ c.bHi a (S.rd b) (c.oU l (S.rd b)) ≤ c.oU l (S.rd b) := by
      have eu : c.oU l (S.rd b) = oH l.t1 l.t2 (S.rd b) c.p := rfl
      unfold Nd.bHi
      split
      · rename_i h
        have := (ag h).2
        split <;> omega
      · omega
    have el : Nd.oL l (S.rd b) = l.t - S.rd b := rfl
    have eu : c.oU l (S.rd b) = oH l.t1 l.t2 (S.rd b) c.p := rfl
    rw [q1]
    refine ⟨_, Or.inr (Or.inr (Or.inr (Or.inr (Or.inr ⟨nb, ng, q1, oe, by rw [ea]; omega, rfl, rfl, rfl⟩)))), ?_⟩
    rw [ea]
    refine ⟨hc.id, hc.n, hc.p, by show -1 ≤ S.rd b; omega, Int.le_refl _, fun k hk => ?_⟩
    by_cases e : k = a
    · subst e
      refine ⟨h3, h5, ?_, ?_, S.time, g.i.t0, Int.le_refl _, ?_, ?_, ?_, ?_⟩
      · show -3000000000 ≤ updN c.lo k _ k
        rw [updN_at]; omega
      · show updN c.hi k _ k ≤ 3000000000
        rw [updN_at]; omega
      · show updN c.at_ k _ k = _
        rw [updN_at, shw_rd]
      · show updN c.at_ k _ k ≤ S.rd b
        rw [updN_at]; exact Int.le_refl _
      · show updN c.lo k _ k ≤ _
        rw [updN_at, shw_rd, shw_rd]; exact x1.1
      · show _ ≤ updN c.hi k _ k
        rw [updN_at, shw_rd, shw_rd]; exact x2.1
    · have hk' : c.has k = true := by
        have : updN c.has a true k = true := hk
        rwa [updN_ne e] at this
      obtain ⟨k1, k2, k3, k4, t, t0, t1, fa, fh, l1, l2⟩ := hc.kn k hk'
      refine ⟨k1, k2, ?_, ?_, t, t0, t1, ?_, ?_, ?_, ?_⟩
      · show -3000000000 ≤ updN c.lo a _ k
        rw [updN_ne e]; exact k3
      · show updN c.hi a _ k ≤ 3000000000
        rw [updN_ne e]; exact k4
      · show updN c.at_ a _ k = _
        rw [updN_ne e]; exact fa
      · show updN c.at_ a _ k ≤ S.rd b
        rw [updN_ne e]; have := hc.h1; omega
      · show updN c.lo a _ k ≤ _
        rw [updN_ne e]; exact l1
      · show _ ≤ updN c.hi a _ k
        rw [updN_ne e]; exact l2
/-- A net: its world, the bound of its rates, its nodes. -/
structure Nn where
  W : Ws
  p : Int
  nd : Nat → Nd
/-- What is always so of a net. -/
structure Nn.T (N : Nn) : Prop where
  g : RtB N.W N.p
  lk : ∀ l, l ∈ N.W.under → Lk N.W l
  kn : ∀ i, i < N.W.n → Kn N.W N.p i (N.nd i)
def Nn.made (n : Nat) (z r : Nat → Int) (p : Int) : Nn := ⟨ws0 n z r, p, fun i => Nd.made i n p⟩
theorem Nn.made_t {n m : Nat} {z r : Nat → Int} {p : Int} (h : BeE n z m r p 0) : (Nn.made n z r p).T := by
  have hi := ws0_i h
  rcases h with ⟨_, e⟩ | ⟨_, _, e⟩ | ⟨_, _, _, e⟩ | ⟨⟨a, b, c, d⟩, _, q, _⟩
  · cases e
  · cases e
  · cases e
  have g : RtB (ws0 n z r) p := ⟨hi, a, b, fun i hi => ⟨(q i hi).2.2.1, (q i hi).2.2.2⟩⟩
  refine ⟨g, fun l hl => ?_, fun i hi => ?_⟩
  · cases hl
  · have w := shw_b g (i := i) hi (t := 0) (by omega) (by show (0 : Int) ≤ 0; omega)
    refine ⟨rfl, rfl, rfl, by show (-1 : Int) ≤ -1; omega, ?_, fun k hk => by cases hk⟩
    have : shw (ws0 n z r) i 0 = (ws0 n z r).rd i := rfl
    show (-1 : Int) ≤ (ws0 n z r).rd i
    omega
/-- An act: what the net is behind it, its fault. -/
def NDoR (N : Nn) (wh a b : Int) (N' : Nn) (e : Int) : Prop :=
  ∃ S' r e1, DoR N.W wh a b S' r e1 ∧
    ((r = none ∧ N' = ⟨S', N.p, N.nd⟩ ∧ e = e1) ∨
     (∃ l c', r = some l ∧ e1 = 0 ∧ Lk S' l ∧ HearR (N.nd l.to.toNat) l (S'.rd l.to.toNat) c' l.ans 0 ∧
       ((l.ans = true ∧ N' = ⟨S', N.p, updN N.nd l.to.toNat c'⟩ ∧ e = 0) ∨
        (l.ans = false ∧ ∃ S'', AnR S' l S'' e ∧ N' = ⟨S'', N.p, updN N.nd l.to.toNat c'⟩))))
/-- What an act leaves as it was. -/
theorem DoR.same {S S' : Ws} {wh a b e : Int} {r : Option Lt} (h : DoR S wh a b S' r e) : S'.n = S.n ∧ S'.starts = S.starts ∧ S'.rates = S.rates ∧ (S.I → S.time ≤ S'.time) := by
  rcases h with ⟨_, _, rfl, _⟩ | ⟨_, c, rfl, _⟩ | ⟨_, _, rfl, _⟩ | ⟨_, _, _, rfl, _⟩ | ⟨_, _, _, _, rfl, _⟩ | ⟨_, _, _, l, rfl, _⟩ | ⟨_, _, rfl, _⟩ | ⟨_, _, rfl, _⟩ | ⟨_, _, rfl, _⟩ | ⟨_, _, rfl, _⟩ | ⟨_, rfl, _⟩
  · exact ⟨rfl, rfl, rfl, fun _ => Int.le_refl _⟩
  · exact ⟨rfl, rfl, rfl, fun _ => by show S.time ≤ S.time + a; omega⟩
  all_goals exact ⟨rfl, rfl, rfl, fun _ => Int.le_refl _⟩
/-- What is under way then. -/
theorem DoR.lk {S S' : Ws} {p wh a b e : Int} {r : Option Lt} (h : DoR S wh a b S' r e) (g : RtB S p) (lk : ∀ l, l ∈ S.under → Lk S l) : (∀ l, l ∈ S'.under → Lk S' l) ∧ (∀ l, r = some l → Lk S' l) ∧ (∀ l, r = some l → e = 0) := by
  have sm := h.same
  have on : ∀ l, l ∈ S.under → Lk S' l := fun l hl => (lk l hl).on sm.1 sm.2.1 sm.2.2.1 (sm.2.2.2 g.i)
  rcases h with ⟨_, _, rfl, rfl, _⟩ | ⟨_, c, rfl, rfl, _⟩ | ⟨_, _, rfl, rfl, _⟩ | ⟨_, _, _, rfl, rfl, _⟩ | ⟨_, _, _, _, rfl, rfl, _⟩ | ⟨_, q, ne, l, rfl, rfl, _⟩ | ⟨_, _, rfl, rfl, _⟩ | ⟨_, c, rfl, rfl, rfl⟩ | ⟨_, _, rfl, rfl, _⟩ | ⟨_, _, rfl, rfl, rfl⟩ | ⟨_, rfl, rfl, _⟩
  · exact ⟨on, (fun l h => by cases h), (fun l h => by cases h)⟩
  · exact ⟨on, (fun l h => by cases h), (fun l h => by cases h)⟩
  · exact ⟨on, (fun l h => by cases h), (fun l h => by cases h)⟩
  · exact ⟨on, (fun l h => by cases h), (fun l h => by cases h)⟩
  · exact ⟨on, (fun l h => by cases h), (fun l h => by cases h)⟩
  · refine ⟨fun x hx => ?_, (fun l h => by cases h), (fun l h => by cases h)⟩
    rcases List.mem_append.1 hx with hx | hx
    · exact on x hx
    · obtain rfl := List.mem_singleton.1 hx
      unfold Ws.hs at q
      exact ⟨a.toNat, b.toNat, by show a = _; omega, by show b = _; omega, by show a.toNat < S.n; omega, by show b.toNat < S.n; omega, by omega, Or.inl ⟨rfl, rfl, rfl, S.time, g.i.t0, Int.le_refl _, rfl⟩⟩
  · exact ⟨on, (fun l h => by cases h), (fun l h => by cases h)⟩
  · exact ⟨fun x hx => on x (List.mem_of_mem_eraseIdx hx), fun l h => on l (List.mem_of_getElem? h), fun l h => rfl⟩
  · exact ⟨fun x hx => on x (List.mem_of_mem_eraseIdx hx), (fun l h => by cases h), (fun l h => by cases h)⟩
  · exact ⟨on, fun l h => on l (List.mem_of_getElem? h), fun l h => rfl⟩
  · exact ⟨on, (fun l h => by cases h), (fun l h => by cases h)⟩
theorem nDoR_some {N : Nn} (g : N.T) (wh a b : Int) : ∃ N' e, NDoR N wh a b N' e := by
  obtain ⟨S', r, e1, h⟩ := doR_some N.W wh a b
  cases r with
  | none => exact ⟨_, _, S', none, e1, h, Or.inl ⟨rfl, rfl, rfl⟩⟩
  | some l =>
    have sm := h.same
    obtain ⟨k1, k2, k3⟩ := h.lk g.g g.lk
    have hl := k2 l rfl
    have g' := g.g.on (h.i g.g.i) sm.1 sm.2.2.1
    have hb : l.to.toNat < N.W.n := by
      obtain ⟨a', b', _, q2, _, q4, _⟩ := hl
      rw [sm.1] at q4
      omega
    have hk := (g.kn _ hb).on g.g hb sm.1 sm.2.1 sm.2.2.1 (sm.2.2.2 g.g.i)
    obtain ⟨c', hh, _⟩ := hear_true g' hl hk
    cases ha : l.ans with
    | true => exact ⟨_, _, S', some l, e1, h, Or.inr ⟨l, c', rfl, k3 l rfl, hl, hh, Or.inl ⟨ha, rfl, rfl⟩⟩⟩
    | false =>
      obtain ⟨S'', e, hA⟩ := anR_some S' l
      exact ⟨_, _, S', some l, e1, h, Or.inr ⟨l, c', rfl, k3 l rfl, hl, hh, Or.inr ⟨ha, S'', hA, rfl⟩⟩⟩
theorem AnR.same {S S' : Ws} {l : Lt} {e : Int} (h : AnR S l S' e) : S'.n = S.n ∧ S'.starts = S.starts ∧ S'.rates = S.rates ∧ S'.time = S.time := by
  rcases h with ⟨_, rfl, _⟩ | ⟨_, _, rfl, _⟩ | ⟨_, _, _, rfl, _⟩ | ⟨_, _, q, rfl, _⟩ <;> exact ⟨rfl, rfl, rfl, rfl⟩
/-- What is always so stays so, and nothing clashes. -/
theorem NDoR.t {N N' : Nn} {wh a b e : Int} (h : NDoR N wh a b N' e) (g : N.T) : N'.T ∧ N'.W.n = N.W.n ∧ e ≠ 7 := by
  obtain ⟨S', r, e1, hD, q⟩ := h
  have sm := hD.same
  obtain ⟨k1, k2, k3⟩ := hD.lk g.g g.lk
  have g' := g.g.on (hD.i g.g.i) sm.1 sm.2.2.1
  have kn' : ∀ i, i < N.W.n → Kn S' N.p i (N.nd i) := fun i hi => (g.kn i hi).on g.g hi sm.1 sm.2.1 sm.2.2.1 (sm.2.2.2 g.g.i)
  rcases q with ⟨rfl, rfl, rfl⟩ | ⟨l, c', rfl, rfl, hl, hh, q⟩
  · refine ⟨⟨g', k1, fun i hi => kn' i (by rw [← sm.1]; exact hi)⟩, sm.1, ?_⟩
    rcases hD with ⟨_, _, _, _, rfl⟩ | ⟨_, _, _, _, rfl⟩ | ⟨_, _, _, _, rfl⟩ | ⟨_, _, _, _, _, rfl⟩ | ⟨_, _, _, _, _, _, rfl⟩ | ⟨_, _, _, _, _, _, rfl⟩ | ⟨_, _, _, _, rfl⟩ | ⟨_, _, _, _, rfl⟩ | ⟨_, _, _, _, rfl⟩ | ⟨_, _, _, _, rfl⟩ | ⟨_, _, _, rfl⟩ <;> decide
  · have hb : l.to.toNat < N.W.n := by
      obtain ⟨a', b', _, q2, _, q4, _⟩ := hl
      rw [sm.1] at q4
      omega
    obtain ⟨c2, hh2, kc⟩ := hear_true g' hl (kn' _ hb)
    obtain ⟨rfl, _, _⟩ := hearR_uniq hh hh2
    have kn2 : ∀ i, i < N.W.n → Kn S' N.p i (updN N.nd l.to.toNat c' i) := fun i hi => by
      by_cases e : i = l.to.toNat
      · rw [e, updN_at]; exact kc
      · rw [updN_ne e]; exact kn' i hi
    rcases q with ⟨_, rfl, rfl⟩ | ⟨_, S'', hA, rfl⟩
    · exact ⟨⟨g', k1, fun i hi => kn2 i (by rw [← sm.1]; exact hi)⟩, sm.1, by decide⟩
    · have sa := hA.same
      have g'' := g'.on (hA.i g'.i) sa.1 sa.2.2.1
      refine ⟨⟨g'', ?_, fun i hi => (kn2 i (by rw [← sm.1, ← sa.1]; exact hi)).on g' (by rw [← sa.1]; exact hi) sa.1 sa.2.1 sa.2.2.1 (by rw [sa.2.2.2]; exact Int.le_refl _)⟩, by show S''.n = _; rw [sa.1, sm.1], ?_⟩
      · have on : ∀ x, x ∈ S'.under → Lk S'' x := fun x hx => (k1 x hx).on sa.1 sa.2.1 sa.2.2.1 (by rw [sa.2.2.2]; exact Int.le_refl _)
        show ∀ x, x ∈ S''.under → Lk S'' x
        rcases hA with ⟨_, rfl, _⟩ | ⟨_, _, rfl, _⟩ | ⟨_, _, _, rfl, _⟩ | ⟨nA, _, _, rfl, _⟩
        · exact on
        · exact on
        · exact on
        · intro x hx
          rcases List.mem_append.1 hx with hx | hx
          · exact on x hx
          · obtain rfl := List.mem_singleton.1 hx
            obtain ⟨a', b', h1, h2, h3, h4, h5, z⟩ := hl
            have ez : l.to.toNat = b' := by rw [h2]; exact Int.toNat_natCast b'
            rcases z with ⟨_, _, _, t, t0, t1, zt⟩ | ⟨z, _⟩
            · refine ⟨b', a', h2, h1, h4, h3, Ne.symm h5, Or.inr ⟨rfl, t, S'.time, t0, t1, Int.le_refl _, zt, ?_, ?_⟩⟩
              · show S'.rd l.to.toNat = _
                rw [ez]; rfl
              · show S'.rd l.to.toNat = _
                rw [ez]; rfl
            · rw [nA] at z; cases z
      · rcases hA with ⟨_, _, rfl⟩ | ⟨_, _, _, rfl⟩ | ⟨_, _, _, _, rfl⟩ | ⟨_, _, _, _, rfl⟩ <;> decide
end Go.Proofs.Ytfmaoblhoafnhaj
