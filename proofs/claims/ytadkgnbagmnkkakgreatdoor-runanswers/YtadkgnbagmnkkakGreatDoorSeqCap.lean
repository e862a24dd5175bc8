/- A range over a function whose iterator keeps what is left in a cell of its own, and a body that goes on always. -/
import Derived.Test.YtadkgnbagmnkkakGreatDoorNm05
import Derived.RangeFuncNested
import Derived.RangeFuncBound
import Derived.RangeFuncCalls
import Derived.RangeFuncLeaves
namespace Go.Proofs.YtadkgnbagmnkkakGreatDoor
open Go.RowKit
set_option linter.unusedVariables false

def Feeds {α : Type} (F : Fence) (n : Nat) (P : Program) (g : Nat) (lb : Array Value) (encs : α → Array Value) (E : World → Prop) (b : Nat) (xs : List α) (w : World) : Prop :=
 ∀ (l : Nat) (J : List α → World → Prop) (W : World), b < W.heap.size → W.heap[b]? = w.heap[b]? →
  (∀ s X, J s X → E X) → (∀ s X Y, J s X → Keeps (fun k => k = b) X Y → J s Y) →
  (∀ pre x W1, J pre W1 → pre ++ [x] <+: xs → YieldAt F (n - 1) P l (encs x) W1 fun e W' => e = .returned (.bool true) ∧ J (pre ++ [x]) W' ∧ W1.heap.size ≤ W'.heap.size ∧ W'.heap[b]? = W1.heap[b]?) →
  J [] W → CallsIn F n P g (#[.func (.yield l) #[] #[]] ++ lb) W fun e W' => (∃ v, e = .returned v) ∧ J xs W'
structure GoesOn (B b : Nat) (W W' : World) : Prop where
 size : W.heap.size ≤ W'.heap.size
 d : W'.heap[B]? = W.heap[B]?
 l : W'.heap[B + 1]? = W.heap[B + 1]?
 b : W'.heap[b]? = W.heap[b]?
def goesOn {α : Type} (B b : Nat) (I : List α → World → Prop) (xs : List α) (W : World) (e : Exit) (_ : Act) (W' : World) : Prop := e = .normal ∧ GoesOn B b W W' ∧ I xs W'
theorem GoesOn.of {B b : Nat} {S : Nat → Prop} {W W' : World} (h : Keeps S W W') (h1 : ¬ S B) (h2 : ¬ S (B + 1)) (h3 : ¬ S b) (z : B + 1 < W.heap.size) (zb : b < W.heap.size) : GoesOn B b W W' :=
 ⟨h.size, h.block B (by omega) h1, h.block (B + 1) z h2, h.block b zb h3⟩
section
variable {F : Fence} {n : Nat} {P : Program} {α : Type} {w W : World}
structure Bk (l D : Nat) (r : Loop) (W : World) : Prop where
 l : W.heap[l]? = some (.loop r)
 d : W.heap[D]? = some (.deferred (some []))
theorem Bk.on {l D b : Nat} {r : Loop} {X Y : World} (h : Bk l D r X) (hl : l ≠ b) (hD : D ≠ b) (hk : Keeps (fun k => k = b) X Y) : Bk l D r Y :=
 ⟨(hk.block l (Array.getElem?_eq_some_iff.1 h.l).1 hl).trans h.l, (hk.block D (Array.getElem?_eq_some_iff.1 h.d).1 hD).trans h.d⟩
theorem Bk.put {l D : Nat} {r r' : Loop} (h : Bk l D r W) (hn : D ≠ l) : Bk l D r' (W.putObj l (.loop r')) :=
 ⟨World.putObj_heap_same (Array.getElem?_eq_some_iff.1 h.l).1, (World.putObj_heap_other hn).trans h.d⟩
theorem Bk.from {B b : Nat} {r : Loop} {W' : World} (h : Bk (B + 1) B r W) (hk : GoesOn B b W W') : Bk (B + 1) B r W' := ⟨hk.l.trans h.l, hk.d.trans h.d⟩

theorem range_feeds {g : Operand} {ps : Array Tmp} {assign body : Code} {Q : Exit → Act → World → Prop} {a : Act}
  (hro : F.round = none) (h1 : 1 ≤ n) {gf : Nat} {lb : Array Value} (hg : a.eval g = .func (.func gf) #[] lb) (hFg : F.fn gf) (eg : ∀ args w, (callFunc gf args).run P w = .ok (.enter gf args) w)
  {encs : α → Array Value} {E : World → Prop} {b : Nat} {xs : List α} (hb : b < w.heap.size) (hseq : Feeds F (n - 1) P gf lb encs E b xs w) (hps : ∀ x, (encs x).size = ps.size)
  (I : List α → World → Prop) (hIE : ∀ s X, I s X → E X) (hIp : ∀ s X k o o', I s X → (k = w.heap.size ∨ k = w.heap.size + 1) → X.heap[k]? = some o → I s (X.putObj k o')) (hIb : ∀ s X Y, I s X → Keeps (fun k => k = b) X Y → I s Y) (h0 : I [] w) (a₁ : α → Act)
  (hassign : ∀ (l : Nat) (x : α) (W : World) (K : Act → World → Prop), K (a₁ x) W →
   assign.wpIn (F.inRound l) (n - 1 - 1) P (Exit.then K (fun _ _ _ => False)) { tmps := (ps.zip (encs x)).foldl (fun t (p, v) => t.setIfInBounds p v) a.tmps, defers := [] } W)
  (hbody : ∀ (l : Nat) (pre : List α) (x : α) (W : World), I pre W → w.heap.size + 1 < W.heap.size → pre ++ [x] <+: xs → body.wpIn (F.inRound l) (n - 1 - 1) P (goesOn w.heap.size b I (pre ++ [x]) W) (a₁ x) W)
  (hdone : ∀ (D : Nat) (W : World), w.heap.size ≤ D → I xs W → W.heap[D]? = some (.deferred (some [])) → Q .normal { a with defers := { target := .collected D, args := #[] } :: a.defers } W) :
  (Code.rangeFunc g ps assign body).wpIn F n P Q a w := by
 refine wpIn_rangeFunc fun fn hfn => ?_
 rw [hro]
 have hen := run_enterLoop_outer (P := P) (w := w) fn a.tmps ps assign body
 generalize hrec : ({ state := .ready, pending := none, fn, tmps := a.tmps, params := ps, assign, body, defers := w.heap.size } : Loop) = r at hen
 have er : r.state = .ready ∧ r.pending = none ∧ r.fn = fn ∧ r.tmps = a.tmps ∧ r.params = ps ∧ r.assign = assign ∧ r.body = body := by rw [← hrec]; exact ⟨rfl, rfl, rfl, rfl, rfl, rfl, rfl⟩
 clear hrec
 obtain ⟨e1, e2, e3, e4, e5, e6, e7⟩ := er
 have hK0 : Keeps (fun k => k = b) w ((w.alloc (.deferred (some []))).alloc (.loop r)) := Keeps.al (Keeps.al (Keeps.refl _ _))
 have hk1 : Bk (w.heap.size + 1) w.heap.size r ((w.alloc (.deferred (some []))).alloc (.loop r)) := by
  refine ⟨?_, ?_⟩
  ·have := World.alloc_heap_new (w.alloc (.deferred (some []))) (.loop r)
   rwa [World.size_alloc] at this
  ·exact (Below.heap_alloc _ _ _ (by simp)).trans (World.alloc_heap_new w _)
 have hz1 : ((w.alloc (.deferred (some []))).alloc (.loop r)).heap.size = w.heap.size + 2 := by simp
 have hb1 : ((w.alloc (.deferred (some []))).alloc (.loop r)).heap[b]? = w.heap[b]? := (Below.heap_alloc _ _ _ (by simp; omega)).trans (Below.heap_alloc _ _ _ hb)
 generalize (w.alloc (.deferred (some []))).alloc (.loop r) = W1 at *
 refine ⟨w.heap.size + 1, _, W1, { target := .fn (.func gf) lb, args := #[.func (.yield (w.heap.size + 1)) #[] #[]] }, W1, gf, #[.func (.yield (w.heap.size + 1)) #[] #[]] ++ lb, W1, hen, ?_, ?_, ?_, fun _ => h1, ?_⟩
 ·simp only [resolve, hg]
  simp [go_sem]
 ·intro f' hf'
  simp [Target.leads] at hf'
  subst hf'
  exact hFg
 ·simp [invoke, go_sem, eg]
 ·refine (hseq (w.heap.size + 1) (fun pre W => I pre W ∧ Bk (w.heap.size + 1) w.heap.size r W) W1 (by omega) hb1 (fun s X h => hIE s X h.1) (fun s X Y h hk => ⟨hIb s X Y h.1 hk, h.2.on (by omega) (by omega) hk⟩) ?_ ⟨hIb [] _ _ h0 hK0, hk1⟩).mono ?_
  ·rintro pre x W ⟨hi, hk⟩ hx
   have hy := run_yield (P := P) (args := encs x) hk.l (by rw [e5]; exact hps x)
   rw [e3, e4, e5, e6, e7] at hy
   refine ⟨fn, _, assign, body, hy, roundIn_of_wpIn hfn (hassign _ x W _ ⟨_, run_beginRound hk.l e1, ?_⟩)⟩
   have hi2 : I pre (W.putObj (w.heap.size + 1) (.loop { r with state := .busy })) := hIp _ _ _ _ _ hi (Or.inr rfl) hk.l
   have hk2 : Bk (w.heap.size + 1) w.heap.size { r with state := .busy } (W.putObj (w.heap.size + 1) (.loop { r with state := .busy })) := hk.put (by omega)
   have hz2 : (W.putObj (w.heap.size + 1) (.loop { r with state := .busy })).heap.size = W.heap.size := by simp
   have hb2 : (W.putObj (w.heap.size + 1) (.loop { r with state := .busy })).heap[b]? = W.heap[b]? := World.putObj_heap_other (by omega)
   refine wpIn_mono (hbody _ pre x _ hi2 (Array.getElem?_eq_some_iff.1 hk2.l).1 hx) ?_
   rintro e a3 W3 ⟨rfl, hkf, hi3⟩
   have hk3 := hk2.from hkf
   refine ⟨_, _, run_endRound none hk3.l, rfl, ⟨?_, ?_⟩, ?_, ?_⟩
   ·exact hIp _ _ _ _ _ hi3 (Or.inr rfl) hk3.l
   ·have := hk3.put (r' := r) (by omega)
    have ee : ({ { r with state := .busy } with state := if (none : Option Code).isNone then .ready else .done, pending := none } : Loop) = r := by
     cases r
     simp only at e1 e2
     subst e1 e2
     rfl
    rw [ee]
    exact this
   ·have := hkf.size
    simp
    omega
   ·exact (World.putObj_heap_other (by omega)).trans (hkf.b.trans hb2)
  ·rintro e W2 ⟨⟨v, rfl⟩, hi, hk⟩
   refine ⟨none, _, by have := run_endLoop (P := P) hk.l (by rw [e1]; simp); rw [e2] at this; exact this, ?_⟩
   exact hdone _ _ (Nat.le_refl _) (hIp _ _ _ _ _ hi (Or.inr rfl) hk.l) (hk.put (by omega)).d
end
end Go.Proofs.YtadkgnbagmnkkakGreatDoor
