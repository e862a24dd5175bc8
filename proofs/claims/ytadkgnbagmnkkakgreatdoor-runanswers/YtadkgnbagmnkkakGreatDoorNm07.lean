/- What a session answers, line by line: plain mathematics. What a session answers: that there is an answer, and how long it is; the answers to a beginning: plain mathematics. A line of a session, word by word: plain mathematics. What api.Errno.Error answers: the error's name. What a line wants of the document's own net. -/
import Derived.Test.YtadkgnbagmnkkakGreatDoorNm06
import Derived.Test.YtadkgnbagmnkkakGreatDoorNm04
import Derived.Test.YtadkgnbagmnkkakGreatDoorSpanMath
import Derived.Lib.ItoaLen
import Derived.Test.YtadkgnbagmnkkakGreatDoorNm03
import Derived.Test.YtadkgnbagmnkkakGreatDoorNm05
namespace Go.Proofs.YtadkgnbagmnkkakGreatDoor
set_option linter.unusedVariables false

def cutA (c : UInt8) (cur : List UInt8) : List UInt8 → List (List UInt8)
  | [] => [cur]
  | x :: t => if x = c then cur :: cutA c [] t else cutA c (cur ++ [x]) t
def cutB (c : UInt8) (l : List UInt8) : List (List UInt8) := cutA c [] l
def linA (cur : List UInt8) : List UInt8 → List (List UInt8)
  | [] => if cur = [] then [] else [cur]
  | x :: t => if x = 10 then cur :: linA [] t else linA (cur ++ [x]) t
def linB (l : List UInt8) : List (List UInt8) := linA [] l
theorem cutA_ne (c : UInt8) : ∀ (t cur : List UInt8), cutA c cur t ≠ []
  | [], cur => by simp [cutA]
  | x :: t, cur => by
    unfold cutA
    split
    · simp
    · exact cutA_ne c t _
theorem linA_cut : ∀ (t cur : List UInt8), linA cur t = if (cutA 10 cur t).getLast? = some [] then (cutA 10 cur t).dropLast else cutA 10 cur t
  | [], cur => by
    by_cases h : cur = []
    · subst h; rfl
    · simp [linA, cutA, h]
  | x :: t, cur => by
    by_cases h : x = 10
    · subst h
      have ih := linA_cut t []
      have ne := cutA_ne 10 t []
      show cur :: linA [] t = if (cur :: cutA 10 [] t).getLast? = some [] then (cur :: cutA 10 [] t).dropLast else cur :: cutA 10 [] t
      rw [ih]
      cases e : cutA 10 [] t with
      | nil => exact absurd e ne
      | cons a r =>
        rw [List.getLast?_cons_cons]
        split <;> simp
    · have e1 : linA cur (x :: t) = linA (cur ++ [x]) t := by rw [linA, if_neg h]
      have e2 : cutA 10 cur (x :: t) = cutA 10 (cur ++ [x]) t := by rw [cutA, if_neg h]
      rw [e1, e2]
      exact linA_cut t _
theorem linB_cut (t : List UInt8) : linB t = if (cutB 10 t).getLast? = some [] then (cutB 10 t).dropLast else cutB 10 t := linA_cut t []
def numM (m : Nat) (l : List UInt8) : Option Nat := if l.length < 1 ∨ m < l.length ∨ (1 < l.length ∧ l.head? = some 48) then none else Lib.decFrom 0 l
abbrev numD (l : List UInt8) : Option Nat := numM 7 l
def numsD : List (List UInt8) → Option (List Nat)
  | [] => some []
  | x :: t => match numD x, numsD t with
    | some a, some v => some (a :: v)
    | _, _ => none
def wordB (w : List UInt8) : Nat := if w = [103, 111] then 1 else if w = [97, 115, 107] then 2 else if w = [100, 101, 108, 105, 118, 101, 114] then 3 else if w = [108, 111, 115, 101] then 4 else if w = [114, 101, 112, 101, 97, 116] then 5 else if w = [115, 104, 111, 119] then 6 else if w = [111, 102, 102, 115, 101, 116] then 7 else if w = [119, 105, 100, 101] then 8 else if w = [100, 97, 116, 101] then 9 else 0
def wantB (k : Nat) : Nat := if k = 2 ∨ k = 7 then 2 else if k = 8 then 0 else 1
def cmdW : List (List UInt8) → Nat × Int × Int
  | [] => (0, 0, 0)
  | h :: t => match numsD t with
    | none => (0, 0, 0)
    | some v => if wordB h ≠ 0 ∧ v.length = wantB (wordB h) then (wordB h, ((v.getD 0 0 : Nat) : Int), ((v.getD 1 0 : Nat) : Int)) else (0, 0, 0)
def cmdB (s : List UInt8) : Nat × Int × Int := cmdW (cutB 32 s)
def badB : List UInt8 := [98, 97, 100]
def nameB (e : Int) : List UInt8 := if e = 1 then [69, 114, 114, 82, 97, 110, 103, 101] else if e = 2 then [69, 114, 114, 83, 121, 110, 116, 97, 120] else if e = 3 then [69, 114, 114, 83, 104, 97, 112, 101] else if e = 4 then [69, 114, 114, 70, 117, 108, 108] else if e = 5 then [69, 114, 114, 78, 111, 110, 101] else if e = 6 then [69, 114, 114, 83, 116, 97, 116, 101] else if e = 7 then [69, 114, 114, 67, 108, 97, 115, 104] else if e = 8 then [69, 114, 114, 66, 97, 99, 107] else [79, 75]
def q00 : Nat → Int × Bool := fun _ => (0, false)
theorem q00_lps : Lps q00 0 := ⟨fun i hi => by omega, fun i hi => by omega⟩
def LineR (N : Nn) (s : List UInt8) (N' : Nn) (x : List UInt8) : Prop := ∃ k a b, cmdB s = (k, a, b) ∧
  ((k = 0 ∧ N' = N ∧ x = badB) ∨
   (1 ≤ k ∧ k ≤ 5 ∧ ∃ e, NDoR N k a b N' e ∧ x = if e = 0 then [111, 107] else nameB e) ∨
   (k = 6 ∧ N' = N ∧ ((N.W.hs a ∧ x = Lib.itoa (N.W.rd a.toNat)) ∨ (¬ N.W.hs a ∧ x = nameB 1))) ∨
   (k = 7 ∧ N' = N ∧ ∃ lo hi e, BetA N.W.n (egf (eoN N)) (eoN N).length a b lo hi e ∧ x = if e = 0 then printL lo hi else nameB e) ∨
   (k = 8 ∧ N' = N ∧ ∃ T, AllA (egf (eoN N)) (eoN N).length N.W.n 0 T ∧ x = Lib.itoa (wid N.W.n T)) ∨
   (k = 9 ∧ N' = N ∧ ∃ y m d h i s, UtcL q00 0 a y m d h i s ∧ x = (ltext y m d h i s).data.toList))
def OutR : Nn → List (List UInt8) → List UInt8 → Prop
  | _, [], r => r = []
  | N, s :: t, r => ∃ N' x r', LineR N s N' x ∧ OutR N' t r' ∧ r = x ++ 10 :: r'
def st3 (i : Nat) : Int := if i = 0 then 0 else if i = 1 then 1000 else 50
def rt3 (i : Nat) : Int := if i = 0 then 100 else if i = 1 then -100 else 0
def run0 : Nn := Nn.made 3 st3 rt3 100
theorem beE3 : BeE 3 st3 3 rt3 100 0 := by
  refine Or.inr (Or.inr (Or.inr ⟨⟨by omega, by omega, by omega, by omega⟩, rfl, fun i hi => ?_, rfl⟩))
  have : i = 0 ∨ i = 1 ∨ i = 2 := by omega
  rcases this with rfl | rfl | rfl <;> (unfold st3 rt3; simp)
theorem run0_t : run0.T := Nn.made_t beE3
def RunR (t r : List UInt8) : Prop := (3000 < t.length ∧ r = [116, 111, 111, 32, 108, 111, 110, 103, 10]) ∨ (t.length ≤ 3000 ∧ OutR run0 (linB t) r)
theorem OutR.app : ∀ {a b : List (List UInt8)} {N : Nn} {r : List UInt8}, OutR N (a ++ b) r → ∃ r1 r2, OutR N a r1 ∧ r = r1 ++ r2
  | [], b, N, r, h => ⟨[], r, rfl, rfl⟩
  | s :: a, b, N, r, h => by
    obtain ⟨N', x, r', hL, hO, rfl⟩ := h
    obtain ⟨r1, r2, h1, rfl⟩ := hO.app
    exact ⟨x ++ 10 :: r1, r2, ⟨N', x, r1, hL, h1, rfl⟩, by simp⟩
theorem numD_in {l : List UInt8} {v : Nat} (h : numD l = some v) : v ≤ 9999999 := by
 unfold numD numM at h
 split at h
 ·cases h
 ·rename_i c
  have := Lib.decFrom_lt l 0 v h
  have h7 : l.length ≤ 7 := by omega
  have : 10 ^ l.length ≤ 10 ^ 7 := Nat.pow_le_pow_right (by omega) h7
  omega
theorem numsD_in : ∀ {t : List (List UInt8)} {v : List Nat}, numsD t = some v → ∀ x, x ∈ v → x ≤ 9999999
 | [], v, h, x, hx => by
  have : [] = v := Option.some.inj h
  rw [← this] at hx
  cases hx
 | a :: t, v, h, x, hx => by
  unfold numsD at h
  cases e1 : numD a with
  | none => rw [e1] at h; cases h
  | some n =>
   cases e2 : numsD t with
   | none => rw [e1, e2] at h; cases h
   | some w =>
    rw [e1, e2] at h
    have : n :: w = v := Option.some.inj h
    rw [← this] at hx
    rcases List.mem_cons.1 hx with rfl | hx
    ·exact numD_in e1
    ·exact numsD_in e2 x hx
theorem getD_in {v : List Nat} (h : ∀ x, x ∈ v → x ≤ 9999999) (i : Nat) : v.getD i 0 ≤ 9999999 := by
 rw [List.getD_eq_getElem?_getD]
 cases e : v[i]? with
 | none => simp
 | some x => exact h x (List.mem_of_getElem? e)
theorem wordB_le (w : List UInt8) : wordB w ≤ 9 := by
 unfold wordB
 repeat (split; · omega)
 omega
theorem cmdW_none {h : List UInt8} {t : List (List UInt8)} (e : numsD t = none) : cmdW (h :: t) = (0, 0, 0) := by
 simp only [cmdW, e]
theorem cmdW_some {h : List UInt8} {t : List (List UInt8)} {v : List Nat} (e : numsD t = some v) : cmdW (h :: t) = if wordB h ≠ 0 ∧ v.length = wantB (wordB h) then (wordB h, ((v.getD 0 0 : Nat) : Int), ((v.getD 1 0 : Nat) : Int)) else (0, 0, 0) := by
 simp only [cmdW, e]
theorem cmdW_in {w : List (List UInt8)} {k : Nat} {a b : Int} (h : cmdW w = (k, a, b)) : k ≤ 9 ∧ 0 ≤ a ∧ a ≤ 9999999 ∧ 0 ≤ b ∧ b ≤ 9999999 := by
 have z : ((0 : Nat), (0 : Int), (0 : Int)) = (k, a, b) → k ≤ 9 ∧ 0 ≤ a ∧ a ≤ 9999999 ∧ 0 ≤ b ∧ b ≤ 9999999 := by
  intro e
  obtain ⟨rfl, rfl, rfl⟩ : 0 = k ∧ 0 = a ∧ 0 = b := by simpa using e
  omega
 cases w with
 | nil => exact z h
 | cons hd t =>
  cases e : numsD t with
  | none =>
   have h' : ((0 : Nat), (0 : Int), (0 : Int)) = (k, a, b) := by rw [← h, cmdW_none e]
   exact z h'
  | some v =>
   by_cases c : wordB hd ≠ 0 ∧ v.length = wantB (wordB hd)
   ·have h' : (wordB hd, ((v.getD 0 0 : Nat) : Int), ((v.getD 1 0 : Nat) : Int)) = (k, a, b) := by rw [← h, cmdW_some e, if_pos c]
    injection h' with q1 q2
    injection q2 with q2 q3
    subst q1
    subst q2
    subst q3
    have g0 := getD_in (numsD_in e) 0
    have g1 := getD_in (numsD_in e) 1
    have := wordB_le hd
    omega
   ·have h' : ((0 : Nat), (0 : Int), (0 : Int)) = (k, a, b) := by rw [← h, cmdW_some e, if_neg c]
    exact z h'
theorem nameB_len (e : Int) : (nameB e).length ≤ 10 := by
 unfold nameB
 repeat (split; · decide)
 decide
theorem badB_len : badB.length ≤ 60 := by decide
theorem wid_b {N : Nn} {T : Tb} (hA : AllA (egf (eoN N)) (eoN N).length N.W.n 0 T) (h6 : N.W.n ≤ 6) : 0 ≤ wid N.W.n T ∧ wid N.W.n T ≤ 72000000000000 := by
 have key : ∀ k, k ≤ N.W.n → 0 ≤ wsum T N.W.n k ∧ wsum T N.W.n k ≤ (k : Int) * 12000000000000 := by
  intro k
  induction k with
  | zero => intro _; rw [show wsum T N.W.n 0 = 0 from rfl]; decide
  | succ k ih =>
   intro h
   have i := ih (by omega)
   have r := wrow_b hA (show k < N.W.n by omega) N.W.n (Nat.le_refl _)
   rw [wsum_succ]
   omega
 rw [wid_is]
 have := key N.W.n (Nat.le_refl _)
 omega
theorem line_some {N : Nn} (g : N.T) (s : List UInt8) : ∃ N' x, LineR N s N' x := by
 obtain ⟨⟨k, a, b⟩, hc⟩ : ∃ z, z = cmdB s := ⟨_, rfl⟩
 obtain ⟨k9, a0, a1, b0, b1⟩ := cmdW_in (show cmdW (cutB 32 s) = (k, a, b) from hc.symm)
 have hc' := hc.symm
 by_cases k0 : k = 0
 ·exact ⟨N, _, k, a, b, hc', Or.inl ⟨k0, rfl, rfl⟩⟩
 by_cases k5 : k ≤ 5
 ·obtain ⟨N', e, h⟩ := nDoR_some g k a b
  exact ⟨N', _, k, a, b, hc', Or.inr (Or.inl ⟨by omega, k5, e, h, rfl⟩)⟩
 by_cases k6 : k = 6
 ·by_cases hs : N.W.hs a
  ·exact ⟨N, _, k, a, b, hc', Or.inr (Or.inr (Or.inl ⟨k6, rfl, Or.inl ⟨hs, rfl⟩⟩))⟩
  ·exact ⟨N, _, k, a, b, hc', Or.inr (Or.inr (Or.inl ⟨k6, rfl, Or.inr ⟨hs, rfl⟩⟩))⟩
 obtain ⟨T, hA⟩ := eoN_all g
 by_cases k7 : k = 7
 ·obtain ⟨lo, hi, e, hB⟩ := betA_some (egs_e (eoN_egs g)) hA a b
  exact ⟨N, _, k, a, b, hc', Or.inr (Or.inr (Or.inr (Or.inl ⟨k7, rfl, lo, hi, e, hB, rfl⟩)))⟩
 by_cases k8 : k = 8
 ·exact ⟨N, _, k, a, b, hc', Or.inr (Or.inr (Or.inr (Or.inr (Or.inl ⟨k8, rfl, T, hA, rfl⟩))))⟩
 obtain ⟨y, m, d, h, i, sc, hU⟩ := utc_some q00_lps (x := a) ⟨a0, by show a < 86400 * 84006 + mor q00 0 84006; have : mor q00 0 84006 = 0 := rfl; omega⟩
 exact ⟨N, _, k, a, b, hc', Or.inr (Or.inr (Or.inr (Or.inr (Or.inr ⟨by omega, rfl, y, m, d, h, i, sc, hU, rfl⟩))))⟩
theorem LineR.t {N N' : Nn} {s x : List UInt8} (h : LineR N s N' x) (g : N.T) : N'.T ∧ N'.W.n = N.W.n := by
 obtain ⟨k, a, b, _, h⟩ := h
 rcases h with ⟨_, rfl, _⟩ | ⟨_, _, e, h, _⟩ | ⟨_, rfl, _⟩ | ⟨_, rfl, _⟩ | ⟨_, rfl, _⟩ | ⟨_, rfl, _⟩
 ·exact ⟨g, rfl⟩
 ·exact ⟨(h.t g).1, (h.t g).2.1⟩
 all_goals exact ⟨g, rfl⟩
theorem itoa60 {n : Int} (h0 : -1000000000000000 ≤ n) (h1 : n ≤ 1000000000000000) : (Lib.itoa n).length ≤ 21 := Lib.itoa_length_le n (by omega) (by omega)
theorem LineR.len {N N' : Nn} {s x : List UInt8} (h : LineR N s N' x) (g : N.T) : x.length ≤ 60 := by
 have h6 := g.g.i.n6
 obtain ⟨k, a, b, _, h⟩ := h
 rcases h with ⟨_, _, rfl⟩ | ⟨_, _, e, _, rfl⟩ | ⟨_, _, ⟨hs, rfl⟩ | ⟨_, rfl⟩⟩ | ⟨_, _, lo, hi, e, hB, rfl⟩ | ⟨_, _, T, hA, rfl⟩ | ⟨_, _, y, m, d, h, i, sc, hU, rfl⟩
 ·exact badB_len
 ·split
  ·decide
  ·have := nameB_len e; omega
 ·unfold Ws.hs at hs
  have := rd_t g (i := a.toNat) (by omega)
  have := itoa60 (n := N.W.rd a.toNat) (by omega) (by omega)
  omega
 ·have := nameB_len 1; omega
 ·split
  ·rename_i e0
   have ha : 0 ≤ a ∧ a < N.W.n ∧ 0 ≤ b ∧ b < N.W.n := by
    rcases hB with ⟨h, _, _, rfl⟩ | ⟨_, _, _, _, rfl⟩ | ⟨_, h, _⟩
    ·exact absurd e0 h
    ·cases e0
    ·exact h
   rcases eoN_bet g ha hB with ⟨rfl, _⟩ | ⟨_, h1, h2, h3, h4, _⟩
   ·cases e0
   ·have ra := rd_t g (i := a.toNat) (by omega)
    have rb := rd_t g (i := b.toNat) (by omega)
    have := itoa60 (n := lo) (by omega) (by omega)
    have := itoa60 (n := hi) (by omega) (by omega)
    unfold printL
    simp only [List.length_append, List.length_cons, List.length_nil]
    omega
  ·have := nameB_len e; omega
 ·have := wid_b hA h6
  have := itoa60 (n := wid N.W.n T) (by omega) (by omega)
  omega
 ·show (ltext y m d h i sc).data.toList.length ≤ 60
  have := ltext_size y m d h i sc
  have e : (ltext y m d h i sc).data.toList.length = (ltext y m d h i sc).size := rfl
  omega
theorem out_some : ∀ (l : List (List UInt8)) {N : Nn}, N.T → ∃ r, OutR N l r
 | [], N, g => ⟨[], rfl⟩
 | s :: t, N, g => by
  obtain ⟨N', x, hL⟩ := line_some g s
  obtain ⟨r, hO⟩ := out_some t (hL.t g).1
  exact ⟨_, N', x, r, hL, hO, rfl⟩
theorem OutR.len : ∀ {l : List (List UInt8)} {N : Nn} {r : List UInt8}, OutR N l r → N.T → r.length ≤ 61 * l.length
 | [], N, r, h, g => by
  have : r = [] := h
  rw [this]; simp
 | s :: t, N, r, h, g => by
  obtain ⟨N', x, r', hL, hO, rfl⟩ := h
  have := hO.len (hL.t g).1
  have := hL.len g
  simp only [List.length_append, List.length_cons]
  omega
theorem OutR.snoc : ∀ {l : List (List UInt8)} {N : Nn} {s r : List UInt8}, OutR N (l ++ [s]) r → ∃ N1 r1 N2 x, OutR N l r1 ∧ r = r1 ++ (x ++ [10]) ∧ LineR N1 s N2 x
 | [], N, s, r, h => by
  obtain ⟨N', x, r', hL, hO, rfl⟩ := h
  have : r' = [] := hO
  subst this
  exact ⟨N, [], N', x, rfl, rfl, hL⟩
 | a :: l, N, s, r, h => by
  obtain ⟨N', x, r', hL, hO, rfl⟩ := h
  obtain ⟨N1, r1, N2, y, h1, rfl, h2⟩ := hO.snoc
  exact ⟨N1, x ++ 10 :: r1, N2, y, ⟨N', x, r1, hL, h1, rfl⟩, by simp, h2⟩
theorem linA_len : ∀ (t cur : List UInt8), (linA cur t).length ≤ t.length + 1
 | [], cur => by
  unfold linA
  split <;> simp
 | x :: t, cur => by
  unfold linA
  split
  ·have := linA_len t []
   simp only [List.length_cons]; omega
  ·have := linA_len t (cur ++ [x])
   simp only [List.length_cons]; omega
theorem cutA_len (c : UInt8) : ∀ (t cur : List UInt8), (cutA c cur t).length ≤ t.length + 1
 | [], cur => by simp [cutA]
 | x :: t, cur => by
  unfold cutA
  split
  ·have := cutA_len c t []
   simp only [List.length_cons]; omega
  ·have := cutA_len c t (cur ++ [x])
   simp only [List.length_cons]; omega
theorem run_some (t : List UInt8) : ∃ r, RunR t r := by
 by_cases h : 3000 < t.length
 ·exact ⟨_, Or.inl ⟨h, rfl⟩⟩
 ·obtain ⟨r, hO⟩ := out_some (linB t) run0_t
  exact ⟨r, Or.inr ⟨by omega, hO⟩⟩
theorem RunR.len {t r : List UInt8} (h : RunR t r) : r.length ≤ 183061 := by
 rcases h with ⟨_, rfl⟩ | ⟨h, hO⟩
 ·decide
 ·have := hO.len run0_t
  have : (linB t).length ≤ t.length + 1 := linA_len t []
  omega
theorem numsD_snoc : ∀ {t : List (List UInt8)} {V : List Nat} {x : List UInt8} {n : Nat}, numsD t = some V → numD x = some n → numsD (t ++ [x]) = some (V ++ [n])
  | [], V, x, n, h, hx => by
    have : [] = V := Option.some.inj h
    rw [← this]
    simp only [List.nil_append, numsD, hx]
  | a :: t, V, x, n, h, hx => by
    cases e1 : numD a with
    | none => simp only [numsD, e1] at h; cases h
    | some m =>
      cases e2 : numsD t with
      | none => simp only [numsD, e1, e2] at h; cases h
      | some W =>
        simp only [numsD, e1, e2] at h
        have : m :: W = V := Option.some.inj h
        rw [← this]
        have ih := numsD_snoc e2 hx
        simp only [List.cons_append, numsD, e1, ih]
theorem numsD_no : ∀ {t : List (List UInt8)} {x : List UInt8}, x ∈ t → numD x = none → numsD t = none
  | a :: t, x, h, hx => by
    rcases List.mem_cons.1 h with rfl | h
    · simp only [numsD, hx]
    · have ih := numsD_no h hx
      cases e1 : numD a with
      | none => simp only [numsD, e1]
      | some m => simp only [numsD, e1, ih]
theorem numsD_len : ∀ {t : List (List UInt8)} {V : List Nat}, numsD t = some V → V.length = t.length
  | [], V, h => by
    have : [] = V := Option.some.inj h
    rw [← this]
    rfl
  | a :: t, V, h => by
    cases e1 : numD a with
    | none => simp only [numsD, e1] at h; cases h
    | some m =>
      cases e2 : numsD t with
      | none => simp only [numsD, e1, e2] at h; cases h
      | some W =>
        simp only [numsD, e1, e2] at h
        have : m :: W = V := Option.some.inj h
        rw [← this, List.length_cons, List.length_cons, numsD_len e2]
theorem cutA_piece (c : UInt8) : ∀ (t cur p : List UInt8), p ∈ cutA c cur t → p.length ≤ cur.length + t.length
  | [], cur, p, h => by
    unfold cutA at h
    rw [List.mem_singleton.1 h]
    simp
  | x :: t, cur, p, h => by
    unfold cutA at h
    split at h
    · rcases List.mem_cons.1 h with rfl | h
      · omega
      · have := cutA_piece c t [] p h
        simp only [List.length_nil, List.length_cons] at *
        omega
    · have := cutA_piece c t _ p h
      simp only [List.length_append, List.length_cons, List.length_nil] at *
      omega
theorem LineR.bad {N N' : Nn} {s x : List UInt8} (h : LineR N s N' x) (hc : cmdB s = (0, 0, 0)) : N' = N ∧ x = badB := by
  obtain ⟨k, a, b, hk, h⟩ := h
  rw [hc] at hk
  injection hk with q1 _
  subst q1
  rcases h with ⟨_, rfl, rfl⟩ | ⟨h, _⟩ | ⟨h, _⟩ | ⟨h, _⟩ | ⟨h, _⟩ | ⟨h, _⟩
  · exact ⟨rfl, rfl⟩
  all_goals omega
theorem cmdB_is {s h : List UInt8} {t : List (List UInt8)} {V : List Nat} (e : cutB 32 s = h :: t) (hv : numsD t = some V) : cmdB s = if wordB h ≠ 0 ∧ V.length = wantB (wordB h) then (wordB h, ((V.getD 0 0 : Nat) : Int), ((V.getD 1 0 : Nat) : Int)) else (0, 0, 0) := by
  unfold cmdB
  rw [e, cmdW_some hv]
theorem cmdB_no {s h : List UInt8} {t : List (List UInt8)} (e : cutB 32 s = h :: t) (hv : numsD t = none) : cmdB s = (0, 0, 0) := by
  unfold cmdB
  rw [e, cmdW_none hv]
def wlB (k : Nat) : List UInt8 := if k = 1 then [103, 111] else if k = 2 then [97, 115, 107] else if k = 3 then [100, 101, 108, 105, 118, 101, 114] else if k = 4 then [108, 111, 115, 101] else if k = 5 then [114, 101, 112, 101, 97, 116] else if k = 6 then [115, 104, 111, 119] else if k = 7 then [111, 102, 102, 115, 101, 116] else if k = 8 then [119, 105, 100, 101] else [100, 97, 116, 101]
theorem wordB_is (w : List UInt8) (j : Nat) (h1 : 1 ≤ j) (h9 : j ≤ 9) : (w == wlB j) = decide (wordB w = j) := by
  have c : j = 1 ∨ j = 2 ∨ j = 3 ∨ j = 4 ∨ j = 5 ∨ j = 6 ∨ j = 7 ∨ j = 8 ∨ j = 9 := by omega
  have key : ∀ i, 1 ≤ i → i ≤ 9 → wordB (wlB i) = i := by
    intro i g1 g2
    have d : i = 1 ∨ i = 2 ∨ i = 3 ∨ i = 4 ∨ i = 5 ∨ i = 6 ∨ i = 7 ∨ i = 8 ∨ i = 9 := by omega
    rcases d with rfl | rfl | rfl | rfl | rfl | rfl | rfl | rfl | rfl <;> decide
  have back : ∀ i, 1 ≤ i → i ≤ 9 → wordB w = i → w = wlB i := by
    intro i g1 g2 e
    unfold wordB at e
    repeat (split at e; · rename_i q; rw [q, ← e]; rfl)
    omega
  by_cases e : wordB w = j
  · rw [decide_eq_true e, back j h1 h9 e]
    simp
  · rw [decide_eq_false e, beq_eq_false_iff_ne]
    intro q
    exact e (by rw [q]; exact key j h1 h9)
theorem nDoR_e {N N' : Nn} {wh a b e : Int} (h : NDoR N wh a b N' e) : 0 ≤ e ∧ e ≤ 8 := by
  obtain ⟨S', r, e1, hD, q⟩ := h
  have d1 : 0 ≤ e1 ∧ e1 ≤ 8 := by
    rcases hD with ⟨_, _, _, _, rfl⟩ | ⟨_, _, _, _, rfl⟩ | ⟨_, _, _, _, rfl⟩ | ⟨_, _, _, _, _, rfl⟩ | ⟨_, _, _, _, _, _, rfl⟩ | ⟨_, _, _, _, _, _, rfl⟩ | ⟨_, _, _, _, rfl⟩ | ⟨_, _, _, _, rfl⟩ | ⟨_, _, _, _, rfl⟩ | ⟨_, _, _, _, rfl⟩ | ⟨_, _, _, rfl⟩ <;> decide
  rcases q with ⟨_, _, rfl⟩ | ⟨l, c', _, _, _, _, ⟨_, _, rfl⟩ | ⟨_, S'', hA, _⟩⟩
  · exact d1
  · decide
  · rcases hA with ⟨_, _, rfl⟩ | ⟨_, _, _, rfl⟩ | ⟨_, _, _, _, rfl⟩ | ⟨_, _, _, _, rfl⟩ <;> decide
theorem LineR.is {N N' : Nn} {s x : List UInt8} {k : Nat} {a b : Int} (h : LineR N s N' x) (hc : cmdB s = (k, a, b)) :
    (k = 0 ∧ N' = N ∧ x = badB) ∨
   (1 ≤ k ∧ k ≤ 5 ∧ ∃ e, NDoR N k a b N' e ∧ x = if e = 0 then [111, 107] else nameB e) ∨
   (k = 6 ∧ N' = N ∧ ((N.W.hs a ∧ x = Lib.itoa (N.W.rd a.toNat)) ∨ (¬ N.W.hs a ∧ x = nameB 1))) ∨
   (k = 7 ∧ N' = N ∧ ∃ lo hi e, BetA N.W.n (egf (eoN N)) (eoN N).length a b lo hi e ∧ x = if e = 0 then printL lo hi else nameB e) ∨
   (k = 8 ∧ N' = N ∧ ∃ T, AllA (egf (eoN N)) (eoN N).length N.W.n 0 T ∧ x = Lib.itoa (wid N.W.n T)) ∨
   (k = 9 ∧ N' = N ∧ ∃ y m d h i s, UtcL q00 0 a y m d h i s ∧ x = (ltext y m d h i s).data.toList) := by
  obtain ⟨k', a', b', hk, h⟩ := h
  rw [hc] at hk
  injection hk with q1 q2
  injection q2 with q2 q3
  subst q1
  subst q2
  subst q3
  exact h
theorem bet_e {N : Nn} (g : N.T) {a b lo hi e : Int} (h : BetA N.W.n (egf (eoN N)) (eoN N).length a b lo hi e) : (e = 0 ∧ okB lo hi = true) ∨ e = 1 ∨ e = 5 := by
  have h' := h
  rcases h with ⟨h, _⟩ | ⟨_, _, _, _, rfl⟩ | ⟨_, ha, _⟩
  · exact absurd (egs_e (eoN_egs g)) h
  · exact Or.inr (Or.inl rfl)
  · rcases eoN_bet g ha h' with ⟨rfl, _⟩ | ⟨rfl, h1, h2, h3, h4, _⟩
    · exact Or.inr (Or.inr rfl)
    · exact Or.inl ⟨rfl, okB_mk ⟨by omega, by omega, by omega⟩⟩
end Go.Proofs.YtadkgnbagmnkkakGreatDoor
namespace Go.Proofs.YtadkgnbagmnkkakGreatDoor.rn
open Go.ChangeShapes Go.WideShapes Go.ChangeAt Go.RowKit
set_option linter.unusedVariables false

set_option maxRecDepth 100000 in
set_option maxHeartbeats 4000000 in
theorem errName (k : Int) (h1 : 1 ≤ k) (h8 : k ≤ 8) (w : World) : Calls Tryz.prog 37 #[.int .i64 k] w fun o w' => o = .returned (.string ⟨(nameB k).toArray⟩) ∧ w' = w := by
 rcases (show k = 1 ∨ k = 2 ∨ k = 3 ∨ k = 4 ∨ k = 5 ∨ k = 6 ∨ k = 7 ∨ k = 8 by omega) with rfl | rfl | rfl | rfl | rfl | rfl | rfl | rfl
 all_goals
  clear h1 h8
  go_enter Tryz.func37, Tryz.ntmps37
  go_wp2
  go_ret
  exact ⟨rfl, rfl⟩
structure Rl (mb : Nat) where
 R : World → (Nat → Prop) → Nn → Prop
 on : ∀ {u v : World} {F : Nat → Prop} {N : Nn}, R u F N → Below u.heap.size u v → R v F N
 lt : ∀ {u : World} {F : Nat → Prop} {N : Nn}, R u F N → ∀ k, F k → k < u.heap.size
 len : ∀ {u : World} {F : Nat → Prop} {N : Nn}, R u F N → ∃ ad lc, u.cell? ⟨mb, 4, none⟩ = some (.slice ad N.W.n lc)
 act : ∀ (F : Nat → Prop) (N N' : Nn) (wh x y e : Int) (u : World), R u F N → N.T → NDoR N wh x y N' e → Calls Tryz.prog 21 #[.pointer (some ⟨mb, 0, none⟩), .agg #[.int .i64 wh, .int .i64 x, .int .i64 y]] u fun o w' => ∃ F', o = .returned (.int .i64 e) ∧ R w' F' N' ∧ Keeps F u w' ∧ ∀ k, F' k → F k ∨ u.heap.size ≤ k
 read : ∀ (F : Nat → Prop) (N : Nn) (i : Nat) (u : World), R u F N → N.T → i < N.W.n → Calls Tryz.prog 23 #[.pointer (some ⟨mb, 0, none⟩), .int .i64 i] u fun o w' => o = .returned (.int .i64 (N.W.rd i)) ∧ Below u.heap.size u w'
 off : ∀ (F : Nat → Prop) (N : Nn) (x y lo hi e : Int) (u : World), R u F N → N.T → BetA N.W.n (egf (eoN N)) (eoN N).length x y lo hi e → Calls Tryz.prog 24 #[.pointer (some ⟨mb, 0, none⟩), .int .i64 x, .int .i64 y] u fun o w' => o = .returned (.tuple #[.agg #[.int .i64 lo, .int .i64 hi], .int .i64 e]) ∧ Below u.heap.size u w'
 wide : ∀ (F : Nat → Prop) (N : Nn) (T : Tb) (u : World), R u F N → N.T → AllA (egf (eoN N)) (eoN N).length N.W.n 0 T → Calls Tryz.prog 26 #[.pointer (some ⟨mb, 0, none⟩)] u fun o w' => o = .returned (.tuple #[.int .i64 (wid N.W.n T), .int .i64 0]) ∧ Below u.heap.size u w'
end Go.Proofs.YtadkgnbagmnkkakGreatDoor.rn
