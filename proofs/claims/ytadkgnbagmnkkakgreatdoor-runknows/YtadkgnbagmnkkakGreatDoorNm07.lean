/- What a session answers, line by line: plain mathematics. What a session answers: that there is an answer, and how long it is; the answers to a beginning: plain mathematics. A line of a session, word by word: plain mathematics. Numerals of at most seven digits, as the library's strconv reads and writes them: plain mathematics. What api.Errno.Error answers: the error's name. What the law RunKnows asks of a session: plain mathematics. -/
import Derived.Test.YtadkgnbagmnkkakGreatDoorNm06
import Derived.Test.YtadkgnbagmnkkakGreatDoorNm04
import Derived.Test.YtadkgnbagmnkkakGreatDoorSpanMath
import Derived.Lib.ItoaLen
import Derived.Lib.AtoiTie
import Derived.Lib.AtoiAllCases
import Derived.Lib.ItoaMem
import Derived.Test.YtadkgnbagmnkkakGreatDoorNm03
namespace Go.Proofs.YtadkgnbagmnkkakGreatDoor
set_option linter.unusedVariables false

def cutA (c : UInt8) (cur : List UInt8) : List UInt8 → List (List UInt8)
  | [] => [cur]
  | x :: t => if x = c then cur :: cutA c [] t else cutA c (cur ++ [x]) t
def cutB (c : UInt8) (l : List UInt8) : List (List UInt8) := cutA c [] l
def linA (cur : List UInt8) : List UInt8 → List (List UInt8)
  | [] => if cur = [] then [] else [cur]
  | x :: t => if x = 10 then cur :: linA [] t else linA (cur ++ [x]) t
def linB (l : List UInt8) : List (List UInt8) := linA [] l
theorem cutA_ne (c : UInt8) : ∀ (t cur : List UInt8), cutA c cur t ≠ []
  | [], cur => by simp [cutA]
  | x :: t, cur => by
    unfold cutA
    split
    · simp
    · exact cutA_ne c t _
def numM (m : Nat) (l : List UInt8) : Option Nat := if l.length < 1 ∨ m < l.length ∨ (1 < l.length ∧ l.head? = some 48) then none else Lib.decFrom 0 l
abbrev numD (l : List UInt8) : Option Nat := numM 7 l
def numsD : List (List UInt8) → Option (List Nat)
  | [] => some []
  | x :: t => match numD x, numsD t with
    | some a, some v => some (a :: v)
    | _, _ => none
def wordB (w : List UInt8) : Nat := if w = [103, 111] then 1 else if w = [97, 115, 107] then 2 else if w = [100, 101, 108, 105, 118, 101, 114] then 3 else if w = [108, 111, 115, 101] then 4 else if w = [114, 101, 112, 101, 97, 116] then 5 else if w = [115, 104, 111, 119] then 6 else if w = [111, 102, 102, 115, 101, 116] then 7 else if w = [119, 105, 100, 101] then 8 else if w = [100, 97, 116, 101] then 9 else 0
def wantB (k : Nat) : Nat := if k = 2 ∨ k = 7 then 2 else if k = 8 then 0 else 1
def cmdW : List (List UInt8) → Nat × Int × Int
  | [] => (0, 0, 0)
  | h :: t => match numsD t with
    | none => (0, 0, 0)
    | some v => if wordB h ≠ 0 ∧ v.length = wantB (wordB h) then (wordB h, ((v.getD 0 0 : Nat) : Int), ((v.getD 1 0 : Nat) : Int)) else (0, 0, 0)
def cmdB (s : List UInt8) : Nat × Int × Int := cmdW (cutB 32 s)
def badB : List UInt8 := [98, 97, 100]
def nameB (e : Int) : List UInt8 := if e = 1 then [69, 114, 114, 82, 97, 110, 103, 101] else if e = 2 then [69, 114, 114, 83, 121, 110, 116, 97, 120] else if e = 3 then [69, 114, 114, 83, 104, 97, 112, 101] else if e = 4 then [69, 114, 114, 70, 117, 108, 108] else if e = 5 then [69, 114, 114, 78, 111, 110, 101] else if e = 6 then [69, 114, 114, 83, 116, 97, 116, 101] else if e = 7 then [69, 114, 114, 67, 108, 97, 115, 104] else if e = 8 then [69, 114, 114, 66, 97, 99, 107] else [79, 75]
def q00 : Nat → Int × Bool := fun _ => (0, false)
theorem q00_lps : Lps q00 0 := ⟨fun i hi => by omega, fun i hi => by omega⟩
def LineR (N : Nn) (s : List UInt8) (N' : Nn) (x : List UInt8) : Prop := ∃ k a b, cmdB s = (k, a, b) ∧
  ((k = 0 ∧ N' = N ∧ x = badB) ∨
   (1 ≤ k ∧ k ≤ 5 ∧ ∃ e, NDoR N k a b N' e ∧ x = if e = 0 then [111, 107] else nameB e) ∨
   (k = 6 ∧ N' = N ∧ ((N.W.hs a ∧ x = Lib.itoa (N.W.rd a.toNat)) ∨ (¬ N.W.hs a ∧ x = nameB 1))) ∨
   (k = 7 ∧ N' = N ∧ ∃ lo hi e, BetA N.W.n (egf (eoN N)) (eoN N).length a b lo hi e ∧ x = if e = 0 then printL lo hi else nameB e) ∨
   (k = 8 ∧ N' = N ∧ ∃ T, AllA (egf (eoN N)) (eoN N).length N.W.n 0 T ∧ x = Lib.itoa (wid N.W.n T)) ∨
   (k = 9 ∧ N' = N ∧ ∃ y m d h i s, UtcL q00 0 a y m d h i s ∧ x = (ltext y m d h i s).data.toList))
def OutR : Nn → List (List UInt8) → List UInt8 → Prop
  | _, [], r => r = []
  | N, s :: t, r => ∃ N' x r', LineR N s N' x ∧ OutR N' t r' ∧ r = x ++ 10 :: r'
def st3 (i : Nat) : Int := if i = 0 then 0 else if i = 1 then 1000 else 50
def rt3 (i : Nat) : Int := if i = 0 then 100 else if i = 1 then -100 else 0
def run0 : Nn := Nn.made 3 st3 rt3 100
theorem beE3 : BeE 3 st3 3 rt3 100 0 := by
  refine Or.inr (Or.inr (Or.inr ⟨⟨by omega, by omega, by omega, by omega⟩, rfl, fun i hi => ?_, rfl⟩))
  have : i = 0 ∨ i = 1 ∨ i = 2 := by omega
  rcases this with rfl | rfl | rfl <;> (unfold st3 rt3; simp)
theorem run0_t : run0.T := Nn.made_t beE3
def RunR (t r : List UInt8) : Prop := (3000 < t.length ∧ r = [116, 111, 111, 32, 108, 111, 110, 103, 10]) ∨ (t.length ≤ 3000 ∧ OutR run0 (linB t) r)
theorem OutR.app : ∀ {a b : List (List UInt8)} {N : Nn} {r : List UInt8}, OutR N (a ++ b) r → ∃ r1 r2, OutR N a r1 ∧ r = r1 ++ r2
  | [], b, N, r, h => ⟨[], r, rfl, rfl⟩
  | s :: a, b, N, r, h => by
    obtain ⟨N', x, r', hL, hO, rfl⟩ := h
    obtain ⟨r1, r2, h1, rfl⟩ := hO.app
    exact ⟨x ++ 10 :: r1, r2, ⟨N', x, r1, hL, h1, rfl⟩, by simp⟩
theorem numD_in {l : List UInt8} {v : Nat} (h : numD l = some v) : v ≤ 9999999 := by
 unfold numD numM at h
 split at h
 ·cases h
 ·rename_i c
  have := Lib.decFrom_lt l 0 v h
  have h7 : l.length ≤ 7 := by omega
  have : 10 ^ l.length ≤ 10 ^ 7 := Nat.pow_le_pow_right (by omega) h7
  omega
theorem numsD_in : ∀ {t : List (List UInt8)} {v : List Nat}, numsD t = some v → ∀ x, x ∈ v → x ≤ 9999999
 | [], v, h, x, hx => by
  have : [] = v := Option.some.inj h
  rw [← this] at hx
  cases hx
 | a :: t, v, h, x, hx => by
  unfold numsD at h
  cases e1 : numD a with
  | none => rw [e1] at h; cases h
  | some n =>
   cases e2 : numsD t with
   | none => rw [e1, e2] at h; cases h
   | some w =>
    rw [e1, e2] at h
    have : n :: w = v := Option.some.inj h
    rw [← this] at hx
    rcases List.mem_cons.1 hx with rfl | hx
    ·exact numD_in e1
    ·exact numsD_in e2 x hx
theorem getD_in {v : List Nat} (h : ∀ x, x ∈ v → x ≤ 9999999) (i : Nat) : v.getD i 0 ≤ 9999999 := by
 rw [List.getD_eq_getElem?_getD]
 cases e : v[i]? with
 | none => simp
 | some x => exact h x (List.mem_of_getElem? e)
theorem wordB_le (w : List UInt8) : wordB w ≤ 9 := by
 unfold wordB
 repeat (split; · omega)
 omega
theorem cmdW_none {h : List UInt8} {t : List (List UInt8)} (e : numsD t = none) : cmdW (h :: t) = (0, 0, 0) := by
 simp only [cmdW, e]
theorem cmdW_some {h : List UInt8} {t : List (List UInt8)} {v : List Nat} (e : numsD t = some v) : cmdW (h :: t) = if wordB h ≠ 0 ∧ v.length = wantB (wordB h) then (wordB h, ((v.getD 0 0 : Nat) : Int), ((v.getD 1 0 : Nat) : Int)) else (0, 0, 0) := by
 simp only [cmdW, e]
theorem cmdW_in {w : List (List UInt8)} {k : Nat} {a b : Int} (h : cmdW w = (k, a, b)) : k ≤ 9 ∧ 0 ≤ a ∧ a ≤ 9999999 ∧ 0 ≤ b ∧ b ≤ 9999999 := by
 have z : ((0 : Nat), (0 : Int), (0 : Int)) = (k, a, b) → k ≤ 9 ∧ 0 ≤ a ∧ a ≤ 9999999 ∧ 0 ≤ b ∧ b ≤ 9999999 := by
  intro e
  obtain ⟨rfl, rfl, rfl⟩ : 0 = k ∧ 0 = a ∧ 0 = b := by simpa using e
  omega
 cases w with
 | nil => exact z h
 | cons hd t =>
  cases e : numsD t with
  | none =>
   have h' : ((0 : Nat), (0 : Int), (0 : Int)) = (k, a, b) := by rw [← h, cmdW_none e]
   exact z h'
  | some v =>
   by_cases c : wordB hd ≠ 0 ∧ v.length = wantB (wordB hd)
   ·have h' : (wordB hd, ((v.getD 0 0 : Nat) : Int), ((v.getD 1 0 : Nat) : Int)) = (k, a, b) := by rw [← h, cmdW_some e, if_pos c]
    injection h' with q1 q2
    injection q2 with q2 q3
    subst q1
    subst q2
    subst q3
    have g0 := getD_in (numsD_in e) 0
    have g1 := getD_in (numsD_in e) 1
    have := wordB_le hd
    omega
   ·have h' : ((0 : Nat), (0 : Int), (0 : Int)) = (k, a, b) := by rw [← h, cmdW_some e, if_neg c]
    exact z h'
theorem nameB_len (e : Int) : (nameB e).length ≤ 10 := by
 unfold nameB
 repeat (split; · decide)
 decide
theorem badB_len : badB.length ≤ 60 := by decide
theorem wid_b {N : Nn} {T : Tb} (hA : AllA (egf (eoN N)) (eoN N).length N.W.n 0 T) (h6 : N.W.n ≤ 6) : 0 ≤ wid N.W.n T ∧ wid N.W.n T ≤ 72000000000000 := by
 have key : ∀ k, k ≤ N.W.n → 0 ≤ wsum T N.W.n k ∧ wsum T N.W.n k ≤ (k : Int) * 12000000000000 := by
  intro k
  induction k with
  | zero => intro _; rw [show wsum T N.W.n 0 = 0 from rfl]; decide
  | succ k ih =>
   intro h
   have i := ih (by omega)
   have r := wrow_b hA (show k < N.W.n by omega) N.W.n (Nat.le_refl _)
   rw [wsum_succ]
   omega
 rw [wid_is]
 have := key N.W.n (Nat.le_refl _)
 omega
theorem LineR.t {N N' : Nn} {s x : List UInt8} (h : LineR N s N' x) (g : N.T) : N'.T ∧ N'.W.n = N.W.n := by
 obtain ⟨k, a, b, _, h⟩ := h
 rcases h with ⟨_, rfl, _⟩ | ⟨_, _, e, h, _⟩ | ⟨_, rfl, _⟩ | ⟨_, rfl, _⟩ | ⟨_, rfl, _⟩ | ⟨_, rfl, _⟩
 ·exact ⟨g, rfl⟩
 ·exact ⟨(h.t g).1, (h.t g).2.1⟩
 all_goals exact ⟨g, rfl⟩
theorem itoa60 {n : Int} (h0 : -1000000000000000 ≤ n) (h1 : n ≤ 1000000000000000) : (Lib.itoa n).length ≤ 21 := Lib.itoa_length_le n (by omega) (by omega)
theorem LineR.len {N N' : Nn} {s x : List UInt8} (h : LineR N s N' x) (g : N.T) : x.length ≤ 60 := by
 have h6 := g.g.i.n6
 obtain ⟨k, a, b, _, h⟩ := h
 rcases h with ⟨_, _, rfl⟩ | ⟨_, _, e, _, rfl⟩ | ⟨_, _, ⟨hs, rfl⟩ | ⟨_, rfl⟩⟩ | ⟨_, _, lo, hi, e, hB, rfl⟩ | ⟨_, _, T, hA, rfl⟩ | ⟨_, _, y, m, d, h, i, sc, hU, rfl⟩
 ·exact badB_len
 ·split
  ·decide
  ·have := nameB_len e; omega
 ·unfold Ws.hs at hs
  have := rd_t g (i := a.toNat) (by omega)
  have := itoa60 (n := N.W.rd a.toNat) (by omega) (by omega)
  omega
 ·have := nameB_len 1; omega
 ·split
  ·rename_i e0
   have ha : 0 ≤ a ∧ a < N.W.n ∧ 0 ≤ b ∧ b < N.W.n := by
    rcases hB with ⟨h, _, _, rfl⟩ | ⟨_, _, _, _, rfl⟩ | ⟨_, h, _⟩
    ·exact absurd e0 h
    ·cases e0
    ·exact h
   rcases eoN_bet g ha hB with ⟨rfl, _⟩ | ⟨_, h1, h2, h3, h4, _⟩
   ·cases e0
   ·have ra := rd_t g (i := a.toNat) (by omega)
    have rb := rd_t g (i := b.toNat) (by omega)
    have := itoa60 (n := lo) (by omega) (by omega)
    have := itoa60 (n := hi) (by omega) (by omega)
    unfold printL
    simp only [List.length_append, List.length_cons, List.length_nil]
    omega
  ·have := nameB_len e; omega
 ·have := wid_b hA h6
  have := itoa60 (n := wid N.W.n T) (by omega) (by omega)
  omega
 ·show (ltext y m d h i sc).data.toList.length ≤ 60
  have := ltext_size y m d h i sc
  have e : (ltext y m d h i sc).data.toList.length = (ltext y m d h i sc).size := rfl
  omega
theorem OutR.len : ∀ {l : List (List UInt8)} {N : Nn} {r : List UInt8}, OutR N l r → N.T → r.length ≤ 61 * l.length
 | [], N, r, h, g => by
  have : r = [] := h
  rw [this]; simp
 | s :: t, N, r, h, g => by
  obtain ⟨N', x, r', hL, hO, rfl⟩ := h
  have := hO.len (hL.t g).1
  have := hL.len g
  simp only [List.length_append, List.length_cons]
  omega
theorem OutR.snoc : ∀ {l : List (List UInt8)} {N : Nn} {s r : List UInt8}, OutR N (l ++ [s]) r → ∃ N1 r1 N2 x, OutR N l r1 ∧ r = r1 ++ (x ++ [10]) ∧ LineR N1 s N2 x
 | [], N, s, r, h => by
  obtain ⟨N', x, r', hL, hO, rfl⟩ := h
  have : r' = [] := hO
  subst this
  exact ⟨N, [], N', x, rfl, rfl, hL⟩
 | a :: l, N, s, r, h => by
  obtain ⟨N', x, r', hL, hO, rfl⟩ := h
  obtain ⟨N1, r1, N2, y, h1, rfl, h2⟩ := hO.snoc
  exact ⟨N1, x ++ 10 :: r1, N2, y, ⟨N', x, r1, hL, h1, rfl⟩, by simp, h2⟩
theorem linA_len : ∀ (t cur : List UInt8), (linA cur t).length ≤ t.length + 1
 | [], cur => by
  unfold linA
  split <;> simp
 | x :: t, cur => by
  unfold linA
  split
  ·have := linA_len t []
   simp only [List.length_cons]; omega
  ·have := linA_len t (cur ++ [x])
   simp only [List.length_cons]; omega
theorem cutA_len (c : UInt8) : ∀ (t cur : List UInt8), (cutA c cur t).length ≤ t.length + 1
 | [], cur => by simp [cutA]
 | x :: t, cur => by
  unfold cutA
  split
  ·have := cutA_len c t []
   simp only [List.length_cons]; omega
  ·have := cutA_len c t (cur ++ [x])
   simp only [List.length_cons]; omega
theorem RunR.len {t r : List UInt8} (h : RunR t r) : r.length ≤ 183061 := by
 rcases h with ⟨_, rfl⟩ | ⟨h, hO⟩
 ·decide
 ·have := hO.len run0_t
  have : (linB t).length ≤ t.length + 1 := linA_len t []
  omega
theorem cutA_piece (c : UInt8) : ∀ (t cur p : List UInt8), p ∈ cutA c cur t → p.length ≤ cur.length + t.length
  | [], cur, p, h => by
    unfold cutA at h
    rw [List.mem_singleton.1 h]
    simp
  | x :: t, cur, p, h => by
    unfold cutA at h
    split at h
    · rcases List.mem_cons.1 h with rfl | h
      · omega
      · have := cutA_piece c t [] p h
        simp only [List.length_nil, List.length_cons] at *
        omega
    · have := cutA_piece c t _ p h
      simp only [List.length_append, List.length_cons, List.length_nil] at *
      omega
theorem LineR.bad {N N' : Nn} {s x : List UInt8} (h : LineR N s N' x) (hc : cmdB s = (0, 0, 0)) : N' = N ∧ x = badB := by
  obtain ⟨k, a, b, hk, h⟩ := h
  rw [hc] at hk
  injection hk with q1 _
  subst q1
  rcases h with ⟨_, rfl, rfl⟩ | ⟨h, _⟩ | ⟨h, _⟩ | ⟨h, _⟩ | ⟨h, _⟩ | ⟨h, _⟩
  · exact ⟨rfl, rfl⟩
  all_goals omega
theorem cmdB_is {s h : List UInt8} {t : List (List UInt8)} {V : List Nat} (e : cutB 32 s = h :: t) (hv : numsD t = some V) : cmdB s = if wordB h ≠ 0 ∧ V.length = wantB (wordB h) then (wordB h, ((V.getD 0 0 : Nat) : Int), ((V.getD 1 0 : Nat) : Int)) else (0, 0, 0) := by
  unfold cmdB
  rw [e, cmdW_some hv]
theorem cmdB_no {s h : List UInt8} {t : List (List UInt8)} (e : cutB 32 s = h :: t) (hv : numsD t = none) : cmdB s = (0, 0, 0) := by
  unfold cmdB
  rw [e, cmdW_none hv]
theorem nDoR_e {N N' : Nn} {wh a b e : Int} (h : NDoR N wh a b N' e) : 0 ≤ e ∧ e ≤ 8 := by
  obtain ⟨S', r, e1, hD, q⟩ := h
  have d1 : 0 ≤ e1 ∧ e1 ≤ 8 := by
    rcases hD with ⟨_, _, _, _, rfl⟩ | ⟨_, _, _, _, rfl⟩ | ⟨_, _, _, _, rfl⟩ | ⟨_, _, _, _, _, rfl⟩ | ⟨_, _, _, _, _, _, rfl⟩ | ⟨_, _, _, _, _, _, rfl⟩ | ⟨_, _, _, _, rfl⟩ | ⟨_, _, _, _, rfl⟩ | ⟨_, _, _, _, rfl⟩ | ⟨_, _, _, _, rfl⟩ | ⟨_, _, _, rfl⟩ <;> decide
  rcases q with ⟨_, _, rfl⟩ | ⟨l, c', _, _, _, _, ⟨_, _, rfl⟩ | ⟨_, S'', hA, _⟩⟩
  · exact d1
  · decide
  · rcases hA with ⟨_, _, rfl⟩ | ⟨_, _, _, rfl⟩ | ⟨_, _, _, _, rfl⟩ | ⟨_, _, _, _, rfl⟩ <;> decide
theorem LineR.is {N N' : Nn} {s x : List UInt8} {k : Nat} {a b : Int} (h : LineR N s N' x) (hc : cmdB s = (k, a, b)) :
    (k = 0 ∧ N' = N ∧ x = badB) ∨
   (1 ≤ k ∧ k ≤ 5 ∧ ∃ e, NDoR N k a b N' e ∧ x = if e = 0 then [111, 107] else nameB e) ∨
   (k = 6 ∧ N' = N ∧ ((N.W.hs a ∧ x = Lib.itoa (N.W.rd a.toNat)) ∨ (¬ N.W.hs a ∧ x = nameB 1))) ∨
   (k = 7 ∧ N' = N ∧ ∃ lo hi e, BetA N.W.n (egf (eoN N)) (eoN N).length a b lo hi e ∧ x = if e = 0 then printL lo hi else nameB e) ∨
   (k = 8 ∧ N' = N ∧ ∃ T, AllA (egf (eoN N)) (eoN N).length N.W.n 0 T ∧ x = Lib.itoa (wid N.W.n T)) ∨
   (k = 9 ∧ N' = N ∧ ∃ y m d h i s, UtcL q00 0 a y m d h i s ∧ x = (ltext y m d h i s).data.toList) := by
  obtain ⟨k', a', b', hk, h⟩ := h
  rw [hc] at hk
  injection hk with q1 q2
  injection q2 with q2 q3
  subst q1
  subst q2
  subst q3
  exact h
theorem bet_e {N : Nn} (g : N.T) {a b lo hi e : Int} (h : BetA N.W.n (egf (eoN N)) (eoN N).length a b lo hi e) : (e = 0 ∧ okB lo hi = true) ∨ e = 1 ∨ e = 5 := by
  have h' := h
  rcases h with ⟨h, _⟩ | ⟨_, _, _, _, rfl⟩ | ⟨_, ha, _⟩
  · exact absurd (egs_e (eoN_egs g)) h
  · exact Or.inr (Or.inl rfl)
  · rcases eoN_bet g ha h' with ⟨rfl, _⟩ | ⟨rfl, h1, h2, h3, h4, _⟩
    · exact Or.inr (Or.inr rfl)
    · exact Or.inl ⟨rfl, okB_mk ⟨by omega, by omega, by omega⟩⟩
end Go.Proofs.YtadkgnbagmnkkakGreatDoor
namespace Go.Proofs.YtadkgnbagmnkkakGreatDoor.rn
set_option linter.unusedVariables false

theorem atoi_dec {l : List UInt8} {v : Nat} (ne : l ≠ []) (h : Lib.decFrom 0 l = some v) : Lib.atoi l = some (v : Int) := by
 cases l with
 | nil => exact absurd rfl ne
 | cons b r =>
  obtain ⟨d, hd⟩ := Lib.digit_of_decFrom (b :: r) 0 v h 0 b rfl
  obtain ⟨h48, h57, _⟩ := Lib.digitVal_eq hd
  have n45 : b ≠ 45 := by intro q; rw [q] at h48; exact absurd h48 (by decide)
  have n43 : b ≠ 43 := by intro q; rw [q] at h48; exact absurd h48 (by decide)
  unfold Lib.atoi
  simp [n45, n43, Lib.decNat, h]
theorem num_yes {l : List UInt8} {v : Nat} (h : numD l = some v) : Lib.atoiAll l = .ok (v : Int) ∧ Lib.itoa (v : Int) = l := by
 unfold numD numM at h
 split at h
 ·cases h
 ·rename_i c
  have hl : 1 ≤ l.length ∧ l.length ≤ 7 := by
   refine ⟨?_, ?_⟩
   ·apply Classical.byContradiction
    intro q
    exact c (Or.inl (by omega))
   ·apply Classical.byContradiction
    intro q
    exact c (Or.inr (Or.inl (by omega)))
  have ne : l ≠ [] := fun e => by rw [e] at hl; simp at hl
  have hh : l.head? ≠ some 48 ∨ l = [48] := by
   by_cases q : l.head? = some 48
   ·right
    cases l with
    | nil => exact absurd rfl ne
    | cons a t =>
     have ha : a = 48 := by simpa using q
     have ht : t = [] := by
      apply Classical.byContradiction
      intro z
      have := List.length_pos_iff.2 z
      exact c (Or.inr (Or.inr ⟨by rw [List.length_cons]; omega, q⟩))
     rw [ha, ht]
   ·exact Or.inl q
  have e := decFrom_digits l.length l v (Nat.le_refl _) ne h hh
  refine ⟨?_, by rw [Lib.itoa_nonneg, ← e]⟩
  rw [Lib.atoiAll_short l (by omega), atoi_dec ne h]
  rfl
theorem dec_len7 (u : Nat) : ∀ k, 1 ≤ k → u < 10 ^ k → (Lib.decDigits u).length ≤ k := by
 induction u using Nat.strongRecOn with
 | ind u ih =>
  intro k hk hu
  rw [Lib.decDigits]
  by_cases h : u < 10
  ·rw [dif_pos h]; simpa using hk
  ·rw [dif_neg h, List.length_append, List.length_singleton]
   obtain ⟨j, rfl⟩ : ∃ j, k = j + 1 := ⟨k - 1, by omega⟩
   have hj : 1 ≤ j := by
    rcases Nat.eq_zero_or_pos j with e | e
    ·subst e; simp at hu; omega
    ·exact e
   have := ih (u / 10) (by omega) j hj (by rw [Nat.pow_succ] at hu; omega)
   omega
theorem num_dec {u : Nat} (h : u ≤ 9999999) : numD (Lib.decDigits u) = some u := by
 have l7 := dec_len7 u 7 (by decide) (by omega)
 unfold numD numM
 rw [if_neg, decFrom_decDigits]
 have ne := decDigits_ne u
 have l1 : 1 ≤ (Lib.decDigits u).length := List.length_pos_iff.2 ne
 rintro (q | q | ⟨q1, q2⟩)
 ·omega
 ·omega
 ·by_cases h1 : 1 ≤ u
  ·exact decDigits_head u h1 q2
  ·obtain rfl : u = 0 := by omega
   rw [Lib.decDigits_one (by decide)] at q1
   simp at q1
theorem num_no {l : List UInt8} (h : numD l = none) {v : Int} (h0 : 0 ≤ v) (h1 : v ≤ 9999999) : Lib.itoa v ≠ l := by
 intro e
 obtain ⟨u, rfl⟩ : ∃ u : Nat, v = u := ⟨v.toNat, by omega⟩
 rw [Lib.itoa_nonneg] at e
 have := num_dec (u := u) (by omega)
 rw [e, h] at this
 cases this
end Go.Proofs.YtadkgnbagmnkkakGreatDoor.rn
namespace Go.Proofs.YtadkgnbagmnkkakGreatDoor.rn
open Go.ChangeShapes Go.WideShapes Go.ChangeAt Go.RowKit
set_option linter.unusedVariables false

set_option maxRecDepth 100000 in
set_option maxHeartbeats 4000000 in
theorem errName (k : Int) (h1 : 1 ≤ k) (h8 : k ≤ 8) (w : World) : Calls Tryz.prog 37 #[.int .i64 k] w fun o w' => o = .returned (.string ⟨(nameB k).toArray⟩) ∧ w' = w := by
 rcases (show k = 1 ∨ k = 2 ∨ k = 3 ∨ k = 4 ∨ k = 5 ∨ k = 6 ∨ k = 7 ∨ k = 8 by omega) with rfl | rfl | rfl | rfl | rfl | rfl | rfl | rfl
 all_goals
  clear h1 h8
  go_enter Tryz.func37, Tryz.ntmps37
  go_wp2
  go_ret
  exact ⟨rfl, rfl⟩
end Go.Proofs.YtadkgnbagmnkkakGreatDoor.rn
namespace Go.Proofs.YtadkgnbagmnkkakGreatDoor.rn
set_option linter.unusedVariables false

theorem lin_piece (r : List UInt8) : ∀ (p cur : List UInt8), 10 ∉ p → linA cur (p ++ 10 :: r) = (cur ++ p) :: linA [] r
 | [], cur, _ => by
  show cur :: linA [] r = _
  rw [List.append_nil]
 | x :: p, cur, h => by
  have hx : x ≠ 10 := fun e => h (by rw [e]; exact List.mem_cons_self)
  show linA cur (x :: (p ++ 10 :: r)) = _
  rw [linA, if_neg hx, lin_piece r p _ (fun q => h (List.mem_cons_of_mem _ q)), List.append_assoc]
  rfl
theorem cut_piece (c : UInt8) (r : List UInt8) : ∀ (p cur : List UInt8), c ∉ p → cutA c cur (p ++ c :: r) = (cur ++ p) :: cutA c [] r
 | [], cur, _ => by
  show cutA c cur (c :: r) = _
  rw [cutA, if_pos rfl, List.append_nil]
 | x :: p, cur, h => by
  have hx : x ≠ c := fun e => h (by rw [e]; exact List.mem_cons_self)
  show cutA c cur (x :: (p ++ c :: r)) = _
  rw [cutA, if_neg hx, cut_piece c r p _ (fun q => h (List.mem_cons_of_mem _ q)), List.append_assoc]
  rfl
theorem cut_last (c : UInt8) : ∀ (p cur : List UInt8), c ∉ p → cutA c cur p = [cur ++ p]
 | [], cur, _ => by
  show [cur] = _
  rw [List.append_nil]
 | x :: p, cur, h => by
  have hx : x ≠ c := fun e => h (by rw [e]; exact List.mem_cons_self)
  rw [cutA, if_neg hx, cut_last c p _ (fun q => h (List.mem_cons_of_mem _ q)), List.append_assoc]
  rfl
theorem dec_no (u : Nat) {c : UInt8} (hc : isDig c = false) : c ∉ Lib.decDigits u := fun h => by
 have := List.all_eq_true.1 (decDigits_all u) c h
 rw [hc] at this
 cases this
theorem itoa_no (n : Int) {c : UInt8} (hc : isDig c = false) (h5 : c ≠ 45) : c ∉ Lib.itoa n := fun h => by
 by_cases h0 : 0 ≤ n
 ·obtain ⟨u, rfl⟩ : ∃ u : Nat, n = u := ⟨n.toNat, by omega⟩
  rw [Lib.itoa_nonneg] at h
  exact dec_no u hc h
 ·obtain ⟨u, hu, rfl⟩ : ∃ u : Nat, 1 ≤ u ∧ n = -(u : Int) := ⟨n.natAbs, by omega, by omega⟩
  rw [Lib.itoa_neg u hu] at h
  rcases List.mem_cons.1 h with e | h
  ·exact h5 e
  ·exact dec_no u hc h
theorem numM_dec {m u : Nat} (h : (Lib.decDigits u).length ≤ m) : numM m (Lib.decDigits u) = some u := by
 unfold numM
 rw [if_neg, decFrom_decDigits]
 have ne := decDigits_ne u
 have l1 : 1 ≤ (Lib.decDigits u).length := List.length_pos_iff.2 ne
 rintro (q | q | ⟨q1, q2⟩)
 ·omega
 ·omega
 ·by_cases h1 : 1 ≤ u
  ·exact decDigits_head u h1 q2
  ·obtain rfl : u = 0 := by omega
   rw [Lib.decDigits_one (by decide)] at q1
   simp at q1
theorem dec_len (u : Nat) : ∀ k, 1 ≤ k → u < 10 ^ k → (Lib.decDigits u).length ≤ k := by
 induction u using Nat.strongRecOn with
 | ind u ih =>
  intro k hk hu
  rw [Lib.decDigits]
  by_cases h : u < 10
  ·rw [dif_pos h]; simpa using hk
  ·rw [dif_neg h, List.length_append, List.length_singleton]
   obtain ⟨j, rfl⟩ : ∃ j, k = j + 1 := ⟨k - 1, by omega⟩
   have hj : 1 ≤ j := by
    rcases Nat.eq_zero_or_pos j with e | e
    ·subst e; simp at hu; omega
    ·exact e
   have := ih (u / 10) (by omega) j hj (by rw [Nat.pow_succ] at hu; omega)
   omega
def goB (u : Nat) : List UInt8 := [103, 111, 32] ++ Lib.decDigits u
theorem cmd_go {u : Nat} (h : u ≤ 999999) : cmdB (goB u) = (1, (u : Int), 0) := by
 have l := dec_len u 6 (by decide) (by omega)
 have e : cutB 32 (goB u) = [[103, 111], Lib.decDigits u] := by
  show cutA 32 [] ([103, 111] ++ 32 :: Lib.decDigits u) = _
  rw [cut_piece 32 _ [103, 111] [] (by decide), cut_last 32 _ [] (dec_no u (by decide))]
  rfl
 have n : numsD [Lib.decDigits u] = some [u] := by
  show (match numD (Lib.decDigits u), numsD [] with | some a, some v => some (a :: v) | _, _ => none) = _
  rw [show numD (Lib.decDigits u) = some u from numM_dec (by omega)]
  rfl
 rw [cmdB_is e n, if_pos ⟨by decide, rfl⟩]
 rfl
def askB : List UInt8 := [97, 115, 107, 32, 48, 32, 49]
def delB : List UInt8 := [100, 101, 108, 105, 118, 101, 114, 32, 48]
def sh0B : List UInt8 := [115, 104, 111, 119, 32, 48]
def sh1B : List UInt8 := [115, 104, 111, 119, 32, 49]
def offB : List UInt8 := [111, 102, 102, 115, 101, 116, 32, 48, 32, 49]
def knowT (a b c : Nat) : List UInt8 := askB ++ 10 :: (goB a ++ 10 :: (delB ++ 10 :: (goB b ++ 10 :: (delB ++ 10 :: (goB c ++ 10 :: (sh0B ++ 10 :: (sh1B ++ 10 :: (offB ++ 10 :: []))))))))
def okB2 : List UInt8 := [111, 107]
def knowA (x y lo hi : Int) : List UInt8 := okB2 ++ 10 :: (okB2 ++ 10 :: (okB2 ++ 10 :: (okB2 ++ 10 :: (okB2 ++ 10 :: (okB2 ++ 10 :: (Lib.itoa x ++ 10 :: (Lib.itoa y ++ 10 :: (printL lo hi ++ 10 :: []))))))))
theorem go_no (u : Nat) : 10 ∉ goB u := fun h => by
 rcases List.mem_append.1 h with h | h
 ·revert h; decide
 ·exact dec_no u (by decide) h
theorem print_no (lo hi : Int) : 10 ∉ printL lo hi := fun h => by
 unfold printL at h
 rcases List.mem_append.1 h with h | h
 ·rcases List.mem_append.1 h with h | h
  ·exact itoa_no lo (by decide) (by decide) h
  ·revert h; decide
 ·exact itoa_no hi (by decide) (by decide) h
theorem know_lin (a b c : Nat) : linB (knowT a b c) = [askB, goB a, delB, goB b, delB, goB c, sh0B, sh1B, offB] := by
 unfold linB knowT
 rw [lin_piece _ askB [] (by decide), lin_piece _ (goB a) [] (go_no a), lin_piece _ delB [] (by decide), lin_piece _ (goB b) [] (go_no b), lin_piece _ delB [] (by decide), lin_piece _ (goB c) [] (go_no c), lin_piece _ sh0B [] (by decide), lin_piece _ sh1B [] (by decide), lin_piece _ offB [] (by decide)]
 rfl
theorem know_cut (x y lo hi : Int) : cutB 10 (knowA x y lo hi) = [okB2, okB2, okB2, okB2, okB2, okB2, Lib.itoa x, Lib.itoa y, printL lo hi, []] := by
 unfold cutB knowA
 rw [cut_piece 10 _ okB2 [] (by decide), cut_piece 10 _ okB2 [] (by decide), cut_piece 10 _ okB2 [] (by decide), cut_piece 10 _ okB2 [] (by decide), cut_piece 10 _ okB2 [] (by decide), cut_piece 10 _ okB2 [] (by decide), cut_piece 10 _ (Lib.itoa x) [] (itoa_no x (by decide) (by decide)), cut_piece 10 _ (Lib.itoa y) [] (itoa_no y (by decide) (by decide)), cut_piece 10 _ (printL lo hi) [] (print_no lo hi)]
 rfl
theorem know_len {a b c : Nat} (ha : a ≤ 999999) (hb : b ≤ 999999) (hc : c ≤ 999999) : (knowT a b c).length ≤ 100 := by
 have l1 := dec_len a 6 (by decide) (by omega)
 have l2 := dec_len b 6 (by decide) (by omega)
 have l3 := dec_len c 6 (by decide) (by omega)
 simp only [knowT, askB, goB, delB, sh0B, sh1B, offB, List.length_append, List.length_cons, List.length_nil]
 omega
theorem an_arc {N : Nn} (g : N.T) (hn : 2 ≤ N.W.n) (hk : (N.nd 0).has 1 = true) : Arc (egf (eoN N)) (eoN N).length 0 1 ((N.nd 0).ahi 1 (N.W.rd 0)) := by
 have kn0 := g.kn 0 (by omega)
 have m : (⟨((N.nd 0).id : Int), ((1 : Nat) : Int), (N.nd 0).alo 1 (N.W.rd 0), (N.nd 0).ahi 1 (N.W.rd 0)⟩ : Eg) ∈ eoN N := by
  unfold eoN
  refine List.mem_flatMap.2 ⟨0, List.mem_range.2 (by omega), ?_⟩
  unfold Nd.eo
  exact List.mem_map.2 ⟨1, List.mem_filter.2 ⟨List.mem_range.2 (by rw [kn0.n]; omega), hk⟩, rfl⟩
 obtain ⟨j, hj, e⟩ := List.mem_iff_getElem.1 m
 have ej : egf (eoN N) j = ⟨((N.nd 0).id : Int), ((1 : Nat) : Int), (N.nd 0).alo 1 (N.W.rd 0), (N.nd 0).ahi 1 (N.W.rd 0)⟩ := by
  unfold egf
  rw [List.getD_eq_getElem?_getD, List.getElem?_eq_getElem hj]
  exact e
 have i0 : ((N.nd 0).id : Int) = ((0 : Nat) : Int) := by rw [kn0.id]
 exact ⟨j, hj, Or.inl (by rw [ej]; exact ⟨i0.symm, rfl, rfl⟩)⟩
theorem LineR.ok {N N' : Nn} {s : List UInt8} {k : Nat} {a b : Int} (hc : cmdB s = (k, a, b)) (h1 : 1 ≤ k) (h5 : k ≤ 5) (h : NDoR N k a b N' 0) : LineR N s N' okB2 := ⟨k, a, b, hc, Or.inr (Or.inl ⟨h1, h5, 0, h, rfl⟩)⟩
theorem know_run {a b c : Nat} (ha : a ≤ 999999) (hb : b ≤ 999999) (hc : c ≤ 999999) :
  ∃ x y lo hi : Int, RunR (knowT a b c) (knowA x y lo hi) ∧ okB lo hi = true ∧ lo ≤ y - x ∧ y - x ≤ hi ∧ 0 ≤ x ∧ x ≤ 1002000000 ∧ 0 ≤ y ∧ y ≤ 1002000000 := by
 have t0 := run0_t
 have n0 : run0.W.n = 3 := rfl
 have z0 : run0.W.time = 0 := rfl
 have u0 : run0.W.under = [] := rfl
 have h0 : ∀ r, OutR run0 (linB (knowT a b c)) r → RunR (knowT a b c) r := fun r h => Or.inr ⟨by have := know_len ha hb hc; omega, h⟩
 rw [know_lin] at h0
 obtain ⟨N0, e0⟩ : ∃ N0, N0 = run0 := ⟨_, rfl⟩
 rw [← e0] at t0 n0 z0 u0 h0
 clear e0
 have q1 := ask_ok t0 (a := 0) (b := 1) (by rw [n0]; decide) (by rw [n0]; decide) (by decide) u0
 obtain ⟨N1, e1⟩ : ∃ N1, N1 = (⟨{ N0.W with under := [⟨(0 : Nat), (1 : Nat), false, 0, 0, N0.W.rd 0⟩] }, N0.p, N0.nd⟩ : Nn) := ⟨_, rfl⟩
 have q1' : NDoR N0 2 0 1 N1 0 := by rw [e1]; exact q1
 have a1 := (q1'.t t0).1
 have z1 : N1.W.time = 0 := by rw [e1]; exact z0
 have n1 : N1.W.n = 3 := by rw [e1]; exact n0
 have q2 := go_ok a1 (t := (a : Int)) (y := 0) (by omega) (by omega) (by rw [z1]; omega)
 obtain ⟨N2, e2⟩ : ∃ N2, N2 = (⟨{ N1.W with time := N1.W.time + (a : Int) }, N1.p, N1.nd⟩ : Nn) := ⟨_, rfl⟩
 have q2' : NDoR N1 1 (a : Int) 0 N2 0 := by rw [e2]; exact q2
 have a2 := (q2'.t a1).1
 have u2 : N2.W.under = [⟨(0 : Nat), (1 : Nat), false, 0, 0, N0.W.rd 0⟩] := by rw [e2, e1]
 have z2 : N2.W.time = a := by rw [e2]; show N1.W.time + (a : Int) = a; rw [z1]; omega
 have n2 : N2.W.n = 3 := by rw [e2]; exact n1
 have q3 := come_ask a2 (y := 0) u2
 obtain ⟨N3, e3⟩ : ∃ N3, N3 = (⟨{ N2.W with under := [⟨(1 : Nat), (0 : Nat), true, N0.W.rd 0, N2.W.rd 1, N2.W.rd 1⟩] }, N2.p, updN N2.nd 1 { N2.nd 1 with h := N2.W.rd 1 }⟩ : Nn) := ⟨_, rfl⟩
 have q3' : NDoR N2 3 0 0 N3 0 := by rw [e3]; exact q3
 have a3 := (q3'.t a2).1
 have z3 : N3.W.time = a := by rw [e3]; exact z2
 have n3 : N3.W.n = 3 := by rw [e3]; exact n2
 have q4 := go_ok a3 (t := (b : Int)) (y := 0) (by omega) (by omega) (by rw [z3]; omega)
 obtain ⟨N4, e4⟩ : ∃ N4, N4 = (⟨{ N3.W with time := N3.W.time + (b : Int) }, N3.p, N3.nd⟩ : Nn) := ⟨_, rfl⟩
 have q4' : NDoR N3 1 (b : Int) 0 N4 0 := by rw [e4]; exact q4
 have a4 := (q4'.t a3).1
 have u4 : N4.W.under = [⟨(1 : Nat), (0 : Nat), true, N0.W.rd 0, N2.W.rd 1, N2.W.rd 1⟩] := by rw [e4, e3]
 have z4 : N4.W.time = (a : Int) + b := by rw [e4]; show N3.W.time + (b : Int) = _; rw [z3]
 have n4 : N4.W.n = 3 := by rw [e4]; exact n3
 have q5 := come_ans a4 (y := 0) u4
 obtain ⟨d, ed⟩ : ∃ d, d = (N4.nd 0).kept 1 (N4.W.rd 0) ((N4.nd 0).bLo 1 (N4.W.rd 0) (N2.W.rd 1 - N4.W.rd 0)) ((N4.nd 0).bHi 1 (N4.W.rd 0) (oH (N0.W.rd 0) (N2.W.rd 1) (N4.W.rd 0) (N4.nd 0).p)) := ⟨_, rfl⟩
 rw [← ed] at q5
 obtain ⟨N5, e5⟩ : ∃ N5, N5 = (⟨{ N4.W with under := [] }, N4.p, updN N4.nd 0 d⟩ : Nn) := ⟨_, rfl⟩
 have q5' : NDoR N4 3 0 0 N5 0 := by rw [e5]; exact q5
 have a5 := (q5'.t a4).1
 have z5 : N5.W.time = (a : Int) + b := by rw [e5]; exact z4
 have n5 : N5.W.n = 3 := by rw [e5]; exact n4
 have has5 : (N5.nd 0).has 1 = true := by
  have : N5.nd 0 = d := by rw [e5]; exact updN_at N4.nd 0 d
  rw [this, ed]
  exact updN_at (N4.nd 0).has 1 true
 have q6 := go_ok a5 (t := (c : Int)) (y := 0) (by omega) (by omega) (by rw [z5]; omega)
 obtain ⟨N6, e6⟩ : ∃ N6, N6 = (⟨{ N5.W with time := N5.W.time + (c : Int) }, N5.p, N5.nd⟩ : Nn) := ⟨_, rfl⟩
 have q6' : NDoR N5 1 (c : Int) 0 N6 0 := by rw [e6]; exact q6
 have a6 := (q6'.t a5).1
 have n6 : N6.W.n = 3 := by rw [e6]; exact n5
 have has6 : (N6.nd 0).has 1 = true := by rw [e6]; exact has5
 have w1 := an_arc a6 (by omega) has6
 obtain ⟨Tb, hA⟩ := eoN_all a6
 obtain ⟨lo, hi, e, hB⟩ := betA_some (egs_e (eoN_egs a6)) hA 0 1
 have r0 := rd_t a6 (i := 0) (by omega)
 have r1 := rd_t a6 (i := 1) (by omega)
 rcases eoN_bet a6 (by rw [n6]; decide) hB with ⟨_, _, _, no⟩ | ⟨rfl, l1, l2, l3, l4, _, _⟩
 ·exact absurd ((Wk.nil 0).snoc w1) (no _ _)
 have l1' : lo ≤ N6.W.rd 1 - N6.W.rd 0 := l1
 have l2' : N6.W.rd 1 - N6.W.rd 0 ≤ hi := l2
 refine ⟨N6.W.rd 0, N6.W.rd 1, lo, hi, h0 _ ?_, okB_mk ⟨by omega, l3, l4⟩, l1', l2', r0.1, r0.2, r1.1, r1.2⟩
 have hs0 : N6.W.hs 0 := ⟨by omega, by omega⟩
 have hs1 : N6.W.hs 1 := ⟨by omega, by omega⟩
 refine ⟨N1, okB2, _, LineR.ok (k := 2) (a := 0) (b := 1) (by decide) (by decide) (by decide) q1', ?_, rfl⟩
 refine ⟨N2, okB2, _, LineR.ok (cmd_go ha) (by decide) (by decide) q2', ?_, rfl⟩
 refine ⟨N3, okB2, _, LineR.ok (k := 3) (a := 0) (b := 0) (by decide) (by decide) (by decide) q3', ?_, rfl⟩
 refine ⟨N4, okB2, _, LineR.ok (cmd_go hb) (by decide) (by decide) q4', ?_, rfl⟩
 refine ⟨N5, okB2, _, LineR.ok (k := 3) (a := 0) (b := 0) (by decide) (by decide) (by decide) q5', ?_, rfl⟩
 refine ⟨N6, okB2, _, LineR.ok (cmd_go hc) (by decide) (by decide) q6', ?_, rfl⟩
 refine ⟨N6, Lib.itoa (N6.W.rd 0), _, ⟨6, 0, 0, by decide, Or.inr (Or.inr (Or.inl ⟨rfl, rfl, Or.inl ⟨hs0, rfl⟩⟩))⟩, ?_, rfl⟩
 refine ⟨N6, Lib.itoa (N6.W.rd 1), _, ⟨6, 1, 0, by decide, Or.inr (Or.inr (Or.inl ⟨rfl, rfl, Or.inl ⟨hs1, rfl⟩⟩))⟩, ?_, rfl⟩
 refine ⟨N6, printL lo hi, _, ⟨7, 0, 1, by decide, Or.inr (Or.inr (Or.inr (Or.inl ⟨rfl, rfl, lo, hi, 0, hB, rfl⟩)))⟩, ?_, rfl⟩
 rfl
end Go.Proofs.YtadkgnbagmnkkakGreatDoor.rn
