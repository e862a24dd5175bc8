/- Dates as texts: plain mathematics of bytes. -/
import Derived.Test.YthaajbdppmdhaacDoorCivilMath
namespace Go.Proofs.YthaajbdppmdhaacDoor
set_option linter.unusedVariables false

/-- Is a byte a digit? -/
def cd (b : UInt8) : Bool := decide (48 ≤ b.toNat ∧ b.toNat ≤ 57)
theorem cd_t {b : UInt8} (h : cd b = true) : 48 ≤ (b.toNat : Int) ∧ (b.toNat : Int) ≤ 57 := by have := of_decide_eq_true h; omega
theorem cd_f {b : UInt8} (h : cd b = false) : (b.toNat : Int) < 48 ∨ 57 < (b.toNat : Int) := by have := of_decide_eq_false h; omega
/-- Bytes read as digits. -/
def pv (l : List UInt8) : Int := l.foldl (fun a b => a * 10 + (b.toNat : Int) - 48) 0
theorem pv_nil : pv [] = 0 := rfl
theorem pv_snoc (l : List UInt8) (b : UInt8) : pv (l ++ [b]) = pv l * 10 + (b.toNat : Int) - 48 := by simp [pv]
theorem take_snoc (s : ByteArray) (k : Nat) (h : k < s.size) : s.data.toList.take (k + 1) = s.data.toList.take k ++ [s[k]] := by
  rw [List.take_add_one]
  have : s.data.toList[k]? = some s[k] := by
    rw [Array.getElem?_toList]
    exact Array.getElem?_eq_getElem (xs := s.data) h
  rw [this]; rfl
/-- The first k bytes are digits: what they read as is below ten to so many. -/
theorem pv_le (s : ByteArray) : ∀ k, k ≤ s.size → k ≤ 10 → (∀ i (h : i < s.size), i < k → cd s[i] = true) → 0 ≤ pv (s.data.toList.take k) ∧ pv (s.data.toList.take k) < 10 ^ k
  | 0, _, _, _ => by simp [pv]
  | k + 1, hk, h10, hd => by
    have ih := pv_le s k (by omega) (by omega) (fun i h hi => hd i h (by omega))
    have b := cd_t (hd k (by omega) (by omega))
    rw [take_snoc s k (by omega), pv_snoc, Int.pow_succ]
    omega
theorem pv_small (s : ByteArray) (k : Nat) (hk : k ≤ s.size) (h10 : k ≤ 10) (hd : ∀ i (h : i < s.size), i < k → cd s[i] = true) : 0 ≤ pv (s.data.toList.take k) ∧ pv (s.data.toList.take k) < 10000000000 := by
  obtain ⟨a, b⟩ := pv_le s k hk h10 hd
  refine ⟨a, Int.lt_of_lt_of_le b ?_⟩
  have : (10 : Int) ^ k ≤ 10 ^ 10 := by
    have h := Nat.pow_le_pow_right (show 0 < 10 by decide) h10
    have h2 : ((10 ^ k : Nat) : Int) ≤ ((10 ^ 10 : Nat) : Int) := Int.ofNat_le.2 h
    simpa using h2
  omega
def allD (s : ByteArray) : Prop := ∀ i (h : i < s.size), cd s[i] = true
/-- A digit's byte. -/
def db (n : Int) : UInt8 := UInt8.ofNat (48 + n.toNat)
/-- Two digits; four digits. -/
def d2 (n : Int) : List UInt8 := [db (n / 10), db (n % 10)]
def d4 (n : Int) : List UInt8 := [db (n / 1000), db (n / 100 % 10), db (n / 10 % 10), db (n % 10)]
/-- A date as text. -/
def dtext (y m d : Int) : ByteArray := ⟨(d4 y ++ [45] ++ d2 m ++ [45] ++ d2 d).toArray⟩
/-- Just such a text as a date's. -/
def Shp (s : ByteArray) : Prop := ∃ h : s.size = 10, s[4].toNat = 45 ∧ s[7].toNat = 45 ∧ allD (s.extract 0 4) ∧ allD (s.extract 5 7) ∧ allD (s.extract 8 10)
def yr (s : ByteArray) : Int := pv (s.extract 0 4).data.toList
def mo (s : ByteArray) : Int := pv (s.extract 5 7).data.toList
def da (s : ByteArray) : Int := pv (s.extract 8 10).data.toList
/-- What reading a text must answer. -/
def RD (s : ByteArray) (y m d e : Int) : Prop := (¬ Shp s ∧ e = 2 ∧ y = 0 ∧ m = 0 ∧ d = 0) ∨ (Shp s ∧ okD (yr s) (mo s) (da s) = false ∧ e = 1 ∧ y = 0 ∧ m = 0 ∧ d = 0) ∨ (Shp s ∧ okD (yr s) (mo s) (da s) = true ∧ e = 0 ∧ y = yr s ∧ m = mo s ∧ d = da s)
end Go.Proofs.YthaajbdppmdhaacDoor
