/- Labels as texts, and their order: plain mathematics of bytes. -/
import Derived.Test.YthaajbdppmdhaacDoorCivilRound
import Derived.Test.YthaajbdppmdhaacDoorLeapMath
import Derived.Laws.Strings
namespace Go.Proofs.YthaajbdppmdhaacDoor
set_option linter.unusedVariables false

/-- Are hour, minute and second such as may be? -/
def okH (h m s : Int) : Bool := decide (0 ≤ h ∧ h ≤ 23 ∧ 0 ≤ m ∧ m ≤ 59 ∧ 0 ≤ s ∧ s ≤ 60)
theorem okH_t {h m s : Int} (o : okH h m s = true) : 0 ≤ h ∧ h ≤ 23 ∧ 0 ≤ m ∧ m ≤ 59 ∧ 0 ≤ s ∧ s ≤ 60 := of_decide_eq_true o
/-- A label as text. -/
def ltext (y m d h i s : Int) : ByteArray := ⟨(d4 y ++ [45] ++ d2 m ++ [45] ++ d2 d ++ [84] ++ d2 h ++ [58] ++ d2 i ++ [58] ++ d2 s).toArray⟩
/-- Just such a text as a label's. -/
def LShp (s : ByteArray) : Prop := ∃ hs : s.size = 19, s[10].toNat = 84 ∧ s[13].toNat = 58 ∧ s[16].toNat = 58 ∧ Shp (s.extract 0 10) ∧ allD (s.extract 11 13) ∧ allD (s.extract 14 16) ∧ allD (s.extract 17 19)
def hr (s : ByteArray) : Int := pv (s.extract 11 13).data.toList
def mi (s : ByteArray) : Int := pv (s.extract 14 16).data.toList
def se (s : ByteArray) : Int := pv (s.extract 17 19).data.toList
/-- Are the numbers of such a text right? -/
def okT (s : ByteArray) : Bool := okD (yr (s.extract 0 10)) (mo (s.extract 0 10)) (da (s.extract 0 10)) && okH (hr s) (mi s) (se s)
/-- What reading a text must answer. -/
def RL (t : ByteArray) (y m d h i s e : Int) : Prop := (¬ LShp t ∧ e = 2 ∧ y = 0 ∧ m = 0 ∧ d = 0 ∧ h = 0 ∧ i = 0 ∧ s = 0) ∨ (LShp t ∧ okT t = false ∧ e = 1 ∧ y = 0 ∧ m = 0 ∧ d = 0 ∧ h = 0 ∧ i = 0 ∧ s = 0) ∨
  (LShp t ∧ okT t = true ∧ e = 0 ∧ y = yr (t.extract 0 10) ∧ m = mo (t.extract 0 10) ∧ d = da (t.extract 0 10) ∧ h = hr t ∧ i = mi t ∧ s = se t)
theorem rl_some (t : ByteArray) : ∃ y m d h i s e, RL t y m d h i s e := by
  by_cases c : LShp t
  · cases o : okT t with
    | true => exact ⟨_, _, _, _, _, _, _, Or.inr (Or.inr ⟨c, o, rfl, rfl, rfl, rfl, rfl, rfl, rfl⟩)⟩
    | false => exact ⟨_, _, _, _, _, _, _, Or.inr (Or.inl ⟨c, o, rfl, rfl, rfl, rfl, rfl, rfl, rfl⟩)⟩
  · exact ⟨_, _, _, _, _, _, _, Or.inl ⟨c, rfl, rfl, rfl, rfl, rfl, rfl, rfl⟩⟩
theorem nineteen_bytes (s : ByteArray) (h : s.size = 19) : ∃ b0 b1 b2 b3 b4 b5 b6 b7 b8 b9 c0 c1 c2 c3 c4 c5 c6 c7 c8 : UInt8, s = ⟨#[b0, b1, b2, b3, b4, b5, b6, b7, b8, b9, c0, c1, c2, c3, c4, c5, c6, c7, c8]⟩ := by
  obtain ⟨⟨l⟩⟩ := s
  have hl : l.length = 19 := h
  match l, hl with
  | [b0, b1, b2, b3, b4, b5, b6, b7, b8, b9, c0, c1, c2, c3, c4, c5, c6, c7, c8], _ => exact ⟨b0, b1, b2, b3, b4, b5, b6, b7, b8, b9, c0, c1, c2, c3, c4, c5, c6, c7, c8, rfl⟩
theorem ex_l (l : List UInt8) (i j : Nat) : (⟨l.toArray⟩ : ByteArray).extract i j = ⟨((l.drop i).take (j - i)).toArray⟩ := by
  apply ByteArray.ext
  rw [ByteArray.data_extract, List.extract_toArray]
theorem ltext_date (y m d h i s : Int) : (ltext y m d h i s).extract 0 10 = dtext y m d := by unfold ltext; rw [ex_l]; rfl
theorem ltext_h (y m d h i s : Int) : (ltext y m d h i s).extract 11 13 = ⟨#[db (h / 10), db (h % 10)]⟩ := by unfold ltext; rw [ex_l]; rfl
theorem ltext_i (y m d h i s : Int) : (ltext y m d h i s).extract 14 16 = ⟨#[db (i / 10), db (i % 10)]⟩ := by unfold ltext; rw [ex_l]; rfl
theorem ltext_s (y m d h i s : Int) : (ltext y m d h i s).extract 17 19 = ⟨#[db (s / 10), db (s % 10)]⟩ := by unfold ltext; rw [ex_l]; rfl
theorem ltext_size (y m d h i s : Int) : (ltext y m d h i s).size = 19 := rfl
/-- A label's text is read as that label. -/
theorem ltext_read {y m d h i s : Int} (ok : okD y m d = true) (oh : okH h i s = true) : RL (ltext y m d h i s) y m d h i s 0 := by
  obtain ⟨a1, a2, a3, a4, a5, a6⟩ := okH_t oh
  have eh : hr (ltext y m d h i s) = h := by
    show pv ((ltext y m d h i s).extract 11 13).data.toList = h
    rw [ltext_h]
    show pv [db (h / 10), db (h % 10)] = h
    rw [pv2, db_nat _ (by omega) (by omega), db_nat _ (by omega) (by omega)]; omega
  have ei : mi (ltext y m d h i s) = i := by
    show pv ((ltext y m d h i s).extract 14 16).data.toList = i
    rw [ltext_i]
    show pv [db (i / 10), db (i % 10)] = i
    rw [pv2, db_nat _ (by omega) (by omega), db_nat _ (by omega) (by omega)]; omega
  have es : se (ltext y m d h i s) = s := by
    show pv ((ltext y m d h i s).extract 17 19).data.toList = s
    rw [ltext_s]
    show pv [db (s / 10), db (s % 10)] = s
    rw [pv2, db_nat _ (by omega) (by omega), db_nat _ (by omega) (by omega)]; omega
  rcases text_read ok with ⟨_, k, _⟩ | ⟨_, _, k, _⟩ | ⟨sh, _, _, ey, em, ed⟩
  · cases k
  · cases k
  refine Or.inr (Or.inr ⟨⟨ltext_size _ _ _ _ _ _, rfl, rfl, rfl, by rw [ltext_date]; exact sh, ?_, ?_, ?_⟩, ?_, rfl, by rw [ltext_date]; exact ey, by rw [ltext_date]; exact em, by rw [ltext_date]; exact ed, eh.symm, ei.symm, es.symm⟩)
  · rw [ltext_h]
    exact (allD2 _ _).2 ⟨cd_db _ (by omega) (by omega), cd_db _ (by omega) (by omega)⟩
  · rw [ltext_i]
    exact (allD2 _ _).2 ⟨cd_db _ (by omega) (by omega), cd_db _ (by omega) (by omega)⟩
  · rw [ltext_s]
    exact (allD2 _ _).2 ⟨cd_db _ (by omega) (by omega), cd_db _ (by omega) (by omega)⟩
  · unfold okT
    rw [ltext_date, ← ey, ← em, ← ed, eh, ei, es, ok, oh]; rfl
/-- .. and a text that is read is that label's. -/
theorem lread_text {t : ByteArray} (c : LShp t) : ltext (yr (t.extract 0 10)) (mo (t.extract 0 10)) (da (t.extract 0 10)) (hr t) (mi t) (se t) = t := by
  obtain ⟨hs, h10, h13, h16, sh, p, q, r⟩ := c
  have dt := read_text sh
  obtain ⟨b0, b1, b2, b3, b4, b5, b6, b7, b8, b9, c0, c1, c2, c3, c4, c5, c6, c7, c8, rfl⟩ := nineteen_bytes t hs
  have e0 : c0 = 84 := UInt8.toNat_inj.1 h10
  have e3 : c3 = 58 := UInt8.toNat_inj.1 h13
  have e6 : c6 = 58 := UInt8.toNat_inj.1 h16
  subst e0 e3 e6
  have x1 : (⟨#[b0, b1, b2, b3, b4, b5, b6, b7, b8, b9, 84, c1, c2, 58, c4, c5, 58, c7, c8]⟩ : ByteArray).extract 11 13 = ⟨#[c1, c2]⟩ := ex_l [b0, b1, b2, b3, b4, b5, b6, b7, b8, b9, 84, c1, c2, 58, c4, c5, 58, c7, c8] 11 13
  have x2 : (⟨#[b0, b1, b2, b3, b4, b5, b6, b7, b8, b9, 84, c1, c2, 58, c4, c5, 58, c7, c8]⟩ : ByteArray).extract 14 16 = ⟨#[c4, c5]⟩ := ex_l [b0, b1, b2, b3, b4, b5, b6, b7, b8, b9, 84, c1, c2, 58, c4, c5, 58, c7, c8] 14 16
  have x3 : (⟨#[b0, b1, b2, b3, b4, b5, b6, b7, b8, b9, 84, c1, c2, 58, c4, c5, 58, c7, c8]⟩ : ByteArray).extract 17 19 = ⟨#[c7, c8]⟩ := ex_l [b0, b1, b2, b3, b4, b5, b6, b7, b8, b9, 84, c1, c2, 58, c4, c5, 58, c7, c8] 17 19
  rw [x1] at p
  rw [x2] at q
  rw [x3] at r
  obtain ⟨p0, p1⟩ := (allD2 c1 c2).1 p
  obtain ⟨q0, q1⟩ := (allD2 c4 c5).1 q
  obtain ⟨r0, r1⟩ := (allD2 c7 c8).1 r
  have eh : hr ⟨#[b0, b1, b2, b3, b4, b5, b6, b7, b8, b9, 84, c1, c2, 58, c4, c5, 58, c7, c8]⟩ = pv [c1, c2] := by unfold hr; rw [x1]
  have ei : mi ⟨#[b0, b1, b2, b3, b4, b5, b6, b7, b8, b9, 84, c1, c2, 58, c4, c5, 58, c7, c8]⟩ = pv [c4, c5] := by unfold mi; rw [x2]
  have es : se ⟨#[b0, b1, b2, b3, b4, b5, b6, b7, b8, b9, 84, c1, c2, 58, c4, c5, 58, c7, c8]⟩ = pv [c7, c8] := by unfold se; rw [x3]
  have ed : (⟨#[b0, b1, b2, b3, b4, b5, b6, b7, b8, b9, 84, c1, c2, 58, c4, c5, 58, c7, c8]⟩ : ByteArray).extract 0 10 = ⟨#[b0, b1, b2, b3, b4, b5, b6, b7, b8, b9]⟩ := ex_l [b0, b1, b2, b3, b4, b5, b6, b7, b8, b9, 84, c1, c2, 58, c4, c5, 58, c7, c8] 0 10
  rw [ed] at dt ⊢
  rw [eh, ei, es, pv2, pv2, pv2]
  have := cd_t p0; have := cd_t p1; have := cd_t q0; have := cd_t q1; have := cd_t r0; have := cd_t r1
  have dl := congrArg (fun b : ByteArray => b.data.toList) dt
  simp only [dtext] at dl
  have h2 : ∀ a b : UInt8, cd a = true → cd b = true → d2 (((a.toNat : Int) - 48) * 10 + ((b.toNat : Int) - 48)) = [a, b] := fun a b ha hb => by
    have := cd_t ha; have := cd_t hb
    unfold d2
    rw [db_of ha _ (by omega), db_of hb _ (by omega)]
  unfold ltext
  rw [h2 _ _ p0 p1, h2 _ _ q0 q1, h2 _ _ r0 r1]
  apply ByteArray.ext
  apply Array.toList_inj.1
  simp only at dl ⊢
  rw [dl]
  rfl

/-! ### Order -/
theorem bl_irr : ∀ a : List UInt8, Op.bytesLess a a = false
  | [] => rfl
  | x :: a => by
    have := bl_irr a
    simp only [Op.bytesLess, this]
    simp
theorem bl_asym : ∀ a b : List UInt8, Op.bytesLess a b = true → Op.bytesLess b a = false
  | _, [], h => by simp [Op.bytesLess] at h
  | [], y :: b, _ => rfl
  | x :: a, y :: b, h => by
    simp only [Op.bytesLess, Bool.or_eq_true, Bool.and_eq_true, decide_eq_true_eq, beq_iff_eq] at h
    simp only [Op.bytesLess, Bool.or_eq_false_iff, Bool.and_eq_false_iff, decide_eq_false_iff_not, beq_eq_false_iff_ne]
    rcases h with h | ⟨rfl, h⟩
    · exact ⟨fun k => absurd (UInt8.lt_iff_toNat_lt.1 h) (by have := UInt8.lt_iff_toNat_lt.1 k; omega), Or.inl fun e => by subst e; exact absurd (UInt8.lt_iff_toNat_lt.1 h) (Nat.lt_irrefl _)⟩
    · exact ⟨fun k => absurd (UInt8.lt_iff_toNat_lt.1 k) (Nat.lt_irrefl _), Or.inr (bl_asym a b h)⟩
theorem bl_app : ∀ (a b x y : List UInt8), a.length = b.length → Op.bytesLess a b = true → Op.bytesLess (a ++ x) (b ++ y) = true
  | _, [], _, _, _, h => by simp [Op.bytesLess] at h
  | [], _ :: _, _, _, e, _ => by simp at e
  | p :: a, q :: b, x, y, e, h => by
    simp only [Op.bytesLess, Bool.or_eq_true, Bool.and_eq_true, List.cons_append] at h ⊢
    rcases h with h | ⟨h1, h2⟩
    · exact Or.inl h
    · exact Or.inr ⟨h1, bl_app a b x y (by simpa using e) h2⟩
theorem bl_same : ∀ (a x y : List UInt8), Op.bytesLess x y = true → Op.bytesLess (a ++ x) (a ++ y) = true
  | [], _, _, h => h
  | p :: a, x, y, h => by
    simp only [Op.bytesLess, Bool.or_eq_true, Bool.and_eq_true, List.cons_append]
    exact Or.inr ⟨by simp, bl_same a x y h⟩
theorem db_lt {a b : Int} (h0 : 0 ≤ a) (h1 : a < b) (h2 : b ≤ 9) : db a < db b := by
  rw [UInt8.lt_iff_toNat_lt]
  have := db_nat a h0 (by omega)
  have := db_nat b (by omega) h2
  omega
theorem bl_d2 {a b : Int} (h0 : 0 ≤ a) (h1 : a < b) (h2 : b < 100) : Op.bytesLess (d2 a) (d2 b) = true := by
  by_cases c : a / 10 < b / 10
  · simp only [d2, Op.bytesLess, Bool.or_eq_true, decide_eq_true_eq]
    exact Or.inl (db_lt (by omega) c (by omega))
  · have e : a / 10 = b / 10 := by omega
    unfold d2
    rw [e]
    exact bl_same [db (b / 10)] [db (a % 10)] [db (b % 10)] (by
      simp only [Op.bytesLess, Bool.or_eq_true, decide_eq_true_eq]
      exact Or.inl (db_lt (by omega) (by omega) (by omega)))
theorem bl_d4 {a b : Int} (h0 : 0 ≤ a) (h1 : a < b) (h2 : b < 10000) : Op.bytesLess (d4 a) (d4 b) = true := by
  have ea : d4 a = d2 (a / 100) ++ d2 (a % 100) := by
    unfold d4 d2
    rw [show a / 100 / 10 = a / 1000 by omega, show a % 100 / 10 = a / 10 % 10 by omega, show a % 100 % 10 = a % 10 by omega]; rfl
  have eb : d4 b = d2 (b / 100) ++ d2 (b % 100) := by
    unfold d4 d2
    rw [show b / 100 / 10 = b / 1000 by omega, show b % 100 / 10 = b / 10 % 10 by omega, show b % 100 % 10 = b % 10 by omega]; rfl
  rw [ea, eb]
  by_cases c : a / 100 < b / 100
  · exact bl_app _ _ _ _ rfl (bl_d2 (by omega) c (by omega))
  · rw [show a / 100 = b / 100 by omega]
    exact bl_same _ _ _ (bl_d2 (by omega) (by omega) (by omega))
/-- A label ahead of another one. -/
def Earlier (y m d h i s y' m' d' h' i' s' : Int) : Prop :=
  y < y' ∨ (y = y' ∧ (m < m' ∨ (m = m' ∧ (d < d' ∨ (d = d' ∧ (h < h' ∨ (h = h' ∧ (i < i' ∨ (i = i' ∧ s < s')))))))))
theorem ltext_less {y m d h i s y' m' d' h' i' s' : Int} (ok : okD y m d = true) (ok' : okD y' m' d' = true) (oh : okH h i s = true) (oh' : okH h' i' s' = true) (lt : Earlier y m d h i s y' m' d' h' i' s') :
    Op.bytesLess (ltext y m d h i s).data.toList (ltext y' m' d' h' i' s').data.toList = true := by
  obtain ⟨a1, a2, a3, a4, a5, a6⟩ := okD_t ok
  obtain ⟨b1, b2, b3, b4, b5, b6⟩ := okD_t ok'
  obtain ⟨c1, c2, c3, c4, c5, c6⟩ := okH_t oh
  obtain ⟨e1, e2, e3, e4, e5, e6⟩ := okH_t oh'
  have l1 := mdays_le y m
  have l2 := mdays_le y' m'
  show Op.bytesLess (d4 y ++ [45] ++ d2 m ++ [45] ++ d2 d ++ [84] ++ d2 h ++ [58] ++ d2 i ++ [58] ++ d2 s) (d4 y' ++ [45] ++ d2 m' ++ [45] ++ d2 d' ++ [84] ++ d2 h' ++ [58] ++ d2 i' ++ [58] ++ d2 s') = true
  simp only [List.append_assoc]
  rcases lt with k | ⟨rfl, k⟩
  · exact bl_app _ _ _ _ rfl (bl_d4 (by omega) k (by omega))
  refine bl_same _ _ _ (bl_same _ _ _ ?_)
  rcases k with k | ⟨rfl, k⟩
  · exact bl_app _ _ _ _ rfl (bl_d2 (by omega) k (by omega))
  refine bl_same _ _ _ (bl_same _ _ _ ?_)
  rcases k with k | ⟨rfl, k⟩
  · exact bl_app _ _ _ _ rfl (bl_d2 (by omega) k (by omega))
  refine bl_same _ _ _ (bl_same _ _ _ ?_)
  rcases k with k | ⟨rfl, k⟩
  · exact bl_app _ _ _ _ rfl (bl_d2 (by omega) k (by omega))
  refine bl_same _ _ _ (bl_same _ _ _ ?_)
  rcases k with k | ⟨rfl, k⟩
  · exact bl_app _ _ _ _ rfl (bl_d2 (by omega) k (by omega))
  refine bl_same _ _ _ (bl_same _ _ _ ?_)
  exact bl_d2 (by omega) k (by omega)
/-- A day behind another one has a later date. -/
theorem date_later {y m d y' m' d' : Int} (ok : okD y m d = true) (ok' : okD y' m' d' = true) (lt : dnum y m d < dnum y' m' d') : y < y' ∨ (y = y' ∧ (m < m' ∨ (m = m' ∧ d < d'))) := by
  obtain ⟨a1, a2, a3, a4, a5, a6⟩ := okD_t ok
  obtain ⟨b1, b2, b3, b4, b5, b6⟩ := okD_t ok'
  obtain ⟨p1, p2, p3, p4⟩ := dnum_at ok
  obtain ⟨q1, q2, q3, q4⟩ := dnum_at ok'
  by_cases c : y < y'
  · exact Or.inl c
  by_cases c2 : y' < y
  · have := yoff_mono ((y' - 1970).toNat + 1) (y - 1970).toNat (by omega); omega
  have e : y = y' := by omega
  subst e
  refine Or.inr ⟨rfl, ?_⟩
  by_cases c3 : m < m'
  · exact Or.inl c3
  by_cases c4 : m' < m
  · have := moff_mono y ((m' - 1).toNat + 1) (m - 1).toNat (by omega); omega
  have e : m = m' := by omega
  subst e
  refine Or.inr ⟨rfl, ?_⟩
  unfold dnum at lt
  omega
theorem lab_later {s s' : Int} (h0 : 0 ≤ s) (lt : s < s') (h1 : s' ≤ 86400) : (lab s).1 < (lab s').1 ∨ ((lab s).1 = (lab s').1 ∧ ((lab s).2.1 < (lab s').2.1 ∨ ((lab s).2.1 = (lab s').2.1 ∧ (lab s).2.2 < (lab s').2.2))) := by
  unfold lab
  rw [if_neg (show ¬ s = 86400 by omega)]
  split
  · simp only; omega
  · simp only; omega
end Go.Proofs.YthaajbdppmdhaacDoor
