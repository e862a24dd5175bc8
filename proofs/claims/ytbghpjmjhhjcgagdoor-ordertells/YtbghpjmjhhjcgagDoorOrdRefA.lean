/- What the document's own reckoning (package noonref2) answers of events: Events, Each. -/
import Derived.Test.YtbghpjmjhhjcgagDoorOrdDef
import Derived.Test.YtbghpjmjhhjcgagDoorRefSpan
import Derived.BigQuiet
import Derived.Deep.QuietTactic
import Derived.IntWalk
namespace Go.Proofs.YtbghpjmjhhjcgagDoor
open Go.ChangeShapes Go.WideShapes Go.ChangeAt Go.RowKit Go.Joins
set_option linter.unusedVariables false
set_option linter.unusedSimpArgs false

/-- The span of one is right. -/
def okOf (f : Nat → Ev) (i : Nat) : Prop := okB (f i).lo (f i).hi = true
set_option maxRecDepth 100000 in
set_option maxHeartbeats 4000000 in
theorem revents_ex (ad : Option Addr) (n cap : Nat) (f : Nat → Ev) (w : World) (hH : VHanded w ad n f) : Calls Tryd.prog 17 #[.slice ad n cap] w fun e w' => ∃ r, e = .returned (.int .i64 r) ∧ EvE n f r ∧ Below w.heap.size w w' := by
  have hn := hH.1
  have HP : Hid (n = 0 ∨ ∃ b off : Nat, ad = some ⟨b, off, none⟩ ∧ Evs w b off n f) := hH.2
  clear hH
  by_cases h12 : 12 < n
  · have h' : (12 : Int) < n := by omega
    go_enter Tryd.func17, Tryd.ntmps17
    go_wp2
    go_ret
    exact ⟨4, rfl, Or.inl ⟨h12, rfl⟩, Below.refl _ _⟩
  have h' : ¬ ((12 : Int) < n) := by omega
  have H12 : Hid (n ≤ 12) := by show n ≤ 12; omega
  go_enter Tryd.func17, Tryd.ntmps17
  go_wp2
  go_loopw [3] (fun v wr => ∃ i : Nat, i ≤ n ∧ v = .int .i64 i ∧ (∀ j, j < i → okAt f j) ∧ Below w.heap.size w wr) (fun i _ => n - (intOf i).toNat)
  case atStart => exact ⟨0, Nat.zero_le _, rfl, fun j hj => by omega, Below.refl _ _⟩
  case round =>
    obtain ⟨i, hi, rfl, hok, hw⟩ := hrel
    have HW : Hid (Below w.heap.size w wr) := hw
    have HO : Hid (∀ j, j < i → okAt f j) := hok
    clear hok
    by_cases hlt : i < n
    · have hl3 : (i : Int) < n := by omega
      obtain ⟨b, off, rfl, hP⟩ : ∃ b off : Nat, ad = some ⟨b, off, none⟩ ∧ Evs w b off n f := by
        rcases HP.out with e | h
        · omega
        · exact h
      have HPl : Hid (Evs w b off n f) := hP
      obtain ⟨x0, x1, x2⟩ := (hP.on hw) i hlt
      have cS := fun u => rspan_any (f i).lo (f i).hi u
      cases ho : okB (f i).lo (f i).hi with
      | false =>
        rw [ho] at cS
        have HR : Hid (EvE n f 1) := Or.inr (Or.inl ⟨H12.out, i, hlt, HO.out, Or.inl ⟨ho, rfl⟩⟩)
        clear HP hP ho HPl hw
        generalize (f i).lo = l1 at *
        generalize (f i).hi = l2 at *
        go_wp2_with (go_at_call 7; refine (cS _).mono ?_; rintro e u0 ⟨rfl, hb⟩; have HB : Hid (Below w.heap.size w u0) := rbel_on hb HW.out; clear hb)
        go_ret
        exact ⟨1, rfl, HR.out, HB.out⟩
      | true =>
        rw [ho] at cS
        have HOk : Hid (okOf f i) := ho
        clear HP hP ho hw
        generalize (f i).lo = l1 at *
        generalize (f i).hi = l2 at *
        go_wp2_with (go_at_call 7; refine (cS _).mono ?_; rintro e u0 ⟨rfl, hb⟩; have HB : Hid (Below w.heap.size w u0) := rbel_on hb HW.out; clear hb)
        clear cS HW x1 x2
        go_loopw [5] (fun v wr => ∃ k : Nat, k ≤ i ∧ v = .int .i64 k ∧ (∀ j, j < k → (f j).id ≠ (f i).id) ∧ Below w.heap.size w wr) (fun v _ => i - (intOf v).toNat)
        case atStart => exact ⟨0, Nat.zero_le _, rfl, fun j hj => by omega, HB.out⟩
        case round =>
          clear HB x0
          obtain ⟨k, hk, rfl, hid, hw⟩ := hrel
          have HW : Hid (Below w.heap.size w wr) := hw
          have HD : Hid (∀ j, j < k → (f j).id ≠ (f i).id) := hid
          clear hid
          by_cases hki : k < i
          · have hl4 : (k : Int) < i := by omega
            have hl5 : (k : Int) < n := by omega
            obtain ⟨y0, _, _⟩ := (HPl.out.on hw) k (by omega)
            obtain ⟨z0, _, _⟩ := (HPl.out.on hw) i hlt
            have zb : b < wr.heap.size := World.block_lt_of_cell? _ _ y0
            clear hw
            by_cases e : (f k).id = (f i).id
            · have HR : Hid (EvE n f 3) := Or.inr (Or.inl ⟨H12.out, i, hlt, HO.out, Or.inr ⟨HOk.out, ⟨k, hki, e⟩, rfl⟩⟩)
              rw [e] at y0
              clear HD e HOk HO HPl
              generalize (f i).id = d at *
              go_wp2
              go_quiet (fail)
              go_wp2
              go_ret
              exact ⟨3, rfl, HR.out, rbel_drn HW.out⟩
            · have HN : Hid (∀ j, j < k + 1 → (f j).id ≠ (f i).id) := fun j hj => by
                by_cases q : j = k
                · rw [q]; exact e
                · exact HD.out j (by omega)
              clear HD HOk HO HPl
              go_wp2
              go_quiet (fail)
              go_wp2
              go_roundw
              case rel => exact ⟨k + 1, by omega, by go_num, HN.out, rbel_drn HW.out⟩
              case measure => simp [intOf]; omega
          · have hl4 : ¬ ((k : Int) < i) := by omega
            have ki : k = i := by omega
            have HN : Hid (∀ j, j < i + 1 → okAt f j) := fun j hj => by
              by_cases q : j = i
              · rw [q]; exact ⟨HOk.out, by rw [← ki]; rw [← ki] at HD; exact HD.out⟩
              · exact HO.out j (by omega)
            clear HD HOk HO HPl hw
            go_wp2
            go_roundw
            case rel => exact ⟨i + 1, by omega, by go_num, HN.out, HW.out⟩
            case measure => simp [intOf]; omega
    · have hl3 : ¬ ((i : Int) < n) := by omega
      have HR : Hid (EvE n f 0) := Or.inr (Or.inr ⟨H12.out, fun j hj => HO.out j (by omega), rfl⟩)
      clear HO HP hw
      go_wp2
      go_ret
      exact ⟨0, rfl, HR.out, HW.out⟩
theorem revents_any (ad : Option Addr) (n cap : Nat) (f : Nat → Ev) (e : Int) (w : World) (hH : VHanded w ad n f) (hE : EvE n f e) : Calls Tryd.prog 17 #[.slice ad n cap] w fun o w' => o = .returned (.int .i64 e) ∧ Below w.heap.size w w' :=
  (revents_ex ad n cap f w hH).mono (by
    rintro o w' ⟨r, rfl, hr, hb⟩
    rw [hE.one hr]
    exact ⟨rfl, hb⟩)
/-- Does an order name each once? -/
def EaR (n : Nat) (o : Nat → Int) (m : Nat) (w : World) (e : Ending) (w' : World) : Prop := ∃ b : Bool, e = .returned (.bool b) ∧ (b = true ↔ EachP n o m) ∧ Below w.heap.size w w'
set_option maxRecDepth 100000 in
set_option maxHeartbeats 4000000 in
theorem reach_ex (n : Nat) (oa : Option Addr) (m oc : Nat) (o : Nat → Int) (w : World) (hn : n ≤ 12) (hH : NHanded w oa m o) : Calls Tryd.prog 20 #[.int .i64 n, .slice oa m oc] w fun e w' => EaR n o m w e w' := by
  have hm := hH.1
  have HP : Hid (m = 0 ∨ ∃ b off : Nat, oa = some ⟨b, off, none⟩ ∧ Nrd w b off m o) := hH.2
  clear hH
  by_cases hmn : m = n
  case neg =>
    have h' : ¬ ((m : Int) = n) := by omega
    go_enter Tryd.func20, Tryd.ntmps20
    go_wp2
    go_ret
    exact ⟨false, rfl, ⟨fun e => (by cases e), fun e => absurd e.1 hmn⟩, Below.refl _ _⟩
  subst hmn
  go_enter Tryd.func20, Tryd.ntmps20
  go_wp2
  go_loopw [5] (fun v wr => ∃ i : Nat, i ≤ m ∧ v = .int .i64 i ∧ (∀ j, j < i → 0 ≤ o j ∧ o j < m ∧ ∀ k, k < j → o k ≠ o j) ∧ Below w.heap.size w wr) (fun i _ => m - (intOf i).toNat)
  case atStart => exact ⟨0, Nat.zero_le _, rfl, fun j hj => by omega, Below.refl _ _⟩
  case round =>
    obtain ⟨i, hi, rfl, hok, hw⟩ := hrel
    have HW : Hid (Below w.heap.size w wr) := hw
    have HO : Hid (∀ j, j < i → 0 ≤ o j ∧ o j < m ∧ ∀ k, k < j → o k ≠ o j) := hok
    clear hok
    by_cases hlt : i < m
    · have hl3 : (i : Int) < m := by omega
      obtain ⟨b, off, rfl, hP⟩ : ∃ b off : Nat, oa = some ⟨b, off, none⟩ ∧ Nrd w b off m o := by
        rcases HP.out with e | h
        · omega
        · exact h
      have HPl : Hid (Nrd w b off m o) := hP
      have x0 := (hP.on hw) i hlt
      clear hP hw HP
      by_cases c1 : o i < 0
      · have HR : Hid (¬ EachP m o m) := fun e => by have := (e.2 i hlt).1; omega
        clear HPl HO
        generalize o i = d at *
        go_wp2
        go_ret
        exact ⟨false, rfl, ⟨fun e => (by cases e), fun e => absurd e HR.out⟩, HW.out⟩
      by_cases c2 : (m : Int) ≤ o i
      · have HR : Hid (¬ EachP m o m) := fun e => by have := (e.2 i hlt).2.1; omega
        have c1' : decide (o i < 0) = false := decide_eq_false c1
        clear HPl HO
        generalize o i = d at *
        go_wp2
        go_ret
        exact ⟨false, rfl, ⟨fun e => (by cases e), fun e => absurd e HR.out⟩, HW.out⟩
      have c2' : ¬ ((m : Int) ≤ o i) := c2
      have HG : Hid (0 ≤ o i ∧ o i < m) := ⟨by omega, by omega⟩
      have c1' : decide (o i < 0) = false := decide_eq_false c1
      go_wp2
      clear x0
      go_loopw [6] (fun v wr => ∃ k : Nat, k ≤ i ∧ v = .int .i64 k ∧ (∀ j, j < k → o j ≠ o i) ∧ Below w.heap.size w wr) (fun v _ => i - (intOf v).toNat)
      case atStart => exact ⟨0, Nat.zero_le _, rfl, fun j hj => by omega, HW.out⟩
      case round =>
        clear HW
        obtain ⟨k, hk, rfl, hid, hw⟩ := hrel
        have HW : Hid (Below w.heap.size w wr) := hw
        have HD : Hid (∀ j, j < k → o j ≠ o i) := hid
        clear hid
        by_cases hki : k < i
        · have hl4 : (k : Int) < i := by omega
          have hl5 : (k : Int) < m := by omega
          have y0 := (HPl.out.on hw) k (by omega)
          have z0 := (HPl.out.on hw) i hlt
          have zb : b < wr.heap.size := World.block_lt_of_cell? _ _ y0
          clear hw
          by_cases e : o k = o i
          · have HR : Hid (¬ EachP m o m) := fun q => (q.2 i hlt).2.2 k hki e
            rw [e] at y0
            clear HD e HO HPl HG c1 c2 c1' c2'
            generalize o i = d at *
            go_wp2
            go_quiet (fail)
            go_wp2
            go_ret
            exact ⟨false, rfl, ⟨fun e => (by cases e), fun e => absurd e HR.out⟩, rbel_drn HW.out⟩
          · have HN : Hid (∀ j, j < k + 1 → o j ≠ o i) := fun j hj => by
              by_cases q : j = k
              · rw [q]; exact e
              · exact HD.out j (by omega)
            clear HD HO HPl HG c1 c2 c1' c2'
            go_wp2
            go_quiet (fail)
            go_wp2
            go_roundw
            case rel => exact ⟨k + 1, by omega, by go_num, HN.out, rbel_drn HW.out⟩
            case measure => simp [intOf]; omega
        · have hl4 : ¬ ((k : Int) < i) := by omega
          have ki : k = i := by omega
          have HN : Hid (∀ j, j < i + 1 → 0 ≤ o j ∧ o j < m ∧ ∀ k, k < j → o k ≠ o j) := fun j hj => by
            by_cases q : j = i
            · rw [q]; exact ⟨HG.out.1, HG.out.2, by rw [← ki]; rw [← ki] at HD; exact HD.out⟩
            · exact HO.out j (by omega)
          clear HD HO HPl hw HG c1 c2 c1' c2'
          go_wp2
          go_roundw
          case rel => exact ⟨i + 1, by omega, by go_num, HN.out, HW.out⟩
          case measure => simp [intOf]; omega
    · have hl3 : ¬ ((i : Int) < m) := by omega
      have HR : Hid (EachP m o m) := ⟨rfl, fun j hj => HO.out j (by omega)⟩
      clear HO HP hw
      go_wp2
      go_ret
      exact ⟨true, rfl, ⟨fun _ => HR.out, fun _ => rfl⟩, HW.out⟩
end Go.Proofs.YtbghpjmjhhjcgagDoor
