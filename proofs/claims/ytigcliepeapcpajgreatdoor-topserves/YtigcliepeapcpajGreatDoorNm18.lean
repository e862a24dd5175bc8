/- What packages net, clock, keeper, leap, span and probe must answer where a net serves a clock. Package keeper, as TopServes wants it. -/
import Derived.Test.YtigcliepeapcpajGreatDoorNm12
import Derived.Test.YtigcliepeapcpajGreatDoorNm03
import Derived.Test.YtigcliepeapcpajGreatDoorNm04
import Derived.Lib.SmallJoins
import Derived.BigRegion
import Derived.Test.YtigcliepeapcpajGreatDoorNm16
namespace Go.Proofs.YtigcliepeapcpajGreatDoor
open Go.ChangeShapes Go.WideShapes Go.ChangeAt Go.RowKit Go.Joins
set_option linter.unusedVariables false
set_option linter.unusedSimpArgs false

/-- Package net: Offset and Show. -/
structure NtV (w0 : World) extends NtO w0 where
  read : ∀ (b : Nat) (F : Nat → Prop) (N : Nn) (i : Int) (u : World), R u b F N → N.T → In64 i → Calls Tryz.prog 9 #[.pointer (some ⟨b, 0, none⟩), .int .i64 i] u fun o w' => ((N.W.hs i ∧ o = .returned (.tuple #[.int .i64 (N.W.rd i.toNat), errc 0])) ∨ (¬ N.W.hs i ∧ o = .returned (.tuple #[.int .i64 0, errc 1]))) ∧ Below u.heap.size u w'
/-- Package keeper: New and Read. -/
structure KqS (w0 : World) where
  R : World → Nat → Kp → Prop
  lt : ∀ {u : World} {b : Nat} {c : Kp}, R u b c → b < u.heap.size
  on : ∀ {u u' : World} {b : Nat} {c : Kp}, R u b c → u'.heap[b]? = u.heap[b]? → R u' b c
  new : ∀ (a : Int) (u : World), Below w0.heap.size w0 u → 1 ≤ a → a ≤ 1000000 → Calls Tryz.prog 6 #[.int .i64 a] u fun o w' => ∃ b : Nat, o = .returned (.tuple #[.pointer (some ⟨b, 0, none⟩), .nilIface]) ∧ u.heap.size ≤ b ∧ R w' b (Kp.made a) ∧ Below u.heap.size u w'
  bad : ∀ (a : Int) (u : World), Below w0.heap.size w0 u → In64 a → (a < 1 ∨ 1000000 < a) → Calls Tryz.prog 6 #[.int .i64 a] u fun o w' => ∃ v : Value, o = .returned (.tuple #[v, .iface 71 (.int .i64 1)]) ∧ Below u.heap.size u w'
  read : ∀ (b : Nat) (c : Kp) (m : Nat) (x : Int) (u : World), Below w0.heap.size w0 u → w0.heap.size ≤ b → R u b c → c.I m → m ≤ 1000 → In64 x → Calls Tryz.prog 16 #[.pointer (some ⟨b, 0, none⟩), .int .i64 x] u fun o w' => o = .returned (.tuple #[.int .i64 (c.readN x), errc (c.readE x)]) ∧ R w' b (c.readC x) ∧ Keeps (fun k => k = b) u w'
/-- No leaps. -/
def q0L : Nat → Int × Bool := fun _ => (0, false)
/-- Packages leap, span and probe. -/
structure TpV (w0 : World) : Prop where
  utc : ∀ (x y m d h i s : Int) (u : World), Below w0.heap.size w0 u → In64 x → inS q0L 0 x → UtcL q0L 0 x y m d h i s → Calls Tryz.prog 17 #[.slice none 0 0, .int .i64 x] u fun r w' => r = .returned (.tuple #[lbl y m d h i s, .nilIface]) ∧ Below u.heap.size u w'
  print : ∀ (y m d h i s : Int) (u : World), Below w0.heap.size w0 u → okD y m d = true → okH h i s = true → Calls Tryz.prog 18 #[lbl y m d h i s] u fun r w' => r = .returned (.tuple #[.string (ltext y m d h i s), .nilIface]) ∧ Below u.heap.size u w'
  has : ∀ (lo hi x : Int) (u : World), okB lo hi = true → lo ≤ x → x ≤ hi → Calls Tryz.prog 14 #[.agg #[.int .i64 lo, .int .i64 hi], .int .i64 x] u fun o w' => o = .returned (.tuple #[.bool true, .nilIface]) ∧ Below u.heap.size u w'
  off : ∀ (u : World), Calls Tryz.prog 19 #[.agg #[.int .i64 0, .int .i64 100, .int .i64 100, .int .i64 10], .int .i64 0] u fun r w' => r = .returned (.tuple #[.agg #[.int .i64 90, .int .i64 102], .nilIface]) ∧ Below u.heap.size u w'
set_option maxRecDepth 100000 in
theorem one_serves {w0 : World} (O : TpV w0) (w : World) : Calls Tryz.prog 4 #[] w fun r w' => r = .returned (.bool true) ∧ Below w.heap.size w w' := by
  have cO := O.off
  clear O
  go_enter Tryz.func4, Tryz.ntmps4
  go_wp2_with (go_at_call 19; refine (cO _).mono ?_; rintro o u1 ⟨rfl, hb⟩; have B1 : Hid (Below w.heap.size w u1) := hb; clear hb)
  go_ret
  exact ⟨rfl, rbel_al B1.out⟩
/-- A net, a clock and a keeper, side by side. -/
structure Tv (w : World) (C : NtV w) (K : CpP w) (Q : KqS w) (u : World) (b : Nat) (F : Nat → Prop) (N : Nn) (cb : Nat) (c : Ck) (kb : Nat) (kp : Kp) (m : Nat) : Prop where
  n : Nv w C.toNt u b F N
  hc : K.R u cb c
  hk : Q.R u kb kp
  ci : c.I
  ki : kp.I m
  lc : w.heap.size ≤ cb
  lk : w.heap.size ≤ kb
  fc : ¬ F cb
  fk : ¬ F kb
  ne : cb ≠ kb
section
variable {w u v : World} {C : NtV w} {K : CpP w} {Q : KqS w} {b : Nat} {F F' : Nat → Prop} {N N' : Nn} {cb : Nat} {c c' : Ck} {kb : Nat} {kp kp' : Kp} {m m' : Nat}
theorem Tv.on (g : Tv w C K Q u b F N cb c kb kp m) (hb : Below u.heap.size u v) : Tv w C K Q v b F N cb c kb kp m :=
  ⟨g.n.on hb, K.on g.hc (hb.block cb (K.lt g.hc)), Q.on g.hk (hb.block kb (Q.lt g.hk)), g.ci, g.ki, g.lc, g.lk, g.fc, g.fk, g.ne⟩
theorem Tv.act (g : Tv w C K Q u b F N cb c kb kp m) {wh x y : Int} (h1 : In64 wh) (h2 : In64 x) (h3 : In64 y) (hD : NDoR N wh x y N' 0) : Calls Tryz.prog 8 #[.pointer (some ⟨b, 0, none⟩), .agg #[.int .i64 wh, .int .i64 x, .int .i64 y]] u fun o w' => o = .returned .nilIface ∧ ∃ F', Tv w C K Q w' b F' N' cb c kb kp m :=
  (g.n.act h1 h2 h3 hD).mono (by
    rintro o w' ⟨F', rfl, hn, hK, hF⟩
    have l1 := K.lt g.hc
    have l2 := Q.lt g.hk
    rw [errc_zero]
    exact ⟨rfl, F', hn, K.on g.hc (hK.block cb l1 g.fc), Q.on g.hk (hK.block kb l2 g.fk), g.ci, g.ki, g.lc, g.lk, fun q => (hF cb q).elim g.fc (fun q => by omega), fun q => (hF kb q).elim g.fk (fun q => by omega), g.ne⟩)
theorem Tv.clk (g : Tv w C K Q u b F N cb c kb kp m) (hR : K.R v cb c') (hI : c'.I) (hK : Keeps (fun k => k = cb) u v) : Tv w C K Q v b F N cb c' kb kp m := by
  have hw := kbel (B := 0) g.lc hK g.n.hw
  refine ⟨⟨C.on g.n.h hK.size (fun k hk => hK.block k (C.lt g.n.h k hk) (fun e => g.fc (e ▸ hk))), g.n.t, g.n.lo, hw⟩, hR, Q.on g.hk (hK.block kb (Q.lt g.hk) (fun e => g.ne e.symm)), hI, g.ki, g.lc, g.lk, g.fc, g.fk, g.ne⟩
theorem Tv.kee (g : Tv w C K Q u b F N cb c kb kp m) (hR : Q.R v kb kp') (hI : kp'.I m') (hK : Keeps (fun k => k = kb) u v) : Tv w C K Q v b F N cb c kb kp' m' := by
  have hw := kbel (B := 0) g.lk hK g.n.hw
  refine ⟨⟨C.on g.n.h hK.size (fun k hk => hK.block k (C.lt g.n.h k hk) (fun e => g.fk (e ▸ hk))), g.n.t, g.n.lo, hw⟩, K.on g.hc (hK.block cb (K.lt g.hc) g.ne), hR, g.ci, hI, g.lc, g.lk, g.fc, g.fk, g.ne⟩
end
/-- A label that was told: none, or that of what was told last. -/
def Lbl (l : Int) (t : ByteArray) : Prop := (l = -1 ∧ t = ⟨#[]⟩) ∨ ∃ y m d h i s, UtcL q0L 0 l y m d h i s ∧ okD y m d = true ∧ okH h i s = true ∧ t = ltext y m d h i s
theorem lps0 : Lps q0L 0 := ⟨fun i hi => by omega, fun i hi => by omega⟩
/-- A later second has a label that is above. -/
theorem Lbl.rise {l x y m d h i s : Int} {t : ByteArray} (g : Lbl l t) (hU : UtcL q0L 0 x y m d h i s) (ok : okD y m d = true) (oh : okH h i s = true) (lt : l < x) : Op.bytesLess (ltext y m d h i s).toList t.toList = false ∧ ((ltext y m d h i s).toList == t.toList) = false := by
  rcases g with ⟨_, rfl⟩ | ⟨y', m', d', h', i', s', hU', ok', oh', rfl⟩
  · refine ⟨?_, ?_⟩
    · rw [ByteArray.toList_eq, ByteArray.toList_eq]
      show Op.bytesLess _ [] = false
      cases (ltext y m d h i s).data.toList <;> rfl
    · rw [beq_eq_false_iff_ne, ByteArray.toList_eq, ByteArray.toList_eq]
      intro e
      have z := congrArg List.length e
      have z1 : (ltext y m d h i s).data.toList.length = 19 := by rw [Array.length_toList]; exact ltext_size y m d h i s
      rw [z1] at z
      cases z
  · have bl := ltext_less ok' ok oh' oh (hU'.later lps0 hU lt)
    refine ⟨?_, ?_⟩
    · rw [ByteArray.toList_eq, ByteArray.toList_eq]; exact bl_asym _ _ bl
    · rw [beq_eq_false_iff_ne, ByteArray.toList_eq, ByteArray.toList_eq]
      intro k
      rw [k, bl_irr] at bl
      cases bl
end Go.Proofs.YtigcliepeapcpajGreatDoor
namespace Go.Proofs.YtigcliepeapcpajGreatDoor
open Go.ChangeShapes Go.WideShapes Go.ChangeAt Go.RowKit Go.Joins
set_option linter.unusedVariables false

def kqs (w : World) : KqS w where
  R := PK
  lt := fun h => Blk.lt h
  on := fun h e => e.trans h
  new := fun a u _ h0 h1 => knew_ok a u h0 h1
  bad := fun a u _ _ h => knew_no a u h
  read := fun b c m x u _ _ hR hI hm _ => kread_any b c m x u hR hI hm
end Go.Proofs.YtigcliepeapcpajGreatDoor
