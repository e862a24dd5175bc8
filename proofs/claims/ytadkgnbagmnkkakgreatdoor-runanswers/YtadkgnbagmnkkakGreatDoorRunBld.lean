/- A strings.Builder of the call's own: what its methods that write answer. -/
import Derived.Test.YtadkgnbagmnkkakGreatDoorNm05
import Derived.Lib.Builder
import Derived.Lib.AppendStr
import Derived.Lib.UnsafeStr
import Derived.Lib.SmallJoins
import Derived.Laws.Externs
import Derived.WalkKit
namespace Go.Proofs.YtadkgnbagmnkkakGreatDoor.rn
open Go.ChangeShapes Go.WideShapes Go.ChangeAt Go.RowKit Go.Joins
set_option linter.unusedVariables false
set_option linter.unusedSimpArgs false

set_option maxRecDepth 100000
theorem bld_size : (Tryz.prog.info? 49).map (·.size) = some 2 := by kernel_rfl
theorem bld_lies : liesAt Tryz.prog Tryz.prog.depth 49 (2 / Tryz.prog.cellsOf 49) 0 49 1 = true := by kernel_rfl
theorem infoB : (Tryz.prog.info? 5).map (fun i => (i.zero, i.size, i.bytes)) = some (some (.int .u8 0), 1, 1) := by kernel_rfl
theorem bcc_used (b : Nat) (w : World) (h0 : w.cell? ⟨b, 0, none⟩ = some (.pointer (some ⟨b, 0, none⟩))) : Calls Tryz.prog 40 #[.pointer (some ⟨b, 0, none⟩)] w fun e w' => e = .returned (.tuple #[]) ∧ w' = w := by
 obtain ⟨j, hj, _⟩ := Option.map_eq_some_iff.1 bld_size
 have q := Lib.run_neq_ptr_same (P := Tryz.prog) w ⟨b, 0, none⟩ Tryz.underlying46 hj
 go_enter Tryz.func40, Tryz.ntmps40
 go_wp2
 go_end0
 exact ⟨rfl, rfl⟩
theorem bcc_new (b : Nat) (w : World) (h0 : w.cell? ⟨b, 0, none⟩ = some (.pointer none)) (hs : w.shape? b = some (49, 2)) (hf : w.frozen? ⟨b, 0, none⟩ = false) : Calls Tryz.prog 40 #[.pointer (some ⟨b, 0, none⟩)] w fun e w' => e = .returned (.tuple #[]) ∧ w' = w.setCell ⟨b, 0, none⟩ (.pointer (some ⟨b, 0, none⟩)) := by
 obtain ⟨j, hj, hjs⟩ := Option.map_eq_some_iff.1 bld_size
 have q1 := Lib.run_to_unsafe (P := Tryz.prog) w ⟨b, 0, none⟩ Tryz.underlying46 Tryz.underlying145 hj (by rw [hjs]; decide) hs (Nat.zero_lt_succ 1)
 have q2 := Lib.run_from_unsafe (P := Tryz.prog) w ⟨b, 0, none⟩ Tryz.underlying145 Tryz.underlying46 hj hs bld_lies
 have q3 : (callFunc 69 #[.pointer (some ⟨b, 0, none⟩)]).run Tryz.prog w = .ok (.value (.pointer (some ⟨b, 0, none⟩))) w := by
  rw [run_callFunc_extern Tryz.func69 (by kernel_rfl) (by kernel_rfl) (by kernel_rfl) (e := Extern.AbiNoEscape.same) (by kernel_rfl), Lib.run_noEscape]
  rfl
 clear hj hjs
 go_enter Tryz.func40, Tryz.ntmps40
 go_wp2
 go_end0
 exact ⟨rfl, rfl⟩
theorem cells_app (x y : List UInt8) : Lib.byteCells x ++ Lib.byteCells y = Lib.byteCells (x ++ y) := by simp [Lib.byteCells]
theorem app_where {w : World} {B : Nat} {v : Value} {n : Nat} {xs : List Value} (hown : w.ownsRow B 5 1 v n xs) (s : ByteArray) (hb : n + s.size ≤ 1000000) (hB : B ≤ w.heap.size) :
  ∃ v' w', (Builtin.append_ #[47, 9] 47 #[v, .string s]).run Tryz.prog w = .ok v' w' ∧ w'.ownsRow B 5 1 v' (n + s.size) (xs ++ Lib.strCells s) ∧ w.grownBy w' v.ownBlock ∧ (v'.ownBlock = v.ownBlock ∨ v'.ownBlock = some w.heap.size) := by
 obtain ⟨i0, hi, hz0, hz1, hz2⟩ := info_parts infoB
 have hxl : xs.length = n := by simpa using hown.1
 obtain ⟨v', w', hr, h1, h2, h3⟩ := Lib.run_append_own_string (P := Tryz.prog) w B 47 9 47 5 i0 Tryz.underlying47 Tryz.underlying9 hi hz0 hz1 hz2 v n xs hown s (by unfold maxLen; omega) (by omega) hB
 refine ⟨v', w', hr, h1, h2, ?_⟩
 rcases hown.2 with ⟨rfl, rfl⟩ | ⟨g, cap, cur, rfl, hbg, hg, hnc, hcm, hcs, htake⟩
 ·by_cases hm : s.size = 0
  ·rw [h3.2 ⟨rfl, hm⟩]
   exact Or.inl rfl
  ·have hr' := run_append_nil_string (P := Tryz.prog) w 47 9 47 5 i0 (.int .u8 0) Tryz.underlying47 Tryz.underlying9 hi hz0 s (by omega) (by omega) (by rw [hz2]; omega)
   injection hr.symm.trans hr' with e1 e2
   rw [e1]
   exact Or.inr rfl
 ·by_cases hroom : n + s.size ≤ cap
  ·have hr' := Lib.run_append_room_string (P := Tryz.prog) w 47 9 47 5 i0 Tryz.underlying47 Tryz.underlying9 hi hz1 g n cap cur hg s hroom (by omega)
   injection hr.symm.trans hr' with e1 e2
   rw [e1]
   exact Or.inl rfl
  ·have hr' := Lib.run_append_grow_string (P := Tryz.prog) w 47 9 47 5 i0 (.int .u8 0) Tryz.underlying47 Tryz.underlying9 hi hz0 ⟨g, 0, none⟩ n cap xs (by rw [hz1]; simpa using hxl) (hown.cells (g := g) rfl) s (by omega) (by omega) (by rw [hz2]; exact growslice_fits (by omega) (by omega))
   injection hr.symm.trans hr' with e1 e2
   rw [e1]
   exact Or.inr rfl
theorem wp_append {ops : Array Oper} {rest : List Oper} {o : Oper} {a : Act} {w w' : World} {Q : Exit → Act → World → Prop} (hgd : o.guard = none) (sl x : Operand) (t u : TypeId) (ho : o.op = .call { callee := .builtin .append, args := #[sl, x], argTypes := #[t, u] }) {v s v' : Value} (hs : a.eval sl = v) (hx : a.eval x = s)
  (hr : (Builtin.append_ #[t, u] o.type #[v, s]).run Tryz.prog w = .ok v' w') (h : wpList Tryz.prog ops Q rest (a.put o.dst v') w') : wpList Tryz.prog ops Q (o :: rest) a w := by
 refine wpList_plain hgd fun K hK => ?_
 unfold Oper.wp execOp
 simp only [ho, resolve, invoke, builtin, Sem.run_bind, Sem.run_pure, Result.andThen_ok, List.map_toArray, List.map_cons, List.map_nil, hs, hx, hr]
 exact hK _ _ h
structure Bdv (B b : Nat) (v : Value) (x : List UInt8) (u : World) : Prop where
 lo : B ≤ b
 at_ : u.heap[b]? = some (.cells #[.pointer none, v] 49 (0, 0)) ∨ u.heap[b]? = some (.cells #[.pointer (some ⟨b, 0, none⟩), v] 49 (0, 0))
 own : u.ownsRow B 5 1 v x.length (Lib.byteCells x)
 ne : v.ownBlock ≠ some b
theorem Bdv.made (w : World) : Bdv w.heap.size w.heap.size (.slice none 0 0) [] (w.alloc (.cells #[.pointer none, .slice none 0 0] 49)) :=
 ⟨Nat.le_refl _, Or.inl (by show (w.heap.push _)[w.heap.size]? = _; simp), World.ownsRow_nil _ _ _ _, by simp [Value.ownBlock]⟩
theorem Bdv.lt {B b : Nat} {v : Value} {x : List UInt8} {w : World} (h : Bdv B b v x w) : b < w.heap.size := by
 rcases Nat.lt_or_ge b w.heap.size with q | q
 ·exact q
 ·rcases h.at_ with e | e <;> (rw [Array.getElem?_eq_none q] at e; cases e)
theorem Bdv.chk {B b : Nat} {v : Value} {x : List UInt8} {w : World} (h : Bdv B b v x w) : Calls Tryz.prog 40 #[.pointer (some ⟨b, 0, none⟩)] w fun e w' => e = .returned (.tuple #[]) ∧ w'.heap.size = w.heap.size ∧ w'.heap[b]? = some (.cells #[.pointer (some ⟨b, 0, none⟩), v] 49 (0, 0)) ∧ w'.ownsRow B 5 1 v x.length (Lib.byteCells x) ∧ Keeps (fun k => k = b) w w' := by
 rcases h.at_ with e | e
 ·have hbl : Lib.BuilderAt 49 5 B b (.pointer none) (Lib.byteCells x) w := ⟨h.lo, v, e, by rw [Lib.byteCells_length]; exact h.own, h.ne⟩
  refine (bcc_new b w hbl.cell0 hbl.shape hbl.frozen0).mono ?_
  rintro o w' ⟨rfl, rfl⟩
  refine ⟨rfl, by simp, ?_, ?_, Keeps.put rfl (Keeps.refl _ _)⟩
  ·simp [World.setCell, Array.getElem?_modify, e]
  ·exact h.own.kept (row := some b) ⟨rfl, rfl, rfl, by simp, fun k _ hk => Below.heap_setCell _ _ _ _ (fun e => hk (by simp [e]))⟩ (Or.inr h.ne)
 ·refine (bcc_used b w (by rw [Lib.cell_of_heap e]; rfl)).mono ?_
  rintro o w' ⟨rfl, rfl⟩
  exact ⟨rfl, rfl, e, h.own, Keeps.refl _ _⟩
set_option maxHeartbeats 2000000 in
theorem bws_any {B b : Nat} {v : Value} {x y : List UInt8} {w : World} (h : Bdv B b v x w) (hl : x.length + y.length ≤ 1000000) (hB : B ≤ w.heap.size) : Calls Tryz.prog 17 #[.pointer (some ⟨b, 0, none⟩), .string ⟨y.toArray⟩] w fun e w' => e = .returned (.tuple #[.int .i64 (y.length : Int), .nilIface]) ∧ ∃ v', Bdv B b v' (x ++ y) w' ∧ (v'.ownBlock = v.ownBlock ∨ v'.ownBlock = some w.heap.size) ∧ Keeps (fun k => k = b ∨ v.ownBlock = some k) w w' := by
 have hlt := h.lt
 have cC := h.chk
 have hsz : (⟨y.toArray⟩ : ByteArray).size = y.length := rfl
 have HN : Hid (v.ownBlock ≠ some b ∧ B ≤ b) := ⟨h.ne, h.lo⟩
 clear h
 go_enter Tryz.func17, Tryz.ntmps17
 go_wp2_with (first
  | (go_at_call 40; refine cC.mono ?_; rintro e w1 ⟨rfl, hz, hbk, hown, k1⟩; have c1 : w1.cell? ⟨b, 1, none⟩ = some v := (by rw [Lib.cell_of_heap hbk]; rfl); have HK : Hid (Keeps (fun k => k = b) w w1) := k1; obtain ⟨v', w2, hr, hown', hgrow, hwh⟩ := app_where hown ⟨y.toArray⟩ (by rw [hsz]; exact hl) (by omega); obtain ⟨ao, n2, cp, ev⟩ : ∃ ao n2 cp, v' = .slice ao n2 cp := (by rcases hown'.2 with ⟨hv, _⟩ | ⟨g, cap, cur, hv, _⟩ <;> exact ⟨_, _, _, hv⟩); rw [ev] at hr hown' hwh; clear ev v'; have hb2 : w2.heap[b]? = some (.cells #[.pointer (some ⟨b, 0, none⟩), v] 49 (0, 0)) := (hgrow.block b (by omega) (fun e => HN.out.1 e.symm)).trans hbk; have d1 : w2.cell? ⟨b, 1, none⟩ = some v := (by rw [Lib.cell_of_heap hb2]; rfl); have f1 : w2.frozen? ⟨b, 1, none⟩ = false := Lib.frozen_of_heap hb2 1; have HO : Hid (w2.ownsRow B 5 1 (.slice ao n2 cp) (x.length + (⟨y.toArray⟩ : ByteArray).size) (Lib.byteCells x ++ Lib.strCells ⟨y.toArray⟩)) := hown'; have HG : Hid (w1.grownBy w2 v.ownBlock) := hgrow; have HW : Hid ((Value.slice ao n2 cp).ownBlock = v.ownBlock ∨ (Value.slice ao n2 cp).ownBlock = some w1.heap.size) := hwh; have HB2 : Hid (w2.heap[b]? = some (.cells #[.pointer (some ⟨b, 0, none⟩), v] 49 (0, 0))) := hb2; have HZ : Hid (w1.heap.size = w.heap.size) := hz; have HR : Hid ((Builtin.append_ #[47, 9] 47 #[v, .string ⟨y.toArray⟩]).run Tryz.prog w1 = .ok (.slice ao n2 cp) w2) := hr; clear k1 hown' hgrow hwh hb2 hown hbk hz hr)
  | (at_builtin; refine wp_append rfl _ _ _ _ rfl rfl rfl HR.out ?_))
 go_ret2
 have KV : Keeps (fun k => k = b ∨ v.ownBlock = some k) w w2 := ⟨HG.out.os.trans HK.out.os, HG.out.tape.trans HK.out.tape, HG.out.output.trans HK.out.output, Nat.le_trans HK.out.size HG.out.size, fun k hk hn => (HG.out.block k (Nat.lt_of_lt_of_le hk HK.out.size) (fun e => hn (Or.inr e.symm))).trans (HK.out.block k hk (fun e => hn (Or.inl e)))⟩
 have hne' : (Value.slice ao n2 cp).ownBlock ≠ some b := by
  rcases HW.out with e | e
  ·rw [e]; exact HN.out.1
  ·rw [e, HZ.out]; intro q; have := Option.some.inj q; omega
 have ho2 : w2.ownsRow B 5 1 (.slice ao n2 cp) (x ++ y).length (Lib.byteCells (x ++ y)) := by
  have := HO.out
  rw [hsz, show Lib.strCells ⟨y.toArray⟩ = Lib.byteCells y from rfl, cells_app] at this
  rw [List.length_append]
  exact this
 refine ⟨rfl, .slice ao n2 cp, ⟨HN.out.2, Or.inr ?_, ?_, hne'⟩, ?_, Keeps.put (Or.inl rfl) KV⟩
 ·have := HB2.out
  simp [World.setCell, Array.getElem?_modify, this]
 ·exact ho2.kept (row := some b) ⟨rfl, rfl, rfl, by simp, fun k _ hk => Below.heap_setCell _ _ _ _ (fun e => hk (by simp [e]))⟩ (Or.inr hne')
 ·rw [← HZ.out]; exact HW.out
end Go.Proofs.YtadkgnbagmnkkakGreatDoor.rn
