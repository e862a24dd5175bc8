/- What errors.As gives of an error, at a target of the type of a line's error; the name by which an error is answered. -/
import Derived.Test.YtadkgnbagmnkkakGreatDoorToldAs
import Derived.Test.YtadkgnbagmnkkakGreatDoorNm07
import Derived.Test.YtadkgnbagmnkkakGreatDoorNm08
import Derived.WalkKit
import Derived.LaidEql
import Derived.Stop.Asserts
import Derived.RowKitTokens
namespace Go.Proofs.YtadkgnbagmnkkakGreatDoor.told
open Go.RowKit Go.Extern.Stop Go.Stop Go.Extern
set_option linter.unusedVariables false

set_option maxHeartbeats 4000000
theorem valueOfPL (t : Addr) (w : World) : (ReflectliteValue.unpack (.iface 100 (.pointer (some t)))).run Tryz.prog w
  = .ok (.agg #[.pointer (some ⟨16, 100, none⟩), .pointer (some ⟨w.heap.size, 0, none⟩), .int .u64 150]) (w.alloc (.cells #[.pointer (some t)] 100)) := by kernel_rfl
theorem typePL (a : Addr) (w : World) : (ReflectliteValue.methodAny (ReflectliteValue.valueError "reflectlite.Value.Type" 0) (fun t _ _ _ => ReflectliteType.toType t) #[.agg #[.pointer (some ⟨16, 100, none⟩), .pointer (some a), .int .u64 150]]).run Tryz.prog w
  = .ok (.iface 194 (.agg #[.pointer (some ⟨16, 100, none⟩)])) w := by kernel_rfl
theorem kindPL (w : World) : ((ReflectliteType.abiMethod fun t => (fun a : Nat => Value.int IntKind.u8 (a : Int)) <$> Rtype.kind t) #[.pointer (some ⟨16, 100, none⟩)]).run Tryz.prog w = .ok (.int .u8 22) w := by kernel_rfl
theorem kindL (w : World) : ((ReflectliteType.abiMethod fun t => (fun a : Nat => Value.int IntKind.u8 (a : Int)) <$> Rtype.kind t) #[.pointer (some ⟨16, 98, none⟩)]).run Tryz.prog w = .ok (.int .u8 25) w := by kernel_rfl
theorem methPL (z : Sem Value) (f : TypeId → Addr → Nat → Nat → Sem Value) (a : Addr) (W : World) :
  (ReflectliteValue.method z f #[.agg #[.pointer (some ⟨16, 100, none⟩), .pointer (some a), .int .u64 150]]).run Tryz.prog W = (f 100 a 150 22).run Tryz.prog W := by kernel_rfl
theorem isNilPL (a p : Addr) (W : World) (ha : W.cell? a = some (.pointer (some p))) :
  (ReflectliteValue.method (ReflectliteValue.valueError "reflectlite.Value.IsNil" 0) ReflectliteValue.isNil #[.agg #[.pointer (some ⟨16, 100, none⟩), .pointer (some a), .int .u64 150]]).run Tryz.prog W = .ok (.bool false) W := by
 rw [methPL]
 simp [ReflectliteValue.isNil, loadVar, isAgg, underlying, Tryz.underlying100, ha, Result.andThen]
theorem elemPL (w : World) : (ReflectliteType.method ReflectliteType.elem #[.agg #[.pointer (some ⟨16, 100, none⟩)]]).run Tryz.prog w = .ok (.iface 194 (.agg #[.pointer (some ⟨16, 98, none⟩)])) w := by kernel_rfl
theorem implementsL (w : World) : (ReflectliteType.relation "Implements" ReflectliteType.implements_ #[.agg #[.pointer (some ⟨16, 98, none⟩)], .iface 194 (.agg #[.pointer (some ⟨16, 36, none⟩)])]).run Tryz.prog w = .ok (.bool true) w := by kernel_rfl
theorem typeOfL (v : Value) (w : World) : (ReflectliteType.typeOf #[.iface 98 v]).run Tryz.prog w = .ok (.iface 194 (.agg #[.pointer (some ⟨16, 98, none⟩)])) w := by kernel_rfl
theorem assignableLL (w : World) : (ReflectliteType.relation "AssignableTo" ReflectliteType.assignableTo #[.agg #[.pointer (some ⟨16, 98, none⟩)], .iface 194 (.agg #[.pointer (some ⟨16, 98, none⟩)])]).run Tryz.prog w = .ok (.bool true) w := by kernel_rfl
theorem assignableEL (w : World) : (ReflectliteType.relation "AssignableTo" ReflectliteType.assignableTo #[.agg #[.pointer (some ⟨16, 86, none⟩)], .iface 194 (.agg #[.pointer (some ⟨16, 98, none⟩)])]).run Tryz.prog w = .ok (.bool false) w := by kernel_rfl
theorem valueOfL (k : Int) (w : World) : (ReflectliteValue.unpack (.iface 98 (.agg #[.int .i64 k]))).run Tryz.prog w
  = .ok (.agg #[.pointer (some ⟨16, 98, none⟩), .pointer (some ⟨w.heap.size, 0, none⟩), .int .u64 153]) (w.alloc (.cells #[.int .i64 k] 98)) := by kernel_rfl
theorem elemOfPL (w : World) : (Rtype.elem? 100).run Tryz.prog w = .ok (some 98) w := by kernel_rfl
theorem mkL (p : Addr) (w : World) : (ReflectliteValue.mk 98 p ReflectliteValue.flagAddr).run Tryz.prog w = .ok (.agg #[.pointer (some ⟨16, 98, none⟩), .pointer (some p), .int .u64 409]) w := by kernel_rfl
theorem elemVPL (a p : Addr) (W : World) (ha : W.cell? a = some (.pointer (some p))) :
  (ReflectliteValue.method (ReflectliteValue.valueError "reflectlite.Value.Elem" 0) ReflectliteValue.elem #[.agg #[.pointer (some ⟨16, 100, none⟩), .pointer (some a), .int .u64 150]]).run Tryz.prog W
   = .ok (.agg #[.pointer (some ⟨16, 98, none⟩), .pointer (some p), .int .u64 409]) W := by
 rw [methPL]
 simp [ReflectliteValue.elem, loadVar, isAgg, underlying, Tryz.underlying100, ha, Result.andThen, elemOfPL, mkL]
theorem setL0 (ta b : Addr) (W : World) :
  (ReflectliteValue.set #[.agg #[.pointer (some ⟨16, 98, none⟩), .pointer (some ta), .int .u64 409], .agg #[.pointer (some ⟨16, 98, none⟩), .pointer (some b), .int .u64 153]]).run Tryz.prog W
   = (loadVar 98 b >>= fun v => storeVar 98 ta v >>= fun _ => pure (.tuple #[])).run Tryz.prog W := by kernel_rfl
theorem setL (ta b : Addr) (k : Int) (old : Value) (W : World) (hb : W.cell? b = some (.int .i64 k)) (ht : W.cell? ta = some old) (hf : W.frozen? ta = false) (hz : ta.add 0 = ta) (hz2 : b.add 0 = b) :
  (ReflectliteValue.set #[.agg #[.pointer (some ⟨16, 98, none⟩), .pointer (some ta), .int .u64 409], .agg #[.pointer (some ⟨16, 98, none⟩), .pointer (some b), .int .u64 153]]).run Tryz.prog W
   = .ok (.tuple #[]) (W.setCell ta (.int .i64 k)) := by
 rw [setL0]
 have l1 : (loadCells b 1).run Tryz.prog W = .ok #[.int .i64 k] W := by simp [loadCells, loadCellsFrom, hz2, hb, Result.andThen]
 have l2 : (storeCells ta [.int .i64 k]).run Tryz.prog W = .ok () (W.setCell ta (.int .i64 k)) := by
  simp only [storeCells, hz]
  rw [show (store ta (.int .i64 k) >>= fun _ => pure ()) = (do store ta (.int .i64 k); pure ()) from rfl]
  simp only [Sem.run_bind]
  rw [run_store Tryz.prog W ta _ _ (by rfl)]
  simp [ht, hf, Result.andThen]
 simp [loadVar, isAgg, underlying, Tryz.underlying98, Result.andThen, storeVar, Value.cells, l1, l2]
theorem noAsE (v : Value) (xT : TypeId) (w : World) : (Instr.typeAssert (.iface 86 v) xT 199 true).run Tryz.prog w = .ok (.tuple #[.nilIface, .bool false]) w := run_typeAssert_lacksB Tryz.underlying199 (by kernel_rfl) (by kernel_rfl) v xT w
theorem noUnE (v : Value) (xT : TypeId) (w : World) : (Instr.typeAssert (.iface 86 v) xT 202 true).run Tryz.prog w = .ok (.tuple #[.nilIface, .bool false]) w := run_typeAssert_lacksB Tryz.underlying202 (by kernel_rfl) (by kernel_rfl) v xT w
theorem noUnsE (v : Value) (xT : TypeId) (w : World) : (Instr.typeAssert (.iface 86 v) xT 204 true).run Tryz.prog w = .ok (.tuple #[.nilIface, .bool false]) w := run_typeAssert_lacksB Tryz.underlying204 (by kernel_rfl) (by kernel_rfl) v xT w
theorem as_lineL (k : Int) (t : Addr) (old : Value) (w : World) (hg : EnvE w) (ht0 : w.cell? t = some old) (hf0 : w.frozen? t = false) (hz : ∀ a : Addr, t = a → a.add 0 = a) :
  Calls Tryz.prog 35 #[.iface 98 (.agg #[.int .i64 k]), .iface 100 (.pointer (some t))] w fun ev w' => ev = .returned (.bool true) ∧ w' = ((((w.alloc (.cells #[.pointer (some t)] 100)).alloc (.cells #[.pointer (some ⟨16, 100, none⟩), .pointer (some ⟨w.heap.size, 0, none⟩), .int .u64 150] 148)).alloc (.cells #[.pointer (some ⟨16, 100, none⟩), .pointer (some ⟨w.heap.size, 0, none⟩), .int .u64 150] 148)).alloc (.cells #[.int .i64 k] 98)).setCell t (.int .i64 k) := by
 unfold EnvE at hg
 have h6 := @run_callFunc_extern Tryz.prog 64 _ (fun args => ReflectliteValue.unpack (args.getD 0 (.tuple #[]))) Tryz.func64 (by kernel_rfl) (by kernel_rfl) (by kernel_rfl) (by kernel_rfl)
 have h7 := @run_callFunc_extern Tryz.prog 65 _ (ReflectliteValue.methodAny (ReflectliteValue.valueError "reflectlite.Value.Type" 0) (fun t _ _ _ => ReflectliteType.toType t)) Tryz.func65 (by kernel_rfl) (by kernel_rfl) (by kernel_rfl) (by kernel_rfl)
 have h8 := @run_callFunc_extern Tryz.prog 66 _ (ReflectliteValue.method (ReflectliteValue.valueError "reflectlite.Value.IsNil" 0) ReflectliteValue.isNil) Tryz.func66 (by kernel_rfl) (by kernel_rfl) (by kernel_rfl) (by kernel_rfl)
 have h27 := @run_callFunc_extern Tryz.prog 226 _ (ReflectliteType.abiMethod fun t => do pure (.int .u8 (← Rtype.kind t))) Tryz.func226 (by kernel_rfl) (by kernel_rfl) (by kernel_rfl) (by kernel_rfl)
 have h37 := @run_callFunc_extern Tryz.prog 238 _ (ReflectliteType.method ReflectliteType.elem) Tryz.func238 (by kernel_rfl) (by kernel_rfl) (by kernel_rfl) (by kernel_rfl)
 have h38 := @run_callFunc_extern Tryz.prog 239 _ (ReflectliteType.relation "Implements" ReflectliteType.implements_) Tryz.func239 (by kernel_rfl) (by kernel_rfl) (by kernel_rfl) (by kernel_rfl)
 have h10 := @run_callFunc_extern Tryz.prog 97 _ ReflectliteType.typeOf Tryz.func97 (by kernel_rfl) (by kernel_rfl) (by kernel_rfl) (by kernel_rfl)
 have h35 := @run_callFunc_extern Tryz.prog 236 _ (ReflectliteType.relation "AssignableTo" ReflectliteType.assignableTo) Tryz.func236 (by kernel_rfl) (by kernel_rfl) (by kernel_rfl) (by kernel_rfl)
 have h11 := @run_callFunc_extern Tryz.prog 98 _ (ReflectliteValue.method (ReflectliteValue.valueError "reflectlite.Value.Elem" 0) ReflectliteValue.elem) Tryz.func98 (by kernel_rfl) (by kernel_rfl) (by kernel_rfl) (by kernel_rfl)
 have h12 := @run_callFunc_extern Tryz.prog 99 _ ReflectliteValue.set Tryz.func99 (by kernel_rfl) (by kernel_rfl) (by kernel_rfl) (by kernel_rfl)
 have mA := methodAssignableTo
 have f6 := valueOfPL
 have f7 := typePL
 have mK := methodKind
 have mE := methodElem
 have mI := methodImplements
 have kP := kindPL
 have kE := kindL
 have eP := elemPL
 have iE := implementsL
 have n8 := isNilPL ⟨w.heap.size, 0, none⟩ t ((w.alloc (.cells #[.pointer (some t)] 100)).alloc (.cells #[.pointer (some ⟨16, 100, none⟩), .pointer (some ⟨w.heap.size, 0, none⟩), .int .u64 150] 148)) (by simp)
 have hlt : 0 < w.heap.size := World.block_lt_of_cell? _ _ hg
 have hg2 : ((w.alloc (.cells #[.pointer (some t)] 100)).alloc (.cells #[.pointer (some ⟨16, 100, none⟩), .pointer (some ⟨w.heap.size, 0, none⟩), .int .u64 150] 148)).cell? ⟨0, 0, none⟩ = some (.iface 194 (.agg #[.pointer (some ⟨16, 36, none⟩)])) := by
  rw [World.cell?_alloc_lt _ _ ⟨0, 0, none⟩ (by first | (simp; done) | (simp; omega)), World.cell?_alloc_lt _ _ ⟨0, 0, none⟩ hlt]; exact hg
 have htl : t.block < w.heap.size := World.block_lt_of_cell? _ _ ht0
 have tO := typeOfL
 have aE := assignableLL
 have vE := valueOfL
 have el := elemVPL ⟨w.heap.size, 0, none⟩ t (((w.alloc (.cells #[.pointer (some t)] 100)).alloc (.cells #[.pointer (some ⟨16, 100, none⟩), .pointer (some ⟨w.heap.size, 0, none⟩), .int .u64 150] 148)).alloc (.cells #[.pointer (some ⟨16, 100, none⟩), .pointer (some ⟨w.heap.size, 0, none⟩), .int .u64 150] 148)) (by rw [World.cell?_alloc_lt _ _ ⟨w.heap.size, 0, none⟩ (by simp; omega), World.cell?_alloc_lt _ _ ⟨w.heap.size, 0, none⟩ (by simp)]; simp)
 have st := setL t ⟨w.heap.size + 1 + 1 + 1, 0, none⟩ k old ((((w.alloc (.cells #[.pointer (some t)] 100)).alloc (.cells #[.pointer (some ⟨16, 100, none⟩), .pointer (some ⟨w.heap.size, 0, none⟩), .int .u64 150] 148)).alloc (.cells #[.pointer (some ⟨16, 100, none⟩), .pointer (some ⟨w.heap.size, 0, none⟩), .int .u64 150] 148)).alloc (.cells #[.int .i64 k] 98))
  (by rw [World.cell?_alloc_at _ _ _ _ (by simp)]; rfl)
  (by rw [World.cell?_alloc_lt _ _ t (by simp; omega), World.cell?_alloc_lt _ _ t (by simp; omega), World.cell?_alloc_lt _ _ t (by simp; omega), World.cell?_alloc_lt _ _ t htl]; exact ht0)
  (by rw [World.frozen?_alloc_old _ _ t (by simp; omega), World.frozen?_alloc_old _ _ t (by simp; omega), World.frozen?_alloc_old _ _ t (by simp; omega), World.frozen?_alloc_old _ _ t (Nat.ne_of_lt htl)]; exact hf0) (hz t rfl) rfl
 go_enter Tryz.func35, Tryz.ntmps35
 go_wp2
 refine wp_loop_rounds 1 ?_
 rw [rounds_succ]
 go_wp2
 go_ret
 exact ⟨rfl, rfl⟩
theorem as_other (k : Int) (t : Addr) (old : Value) (w : World) (hg : EnvE w) (ht0 : w.cell? t = some old) (hf0 : w.frozen? t = false) :
  Calls Tryz.prog 35 #[.iface 86 (.int .i64 k), .iface 100 (.pointer (some t))] w fun ev w' => ev = .returned (.bool false) ∧ Below w.heap.size w w' := by
 unfold EnvE at hg
 have h6 := @run_callFunc_extern Tryz.prog 64 _ (fun args => ReflectliteValue.unpack (args.getD 0 (.tuple #[]))) Tryz.func64 (by kernel_rfl) (by kernel_rfl) (by kernel_rfl) (by kernel_rfl)
 have h7 := @run_callFunc_extern Tryz.prog 65 _ (ReflectliteValue.methodAny (ReflectliteValue.valueError "reflectlite.Value.Type" 0) (fun t _ _ _ => ReflectliteType.toType t)) Tryz.func65 (by kernel_rfl) (by kernel_rfl) (by kernel_rfl) (by kernel_rfl)
 have h8 := @run_callFunc_extern Tryz.prog 66 _ (ReflectliteValue.method (ReflectliteValue.valueError "reflectlite.Value.IsNil" 0) ReflectliteValue.isNil) Tryz.func66 (by kernel_rfl) (by kernel_rfl) (by kernel_rfl) (by kernel_rfl)
 have h27 := @run_callFunc_extern Tryz.prog 226 _ (ReflectliteType.abiMethod fun t => do pure (.int .u8 (← Rtype.kind t))) Tryz.func226 (by kernel_rfl) (by kernel_rfl) (by kernel_rfl) (by kernel_rfl)
 have h37 := @run_callFunc_extern Tryz.prog 238 _ (ReflectliteType.method ReflectliteType.elem) Tryz.func238 (by kernel_rfl) (by kernel_rfl) (by kernel_rfl) (by kernel_rfl)
 have h38 := @run_callFunc_extern Tryz.prog 239 _ (ReflectliteType.relation "Implements" ReflectliteType.implements_) Tryz.func239 (by kernel_rfl) (by kernel_rfl) (by kernel_rfl) (by kernel_rfl)
 have h10 := @run_callFunc_extern Tryz.prog 97 _ ReflectliteType.typeOf Tryz.func97 (by kernel_rfl) (by kernel_rfl) (by kernel_rfl) (by kernel_rfl)
 have h35 := @run_callFunc_extern Tryz.prog 236 _ (ReflectliteType.relation "AssignableTo" ReflectliteType.assignableTo) Tryz.func236 (by kernel_rfl) (by kernel_rfl) (by kernel_rfl) (by kernel_rfl)
 have mA := methodAssignableTo
 have f6 := valueOfPL
 have f7 := typePL
 have mK := methodKind
 have mE := methodElem
 have mI := methodImplements
 have kP := kindPL
 have kE := kindL
 have eP := elemPL
 have iE := implementsL
 have n8 := isNilPL ⟨w.heap.size, 0, none⟩ t ((w.alloc (.cells #[.pointer (some t)] 100)).alloc (.cells #[.pointer (some ⟨16, 100, none⟩), .pointer (some ⟨w.heap.size, 0, none⟩), .int .u64 150] 148)) (by simp)
 have hlt : 0 < w.heap.size := World.block_lt_of_cell? _ _ hg
 have hg2 : ((w.alloc (.cells #[.pointer (some t)] 100)).alloc (.cells #[.pointer (some ⟨16, 100, none⟩), .pointer (some ⟨w.heap.size, 0, none⟩), .int .u64 150] 148)).cell? ⟨0, 0, none⟩ = some (.iface 194 (.agg #[.pointer (some ⟨16, 36, none⟩)])) := by
  rw [World.cell?_alloc_lt _ _ ⟨0, 0, none⟩ (by first | (simp; done) | (simp; omega)), World.cell?_alloc_lt _ _ ⟨0, 0, none⟩ hlt]; exact hg
 have htl : t.block < w.heap.size := World.block_lt_of_cell? _ _ ht0
 have tO := typeOfE
 have aE := assignableEL
 have nA := noAsE
 have nU := noUnE
 have nS := noUnsE
 go_enter Tryz.func35, Tryz.ntmps35
 go_wp2
 refine wp_loop_rounds 1 ?_
 rw [rounds_succ]
 go_wp2
 go_ret
 exact ⟨rfl, by (repeat first | exact Below.refl _ _ | refine rbel_al ?_)⟩
end Go.Proofs.YtadkgnbagmnkkakGreatDoor.told
namespace Go.Proofs.YtadkgnbagmnkkakGreatDoor.rn
open Go.ChangeShapes Go.WideShapes Go.ChangeAt Go.RowKit Go.Joins
set_option linter.unusedVariables false
set_option maxHeartbeats 4000000
set_option maxRecDepth 100000
theorem lineErr (k : Int) (w : World) : Calls Tryz.prog 36 #[.agg #[.int .i64 k]] w fun o w' => o = .returned (.string ⟨#[98, 97, 100]⟩) ∧ Below w.heap.size w w' := by
 go_enter Tryz.func36, Tryz.ntmps36
 go_wp2
 go_ret
 exact ⟨rfl, rbel_al (Below.refl _ _)⟩
theorem name_line (w : World) (hE : told.EnvE w) : Calls Tryz.prog 15 #[lineV] w fun o w' => o = .returned (.string (txt badB)) ∧ Below w.heap.size w w' := by
 have cA := told.as_lineL 2 ⟨w.heap.size, 0, none⟩ (.int .i64 0) (w.alloc (.cells #[.int .i64 0] 98)) (hE.below (rbel_al (Below.refl _ _))) (by simp) (by simp) (fun a h => by rw [← h]; rfl)
 have cE := lineErr 2
 unfold lineV
 go_enter Tryz.func15, Tryz.ntmps15
 go_wp2_with (first
  | (go_at_call 35; refine cA.mono ?_; rintro o w3 ⟨rfl, e3⟩; rw [e3]; clear e3 cA)
  | (go_at_call 36; refine (cE _).mono ?_; rintro o w4 ⟨rfl, hb4⟩; have B4 : Hid (Below w.heap.size w w4) := rbel_on hb4 (by (repeat first | exact Below.refl _ _ | refine rbel_put (by omega) ?_ | refine rbel_al ?_)); clear hb4))
 go_ret
 exact ⟨rfl, B4.out⟩
theorem name_errno (k : Int) (h1 : 1 ≤ k) (h8 : k ≤ 8) (w : World) (hE : told.EnvE w) : Calls Tryz.prog 15 #[.iface 86 (.int .i64 k)] w fun o w' => o = .returned (.string (txt (nameB k))) ∧ Below w.heap.size w w' := by
 have cA := told.as_other k ⟨w.heap.size, 0, none⟩ (.int .i64 0) (w.alloc (.cells #[.int .i64 0] 98)) (hE.below (rbel_al (Below.refl _ _))) (by simp) (by simp)
 have cN := fun w => errName k h1 h8 w
 have B0 : Hid (Below w.heap.size w (w.alloc (.cells #[.int .i64 0] 98))) := rbel_al (Below.refl _ _)
 have HE : Hid (told.EnvE w) := hE
 clear hE
 go_enter Tryz.func15, Tryz.ntmps15
 go_wp2_with (first
  | (go_at_call 35; refine cA.mono ?_; rintro o w3 ⟨rfl, hb3⟩; have B3 : Hid (Below w.heap.size w w3) := rbel_on hb3 B0.out; clear hb3 cA; have cH := told.as_hit k ⟨w3.heap.size, 0, none⟩ (.int .i64 0) (w3.alloc (.cells #[.int .i64 0] 86)) (HE.out.below (rbel_al B3.out)) (by simp) (by simp))
  | (go_at_call 35; refine cH.mono ?_; rintro o w5 ⟨rfl, e5⟩; rw [e5]; clear e5 cH)
  | (go_at_call 37; refine (cN _).mono ?_; rintro o w6 ⟨rfl, e6⟩; rw [e6]; clear e6))
 go_ret
 exact ⟨rfl, by have := B3.out.size; (repeat first | exact B3.out | refine rbel_put (by omega) ?_ | refine rbel_al ?_)⟩
end Go.Proofs.YtadkgnbagmnkkakGreatDoor.rn
