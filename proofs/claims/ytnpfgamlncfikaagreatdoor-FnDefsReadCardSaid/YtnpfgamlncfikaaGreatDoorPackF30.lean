/-
  Together: AsImpl, AsHit, CheckImpl, LawParseDefs
-/
import Derived.Test.YtnpfgamlncfikaaGreatDoorPackF1
import Derived.Test.YtnpfgamlncfikaaGreatDoorProg
import Derived.LaidEql
import Derived.Stop.Asserts
import Derived.RowKitTokens
import Derived.Test.YtnpfgamlncfikaaGreatDoorWrongImpl
import Derived.Test.YtnpfgamlncfikaaGreatDoorPackF15
import Derived.Test.YtnpfgamlncfikaaGreatDoorPackF25
import Derived.Test.YtnpfgamlncfikaaGreatDoorPackF24
import Derived.Test.YtnpfgamlncfikaaGreatDoorPackF26
/-
  errors.As at a table's error: none of nothing; the error itself, where there is one.
-/
namespace Go.Proofs.YtnpfgamlncfikaaGreatDoor
open Go.RowKit Go.Extern.Stop Go.Stop Go.Extern

/-- The handle of a type. -/
abbrev hdl (T : Nat) : Value := .pointer (some ⟨4, T, none⟩)

theorem as_nil (t : Value) (w : World) :
    Calls Tryz.prog 65 #[.nilIface, t] w fun e w' => e = .returned (.bool false) ∧ w' = w := by
  go_enter Tryz.func65, Tryz.ntmps65
  go_wp2
  go_ret
  exact ⟨rfl, rfl⟩

theorem as_valueOfP (t : Addr) (w : World) : (ReflectliteValue.unpack (.iface 106 (.pointer (some t)))).run Tryz.prog w
    = .ok (.agg #[hdl 106, .pointer (some ⟨w.heap.size, 0, none⟩), .int .u64 150]) (w.alloc (.cells #[.pointer (some t)] 106)) := by kernel_rfl
theorem as_typeP (a : Addr) (w : World) : (ReflectliteValue.methodAny (ReflectliteValue.valueError "reflectlite.Value.Type" 0) (fun t _ _ _ => ReflectliteType.toType t) #[.agg #[hdl 106, .pointer (some a), .int .u64 150]]).run Tryz.prog w
    = .ok (.iface 176 (.agg #[hdl 106])) w := by kernel_rfl
theorem as_mKind (h : Value) (w : World) : (Go.method 362 176 (.agg #[h]) "Kind").run Tryz.prog w = .ok (195, h) w := by kernel_rfl
theorem as_kindP (w : World) : ((ReflectliteType.abiMethod fun t => (fun a : Nat => Value.int IntKind.u8 (a : Int)) <$> Rtype.kind t) #[hdl 106]).run Tryz.prog w = .ok (.int .u8 22) w := by kernel_rfl
theorem as_kindE (w : World) : ((ReflectliteType.abiMethod fun t => (fun a : Nat => Value.int IntKind.u8 (a : Int)) <$> Rtype.kind t) #[hdl 103]).run Tryz.prog w = .ok (.int .u8 25) w := by kernel_rfl

theorem as_rlm (z : Sem Value) (f : TypeId → Addr → Nat → Nat → Sem Value) (v : Value) :
    ReflectliteValue.method z f #[v] = (do match ← ReflectliteValue.parts v with | none => z | some (t, a, fl) => f t a fl (fl % 32)) := rfl
theorem as_partsP (a : Addr) (w : World) : (ReflectliteValue.parts (.agg #[hdl 106, .pointer (some a), .int .u64 150])).run Tryz.prog w = .ok (some (106, a, 150)) w := by kernel_rfl
theorem as_isNil (a p : Addr) (W : World) (ha : W.cell? a = some (.pointer (some p))) :
    (ReflectliteValue.method (ReflectliteValue.valueError "reflectlite.Value.IsNil" 0) ReflectliteValue.isNil #[.agg #[hdl 106, .pointer (some a), .int .u64 150]]).run Tryz.prog W = .ok (.bool false) W := by
  rw [as_rlm]
  simp only [Sem.run_bind, as_partsP, Result.andThen]
  simp [ReflectliteValue.isNil, loadVar, isAgg, underlying, Tryz.underlying106, ha, Result.andThen]
theorem as_mElem (h : Value) (w : World) : (Go.method 362 176 (.agg #[h]) "Elem").run Tryz.prog w = .ok (206, .agg #[h]) w := by kernel_rfl
theorem as_mImplements (h : Value) (w : World) : (Go.method 362 176 (.agg #[h]) "Implements").run Tryz.prog w = .ok (207, .agg #[h]) w := by kernel_rfl
theorem as_mAssignableTo (h : Value) (w : World) : (Go.method 362 176 (.agg #[h]) "AssignableTo").run Tryz.prog w = .ok (204, .agg #[h]) w := by kernel_rfl
theorem as_elemP (w : World) : (ReflectliteType.method ReflectliteType.elem #[.agg #[hdl 106]]).run Tryz.prog w = .ok (.iface 176 (.agg #[hdl 103])) w := by kernel_rfl
theorem as_implementsE (w : World) : (ReflectliteType.relation "Implements" ReflectliteType.implements_ #[.agg #[hdl 103], .iface 176 (.agg #[hdl 56])]).run Tryz.prog w = .ok (.bool true) w := by kernel_rfl
theorem as_typeOfE (v : Value) (w : World) : (ReflectliteType.typeOf #[.iface 103 v]).run Tryz.prog w = .ok (.iface 176 (.agg #[hdl 103])) w := by kernel_rfl
theorem as_assignableE (w : World) : (ReflectliteType.relation "AssignableTo" ReflectliteType.assignableTo #[.agg #[hdl 103], .iface 176 (.agg #[hdl 103])]).run Tryz.prog w = .ok (.bool true) w := by kernel_rfl
theorem as_valueOfE (c : Int) (s : ByteArray) (w : World) : (ReflectliteValue.unpack (.iface 103 (.agg #[.int .i64 c, .string s]))).run Tryz.prog w
    = .ok (.agg #[hdl 103, .pointer (some ⟨w.heap.size, 0, none⟩), .int .u64 153]) (w.alloc (.cells #[.int .i64 c, .string s] 103)) := by kernel_rfl
theorem as_elemOfP (w : World) : (Rtype.elem? 106).run Tryz.prog w = .ok (some 103) w := by kernel_rfl
theorem as_mkE (p : Addr) (w : World) : (ReflectliteValue.mk 103 p ReflectliteValue.flagAddr).run Tryz.prog w = .ok (.agg #[hdl 103, .pointer (some p), .int .u64 409]) w := by kernel_rfl
theorem as_elemV (a p : Addr) (W : World) (ha : W.cell? a = some (.pointer (some p))) :
    (ReflectliteValue.method (ReflectliteValue.valueError "reflectlite.Value.Elem" 0) ReflectliteValue.elem #[.agg #[hdl 106, .pointer (some a), .int .u64 150]]).run Tryz.prog W
      = .ok (.agg #[hdl 103, .pointer (some p), .int .u64 409]) W := by
  rw [as_rlm]
  simp only [Sem.run_bind, as_partsP, Result.andThen]
  simp [ReflectliteValue.elem, loadVar, isAgg, underlying, Tryz.underlying106, ha, Result.andThen, as_elemOfP, as_mkE]
end Go.Proofs.YtnpfgamlncfikaaGreatDoor

/-
  errors.As at a table's error: the error is put into the variable.
-/
namespace Go.Proofs.YtnpfgamlncfikaaGreatDoor
open Go.RowKit Go.Extern.Stop Go.Stop Go.Extern

theorem as_rls (v x : Value) : ReflectliteValue.set #[v, x] = (do
    let (some (dst, a, fl), some (src, b, _)) := (← ReflectliteValue.parts v, ← ReflectliteValue.parts x)
      | unsupported (.noEntry "extern/(internal/reflectlite.Value).Set.zeroValue")
    if fl / ReflectliteValue.flagAddr % 2 == 0 then unsupported (.noEntry "extern/(internal/reflectlite.Value).Set.unaddressable")
    let val ← loadVar src b
    if ← Rtype.directlyAssignable dst src then storeVar dst a val
    else if ← Rtype.implements dst src then
      if (← Rtype.kind src) == 20 then
        match val with
        | .nilIface => unsupported (.noEntry "extern/reflectlite: a nil value of one interface type handed on as a value of another")
        | _ => storeVar dst a val
      else storeVar dst a (.iface src val)
    else panicString ("reflectlite.Set: value of type " ++ (← Rtype.spelt src) ++ " is not assignable to type " ++ (← Rtype.spelt dst))
    pure (.tuple #[])) := rfl
theorem as_partsEa (a : Addr) (w : World) : (ReflectliteValue.parts (.agg #[hdl 103, .pointer (some a), .int .u64 409])).run Tryz.prog w = .ok (some (103, a, 409)) w := by kernel_rfl
theorem as_partsE (a : Addr) (w : World) : (ReflectliteValue.parts (.agg #[hdl 103, .pointer (some a), .int .u64 153])).run Tryz.prog w = .ok (some (103, a, 153)) w := by kernel_rfl
theorem as_direct (w : World) : (Rtype.directlyAssignable 103 103).run Tryz.prog w = .ok true w := by kernel_rfl
theorem as_isAgg (w : World) : (isAgg 103).run Tryz.prog w = .ok true w := by kernel_rfl
theorem as_size (w : World) : (sizeOf 103).run Tryz.prog w = .ok 2 w := by kernel_rfl
theorem as_load (b : Nat) (c : Int) (s : ByteArray) (W : World) (h0 : W.cell? ⟨b, 0, none⟩ = some (.int .i64 c)) (h1 : W.cell? ⟨b, 1, none⟩ = some (.string s)) :
    (loadVar 103 ⟨b, 0, none⟩).run Tryz.prog W = .ok (.agg #[.int .i64 c, .string s]) W := by
  simp [loadVar, loadCells, loadCellsFrom, Addr.add, h0, h1, Result.andThen]
theorem as_store (B : Nat) (c : Int) (s : ByteArray) (x0 x1 : Value) (W : World) (h0 : W.cell? ⟨B, 0, none⟩ = some x0) (h1 : W.cell? ⟨B, 1, none⟩ = some x1) (f0 : W.frozen? ⟨B, 0, none⟩ = false) (f1 : W.frozen? ⟨B, 1, none⟩ = false) :
    (storeVar 103 ⟨B, 0, none⟩ (.agg #[.int .i64 c, .string s])).run Tryz.prog W = .ok () ((W.setCell ⟨B, 0, none⟩ (.int .i64 c)).setCell ⟨B, 1, none⟩ (.string s)) := by
  have h1' : (W.setCell ⟨B, 0, none⟩ (.int .i64 c)).cell? ⟨B, 1, none⟩ = some x1 := by rw [World.cell?_setCell_other W _ _ _ (by intro e; cases e)]; exact h1
  have f1' : (W.setCell ⟨B, 0, none⟩ (.int .i64 c)).frozen? ⟨B, 1, none⟩ = false := by rw [World.frozen?_setCell]; exact f1
  simp only [storeVar, Sem.run_bind, as_size, Result.andThen, Value.cells]
  simp [storeCells, Addr.add, Result.andThen]
  rw [run_store Tryz.prog W ⟨B, 0, none⟩ _ _ (by rfl)]
  simp [h0, f0]
  rw [run_store Tryz.prog _ ⟨B, 1, none⟩ _ _ (by rfl)]
  simp [h1', f1']
theorem as_set (B b : Nat) (c : Int) (s : ByteArray) (x0 x1 : Value) (W : World) (g0 : W.cell? ⟨b, 0, none⟩ = some (.int .i64 c)) (g1 : W.cell? ⟨b, 1, none⟩ = some (.string s)) (h0 : W.cell? ⟨B, 0, none⟩ = some x0) (h1 : W.cell? ⟨B, 1, none⟩ = some x1) (f0 : W.frozen? ⟨B, 0, none⟩ = false) (f1 : W.frozen? ⟨B, 1, none⟩ = false) :
    (ReflectliteValue.set #[.agg #[hdl 103, .pointer (some ⟨B, 0, none⟩), .int .u64 409], .agg #[hdl 103, .pointer (some ⟨b, 0, none⟩), .int .u64 153]]).run Tryz.prog W
      = .ok (.tuple #[]) ((W.setCell ⟨B, 0, none⟩ (.int .i64 c)).setCell ⟨B, 1, none⟩ (.string s)) := by
  rw [as_rls]
  simp only [Sem.run_bind, as_partsEa, as_partsE, Result.andThen]
  simp [ReflectliteValue.flagAddr, as_load b c s W g0 g1, Result.andThen, as_direct, as_store B c s x0 x1 W h0 h1 f0 f1]

set_option maxHeartbeats 4000000 in
theorem as_hit (B : Nat) (c : Int) (s : ByteArray) (x0 x1 : Value) (w : World) (hg : w.cell? ⟨2, 0, none⟩ = some (.iface 176 (.agg #[hdl 56]))) (hB : B < w.heap.size) (h0 : w.cell? ⟨B, 0, none⟩ = some x0) (h1 : w.cell? ⟨B, 1, none⟩ = some x1) (f0 : w.frozen? ⟨B, 0, none⟩ = false) (f1 : w.frozen? ⟨B, 1, none⟩ = false) :
    Calls Tryz.prog 65 #[.iface 103 (.agg #[.int .i64 c, .string s]), .iface 106 (.pointer (some ⟨B, 0, none⟩))] w fun ev w' => ev = .returned (.bool true) ∧ w'.cell? ⟨B, 0, none⟩ = some (.int .i64 c) ∧ Below B w w' := by
  have e54 := @run_callFunc_extern Tryz.prog 101 _ (fun args => ReflectliteValue.unpack (args.getD 0 (.tuple #[]))) Tryz.func101 (by kernel_rfl) (by kernel_rfl) (by kernel_rfl) (by kernel_rfl)
  have e55 := @run_callFunc_extern Tryz.prog 102 _ (ReflectliteValue.methodAny (ReflectliteValue.valueError "reflectlite.Value.Type" 0) (fun t _ _ _ => ReflectliteType.toType t)) Tryz.func102 (by kernel_rfl) (by kernel_rfl) (by kernel_rfl) (by kernel_rfl)
  have e56 := @run_callFunc_extern Tryz.prog 103 _ (ReflectliteValue.method (ReflectliteValue.valueError "reflectlite.Value.IsNil" 0) ReflectliteValue.isNil) Tryz.func103 (by kernel_rfl) (by kernel_rfl) (by kernel_rfl) (by kernel_rfl)
  have e151 := @run_callFunc_extern Tryz.prog 195 _ (ReflectliteType.abiMethod fun t => do pure (.int .u8 (← Rtype.kind t))) Tryz.func195 (by kernel_rfl) (by kernel_rfl) (by kernel_rfl) (by kernel_rfl)
  have e162 := @run_callFunc_extern Tryz.prog 206 _ (ReflectliteType.method ReflectliteType.elem) Tryz.func206 (by kernel_rfl) (by kernel_rfl) (by kernel_rfl) (by kernel_rfl)
  have e163 := @run_callFunc_extern Tryz.prog 207 _ (ReflectliteType.relation "Implements" ReflectliteType.implements_) Tryz.func207 (by kernel_rfl) (by kernel_rfl) (by kernel_rfl) (by kernel_rfl)
  have e84 := @run_callFunc_extern Tryz.prog 136 _ ReflectliteType.typeOf Tryz.func136 (by kernel_rfl) (by kernel_rfl) (by kernel_rfl) (by kernel_rfl)
  have e160 := @run_callFunc_extern Tryz.prog 204 _ (ReflectliteType.relation "AssignableTo" ReflectliteType.assignableTo) Tryz.func204 (by kernel_rfl) (by kernel_rfl) (by kernel_rfl) (by kernel_rfl)
  have e85 := @run_callFunc_extern Tryz.prog 137 _ (ReflectliteValue.method (ReflectliteValue.valueError "reflectlite.Value.Elem" 0) ReflectliteValue.elem) Tryz.func137 (by kernel_rfl) (by kernel_rfl) (by kernel_rfl) (by kernel_rfl)
  have e86 := @run_callFunc_extern Tryz.prog 138 _ ReflectliteValue.set Tryz.func138 (by kernel_rfl) (by kernel_rfl) (by kernel_rfl) (by kernel_rfl)
  have tO := as_typeOfE
  have mA := as_mAssignableTo
  have aE := as_assignableE
  have vE := as_valueOfE
  have vP := as_valueOfP
  have tP := as_typeP
  have mK := as_mKind
  have mE := as_mElem
  have mI := as_mImplements
  have kP := as_kindP
  have kE := as_kindE
  have eP := as_elemP
  have iE := as_implementsE
  have n8 := as_isNil ⟨w.heap.size, 0, none⟩ ⟨B, 0, none⟩ ((w.alloc (.cells #[.pointer (some ⟨B, 0, none⟩)] 106)).alloc (.cells #[hdl 106, .pointer (some ⟨w.heap.size, 0, none⟩), .int .u64 150] 138)) (by simp)
  have hg2 : ((w.alloc (.cells #[.pointer (some ⟨B, 0, none⟩)] 106)).alloc (.cells #[hdl 106, .pointer (some ⟨w.heap.size, 0, none⟩), .int .u64 150] 138)).cell? ⟨2, 0, none⟩ = some (.iface 176 (.agg #[hdl 56])) := by
    rw [World.cell?_alloc_lt _ _ ⟨2, 0, none⟩ (Nat.lt_of_lt_of_le (World.block_lt_of_cell? _ _ hg) (by simp)), World.cell?_alloc_lt _ _ ⟨2, 0, none⟩ (World.block_lt_of_cell? _ _ hg)]; exact hg
  have el := as_elemV ⟨w.heap.size, 0, none⟩ ⟨B, 0, none⟩ (((w.alloc (.cells #[.pointer (some ⟨B, 0, none⟩)] 106)).alloc (.cells #[hdl 106, .pointer (some ⟨w.heap.size, 0, none⟩), .int .u64 150] 138)).alloc (.cells #[hdl 106, .pointer (some ⟨w.heap.size, 0, none⟩), .int .u64 150] 138)) (by rw [World.cell?_alloc_lt _ _ ⟨w.heap.size, 0, none⟩ (by simp; omega)]; simp)
  have hbl : Below w.heap.size w ((((w.alloc (.cells #[.pointer (some ⟨B, 0, none⟩)] 106)).alloc (.cells #[hdl 106, .pointer (some ⟨w.heap.size, 0, none⟩), .int .u64 150] 138)).alloc (.cells #[hdl 106, .pointer (some ⟨w.heap.size, 0, none⟩), .int .u64 150] 138)).alloc (.cells #[.int .i64 c, .string s] 103)) := ((((Below.refl _ _).alloc (Nat.le_refl _) _).alloc (by simp) _).alloc (by simp; omega) _).alloc (by simp; omega) _
  have st := as_set B (w.heap.size + 1 + 1 + 1) c s x0 x1 ((((w.alloc (.cells #[.pointer (some ⟨B, 0, none⟩)] 106)).alloc (.cells #[hdl 106, .pointer (some ⟨w.heap.size, 0, none⟩), .int .u64 150] 138)).alloc (.cells #[hdl 106, .pointer (some ⟨w.heap.size, 0, none⟩), .int .u64 150] 138)).alloc (.cells #[.int .i64 c, .string s] 103))
    (by rw [World.cell?_alloc_at _ _ _ _ (by simp)]; rfl) (by rw [World.cell?_alloc_at _ _ _ _ (by simp)]; rfl)
    (by rw [hbl.cell hB]; exact h0) (by rw [hbl.cell hB]; exact h1) (by rw [hbl.frozen (p := ⟨B, 0, none⟩) hB]; exact f0) (by rw [hbl.frozen (p := ⟨B, 1, none⟩) hB]; exact f1)
  have HR : Hid (((((((w.alloc (.cells #[.pointer (some ⟨B, 0, none⟩)] 106)).alloc (.cells #[hdl 106, .pointer (some ⟨w.heap.size, 0, none⟩), .int .u64 150] 138)).alloc (.cells #[hdl 106, .pointer (some ⟨w.heap.size, 0, none⟩), .int .u64 150] 138)).alloc (.cells #[.int .i64 c, .string s] 103)).setCell ⟨B, 0, none⟩ (.int .i64 c)).setCell ⟨B, 1, none⟩ (.string s)).cell? ⟨B, 0, none⟩ = some (.int .i64 c) ∧ Below B w ((((((w.alloc (.cells #[.pointer (some ⟨B, 0, none⟩)] 106)).alloc (.cells #[hdl 106, .pointer (some ⟨w.heap.size, 0, none⟩), .int .u64 150] 138)).alloc (.cells #[hdl 106, .pointer (some ⟨w.heap.size, 0, none⟩), .int .u64 150] 138)).alloc (.cells #[.int .i64 c, .string s] 103)).setCell ⟨B, 0, none⟩ (.int .i64 c)).setCell ⟨B, 1, none⟩ (.string s))) := by
    refine ⟨?_, ((hbl.mono (Nat.le_of_lt hB)).setCell (Nat.le_refl _) _).setCell (Nat.le_refl _) _⟩
    rw [World.cell?_setCell_other _ _ _ _ (by intro e; cases e), World.cell?_setCell_same _ _ _ (u := x0) (by rw [hbl.cell hB]; exact h0)]
  clear hbl hg h0 h1 f0 f1
  go_enter Tryz.func65, Tryz.ntmps65
  go_wp2
  refine wp_loop_rounds 1 ?_
  rw [rounds_succ]
  go_wp2
  go_ret
  exact ⟨rfl, HR.out⟩
end Go.Proofs.YtnpfgamlncfikaaGreatDoor

/-
  The program's CheckDef comes to the plain one.
-/
namespace Go.Proofs.YtnpfgamlncfikaaGreatDoor
open Go.RowKit
set_option maxRecDepth 4000

/-- The library's own error type, as its variable holds it. -/
def ErrT (w : World) : Prop := w.cell? ⟨2, 0, none⟩ = some (.iface 176 (.agg #[hdl 56]))
theorem ErrT.lt {w : World} (h : ErrT w) : 2 < w.heap.size := World.block_lt_of_cell? _ _ h
theorem ErrT.below {w w' : World} (h : ErrT w) (hb : Below w.heap.size w w') : ErrT w' := (hb.cell (p := ⟨2, 0, none⟩) h.lt).trans h

set_option maxHeartbeats 4000000 in
theorem implCheck_any (v : Value) (D : PDef) (w : World) (h : DView w v D) (hf : DFine D) (hg : ErrT w) :
    Calls Tryz.prog 29 #[v] w fun e w' => e = .returned (.int .i64 (checkF D)) ∧ Below w.heap.size w w' := by
  have hv := h
  obtain ⟨ac, cc, ap, cp, ai, ci, rfl, -, -, -⟩ := h.is
  clear h
  have hb0 : Below w.heap.size w ((w.alloc (.cells #[.string D.name, .slice ac D.nc cc, .slice ap D.np cp, .slice ai D.ni ci] 35)).alloc (.cells #[.int .i64 0, .string ⟨#[]⟩] 103)) := ((Below.refl _ _).alloc (Nat.le_refl _) _).alloc (by simp) _
  have hW := wrongDef_any _ D _ (hv.below hb0) hf
  have c0 : ((w.alloc (.cells #[.string D.name, .slice ac D.nc cc, .slice ap D.np cp, .slice ai D.ni ci] 35)).alloc (.cells #[.int .i64 0, .string ⟨#[]⟩] 103)).cell? ⟨w.heap.size + 1, 0, none⟩ = some (.int .i64 0) := by simp
  have c1 : ((w.alloc (.cells #[.string D.name, .slice ac D.nc cc, .slice ap D.np cp, .slice ai D.ni ci] 35)).alloc (.cells #[.int .i64 0, .string ⟨#[]⟩] 103)).cell? ⟨w.heap.size + 1, 1, none⟩ = some (.string ⟨#[]⟩) := by simp [go_sem]
  have f0 : ((w.alloc (.cells #[.string D.name, .slice ac D.nc cc, .slice ap D.np cp, .slice ai D.ni ci] 35)).alloc (.cells #[.int .i64 0, .string ⟨#[]⟩] 103)).frozen? ⟨w.heap.size + 1, 0, none⟩ = false := by simp
  have f1 : ((w.alloc (.cells #[.string D.name, .slice ac D.nc cc, .slice ap D.np cp, .slice ai D.ni ci] 35)).alloc (.cells #[.int .i64 0, .string ⟨#[]⟩] 103)).frozen? ⟨w.heap.size + 1, 1, none⟩ = false := by simp [go_sem]
  have hsz : ((w.alloc (.cells #[.string D.name, .slice ac D.nc cc, .slice ap D.np cp, .slice ai D.ni ci] 35)).alloc (.cells #[.int .i64 0, .string ⟨#[]⟩] 103)).heap.size = w.heap.size + 1 + 1 := by simp
  have HG : Hid (ErrT w) := hg
  clear hv hf hg
  go_enter Tryz.func29, Tryz.ntmps29
  go_wp2_with fail
  refine hW.mono ?_
  rintro e w1 ⟨r, rfl, hr, hb1⟩
  rw [hsz] at hb1
  have hB1 : Below w.heap.size w w1 := hb0.trans (hb1.mono (by omega))
  have hg1 := HG.out.below hB1
  have hs1 := hb1.size
  rw [← hb1.cell (p := ⟨w.heap.size + 1, 0, none⟩) (by show w.heap.size + 1 < _; omega)] at c0
  rw [← hb1.cell (p := ⟨w.heap.size + 1, 1, none⟩) (by show w.heap.size + 1 < _; omega)] at c1
  rw [← hb1.frozen (p := ⟨w.heap.size + 1, 0, none⟩) (by show w.heap.size + 1 < _; omega)] at f0
  rw [← hb1.frozen (p := ⟨w.heap.size + 1, 1, none⟩) (by show w.heap.size + 1 < _; omega)] at f1
  rcases hr with ⟨hz, rfl⟩ | ⟨hz, s, rfl⟩
  · have hA := fun t => as_nil t w1
    have HZ : Hid (checkF D = 0) := hz
    have HB : Hid (Below w.heap.size w w1) := hB1
    clear hW hb0 hb1 hB1 hg1 hz hsz c0 c1 f0 f1
    go_wp2_with fail
    refine (hA _).mono ?_
    rintro e w2 ⟨rfl, rfl⟩
    clear hA
    go_wp2
    go_ret
    exact ⟨by rw [HZ.out]; rfl, HB.out⟩
  · have hA := as_hit (w.heap.size + 1) (checkF D) s _ _ w1 hg1 (by omega) c0 c1 f0 f1
    have HB : Hid (Below w.heap.size w w1) := hB1
    obtain ⟨z, hzz⟩ : ∃ z, Hid (checkF D = z) := ⟨_, rfl⟩
    rw [hzz.out] at hA ⊢
    clear hW hb0 hb1 hB1 hg1 hz hsz c0 c1 f0 f1
    go_wp2_with fail
    refine hA.mono ?_
    rintro e w2 ⟨rfl, c2, hb2⟩
    have HB2 : Hid (Below w.heap.size w w2) := HB.out.trans (hb2.mono (by omega))
    clear hA hb2 HB
    go_wp2
    go_ret
    exact ⟨by rw [hzz.out]; rfl, HB2.out⟩
end Go.Proofs.YtnpfgamlncfikaaGreatDoor

/-
  The law FnExactParseDefs, walked.
-/
namespace Go.Proofs.YtnpfgamlncfikaaGreatDoor
open Go.RowKit
set_option maxRecDepth 4000

theorem few_of {D : PDef} (h : checkF D = 0) : 1 ≤ D.nc ∧ 1 ≤ D.np ∧ Few10 D := by
  obtain ⟨-, h2, -, h4, h5, -⟩ := checkF_good h
  unfold typesF at h2
  unfold allPartsF at h5
  obtain ⟨-, a1, a2⟩ := of_decide_eq_true h2
  obtain ⟨b1, b2⟩ := of_decide_eq_true h5
  have b3 := partsF_two b2
  exact ⟨a1, b3.1, a2, b3.2, h4, fun j hj => (partsF_two (b1 j hj)).2⟩
theorem parse_checks (s : ByteArray) : ∀ i, i < ((parseF s).getD []).length → checkF (atD ((parseF s).getD []) i) = 0 := by
  cases h : parseF s with
  | none => intro i hi; exact absurd hi (Nat.not_lt_zero _)
  | some ds => intro i hi; exact (firstF_none (parse_first h).1).2.1 i hi
theorem tm_of {wB W : World} {a k : Nat} {ds : List PDef} (h : TabsI wB (.slice (some ⟨a, 0, none⟩) ds.length k) ds W) (hg : ∀ i, i < ds.length → checkF (atD ds i) = 0) :
    ∃ V A C β, TM wB.heap.size a ds.length k V A C β (atD ds) W ∧ (∀ i, i < ds.length → Gd (atD ds i) (V i).2.1 (A i)) ∧ (∀ i, i < ds.length → ∀ q, inT (V i).1 (V i).2.1 (V i).2.2 (atD ds i).ni (A i) q → wB.heap.size ≤ q) ∧ wB.heap.size ≤ a := by
  obtain ⟨V, A, C, β, h1, h2, h3⟩ := h.is
  refine ⟨V, A, C, β, ⟨h1, fun i hi => (h2 i hi).1.tr, fun i hi => (h2 i hi).2.2.1, fun i hi => (h2 i hi).2.2.2⟩, fun i hi => ?_, fun i hi q hq => ((h2 i hi).1.bd.of hq).1, (own_bd h1 a (by simp [Value.ownBlock])).1⟩
  obtain ⟨f1, f2, f3⟩ := few_of (hg i hi)
  exact ⟨⟨f1, f3.nc⟩, ⟨f2, f3.np⟩, f3.ni, f3.n, (h2 i hi).2.1, (h2 i hi).1.pts.ne⟩
theorem TM.view {base a n cap : Nat} {V : Nat → Value × Value × Value} {A C : Nat → Nat → Nat} {β : Nat → Nat} {F : Nat → PDef} {W : World} (h : TM base a n cap V A C β F W) : LView W (some ⟨a, 0, none⟩) n cap F := by
  obtain ⟨a', k, e, hk, h3⟩ := own_cells (c := 4) (fun _ => rfl) h.row
  cases e
  refine ⟨hk, fun hn => ?_⟩
  obtain ⟨g, ea, -, -, hg, hc⟩ := h3 hn
  cases ea
  refine ⟨a, 0, rfl, hg, fun i hi => ?_⟩
  exact ⟨_, _, _, by simpa using hc i 0 _ hi rfl, by simpa using hc i 1 _ hi rfl, by simpa using hc i 2 _ hi rfl, by simpa using hc i 3 _ hi rfl, (h.tab i hi).view⟩
theorem Fr.low {base m : Nat} {w w' : World} (h : Fr (fun q => base ≤ q) w w') (hm : m ≤ base) (hw : m ≤ w.heap.size) : Below m w w' :=
  { os := h.os, tape := h.tape, output := h.output, size := h.size, block := fun k hk => h.block k (Nat.lt_of_lt_of_le hk hw) (fun hq => by omega) }

set_option maxHeartbeats 8000000 in
theorem lawParseDefs (s : ByteArray) (w : World) (_hs : s.size ≤ maxLen) (hgE : ErrT w) (hty : TyN w) (hu : ErrU w) :
    Calls Tryz.prog 5 #[.string s] w fun e w' => e = .returned (.bool true) ∧ Below w.heap.size w w' := by
  by_cases hb : (1048576 : Int) < (s.size : Int)
  · go_enter Tryz.func5, Tryz.ntmps5
    go_wp2
    go_ret
    exact ⟨rfl, Below.refl _ _⟩
  have hP := specParse_any s w (by omega)
  have HI : Hid (∀ W, Below w.heap.size w W → Calls Tryz.prog 14 #[.string s] W (ParseI W (parseF s))) := fun W hW => implParse_any s W (by omega) (hu.below hW) (hty.below hW) (fun W2 v D hb hD hf => implCheck_any v D W2 hD hf (hgE.below (hW.trans (hb.mono hW.size))))
  have HCH : Hid (∀ i, i < ((parseF s).getD []).length → checkF (atD ((parseF s).getD []) i) = 0) := parse_checks s
  obtain ⟨bo, hbo⟩ : ∃ x, Hid ((parseF s).isSome = x) := ⟨_, rfl⟩
  obtain ⟨ds, hds⟩ : ∃ x, Hid ((parseF s).getD [] = x) := ⟨_, rfl⟩
  unfold ParseTo at hP
  unfold ParseI at HI
  simp only [hbo.out, hds.out] at hP HI HCH
  have hbb : (bo != bo) = false := by simp
  clear hgE hty hu
  go_enter Tryz.func5, Tryz.ntmps5
  go_wp2_with fail
  refine hP.mono ?_
  rintro e w1 ⟨a1, c1, rfl, hV1, hB1⟩
  have hI := HI.out w1 hB1
  clear hP
  go_wp2_with fail
  refine hI.mono ?_
  rintro e w2 ⟨v2, wB, rfl, hb2, hwB, hT2, h3, a2, c2, rfl⟩
  obtain ⟨ax, kx, ex, hX2⟩ := hT2.tabs.view
  cases ex
  have hLF := hT2.tabs.fine (by omega)
  obtain ⟨V, A, C, β, hM2, hG, hb0, hba⟩ := tm_of hT2 HCH.out
  have hFw : ∀ i, i < ds.length → Few10 (atD ds i) := fun i hi => (few_of (HCH.out i hi)).2.2
  have HBS : Hid (∀ W v, (∃ wB, TabsI wB v ds W) → ∃ a k, v = .slice a ds.length k ∧ LView W a ds.length k (atD ds)) := fun W v h => by
    obtain ⟨x, h⟩ := h
    exact h.tabs.view
  have hB2 := hB1.trans (hb2.mono hB1.size)
  have hV2 := hV1.below hb2
  obtain ⟨n, hn⟩ : ∃ x, Hid (ds.length = x) := ⟨_, rfl⟩
  obtain ⟨F, hF⟩ : ∃ x, Hid (atD ds = x) := ⟨_, rfl⟩
  rw [hn.out] at h3
  simp only [hn.out, hF.out] at hX2 hLF hM2 hG hb0 hFw HBS hV2 hV1 HI ⊢
  have hkn := kDs_le2 (k := 1) hFw n (Nat.le_refl _)
  clear hT2 HCH hI hds
  go_wp2_with fail
  refine (eqDefS_same _ _ n _ _ F w2 hX2 hV2 hLF).mono ?_
  rintro e w3 ⟨rfl, hb3⟩
  have hM3 := hM2.below hb3
  have hB3 := hB2.trans (hb3.mono hB2.size)
  have hD3 : Below w1.heap.size w1 w3 := hb2.trans (hb3.mono hb2.size)
  have hMk := markDefS_any 1 w3 hM3 hG h3 (by omega) (by omega) hb0 hba
  clear hX2 hV2 hM2 hb3 hB2
  obtain ⟨m, hm⟩ : ∃ x, Hid (kDs F 1 n = x) := ⟨_, rfl⟩
  have hmm : (m != m) = false := by simp
  rw [hm.out] at hMk hkn
  have hm0 : ¬ m < 0 := by omega
  go_wp2_with fail
  refine hMk.mono ?_
  rintro e w4 ⟨rfl, hM4, fr4⟩
  have hD4 : Below w1.heap.size w1 w4 := hD3.trans (fr4.low hwB hD3.size)
  have hB4 : Below w.heap.size w w4 := hB1.trans (hD4.mono hB1.size)
  have hH4 := heldDefS_any _ n c2 F 1 w4 hM4.view hFw h3 (by omega) (by omega)
  rw [hm.out] at hH4
  clear hMk hM3 hG hb0 hD3 fr4 hB3
  go_wp2_with fail
  refine hH4.mono ?_
  rintro e w5 ⟨rfl, hb5⟩
  have hM5 := hM4.below hb5
  have hD5 := hD4.trans (hb5.mono hD4.size)
  have hB5 := hB4.trans (hb5.mono hB4.size)
  have hI := HI.out w5 hB5
  clear hH4 hM4 hb5 hD4 hB4 HI
  go_wp2_with fail
  refine hI.mono ?_
  rintro e w6 ⟨v6, wC, rfl, hb6, -, hT6, -, a6, c6, rfl⟩
  obtain ⟨ay, ky, ey, hX6⟩ := HBS.out w6 _ ⟨wC, hT6⟩
  rw [Value.slice.injEq] at ey
  obtain ⟨rfl, -, rfl⟩ := ey
  have hM6 := hM5.below hb6
  have hD6 := hD5.trans (hb6.mono hD5.size)
  have hB6 := hB5.trans (hb6.mono hB5.size)
  have hV6 := hV1.below hD6
  clear hI hM5 hb6 hD5 hB5 hT6 HBS
  go_wp2_with fail
  refine (eqDefS_same _ _ n _ _ F w6 hX6 hV6 hLF).mono ?_
  rintro e w7 ⟨rfl, hb7⟩
  have hM7 := hM6.below hb7
  have hB7 := hB6.trans (hb7.mono hB6.size)
  have hH7 := heldDefS_any _ n c2 F 1 w7 hM7.view hFw h3 (by omega) (by omega)
  rw [hm.out] at hH7
  clear hX6 hV6 hM6 hb7 hB6 hD6
  go_wp2_with fail
  refine hH7.mono ?_
  rintro e w8 ⟨rfl, hb8⟩
  have HB : Hid (Below w.heap.size w w8) := hB7.trans (hb8.mono hB7.size)
  clear hH7 hM7 hb8 hB7
  go_wp2
  go_ret
  exact ⟨rfl, HB.out⟩
end Go.Proofs.YtnpfgamlncfikaaGreatDoor

