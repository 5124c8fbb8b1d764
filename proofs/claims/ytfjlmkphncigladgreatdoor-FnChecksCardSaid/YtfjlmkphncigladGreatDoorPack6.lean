/-
  Together: AsHit, CheckImpl, TextSize, TextImpl9, PartsText9, IdxText9, BuildWrite, BuildKeep, DefTextImpl, SameSpec9, Box44
-/
import Derived.Test.YtfjlmkphncigladGreatDoorPack5
import Derived.Test.YtfjlmkphncigladGreatDoorPack3
import Derived.Test.YtfjlmkphncigladGreatDoorPack4
import Derived.Test.YtfjlmkphncigladGreatDoorPack1
import Derived.Test.YtfjlmkphncigladGreatDoorShelf
import Derived.Deep.LoopGhost
import Derived.Deep.QuietTactic
import Derived.Deep.RegionHeld3
import Derived.BigQuiet
import Derived.Shelf.Strings.Builder1
import Derived.Laws.StructEq
/-
  errors.As at a table's error: the error is put into the variable.
-/
namespace Go.Proofs.YtfjlmkphncigladGreatDoor
open Go.RowKit Go.Extern.Stop Go.Stop Go.Extern

theorem as_rls (v x : Value) : ReflectliteValue.set #[v, x] = (do
    let (some (dst, a, fl), some (src, b, _)) := (← ReflectliteValue.parts v, ← ReflectliteValue.parts x)
      | unsupported (.noEntry "extern/(internal/reflectlite.Value).Set.zeroValue")
    if fl / ReflectliteValue.flagAddr % 2 == 0 then unsupported (.noEntry "extern/(internal/reflectlite.Value).Set.unaddressable")
    let val ← loadVar src b
    if ← Rtype.directlyAssignable dst src then storeVar dst a val
    else if ← Rtype.implements dst src then
      if (← Rtype.kind src) == 20 then
        match val with
        | .nilIface => unsupported (.noEntry "extern/reflectlite: a nil value of one interface type handed on as a value of another")
        | _ => storeVar dst a val
      else storeVar dst a (.iface src val)
    else panicString ("reflectlite.Set: value of type " ++ (← Rtype.spelt src) ++ " is not assignable to type " ++ (← Rtype.spelt dst))
    pure (.tuple #[])) := rfl
theorem as_partsEa (a : Addr) (w : World) : (ReflectliteValue.parts (.agg #[hdl 39, .pointer (some a), .int .u64 409])).run Tryz.prog w = .ok (some (39, a, 409)) w := by kernel_rfl
theorem as_partsE (a : Addr) (w : World) : (ReflectliteValue.parts (.agg #[hdl 39, .pointer (some a), .int .u64 153])).run Tryz.prog w = .ok (some (39, a, 153)) w := by kernel_rfl
theorem as_direct (w : World) : (Rtype.directlyAssignable 39 39).run Tryz.prog w = .ok true w := by kernel_rfl
theorem as_isAgg (w : World) : (isAgg 39).run Tryz.prog w = .ok true w := by kernel_rfl
theorem as_size (w : World) : (sizeOf 39).run Tryz.prog w = .ok 2 w := by kernel_rfl
theorem as_load (b : Nat) (c : Int) (s : ByteArray) (W : World) (h0 : W.cell? ⟨b, 0, none⟩ = some (.int .i64 c)) (h1 : W.cell? ⟨b, 1, none⟩ = some (.string s)) :
    (loadVar 39 ⟨b, 0, none⟩).run Tryz.prog W = .ok (.agg #[.int .i64 c, .string s]) W := by
  simp [loadVar, loadCells, loadCellsFrom, Addr.add, h0, h1, Result.andThen]
theorem as_store (B : Nat) (c : Int) (s : ByteArray) (x0 x1 : Value) (W : World) (h0 : W.cell? ⟨B, 0, none⟩ = some x0) (h1 : W.cell? ⟨B, 1, none⟩ = some x1) (f0 : W.frozen? ⟨B, 0, none⟩ = false) (f1 : W.frozen? ⟨B, 1, none⟩ = false) :
    (storeVar 39 ⟨B, 0, none⟩ (.agg #[.int .i64 c, .string s])).run Tryz.prog W = .ok () ((W.setCell ⟨B, 0, none⟩ (.int .i64 c)).setCell ⟨B, 1, none⟩ (.string s)) := by
  have h1' : (W.setCell ⟨B, 0, none⟩ (.int .i64 c)).cell? ⟨B, 1, none⟩ = some x1 := by rw [World.cell?_setCell_other W _ _ _ (by intro e; cases e)]; exact h1
  have f1' : (W.setCell ⟨B, 0, none⟩ (.int .i64 c)).frozen? ⟨B, 1, none⟩ = false := by rw [World.frozen?_setCell]; exact f1
  simp only [storeVar, Sem.run_bind, as_size, Result.andThen, Value.cells]
  simp [storeCells, Addr.add, Result.andThen]
  rw [run_store Tryz.prog W ⟨B, 0, none⟩ _ _ (by rfl)]
  simp [h0, f0]
  rw [run_store Tryz.prog _ ⟨B, 1, none⟩ _ _ (by rfl)]
  simp [h1', f1']
theorem as_set (B b : Nat) (c : Int) (s : ByteArray) (x0 x1 : Value) (W : World) (g0 : W.cell? ⟨b, 0, none⟩ = some (.int .i64 c)) (g1 : W.cell? ⟨b, 1, none⟩ = some (.string s)) (h0 : W.cell? ⟨B, 0, none⟩ = some x0) (h1 : W.cell? ⟨B, 1, none⟩ = some x1) (f0 : W.frozen? ⟨B, 0, none⟩ = false) (f1 : W.frozen? ⟨B, 1, none⟩ = false) :
    (ReflectliteValue.set #[.agg #[hdl 39, .pointer (some ⟨B, 0, none⟩), .int .u64 409], .agg #[hdl 39, .pointer (some ⟨b, 0, none⟩), .int .u64 153]]).run Tryz.prog W
      = .ok (.tuple #[]) ((W.setCell ⟨B, 0, none⟩ (.int .i64 c)).setCell ⟨B, 1, none⟩ (.string s)) := by
  rw [as_rls]
  simp only [Sem.run_bind, as_partsEa, as_partsE, Result.andThen]
  simp [ReflectliteValue.flagAddr, as_load b c s W g0 g1, Result.andThen, as_direct, as_store B c s x0 x1 W h0 h1 f0 f1]

set_option maxHeartbeats 4000000 in
theorem as_hit (B : Nat) (c : Int) (s : ByteArray) (x0 x1 : Value) (w : World) (hg : w.cell? ⟨0, 0, none⟩ = some (.iface 106 (.agg #[hdl 42]))) (hB : B < w.heap.size) (h0 : w.cell? ⟨B, 0, none⟩ = some x0) (h1 : w.cell? ⟨B, 1, none⟩ = some x1) (f0 : w.frozen? ⟨B, 0, none⟩ = false) (f1 : w.frozen? ⟨B, 1, none⟩ = false) :
    Calls Tryz.prog 15 #[.iface 39 (.agg #[.int .i64 c, .string s]), .iface 44 (.pointer (some ⟨B, 0, none⟩))] w fun ev w' => ev = .returned (.bool true) ∧ w'.cell? ⟨B, 0, none⟩ = some (.int .i64 c) ∧ Below B w w' := by
  have e54 := @run_callFunc_extern Tryz.prog 40 _ (fun args => ReflectliteValue.unpack (args.getD 0 (.tuple #[]))) Tryz.func40 (by kernel_rfl) (by kernel_rfl) (by kernel_rfl) (by kernel_rfl)
  have e55 := @run_callFunc_extern Tryz.prog 41 _ (ReflectliteValue.methodAny (ReflectliteValue.valueError "reflectlite.Value.Type" 0) (fun t _ _ _ => ReflectliteType.toType t)) Tryz.func41 (by kernel_rfl) (by kernel_rfl) (by kernel_rfl) (by kernel_rfl)
  have e56 := @run_callFunc_extern Tryz.prog 42 _ (ReflectliteValue.method (ReflectliteValue.valueError "reflectlite.Value.IsNil" 0) ReflectliteValue.isNil) Tryz.func42 (by kernel_rfl) (by kernel_rfl) (by kernel_rfl) (by kernel_rfl)
  have e151 := @run_callFunc_extern Tryz.prog 129 _ (ReflectliteType.abiMethod fun t => do pure (.int .u8 (← Rtype.kind t))) Tryz.func129 (by kernel_rfl) (by kernel_rfl) (by kernel_rfl) (by kernel_rfl)
  have e162 := @run_callFunc_extern Tryz.prog 140 _ (ReflectliteType.method ReflectliteType.elem) Tryz.func140 (by kernel_rfl) (by kernel_rfl) (by kernel_rfl) (by kernel_rfl)
  have e163 := @run_callFunc_extern Tryz.prog 141 _ (ReflectliteType.relation "Implements" ReflectliteType.implements_) Tryz.func141 (by kernel_rfl) (by kernel_rfl) (by kernel_rfl) (by kernel_rfl)
  have e84 := @run_callFunc_extern Tryz.prog 62 _ ReflectliteType.typeOf Tryz.func62 (by kernel_rfl) (by kernel_rfl) (by kernel_rfl) (by kernel_rfl)
  have e160 := @run_callFunc_extern Tryz.prog 138 _ (ReflectliteType.relation "AssignableTo" ReflectliteType.assignableTo) Tryz.func138 (by kernel_rfl) (by kernel_rfl) (by kernel_rfl) (by kernel_rfl)
  have e85 := @run_callFunc_extern Tryz.prog 63 _ (ReflectliteValue.method (ReflectliteValue.valueError "reflectlite.Value.Elem" 0) ReflectliteValue.elem) Tryz.func63 (by kernel_rfl) (by kernel_rfl) (by kernel_rfl) (by kernel_rfl)
  have e86 := @run_callFunc_extern Tryz.prog 64 _ ReflectliteValue.set Tryz.func64 (by kernel_rfl) (by kernel_rfl) (by kernel_rfl) (by kernel_rfl)
  have tO := as_typeOfE
  have mA := as_mAssignableTo
  have aE := as_assignableE
  have vE := as_valueOfE
  have vP := as_valueOfP
  have tP := as_typeP
  have mK := as_mKind
  have mE := as_mElem
  have mI := as_mImplements
  have kP := as_kindP
  have kE := as_kindE
  have eP := as_elemP
  have iE := as_implementsE
  have n8 := as_isNil ⟨w.heap.size, 0, none⟩ ⟨B, 0, none⟩ ((w.alloc (.cells #[.pointer (some ⟨B, 0, none⟩)] 44)).alloc (.cells #[hdl 44, .pointer (some ⟨w.heap.size, 0, none⟩), .int .u64 150] 79)) (by simp)
  have hg2 : ((w.alloc (.cells #[.pointer (some ⟨B, 0, none⟩)] 44)).alloc (.cells #[hdl 44, .pointer (some ⟨w.heap.size, 0, none⟩), .int .u64 150] 79)).cell? ⟨0, 0, none⟩ = some (.iface 106 (.agg #[hdl 42])) := by
    rw [World.cell?_alloc_lt _ _ ⟨0, 0, none⟩ (Nat.lt_of_lt_of_le (World.block_lt_of_cell? _ _ hg) (by simp)), World.cell?_alloc_lt _ _ ⟨0, 0, none⟩ (World.block_lt_of_cell? _ _ hg)]; exact hg
  have el := as_elemV ⟨w.heap.size, 0, none⟩ ⟨B, 0, none⟩ (((w.alloc (.cells #[.pointer (some ⟨B, 0, none⟩)] 44)).alloc (.cells #[hdl 44, .pointer (some ⟨w.heap.size, 0, none⟩), .int .u64 150] 79)).alloc (.cells #[hdl 44, .pointer (some ⟨w.heap.size, 0, none⟩), .int .u64 150] 79)) (by rw [World.cell?_alloc_lt _ _ ⟨w.heap.size, 0, none⟩ (by simp; omega)]; simp)
  have hbl : Below w.heap.size w ((((w.alloc (.cells #[.pointer (some ⟨B, 0, none⟩)] 44)).alloc (.cells #[hdl 44, .pointer (some ⟨w.heap.size, 0, none⟩), .int .u64 150] 79)).alloc (.cells #[hdl 44, .pointer (some ⟨w.heap.size, 0, none⟩), .int .u64 150] 79)).alloc (.cells #[.int .i64 c, .string s] 39)) := ((((Below.refl _ _).alloc (Nat.le_refl _) _).alloc (by simp) _).alloc (by simp; omega) _).alloc (by simp; omega) _
  have st := as_set B (w.heap.size + 1 + 1 + 1) c s x0 x1 ((((w.alloc (.cells #[.pointer (some ⟨B, 0, none⟩)] 44)).alloc (.cells #[hdl 44, .pointer (some ⟨w.heap.size, 0, none⟩), .int .u64 150] 79)).alloc (.cells #[hdl 44, .pointer (some ⟨w.heap.size, 0, none⟩), .int .u64 150] 79)).alloc (.cells #[.int .i64 c, .string s] 39))
    (by rw [World.cell?_alloc_at _ _ _ _ (by simp)]; rfl) (by rw [World.cell?_alloc_at _ _ _ _ (by simp)]; rfl)
    (by rw [hbl.cell hB]; exact h0) (by rw [hbl.cell hB]; exact h1) (by rw [hbl.frozen (p := ⟨B, 0, none⟩) hB]; exact f0) (by rw [hbl.frozen (p := ⟨B, 1, none⟩) hB]; exact f1)
  have HR : Hid (((((((w.alloc (.cells #[.pointer (some ⟨B, 0, none⟩)] 44)).alloc (.cells #[hdl 44, .pointer (some ⟨w.heap.size, 0, none⟩), .int .u64 150] 79)).alloc (.cells #[hdl 44, .pointer (some ⟨w.heap.size, 0, none⟩), .int .u64 150] 79)).alloc (.cells #[.int .i64 c, .string s] 39)).setCell ⟨B, 0, none⟩ (.int .i64 c)).setCell ⟨B, 1, none⟩ (.string s)).cell? ⟨B, 0, none⟩ = some (.int .i64 c) ∧ Below B w ((((((w.alloc (.cells #[.pointer (some ⟨B, 0, none⟩)] 44)).alloc (.cells #[hdl 44, .pointer (some ⟨w.heap.size, 0, none⟩), .int .u64 150] 79)).alloc (.cells #[hdl 44, .pointer (some ⟨w.heap.size, 0, none⟩), .int .u64 150] 79)).alloc (.cells #[.int .i64 c, .string s] 39)).setCell ⟨B, 0, none⟩ (.int .i64 c)).setCell ⟨B, 1, none⟩ (.string s))) := by
    refine ⟨?_, ((hbl.mono (Nat.le_of_lt hB)).setCell (Nat.le_refl _) _).setCell (Nat.le_refl _) _⟩
    rw [World.cell?_setCell_other _ _ _ _ (by intro e; cases e), World.cell?_setCell_same _ _ _ (u := x0) (by rw [hbl.cell hB]; exact h0)]
  clear hbl hg h0 h1 f0 f1
  go_enter Tryz.func15, Tryz.ntmps15
  go_wp2
  refine wp_loop_rounds 1 ?_
  rw [rounds_succ]
  go_wp2
  go_ret
  exact ⟨rfl, HR.out⟩
end Go.Proofs.YtfjlmkphncigladGreatDoor

/-
  The program's CheckDef comes to the plain one.
-/
namespace Go.Proofs.YtfjlmkphncigladGreatDoor
open Go.RowKit
set_option maxRecDepth 4000

/-- The library's own error type, as its variable holds it. -/
def ErrT (w : World) : Prop := w.cell? ⟨0, 0, none⟩ = some (.iface 106 (.agg #[hdl 42]))
theorem ErrT.lt {w : World} (h : ErrT w) : 0 < w.heap.size := World.block_lt_of_cell? _ _ h
theorem ErrT.below {w w' : World} (h : ErrT w) (hb : Below w.heap.size w w') : ErrT w' := (hb.cell (p := ⟨0, 0, none⟩) h.lt).trans h

set_option maxHeartbeats 4000000 in
theorem implCheck_any (v : Value) (D : PDef) (w : World) (h : DView w v D) (hf : DFine D) (hg : ErrT w) :
    Calls Tryz.prog 6 #[v] w fun e w' => e = .returned (.int .i64 (checkF D)) ∧ Below w.heap.size w w' := by
  have hv := h
  obtain ⟨ac, cc, ap, cp, ai, ci, rfl, -, -, -⟩ := h.is
  clear h
  have hb0 : Below w.heap.size w ((w.alloc (.cells #[.string D.name, .slice ac D.nc cc, .slice ap D.np cp, .slice ai D.ni ci] 28)).alloc (.cells #[.int .i64 0, .string ⟨#[]⟩] 39)) := ((Below.refl _ _).alloc (Nat.le_refl _) _).alloc (by simp) _
  have hW := wrongDef_any _ D _ (hv.below hb0) hf
  have c0 : ((w.alloc (.cells #[.string D.name, .slice ac D.nc cc, .slice ap D.np cp, .slice ai D.ni ci] 28)).alloc (.cells #[.int .i64 0, .string ⟨#[]⟩] 39)).cell? ⟨w.heap.size + 1, 0, none⟩ = some (.int .i64 0) := by simp
  have c1 : ((w.alloc (.cells #[.string D.name, .slice ac D.nc cc, .slice ap D.np cp, .slice ai D.ni ci] 28)).alloc (.cells #[.int .i64 0, .string ⟨#[]⟩] 39)).cell? ⟨w.heap.size + 1, 1, none⟩ = some (.string ⟨#[]⟩) := by simp [go_sem]
  have f0 : ((w.alloc (.cells #[.string D.name, .slice ac D.nc cc, .slice ap D.np cp, .slice ai D.ni ci] 28)).alloc (.cells #[.int .i64 0, .string ⟨#[]⟩] 39)).frozen? ⟨w.heap.size + 1, 0, none⟩ = false := by simp
  have f1 : ((w.alloc (.cells #[.string D.name, .slice ac D.nc cc, .slice ap D.np cp, .slice ai D.ni ci] 28)).alloc (.cells #[.int .i64 0, .string ⟨#[]⟩] 39)).frozen? ⟨w.heap.size + 1, 1, none⟩ = false := by simp [go_sem]
  have hsz : ((w.alloc (.cells #[.string D.name, .slice ac D.nc cc, .slice ap D.np cp, .slice ai D.ni ci] 28)).alloc (.cells #[.int .i64 0, .string ⟨#[]⟩] 39)).heap.size = w.heap.size + 1 + 1 := by simp
  have HG : Hid (ErrT w) := hg
  clear hv hf hg
  go_enter Tryz.func6, Tryz.ntmps6
  go_wp2_with fail
  refine hW.mono ?_
  rintro e w1 ⟨r, rfl, hr, hb1⟩
  rw [hsz] at hb1
  have hB1 : Below w.heap.size w w1 := hb0.trans (hb1.mono (by omega))
  have hg1 := HG.out.below hB1
  have hs1 := hb1.size
  rw [← hb1.cell (p := ⟨w.heap.size + 1, 0, none⟩) (by show w.heap.size + 1 < _; omega)] at c0
  rw [← hb1.cell (p := ⟨w.heap.size + 1, 1, none⟩) (by show w.heap.size + 1 < _; omega)] at c1
  rw [← hb1.frozen (p := ⟨w.heap.size + 1, 0, none⟩) (by show w.heap.size + 1 < _; omega)] at f0
  rw [← hb1.frozen (p := ⟨w.heap.size + 1, 1, none⟩) (by show w.heap.size + 1 < _; omega)] at f1
  rcases hr with ⟨hz, rfl⟩ | ⟨hz, s, rfl⟩
  · have hA := fun t => as_nil t w1
    have HZ : Hid (checkF D = 0) := hz
    have HB : Hid (Below w.heap.size w w1) := hB1
    clear hW hb0 hb1 hB1 hg1 hz hsz c0 c1 f0 f1
    go_wp2_with fail
    refine (hA _).mono ?_
    rintro e w2 ⟨rfl, rfl⟩
    clear hA
    go_wp2
    go_ret
    exact ⟨by rw [HZ.out]; rfl, HB.out⟩
  · have hA := as_hit (w.heap.size + 1) (checkF D) s _ _ w1 hg1 (by omega) c0 c1 f0 f1
    have HB : Hid (Below w.heap.size w w1) := hB1
    obtain ⟨z, hzz⟩ : ∃ z, Hid (checkF D = z) := ⟨_, rfl⟩
    rw [hzz.out] at hA ⊢
    clear hW hb0 hb1 hB1 hg1 hz hsz c0 c1 f0 f1
    go_wp2_with fail
    refine hA.mono ?_
    rintro e w2 ⟨rfl, c2, hb2⟩
    have HB2 : Hid (Below w.heap.size w w2) := HB.out.trans (hb2.mono (by omega))
    clear hA hb2 HB
    go_wp2
    go_ret
    exact ⟨by rw [hzz.out]; rfl, HB2.out⟩
end Go.Proofs.YtfjlmkphncigladGreatDoor

/-
  A table's text is not long.
-/
namespace Go.Proofs.YtfjlmkphncigladGreatDoor
open Go.RowKit
set_option maxRecDepth 4000

theorem partsT_size {col : Nat → PCol} {f : Nat → PBy} {n B : Nat} (h : ∀ i, i < n → (col (f i).col.toNat).name.size ≤ B) : ∀ k, k ≤ n → (partsT col f k).size ≤ k * (B + 7)
  | 0, _ => Nat.zero_le _
  | k + 1, hk => by
    have ih := partsT_size h k (by omega)
    have h1 := h k (by omega)
    have e1 : (⟨#[44, 32]⟩ : ByteArray).size = 2 := rfl
    have e2 : (⟨#[32, 100, 101, 115, 99]⟩ : ByteArray).size = 5 := rfl
    have h3 : (k + 1) * (B + 7) = k * (B + 7) + (B + 7) := by rw [Nat.add_mul]; omega
    rw [partsT]
    split <;> split <;> simp only [ByteArray.size_append] <;> omega
theorem typeW_size (t : Int) : (typeW t).size ≤ 4 := by
  unfold typeW
  split
  · exact Nat.le_succ _
  split
  · exact Nat.le_succ _
  split
  · exact Nat.le_refl _
  split
  · exact Nat.le_refl _
  · exact Nat.zero_le _
theorem colsT_size {name : ByteArray} {col : Nat → PCol} {n B : Nat} (hn : name.size ≤ B) (h : ∀ i, i < n → (col i).name.size ≤ B) : ∀ k, k ≤ n → (colsT name col k).size ≤ (k + 1) * (B + 12)
  | 0, _ => by
    have e1 : (⟨#[116, 97, 98, 108, 101, 32]⟩ : ByteArray).size = 6 := rfl
    have e2 : (⟨#[32, 123, 32]⟩ : ByteArray).size = 3 := rfl
    rw [colsT]
    simp only [ByteArray.size_append]
    omega
  | k + 1, hk => by
    have ih := colsT_size hn h k (by omega)
    have h1 := h k (by omega)
    have e1 : (⟨#[32]⟩ : ByteArray).size = 1 := rfl
    have e2 : (⟨#[32, 110, 117, 108, 108]⟩ : ByteArray).size = 5 := rfl
    have e3 : (⟨#[59, 32]⟩ : ByteArray).size = 2 := rfl
    have e4 := typeW_size (col k).type
    have h3 : (k + 1 + 1) * (B + 12) = (k + 1) * (B + 12) + (B + 12) := by rw [Nat.add_mul (k + 1)]; omega
    rw [colsT]
    split <;> simp only [ByteArray.size_append] <;> omega
theorem partsE_size {col : Nat → PCol} {f : Nat → PBy} {n B : Nat} (h : ∀ i, i < n → (col (f i).col.toNat).name.size ≤ B) (hn : n ≤ 2) : (partsE col n f).size ≤ 2 * B + 16 := by
  have h1 := partsT_size h n (Nat.le_refl _)
  have h2 : n * (B + 7) ≤ 2 * (B + 7) := Nat.mul_le_mul_right _ hn
  have e3 : (⟨#[59, 32]⟩ : ByteArray).size = 2 := rfl
  unfold partsE
  rw [ByteArray.size_append]
  omega
theorem idxT_size {D : PDef} {B : Nat} (hn : D.name.size ≤ B) (hc : ∀ i, i < D.nc → (D.col i).name.size ≤ B) (hnc : D.nc ≤ 6) (hp : (partsE D.col D.np D.pri).size ≤ 2 * B + 16) (hi : ∀ i, i < D.ni → (D.idx i).name.size ≤ B ∧ (partsE D.col (D.idx i).n (D.idx i).part).size ≤ 2 * B + 16) :
    ∀ k, k ≤ D.ni → (idxT D k).size ≤ 9 * B + 108 + k * (3 * B + 24)
  | 0, _ => by
    have h1 := colsT_size hn hc D.nc (Nat.le_refl _)
    have h2 : (D.nc + 1) * (B + 12) ≤ 7 * (B + 12) := Nat.mul_le_mul_right _ (by omega)
    have e1 : (⟨#[112, 114, 105, 109, 97, 114, 121, 32]⟩ : ByteArray).size = 8 := rfl
    rw [idxT]
    simp only [ByteArray.size_append]
    omega
  | k + 1, hk => by
    have ih := idxT_size hn hc hnc hp hi k (by omega)
    obtain ⟨h1, h2⟩ := hi k (by omega)
    have e1 : (⟨#[32]⟩ : ByteArray).size = 1 := rfl
    have e2 : (⟨#[117, 110, 105, 113, 117, 101, 32]⟩ : ByteArray).size = 7 := rfl
    have e3 : (⟨#[105, 110, 100, 101, 120, 32]⟩ : ByteArray).size = 6 := rfl
    have h3 : (k + 1) * (3 * B + 24) = k * (3 * B + 24) + (3 * B + 24) := by rw [Nat.add_mul]; omega
    rw [idxT]
    split <;> simp only [ByteArray.size_append] <;> omega
end Go.Proofs.YtfjlmkphncigladGreatDoor

/-
  The program's colText, partsText, indexText.
-/
namespace Go.Proofs.YtfjlmkphncigladGreatDoor
open Go.RowKit
set_option maxRecDepth 4000

/-- The program's table of the types' words. -/
def TyN (w : World) : Prop := ∀ i : Nat, i < 5 → w.cell? ⟨1, i, none⟩ = some (.string (typeW i))
theorem TyN.lt {w : World} (h : TyN w) : 1 < w.heap.size := World.block_lt_of_cell? _ _ (h 0 (by decide))
theorem TyN.below {w w' : World} (h : TyN w) (hb : Below w.heap.size w w') : TyN w' := fun i hi => (hb.cell (p := ⟨1, i, none⟩) h.lt).trans (h i hi)

/-- A column's text. -/
def colT (s : ByteArray) (t : Int) (nul : Bool) : ByteArray :=
  (if nul then s ++ (⟨#[32]⟩ : ByteArray) ++ typeW t ++ (⟨#[32, 110, 117, 108, 108]⟩ : ByteArray) else s ++ (⟨#[32]⟩ : ByteArray) ++ typeW t) ++ (⟨#[59, 32]⟩ : ByteArray)
theorem colsT_colT (name : ByteArray) (col : Nat → PCol) (k : Nat) : colsT name col (k + 1) = colsT name col k ++ colT (col k).name (col k).type (col k).null := by
  rw [colsT]
  unfold colT
  cases (col k).null <;> simp only [if_true, if_false, Bool.false_eq_true, ByteArray.append_assoc]

set_option maxHeartbeats 2000000 in
theorem colText_any (s : ByteArray) (t : Int) (nul : Bool) (w : World) (h1 : 1 ≤ t) (h4 : t ≤ 4) (hs : s.size ≤ 1048576) (hT : TyN w) :
    Calls Tryz.prog 24 #[.agg #[.string s, .int .i64 t, .bool nul]] w fun e w' => e = .returned (.string (colT s t nul)) ∧ Below w.heap.size w w' := by
  obtain ⟨m, rfl⟩ := Int.eq_ofNat_of_zero_le (show 0 ≤ t by omega)
  have hm5 : m < 5 := by omega
  have hc := hT m hm5
  have hlt := hT.lt
  have HN : Hid (colT s m nul = (if nul then s ++ (⟨#[32]⟩ : ByteArray) ++ typeW m ++ (⟨#[32, 110, 117, 108, 108]⟩ : ByteArray) else s ++ (⟨#[32]⟩ : ByteArray) ++ typeW m) ++ (⟨#[59, 32]⟩ : ByteArray)) := rfl
  have htz := typeW_size m
  obtain ⟨ty, hty⟩ : ∃ s, Hid (typeW (m : Int) = s) := ⟨_, rfl⟩
  rw [hty.out] at HN htz hc
  have hb0 : Below w.heap.size w (w.alloc (.cells #[.string s, .int .i64 (m : Int), .bool nul] 49)) := (Below.refl _ _).alloc (Nat.le_refl _) _
  have hc' : (w.alloc (.cells #[.string s, .int .i64 (m : Int), .bool nul] 49)).cell? ⟨1, m, none⟩ = some (.string ty) := (hb0.cell (p := ⟨1, m, none⟩) hlt).trans hc
  have HB : Hid (Below w.heap.size w (w.alloc (.cells #[.string s, .int .i64 (m : Int), .bool nul] 49))) := hb0
  have e1 : (⟨#[32]⟩ : ByteArray).size = 1 := rfl
  have e2 : (⟨#[32, 110, 117, 108, 108]⟩ : ByteArray).size = 5 := rfl
  have e3 : (⟨#[59, 32]⟩ : ByteArray).size = 2 := rfl
  have s1 : ¬ (s.size + 1 > 9223372036854775807) := by omega
  have s2 : (s ++ (⟨#[32]⟩ : ByteArray)).size = s.size + 1 := by rw [ByteArray.size_append]; rfl
  have s3 : ¬ (s.size + 1 + ty.size > 9223372036854775807) := by omega
  have s4 : (s ++ (⟨#[32]⟩ : ByteArray) ++ ty).size = s.size + 1 + ty.size := by rw [ByteArray.size_append, s2]
  have s5 : ¬ (s.size + 1 + ty.size + 5 > 9223372036854775807) := by omega
  have s6 : (s ++ (⟨#[32]⟩ : ByteArray) ++ ty ++ (⟨#[32, 110, 117, 108, 108]⟩ : ByteArray)).size = s.size + 1 + ty.size + 5 := by rw [ByteArray.size_append, s4]; rfl
  have s7 : ¬ (s.size + 1 + ty.size + 5 + 2 > 9223372036854775807) := by omega
  have s8 : ¬ (s.size + 1 + ty.size + 2 > 9223372036854775807) := by omega
  have hmz : (m : Int) < 5 := by omega
  clear hT hc hlt hb0 h1 h4
  go_enter Tryz.func24, Tryz.ntmps24
  go_wp2_with fail
  go_quiet (fail)
  cases nul with
  | true =>
    have HN' : Hid (colT s m true = s ++ (⟨#[32]⟩ : ByteArray) ++ ty ++ (⟨#[32, 110, 117, 108, 108]⟩ : ByteArray) ++ (⟨#[59, 32]⟩ : ByteArray)) := HN.out
    clear HN
    go_wp2
    go_ret
    exact ⟨by rw [HN'.out]; rfl, HB.out.trans ⟨rfl, rfl, rfl, Nat.le_refl _, fun _ _ => rfl⟩⟩
  | false =>
    have HN' : Hid (colT s m false = s ++ (⟨#[32]⟩ : ByteArray) ++ ty ++ (⟨#[59, 32]⟩ : ByteArray)) := HN.out
    clear HN
    go_wp2
    go_ret
    exact ⟨by rw [HN'.out]; rfl, HB.out.trans ⟨rfl, rfl, rfl, Nat.le_refl _, fun _ _ => rfl⟩⟩

/-- A part's text. -/
def partT (col : Nat → PCol) (f : Nat → PBy) (k : Nat) : ByteArray := if (f k).desc then (col (f k).col.toNat).name ++ (⟨#[32, 100, 101, 115, 99]⟩ : ByteArray) else (col (f k).col.toNat).name
theorem partsE_join (col : Nat → PCol) (n : Nat) (f : Nat → PBy) (h1 : 1 ≤ n) (h2 : n ≤ 2) :
    partsE col n f = (⟨(Lib.join (((List.range n).map (partT col f)).map (·.data.toList)) (⟨#[44, 32]⟩ : ByteArray).data.toList).toArray⟩ : ByteArray) ++ (⟨#[59, 32]⟩ : ByteArray) := by
  unfold partsE
  congr 1
  have key : ∀ a : ByteArray, (⟨a.data.toList.toArray⟩ : ByteArray) = a := fun a => by simp
  have hn : n = 1 ∨ n = 2 := by omega
  rcases hn with rfl | rfl
  · show _ = (⟨(Lib.join [(partT col f 0).data.toList] _).toArray⟩ : ByteArray)
    rw [Lib.join_one, key]
    apply ByteArray.ext
    apply Array.ext'
    unfold partT
    cases e0 : (f 0).desc <;> simp [partsT, e0]
  · show _ = (⟨(Lib.join [(partT col f 0).data.toList, (partT col f 1).data.toList] _).toArray⟩ : ByteArray)
    apply ByteArray.ext
    apply Array.ext'
    unfold partT
    cases e0 : (f 0).desc <;> cases e1 : (f 1).desc <;> simp [partsT, e0, e1, Lib.join, List.intercalate]
end Go.Proofs.YtfjlmkphncigladGreatDoor

/-
  The program's partsText, indexText.
-/
namespace Go.Proofs.YtfjlmkphncigladGreatDoor
open Go.RowKit
set_option maxRecDepth 4000

theorem partT_size {col : Nat → PCol} {f : Nat → PBy} {k : Nat} (h : (col (f k).col.toNat).name.size ≤ 1048576) : (partT col f k).size ≤ 1048581 := by
  unfold partT
  split
  · rw [ByteArray.size_append]; have : (⟨#[32, 100, 101, 115, 99]⟩ : ByteArray).size = 5 := rfl; omega
  · omega

set_option maxHeartbeats 4000000 in
theorem partsText_any (ac : Option Addr) (nc cc : Nat) (col : Nat → PCol) (a : Option Addr) (n cap : Nat) (f : Nat → PBy) (w : World) (hcv : CView w ac nc cc col) (h : BView w a n cap f) (h1 : 1 ≤ n) (h2 : n ≤ 2) (hnc : nc ≤ 1048576) (hin : ∀ i, i < n → 0 ≤ (f i).col ∧ (f i).col < nc) (hz : ∀ i, i < nc → (col i).name.size ≤ 1048576) :
    Calls Tryz.prog 25 #[.slice ac nc cc, .slice a n cap] w fun e w' => e = .returned (.string (partsE col n f)) ∧ Below w.heap.size w w' := by
  obtain ⟨i0, hi, hz0, hz1, hz2⟩ := infoStr
  have HE : Hid (partsE col n f = (⟨(Lib.join (((List.range n).map (partT col f)).map (·.data.toList)) (⟨#[44, 32]⟩ : ByteArray).data.toList).toArray⟩ : ByteArray) ++ (⟨#[59, 32]⟩ : ByteArray)) := partsE_join col n f h1 h2
  have hpz := partsE_size (B := 1048576) (col := col) (f := f) (n := n) (fun i hi => hz _ (by have := hin i hi; omega)) h2
  have HIN : Hid (∀ i, i < n → 0 ≤ (f i).col ∧ (f i).col < nc) := hin
  have HZ : Hid (∀ i, i < nc → (col i).name.size ≤ 1048576) := hz
  obtain ⟨z, hzz⟩ : ∃ z, Hid (partsE col n f = z) := ⟨_, rfl⟩
  rw [hzz.out] at HE hpz ⊢
  clear hin hz hzz
  have hbE : Below w.heap.size w (w.alloc (.cells #[] 9)) := (Below.refl _ _).alloc (Nat.le_refl _) _
  have hO0 : (w.alloc (.cells #[] 9)).ownsRow w.heap.size 9 1 (.slice (some ⟨w.heap.size, 0, none⟩) 0 0) 0 (rowG (encS (partT col f)) 0) := by
    have := World.ownsRow_lit (base := w.heap.size) (e := 9) (size := 1) w #[] 0 (Nat.le_refl _) (Nat.zero_le _) rfl
    simpa [rowG] using this
  go_enter Tryz.func25, Tryz.ntmps25
  go_wp2
  go_loopg [12, 5] n (fun q i s wr => ∃ k : Nat, k ≤ n ∧ q = n - k ∧ i = .int .i64 k ∧ (∃ g c, s = .slice (some ⟨g, 0, none⟩) k c) ∧ wr.ownsRow w.heap.size 9 1 s k (rowG (encS (partT col f)) k) ∧ Below w.heap.size w wr)
  case atStart => exact ⟨0, Nat.zero_le _, rfl, rfl, ⟨_, _, rfl⟩, hO0, hbE⟩
  case round =>
    clear hO0 hbE
    obtain ⟨k, hk, rfl, rfl, ⟨sa, sc, rfl⟩, hO, hB⟩ := hrel
    by_cases hlt : k < n
    · have hkz : (k : Int) < (n : Int) := by omega
      obtain ⟨q0, q1⟩ := HIN.out k hlt
      obtain ⟨m, hm⟩ := Int.eq_ofNat_of_zero_le q0
      obtain ⟨b1, o1, rfl, hb1, hcs⟩ := (h.below hB).cells (by omega)
      obtain ⟨x0, x1⟩ := hcs k hlt
      rw [hm] at x0 q1
      obtain ⟨b2, o2, rfl, hb2, hcc⟩ := (hcv.below hB).cells (by omega)
      obtain ⟨y0, -, -⟩ := hcc m (by omega)
      have hsz := hB.size
      have hnz := HZ.out m (by omega)
      have HN : Hid (rowG (encS (partT col f)) (k + 1) = rowG (encS (partT col f)) k ++ [.string (partT col f k)]) := rfl
      have HPT : Hid (partT col f k = if (f k).desc then (col m).name ++ (⟨#[32, 100, 101, 115, 99]⟩ : ByteArray) else (col m).name) := by show _ = _; unfold partT; rw [hm]; rfl
      have HB : Hid (Below w.heap.size w wr) := hB
      obtain ⟨s0, hs0⟩ : ∃ x, Hid ((col m).name = x) := ⟨_, rfl⟩
      obtain ⟨ds, hds⟩ : ∃ x, Hid ((f k).desc = x) := ⟨_, rfl⟩
      obtain ⟨R, hR⟩ : ∃ x, Hid (rowG (encS (partT col f)) k = x) := ⟨_, rfl⟩
      rw [hs0.out] at y0 hnz HPT
      rw [hds.out] at x1 HPT
      rw [hR.out] at HN hO
      have hmz : (m : Int) < (nc : Int) := q1
      have e5 : (⟨#[32, 100, 101, 115, 99]⟩ : ByteArray).size = 5 := rfl
      have s5 : ¬ (s0.size + 5 > 9223372036854775807) := by omega
      clear hcs hcc h hcv hB hm q0 q1
      have y0' : (wr.alloc (.cells #[.int .i64 (m : Int), .bool ds] 51)).cell? ⟨b2, o2 + m * 3, none⟩ = some (.string s0) := by rw [World.cell?_alloc_lt _ _ _ hb2]; exact y0
      cases ds with
      | true =>
        have hpt : Hid (partT col f k = s0 ++ (⟨#[32, 100, 101, 115, 99]⟩ : ByteArray)) := HPT.out
        rw [hpt.out] at HN
        clear HPT hpt
        have hb3 : Below wr.heap.size wr ((wr.alloc (.cells #[.int .i64 (m : Int), .bool true] 51)).alloc (.cells #[.string (s0 ++ (⟨#[32, 100, 101, 115, 99]⟩ : ByteArray))] 9)) := ((Below.refl _ _).alloc (Nat.le_refl _) _).alloc (by simp) _
        have hO2 := own_belowG hO hb3
        have hcl : ∀ j u, [Value.string (s0 ++ (⟨#[32, 100, 101, 115, 99]⟩ : ByteArray))][j]? = some u → ((wr.alloc (.cells #[.int .i64 (m : Int), .bool true] 51)).alloc (.cells #[.string (s0 ++ (⟨#[32, 100, 101, 115, 99]⟩ : ByteArray))] 9)).cell? ((⟨wr.heap.size + 1, 0, none⟩ : Addr).add j) = some u := by
          intro j u hj
          match j, hj with
          | 0, hj => simp at hj; subst hj; simp [Addr.add]
        have HBB : Hid (Below wr.heap.size wr ((wr.alloc (.cells #[.int .i64 (m : Int), .bool true] 51)).alloc (.cells #[.string (s0 ++ (⟨#[32, 100, 101, 115, 99]⟩ : ByteArray))] 9))) := hb3
        have HOW := own_ge9 hO
        clear hb3
        go_wp2_with (at_builtin; refine wpList_append_own _ rfl (.tmp 26) (.tmp 28) 74 rfl w.heap.size 9 i0 (.string ⟨#[]⟩) 1 16 Tryz.underlying74 hi hz0 hz1 hz2 rfl (by decide) _ _ _ rfl hO2 ⟨wr.heap.size + 1, 0, none⟩ 1 1 [.string (s0 ++ (⟨#[32, 100, 101, 115, 99]⟩ : ByteArray))] rfl rfl hcl (by intro u hu; simp at hu; subst hu; rfl) (by unfold maxLen; omega) (by omega) (by simp; omega) ?_)
        intro v5 w2 hown5 hgr hnil
        obtain ⟨g', cap', rfl⟩ := own_succ9 hown5
        have HR : Hid (w2.ownsRow w.heap.size 9 1 (.slice (some ⟨g', 0, none⟩) (k + 1) cap') (k + 1) (rowG (encS (partT col f)) (k + 1)) ∧ Below w.heap.size w w2) := by
          refine ⟨?_, ?_⟩
          · rw [HN.out]; exact hown5
          · exact (HB.out.trans (HBB.out.mono hsz)).grown hgr (by simp; omega) HOW
        clear hown5 hgr hnil hO hO2 hcl HOW y0 y0' x0 x1
        go_wp2
        go_roundg (n - (k + 1))
        case measure => omega
        case rel => exact ⟨k + 1, by omega, rfl, by go_num, ⟨_, _, rfl⟩, HR.out.1, HR.out.2⟩
      | false =>
        have hpt : Hid (partT col f k = s0) := HPT.out
        rw [hpt.out] at HN
        clear HPT hpt
        have hb3 : Below wr.heap.size wr ((wr.alloc (.cells #[.int .i64 (m : Int), .bool false] 51)).alloc (.cells #[.string (s0)] 9)) := ((Below.refl _ _).alloc (Nat.le_refl _) _).alloc (by simp) _
        have hO2 := own_belowG hO hb3
        have hcl : ∀ j u, [Value.string (s0)][j]? = some u → ((wr.alloc (.cells #[.int .i64 (m : Int), .bool false] 51)).alloc (.cells #[.string (s0)] 9)).cell? ((⟨wr.heap.size + 1, 0, none⟩ : Addr).add j) = some u := by
          intro j u hj
          match j, hj with
          | 0, hj => simp at hj; subst hj; simp [Addr.add]
        have HBB : Hid (Below wr.heap.size wr ((wr.alloc (.cells #[.int .i64 (m : Int), .bool false] 51)).alloc (.cells #[.string (s0)] 9))) := hb3
        have HOW := own_ge9 hO
        clear hb3
        go_wp2_with (at_builtin; refine wpList_append_own _ rfl (.tmp 26) (.tmp 28) 74 rfl w.heap.size 9 i0 (.string ⟨#[]⟩) 1 16 Tryz.underlying74 hi hz0 hz1 hz2 rfl (by decide) _ _ _ rfl hO2 ⟨wr.heap.size + 1, 0, none⟩ 1 1 [.string (s0)] rfl rfl hcl (by intro u hu; simp at hu; subst hu; rfl) (by unfold maxLen; omega) (by omega) (by simp; omega) ?_)
        intro v5 w2 hown5 hgr hnil
        obtain ⟨g', cap', rfl⟩ := own_succ9 hown5
        have HR : Hid (w2.ownsRow w.heap.size 9 1 (.slice (some ⟨g', 0, none⟩) (k + 1) cap') (k + 1) (rowG (encS (partT col f)) (k + 1)) ∧ Below w.heap.size w w2) := by
          refine ⟨?_, ?_⟩
          · rw [HN.out]; exact hown5
          · exact (HB.out.trans (HBB.out.mono hsz)).grown hgr (by simp; omega) HOW
        clear hown5 hgr hnil hO hO2 hcl HOW y0 y0' x0 x1
        go_wp2
        go_roundg (n - (k + 1))
        case measure => omega
        case rel => exact ⟨k + 1, by omega, rfl, by go_num, ⟨_, _, rfl⟩, HR.out.1, HR.out.2⟩
    · have hkz : ¬ (k : Int) < (n : Int) := by omega
      obtain rfl : k = n := by omega
      have hV := sview_of_row hO
      obtain ⟨b1, o1, eb, hb1, hcs⟩ := hV.cells (by omega)
      cases eb
      have hJL : (Lib.join (((List.range k).map (partT col f)).map (·.data.toList)) (⟨#[44, 32]⟩ : ByteArray).data.toList).length ≤ 2097168 := by
        have : z.size = (Lib.join (((List.range k).map (partT col f)).map (·.data.toList)) (⟨#[44, 32]⟩ : ByteArray).data.toList).length + 2 := by
          rw [HE.out, ByteArray.size_append]
          show (_ : List UInt8).toArray.size + 2 = _
          rw [List.size_toArray]
        omega
      have hJ := Tryz.strings_Join sa 0 sc ((List.range k).map (partT col f)) ⟨#[44, 32]⟩ wr (fun j x hj => by
        have hj' : j < k := by
          have := (List.getElem?_eq_some_iff.1 hj).1
          simpa using this
        have e : x = partT col f j := by simpa [hj'] using hj.symm
        rw [e]
        exact hcs j hj') hb1 (by simp; omega) (by simpa using hV.le) (by omega)
      rw [List.length_map, List.length_range] at hJ
      have HB : Hid (Below w.heap.size w wr) := hB
      have hjs : (⟨(Lib.join (((List.range k).map (partT col f)).map (·.data.toList)) (⟨#[44, 32]⟩ : ByteArray).data.toList).toArray⟩ : ByteArray).size ≤ 2097168 := by
        show (_ : List UInt8).toArray.size ≤ _
        rw [List.size_toArray]; exact hJL
      have hsz := hB.size
      obtain ⟨J, hJJ⟩ : ∃ J, Hid ((⟨(Lib.join (((List.range k).map (partT col f)).map (·.data.toList)) (⟨#[44, 32]⟩ : ByteArray).data.toList).toArray⟩ : ByteArray) = J) := ⟨_, rfl⟩
      rw [hJJ.out] at hJ HE hjs
      have e2 : (⟨#[59, 32]⟩ : ByteArray).size = 2 := rfl
      have s2 : ¬ (J.size + 2 > 9223372036854775807) := by omega
      clear h hcv hO hV hcs hB hJL hJJ
      go_wp2_with fail
      refine hJ.mono ?_
      rintro e w2 ⟨rfl, hb2⟩
      have HR : Hid (Below w.heap.size w w2) := HB.out.trans (hb2.mono hsz)
      clear hJ hb2
      go_wp2
      go_ret
      exact ⟨by rw [HE.out]; rfl, HR.out⟩
end Go.Proofs.YtfjlmkphncigladGreatDoor

/-
  The program's indexText.
-/
namespace Go.Proofs.YtfjlmkphncigladGreatDoor
open Go.RowKit
set_option maxRecDepth 4000

/-- An index's text. -/
def idxE (col : Nat → PCol) (x : PIdx) : ByteArray := (if x.uniq then (⟨#[117, 110, 105, 113, 117, 101, 32]⟩ : ByteArray) else (⟨#[105, 110, 100, 101, 120, 32]⟩ : ByteArray)) ++ x.name ++ (⟨#[32]⟩ : ByteArray) ++ partsE col x.n x.part
theorem idxT_idxE (D : PDef) (k : Nat) : idxT D (k + 1) = idxT D k ++ idxE D.col (D.idx k) := by
  rw [idxT]
  unfold idxE
  simp only [ByteArray.append_assoc]

set_option maxHeartbeats 4000000 in
theorem indexText_any (ac : Option Addr) (nc cc : Nat) (col : Nat → PCol) (x : PIdx) (a2 : Option Addr) (c2 : Nat) (w : World) (hcv : CView w ac nc cc col) (h : BView w a2 x.n c2 x.part) (h1 : 1 ≤ x.n) (h2 : x.n ≤ 2) (hnc : nc ≤ 1048576) (hin : ∀ i, i < x.n → 0 ≤ (x.part i).col ∧ (x.part i).col < nc) (hz : ∀ i, i < nc → (col i).name.size ≤ 1048576) (hxn : x.name.size ≤ 1048576) :
    Calls Tryz.prog 26 #[.slice ac nc cc, .agg #[.string x.name, .bool x.uniq, .slice a2 x.n c2]] w fun e w' => e = .returned (.string (idxE col x)) ∧ Below w.heap.size w w' := by
  have hP := fun W (hb : Below w.heap.size w W) => partsText_any ac nc cc col a2 x.n c2 x.part W (hcv.below hb) (h.below hb) h1 h2 hnc hin hz
  have hpz := partsE_size (B := 1048576) (col := col) (f := x.part) (n := x.n) (fun i hi => hz _ (by have := hin i hi; omega)) h2
  have HN : Hid (idxE col x = (if x.uniq then (⟨#[117, 110, 105, 113, 117, 101, 32]⟩ : ByteArray) else (⟨#[105, 110, 100, 101, 120, 32]⟩ : ByteArray)) ++ x.name ++ (⟨#[32]⟩ : ByteArray) ++ partsE col x.n x.part) := rfl
  clear hcv h h1 h2 hin hz
  obtain ⟨z, hzz⟩ : ∃ z, Hid (idxE col x = z) := ⟨_, rfl⟩
  rw [hzz.out] at HN ⊢
  clear hzz
  generalize partsE col x.n x.part = q at *
  obtain ⟨s0, u, n2, pp⟩ := x
  simp only at *
  have hb0 : Below w.heap.size w (w.alloc (.cells #[.string s0, .bool u, .slice a2 n2 c2] 60)) := (Below.refl _ _).alloc (Nat.le_refl _) _
  have hs0 : w.heap.size < (w.alloc (.cells #[.string s0, .bool u, .slice a2 n2 c2] 60)).heap.size := by simp
  have x0 : (w.alloc (.cells #[.string s0, .bool u, .slice a2 n2 c2] 60)).cell? ⟨w.heap.size, 0, none⟩ = some (.string s0) := by simp
  have x1 : (w.alloc (.cells #[.string s0, .bool u, .slice a2 n2 c2] 60)).cell? ⟨w.heap.size, 1, none⟩ = some (.bool u) := by simp [go_sem]
  have x2 : (w.alloc (.cells #[.string s0, .bool u, .slice a2 n2 c2] 60)).cell? ⟨w.heap.size, 2, none⟩ = some (.slice a2 n2 c2) := by simp [go_sem]
  have k7 : (⟨#[117, 110, 105, 113, 117, 101, 32]⟩ : ByteArray).size = 7 := rfl
  have k6 : (⟨#[105, 110, 100, 101, 120, 32]⟩ : ByteArray).size = 6 := rfl
  have k1 : (⟨#[32]⟩ : ByteArray).size = 1 := rfl
  cases u with
  | true =>
    have HZ : Hid (z = (⟨#[117, 110, 105, 113, 117, 101, 32]⟩ : ByteArray) ++ s0 ++ (⟨#[32]⟩ : ByteArray) ++ q) := HN.out
    have t1 : ¬ (7 + s0.size > 9223372036854775807) := by omega
    have t2 : ((⟨#[117, 110, 105, 113, 117, 101, 32]⟩ : ByteArray) ++ s0).size = 7 + s0.size := by rw [ByteArray.size_append]; rfl
    have t3 : ¬ (7 + s0.size + 1 > 9223372036854775807) := by omega
    have t4 : ((⟨#[117, 110, 105, 113, 117, 101, 32]⟩ : ByteArray) ++ s0 ++ (⟨#[32]⟩ : ByteArray)).size = 7 + s0.size + 1 := by rw [ByteArray.size_append, t2]; rfl
    have t5 : ¬ (7 + s0.size + 1 + q.size > 9223372036854775807) := by omega
    clear HN
    go_enter Tryz.func26, Tryz.ntmps26
    go_wp2_with fail
    obtain ⟨w0, hw0⟩ : ∃ w0, Hid (w0 = w.alloc (.cells #[.string s0, .bool true, .slice a2 n2 c2] 60)) := ⟨_, rfl⟩
    rw [← hw0.out] at hb0 hs0 x0 x1 x2 ⊢
    have HWK : Hid (∀ W, Below w0.heap.size w0 W → W.cell? ⟨w.heap.size, 0, none⟩ = some (.string s0) ∧ W.cell? ⟨w.heap.size, 1, none⟩ = some (.bool true) ∧ W.cell? ⟨w.heap.size, 2, none⟩ = some (.slice a2 n2 c2)) := by
      intro W hb
      refine ⟨?_, ?_, ?_⟩ <;> (rw [hb.cell hs0]; assumption)
    have HP : Hid (∀ W, Below w0.heap.size w0 W → Below w.heap.size w W) := fun W hb => hb0.trans (hb.mono hb0.size)
    clear hb0
    go_region_held3 (fun WW => WW.cell? ⟨w.heap.size, 0, none⟩ = some (.string s0) ∧ WW.cell? ⟨w.heap.size, 1, none⟩ = some (.bool true) ∧ WW.cell? ⟨w.heap.size, 2, none⟩ = some (.slice a2 n2 c2)) (first | assumption | go_keep) (first | (go_at_call 25; refine (hP _ (HP.out _ (by repeat (first | exact Below.refl _ _ | refine Below.drew ?_)))).mono ?_; rintro e w2 ⟨rfl, hB2⟩; have hcells : w2.cell? ⟨w.heap.size, 0, none⟩ = some (.string s0) ∧ w2.cell? ⟨w.heap.size, 1, none⟩ = some (.bool true) ∧ w2.cell? ⟨w.heap.size, 2, none⟩ = some (.slice a2 n2 c2) := HWK.out _ (Below.trans (by repeat (first | exact Below.refl _ _ | refine Below.drew ?_)) hB2)))
    all_goals
      have HR : Hid (Below w.heap.size w w2) := HP.out _ (Below.trans (by repeat (first | exact Below.refl _ _ | refine Below.drew ?_)) hB2)
      clear hcells HWK HP hP hB2
      go_wp2
      go_ret
      exact ⟨by rw [HZ.out]; rfl, by first | exact HR.out | exact HR.out.drew⟩
  | false =>
    have HZ : Hid (z = (⟨#[105, 110, 100, 101, 120, 32]⟩ : ByteArray) ++ s0 ++ (⟨#[32]⟩ : ByteArray) ++ q) := HN.out
    have t1 : ¬ (6 + s0.size > 9223372036854775807) := by omega
    have t2 : ((⟨#[105, 110, 100, 101, 120, 32]⟩ : ByteArray) ++ s0).size = 6 + s0.size := by rw [ByteArray.size_append]; rfl
    have t3 : ¬ (6 + s0.size + 1 > 9223372036854775807) := by omega
    have t4 : ((⟨#[105, 110, 100, 101, 120, 32]⟩ : ByteArray) ++ s0 ++ (⟨#[32]⟩ : ByteArray)).size = 6 + s0.size + 1 := by rw [ByteArray.size_append, t2]; rfl
    have t5 : ¬ (6 + s0.size + 1 + q.size > 9223372036854775807) := by omega
    clear HN
    go_enter Tryz.func26, Tryz.ntmps26
    go_wp2_with fail
    obtain ⟨w0, hw0⟩ : ∃ w0, Hid (w0 = w.alloc (.cells #[.string s0, .bool false, .slice a2 n2 c2] 60)) := ⟨_, rfl⟩
    rw [← hw0.out] at hb0 hs0 x0 x1 x2 ⊢
    have HWK : Hid (∀ W, Below w0.heap.size w0 W → W.cell? ⟨w.heap.size, 0, none⟩ = some (.string s0) ∧ W.cell? ⟨w.heap.size, 1, none⟩ = some (.bool false) ∧ W.cell? ⟨w.heap.size, 2, none⟩ = some (.slice a2 n2 c2)) := by
      intro W hb
      refine ⟨?_, ?_, ?_⟩ <;> (rw [hb.cell hs0]; assumption)
    have HP : Hid (∀ W, Below w0.heap.size w0 W → Below w.heap.size w W) := fun W hb => hb0.trans (hb.mono hb0.size)
    clear hb0
    go_region_held3 (fun WW => WW.cell? ⟨w.heap.size, 0, none⟩ = some (.string s0) ∧ WW.cell? ⟨w.heap.size, 1, none⟩ = some (.bool false) ∧ WW.cell? ⟨w.heap.size, 2, none⟩ = some (.slice a2 n2 c2)) (first | assumption | go_keep) (first | (go_at_call 25; refine (hP _ (HP.out _ (by repeat (first | exact Below.refl _ _ | refine Below.drew ?_)))).mono ?_; rintro e w2 ⟨rfl, hB2⟩; have hcells : w2.cell? ⟨w.heap.size, 0, none⟩ = some (.string s0) ∧ w2.cell? ⟨w.heap.size, 1, none⟩ = some (.bool false) ∧ w2.cell? ⟨w.heap.size, 2, none⟩ = some (.slice a2 n2 c2) := HWK.out _ (Below.trans (by repeat (first | exact Below.refl _ _ | refine Below.drew ?_)) hB2)))
    all_goals
      have HR : Hid (Below w.heap.size w w2) := HP.out _ (Below.trans (by repeat (first | exact Below.refl _ _ | refine Below.drew ?_)) hB2)
      clear hcells HWK HP hP hB2
      go_wp2
      go_ret
      exact ⟨by rw [HZ.out]; rfl, by first | exact HR.out | exact HR.out.drew⟩
end Go.Proofs.YtfjlmkphncigladGreatDoor

/-
  A strings.Builder of the call's own: what is written comes behind what it holds.
-/
namespace Go.Proofs.YtfjlmkphncigladGreatDoor
open Go.RowKit
set_option maxRecDepth 4000

theorem builder_info : ∃ j, Tryz.prog.info? 54 = some j ∧ j.size = 2 := by
  have h : (Tryz.prog.info? 54).map (fun i => i.size) = some 2 := by kernel_rfl
  exact Option.map_eq_some_iff.1 h
theorem builder_lies : liesAt Tryz.prog Tryz.prog.depth 54 (2 / Tryz.prog.cellsOf 54) 0 54 1 = true := by kernel_rfl
theorem byte_info : ∃ i, Tryz.prog.info? 5 = some i ∧ i.zero = some (.int .u8 0) ∧ i.size = 1 ∧ i.bytes = 1 := by
  have h : (Tryz.prog.info? 5).map (fun i => (i.zero, i.size, i.bytes)) = some (some (.int .u8 0), 1, 1) := by kernel_rfl
  obtain ⟨i, hi, hz⟩ := Option.map_eq_some_iff.1 h
  simp only [Prod.mk.injEq] at hz
  exact ⟨i, hi, hz.1, hz.2.1, hz.2.2⟩

set_option maxHeartbeats 1000000 in
/-- copyCheck: the builder knows its own place behind it. -/
theorem copyCheck_any (B b : Nat) (bs : List Value) (w : World) (h : Lib.IsBuilder 54 5 B b bs w) :
    Calls Tryz.prog 58 #[.pointer (some ⟨b, 0, none⟩)] w fun e w' => e = .returned (.tuple #[]) ∧ Lib.BuilderAt 54 5 B b (.pointer (some ⟨b, 0, none⟩)) bs w' ∧ Below B w w' ∧ ∀ i, i ≠ b → w'.heap[i]? = w.heap[i]? := by
  obtain ⟨j, hj, hj2⟩ := builder_info
  rcases h with h | h
  · have c0 := h.cell0
    have f0 := h.frozen0
    have sh := h.shape
    have HR : Hid (Lib.BuilderAt 54 5 B b (.pointer (some ⟨b, 0, none⟩)) bs (w.setCell ⟨b, 0, none⟩ (.pointer (some ⟨b, 0, none⟩))) ∧ Below B w (w.setCell ⟨b, 0, none⟩ (.pointer (some ⟨b, 0, none⟩))) ∧ ∀ i, i ≠ b → (w.setCell ⟨b, 0, none⟩ (.pointer (some ⟨b, 0, none⟩))).heap[i]? = w.heap[i]?) := ⟨h.used _, (Below.refl B w).setCell (p := ⟨b, 0, none⟩) h.1 _, fun i hi => Below.heap_setCell _ _ _ _ hi⟩
    have q1 : (convert 52 76 (.pointer (some ⟨b, 0, none⟩))).run Tryz.prog w = .ok (.pointer (some ⟨b, 0, none⟩)) w :=
      Lib.run_to_unsafe w ⟨b, 0, none⟩ Tryz.underlying52 Tryz.underlying76 hj (by rw [hj2]; decide) sh (Nat.zero_lt_succ 1)
    have q2 : (convert 76 52 (.pointer (some ⟨b, 0, none⟩))).run Tryz.prog w = .ok (.pointer (some ⟨b, 0, none⟩)) w :=
      Lib.run_from_unsafe w ⟨b, 0, none⟩ Tryz.underlying76 Tryz.underlying52 hj sh builder_lies
    have q3 : (callFunc 76 #[.pointer (some ⟨b, 0, none⟩)]).run Tryz.prog w = _ := run_callFunc_extern (P := Tryz.prog) Tryz.func76 (by kernel_rfl) (by kernel_rfl) (by kernel_rfl) (e := Extern.AbiNoEscape.same) (by kernel_rfl) _ w
    rw [Lib.run_noEscape] at q3
    have q4 := fun W => Lib.run_neq_ptr_same W ⟨b, 0, none⟩ Tryz.underlying52 hj
    clear h sh
    go_enter Tryz.func58, Tryz.ntmps58
    go_wp2
    go_end0
    exact ⟨rfl, HR.out⟩
  · have c0 := h.cell0
    have q : (binOp .neq 52 (.pointer (some ⟨b, 0, none⟩)) (.pointer (some ⟨b, 0, none⟩))).run Tryz.prog w = .ok (.bool false) w := Lib.run_neq_ptr_same w _ Tryz.underlying52 hj
    have HR : Hid (Lib.BuilderAt 54 5 B b (.pointer (some ⟨b, 0, none⟩)) bs w) := h
    clear h
    go_enter Tryz.func58, Tryz.ntmps58
    go_wp2
    go_end0
    exact ⟨rfl, HR.out, Below.refl _ _, fun _ _ => rfl⟩

set_option maxHeartbeats 2000000 in
/-- WriteString: the text behind what is there. -/
theorem writeString_any (B b : Nat) (bs : List Value) (s : ByteArray) (w : World) (h : Lib.IsBuilder 54 5 B b bs w) (hlen : bs.length + s.size ≤ 140737488355328) (hBw : B ≤ w.heap.size) :
    Calls Tryz.prog 23 #[.pointer (some ⟨b, 0, none⟩), .string s] w fun e w' => e = .returned (.tuple #[.int .i64 s.size, .nilIface]) ∧ Lib.IsBuilder 54 5 B b (bs ++ Lib.strCells s) w' ∧ Below B w w' := by
  obtain ⟨i0, hi, hz0, hz1, hz2⟩ := byte_info
  have hC := copyCheck_any B b bs w h
  clear h
  go_enter Tryz.func23, Tryz.ntmps23
  go_wp2_with fail
  refine hC.mono ?_
  rintro e w1 ⟨rfl, hA, hb1, hk1⟩
  clear hC
  have hlt := hA.lt
  obtain ⟨hB, v, hbk, hown, hne⟩ := hA
  have c1 : w1.cell? ⟨b, 1, none⟩ = some v := by rw [Lib.cell_of_heap hbk]; rfl
  have hs1 := hb1.size
  go_wp2_with (at_builtin; refine Lib.wpList_append_own_string _ rfl (.tmp 12) (.tmp 13) 22 9 rfl B 5 i0 Tryz.underlying22 Tryz.underlying9 hi hz0 hz1 hz2 v _ _ rfl hown s rfl (by unfold maxLen; omega) (by omega) (by omega) ?_)
  intro v5 w2 hown5 hgr hnil
  have hb2 : w2.heap[b]? = some (.cells #[.pointer (some ⟨b, 0, none⟩), v] 54 (0, 0)) := by
    rw [hgr.block b hlt (fun e => hne e.symm)]
    exact hbk
  have f1 : w2.frozen? ⟨b, 1, none⟩ = false := Lib.frozen_of_heap hb2 1
  have d1 : w2.cell? ⟨b, 1, none⟩ = some v := by rw [Lib.cell_of_heap hb2]; rfl
  have HA : Hid (Lib.BuilderAt 54 5 B b (.pointer (some ⟨b, 0, none⟩)) (bs ++ Lib.strCells s) (w2.setCell ⟨b, 1, none⟩ v5) ∧ Below B w (w2.setCell ⟨b, 1, none⟩ v5)) :=
    ⟨Lib.BuilderAt.put hB hb2 (bs' := bs ++ Lib.strCells s) (by simpa [Lib.strCells_length] using hown5) (by decide), (hb1.grown hgr (by omega) (fun k hk => (hown.lt k hk).1)).setCell (p := ⟨b, 1, none⟩) hB _⟩
  obtain ⟨a', n', cap', rfl⟩ : ∃ a n' cap, v5 = .slice a n' cap := by
    rcases hown5.2 with ⟨hv, _⟩ | ⟨g, cap, cur, hv, _⟩
    · exact ⟨_, _, _, hv⟩
    · exact ⟨_, _, _, hv⟩
  clear hown hown5 hgr hnil hbk hb2 c1 hk1
  go_wp2
  go_ret2
  exact ⟨rfl, Or.inr HA.out.1, HA.out.2⟩
end Go.Proofs.YtfjlmkphncigladGreatDoor

/-
  A builder stays while nothing of what lay is turned.
-/
namespace Go.Proofs.YtfjlmkphncigladGreatDoor
open Go.RowKit
set_option maxRecDepth 4000

theorem builder_below {T e : TypeId} {B b : Nat} {bs : List Value} {w w' : World} (h : Lib.IsBuilder T e B b bs w) (hb : Below w.heap.size w w') : Lib.IsBuilder T e B b bs w' := by
  have key : ∀ p, Lib.BuilderAt T e B b p bs w → Lib.BuilderAt T e B b p bs w' := by
    intro p h
    have hlt := h.lt
    obtain ⟨hB, v, hbk, hown, hne⟩ := h
    refine ⟨hB, v, by rw [hb.block b hlt]; exact hbk, hown.kept (row := none) ⟨hb.os, hb.tape, hb.output, hb.size, fun k hk _ => hb.block k hk⟩ ?_, hne⟩
    cases hv : v.ownBlock with
    | none => exact Or.inl rfl
    | some k => exact Or.inr (fun e => by cases e)
  rcases h with h | h
  · exact Or.inl (key _ h)
  · exact Or.inr (key _ h)

end Go.Proofs.YtfjlmkphncigladGreatDoor

/-
  The program's DefText comes to the plain one.
-/
namespace Go.Proofs.YtfjlmkphncigladGreatDoor
open Go.RowKit
set_option maxRecDepth 4000

theorem cells_app (a b : ByteArray) : Lib.byteCells (a ++ b).data.toList = Lib.byteCells a.data.toList ++ Lib.strCells b := by
  rw [ByteArray.data_append, Array.toList_append, Lib.byteCells_append, Lib.strCells_eq]
theorem cells_len (a : ByteArray) : (Lib.byteCells a.data.toList).length = a.size := by rw [Lib.byteCells_length]; rfl
/-- A builder that holds a text. -/
def Bld (b : Nat) (s : ByteArray) (w : World) : Prop := Lib.IsBuilder 54 5 b b (Lib.byteCells s.data.toList) w
theorem Bld.below {b : Nat} {s : ByteArray} {w w' : World} (h : Bld b s w) (hb : Below w.heap.size w w') : Bld b s w' := builder_below h hb
theorem Bld.lt {b : Nat} {s : ByteArray} {w : World} (h : Bld b s w) : b < w.heap.size := by
  rcases h with h | h
  · exact h.lt
  · exact h.lt
theorem Bld.write {b : Nat} {s : ByteArray} {w : World} (h : Bld b s w) (u : ByteArray) (hl : s.size + u.size ≤ 140737488355328) :
    Calls Tryz.prog 23 #[.pointer (some ⟨b, 0, none⟩), .string u] w fun e w' => e = .returned (.tuple #[.int .i64 u.size, .nilIface]) ∧ Bld b (s ++ u) w' ∧ Below b w w' := by
  refine (writeString_any b b _ u w h (by rw [cells_len]; exact hl) (Nat.le_of_lt h.lt)).mono ?_
  rintro e w' ⟨rfl, h1, h2⟩
  exact ⟨rfl, by unfold Bld; rw [cells_app]; exact h1, h2⟩

set_option maxHeartbeats 8000000 in
theorem implText_any (v : Value) (D : PDef) (w : World) (h : DView w v D) (hf : DFine D) (hg : ErrT w) (hty : TyN w) :
    Calls Tryz.prog 9 #[v] w fun e w' => e = .returned (.string (defText D)) ∧ Below w.heap.size w w' := by
  have hv := h
  obtain ⟨ac, cc, ap, cp, ai, ci, rfl, hcv, hpv, hiv⟩ := h.is
  clear h
  have hB0 : Below w.heap.size w (w.alloc (.cells #[.string D.name, .slice ac D.nc cc, .slice ap D.np cp, .slice ai D.ni ci] 28)) := (Below.refl _ _).alloc (Nat.le_refl _) _
  have hD0 := D4.new w 28 (.string D.name) (.slice ac D.nc cc) (.slice ap D.np cp) (.slice ai D.ni ci)
  have hC := implCheck_any _ D _ (hv.below hB0) hf (hg.below hB0)
  by_cases hgood : checkF D = 0
  · have HD : Hid (defText D = idxT D D.ni ++ (⟨#[125]⟩ : ByteArray)) := by show _ = _; unfold defText; rw [if_pos hgood]; rfl
    rw [hgood] at hC
    obtain ⟨-, g2, -, g4, g5, -⟩ := checkF_good hgood
    unfold typesF at g2
    have G2 := of_decide_eq_true g2
    unfold allPartsF at g5
    have G5 := of_decide_eq_true g5
    have hnc6 : D.nc ≤ 6 := G2.2.2
    have hnp2 := partsF_two G5.2
    have HT : Hid (∀ i, i < D.nc → 1 ≤ (D.col i).type ∧ (D.col i).type ≤ 4) := G2.1
    have HIN : Hid (∀ i, i < D.np → 0 ≤ (D.pri i).col ∧ (D.pri i).col < D.nc) := fun i hi => partsF_in G5.2 hi
    have HIX : Hid (∀ k, k < D.ni → (1 ≤ (D.idx k).n ∧ (D.idx k).n ≤ 2) ∧ ∀ i, i < (D.idx k).n → 0 ≤ ((D.idx k).part i).col ∧ ((D.idx k).part i).col < D.nc) := fun k hk => ⟨partsF_two (G5.1 k hk), fun i hi => partsF_in (G5.1 k hk) hi⟩
    have HCZ : Hid (∀ i, i < D.nc → (D.col i).name.size ≤ 1048576) := hf.col
    have HXZ : Hid (∀ i, i < D.ni → (D.idx i).name.size ≤ 1048576) := fun i hi => (hf.idx i hi).1
    have hnz := hf.name
    have HS1 : Hid (∀ k, k ≤ D.nc → (colsT D.name D.col k).size ≤ 7340116) := fun k hk => by
      have h1 := colsT_size hf.name hf.col k hk
      have h2 : (k + 1) * (1048576 + 12) ≤ 7 * (1048576 + 12) := Nat.mul_le_mul_right _ (by omega)
      omega
    have HP1 : Hid ((partsE D.col D.np D.pri).size ≤ 2097168) := partsE_size (B := 1048576) (fun i hi => hf.col _ (by have := HIN.out i hi; omega)) hnp2.2
    have HP2 : Hid (∀ k, k < D.ni → (partsE D.col (D.idx k).n (D.idx k).part).size ≤ 2097168) := fun k hk => partsE_size (B := 1048576) (fun i hi => hf.col _ (by have := (HIX.out k hk).2 i hi; omega)) (HIX.out k hk).1.2
    have HS2 : Hid (∀ k, k ≤ D.ni → (idxT D k).size ≤ 15728848) := fun k hk => by
      have h1 := idxT_size (B := 1048576) hf.name hf.col hnc6 HP1.out (fun i hi => ⟨HXZ.out i hi, HP2.out i hi⟩) k hk
      have h2 : k * (3 * 1048576 + 24) ≤ 2 * (3 * 1048576 + 24) := Nat.mul_le_mul_right _ (by omega)
      omega
    have HCV : Hid (CView w ac D.nc cc D.col) := hcv
    have HPV : Hid (BView w ap D.np cp D.pri) := hpv
    have HIV : Hid (IView w ai D.ni ci D.idx) := hiv
    have HTY : Hid (TyN w) := hty
    have hnc := hf.nc
    have hni := hf.ni
    clear hf g2 G2 g5 G5 hcv hpv hiv hty hg hv hgood
    go_enter Tryz.func9, Tryz.ntmps9
    go_wp2_with fail
    refine hC.mono ?_
    rintro e w1 ⟨rfl, hb1⟩
    have hD1 := hD0.below hb1
    have hB1 : Below w.heap.size w w1 := hB0.trans (hb1.mono hB0.size)
    have hBL : Bld w1.heap.size ⟨#[]⟩ (w1.alloc (.cells #[.pointer none, .slice none 0 0] 54)) := Lib.fresh_isBuilder _ _ w1
    have hbA : Below w1.heap.size w1 (w1.alloc (.cells #[.pointer none, .slice none 0 0] 54)) := (Below.refl _ _).alloc (Nat.le_refl _) _
    have HT0 : Hid (colsT D.name D.col 0 = (⟨#[]⟩ : ByteArray) ++ ((⟨#[116, 97, 98, 108, 101, 32]⟩ : ByteArray) ++ D.name ++ (⟨#[32, 123, 32]⟩ : ByteArray))) := by
      show _ = _
      apply ByteArray.ext
      apply Array.ext'
      simp [colsT]
    have hW := hBL.write ((⟨#[116, 97, 98, 108, 101, 32]⟩ : ByteArray) ++ D.name ++ (⟨#[32, 123, 32]⟩ : ByteArray)) (by
      have a1 : (⟨#[116, 97, 98, 108, 101, 32]⟩ : ByteArray).size = 6 := rfl
      have a2 : (⟨#[32, 123, 32]⟩ : ByteArray).size = 3 := rfl
      have a3 : (⟨#[]⟩ : ByteArray).size = 0 := rfl
      rw [ByteArray.size_append, ByteArray.size_append]; omega)
    rw [← HT0.out] at hW
    have hDA := hD1.below hbA
    have a1 : (⟨#[116, 97, 98, 108, 101, 32]⟩ : ByteArray).size = 6 := rfl
    have a2 : (⟨#[32, 123, 32]⟩ : ByteArray).size = 3 := rfl
    have a3 : ((⟨#[116, 97, 98, 108, 101, 32]⟩ : ByteArray) ++ D.name).size = 6 + D.name.size := by rw [ByteArray.size_append]; rfl
    have a4 : ¬ (6 + D.name.size > 9223372036854775807) := by omega
    have a5 : ¬ (6 + D.name.size + 3 > 9223372036854775807) := by omega
    have HD1 : Hid (D4 w.heap.size (.string D.name) (.slice ac D.nc cc) (.slice ap D.np cp) (.slice ai D.ni ci) w1) := hD1
    have HB1 : Hid (Below w.heap.size w w1) := hB1
    have HBA : Hid (Below w1.heap.size w1 (w1.alloc (.cells #[.pointer none, .slice none 0 0] 54))) := hbA
    obtain ⟨lt1, y0, y1, y2, y3⟩ := hD1
    obtain ⟨lt0, x0, x1, x2, x3⟩ := hDA
    clear hC hb1 hB0 hD0 hB1 hBL hbA
    go_wp2_with fail
    refine hW.mono ?_
    rintro e w2 ⟨rfl, hL2, hb2⟩
    have hB2 : Below w1.heap.size w1 w2 := HBA.out.trans hb2
    have hdb : w.heap.size < w1.heap.size := lt1
    have HD4 : Hid (∀ W, Below w1.heap.size w1 W → D4 w.heap.size (.string D.name) (.slice ac D.nc cc) (.slice ap D.np cp) (.slice ai D.ni ci) W) := fun W h => HD1.out.below h
    have HUP : Hid (∀ W, Below w1.heap.size w1 W → Below w.heap.size w W) := fun W h => HB1.out.trans (h.mono (Nat.le_of_lt hdb))
    clear hW hb2 HBA x0 x1 x2 x3 lt0 y0 y1 y2 y3 lt1 HD1 HB1
    obtain ⟨b, hb⟩ : ∃ b, Hid (w1.heap.size = b) := ⟨_, rfl⟩
    rw [hb.out] at hL2 hB2 hdb HD4 HUP ⊢
    obtain ⟨lt2, x0, x1, x2, x3⟩ := HD4.out _ hB2
    go_wp2
    clear a1 a2 a3 a4 a5 x0 x1 x2 x3 lt2
    go_loopg [19] D.nc (fun q i wr => ∃ k : Nat, k ≤ D.nc ∧ q = D.nc - k ∧ i = .int .i64 k ∧ Bld b (colsT D.name D.col k) wr ∧ Below b w1 wr)
    case atStart => exact ⟨0, Nat.zero_le _, rfl, rfl, hL2, hB2⟩
    case round =>
      clear hL2 hB2
      obtain ⟨k, hk, rfl, rfl, hL, hB⟩ := hrel
      have hBw := HUP.out _ hB
      by_cases hlt : k < D.nc
      · have hkz : (k : Int) < (D.nc : Int) := by omega
        obtain ⟨b1, o1, eb, hb1, hcc⟩ := (HCV.out.below hBw).cells (by omega)
        obtain ⟨z0, z1, z2⟩ := hcc k hlt
        obtain ⟨t1, t4⟩ := HT.out k hlt
        have hCT := fun W (hb : Below wr.heap.size wr W) => colText_any (D.col k).name (D.col k).type (D.col k).null W t1 t4 (HCZ.out k hlt) ((HTY.out.below hBw).below hb)
        have HN : Hid (colsT D.name D.col (k + 1) = colsT D.name D.col k ++ colT (D.col k).name (D.col k).type (D.col k).null) := colsT_colT _ _ _
        have hjz := HS1.out (k + 1) (by omega)
        have HSZ : Hid ((colsT D.name D.col k).size + (colT (D.col k).name (D.col k).type (D.col k).null).size ≤ 7340116) := by
          have := HN.out
          rw [this, ByteArray.size_append] at hjz
          exact hjz
        obtain ⟨J, hJ⟩ : ∃ J, Hid (colsT D.name D.col k = J) := ⟨_, rfl⟩
        obtain ⟨T, hT⟩ : ∃ T, Hid (colT (D.col k).name (D.col k).type (D.col k).null = T) := ⟨_, rfl⟩
        obtain ⟨s0, hs0⟩ : ∃ p, Hid ((D.col k).name = p) := ⟨_, rfl⟩
        obtain ⟨s1, hs1⟩ : ∃ t, Hid ((D.col k).type = t) := ⟨_, rfl⟩
        obtain ⟨s2, hs2⟩ : ∃ b, Hid ((D.col k).null = b) := ⟨_, rfl⟩
        rw [hJ.out, hT.out] at HSZ HN
        rw [hJ.out] at hL
        simp only [hT.out] at hCT
        simp only [hs0.out, hs1.out, hs2.out] at hCT
        rw [hs0.out] at z0
        rw [hs1.out] at z1
        rw [hs2.out] at z2
        have hbc : Below wr.heap.size wr (wr.alloc (.cells #[.string s0, .int .i64 s1, .bool s2] 49)) := (Below.refl _ _).alloc (Nat.le_refl _) _
        have hC1 := hCT _ hbc
        have hL1 := hL.below hbc
        have hsb : b ≤ wr.heap.size := Nat.le_of_lt hL.lt
        have hBc := hB.trans (hbc.mono hsb)
        subst eb
        clear hcc hB hBw hCT hL hbc hjz t1 t4
        go_wp2_with fail
        refine hC1.mono ?_
        rintro e w3 ⟨rfl, hb3⟩
        have hL3 := hL1.below hb3
        have hB3 := hBc.trans (hb3.mono (by have := hBc.size; first | (simp at this ⊢; omega) | omega))
        have hW := hL3.write T (by have := HSZ.out; omega)
        rw [← HN.out] at hW
        clear hC1 hb3 hL3 hL1 hBc z0 z1 z2
        go_wp2_with fail
        refine hW.mono ?_
        rintro e w4 ⟨rfl, hL4, hb4⟩
        have HR : Hid (Bld b (colsT D.name D.col (k + 1)) w4 ∧ Below b w1 w4) := ⟨hL4, hB3.trans hb4⟩
        clear hW hL4 hb4 hB3
        go_wp2
        go_roundg (D.nc - (k + 1))
        case measure => omega
        case rel => exact ⟨k + 1, by omega, rfl, by go_num, HR.out.1, HR.out.2⟩
      · have hkz : ¬ (k : Int) < (D.nc : Int) := by omega
        obtain rfl : k = D.nc := by omega
        have hPT := partsText_any ac D.nc cc D.col ap D.np cp D.pri wr (HCV.out.below hBw) (HPV.out.below hBw) hnp2.1 hnp2.2 hnc HIN.out HCZ.out
        have hpz := HP1.out
        have hjz := HS1.out D.nc (Nat.le_refl _)
        have HI0 : Hid (idxT D 0 = colsT D.name D.col D.nc ++ ((⟨#[112, 114, 105, 109, 97, 114, 121, 32]⟩ : ByteArray) ++ partsE D.col D.np D.pri)) := by show _ = _; rw [idxT]
        obtain ⟨J, hJ⟩ : ∃ J, Hid (colsT D.name D.col D.nc = J) := ⟨_, rfl⟩
        obtain ⟨q, hq⟩ : ∃ q, Hid (partsE D.col D.np D.pri = q) := ⟨_, rfl⟩
        rw [hJ.out, hq.out] at HI0
        rw [hJ.out] at hL hjz
        rw [hq.out] at hPT hpz
        have hsb : b ≤ wr.heap.size := Nat.le_of_lt hL.lt
        have e1 : (⟨#[112, 114, 105, 109, 97, 114, 121, 32]⟩ : ByteArray).size = 8 := rfl
        have s1 : ¬ (8 + q.size > 9223372036854775807) := by omega
        obtain ⟨lt2, x0, x1, x2, x3⟩ := HD4.out _ hB
        clear hBw HT HS1
        go_wp2_with fail
        refine hPT.mono ?_
        rintro e w3 ⟨rfl, hb3⟩
        have hL3 := hL.below hb3
        have hB3 := hB.trans (hb3.mono hsb)
        have hW := hL3.write ((⟨#[112, 114, 105, 109, 97, 114, 121, 32]⟩ : ByteArray) ++ q) (by rw [ByteArray.size_append]; omega)
        rw [← HI0.out] at hW
        clear hPT hb3 hL3 hL hB x0 x1 x2 x3 lt2
        go_wp2_with fail
        refine hW.mono ?_
        rintro e w4 ⟨rfl, hL4, hb4⟩
        have hB4 := hB3.trans hb4
        obtain ⟨lt2, x0, x1, x2, x3⟩ := HD4.out _ hB4
        clear hW hb4 hB3 e1 s1
        go_wp2
        clear x0 x1 x2 x3 lt2
        go_loopg [37] D.ni (fun q i wr => ∃ k : Nat, k ≤ D.ni ∧ q = D.ni - k ∧ i = .int .i64 k ∧ Bld b (idxT D k) wr ∧ Below b w1 wr)
        case atStart => exact ⟨0, Nat.zero_le _, rfl, rfl, hL4, hB4⟩
        case round =>
          clear hL4 hB4
          obtain ⟨k, hk, rfl, rfl, hL, hB⟩ := hrel
          have hBw := HUP.out _ hB
          have hsb : b ≤ wr.heap.size := Nat.le_of_lt hL.lt
          by_cases hlt : k < D.ni
          · have hkz : (k : Int) < (D.ni : Int) := by omega
            obtain ⟨b1, o1, eb, hb1, hcc⟩ := (HIV.out.below hBw).cells (by omega)
            obtain ⟨z0, z1, a3, c3, z2, hv3⟩ := hcc k hlt
            have hIT := fun W (hb : Below wr.heap.size wr W) => indexText_any ac D.nc cc D.col (D.idx k) a3 c3 W ((HCV.out.below hBw).below hb) (hv3.below hb) (HIX.out k hlt).1.1 (HIX.out k hlt).1.2 hnc (HIX.out k hlt).2 HCZ.out (HXZ.out k hlt)
            have HN : Hid (idxT D (k + 1) = idxT D k ++ idxE D.col (D.idx k)) := idxT_idxE D k
            have hjz := HS2.out (k + 1) (by omega)
            have HSZ : Hid ((idxT D k).size + (idxE D.col (D.idx k)).size ≤ 15728848) := by
              have := HN.out
              rw [this, ByteArray.size_append] at hjz
              exact hjz
            obtain ⟨J, hJ⟩ : ∃ J, Hid (idxT D k = J) := ⟨_, rfl⟩
            obtain ⟨T, hT⟩ : ∃ T, Hid (idxE D.col (D.idx k) = T) := ⟨_, rfl⟩
            obtain ⟨s0, hs0⟩ : ∃ p, Hid ((D.idx k).name = p) := ⟨_, rfl⟩
            obtain ⟨s1, hs1⟩ : ∃ t, Hid ((D.idx k).uniq = t) := ⟨_, rfl⟩
            obtain ⟨s2, hs2⟩ : ∃ b, Hid ((D.idx k).n = b) := ⟨_, rfl⟩
            rw [hJ.out, hT.out] at HSZ HN
            rw [hJ.out] at hL
            simp only [hT.out] at hIT
            simp only [hs0.out, hs1.out, hs2.out] at hIT
            rw [hs0.out] at z0
            rw [hs1.out] at z1
            rw [hs2.out] at z2
            have hbc : Below wr.heap.size wr (wr.alloc (.cells #[.string s0, .bool s1, .slice a3 s2 c3] 60)) := (Below.refl _ _).alloc (Nat.le_refl _) _
            have hC1 := hIT _ hbc
            have hL1 := hL.below hbc
            have hBc := hB.trans (hbc.mono hsb)
            obtain ⟨lt2, x0, x1, x2, x3⟩ := HD4.out _ hB
            have hA2 : w.heap.size < wr.heap.size := lt2
            subst eb
            clear hcc hB hBw hIT hL hbc hjz hv3
            go_wp2_with fail
            refine hC1.mono ?_
            rintro e w3 ⟨rfl, hb3⟩
            have hL3 := hL1.below hb3
            have hB3 := hBc.trans (hb3.mono (by have := hBc.size; first | (simp at this ⊢; omega) | omega))
            have hW := hL3.write T (by have := HSZ.out; omega)
            rw [← HN.out] at hW
            clear hC1 hb3 hL3 hL1 hBc z0 z1 z2 x0 x1 x2 x3 lt2 hA2
            go_wp2_with fail
            refine hW.mono ?_
            rintro e w4 ⟨rfl, hL4, hb4⟩
            have HR : Hid (Bld b (idxT D (k + 1)) w4 ∧ Below b w1 w4) := ⟨hL4, hB3.trans hb4⟩
            clear hW hL4 hb4 hB3
            go_wp2
            go_roundg (D.ni - (k + 1))
            case measure => omega
            case rel => exact ⟨k + 1, by omega, rfl, by go_num, HR.out.1, HR.out.2⟩
          · have hkz : ¬ (k : Int) < (D.ni : Int) := by omega
            obtain rfl : k = D.ni := by omega
            have hjz := HS2.out D.ni (Nat.le_refl _)
            have hW := hL.write (⟨#[125]⟩ : ByteArray) (by have e1 : (⟨#[125]⟩ : ByteArray).size = 1 := rfl; omega)
            rw [← HD.out] at hW
            obtain ⟨z, hz⟩ : ∃ z, Hid (defText D = z) := ⟨_, rfl⟩
            rw [hz.out] at hW
            clear hL hBw
            go_wp2_with fail
            refine hW.mono ?_
            rintro e w3 ⟨rfl, hL3, hb3⟩
            have hB3 := hB.trans hb3
            have hS := Tryz.Builder_String_any b b _ w3 hL3 (Nat.le_of_lt hL3.lt)
            clear hW hb3 hB
            go_wp2_with fail
            refine hS.mono ?_
            rintro e w4 ⟨rfl, hb4⟩
            have HR : Hid (Below w.heap.size w w4) := HUP.out _ (hB3.trans hb4)
            clear hS hb4 hB3 hL3
            go_wp2
            go_ret
            exact ⟨by rw [hz.out]; rfl, HR.out⟩
  · have HD : Hid (defText D = ⟨#[]⟩) := by show _ = _; unfold defText; rw [if_neg hgood]
    have hne : (checkF D != 0) = true := by simpa using hgood
    obtain ⟨z, hz⟩ : ∃ z, Hid (checkF D = z) := ⟨_, rfl⟩
    rw [hz.out] at hC hne
    clear hf hcv hpv hiv hty hg hv hgood
    go_enter Tryz.func9, Tryz.ntmps9
    go_wp2_with fail
    refine hC.mono ?_
    rintro e w1 ⟨rfl, hb1⟩
    have HB : Hid (Below w.heap.size w w1) := hB0.trans (hb1.mono hB0.size)
    clear hC hb1
    go_wp2
    go_ret
    exact ⟨by rw [HD.out]; rfl, HB.out⟩
end Go.Proofs.YtfjlmkphncigladGreatDoor

/-
  The model's l9SameParts, SameDef come to the plain ones.
-/
namespace Go.Proofs.YtfjlmkphncigladGreatDoor
open Go.RowKit
set_option maxRecDepth 4000

def eqBy (a b : PBy) : Bool := decide (a.col = b.col) && decide (a.desc = b.desc)
def eqCol (a b : PCol) : Bool := decide (a.name = b.name) && decide (a.type = b.type) && decide (a.null = b.null)
theorem neBy_run (a b : PBy) (W : World) : (binOp .neq 51 (.agg #[.int .i64 a.col, .bool a.desc]) (.agg #[.int .i64 b.col, .bool b.desc])).run Tryz.prog W = .ok (.bool (!eqBy a b)) W := by
  obtain ⟨c, d⟩ := a
  obtain ⟨c', d'⟩ := b
  by_cases h1 : c = c' <;> cases d <;> cases d' <;> simp [go_sem, h1, eqBy]
theorem neCol_run (a b : PCol) (W : World) : (binOp .neq 49 (.agg #[.string a.name, .int .i64 a.type, .bool a.null]) (.agg #[.string b.name, .int .i64 b.type, .bool b.null])).run Tryz.prog W = .ok (.bool (!eqCol a b)) W := by
  obtain ⟨s, c, d⟩ := a
  obtain ⟨s', c', d'⟩ := b
  by_cases h1 : c = c' <;> by_cases h2 : s = s' <;> cases d <;> cases d' <;> simp [go_sem, h1, h2, eqCol, bytes_inj]

set_option maxHeartbeats 1000000 in
theorem l9SameParts_any (a1 a2 : Option Addr) (n c1 m c2 : Nat) (f g : Nat → PBy) (w : World) (h1 : BView w a1 n c1 f) (h2 : BView w a2 m c2 g) (hn : n ≤ 1048576) :
    Calls Tryz.prog 34 #[.slice a1 n c1, .slice a2 m c2] w fun e w' => e = .returned (.bool (sameByF n f m g)) ∧ Below w.heap.size w w' := by
  by_cases hnm : n = m
  · subst hnm
    have hq : ((n : Int) != (n : Int)) = false := bne_self_eq_false _
    go_enter Tryz.func34, Tryz.ntmps34
    go_wp2
    go_loopg [5] n (fun q i wr => ∃ k : Nat, k ≤ n ∧ q = n - k ∧ i = .int .i64 k ∧ Below w.heap.size w wr ∧ Hid (∀ i, i < k → (f i).col = (g i).col ∧ (f i).desc = (g i).desc))
    case atStart => exact ⟨0, Nat.zero_le _, rfl, rfl, Below.refl _ _, fun j hj => absurd hj (Nat.not_lt_zero _)⟩
    case round =>
      obtain ⟨k, hk, rfl, rfl, hB, HA⟩ := hrel
      by_cases hlt : k < n
      · have hkz : (k : Int) < (n : Int) := by omega
        obtain ⟨b1, o1, rfl, hb1, hcs⟩ := (h1.below hB).cells (by omega)
        obtain ⟨x0, x1⟩ := hcs k hlt
        obtain ⟨b2, o2, rfl, hb2, hcs2⟩ := (h2.below hB).cells (by omega)
        obtain ⟨y0, y1⟩ := hcs2 k hlt
        have hQ := neBy_run (f k) (g k)
        have HE : Hid (eqBy (f k) (g k) = true ↔ ((f k).col = (g k).col ∧ (f k).desc = (g k).desc)) := by show _ ↔ _; simp [eqBy]
        have HB : Hid (Below w.heap.size w wr) := hB
        obtain ⟨p0, hp0⟩ : ∃ x, Hid ((f k).col = x) := ⟨_, rfl⟩
        obtain ⟨p1, hp1⟩ : ∃ x, Hid ((f k).desc = x) := ⟨_, rfl⟩
        obtain ⟨r0, hr0⟩ : ∃ x, Hid ((g k).col = x) := ⟨_, rfl⟩
        obtain ⟨r1, hr1⟩ : ∃ x, Hid ((g k).desc = x) := ⟨_, rfl⟩
        obtain ⟨o, ho⟩ : ∃ x, Hid (eqBy (f k) (g k) = x) := ⟨_, rfl⟩
        simp only [hp0.out, hp1.out, hr0.out, hr1.out, ho.out] at hQ
        rw [hp0.out] at x0
        rw [hp1.out] at x1
        rw [hr0.out] at y0
        rw [hr1.out] at y1
        rw [ho.out] at HE
        clear hcs hcs2 h1 h2 hB hq
        cases o with
        | true =>
          have HN : Hid (∀ i, i < k + 1 → (f i).col = (g i).col ∧ (f i).desc = (g i).desc) := by
            intro i hi
            by_cases e : i < k
            · exact HA.out i e
            · obtain rfl : i = k := by omega
              exact HE.out.1 rfl
          clear HE HA
          go_wp2_with fail
          go_quiet (fail)
          go_wp2
          go_roundg (n - (k + 1))
          case measure => omega
          case rel => exact ⟨k + 1, by omega, rfl, by go_num, HB.out.trans ⟨rfl, rfl, rfl, Nat.le_refl _, fun _ _ => rfl⟩, HN⟩
        | false =>
          have HF : Hid (sameByF n f n g = false) := by
            show _ = _
            unfold sameByF
            exact decide_eq_false (fun h => by have := HE.out.2 (h.2 k hlt); cases this)
          clear HE HA
          go_wp2_with fail
          go_quiet (fail)
          go_wp2
          go_ret
          exact ⟨by rw [HF.out]; rfl, HB.out.trans ⟨rfl, rfl, rfl, Nat.le_refl _, fun _ _ => rfl⟩⟩
      · have hkz : ¬ (k : Int) < (n : Int) := by omega
        obtain rfl : k = n := by omega
        have HF : Hid (sameByF k f k g = true) := decide_eq_true ⟨rfl, HA.out⟩
        clear h1 h2
        go_wp2
        go_ret
        exact ⟨by rw [HF.out]; rfl, hB⟩
  · have hq : ((n : Int) != (m : Int)) = true := by simp; omega
    have HF : Hid (sameByF n f m g = false) := by
      show _ = _
      unfold sameByF
      exact decide_eq_false (fun h => hnm h.1)
    clear h1 h2 hnm
    go_enter Tryz.func34, Tryz.ntmps34
    go_wp2
    go_ret
    exact ⟨by rw [HF.out]; rfl, Below.refl _ _⟩
end Go.Proofs.YtfjlmkphncigladGreatDoor

/-
  Two tables in variables of the call's own.
-/
namespace Go.Proofs.YtfjlmkphncigladGreatDoor
open Go.RowKit
set_option maxRecDepth 4000

theorem bool_ne {a b : Bool} (h : ¬ a = b) : b = !a := by cases a <;> cases b <;> simp at h <;> rfl
/-- Two variables of four cells, one behind the other. -/
theorem box44 {w wr : World} {T U : TypeId} {x0 x1 x2 x3 y0 y1 y2 y3 : Value} (h : Below (w.heap.size + 1 + 1) ((w.alloc (.cells #[x0, x1, x2, x3] T)).alloc (.cells #[y0, y1, y2, y3] U)) wr) :
    (wr.cell? ⟨w.heap.size, 0, none⟩ = some x0 ∧ wr.cell? ⟨w.heap.size, 1, none⟩ = some x1 ∧ wr.cell? ⟨w.heap.size, 2, none⟩ = some x2 ∧ wr.cell? ⟨w.heap.size, 3, none⟩ = some x3)
    ∧ (wr.cell? ⟨w.heap.size + 1, 0, none⟩ = some y0 ∧ wr.cell? ⟨w.heap.size + 1, 1, none⟩ = some y1 ∧ wr.cell? ⟨w.heap.size + 1, 2, none⟩ = some y2 ∧ wr.cell? ⟨w.heap.size + 1, 3, none⟩ = some y3) := by
  refine ⟨⟨?_, ?_, ?_, ?_⟩, ?_, ?_, ?_, ?_⟩
  all_goals (rw [h.cell (by first | (simp; done) | (simp; omega))]; simp [go_sem])
theorem box44_below {w wr : World} {o p : Obj} (h : Below (w.heap.size + 1 + 1) ((w.alloc o).alloc p) wr) : Below w.heap.size w wr ∧ w.heap.size + 2 ≤ wr.heap.size := by
  refine ⟨(((Below.refl _ _).alloc (Nat.le_refl _) _).alloc (by simp) _).trans (h.mono (by omega)), ?_⟩
  have := h.size
  simpa using this
theorem box44_on {w wr w' : World} {o p : Obj} (h : Below (w.heap.size + 1 + 1) ((w.alloc o).alloc p) wr) (h' : Below wr.heap.size wr w') : Below (w.heap.size + 1 + 1) ((w.alloc o).alloc p) w' := h.trans (h'.mono (box44_below h).2)
theorem box3 {w wr : World} {T : TypeId} {x0 x1 x2 : Value} (h : Below (w.heap.size + 1) (w.alloc (.cells #[x0, x1, x2] T)) wr) :
    wr.cell? ⟨w.heap.size, 0, none⟩ = some x0 ∧ wr.cell? ⟨w.heap.size, 1, none⟩ = some x1 ∧ wr.cell? ⟨w.heap.size, 2, none⟩ = some x2 := by
  refine ⟨?_, ?_, ?_⟩
  all_goals (rw [h.cell (by simp)]; simp [go_sem])

end Go.Proofs.YtfjlmkphncigladGreatDoor

