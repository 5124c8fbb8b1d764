/-
  Together: CheckImpl, LaidEt
-/
import Derived.Test.YtkakkjnbhklfpaaGreatDoorPackR30
import Derived.Test.YtkakkjnbhklfpaaGreatDoorRows
import Derived.LaidHandle
import Derived.LaidLaws
import Derived.Lib.LaidTab
import Derived.ChangeArms
/-
  The program's CheckDef comes to the plain one.
-/
namespace Go.Proofs.YtkakkjnbhklfpaaGreatDoor
open Go.RowKit
set_option maxRecDepth 4000

/-- The library's own error type, as its variable holds it. -/
def ErrT (w : World) : Prop := w.cell? ⟨0, 0, none⟩ = some (.iface 156 (.agg #[hdl 104]))
theorem ErrT.lt {w : World} (h : ErrT w) : 0 < w.heap.size := World.block_lt_of_cell? _ _ h
theorem ErrT.below {w w' : World} (h : ErrT w) (hb : Below w.heap.size w w') : ErrT w' := (hb.cell (p := ⟨0, 0, none⟩) h.lt).trans h

set_option maxHeartbeats 4000000 in
theorem implCheck_any (v : Value) (D : PDef) (w : World) (h : DView w v D) (hf : DFine D) (hg : ErrT w) :
    Calls Tryz.prog 31 #[v] w fun e w' => e = .returned (.int .i64 (checkF D)) ∧ Below w.heap.size w w' := by
  have hv := h
  obtain ⟨ac, cc, ap, cp, ai, ci, rfl, -, -, -⟩ := h.is
  clear h
  have hb0 : Below w.heap.size w ((w.alloc (.cells #[.string D.name, .slice ac D.nc cc, .slice ap D.np cp, .slice ai D.ni ci] 36)).alloc (.cells #[.int .i64 0, .string ⟨#[]⟩] 101)) := ((Below.refl _ _).alloc (Nat.le_refl _) _).alloc (by simp) _
  have hW := wrongDef_any _ D _ (hv.below hb0) hf
  have c0 : ((w.alloc (.cells #[.string D.name, .slice ac D.nc cc, .slice ap D.np cp, .slice ai D.ni ci] 36)).alloc (.cells #[.int .i64 0, .string ⟨#[]⟩] 101)).cell? ⟨w.heap.size + 1, 0, none⟩ = some (.int .i64 0) := by simp
  have c1 : ((w.alloc (.cells #[.string D.name, .slice ac D.nc cc, .slice ap D.np cp, .slice ai D.ni ci] 36)).alloc (.cells #[.int .i64 0, .string ⟨#[]⟩] 101)).cell? ⟨w.heap.size + 1, 1, none⟩ = some (.string ⟨#[]⟩) := by simp [go_sem]
  have f0 : ((w.alloc (.cells #[.string D.name, .slice ac D.nc cc, .slice ap D.np cp, .slice ai D.ni ci] 36)).alloc (.cells #[.int .i64 0, .string ⟨#[]⟩] 101)).frozen? ⟨w.heap.size + 1, 0, none⟩ = false := by simp
  have f1 : ((w.alloc (.cells #[.string D.name, .slice ac D.nc cc, .slice ap D.np cp, .slice ai D.ni ci] 36)).alloc (.cells #[.int .i64 0, .string ⟨#[]⟩] 101)).frozen? ⟨w.heap.size + 1, 1, none⟩ = false := by simp [go_sem]
  have hsz : ((w.alloc (.cells #[.string D.name, .slice ac D.nc cc, .slice ap D.np cp, .slice ai D.ni ci] 36)).alloc (.cells #[.int .i64 0, .string ⟨#[]⟩] 101)).heap.size = w.heap.size + 1 + 1 := by simp
  have HG : Hid (ErrT w) := hg
  clear hv hf hg
  go_enter Tryz.func31, Tryz.ntmps31
  go_wp2_with fail
  refine hW.mono ?_
  rintro e w1 ⟨r, rfl, hr, hb1⟩
  rw [hsz] at hb1
  have hB1 : Below w.heap.size w w1 := hb0.trans (hb1.mono (by omega))
  have hg1 := HG.out.below hB1
  have hs1 := hb1.size
  rw [← hb1.cell (p := ⟨w.heap.size + 1, 0, none⟩) (by show w.heap.size + 1 < _; omega)] at c0
  rw [← hb1.cell (p := ⟨w.heap.size + 1, 1, none⟩) (by show w.heap.size + 1 < _; omega)] at c1
  rw [← hb1.frozen (p := ⟨w.heap.size + 1, 0, none⟩) (by show w.heap.size + 1 < _; omega)] at f0
  rw [← hb1.frozen (p := ⟨w.heap.size + 1, 1, none⟩) (by show w.heap.size + 1 < _; omega)] at f1
  rcases hr with ⟨hz, rfl⟩ | ⟨hz, s, rfl⟩
  · have hA := fun t => as_nil t w1
    have HZ : Hid (checkF D = 0) := hz
    have HB : Hid (Below w.heap.size w w1) := hB1
    clear hW hb0 hb1 hB1 hg1 hz hsz c0 c1 f0 f1
    go_wp2_with fail
    refine (hA _).mono ?_
    rintro e w2 ⟨rfl, rfl⟩
    clear hA
    go_wp2
    go_ret
    exact ⟨by rw [HZ.out]; rfl, HB.out⟩
  · have hA := as_hit (w.heap.size + 1) (checkF D) s _ _ w1 hg1 (by omega) c0 c1 f0 f1
    have HB : Hid (Below w.heap.size w w1) := hB1
    obtain ⟨z, hzz⟩ : ∃ z, Hid (checkF D = z) := ⟨_, rfl⟩
    rw [hzz.out] at hA ⊢
    clear hW hb0 hb1 hB1 hg1 hz hsz c0 c1 f0 f1
    go_wp2_with fail
    refine hA.mono ?_
    rintro e w2 ⟨rfl, c2, hb2⟩
    have HB2 : Hid (Below w.heap.size w w2) := HB.out.trans (hb2.mono (by omega))
    clear hA hb2 HB
    go_wp2
    go_ret
    exact ⟨by rw [hzz.out]; rfl, HB2.out⟩
end Go.Proofs.YtkakkjnbhklfpaaGreatDoor

/-
  What the laid variable holds: the library's error type.
-/
namespace Go.Proofs.YtkakkjnbhklfpaaGreatDoor
open Go.RowKit
set_option maxRecDepth 4000

theorem et_named : Tryz.prog.globalNamed "errors.errorType" = some 0 := by kernel_rfl
theorem et_rtype : (Tryz.prog.cutTypes.find? (·.1 == "internal/reflectlite.rtype")).map (·.2) = some 156 := by kernel_rfl
theorem et_one : ((List.range 278).filter fun t => Tryz.prog.rowNamed t [101, 114, 114, 111, 114]) = [104] := by kernel_rfl
theorem et_size : Tryz.prog.types.size = 278 := by kernel_rfl
theorem errT_of {W : World} (h : handlesMet Tryz.prog [("errors.errorType", Rows.laid_errors_errorType)] W) : ErrT W := by
  obtain ⟨name, u, ty, e1, e2, e3, e4, e5⟩ := h _ (List.mem_singleton.2 rfl)
  have en : name = [101, 114, 114, 111, 114] := (Option.some.inj e1).symm
  subst en
  obtain rfl := Option.some.inj (et_rtype.symm.trans e2)
  have hm : ty ∈ (List.range 278).filter fun t => Tryz.prog.rowNamed t [101, 114, 114, 111, 114] := List.mem_filter.2 ⟨List.mem_range.2 (by rw [← et_size]; exact e3), e4⟩
  rw [et_one] at hm
  obtain rfl := List.mem_singleton.1 hm
  have hh : typeHandle Tryz.prog 104 = hdl 104 := by kernel_rfl
  rw [hh] at e5
  have := World.var?_cell et_named e5 0
  unfold ErrT
  simpa using this
end Go.Proofs.YtkakkjnbhklfpaaGreatDoor

