/-
  Together: CopyDef, Box44, BytesEq, EqDef, SameSpec9, SameDefSpec, LawSameDef
-/
import Derived.Test.YtfjlmkphnciglatPack1
import Derived.Deep.LoopGhost
import Derived.Deep.RegionHeld3
import Derived.Deep.QuietTactic
import Derived.BigQuiet
import Derived.Laws.StructEq
import Derived.Deep.RegionWith
/-
  A table copied, as the law does it.
-/
namespace Go.Proofs.Ytfjlmkphnciglat
open Go.RowKit
set_option maxRecDepth 4000

theorem CView.set {w : World} {a n c B : Nat} {f : Nat → PCol} (h : CView w (some ⟨a, 0, none⟩) n c f) (hne : a ≠ B) (i : Nat) (u : Value) : CView (w.setCell ⟨B, i, none⟩ u) (some ⟨a, 0, none⟩) n c f := by
  refine ⟨h.le, fun hn => ?_⟩
  obtain ⟨b, off, e, hlt, hc⟩ := h.cells hn
  have hba : b = a := by cases e; rfl
  have hk : (w.setCell ⟨B, i, none⟩ u).heap[b]? = w.heap[b]? := Below.heap_setCell _ _ _ _ (by rw [hba]; exact hne)
  refine ⟨b, off, e, by simpa using hlt, fun j hj => ?_⟩
  rw [World.cell?_of_block (w := w) (a := ⟨b, off + j * 3, none⟩) hk, World.cell?_of_block (w := w) (a := ⟨b, off + j * 3 + 1, none⟩) hk, World.cell?_of_block (w := w) (a := ⟨b, off + j * 3 + 2, none⟩) hk]
  exact hc j hj

/-- A table's value whose blocks lie from B on. -/
structure DOwn (w : World) (B : Nat) (v : Value) (D : PDef) : Prop where
  is : ∃ gc cc gp cp gi ci, v = .agg #[.string D.name, .slice (some ⟨gc, 0, none⟩) D.nc cc, .slice (some ⟨gp, 0, none⟩) D.np cp, .slice (some ⟨gi, 0, none⟩) D.ni ci] ∧ B ≤ gc ∧ B ≤ gp ∧ CView w (some ⟨gc, 0, none⟩) D.nc cc D.col ∧ BView w (some ⟨gp, 0, none⟩) D.np cp D.pri ∧ IOwn w B (some ⟨gi, 0, none⟩) D.ni ci D.idx
theorem DOwn.view {w : World} {B : Nat} {v : Value} {D : PDef} (h : DOwn w B v D) : DView w v D := by
  obtain ⟨gc, cc, gp, cp, gi, ci, e, -, -, h1, h2, h3⟩ := h.is
  exact ⟨_, cc, _, cp, _, ci, e, h1, h2, h3.view⟩
theorem DOwn.below {w w' : World} {B : Nat} {v : Value} {D : PDef} (h : DOwn w B v D) (hb : Below w.heap.size w w') : DOwn w' B v D := by
  obtain ⟨gc, cc, gp, cp, gi, ci, e, e1, e2, h1, h2, h3⟩ := h.is
  exact ⟨gc, cc, gp, cp, gi, ci, e, e1, e2, h1.below hb, h2.below hb, h3.below hb⟩
theorem DOwn.set {w : World} {B C : Nat} {v : Value} {D : PDef} (h : DOwn w B v D) (hC : C < B) (j : Nat) (u : Value) : DOwn (w.setCell ⟨C, j, none⟩ u) B v D := by
  obtain ⟨gc, cc, gp, cp, gi, ci, e, e1, e2, h1, h2, h3⟩ := h.is
  exact ⟨gc, cc, gp, cp, gi, ci, e, e1, e2, h1.set (by omega) _ _, h2.set (by omega) _ _, h3.set hC _ _⟩
theorem DOwn.mono {w : World} {B B' : Nat} {v : Value} {D : PDef} (h : DOwn w B v D) (hB : B' ≤ B) : DOwn w B' v D := by
  obtain ⟨gc, cc, gp, cp, gi, ci, e, e1, e2, h1, h2, h3⟩ := h.is
  exact ⟨gc, cc, gp, cp, gi, ci, e, by omega, by omega, h1, h2, h3.mono hB⟩

set_option maxHeartbeats 2000000 in
theorem toDef_any (v : Value) (D : PDef) (w : World) (h : DView w v D) (hf : DFine D) :
    Calls Try.prog 6 #[v] w fun e w' => ∃ v', e = .returned v' ∧ DOwn w' w.heap.size v' D ∧ Below w.heap.size w w' := by
  obtain ⟨ac, cc, ap, cp, ai, ci, rfl, hc, hp, hi⟩ := h.is
  clear h
  have hb0 : Below w.heap.size w (((w.alloc (.cells #[.string D.name, .slice ac D.nc cc, .slice ap D.np cp, .slice ai D.ni ci] 26)).alloc (.cells #[.string ⟨#[]⟩, .slice none 0 0, .slice none 0 0, .slice none 0 0] 33)).alloc (.cells #[.string D.name, .slice none 0 0, .slice none 0 0, .slice none 0 0] 33)) := (((Below.refl _ _).alloc (Nat.le_refl _) _).alloc (by simp) _).alloc (by simp; omega) _
  have hS := toColS_any ac D.nc cc D.col _ (hc.below hb0) hf.nc
  have V2 := V4.new ((w.alloc (.cells #[.string D.name, .slice ac D.nc cc, .slice ap D.np cp, .slice ai D.ni ci] 26)).alloc (.cells #[.string ⟨#[]⟩, .slice none 0 0, .slice none 0 0, .slice none 0 0] 33)) 33 (.string D.name) (.slice none 0 0) (.slice none 0 0) (.slice none 0 0)
  have V1 := (V4.new (w.alloc (.cells #[.string D.name, .slice ac D.nc cc, .slice ap D.np cp, .slice ai D.ni ci] 26)) 33 (.string ⟨#[]⟩) (.slice none 0 0) (.slice none 0 0) (.slice none 0 0)).below ((Below.refl _ _).alloc (Nat.le_refl _) (.cells #[.string D.name, .slice none 0 0, .slice none 0 0, .slice none 0 0] 33))
  have V0 := ((V4.new w 26 (.string D.name) (.slice ac D.nc cc) (.slice ap D.np cp) (.slice ai D.ni ci)).below ((Below.refl _ _).alloc (Nat.le_refl _) (.cells #[.string ⟨#[]⟩, .slice none 0 0, .slice none 0 0, .slice none 0 0] 33))).below ((Below.refl _ _).alloc (Nat.le_refl _) (.cells #[.string D.name, .slice none 0 0, .slice none 0 0, .slice none 0 0] 33))
  simp only [alloc_size9] at V0 V1 V2 hS
  go_enter Try.func6, Try.ntmps6
  go_wp2_with fail
  refine hS.mono ?_
  rintro e w2 ⟨rfl, hv2, hb2, hlt2⟩
  have hbw2 : Below w.heap.size w w2 := hb0.trans (hb2.mono (by omega))
  have V2' := V2.below (by simpa using hb2)
  have V1' := V1.below (by simpa using hb2)
  have V0' := V0.below (by simpa using hb2)
  clear V0 V1 V2 hS hb2 hb0
  obtain ⟨-, a1, -, -⟩ := V2'.cells
  obtain ⟨-, q1, -, -⟩ := V2'.fz
  obtain ⟨W3, hW3⟩ : ∃ W3, Hid (w2.setCell ⟨w.heap.size + 1 + 1, 1, none⟩ (.slice (some ⟨w.heap.size + 1 + 1 + 1, 0, none⟩) D.nc D.nc) = W3) := ⟨_, rfl⟩
  have U2 := V2'.set1 (.slice (some ⟨w.heap.size + 1 + 1 + 1, 0, none⟩) D.nc D.nc)
  have U1 := V1'.other (C := w.heap.size + 1 + 1) (i := 1) (u := .slice (some ⟨w.heap.size + 1 + 1 + 1, 0, none⟩) D.nc D.nc) (by omega)
  have U0 := V0'.other (C := w.heap.size + 1 + 1) (i := 1) (u := .slice (some ⟨w.heap.size + 1 + 1 + 1, 0, none⟩) D.nc D.nc) (by omega)
  have hv3 := hv2.set (B := w.heap.size + 1 + 1) (by omega) 1 (.slice (some ⟨w.heap.size + 1 + 1 + 1, 0, none⟩) D.nc D.nc)
  have hbw3 : Below w.heap.size w (w2.setCell ⟨w.heap.size + 1 + 1, 1, none⟩ (.slice (some ⟨w.heap.size + 1 + 1 + 1, 0, none⟩) D.nc D.nc)) := hbw2.setCell (p := ⟨w.heap.size + 1 + 1, 1, none⟩) (by simp; omega) _
  have hs3 : w.heap.size + 1 + 1 + 1 < (w2.setCell ⟨w.heap.size + 1 + 1, 1, none⟩ (.slice (some ⟨w.heap.size + 1 + 1 + 1, 0, none⟩) D.nc D.nc)).heap.size := by simpa using hlt2
  rw [hW3.out] at U0 U1 U2 hv3 hbw3 hs3
  obtain ⟨u0, u1, u2, u3⟩ := U0.cells
  have hS := toByS_any ap D.np cp D.pri W3 (hp.below hbw3) hf.np
  clear V0' V1' V2' hv2 hbw2 hlt2
  go_wp2_with (rw [hW3.out])
  refine hS.mono ?_
  rintro e w4 ⟨rfl, hv4, hb4, hlt4⟩
  obtain ⟨g4, hg4⟩ : ∃ g, Hid (W3.heap.size = g) := ⟨_, rfl⟩
  rw [hg4.out] at hv4 hlt4 hs3 ⊢
  have hbw4 : Below w.heap.size w w4 := hbw3.trans (hb4.mono hbw3.size)
  have T2 := U2.below hb4
  have T1 := U1.below hb4
  have T0 := U0.below hb4
  have hv3' := hv3.below hb4
  clear U0 U1 U2 hS hb4 hbw3 hv3 u0 u1 u2 u3 hc hp a1 q1
  obtain ⟨-, -, a1, -⟩ := T2.cells
  obtain ⟨-, -, q1, -⟩ := T2.fz
  obtain ⟨W5, hW5⟩ : ∃ W5, Hid (w4.setCell ⟨w.heap.size + 1 + 1, 2, none⟩ (.slice (some ⟨g4, 0, none⟩) D.np D.np) = W5) := ⟨_, rfl⟩
  have S2 := T2.set2 (.slice (some ⟨g4, 0, none⟩) D.np D.np)
  have S1 := T1.other (C := w.heap.size + 1 + 1) (i := 2) (u := .slice (some ⟨g4, 0, none⟩) D.np D.np) (by omega)
  have S0 := T0.other (C := w.heap.size + 1 + 1) (i := 2) (u := .slice (some ⟨g4, 0, none⟩) D.np D.np) (by omega)
  have hv5 := hv4.set (B := w.heap.size + 1 + 1) (by omega) 2 (.slice (some ⟨g4, 0, none⟩) D.np D.np)
  have hv3'' := hv3'.set (B := w.heap.size + 1 + 1) (by omega) 2 (.slice (some ⟨g4, 0, none⟩) D.np D.np)
  have hbw5 : Below w.heap.size w (w4.setCell ⟨w.heap.size + 1 + 1, 2, none⟩ (.slice (some ⟨g4, 0, none⟩) D.np D.np)) := hbw4.setCell (p := ⟨w.heap.size + 1 + 1, 2, none⟩) (by simp; omega) _
  have hs5 : g4 < (w4.setCell ⟨w.heap.size + 1 + 1, 2, none⟩ (.slice (some ⟨g4, 0, none⟩) D.np D.np)).heap.size := by simpa using hlt4
  rw [hW5.out] at S0 S1 S2 hv5 hv3'' hbw5 hs5
  obtain ⟨u0, u1, u2, u3⟩ := S0.cells
  have hS := toIndexS_any ai D.ni ci D.idx W5 (hi.below hbw5) hf.ni (fun i h => (hf.idx i h).2)
  clear T0 T1 T2 hv4 hbw4 hlt4 hv3' hi
  go_wp2_with (rw [hW5.out])
  refine hS.mono ?_
  rintro e w6 ⟨rfl, hv6, hb6, hlt6⟩
  obtain ⟨g6, hg6⟩ : ∃ g, Hid (W5.heap.size = g) := ⟨_, rfl⟩
  rw [hg6.out] at hv6 hlt6 hs5 ⊢
  have hbw6 : Below w.heap.size w w6 := hbw5.trans (hb6.mono hbw5.size)
  have R2 := S2.below hb6
  have R1 := S1.below hb6
  have hv3b := hv3''.below hb6
  have hv5b := hv5.below hb6
  clear S0 S1 S2 hS hb6 hbw5 hv3'' hv5 u0 u1 u2 u3 a1 q1
  obtain ⟨-, -, -, a1⟩ := R2.cells
  obtain ⟨-, -, -, q1⟩ := R2.fz
  obtain ⟨W7, hW7⟩ : ∃ W7, Hid (w6.setCell ⟨w.heap.size + 1 + 1, 3, none⟩ (.slice (some ⟨g6, 0, none⟩) D.ni D.ni) = W7) := ⟨_, rfl⟩
  have Z2 := R2.set3 (.slice (some ⟨g6, 0, none⟩) D.ni D.ni)
  have Z1 := R1.other (C := w.heap.size + 1 + 1) (i := 3) (u := .slice (some ⟨g6, 0, none⟩) D.ni D.ni) (by omega)
  have hv3c := hv3b.set (B := w.heap.size + 1 + 1) (by omega) 3 (.slice (some ⟨g6, 0, none⟩) D.ni D.ni)
  have hv5c := hv5b.set (B := w.heap.size + 1 + 1) (by omega) 3 (.slice (some ⟨g6, 0, none⟩) D.ni D.ni)
  have hv6c := hv6.set (C := w.heap.size + 1 + 1) (by omega) 3 (.slice (some ⟨g6, 0, none⟩) D.ni D.ni)
  have hbw7 : Below w.heap.size w (w6.setCell ⟨w.heap.size + 1 + 1, 3, none⟩ (.slice (some ⟨g6, 0, none⟩) D.ni D.ni)) := hbw6.setCell (p := ⟨w.heap.size + 1 + 1, 3, none⟩) (by simp; omega) _
  rw [hW7.out] at Z1 Z2 hv3c hv5c hv6c hbw7
  obtain ⟨u0, u1, u2, u3⟩ := Z2.cells
  obtain ⟨p0, p1, p2, p3⟩ := Z1.cells
  obtain ⟨k0, k1, k2, k3⟩ := Z1.fz
  have ZF := (((Z1.set0 (.string D.name)).set1 (.slice (some ⟨w.heap.size + 1 + 1 + 1, 0, none⟩) D.nc D.nc)).set2 (.slice (some ⟨g4, 0, none⟩) D.np D.np)).set3 (.slice (some ⟨g6, 0, none⟩) D.ni D.ni)
  have HR : Hid (DOwn ((((W7.setCell ⟨w.heap.size + 1, 0, none⟩ (.string D.name)).setCell ⟨w.heap.size + 1, 1, none⟩ (.slice (some ⟨w.heap.size + 1 + 1 + 1, 0, none⟩) D.nc D.nc)).setCell ⟨w.heap.size + 1, 2, none⟩ (.slice (some ⟨g4, 0, none⟩) D.np D.np)).setCell ⟨w.heap.size + 1, 3, none⟩ (.slice (some ⟨g6, 0, none⟩) D.ni D.ni)) w.heap.size (.agg #[.string D.name, .slice (some ⟨w.heap.size + 1 + 1 + 1, 0, none⟩) D.nc D.nc, .slice (some ⟨g4, 0, none⟩) D.np D.np, .slice (some ⟨g6, 0, none⟩) D.ni D.ni]) D
      ∧ Below w.heap.size w ((((W7.setCell ⟨w.heap.size + 1, 0, none⟩ (.string D.name)).setCell ⟨w.heap.size + 1, 1, none⟩ (.slice (some ⟨w.heap.size + 1 + 1 + 1, 0, none⟩) D.nc D.nc)).setCell ⟨w.heap.size + 1, 2, none⟩ (.slice (some ⟨g4, 0, none⟩) D.np D.np)).setCell ⟨w.heap.size + 1, 3, none⟩ (.slice (some ⟨g6, 0, none⟩) D.ni D.ni))) := by
    refine ⟨⟨_, _, _, _, _, _, rfl, by omega, by omega, ?_, ?_, ?_⟩, ?_⟩
    · exact (((hv3c.set (by omega) _ _).set (by omega) _ _).set (by omega) _ _).set (by omega) _ _
    · exact (((hv5c.set (by omega) _ _).set (by omega) _ _).set (by omega) _ _).set (by omega) _ _
    · exact ((((hv6c.set (C := w.heap.size + 1) (by omega) _ _).set (C := w.heap.size + 1) (by omega) _ _).set (C := w.heap.size + 1) (by omega) _ _).set (C := w.heap.size + 1) (by omega) _ _).mono (by omega)
    · exact (((hbw7.setCell (p := ⟨w.heap.size + 1, 0, none⟩) (by simp) _).setCell (p := ⟨w.heap.size + 1, 1, none⟩) (by simp) _).setCell (p := ⟨w.heap.size + 1, 2, none⟩) (by simp) _).setCell (p := ⟨w.heap.size + 1, 3, none⟩) (by simp) _
  obtain ⟨r0, r1, r2, r3⟩ := ZF.cells
  clear R1 R2 Z1 Z2 ZF hv3b hv5b hv6 hv3c hv5c hv6c hbw6 hbw7 hlt6 hs3 hs5 hf
  go_wp2_with (rw [hW7.out])
  refine bodyPost_ret (v := .agg #[.string D.name, .slice (some ⟨w.heap.size + 1 + 1 + 1, 0, none⟩) D.nc D.nc, .slice (some ⟨g4, 0, none⟩) D.np D.np, .slice (some ⟨g6, 0, none⟩) D.ni D.ni]) (by simp [results, Try.results6, go_sem, r0, r1, r2, r3]) rfl ⟨_, rfl, HR.out.1, HR.out.2⟩
end Go.Proofs.Ytfjlmkphnciglat

/-
  Two tables in variables of the call's own.
-/
namespace Go.Proofs.Ytfjlmkphnciglat
open Go.RowKit
set_option maxRecDepth 4000

theorem bool_ne {a b : Bool} (h : ¬ a = b) : b = !a := by cases a <;> cases b <;> simp at h <;> rfl
/-- Two variables of four cells, one behind the other. -/
theorem box44 {w wr : World} {T U : TypeId} {x0 x1 x2 x3 y0 y1 y2 y3 : Value} (h : Below (w.heap.size + 1 + 1) ((w.alloc (.cells #[x0, x1, x2, x3] T)).alloc (.cells #[y0, y1, y2, y3] U)) wr) :
    (wr.cell? ⟨w.heap.size, 0, none⟩ = some x0 ∧ wr.cell? ⟨w.heap.size, 1, none⟩ = some x1 ∧ wr.cell? ⟨w.heap.size, 2, none⟩ = some x2 ∧ wr.cell? ⟨w.heap.size, 3, none⟩ = some x3)
    ∧ (wr.cell? ⟨w.heap.size + 1, 0, none⟩ = some y0 ∧ wr.cell? ⟨w.heap.size + 1, 1, none⟩ = some y1 ∧ wr.cell? ⟨w.heap.size + 1, 2, none⟩ = some y2 ∧ wr.cell? ⟨w.heap.size + 1, 3, none⟩ = some y3) := by
  refine ⟨⟨?_, ?_, ?_, ?_⟩, ?_, ?_, ?_, ?_⟩
  all_goals (rw [h.cell (by first | (simp; done) | (simp; omega))]; simp [go_sem])
theorem box44_below {w wr : World} {o p : Obj} (h : Below (w.heap.size + 1 + 1) ((w.alloc o).alloc p) wr) : Below w.heap.size w wr ∧ w.heap.size + 2 ≤ wr.heap.size := by
  refine ⟨(((Below.refl _ _).alloc (Nat.le_refl _) _).alloc (by simp) _).trans (h.mono (by omega)), ?_⟩
  have := h.size
  simpa using this
theorem box44_on {w wr w' : World} {o p : Obj} (h : Below (w.heap.size + 1 + 1) ((w.alloc o).alloc p) wr) (h' : Below wr.heap.size wr w') : Below (w.heap.size + 1 + 1) ((w.alloc o).alloc p) w' := h.trans (h'.mono (box44_below h).2)
theorem box3 {w wr : World} {T : TypeId} {x0 x1 x2 : Value} (h : Below (w.heap.size + 1) (w.alloc (.cells #[x0, x1, x2] T)) wr) :
    wr.cell? ⟨w.heap.size, 0, none⟩ = some x0 ∧ wr.cell? ⟨w.heap.size, 1, none⟩ = some x1 ∧ wr.cell? ⟨w.heap.size, 2, none⟩ = some x2 := by
  refine ⟨?_, ?_, ?_⟩
  all_goals (rw [h.cell (by simp)]; simp [go_sem])

end Go.Proofs.Ytfjlmkphnciglat

/-
  Texts that are held against each other.
-/
namespace Go.Proofs.Ytfjlmkphnciglat
open Go.RowKit
set_option maxRecDepth 4000

theorem bytes_inj {a b : ByteArray} : a.toList = b.toList ↔ a = b := by
  constructor
  · intro h
    rw [ByteArray.toList_eq, ByteArray.toList_eq] at h
    obtain ⟨⟨x⟩⟩ := a
    obtain ⟨⟨y⟩⟩ := b
    simp only at h
    rw [h]
  · rintro rfl; rfl
theorem bytes_eq {a b : ByteArray} (h : a = b) : (a.toList == b.toList) = true := by rw [h]; exact beq_self_eq_true _
theorem bytes_ne {a b : ByteArray} (h : a ≠ b) : (a.toList == b.toList) = false := by
  cases e : (a.toList == b.toList) with
  | false => rfl
  | true => exact absurd (bytes_inj.1 (eq_of_beq e)) h
end Go.Proofs.Ytfjlmkphnciglat

/-
  Tables that read alike are alike, as the law holds them against each other.
-/
namespace Go.Proofs.Ytfjlmkphnciglat
open Go.RowKit
set_option maxRecDepth 4000

set_option maxHeartbeats 1000000 in
theorem eqBy_same (c : Int) (d : Bool) (w : World) :
    Calls Try.prog 29 #[.agg #[.int .i64 c, .bool d], .agg #[.int .i64 c, .bool d]] w fun e w' => e = .returned (.bool true) ∧ Below w.heap.size w w' := by
  have e1 : (c != c) = false := bne_self_eq_false _
  have e2 : (d != d) = false := bne_self_eq_false _
  go_enter Try.func29, Try.ntmps29
  go_wp2
  go_ret
  refine ⟨rfl, ?_⟩
  repeat (first | exact Below.refl _ _ | refine Below.alloc ?_ (by simp <;> omega) _ | refine Below.drew ?_)

set_option maxHeartbeats 1000000 in
theorem eqCol_same (s : ByteArray) (c : Int) (d : Bool) (w : World) :
    Calls Try.prog 28 #[.agg #[.string s, .int .i64 c, .bool d], .agg #[.string s, .int .i64 c, .bool d]] w fun e w' => e = .returned (.bool true) ∧ Below w.heap.size w w' := by
  have e0 := bytes_eq (a := s) rfl
  have e1 : (c != c) = false := bne_self_eq_false _
  have e2 : (d != d) = false := bne_self_eq_false _
  go_enter Try.func28, Try.ntmps28
  go_wp2
  go_ret
  refine ⟨rfl, ?_⟩
  repeat (first | exact Below.refl _ _ | refine Below.alloc ?_ (by simp <;> omega) _ | refine Below.drew ?_)

set_option maxHeartbeats 2000000 in
theorem eqByS_same (a1 a2 : Option Addr) (n c1 c2 : Nat) (f : Nat → PBy) (w : World) (h1 : BView w a1 n c1 f) (h2 : BView w a2 n c2 f) (hn : n ≤ 1048576) :
    Calls Try.prog 21 #[.slice a1 n c1, .slice a2 n c2] w fun e w' => e = .returned (.bool true) ∧ Below w.heap.size w w' := by
  go_enter Try.func21, Try.ntmps21
  go_wp2
  go_loopg [5] n (fun q i wr => ∃ k : Nat, k ≤ n ∧ q = n - k ∧ i = .int .i64 k ∧ Below w.heap.size w wr)
  case atStart => exact ⟨0, Nat.zero_le _, rfl, rfl, Below.refl _ _⟩
  case round =>
    obtain ⟨k, hk, rfl, rfl, hB⟩ := hrel
    by_cases hlt : k < n
    · obtain ⟨b1, o1, rfl, hb1, hc1⟩ := (h1.below hB).cells (by omega)
      obtain ⟨b2, o2, rfl, hb2, hc2⟩ := (h2.below hB).cells (by omega)
      obtain ⟨x0, x1⟩ := hc1 k hlt
      obtain ⟨y0, y1⟩ := hc2 k hlt
      obtain ⟨p0, hp0⟩ : ∃ x, Hid ((f k).col = x) := ⟨_, rfl⟩
      obtain ⟨p1, hp1⟩ : ∃ x, Hid ((f k).desc = x) := ⟨_, rfl⟩
      rw [hp0.out] at x0 y0
      rw [hp1.out] at x1 y1
      have hkz : (k : Int) < (n : Int) := by omega
      have hV := fun W (_ : Below wr.heap.size wr W) => eqBy_same p0 p1 W
      have HWK : Hid (∀ W, Below wr.heap.size wr W → (W.cell? ⟨b1, o1 + k * 2, none⟩ = some (.int .i64 p0) ∧ W.cell? ⟨b1, o1 + k * 2 + 1, none⟩ = some (.bool p1)) ∧ (W.cell? ⟨b2, o2 + k * 2, none⟩ = some (.int .i64 p0) ∧ W.cell? ⟨b2, o2 + k * 2 + 1, none⟩ = some (.bool p1))) := by
        intro W hb
        refine ⟨⟨?_, ?_⟩, ⟨?_, ?_⟩⟩ <;> (rw [hb.cell (by first | exact hb1 | exact hb2)]; assumption)
      clear hc1 hc2 h1 h2
      go_wp2_with fail
      go_region_held3 (fun W => (W.cell? ⟨b1, o1 + k * 2, none⟩ = some (.int .i64 p0) ∧ W.cell? ⟨b1, o1 + k * 2 + 1, none⟩ = some (.bool p1)) ∧ (W.cell? ⟨b2, o2 + k * 2, none⟩ = some (.int .i64 p0) ∧ W.cell? ⟨b2, o2 + k * 2 + 1, none⟩ = some (.bool p1))) (first | assumption | go_keep) (first | (go_at_call 29; refine (hV _ (by repeat (first | exact Below.refl _ _ | refine Below.drew ?_))).mono ?_; rintro e w2 ⟨rfl, hB2⟩; have hcells : (w2.cell? ⟨b1, o1 + k * 2, none⟩ = some (.int .i64 p0) ∧ w2.cell? ⟨b1, o1 + k * 2 + 1, none⟩ = some (.bool p1)) ∧ (w2.cell? ⟨b2, o2 + k * 2, none⟩ = some (.int .i64 p0) ∧ w2.cell? ⟨b2, o2 + k * 2 + 1, none⟩ = some (.bool p1)) := HWK.out _ (Below.trans (by repeat (first | exact Below.refl _ _ | refine Below.drew ?_)) hB2)))
      all_goals
        have hB3 : Hid (Below w.heap.size w w2) := hB.trans (Below.trans (by repeat (first | exact Below.refl _ _ | refine Below.drew ?_)) (hB2.mono (by have := hB.size; exact this)))
        clear hcells HWK hV
        go_wp2
        go_roundg (n - (k + 1))
        case measure => omega
        case rel => exact ⟨k + 1, by omega, rfl, by go_num, by first | exact hB3.out | exact hB3.out.drew⟩
    · clear h1 h2
      go_wp2
      go_ret
      exact ⟨rfl, hB⟩

set_option maxHeartbeats 2000000 in
theorem eqColS_same (a1 a2 : Option Addr) (n c1 c2 : Nat) (f : Nat → PCol) (w : World) (h1 : CView w a1 n c1 f) (h2 : CView w a2 n c2 f) (hn : n ≤ 1048576) :
    Calls Try.prog 20 #[.slice a1 n c1, .slice a2 n c2] w fun e w' => e = .returned (.bool true) ∧ Below w.heap.size w w' := by
  go_enter Try.func20, Try.ntmps20
  go_wp2
  go_loopg [5] n (fun q i wr => ∃ k : Nat, k ≤ n ∧ q = n - k ∧ i = .int .i64 k ∧ Below w.heap.size w wr)
  case atStart => exact ⟨0, Nat.zero_le _, rfl, rfl, Below.refl _ _⟩
  case round =>
    obtain ⟨k, hk, rfl, rfl, hB⟩ := hrel
    by_cases hlt : k < n
    · obtain ⟨b1, o1, rfl, hb1, hc1⟩ := (h1.below hB).cells (by omega)
      obtain ⟨b2, o2, rfl, hb2, hc2⟩ := (h2.below hB).cells (by omega)
      obtain ⟨x0, x1, x2⟩ := hc1 k hlt
      obtain ⟨y0, y1, y2⟩ := hc2 k hlt
      obtain ⟨p0, hp0⟩ : ∃ x, Hid ((f k).name = x) := ⟨_, rfl⟩
      obtain ⟨p1, hp1⟩ : ∃ x, Hid ((f k).type = x) := ⟨_, rfl⟩
      obtain ⟨p2, hp2⟩ : ∃ x, Hid ((f k).null = x) := ⟨_, rfl⟩
      rw [hp0.out] at x0 y0
      rw [hp1.out] at x1 y1
      rw [hp2.out] at x2 y2
      have hkz : (k : Int) < (n : Int) := by omega
      have hV := fun W (_ : Below wr.heap.size wr W) => eqCol_same p0 p1 p2 W
      have HWK : Hid (∀ W, Below wr.heap.size wr W → (W.cell? ⟨b1, o1 + k * 3, none⟩ = some (.string p0) ∧ W.cell? ⟨b1, o1 + k * 3 + 1, none⟩ = some (.int .i64 p1) ∧ W.cell? ⟨b1, o1 + k * 3 + 2, none⟩ = some (.bool p2)) ∧ (W.cell? ⟨b2, o2 + k * 3, none⟩ = some (.string p0) ∧ W.cell? ⟨b2, o2 + k * 3 + 1, none⟩ = some (.int .i64 p1) ∧ W.cell? ⟨b2, o2 + k * 3 + 2, none⟩ = some (.bool p2))) := by
        intro W hb
        refine ⟨⟨?_, ?_, ?_⟩, ⟨?_, ?_, ?_⟩⟩ <;> (rw [hb.cell (by first | exact hb1 | exact hb2)]; assumption)
      clear hc1 hc2 h1 h2
      go_wp2_with fail
      go_region_held3 (fun W => (W.cell? ⟨b1, o1 + k * 3, none⟩ = some (.string p0) ∧ W.cell? ⟨b1, o1 + k * 3 + 1, none⟩ = some (.int .i64 p1) ∧ W.cell? ⟨b1, o1 + k * 3 + 2, none⟩ = some (.bool p2)) ∧ (W.cell? ⟨b2, o2 + k * 3, none⟩ = some (.string p0) ∧ W.cell? ⟨b2, o2 + k * 3 + 1, none⟩ = some (.int .i64 p1) ∧ W.cell? ⟨b2, o2 + k * 3 + 2, none⟩ = some (.bool p2))) (first | assumption | go_keep) (first | (go_at_call 28; refine (hV _ (by repeat (first | exact Below.refl _ _ | refine Below.drew ?_))).mono ?_; rintro e w2 ⟨rfl, hB2⟩; have hcells : (w2.cell? ⟨b1, o1 + k * 3, none⟩ = some (.string p0) ∧ w2.cell? ⟨b1, o1 + k * 3 + 1, none⟩ = some (.int .i64 p1) ∧ w2.cell? ⟨b1, o1 + k * 3 + 2, none⟩ = some (.bool p2)) ∧ (w2.cell? ⟨b2, o2 + k * 3, none⟩ = some (.string p0) ∧ w2.cell? ⟨b2, o2 + k * 3 + 1, none⟩ = some (.int .i64 p1) ∧ w2.cell? ⟨b2, o2 + k * 3 + 2, none⟩ = some (.bool p2)) := HWK.out _ (Below.trans (by repeat (first | exact Below.refl _ _ | refine Below.drew ?_)) hB2)))
      all_goals
        have hB3 : Hid (Below w.heap.size w w2) := hB.trans (Below.trans (by repeat (first | exact Below.refl _ _ | refine Below.drew ?_)) (hB2.mono (by have := hB.size; exact this)))
        clear hcells HWK hV
        go_wp2
        go_roundg (n - (k + 1))
        case measure => omega
        case rel => exact ⟨k + 1, by omega, rfl, by go_num, by first | exact hB3.out | exact hB3.out.drew⟩
    · clear h1 h2
      go_wp2
      go_ret
      exact ⟨rfl, hB⟩

set_option maxHeartbeats 2000000 in
theorem eqIndex_same (s : ByteArray) (u : Bool) (a1 a2 : Option Addr) (n c1 c2 : Nat) (f : Nat → PBy) (w : World) (h1 : BView w a1 n c1 f) (h2 : BView w a2 n c2 f) (hn : n ≤ 1048576) :
    Calls Try.prog 30 #[.agg #[.string s, .bool u, .slice a1 n c1], .agg #[.string s, .bool u, .slice a2 n c2]] w fun e w' => e = .returned (.bool true) ∧ Below w.heap.size w w' := by
  have e0 := bytes_eq (a := s) rfl
  have e2 : (u != u) = false := bne_self_eq_false _
  have hV := fun W (hb : Below w.heap.size w W) => eqByS_same a1 a2 n c1 c2 f W (h1.below hb) (h2.below hb) hn
  have hb0 : Below w.heap.size w ((w.alloc (.cells #[.string s, .bool u, .slice a1 n c1] 43)).alloc (.cells #[.string s, .bool u, .slice a2 n c2] 43)) := ((Below.refl _ _).alloc (Nat.le_refl _) _).alloc (by simp) _
  clear h1 h2
  go_enter Try.func30, Try.ntmps30
  go_wp2_with fail
  refine (hV _ hb0).mono ?_
  rintro e w2 ⟨rfl, hb2⟩
  have HB : Hid (Below w.heap.size w w2) := hb0.trans (hb2.mono (by simp; omega))
  clear hV hb0 hb2
  go_wp2
  go_ret
  exact ⟨rfl, HB.out⟩

set_option maxHeartbeats 2000000 in
theorem eqIndexS_same (a1 a2 : Option Addr) (n c1 c2 : Nat) (f : Nat → PIdx) (w : World) (h1 : IView w a1 n c1 f) (h2 : IView w a2 n c2 f) (hn : n ≤ 1048576) (hz : ∀ i, i < n → (f i).n ≤ 1048576) :
    Calls Try.prog 22 #[.slice a1 n c1, .slice a2 n c2] w fun e w' => e = .returned (.bool true) ∧ Below w.heap.size w w' := by
  go_enter Try.func22, Try.ntmps22
  go_wp2
  go_loopg [5] n (fun q i wr => ∃ k : Nat, k ≤ n ∧ q = n - k ∧ i = .int .i64 k ∧ Below w.heap.size w wr)
  case atStart => exact ⟨0, Nat.zero_le _, rfl, rfl, Below.refl _ _⟩
  case round =>
    obtain ⟨k, hk, rfl, rfl, hB⟩ := hrel
    by_cases hlt : k < n
    · obtain ⟨b1, o1, rfl, hb1, hc1⟩ := (h1.below hB).cells (by omega)
      obtain ⟨b2, o2, rfl, hb2, hc2⟩ := (h2.below hB).cells (by omega)
      obtain ⟨x0, x1, a1, c1, x2, hv1⟩ := hc1 k hlt
      obtain ⟨y0, y1, a2, c2, y2, hv2⟩ := hc2 k hlt
      have hV := fun W (hb : Below wr.heap.size wr W) => eqIndex_same (f k).name (f k).uniq a1 a2 (f k).n c1 c2 (f k).part W (hv1.below hb) (hv2.below hb) (hz k hlt)
      obtain ⟨p0, hp0⟩ : ∃ x, Hid ((f k).name = x) := ⟨_, rfl⟩
      obtain ⟨p1, hp1⟩ : ∃ x, Hid ((f k).uniq = x) := ⟨_, rfl⟩
      obtain ⟨p2, hp2⟩ : ∃ x, Hid ((f k).n = x) := ⟨_, rfl⟩
      simp only [hp0.out, hp1.out, hp2.out] at hV
      rw [hp0.out] at x0 y0
      rw [hp1.out] at x1 y1
      rw [hp2.out] at x2 y2
      have hkz : (k : Int) < (n : Int) := by omega

      have HWK : Hid (∀ W, Below wr.heap.size wr W → (W.cell? ⟨b1, o1 + k * 3, none⟩ = some (.string p0) ∧ W.cell? ⟨b1, o1 + k * 3 + 1, none⟩ = some (.bool p1) ∧ W.cell? ⟨b1, o1 + k * 3 + 2, none⟩ = some (.slice a1 p2 c1)) ∧ (W.cell? ⟨b2, o2 + k * 3, none⟩ = some (.string p0) ∧ W.cell? ⟨b2, o2 + k * 3 + 1, none⟩ = some (.bool p1) ∧ W.cell? ⟨b2, o2 + k * 3 + 2, none⟩ = some (.slice a2 p2 c2))) := by
        intro W hb
        refine ⟨⟨?_, ?_, ?_⟩, ⟨?_, ?_, ?_⟩⟩ <;> (rw [hb.cell (by first | exact hb1 | exact hb2)]; assumption)
      clear hc1 hc2 h1 h2 hz hv1 hv2
      go_wp2_with fail
      go_region_held3 (fun W => (W.cell? ⟨b1, o1 + k * 3, none⟩ = some (.string p0) ∧ W.cell? ⟨b1, o1 + k * 3 + 1, none⟩ = some (.bool p1) ∧ W.cell? ⟨b1, o1 + k * 3 + 2, none⟩ = some (.slice a1 p2 c1)) ∧ (W.cell? ⟨b2, o2 + k * 3, none⟩ = some (.string p0) ∧ W.cell? ⟨b2, o2 + k * 3 + 1, none⟩ = some (.bool p1) ∧ W.cell? ⟨b2, o2 + k * 3 + 2, none⟩ = some (.slice a2 p2 c2))) (first | assumption | go_keep) (first | (go_at_call 30; refine (hV _ (by repeat (first | exact Below.refl _ _ | refine Below.drew ?_))).mono ?_; rintro e w2 ⟨rfl, hB2⟩; have hcells : (w2.cell? ⟨b1, o1 + k * 3, none⟩ = some (.string p0) ∧ w2.cell? ⟨b1, o1 + k * 3 + 1, none⟩ = some (.bool p1) ∧ w2.cell? ⟨b1, o1 + k * 3 + 2, none⟩ = some (.slice a1 p2 c1)) ∧ (w2.cell? ⟨b2, o2 + k * 3, none⟩ = some (.string p0) ∧ w2.cell? ⟨b2, o2 + k * 3 + 1, none⟩ = some (.bool p1) ∧ w2.cell? ⟨b2, o2 + k * 3 + 2, none⟩ = some (.slice a2 p2 c2)) := HWK.out _ (Below.trans (by repeat (first | exact Below.refl _ _ | refine Below.drew ?_)) hB2)))
      all_goals
        have hB3 : Hid (Below w.heap.size w w2) := hB.trans (Below.trans (by repeat (first | exact Below.refl _ _ | refine Below.drew ?_)) (hB2.mono (by have := hB.size; exact this)))
        clear hcells HWK hV
        go_wp2
        go_roundg (n - (k + 1))
        case measure => omega
        case rel => exact ⟨k + 1, by omega, rfl, by go_num, by first | exact hB3.out | exact hB3.out.drew⟩
    · clear h1 h2
      go_wp2
      go_ret
      exact ⟨rfl, hB⟩

set_option maxHeartbeats 2000000 in
theorem eqDef_same (u v : Value) (D : PDef) (w : World) (h1 : DView w u D) (h2 : DView w v D) (hf : DFine D) :
    Calls Try.prog 8 #[u, v] w fun e w' => e = .returned (.bool true) ∧ Below w.heap.size w w' := by
  obtain ⟨ac, cc, ap, cp, ai, ci, rfl, hc1, hp1, hi1⟩ := h1.is
  obtain ⟨bc, dc, bp, dp, bi, di, rfl, hc2, hp2, hi2⟩ := h2.is
  clear h1 h2
  have e0 := bytes_eq (a := D.name) rfl
  have hB0 : Below (w.heap.size + 1 + 1) ((w.alloc (.cells #[.string D.name, .slice ac D.nc cc, .slice ap D.np cp, .slice ai D.ni ci] 33)).alloc (.cells #[.string D.name, .slice bc D.nc dc, .slice bp D.np dp, .slice bi D.ni di] 33)) ((w.alloc (.cells #[.string D.name, .slice ac D.nc cc, .slice ap D.np cp, .slice ai D.ni ci] 33)).alloc (.cells #[.string D.name, .slice bc D.nc dc, .slice bp D.np dp, .slice bi D.ni di] 33)) := Below.refl _ _
  obtain ⟨hBw0, -⟩ := box44_below hB0
  have hV1 := eqColS_same ac bc D.nc cc dc D.col _ (hc1.below hBw0) (hc2.below hBw0) hf.nc
  go_enter Try.func8, Try.ntmps8
  go_wp2_with fail
  refine hV1.mono ?_
  rintro e w1 ⟨rfl, hb1⟩
  have hB1 := box44_on hB0 hb1
  obtain ⟨hBw1, hs1⟩ := box44_below hB1
  obtain ⟨⟨x0, x1, x2, x3⟩, y0, y1, y2, y3⟩ := box44 hB1
  have hV2 := eqByS_same ap bp D.np cp dp D.pri w1 (hp1.below hBw1) (hp2.below hBw1) hf.np
  clear hV1 hb1 hB0 hBw0 hc1 hc2
  go_wp2_with fail
  refine hV2.mono ?_
  rintro e w2 ⟨rfl, hb2⟩
  have hB2 := box44_on hB1 hb2
  obtain ⟨hBw2, hs2⟩ := box44_below hB2
  clear x0 x1 x2 x3 y0 y1 y2 y3
  obtain ⟨⟨x0, x1, x2, x3⟩, y0, y1, y2, y3⟩ := box44 hB2
  have hV3 := eqIndexS_same ai bi D.ni ci di D.idx w2 (hi1.below hBw2) (hi2.below hBw2) hf.ni (fun i hi => (hf.idx i hi).2)
  clear hV2 hb2 hB1 hBw1 hp1 hp2 hs1
  go_wp2_with fail
  refine hV3.mono ?_
  rintro e w3 ⟨rfl, hb3⟩
  have HB : Hid (Below w.heap.size w w3) := (box44_below (box44_on hB2 hb3)).1
  clear hV3 hb3 hB2 hBw2 hi1 hi2 hf
  go_wp2
  go_ret
  exact ⟨rfl, HB.out⟩
end Go.Proofs.Ytfjlmkphnciglat

/-
  The model's l9SameParts, SameDef come to the plain ones.
-/
namespace Go.Proofs.Ytfjlmkphnciglat
open Go.RowKit
set_option maxRecDepth 4000

def eqBy (a b : PBy) : Bool := decide (a.col = b.col) && decide (a.desc = b.desc)
def eqCol (a b : PCol) : Bool := decide (a.name = b.name) && decide (a.type = b.type) && decide (a.null = b.null)
theorem neBy_run (a b : PBy) (W : World) : (binOp .neq 49 (.agg #[.int .i64 a.col, .bool a.desc]) (.agg #[.int .i64 b.col, .bool b.desc])).run Try.prog W = .ok (.bool (!eqBy a b)) W := by
  obtain ⟨c, d⟩ := a
  obtain ⟨c', d'⟩ := b
  by_cases h1 : c = c' <;> cases d <;> cases d' <;> simp [go_sem, h1, eqBy]
theorem neCol_run (a b : PCol) (W : World) : (binOp .neq 41 (.agg #[.string a.name, .int .i64 a.type, .bool a.null]) (.agg #[.string b.name, .int .i64 b.type, .bool b.null])).run Try.prog W = .ok (.bool (!eqCol a b)) W := by
  obtain ⟨s, c, d⟩ := a
  obtain ⟨s', c', d'⟩ := b
  by_cases h1 : c = c' <;> by_cases h2 : s = s' <;> cases d <;> cases d' <;> simp [go_sem, h1, h2, eqCol, bytes_inj]

set_option maxHeartbeats 1000000 in
theorem l9SameParts_any (a1 a2 : Option Addr) (n c1 m c2 : Nat) (f g : Nat → PBy) (w : World) (h1 : BView w a1 n c1 f) (h2 : BView w a2 m c2 g) (hn : n ≤ 1048576) :
    Calls Try.prog 12 #[.slice a1 n c1, .slice a2 m c2] w fun e w' => e = .returned (.bool (sameByF n f m g)) ∧ Below w.heap.size w w' := by
  by_cases hnm : n = m
  · subst hnm
    have hq : ((n : Int) != (n : Int)) = false := bne_self_eq_false _
    go_enter Try.func12, Try.ntmps12
    go_wp2
    go_loopg [5] n (fun q i wr => ∃ k : Nat, k ≤ n ∧ q = n - k ∧ i = .int .i64 k ∧ Below w.heap.size w wr ∧ Hid (∀ i, i < k → (f i).col = (g i).col ∧ (f i).desc = (g i).desc))
    case atStart => exact ⟨0, Nat.zero_le _, rfl, rfl, Below.refl _ _, fun j hj => absurd hj (Nat.not_lt_zero _)⟩
    case round =>
      obtain ⟨k, hk, rfl, rfl, hB, HA⟩ := hrel
      by_cases hlt : k < n
      · have hkz : (k : Int) < (n : Int) := by omega
        obtain ⟨b1, o1, rfl, hb1, hcs⟩ := (h1.below hB).cells (by omega)
        obtain ⟨x0, x1⟩ := hcs k hlt
        obtain ⟨b2, o2, rfl, hb2, hcs2⟩ := (h2.below hB).cells (by omega)
        obtain ⟨y0, y1⟩ := hcs2 k hlt
        have hQ := neBy_run (f k) (g k)
        have HE : Hid (eqBy (f k) (g k) = true ↔ ((f k).col = (g k).col ∧ (f k).desc = (g k).desc)) := by show _ ↔ _; simp [eqBy]
        have HB : Hid (Below w.heap.size w wr) := hB
        obtain ⟨p0, hp0⟩ : ∃ x, Hid ((f k).col = x) := ⟨_, rfl⟩
        obtain ⟨p1, hp1⟩ : ∃ x, Hid ((f k).desc = x) := ⟨_, rfl⟩
        obtain ⟨r0, hr0⟩ : ∃ x, Hid ((g k).col = x) := ⟨_, rfl⟩
        obtain ⟨r1, hr1⟩ : ∃ x, Hid ((g k).desc = x) := ⟨_, rfl⟩
        obtain ⟨o, ho⟩ : ∃ x, Hid (eqBy (f k) (g k) = x) := ⟨_, rfl⟩
        simp only [hp0.out, hp1.out, hr0.out, hr1.out, ho.out] at hQ
        rw [hp0.out] at x0
        rw [hp1.out] at x1
        rw [hr0.out] at y0
        rw [hr1.out] at y1
        rw [ho.out] at HE
        clear hcs hcs2 h1 h2 hB hq
        cases o with
        | true =>
          have HN : Hid (∀ i, i < k + 1 → (f i).col = (g i).col ∧ (f i).desc = (g i).desc) := by
            intro i hi
            by_cases e : i < k
            · exact HA.out i e
            · obtain rfl : i = k := by omega
              exact HE.out.1 rfl
          clear HE HA
          go_wp2_with fail
          go_quiet (fail)
          go_wp2
          go_roundg (n - (k + 1))
          case measure => omega
          case rel => exact ⟨k + 1, by omega, rfl, by go_num, HB.out.trans ⟨rfl, rfl, rfl, Nat.le_refl _, fun _ _ => rfl⟩, HN⟩
        | false =>
          have HF : Hid (sameByF n f n g = false) := by
            show _ = _
            unfold sameByF
            exact decide_eq_false (fun h => by have := HE.out.2 (h.2 k hlt); cases this)
          clear HE HA
          go_wp2_with fail
          go_quiet (fail)
          go_wp2
          go_ret
          exact ⟨by rw [HF.out]; rfl, HB.out.trans ⟨rfl, rfl, rfl, Nat.le_refl _, fun _ _ => rfl⟩⟩
      · have hkz : ¬ (k : Int) < (n : Int) := by omega
        obtain rfl : k = n := by omega
        have HF : Hid (sameByF k f k g = true) := decide_eq_true ⟨rfl, HA.out⟩
        clear h1 h2
        go_wp2
        go_ret
        exact ⟨by rw [HF.out]; rfl, hB⟩
  · have hq : ((n : Int) != (m : Int)) = true := by simp; omega
    have HF : Hid (sameByF n f m g = false) := by
      show _ = _
      unfold sameByF
      exact decide_eq_false (fun h => hnm h.1)
    clear h1 h2 hnm
    go_enter Try.func12, Try.ntmps12
    go_wp2
    go_ret
    exact ⟨by rw [HF.out]; rfl, Below.refl _ _⟩
end Go.Proofs.Ytfjlmkphnciglat

/-
  The model's SameDef comes to the plain one.
-/
namespace Go.Proofs.Ytfjlmkphnciglat
open Go.RowKit
set_option maxRecDepth 4000

set_option maxHeartbeats 4000000 in
theorem specSame_any (u v : Value) (D E : PDef) (w : World) (h1 : DView w u D) (h2 : DView w v E) (hf : DFine D) :
    Calls Try.prog 5 #[u, v] w fun e w' => e = .returned (.bool (sameF D E)) ∧ Below w.heap.size w w' := by
  have hnc := hf.nc
  have hni := hf.ni
  have hnp := hf.np
  have HIX : Hid (∀ i, i < D.ni → (D.idx i).n ≤ 1048576) := fun i hi => (hf.idx i hi).2
  clear hf
  obtain ⟨ac, cc, ap, cp, ai, ci, rfl, hc1, hp1, hi1⟩ := h1.is
  obtain ⟨bc, dc, bp, dp, bi, di, rfl, hc2, hp2, hi2⟩ := h2.is
  clear h1 h2
  have hB0 : Below (w.heap.size + 1 + 1) ((w.alloc (.cells #[.string D.name, .slice ac D.nc cc, .slice ap D.np cp, .slice ai D.ni ci] 33)).alloc (.cells #[.string E.name, .slice bc E.nc dc, .slice bp E.np dp, .slice bi E.ni di] 33)) ((w.alloc (.cells #[.string D.name, .slice ac D.nc cc, .slice ap D.np cp, .slice ai D.ni ci] 33)).alloc (.cells #[.string E.name, .slice bc E.nc dc, .slice bp E.np dp, .slice bi E.ni di] 33)) := Below.refl _ _
  obtain ⟨hBw0, -⟩ := box44_below hB0
  have HO : Hid (sameF D E = true ↔ (D.name = E.name ∧ D.nc = E.nc ∧ D.ni = E.ni ∧ sameByF D.np D.pri E.np E.pri = true ∧ (∀ i, i < D.nc → (D.col i).name = (E.col i).name ∧ (D.col i).type = (E.col i).type ∧ (D.col i).null = (E.col i).null)
    ∧ (∀ i, i < D.ni → (D.idx i).name = (E.idx i).name ∧ (D.idx i).uniq = (E.idx i).uniq ∧ sameByF (D.idx i).n (D.idx i).part (E.idx i).n (E.idx i).part = true))) := by show _ ↔ _; unfold sameF; exact decide_eq_true_iff
  have HNO : Hid (¬ (sameF D E = true) → sameF D E = false) := fun h => by cases e : sameF D E with | true => exact absurd e h | false => rfl
  by_cases q1 : D.name = E.name
  · have r1 := bytes_eq q1
    by_cases q2 : D.nc = E.nc
    · have r2 : ((D.nc : Int) != (E.nc : Int)) = false := by rw [q2]; exact bne_self_eq_false _
      by_cases q3 : D.ni = E.ni
      · have r3 : ((D.ni : Int) != (E.ni : Int)) = false := by rw [q3]; exact bne_self_eq_false _
        have hS := fun W (hb : Below w.heap.size w W) => l9SameParts_any ap bp D.np cp E.np dp D.pri E.pri W (hp1.below hb) (hp2.below hb) hnp
        have HQ : Hid (D.name = E.name ∧ D.nc = E.nc ∧ D.ni = E.ni) := ⟨q1, q2, q3⟩
        clear q1 q2 q3
        go_enter Try.func5, Try.ntmps5
        go_wp2_with fail
        refine (hS _ hBw0).mono ?_
        cases q4 : sameByF D.np D.pri E.np E.pri with
        | false =>
          rintro e w1 ⟨rfl, hb1⟩
          have HB : Hid (Below w.heap.size w w1) := (box44_below (box44_on hB0 hb1)).1
          have HF : Hid (sameF D E = false) := HNO.out (fun h => by have := (HO.out.1 h).2.2.2.1; rw [q4] at this; cases this)
          clear hb1 hS hc1 hc2 hp1 hp2 hi1 hi2 HO HNO
          go_wp2
          go_ret
          exact ⟨by rw [HF.out]; rfl, HB.out⟩
        | true =>
          rintro e w1 ⟨rfl, hb1⟩
          have hB1 := box44_on hB0 hb1
          have HE1 : Hid (D.name = E.name ∧ D.nc = E.nc ∧ D.ni = E.ni ∧ sameByF D.np D.pri E.np E.pri = true) := ⟨HQ.out.1, HQ.out.2.1, HQ.out.2.2, q4⟩
          clear hb1 hS hp1 hp2 hB0 hBw0 HQ q4 r1 r2 r3
          go_wp2
          go_loopg [5] D.nc (fun q i wr => ∃ k : Nat, k ≤ D.nc ∧ q = D.nc - k ∧ i = .int .i64 k ∧ Below (w.heap.size + 1 + 1) ((w.alloc (.cells #[.string D.name, .slice ac D.nc cc, .slice ap D.np cp, .slice ai D.ni ci] 33)).alloc (.cells #[.string E.name, .slice bc E.nc dc, .slice bp E.np dp, .slice bi E.ni di] 33)) wr ∧ Hid (∀ i, i < k → (D.col i).name = (E.col i).name ∧ (D.col i).type = (E.col i).type ∧ (D.col i).null = (E.col i).null))
          case atStart => exact ⟨0, Nat.zero_le _, rfl, rfl, hB1, fun j hj => absurd hj (Nat.not_lt_zero _)⟩
          case round =>
            clear hB1
            obtain ⟨k, hk, rfl, rfl, hB, HA⟩ := hrel
            obtain ⟨⟨x0, x1, x2, x3⟩, y0, y1, y2, y3⟩ := box44 hB
            obtain ⟨hBw, hsz⟩ := box44_below hB
            by_cases hlt : k < D.nc
            · have hkz : (k : Int) < (D.nc : Int) := by omega
              have hkz2 : (k : Int) < (E.nc : Int) := by have := HE1.out.2.1; omega
              obtain ⟨b1, o1, e1, hb1, hcs⟩ := (hc1.below hBw).cells (by omega)
              obtain ⟨b2, o2, e2, hb2, hcs2⟩ := (hc2.below hBw).cells (by omega)
              rw [e1] at x1
              rw [e2] at y1
              obtain ⟨f0, f1, f2⟩ := hcs k hlt
              obtain ⟨g0, g1, g2⟩ := hcs2 k (by omega)
              have hQ := neCol_run (D.col k) (E.col k)
              have HE : Hid (eqCol (D.col k) (E.col k) = true ↔ ((D.col k).name = (E.col k).name ∧ (D.col k).type = (E.col k).type ∧ (D.col k).null = (E.col k).null)) := by show _ ↔ _; simp [eqCol, and_assoc]
              have HB : Hid (Below (w.heap.size + 1 + 1) ((w.alloc (.cells #[.string D.name, .slice ac D.nc cc, .slice ap D.np cp, .slice ai D.ni ci] 33)).alloc (.cells #[.string E.name, .slice bc E.nc dc, .slice bp E.np dp, .slice bi E.ni di] 33)) wr) := hB
              have HBw : Hid (Below w.heap.size w wr) := hBw
              have HL : Hid (eqCol (D.col k) (E.col k) = true → ∀ i, i < k + 1 → (D.col i).name = (E.col i).name ∧ (D.col i).type = (E.col i).type ∧ (D.col i).null = (E.col i).null) := by
                intro ho i hi
                by_cases e : i < k
                · exact HA.out i e
                · obtain rfl : i = k := by omega
                  exact HE.out.1 ho
              have HL2 : Hid (eqCol (D.col k) (E.col k) = false → sameF D E = false) := fun ho => HNO.out (fun h => by
                have := HE.out.2 ((HO.out.1 h).2.2.2.2.1 k hlt)
                rw [ho] at this; cases this)
              obtain ⟨s0, hs0⟩ : ∃ x, Hid ((D.col k).name = x) := ⟨_, rfl⟩
              obtain ⟨s1, hs1⟩ : ∃ x, Hid ((D.col k).type = x) := ⟨_, rfl⟩
              obtain ⟨s2, hs2⟩ : ∃ x, Hid ((D.col k).null = x) := ⟨_, rfl⟩
              obtain ⟨t0, ht0⟩ : ∃ x, Hid ((E.col k).name = x) := ⟨_, rfl⟩
              obtain ⟨t1, ht1⟩ : ∃ x, Hid ((E.col k).type = x) := ⟨_, rfl⟩
              obtain ⟨t2, ht2⟩ : ∃ x, Hid ((E.col k).null = x) := ⟨_, rfl⟩
              obtain ⟨o, ho⟩ : ∃ x, Hid (eqCol (D.col k) (E.col k) = x) := ⟨_, rfl⟩
              simp only [hs0.out, hs1.out, hs2.out, ht0.out, ht1.out, ht2.out, ho.out] at hQ
              rw [hs0.out] at f0
              rw [hs1.out] at f1
              rw [hs2.out] at f2
              rw [ht0.out] at g0
              rw [ht1.out] at g1
              rw [ht2.out] at g2
              rw [ho.out] at HL HL2
              clear hcs hcs2 hc1 hc2 hi1 hi2 hB hBw HA HE HO HNO e1 e2
              cases o with
              | true =>
                have HN : Hid (∀ i, i < k + 1 → (D.col i).name = (E.col i).name ∧ (D.col i).type = (E.col i).type ∧ (D.col i).null = (E.col i).null) := HL.out rfl
                clear HL HL2
                go_wp2_with fail
                go_quiet (fail)
                go_wp2
                go_roundg (D.nc - (k + 1))
                case measure => omega
                case rel => exact ⟨k + 1, by omega, rfl, by go_num, HB.out.trans ⟨rfl, rfl, rfl, Nat.le_refl _, fun _ _ => rfl⟩, HN⟩
              | false =>
                have HF : Hid (sameF D E = false) := HL2.out rfl
                clear HL HL2
                go_wp2_with fail
                go_quiet (fail)
                go_wp2
                go_ret
                exact ⟨by rw [HF.out]; rfl, HBw.out.trans ⟨rfl, rfl, rfl, Nat.le_refl _, fun _ _ => rfl⟩⟩
            · have hkz : ¬ (k : Int) < (D.nc : Int) := by omega
              obtain rfl : k = D.nc := by omega
              clear hc1 hc2
              go_wp2
              go_loopg [6] D.ni (fun q i wr => ∃ k : Nat, k ≤ D.ni ∧ q = D.ni - k ∧ i = .int .i64 k ∧ Below (w.heap.size + 1 + 1) ((w.alloc (.cells #[.string D.name, .slice ac D.nc cc, .slice ap D.np cp, .slice ai D.ni ci] 33)).alloc (.cells #[.string E.name, .slice bc E.nc dc, .slice bp E.np dp, .slice bi E.ni di] 33)) wr ∧ Hid (∀ i, i < k → (D.idx i).name = (E.idx i).name ∧ (D.idx i).uniq = (E.idx i).uniq ∧ sameByF (D.idx i).n (D.idx i).part (E.idx i).n (E.idx i).part = true))
              case atStart => exact ⟨0, Nat.zero_le _, rfl, rfl, hB, fun j hj => absurd hj (Nat.not_lt_zero _)⟩
              case round =>
                clear hB hBw hsz x0 x1 x2 x3 y0 y1 y2 y3 hkz hlt hk
                obtain ⟨k, hk, rfl, rfl, hB, HI⟩ := hrel
                obtain ⟨⟨x0, x1, x2, x3⟩, y0, y1, y2, y3⟩ := box44 hB
                obtain ⟨hBw, hsz⟩ := box44_below hB
                by_cases hlt : k < D.ni
                · have hkz : (k : Int) < (D.ni : Int) := by omega
                  have hkz2 : (k : Int) < (E.ni : Int) := by have := HE1.out.2.2.1; omega
                  obtain ⟨b1, o1, e1, hb1, hcs⟩ := (hi1.below hBw).cells (by omega)
                  obtain ⟨b2, o2, e2, hb2, hcs2⟩ := (hi2.below hBw).cells (by omega)
                  rw [e1] at x3
                  rw [e2] at y3
                  obtain ⟨f0, f1, a3, c3, f2, hv3⟩ := hcs k hlt
                  obtain ⟨g0, g1, a4, c4, g2, hv4⟩ := hcs2 k (by omega)
                  have hS := fun W (hb : Below wr.heap.size wr W) => l9SameParts_any a3 a4 (D.idx k).n c3 (E.idx k).n c4 (D.idx k).part (E.idx k).part W (hv3.below hb) (hv4.below hb) (HIX.out k hlt)
                  have HB : Hid (Below (w.heap.size + 1 + 1) ((w.alloc (.cells #[.string D.name, .slice ac D.nc cc, .slice ap D.np cp, .slice ai D.ni ci] 33)).alloc (.cells #[.string E.name, .slice bc E.nc dc, .slice bp E.np dp, .slice bi E.ni di] 33)) wr) := hB
                  have HBw : Hid (Below w.heap.size w wr) := hBw
                  have HL : Hid ((D.idx k).name = (E.idx k).name ∧ (D.idx k).uniq = (E.idx k).uniq ∧ sameByF (D.idx k).n (D.idx k).part (E.idx k).n (E.idx k).part = true → ∀ i, i < k + 1 → (D.idx i).name = (E.idx i).name ∧ (D.idx i).uniq = (E.idx i).uniq ∧ sameByF (D.idx i).n (D.idx i).part (E.idx i).n (E.idx i).part = true) := by
                    intro ho i hi
                    by_cases e : i < k
                    · exact HI.out i e
                    · obtain rfl : i = k := by omega
                      exact ho
                  have HL2 : Hid (¬ ((D.idx k).name = (E.idx k).name ∧ (D.idx k).uniq = (E.idx k).uniq ∧ sameByF (D.idx k).n (D.idx k).part (E.idx k).n (E.idx k).part = true) → sameF D E = false) := fun hn => HNO.out (fun h => hn ((HO.out.1 h).2.2.2.2.2 k hlt))
                  obtain ⟨s0, hs0⟩ : ∃ x, Hid ((D.idx k).name = x) := ⟨_, rfl⟩
                  obtain ⟨s1, hs1⟩ : ∃ x, Hid ((D.idx k).uniq = x) := ⟨_, rfl⟩
                  obtain ⟨s2, hs2⟩ : ∃ x, Hid ((D.idx k).n = x) := ⟨_, rfl⟩
                  obtain ⟨t0, ht0⟩ : ∃ x, Hid ((E.idx k).name = x) := ⟨_, rfl⟩
                  obtain ⟨t1, ht1⟩ : ∃ x, Hid ((E.idx k).uniq = x) := ⟨_, rfl⟩
                  obtain ⟨t2, ht2⟩ : ∃ x, Hid ((E.idx k).n = x) := ⟨_, rfl⟩
                  obtain ⟨o, ho⟩ : ∃ x, Hid (sameByF (D.idx k).n (D.idx k).part (E.idx k).n (E.idx k).part = x) := ⟨_, rfl⟩
                  simp only [ho.out] at hS
                  simp only [hs2.out, ht2.out] at hS
                  rw [ho.out] at HL HL2
                  rw [hs0.out] at f0 HL HL2
                  rw [hs1.out] at f1 HL HL2
                  rw [hs2.out] at f2
                  rw [ht0.out] at g0 HL HL2
                  rw [ht1.out] at g1 HL HL2
                  rw [ht2.out] at g2
                  clear hcs hcs2 hi1 hi2 hB hBw HA HI HO HNO e1 e2 hv3 hv4
                  have hA1 : Below wr.heap.size wr ((wr.alloc (.cells #[.string s0, .bool s1, .slice a3 s2 c3] 43)).alloc (.cells #[.string t0, .bool t1, .slice a4 t2 c4] 43)) := ((Below.refl _ _).alloc (Nat.le_refl _) _).alloc (by simp) _
                  have HA1 : Hid (Below wr.heap.size wr ((wr.alloc (.cells #[.string s0, .bool s1, .slice a3 s2 c3] 43)).alloc (.cells #[.string t0, .bool t1, .slice a4 t2 c4] 43))) := hA1
                  have hS1 := hS _ hA1
                  clear hS hA1
                  have HY : Hid (∀ j, ⟨w.heap.size + 1, j, none⟩ = (⟨w.heap.size + 1, j, none⟩ : Addr)) := fun _ => rfl
                  have y3' : (wr.alloc (.cells #[.string s0, .bool s1, .slice a3 s2 c3] 43)).cell? ⟨w.heap.size + 1, 3, none⟩ = some (.slice (some ⟨b2, o2, none⟩) E.ni di) := by rw [World.cell?_alloc_lt _ _ _ (by show w.heap.size + 1 < _; omega)]; exact y3
                  have g0' : (wr.alloc (.cells #[.string s0, .bool s1, .slice a3 s2 c3] 43)).cell? ⟨b2, o2 + k * 3, none⟩ = some (.string t0) := by rw [World.cell?_alloc_lt _ _ _ hb2]; exact g0
                  have g1' : (wr.alloc (.cells #[.string s0, .bool s1, .slice a3 s2 c3] 43)).cell? ⟨b2, o2 + k * 3 + 1, none⟩ = some (.bool t1) := by rw [World.cell?_alloc_lt _ _ _ hb2]; exact g1
                  have g2' : (wr.alloc (.cells #[.string s0, .bool s1, .slice a3 s2 c3] 43)).cell? ⟨b2, o2 + k * 3 + 2, none⟩ = some (.slice a4 t2 c4) := by rw [World.cell?_alloc_lt _ _ _ hb2]; exact g2
                  by_cases p1 : s0 = t0
                  · have m1 := bytes_eq p1
                    by_cases p2 : s1 = t1
                    · subst p2
                      cases o with
                      | true =>
                        have HN : Hid (∀ i, i < k + 1 → (D.idx i).name = (E.idx i).name ∧ (D.idx i).uniq = (E.idx i).uniq ∧ sameByF (D.idx i).n (D.idx i).part (E.idx i).n (E.idx i).part = true) := HL.out ⟨p1, rfl, rfl⟩
                        clear HL HL2 p1
                        go_wp2_with fail
                        refine hS1.mono ?_
                        rintro e w2 ⟨rfl, hb2'⟩
                        have HB2 : Hid (Below (w.heap.size + 1 + 1) ((w.alloc (.cells #[.string D.name, .slice ac D.nc cc, .slice ap D.np cp, .slice ai D.ni ci] 33)).alloc (.cells #[.string E.name, .slice bc E.nc dc, .slice bp E.np dp, .slice bi E.ni di] 33)) w2) := box44_on HB.out (HA1.out.trans (hb2'.mono HA1.out.size))
                        clear hS1 hb2' HA1
                        go_wp2
                        go_roundg (D.ni - (k + 1))
                        case measure => omega
                        case rel => exact ⟨k + 1, by omega, rfl, by go_num, HB2.out, HN⟩
                      | false =>
                        have HF : Hid (sameF D E = false) := HL2.out (fun h => by cases h.2.2)
                        clear HL HL2 p1
                        go_wp2_with fail
                        refine hS1.mono ?_
                        rintro e w2 ⟨rfl, hb2'⟩
                        have HB2 : Hid (Below w.heap.size w w2) := HBw.out.trans ((HA1.out.trans (hb2'.mono HA1.out.size)).mono (by omega))
                        clear hS1 hb2' HA1
                        go_wp2
                        go_ret
                        exact ⟨by rw [HF.out]; rfl, HB2.out⟩
                    · have HF : Hid (sameF D E = false) := HL2.out (fun h => p2 h.2.1)
                      have HB2 : Hid (Below w.heap.size w _) := HBw.out.trans (HA1.out.mono (by omega))
                      obtain rfl : t1 = !s1 := bool_ne p2
                      clear HL HL2 p1 p2 hS1
                      cases s1
                      all_goals
                        go_wp2
                        go_ret
                        exact ⟨by rw [HF.out]; rfl, HB2.out⟩
                  · have m1 := bytes_ne p1
                    have HF : Hid (sameF D E = false) := HL2.out (fun h => p1 h.1)
                    have HB2 : Hid (Below w.heap.size w _) := HBw.out.trans (HA1.out.mono (by omega))
                    clear HL HL2 p1 hS1
                    go_wp2
                    go_ret
                    exact ⟨by rw [HF.out]; rfl, HB2.out⟩
                · have hkz : ¬ (k : Int) < (D.ni : Int) := by omega
                  obtain rfl : k = D.ni := by omega
                  have HF : Hid (sameF D E = true) := HO.out.2 ⟨HE1.out.1, HE1.out.2.1, HE1.out.2.2.1, HE1.out.2.2.2, HA.out, HI.out⟩
                  clear hi1 hi2 HO HNO HA HI hB
                  go_wp2
                  go_ret
                  exact ⟨by rw [HF.out]; rfl, hBw⟩
      · have r3 : ((D.ni : Int) != (E.ni : Int)) = true := by simp; omega
        have HF : Hid (sameF D E = false) := HNO.out (fun h => q3 (HO.out.1 h).2.2.1)
        clear hc1 hc2 hp1 hp2 hi1 hi2 HO HNO q1 q2 q3
        go_enter Try.func5, Try.ntmps5
        go_wp2
        go_ret
        exact ⟨by rw [HF.out]; rfl, hBw0⟩
    · have r2 : ((D.nc : Int) != (E.nc : Int)) = true := by simp; omega
      have HF : Hid (sameF D E = false) := HNO.out (fun h => q2 (HO.out.1 h).2.1)
      clear hc1 hc2 hp1 hp2 hi1 hi2 HO HNO q1 q2
      go_enter Try.func5, Try.ntmps5
      go_wp2
      go_ret
      exact ⟨by rw [HF.out]; rfl, hBw0⟩
  · have r1 := bytes_ne q1
    have HF : Hid (sameF D E = false) := HNO.out (fun h => q1 (HO.out.1 h).1)
    clear hc1 hc2 hp1 hp2 hi1 hi2 HO HNO q1
    go_enter Try.func5, Try.ntmps5
    go_wp2
    go_ret
    exact ⟨by rw [HF.out]; rfl, hBw0⟩
end Go.Proofs.Ytfjlmkphnciglat

/-
  The law FnExactSameDef, walked.
-/
namespace Go.Proofs.Ytfjlmkphnciglat
open Go.RowKit
set_option maxRecDepth 4000

set_option maxHeartbeats 8000000 in
theorem lawSameDef (u v : Value) (D E : PDef) (w : World) (h1 : DView w u D) (h2 : DView w v E) (hm1 : DLim D) (hm2 : DLim E)
    (hI : ∀ (W : World) (u' v' : Value), Below w.heap.size w W → DView W u' D → DView W v' E → DFine D → DFine E → Calls Try.prog 7 #[u', v'] W fun e w' => e = .returned (.bool (sameF D E)) ∧ Below W.heap.size W w') :
    Calls Try.prog 3 #[u, v] w fun e w' => e = .returned (.bool true) ∧ Below w.heap.size w w' := by
  have hu := h1
  have hv := h2
  obtain ⟨ac, cc, ap, cp, ai, ci, rfl, -, -, -⟩ := h1.is
  obtain ⟨bc, dc, bp, dp, bi, di, rfl, -, -, -⟩ := h2.is
  clear h1 h2
  have hB0 : Below (w.heap.size + 1 + 1) ((w.alloc (.cells #[.string D.name, .slice ac D.nc cc, .slice ap D.np cp, .slice ai D.ni ci] 26)).alloc (.cells #[.string E.name, .slice bc E.nc dc, .slice bp E.np dp, .slice bi E.ni di] 26)) ((w.alloc (.cells #[.string D.name, .slice ac D.nc cc, .slice ap D.np cp, .slice ai D.ni ci] 26)).alloc (.cells #[.string E.name, .slice bc E.nc dc, .slice bp E.np dp, .slice bi E.ni di] 26)) := Below.refl _ _
  obtain ⟨hBw0, -⟩ := box44_below hB0
  have hZ := szDef_fine _ D 1048576 _ (hu.below hBw0) hm1 (by omega) (by omega)
  go_enter Try.func3, Try.ntmps3
  go_wp2_with fail
  refine hZ.mono ?_
  rintro e w1 ⟨L, rfl, hb1, hL⟩
  have hB1 := box44_on hB0 hb1
  obtain ⟨hBw1, hs1⟩ := box44_below hB1
  obtain ⟨⟨x0, x1, x2, x3⟩, y0, y1, y2, y3⟩ := box44 hB1
  clear hZ hb1 hB0 hBw0 hm1
  rcases hL with rfl | ⟨hL0, hL1, hf⟩
  · have HB : Hid (Below w.heap.size w w1) := hBw1
    clear hI hu hv hB1 hBw1 hm2
    go_wp2
    go_ret
    exact ⟨rfl, HB.out⟩
  have hLn : ¬ L < 0 := by omega
  have hZ := szDef_fine _ E L _ (hv.below hBw1) hm2 (by omega) (by omega)
  go_wp2_with fail
  refine hZ.mono ?_
  rintro e w2 ⟨L2, rfl, hb2, hL⟩
  have hB2 := box44_on hB1 hb2
  obtain ⟨hBw2, hs2⟩ := box44_below hB2
  clear x0 x1 x2 x3 y0 y1 y2 y3
  obtain ⟨⟨x0, x1, x2, x3⟩, y0, y1, y2, y3⟩ := box44 hB2
  clear hZ hb2 hB1 hBw1 hm2 hs1
  rcases hL with rfl | ⟨hL0', hL1', hg⟩
  · have HB : Hid (Below w.heap.size w w2) := hBw2
    clear hI hu hv hB2 hBw2
    go_wp2
    go_ret
    exact ⟨rfl, HB.out⟩
  have hLn2 : ¬ L2 < 0 := by omega
  have hTA : ∀ W, Below w.heap.size w W → Calls Try.prog 6 #[.agg #[.string D.name, .slice ac D.nc cc, .slice ap D.np cp, .slice ai D.ni ci]] W fun e w' => ∃ v', e = .returned v' ∧ DOwn w' W.heap.size v' D ∧ Below W.heap.size W w' := fun W hb => toDef_any _ D W (hu.below hb) hf
  have hTB : ∀ W, Below w.heap.size w W → Calls Try.prog 6 #[.agg #[.string E.name, .slice bc E.nc dc, .slice bp E.np dp, .slice bi E.ni di]] W fun e w' => ∃ v', e = .returned v' ∧ DOwn w' W.heap.size v' E ∧ Below W.heap.size W w' := fun W hb => toDef_any _ E W (hv.below hb) hg
  have hP : ∀ W u' v', DView W u' D → DView W v' E → Calls Try.prog 5 #[u', v'] W fun e w' => e = .returned (.bool (sameF D E)) ∧ Below W.heap.size W w' := fun W u' v' a b => specSame_any u' v' D E W a b hf
  have hEA : ∀ W u' v', DView W u' D → DView W v' D → Calls Try.prog 8 #[u', v'] W fun e w' => e = .returned (.bool true) ∧ Below W.heap.size W w' := fun W u' v' a b => eqDef_same u' v' D W a b hf
  have hEB : ∀ W u' v', DView W u' E → DView W v' E → Calls Try.prog 8 #[u', v'] W fun e w' => e = .returned (.bool true) ∧ Below W.heap.size W w' := fun W u' v' a b => eqDef_same u' v' E W a b hg
  have hI' := fun W u' v' hb a b => hI W u' v' hb a b hf hg
  obtain ⟨r, hr⟩ : ∃ r, Hid (sameF D E = r) := ⟨_, rfl⟩
  simp only [hr.out] at hP hI'
  have HB2 : Hid (Below (w.heap.size + 1 + 1) ((w.alloc (.cells #[.string D.name, .slice ac D.nc cc, .slice ap D.np cp, .slice ai D.ni ci] 26)).alloc (.cells #[.string E.name, .slice bc E.nc dc, .slice bp E.np dp, .slice bi E.ni di] 26)) w2) := hB2
  have HBw2 : Hid (Below w.heap.size w w2) := hBw2
  have hA2 : w.heap.size < w2.heap.size := by omega
  have hA3 : w.heap.size + 1 < w2.heap.size := by omega
  have HWK : Hid (∀ W, Below w2.heap.size w2 W → (W.cell? ⟨w.heap.size, 0, none⟩ = some (.string D.name) ∧ W.cell? ⟨w.heap.size, 1, none⟩ = some (.slice ac D.nc cc) ∧ W.cell? ⟨w.heap.size, 2, none⟩ = some (.slice ap D.np cp) ∧ W.cell? ⟨w.heap.size, 3, none⟩ = some (.slice ai D.ni ci)) ∧ (W.cell? ⟨w.heap.size + 1, 0, none⟩ = some (.string E.name) ∧ W.cell? ⟨w.heap.size + 1, 1, none⟩ = some (.slice bc E.nc dc) ∧ W.cell? ⟨w.heap.size + 1, 2, none⟩ = some (.slice bp E.np dp) ∧ W.cell? ⟨w.heap.size + 1, 3, none⟩ = some (.slice bi E.ni di))) := by
    intro W hb
    refine ⟨⟨?_, ?_, ?_, ?_⟩, ?_, ?_, ?_, ?_⟩ <;> (rw [hb.cell (by first | exact hA2 | exact hA3)]; assumption)
  clear hA2 hA3
  have HMW : Hid (∀ W, Below w2.heap.size w2 W → Below w.heap.size w W) := fun W hb => HBw2.out.trans (hb.mono HBw2.out.size)
  clear hI hu hv hB2 hBw2 hf hg hL0 hL1 hL0' hL1' hLn
  go_wp2_with fail
  go_region_held3 (fun WW => (WW.cell? ⟨w.heap.size, 0, none⟩ = some (.string D.name) ∧ WW.cell? ⟨w.heap.size, 1, none⟩ = some (.slice ac D.nc cc) ∧ WW.cell? ⟨w.heap.size, 2, none⟩ = some (.slice ap D.np cp) ∧ WW.cell? ⟨w.heap.size, 3, none⟩ = some (.slice ai D.ni ci)) ∧ (WW.cell? ⟨w.heap.size + 1, 0, none⟩ = some (.string E.name) ∧ WW.cell? ⟨w.heap.size + 1, 1, none⟩ = some (.slice bc E.nc dc) ∧ WW.cell? ⟨w.heap.size + 1, 2, none⟩ = some (.slice bp E.np dp) ∧ WW.cell? ⟨w.heap.size + 1, 3, none⟩ = some (.slice bi E.ni di))) (first | assumption | go_keep) (first
    | (go_at_call_of 6 (D.name); refine (hTA _ (HMW.out _ (by repeat (first | exact Below.refl _ _ | refine Below.drew ?_)))).mono ?_; rintro e wa ⟨va, rfl, hOa, hBa⟩; have hba : Below w2.heap.size w2 wa := Below.trans (by repeat (first | exact Below.refl _ _ | refine Below.drew ?_)) hBa; have hcells : (wa.cell? ⟨w.heap.size, 0, none⟩ = some (.string D.name) ∧ wa.cell? ⟨w.heap.size, 1, none⟩ = some (.slice ac D.nc cc) ∧ wa.cell? ⟨w.heap.size, 2, none⟩ = some (.slice ap D.np cp) ∧ wa.cell? ⟨w.heap.size, 3, none⟩ = some (.slice ai D.ni ci)) ∧ (wa.cell? ⟨w.heap.size + 1, 0, none⟩ = some (.string E.name) ∧ wa.cell? ⟨w.heap.size + 1, 1, none⟩ = some (.slice bc E.nc dc) ∧ wa.cell? ⟨w.heap.size + 1, 2, none⟩ = some (.slice bp E.np dp) ∧ wa.cell? ⟨w.heap.size + 1, 3, none⟩ = some (.slice bi E.ni di)) := HWK.out _ hba)
    | (go_at_call_of 6 (E.name); refine (hTB _ (HMW.out _ (by repeat (first | exact hba | refine Below.drew ?_)))).mono ?_; rintro e wb ⟨vb, rfl, hOb, hBb⟩; have hbab : Below wa.heap.size wa wb := Below.trans (by repeat (first | exact Below.refl _ _ | refine Below.drew ?_)) hBb; have hbb : Below w2.heap.size w2 wb := hba.trans (hbab.mono hba.size); have hcells2 : (wb.cell? ⟨w.heap.size, 0, none⟩ = some (.string D.name) ∧ wb.cell? ⟨w.heap.size, 1, none⟩ = some (.slice ac D.nc cc) ∧ wb.cell? ⟨w.heap.size, 2, none⟩ = some (.slice ap D.np cp) ∧ wb.cell? ⟨w.heap.size, 3, none⟩ = some (.slice ai D.ni ci)) ∧ (wb.cell? ⟨w.heap.size + 1, 0, none⟩ = some (.string E.name) ∧ wb.cell? ⟨w.heap.size + 1, 1, none⟩ = some (.slice bc E.nc dc) ∧ wb.cell? ⟨w.heap.size + 1, 2, none⟩ = some (.slice bp E.np dp) ∧ wb.cell? ⟨w.heap.size + 1, 3, none⟩ = some (.slice bi E.ni di)) := HWK.out _ hbb)
    | (go_at_call 5; refine (hP _ _ _ (by first | exact hOa.view.below hbab | exact (hOa.view.below hbab).below (Below.refl _ _).drew) (by first | exact hOb.view | exact hOb.view.below (Below.refl _ _).drew)).mono ?_; rintro e w3 ⟨rfl, hB3⟩; have hb3 : Below w2.heap.size w2 w3 := hbb.trans ((Below.trans (by repeat (first | exact Below.refl _ _ | refine Below.drew ?_)) hB3).mono hbb.size); have hcells3 : (w3.cell? ⟨w.heap.size, 0, none⟩ = some (.string D.name) ∧ w3.cell? ⟨w.heap.size, 1, none⟩ = some (.slice ac D.nc cc) ∧ w3.cell? ⟨w.heap.size, 2, none⟩ = some (.slice ap D.np cp) ∧ w3.cell? ⟨w.heap.size, 3, none⟩ = some (.slice ai D.ni ci)) ∧ (w3.cell? ⟨w.heap.size + 1, 0, none⟩ = some (.string E.name) ∧ w3.cell? ⟨w.heap.size + 1, 1, none⟩ = some (.slice bc E.nc dc) ∧ w3.cell? ⟨w.heap.size + 1, 2, none⟩ = some (.slice bp E.np dp) ∧ w3.cell? ⟨w.heap.size + 1, 3, none⟩ = some (.slice bi E.ni di)) := HWK.out _ hb3))
  all_goals
    obtain ⟨W3, hW3⟩ : ∃ W3, Hid (w3 = W3) := ⟨_, rfl⟩
    have hB3' := box44_on HB2.out hb3
    have hM3 := HMW.out _ hb3
    rw [hW3.out] at hB3' hM3 ⊢
    clear hcells hcells2 hcells3 hBa hBb hB3 hba hbb hbab hb3 hOa hOb HB2 HBw2 HWK HMW hP x0 x1 x2 x3 y0 y1 y2 y3
    obtain ⟨⟨x0, x1, x2, x3⟩, y0, y1, y2, y3⟩ := box44 hB3'
    have hT := hTA W3 hM3
    go_wp2_with fail
    refine hT.mono ?_
    rintro e w4 ⟨v4, rfl, hO4, hb4⟩
    have hB4 := box44_on hB3' hb4
    have hD4 := hO4.view
    obtain ⟨gc, kc, gp, kp, gi, ki, rfl, -, -, -, -, -⟩ := hO4.is
    have hbA : Below w4.heap.size w4 (w4.alloc (.cells #[.string D.name, .slice (some ⟨gc, 0, none⟩) D.nc kc, .slice (some ⟨gp, 0, none⟩) D.np kp, .slice (some ⟨gi, 0, none⟩) D.ni ki] 33)) := (Below.refl _ _).alloc (Nat.le_refl _) _
    have hB5 := box44_on hB4 hbA
    obtain ⟨hBw5, hs5⟩ := box44_below hB5
    have C5 := box4_start w4 (.cells #[.string D.name, .slice (some ⟨gc, 0, none⟩) D.nc kc, .slice (some ⟨gp, 0, none⟩) D.np kp, .slice (some ⟨gi, 0, none⟩) D.ni ki] 33)
    have hD5 := hD4.below hbA
    obtain ⟨W5, hW5⟩ : ∃ W5, Hid (w4.alloc (.cells #[.string D.name, .slice (some ⟨gc, 0, none⟩) D.nc kc, .slice (some ⟨gp, 0, none⟩) D.np kp, .slice (some ⟨gi, 0, none⟩) D.ni ki] 33) = W5) := ⟨_, rfl⟩
    clear x0 x1 x2 x3 y0 y1 y2 y3 hT hb4 hO4 hB3' hM3 hD4
    obtain ⟨X, hX⟩ : ∃ X, Hid (w4.heap.size = X) := ⟨_, rfl⟩
    have hx5 := box4 C5
    have hlt5 := (box4_below C5).2
    rw [hW5.out] at hB5 hBw5 hs5 hD5 hx5 hlt5
    obtain ⟨⟨x0, x1, x2, x3⟩, y0, y1, y2, y3⟩ := box44 hB5
    have hT := hTB W5 hBw5
    clear C5 hbA hB4
    go_wp2_with (rw [hW5.out])
    rw [hX.out] at hx5 hlt5 ⊢
    refine hT.mono ?_
    rintro e w6 ⟨v6, rfl, hO6, hb6⟩
    have hB6 := box44_on hB5 hb6
    have hD6 := hO6.view
    have hD6x := hD5.below hb6
    obtain ⟨hc, lc, hp, lp, hi, li, rfl, -, -, -, -, -⟩ := hO6.is
    have hx6 : (w6.cell? ⟨X, 0, none⟩ = some (.string D.name) ∧ w6.cell? ⟨X, 1, none⟩ = some (.slice (some ⟨gc, 0, none⟩) D.nc kc) ∧ w6.cell? ⟨X, 2, none⟩ = some (.slice (some ⟨gp, 0, none⟩) D.np kp) ∧ w6.cell? ⟨X, 3, none⟩ = some (.slice (some ⟨gi, 0, none⟩) D.ni ki)) := by
      have hlt : X < W5.heap.size := hlt5
      exact ⟨(hb6.cell (p := ⟨X, 0, none⟩) hlt).trans hx5.1, (hb6.cell (p := ⟨X, 1, none⟩) hlt).trans hx5.2.1, (hb6.cell (p := ⟨X, 2, none⟩) hlt).trans hx5.2.2.1, (hb6.cell (p := ⟨X, 3, none⟩) hlt).trans hx5.2.2.2⟩
    have hlt6 := Nat.le_trans hlt5 hb6.size
    have hbA : Below w6.heap.size w6 (w6.alloc (.cells #[.string E.name, .slice (some ⟨hc, 0, none⟩) E.nc lc, .slice (some ⟨hp, 0, none⟩) E.np lp, .slice (some ⟨hi, 0, none⟩) E.ni li] 33)) := (Below.refl _ _).alloc (Nat.le_refl _) _
    have hB7 := box44_on hB6 hbA
    obtain ⟨hBw7, hs7⟩ := box44_below hB7
    have C7 := box4_start w6 (.cells #[.string E.name, .slice (some ⟨hc, 0, none⟩) E.nc lc, .slice (some ⟨hp, 0, none⟩) E.np lp, .slice (some ⟨hi, 0, none⟩) E.ni li] 33)
    have hD7 := hD6.below hbA
    have hD7x := hD6x.below hbA
    have hx7 : ((w6.alloc (.cells #[.string E.name, .slice (some ⟨hc, 0, none⟩) E.nc lc, .slice (some ⟨hp, 0, none⟩) E.np lp, .slice (some ⟨hi, 0, none⟩) E.ni li] 33)).cell? ⟨X, 0, none⟩ = some (.string D.name) ∧ (w6.alloc (.cells #[.string E.name, .slice (some ⟨hc, 0, none⟩) E.nc lc, .slice (some ⟨hp, 0, none⟩) E.np lp, .slice (some ⟨hi, 0, none⟩) E.ni li] 33)).cell? ⟨X, 1, none⟩ = some (.slice (some ⟨gc, 0, none⟩) D.nc kc) ∧ (w6.alloc (.cells #[.string E.name, .slice (some ⟨hc, 0, none⟩) E.nc lc, .slice (some ⟨hp, 0, none⟩) E.np lp, .slice (some ⟨hi, 0, none⟩) E.ni li] 33)).cell? ⟨X, 2, none⟩ = some (.slice (some ⟨gp, 0, none⟩) D.np kp) ∧ (w6.alloc (.cells #[.string E.name, .slice (some ⟨hc, 0, none⟩) E.nc lc, .slice (some ⟨hp, 0, none⟩) E.np lp, .slice (some ⟨hi, 0, none⟩) E.ni li] 33)).cell? ⟨X, 3, none⟩ = some (.slice (some ⟨gi, 0, none⟩) D.ni ki)) := by
      have hlt : X < w6.heap.size := hlt6
      exact ⟨(hbA.cell (p := ⟨X, 0, none⟩) hlt).trans hx6.1, (hbA.cell (p := ⟨X, 1, none⟩) hlt).trans hx6.2.1, (hbA.cell (p := ⟨X, 2, none⟩) hlt).trans hx6.2.2.1, (hbA.cell (p := ⟨X, 3, none⟩) hlt).trans hx6.2.2.2⟩
    obtain ⟨W7, hW7⟩ : ∃ W7, Hid (w6.alloc (.cells #[.string E.name, .slice (some ⟨hc, 0, none⟩) E.nc lc, .slice (some ⟨hp, 0, none⟩) E.np lp, .slice (some ⟨hi, 0, none⟩) E.ni li] 33) = W7) := ⟨_, rfl⟩
    obtain ⟨Y, hY⟩ : ∃ Y, Hid (w6.heap.size = Y) := ⟨_, rfl⟩
    have hy7 := box4 C7
    have hlt7 := (box4_below C7).2
    clear x0 x1 x2 x3 y0 y1 y2 y3 hT hb6 hO6 hB5 hBw5 hs5 hD5 hD6 hD6x hx5 hx6 hlt5 C7 hB6
    rw [hW7.out] at hB7 hBw7 hs7 hD7 hD7x hx7 hy7 hlt7
    obtain ⟨m0, m1, m2, m3⟩ := hx7
    have hG := hI' W7 _ _ hBw7 hD7x hD7
    clear hbA
    obtain ⟨n0, n1, n2, n3⟩ := hy7
    go_wp2_with (rw [hW7.out])
    rw [hY.out] at n0 n1 n2 n3 hlt7 hlt6 ⊢
    refine hG.mono ?_
    rintro e w8 ⟨rfl, hb8⟩
    have hB8 := box44_on hB7 hb8
    obtain ⟨hBw8, hs8⟩ := box44_below hB8
    obtain ⟨⟨x0, x1, x2, x3⟩, y0, y1, y2, y3⟩ := box44 hB8
    have hDx := hD7x.below hb8
    have hDy := hD7.below hb8
    have hl8 := hb8.size
    have hX7 : X < W7.heap.size := by omega
    have hY7 : Y < W7.heap.size := by omega
    have q0 := (hb8.cell (p := ⟨X, 0, none⟩) hX7).trans m0
    have q1 := (hb8.cell (p := ⟨X, 1, none⟩) hX7).trans m1
    have q2 := (hb8.cell (p := ⟨X, 2, none⟩) hX7).trans m2
    have q3 := (hb8.cell (p := ⟨X, 3, none⟩) hX7).trans m3
    have s0 := (hb8.cell (p := ⟨Y, 0, none⟩) hY7).trans n0
    have s1 := (hb8.cell (p := ⟨Y, 1, none⟩) hY7).trans n1
    have s2 := (hb8.cell (p := ⟨Y, 2, none⟩) hY7).trans n2
    have s3 := (hb8.cell (p := ⟨Y, 3, none⟩) hY7).trans n3
    have hX8 : X < w8.heap.size := by omega
    have hY8 : Y < w8.heap.size := by omega
    have hA8 : w.heap.size < w8.heap.size := by omega
    have hA9 : w.heap.size + 1 < w8.heap.size := by omega
    have HWK : Hid (∀ W, Below w8.heap.size w8 W → ((W.cell? ⟨w.heap.size, 0, none⟩ = some (.string D.name) ∧ W.cell? ⟨w.heap.size, 1, none⟩ = some (.slice ac D.nc cc) ∧ W.cell? ⟨w.heap.size, 2, none⟩ = some (.slice ap D.np cp) ∧ W.cell? ⟨w.heap.size, 3, none⟩ = some (.slice ai D.ni ci)) ∧ (W.cell? ⟨w.heap.size + 1, 0, none⟩ = some (.string E.name) ∧ W.cell? ⟨w.heap.size + 1, 1, none⟩ = some (.slice bc E.nc dc) ∧ W.cell? ⟨w.heap.size + 1, 2, none⟩ = some (.slice bp E.np dp) ∧ W.cell? ⟨w.heap.size + 1, 3, none⟩ = some (.slice bi E.ni di))) ∧ (W.cell? ⟨X, 0, none⟩ = some (.string D.name) ∧ W.cell? ⟨X, 1, none⟩ = some (.slice (some ⟨gc, 0, none⟩) D.nc kc) ∧ W.cell? ⟨X, 2, none⟩ = some (.slice (some ⟨gp, 0, none⟩) D.np kp) ∧ W.cell? ⟨X, 3, none⟩ = some (.slice (some ⟨gi, 0, none⟩) D.ni ki)) ∧ (W.cell? ⟨Y, 0, none⟩ = some (.string E.name) ∧ W.cell? ⟨Y, 1, none⟩ = some (.slice (some ⟨hc, 0, none⟩) E.nc lc) ∧ W.cell? ⟨Y, 2, none⟩ = some (.slice (some ⟨hp, 0, none⟩) E.np lp) ∧ W.cell? ⟨Y, 3, none⟩ = some (.slice (some ⟨hi, 0, none⟩) E.ni li))) := by
      intro W hb
      refine ⟨⟨⟨?_, ?_, ?_, ?_⟩, ?_, ?_, ?_, ?_⟩, ⟨?_, ?_, ?_, ?_⟩, ?_, ?_, ?_, ?_⟩ <;> (rw [hb.cell (by first | exact hA8 | exact hA9 | exact hX8 | exact hY8)]; assumption)
    clear hA8 hA9 hX7 hY7
    have HMW : Hid (∀ W, Below w8.heap.size w8 W → Below w.heap.size w W) := fun W hb => hBw8.trans (hb.mono hBw8.size)
    have hEX : ∀ W v', Below w8.heap.size w8 W → DView W v' D → Calls Try.prog 8 #[.agg #[.string D.name, .slice (some ⟨gc, 0, none⟩) D.nc kc, .slice (some ⟨gp, 0, none⟩) D.np kp, .slice (some ⟨gi, 0, none⟩) D.ni ki], v'] W fun e w' => e = .returned (.bool true) ∧ Below W.heap.size W w' := fun W v' hb a => hEA W _ v' (hDx.below hb) a
    have hEY : ∀ W v', Below w8.heap.size w8 W → DView W v' E → Calls Try.prog 8 #[.agg #[.string E.name, .slice (some ⟨hc, 0, none⟩) E.nc lc, .slice (some ⟨hp, 0, none⟩) E.np lp, .slice (some ⟨hi, 0, none⟩) E.ni li], v'] W fun e w' => e = .returned (.bool true) ∧ Below W.heap.size W w' := fun W v' hb a => hEB W _ v' (hDy.below hb) a
    have hqr : (r != r) = false := bne_self_eq_false _
    clear hI' hG hb8 hB7 hBw7 hs7 hD7 hD7x hlt6 hlt7 m0 m1 m2 m3 n0 n1 n2 n3 hEA hEB hDx hDy hB8 hl8
    go_wp2_with fail
    go_region_held3 (fun WW => ((WW.cell? ⟨w.heap.size, 0, none⟩ = some (.string D.name) ∧ WW.cell? ⟨w.heap.size, 1, none⟩ = some (.slice ac D.nc cc) ∧ WW.cell? ⟨w.heap.size, 2, none⟩ = some (.slice ap D.np cp) ∧ WW.cell? ⟨w.heap.size, 3, none⟩ = some (.slice ai D.ni ci)) ∧ (WW.cell? ⟨w.heap.size + 1, 0, none⟩ = some (.string E.name) ∧ WW.cell? ⟨w.heap.size + 1, 1, none⟩ = some (.slice bc E.nc dc) ∧ WW.cell? ⟨w.heap.size + 1, 2, none⟩ = some (.slice bp E.np dp) ∧ WW.cell? ⟨w.heap.size + 1, 3, none⟩ = some (.slice bi E.ni di))) ∧ (WW.cell? ⟨X, 0, none⟩ = some (.string D.name) ∧ WW.cell? ⟨X, 1, none⟩ = some (.slice (some ⟨gc, 0, none⟩) D.nc kc) ∧ WW.cell? ⟨X, 2, none⟩ = some (.slice (some ⟨gp, 0, none⟩) D.np kp) ∧ WW.cell? ⟨X, 3, none⟩ = some (.slice (some ⟨gi, 0, none⟩) D.ni ki)) ∧ (WW.cell? ⟨Y, 0, none⟩ = some (.string E.name) ∧ WW.cell? ⟨Y, 1, none⟩ = some (.slice (some ⟨hc, 0, none⟩) E.nc lc) ∧ WW.cell? ⟨Y, 2, none⟩ = some (.slice (some ⟨hp, 0, none⟩) E.np lp) ∧ WW.cell? ⟨Y, 3, none⟩ = some (.slice (some ⟨hi, 0, none⟩) E.ni li))) (first | assumption | go_keep) (first
      | (go_at_call 6; refine (hTA _ (HMW.out _ (by repeat (first | exact Below.refl _ _ | refine Below.drew ?_)))).mono ?_; rintro e wc ⟨vc, rfl, hOc, hBc⟩; have hbc : Below w8.heap.size w8 wc := Below.trans (by repeat (first | exact Below.refl _ _ | refine Below.drew ?_)) hBc; have hcells : ((wc.cell? ⟨w.heap.size, 0, none⟩ = some (.string D.name) ∧ wc.cell? ⟨w.heap.size, 1, none⟩ = some (.slice ac D.nc cc) ∧ wc.cell? ⟨w.heap.size, 2, none⟩ = some (.slice ap D.np cp) ∧ wc.cell? ⟨w.heap.size, 3, none⟩ = some (.slice ai D.ni ci)) ∧ (wc.cell? ⟨w.heap.size + 1, 0, none⟩ = some (.string E.name) ∧ wc.cell? ⟨w.heap.size + 1, 1, none⟩ = some (.slice bc E.nc dc) ∧ wc.cell? ⟨w.heap.size + 1, 2, none⟩ = some (.slice bp E.np dp) ∧ wc.cell? ⟨w.heap.size + 1, 3, none⟩ = some (.slice bi E.ni di))) ∧ (wc.cell? ⟨X, 0, none⟩ = some (.string D.name) ∧ wc.cell? ⟨X, 1, none⟩ = some (.slice (some ⟨gc, 0, none⟩) D.nc kc) ∧ wc.cell? ⟨X, 2, none⟩ = some (.slice (some ⟨gp, 0, none⟩) D.np kp) ∧ wc.cell? ⟨X, 3, none⟩ = some (.slice (some ⟨gi, 0, none⟩) D.ni ki)) ∧ (wc.cell? ⟨Y, 0, none⟩ = some (.string E.name) ∧ wc.cell? ⟨Y, 1, none⟩ = some (.slice (some ⟨hc, 0, none⟩) E.nc lc) ∧ wc.cell? ⟨Y, 2, none⟩ = some (.slice (some ⟨hp, 0, none⟩) E.np lp) ∧ wc.cell? ⟨Y, 3, none⟩ = some (.slice (some ⟨hi, 0, none⟩) E.ni li)) := HWK.out _ hbc)
      | (go_at_call 8; refine (hEX _ _ (by repeat (first | exact hbc | refine Below.drew ?_)) (by first | exact hOc.view | exact hOc.view.below (Below.refl _ _).drew)).mono ?_; rintro e wd ⟨rfl, hBd⟩; have hbd : Below w8.heap.size w8 wd := hbc.trans ((Below.trans (by repeat (first | exact Below.refl _ _ | refine Below.drew ?_)) hBd).mono hbc.size); have hcellsd : ((wd.cell? ⟨w.heap.size, 0, none⟩ = some (.string D.name) ∧ wd.cell? ⟨w.heap.size, 1, none⟩ = some (.slice ac D.nc cc) ∧ wd.cell? ⟨w.heap.size, 2, none⟩ = some (.slice ap D.np cp) ∧ wd.cell? ⟨w.heap.size, 3, none⟩ = some (.slice ai D.ni ci)) ∧ (wd.cell? ⟨w.heap.size + 1, 0, none⟩ = some (.string E.name) ∧ wd.cell? ⟨w.heap.size + 1, 1, none⟩ = some (.slice bc E.nc dc) ∧ wd.cell? ⟨w.heap.size + 1, 2, none⟩ = some (.slice bp E.np dp) ∧ wd.cell? ⟨w.heap.size + 1, 3, none⟩ = some (.slice bi E.ni di))) ∧ (wd.cell? ⟨X, 0, none⟩ = some (.string D.name) ∧ wd.cell? ⟨X, 1, none⟩ = some (.slice (some ⟨gc, 0, none⟩) D.nc kc) ∧ wd.cell? ⟨X, 2, none⟩ = some (.slice (some ⟨gp, 0, none⟩) D.np kp) ∧ wd.cell? ⟨X, 3, none⟩ = some (.slice (some ⟨gi, 0, none⟩) D.ni ki)) ∧ (wd.cell? ⟨Y, 0, none⟩ = some (.string E.name) ∧ wd.cell? ⟨Y, 1, none⟩ = some (.slice (some ⟨hc, 0, none⟩) E.nc lc) ∧ wd.cell? ⟨Y, 2, none⟩ = some (.slice (some ⟨hp, 0, none⟩) E.np lp) ∧ wd.cell? ⟨Y, 3, none⟩ = some (.slice (some ⟨hi, 0, none⟩) E.ni li)) := HWK.out _ hbd))
    all_goals
      obtain ⟨⟨⟨x0, x1, x2, x3⟩, y0, y1, y2, y3⟩, ⟨q0, q1, q2, q3⟩, s0, s1, s2, s3⟩ := hcellsd
      clear hcells hBc hBd hbc hOc
      go_wp2_with fail
      go_region_held3 (fun WW => ((WW.cell? ⟨w.heap.size, 0, none⟩ = some (.string D.name) ∧ WW.cell? ⟨w.heap.size, 1, none⟩ = some (.slice ac D.nc cc) ∧ WW.cell? ⟨w.heap.size, 2, none⟩ = some (.slice ap D.np cp) ∧ WW.cell? ⟨w.heap.size, 3, none⟩ = some (.slice ai D.ni ci)) ∧ (WW.cell? ⟨w.heap.size + 1, 0, none⟩ = some (.string E.name) ∧ WW.cell? ⟨w.heap.size + 1, 1, none⟩ = some (.slice bc E.nc dc) ∧ WW.cell? ⟨w.heap.size + 1, 2, none⟩ = some (.slice bp E.np dp) ∧ WW.cell? ⟨w.heap.size + 1, 3, none⟩ = some (.slice bi E.ni di))) ∧ (WW.cell? ⟨X, 0, none⟩ = some (.string D.name) ∧ WW.cell? ⟨X, 1, none⟩ = some (.slice (some ⟨gc, 0, none⟩) D.nc kc) ∧ WW.cell? ⟨X, 2, none⟩ = some (.slice (some ⟨gp, 0, none⟩) D.np kp) ∧ WW.cell? ⟨X, 3, none⟩ = some (.slice (some ⟨gi, 0, none⟩) D.ni ki)) ∧ (WW.cell? ⟨Y, 0, none⟩ = some (.string E.name) ∧ WW.cell? ⟨Y, 1, none⟩ = some (.slice (some ⟨hc, 0, none⟩) E.nc lc) ∧ WW.cell? ⟨Y, 2, none⟩ = some (.slice (some ⟨hp, 0, none⟩) E.np lp) ∧ WW.cell? ⟨Y, 3, none⟩ = some (.slice (some ⟨hi, 0, none⟩) E.ni li))) (first | assumption | go_keep) (first
        | (go_at_call 6; refine (hTB _ (HMW.out _ (by repeat (first | exact hbd | refine Below.drew ?_)))).mono ?_; rintro e wf ⟨vf, rfl, hOf, hBf⟩; have hbf : Below w8.heap.size w8 wf := hbd.trans ((Below.trans (by repeat (first | exact Below.refl _ _ | refine Below.drew ?_)) hBf).mono hbd.size); have hcells : ((wf.cell? ⟨w.heap.size, 0, none⟩ = some (.string D.name) ∧ wf.cell? ⟨w.heap.size, 1, none⟩ = some (.slice ac D.nc cc) ∧ wf.cell? ⟨w.heap.size, 2, none⟩ = some (.slice ap D.np cp) ∧ wf.cell? ⟨w.heap.size, 3, none⟩ = some (.slice ai D.ni ci)) ∧ (wf.cell? ⟨w.heap.size + 1, 0, none⟩ = some (.string E.name) ∧ wf.cell? ⟨w.heap.size + 1, 1, none⟩ = some (.slice bc E.nc dc) ∧ wf.cell? ⟨w.heap.size + 1, 2, none⟩ = some (.slice bp E.np dp) ∧ wf.cell? ⟨w.heap.size + 1, 3, none⟩ = some (.slice bi E.ni di))) ∧ (wf.cell? ⟨X, 0, none⟩ = some (.string D.name) ∧ wf.cell? ⟨X, 1, none⟩ = some (.slice (some ⟨gc, 0, none⟩) D.nc kc) ∧ wf.cell? ⟨X, 2, none⟩ = some (.slice (some ⟨gp, 0, none⟩) D.np kp) ∧ wf.cell? ⟨X, 3, none⟩ = some (.slice (some ⟨gi, 0, none⟩) D.ni ki)) ∧ (wf.cell? ⟨Y, 0, none⟩ = some (.string E.name) ∧ wf.cell? ⟨Y, 1, none⟩ = some (.slice (some ⟨hc, 0, none⟩) E.nc lc) ∧ wf.cell? ⟨Y, 2, none⟩ = some (.slice (some ⟨hp, 0, none⟩) E.np lp) ∧ wf.cell? ⟨Y, 3, none⟩ = some (.slice (some ⟨hi, 0, none⟩) E.ni li)) := HWK.out _ hbf)
        | (go_at_call 8; refine (hEY _ _ (by repeat (first | exact hbf | refine Below.drew ?_)) (by first | exact hOf.view | exact hOf.view.below (Below.refl _ _).drew)).mono ?_; rintro e wg ⟨rfl, hBg⟩; have hbg : Below w8.heap.size w8 wg := hbf.trans ((Below.trans (by repeat (first | exact Below.refl _ _ | refine Below.drew ?_)) hBg).mono hbf.size); have hcellsg : ((wg.cell? ⟨w.heap.size, 0, none⟩ = some (.string D.name) ∧ wg.cell? ⟨w.heap.size, 1, none⟩ = some (.slice ac D.nc cc) ∧ wg.cell? ⟨w.heap.size, 2, none⟩ = some (.slice ap D.np cp) ∧ wg.cell? ⟨w.heap.size, 3, none⟩ = some (.slice ai D.ni ci)) ∧ (wg.cell? ⟨w.heap.size + 1, 0, none⟩ = some (.string E.name) ∧ wg.cell? ⟨w.heap.size + 1, 1, none⟩ = some (.slice bc E.nc dc) ∧ wg.cell? ⟨w.heap.size + 1, 2, none⟩ = some (.slice bp E.np dp) ∧ wg.cell? ⟨w.heap.size + 1, 3, none⟩ = some (.slice bi E.ni di))) ∧ (wg.cell? ⟨X, 0, none⟩ = some (.string D.name) ∧ wg.cell? ⟨X, 1, none⟩ = some (.slice (some ⟨gc, 0, none⟩) D.nc kc) ∧ wg.cell? ⟨X, 2, none⟩ = some (.slice (some ⟨gp, 0, none⟩) D.np kp) ∧ wg.cell? ⟨X, 3, none⟩ = some (.slice (some ⟨gi, 0, none⟩) D.ni ki)) ∧ (wg.cell? ⟨Y, 0, none⟩ = some (.string E.name) ∧ wg.cell? ⟨Y, 1, none⟩ = some (.slice (some ⟨hc, 0, none⟩) E.nc lc) ∧ wg.cell? ⟨Y, 2, none⟩ = some (.slice (some ⟨hp, 0, none⟩) E.np lp) ∧ wg.cell? ⟨Y, 3, none⟩ = some (.slice (some ⟨hi, 0, none⟩) E.ni li)) := HWK.out _ hbg))
      all_goals
        have HB : Hid (Below w.heap.size w wg) := HMW.out _ hbg
        clear hcells hcellsg hBf hBg hbf hbg hbd hOf HWK HMW hTA hTB hEX hEY
        go_wp2
        go_ret
        exact ⟨rfl, by first | exact HB.out | exact HB.out.drew⟩
end Go.Proofs.Ytfjlmkphnciglat

