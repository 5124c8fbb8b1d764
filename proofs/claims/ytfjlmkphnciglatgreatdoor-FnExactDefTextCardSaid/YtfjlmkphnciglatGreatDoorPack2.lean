/-
  Together: CopyDef, Box44, BytesEq, EqDef, DefText, TextSize, TextSpec9, TokName, WordSpec, NamesSpec, TypesSpec, OnceSpec
-/
import Derived.Test.YtfjlmkphnciglatGreatDoorPack1
import Derived.Deep.LoopGhost
import Derived.Deep.RegionHeld3
import Derived.Deep.QuietTactic
import Derived.BigQuiet
import Derived.Test.YtfjlmkphnciglatGreatDoorProg
import Derived.WalkMore
import Derived.Deep.Strs
/-
  A table copied, as the law does it.
-/
namespace Go.Proofs.YtfjlmkphnciglatGreatDoor
open Go.RowKit
set_option maxRecDepth 4000

theorem CView.set {w : World} {a n c B : Nat} {f : Nat → PCol} (h : CView w (some ⟨a, 0, none⟩) n c f) (hne : a ≠ B) (i : Nat) (u : Value) : CView (w.setCell ⟨B, i, none⟩ u) (some ⟨a, 0, none⟩) n c f := by
  refine ⟨h.le, fun hn => ?_⟩
  obtain ⟨b, off, e, hlt, hc⟩ := h.cells hn
  have hba : b = a := by cases e; rfl
  have hk : (w.setCell ⟨B, i, none⟩ u).heap[b]? = w.heap[b]? := Below.heap_setCell _ _ _ _ (by rw [hba]; exact hne)
  refine ⟨b, off, e, by simpa using hlt, fun j hj => ?_⟩
  rw [World.cell?_of_block (w := w) (a := ⟨b, off + j * 3, none⟩) hk, World.cell?_of_block (w := w) (a := ⟨b, off + j * 3 + 1, none⟩) hk, World.cell?_of_block (w := w) (a := ⟨b, off + j * 3 + 2, none⟩) hk]
  exact hc j hj

/-- A table's value whose blocks lie from B on. -/
structure DOwn (w : World) (B : Nat) (v : Value) (D : PDef) : Prop where
  is : ∃ gc cc gp cp gi ci, v = .agg #[.string D.name, .slice (some ⟨gc, 0, none⟩) D.nc cc, .slice (some ⟨gp, 0, none⟩) D.np cp, .slice (some ⟨gi, 0, none⟩) D.ni ci] ∧ B ≤ gc ∧ B ≤ gp ∧ CView w (some ⟨gc, 0, none⟩) D.nc cc D.col ∧ BView w (some ⟨gp, 0, none⟩) D.np cp D.pri ∧ IOwn w B (some ⟨gi, 0, none⟩) D.ni ci D.idx
theorem DOwn.view {w : World} {B : Nat} {v : Value} {D : PDef} (h : DOwn w B v D) : DView w v D := by
  obtain ⟨gc, cc, gp, cp, gi, ci, e, -, -, h1, h2, h3⟩ := h.is
  exact ⟨_, cc, _, cp, _, ci, e, h1, h2, h3.view⟩
theorem DOwn.below {w w' : World} {B : Nat} {v : Value} {D : PDef} (h : DOwn w B v D) (hb : Below w.heap.size w w') : DOwn w' B v D := by
  obtain ⟨gc, cc, gp, cp, gi, ci, e, e1, e2, h1, h2, h3⟩ := h.is
  exact ⟨gc, cc, gp, cp, gi, ci, e, e1, e2, h1.below hb, h2.below hb, h3.below hb⟩
theorem DOwn.set {w : World} {B C : Nat} {v : Value} {D : PDef} (h : DOwn w B v D) (hC : C < B) (j : Nat) (u : Value) : DOwn (w.setCell ⟨C, j, none⟩ u) B v D := by
  obtain ⟨gc, cc, gp, cp, gi, ci, e, e1, e2, h1, h2, h3⟩ := h.is
  exact ⟨gc, cc, gp, cp, gi, ci, e, e1, e2, h1.set (by omega) _ _, h2.set (by omega) _ _, h3.set hC _ _⟩
theorem DOwn.mono {w : World} {B B' : Nat} {v : Value} {D : PDef} (h : DOwn w B v D) (hB : B' ≤ B) : DOwn w B' v D := by
  obtain ⟨gc, cc, gp, cp, gi, ci, e, e1, e2, h1, h2, h3⟩ := h.is
  exact ⟨gc, cc, gp, cp, gi, ci, e, by omega, by omega, h1, h2, h3.mono hB⟩

set_option maxHeartbeats 2000000 in
theorem toDef_any (v : Value) (D : PDef) (w : World) (h : DView w v D) (hf : DFine D) :
    Calls Tryz.prog 7 #[v] w fun e w' => ∃ v', e = .returned v' ∧ DOwn w' w.heap.size v' D ∧ Below w.heap.size w w' := by
  obtain ⟨ac, cc, ap, cp, ai, ci, rfl, hc, hp, hi⟩ := h.is
  clear h
  have hb0 : Below w.heap.size w (((w.alloc (.cells #[.string D.name, .slice ac D.nc cc, .slice ap D.np cp, .slice ai D.ni ci] 26)).alloc (.cells #[.string ⟨#[]⟩, .slice none 0 0, .slice none 0 0, .slice none 0 0] 33)).alloc (.cells #[.string D.name, .slice none 0 0, .slice none 0 0, .slice none 0 0] 33)) := (((Below.refl _ _).alloc (Nat.le_refl _) _).alloc (by simp) _).alloc (by simp; omega) _
  have hS := toColS_any ac D.nc cc D.col _ (hc.below hb0) hf.nc
  have V2 := V4.new ((w.alloc (.cells #[.string D.name, .slice ac D.nc cc, .slice ap D.np cp, .slice ai D.ni ci] 26)).alloc (.cells #[.string ⟨#[]⟩, .slice none 0 0, .slice none 0 0, .slice none 0 0] 33)) 33 (.string D.name) (.slice none 0 0) (.slice none 0 0) (.slice none 0 0)
  have V1 := (V4.new (w.alloc (.cells #[.string D.name, .slice ac D.nc cc, .slice ap D.np cp, .slice ai D.ni ci] 26)) 33 (.string ⟨#[]⟩) (.slice none 0 0) (.slice none 0 0) (.slice none 0 0)).below ((Below.refl _ _).alloc (Nat.le_refl _) (.cells #[.string D.name, .slice none 0 0, .slice none 0 0, .slice none 0 0] 33))
  have V0 := ((V4.new w 26 (.string D.name) (.slice ac D.nc cc) (.slice ap D.np cp) (.slice ai D.ni ci)).below ((Below.refl _ _).alloc (Nat.le_refl _) (.cells #[.string ⟨#[]⟩, .slice none 0 0, .slice none 0 0, .slice none 0 0] 33))).below ((Below.refl _ _).alloc (Nat.le_refl _) (.cells #[.string D.name, .slice none 0 0, .slice none 0 0, .slice none 0 0] 33))
  simp only [alloc_size9] at V0 V1 V2 hS
  go_enter Tryz.func7, Tryz.ntmps7
  go_wp2_with fail
  refine hS.mono ?_
  rintro e w2 ⟨rfl, hv2, hb2, hlt2⟩
  have hbw2 : Below w.heap.size w w2 := hb0.trans (hb2.mono (by omega))
  have V2' := V2.below (by simpa using hb2)
  have V1' := V1.below (by simpa using hb2)
  have V0' := V0.below (by simpa using hb2)
  clear V0 V1 V2 hS hb2 hb0
  obtain ⟨-, a1, -, -⟩ := V2'.cells
  obtain ⟨-, q1, -, -⟩ := V2'.fz
  obtain ⟨W3, hW3⟩ : ∃ W3, Hid (w2.setCell ⟨w.heap.size + 1 + 1, 1, none⟩ (.slice (some ⟨w.heap.size + 1 + 1 + 1, 0, none⟩) D.nc D.nc) = W3) := ⟨_, rfl⟩
  have U2 := V2'.set1 (.slice (some ⟨w.heap.size + 1 + 1 + 1, 0, none⟩) D.nc D.nc)
  have U1 := V1'.other (C := w.heap.size + 1 + 1) (i := 1) (u := .slice (some ⟨w.heap.size + 1 + 1 + 1, 0, none⟩) D.nc D.nc) (by omega)
  have U0 := V0'.other (C := w.heap.size + 1 + 1) (i := 1) (u := .slice (some ⟨w.heap.size + 1 + 1 + 1, 0, none⟩) D.nc D.nc) (by omega)
  have hv3 := hv2.set (B := w.heap.size + 1 + 1) (by omega) 1 (.slice (some ⟨w.heap.size + 1 + 1 + 1, 0, none⟩) D.nc D.nc)
  have hbw3 : Below w.heap.size w (w2.setCell ⟨w.heap.size + 1 + 1, 1, none⟩ (.slice (some ⟨w.heap.size + 1 + 1 + 1, 0, none⟩) D.nc D.nc)) := hbw2.setCell (p := ⟨w.heap.size + 1 + 1, 1, none⟩) (by simp; omega) _
  have hs3 : w.heap.size + 1 + 1 + 1 < (w2.setCell ⟨w.heap.size + 1 + 1, 1, none⟩ (.slice (some ⟨w.heap.size + 1 + 1 + 1, 0, none⟩) D.nc D.nc)).heap.size := by simpa using hlt2
  rw [hW3.out] at U0 U1 U2 hv3 hbw3 hs3
  obtain ⟨u0, u1, u2, u3⟩ := U0.cells
  have hS := toByS_any ap D.np cp D.pri W3 (hp.below hbw3) hf.np
  clear V0' V1' V2' hv2 hbw2 hlt2
  go_wp2_with (rw [hW3.out])
  refine hS.mono ?_
  rintro e w4 ⟨rfl, hv4, hb4, hlt4⟩
  obtain ⟨g4, hg4⟩ : ∃ g, Hid (W3.heap.size = g) := ⟨_, rfl⟩
  rw [hg4.out] at hv4 hlt4 hs3 ⊢
  have hbw4 : Below w.heap.size w w4 := hbw3.trans (hb4.mono hbw3.size)
  have T2 := U2.below hb4
  have T1 := U1.below hb4
  have T0 := U0.below hb4
  have hv3' := hv3.below hb4
  clear U0 U1 U2 hS hb4 hbw3 hv3 u0 u1 u2 u3 hc hp a1 q1
  obtain ⟨-, -, a1, -⟩ := T2.cells
  obtain ⟨-, -, q1, -⟩ := T2.fz
  obtain ⟨W5, hW5⟩ : ∃ W5, Hid (w4.setCell ⟨w.heap.size + 1 + 1, 2, none⟩ (.slice (some ⟨g4, 0, none⟩) D.np D.np) = W5) := ⟨_, rfl⟩
  have S2 := T2.set2 (.slice (some ⟨g4, 0, none⟩) D.np D.np)
  have S1 := T1.other (C := w.heap.size + 1 + 1) (i := 2) (u := .slice (some ⟨g4, 0, none⟩) D.np D.np) (by omega)
  have S0 := T0.other (C := w.heap.size + 1 + 1) (i := 2) (u := .slice (some ⟨g4, 0, none⟩) D.np D.np) (by omega)
  have hv5 := hv4.set (B := w.heap.size + 1 + 1) (by omega) 2 (.slice (some ⟨g4, 0, none⟩) D.np D.np)
  have hv3'' := hv3'.set (B := w.heap.size + 1 + 1) (by omega) 2 (.slice (some ⟨g4, 0, none⟩) D.np D.np)
  have hbw5 : Below w.heap.size w (w4.setCell ⟨w.heap.size + 1 + 1, 2, none⟩ (.slice (some ⟨g4, 0, none⟩) D.np D.np)) := hbw4.setCell (p := ⟨w.heap.size + 1 + 1, 2, none⟩) (by simp; omega) _
  have hs5 : g4 < (w4.setCell ⟨w.heap.size + 1 + 1, 2, none⟩ (.slice (some ⟨g4, 0, none⟩) D.np D.np)).heap.size := by simpa using hlt4
  rw [hW5.out] at S0 S1 S2 hv5 hv3'' hbw5 hs5
  obtain ⟨u0, u1, u2, u3⟩ := S0.cells
  have hS := toIndexS_any ai D.ni ci D.idx W5 (hi.below hbw5) hf.ni (fun i h => (hf.idx i h).2)
  clear T0 T1 T2 hv4 hbw4 hlt4 hv3' hi
  go_wp2_with (rw [hW5.out])
  refine hS.mono ?_
  rintro e w6 ⟨rfl, hv6, hb6, hlt6⟩
  obtain ⟨g6, hg6⟩ : ∃ g, Hid (W5.heap.size = g) := ⟨_, rfl⟩
  rw [hg6.out] at hv6 hlt6 hs5 ⊢
  have hbw6 : Below w.heap.size w w6 := hbw5.trans (hb6.mono hbw5.size)
  have R2 := S2.below hb6
  have R1 := S1.below hb6
  have hv3b := hv3''.below hb6
  have hv5b := hv5.below hb6
  clear S0 S1 S2 hS hb6 hbw5 hv3'' hv5 u0 u1 u2 u3 a1 q1
  obtain ⟨-, -, -, a1⟩ := R2.cells
  obtain ⟨-, -, -, q1⟩ := R2.fz
  obtain ⟨W7, hW7⟩ : ∃ W7, Hid (w6.setCell ⟨w.heap.size + 1 + 1, 3, none⟩ (.slice (some ⟨g6, 0, none⟩) D.ni D.ni) = W7) := ⟨_, rfl⟩
  have Z2 := R2.set3 (.slice (some ⟨g6, 0, none⟩) D.ni D.ni)
  have Z1 := R1.other (C := w.heap.size + 1 + 1) (i := 3) (u := .slice (some ⟨g6, 0, none⟩) D.ni D.ni) (by omega)
  have hv3c := hv3b.set (B := w.heap.size + 1 + 1) (by omega) 3 (.slice (some ⟨g6, 0, none⟩) D.ni D.ni)
  have hv5c := hv5b.set (B := w.heap.size + 1 + 1) (by omega) 3 (.slice (some ⟨g6, 0, none⟩) D.ni D.ni)
  have hv6c := hv6.set (C := w.heap.size + 1 + 1) (by omega) 3 (.slice (some ⟨g6, 0, none⟩) D.ni D.ni)
  have hbw7 : Below w.heap.size w (w6.setCell ⟨w.heap.size + 1 + 1, 3, none⟩ (.slice (some ⟨g6, 0, none⟩) D.ni D.ni)) := hbw6.setCell (p := ⟨w.heap.size + 1 + 1, 3, none⟩) (by simp; omega) _
  rw [hW7.out] at Z1 Z2 hv3c hv5c hv6c hbw7
  obtain ⟨u0, u1, u2, u3⟩ := Z2.cells
  obtain ⟨p0, p1, p2, p3⟩ := Z1.cells
  obtain ⟨k0, k1, k2, k3⟩ := Z1.fz
  have ZF := (((Z1.set0 (.string D.name)).set1 (.slice (some ⟨w.heap.size + 1 + 1 + 1, 0, none⟩) D.nc D.nc)).set2 (.slice (some ⟨g4, 0, none⟩) D.np D.np)).set3 (.slice (some ⟨g6, 0, none⟩) D.ni D.ni)
  have HR : Hid (DOwn ((((W7.setCell ⟨w.heap.size + 1, 0, none⟩ (.string D.name)).setCell ⟨w.heap.size + 1, 1, none⟩ (.slice (some ⟨w.heap.size + 1 + 1 + 1, 0, none⟩) D.nc D.nc)).setCell ⟨w.heap.size + 1, 2, none⟩ (.slice (some ⟨g4, 0, none⟩) D.np D.np)).setCell ⟨w.heap.size + 1, 3, none⟩ (.slice (some ⟨g6, 0, none⟩) D.ni D.ni)) w.heap.size (.agg #[.string D.name, .slice (some ⟨w.heap.size + 1 + 1 + 1, 0, none⟩) D.nc D.nc, .slice (some ⟨g4, 0, none⟩) D.np D.np, .slice (some ⟨g6, 0, none⟩) D.ni D.ni]) D
      ∧ Below w.heap.size w ((((W7.setCell ⟨w.heap.size + 1, 0, none⟩ (.string D.name)).setCell ⟨w.heap.size + 1, 1, none⟩ (.slice (some ⟨w.heap.size + 1 + 1 + 1, 0, none⟩) D.nc D.nc)).setCell ⟨w.heap.size + 1, 2, none⟩ (.slice (some ⟨g4, 0, none⟩) D.np D.np)).setCell ⟨w.heap.size + 1, 3, none⟩ (.slice (some ⟨g6, 0, none⟩) D.ni D.ni))) := by
    refine ⟨⟨_, _, _, _, _, _, rfl, by omega, by omega, ?_, ?_, ?_⟩, ?_⟩
    · exact (((hv3c.set (by omega) _ _).set (by omega) _ _).set (by omega) _ _).set (by omega) _ _
    · exact (((hv5c.set (by omega) _ _).set (by omega) _ _).set (by omega) _ _).set (by omega) _ _
    · exact ((((hv6c.set (C := w.heap.size + 1) (by omega) _ _).set (C := w.heap.size + 1) (by omega) _ _).set (C := w.heap.size + 1) (by omega) _ _).set (C := w.heap.size + 1) (by omega) _ _).mono (by omega)
    · exact (((hbw7.setCell (p := ⟨w.heap.size + 1, 0, none⟩) (by simp) _).setCell (p := ⟨w.heap.size + 1, 1, none⟩) (by simp) _).setCell (p := ⟨w.heap.size + 1, 2, none⟩) (by simp) _).setCell (p := ⟨w.heap.size + 1, 3, none⟩) (by simp) _
  obtain ⟨r0, r1, r2, r3⟩ := ZF.cells
  clear R1 R2 Z1 Z2 ZF hv3b hv5b hv6 hv3c hv5c hv6c hbw6 hbw7 hlt6 hs3 hs5 hf
  go_wp2_with (rw [hW7.out])
  refine bodyPost_ret (v := .agg #[.string D.name, .slice (some ⟨w.heap.size + 1 + 1 + 1, 0, none⟩) D.nc D.nc, .slice (some ⟨g4, 0, none⟩) D.np D.np, .slice (some ⟨g6, 0, none⟩) D.ni D.ni]) (by simp [results, Tryz.results7, go_sem, r0, r1, r2, r3]) rfl ⟨_, rfl, HR.out.1, HR.out.2⟩
end Go.Proofs.YtfjlmkphnciglatGreatDoor

/-
  Two tables in variables of the call's own.
-/
namespace Go.Proofs.YtfjlmkphnciglatGreatDoor
open Go.RowKit
set_option maxRecDepth 4000

theorem bool_ne {a b : Bool} (h : ¬ a = b) : b = !a := by cases a <;> cases b <;> simp at h <;> rfl
/-- Two variables of four cells, one behind the other. -/
theorem box44 {w wr : World} {T U : TypeId} {x0 x1 x2 x3 y0 y1 y2 y3 : Value} (h : Below (w.heap.size + 1 + 1) ((w.alloc (.cells #[x0, x1, x2, x3] T)).alloc (.cells #[y0, y1, y2, y3] U)) wr) :
    (wr.cell? ⟨w.heap.size, 0, none⟩ = some x0 ∧ wr.cell? ⟨w.heap.size, 1, none⟩ = some x1 ∧ wr.cell? ⟨w.heap.size, 2, none⟩ = some x2 ∧ wr.cell? ⟨w.heap.size, 3, none⟩ = some x3)
    ∧ (wr.cell? ⟨w.heap.size + 1, 0, none⟩ = some y0 ∧ wr.cell? ⟨w.heap.size + 1, 1, none⟩ = some y1 ∧ wr.cell? ⟨w.heap.size + 1, 2, none⟩ = some y2 ∧ wr.cell? ⟨w.heap.size + 1, 3, none⟩ = some y3) := by
  refine ⟨⟨?_, ?_, ?_, ?_⟩, ?_, ?_, ?_, ?_⟩
  all_goals (rw [h.cell (by first | (simp; done) | (simp; omega))]; simp [go_sem])
theorem box44_below {w wr : World} {o p : Obj} (h : Below (w.heap.size + 1 + 1) ((w.alloc o).alloc p) wr) : Below w.heap.size w wr ∧ w.heap.size + 2 ≤ wr.heap.size := by
  refine ⟨(((Below.refl _ _).alloc (Nat.le_refl _) _).alloc (by simp) _).trans (h.mono (by omega)), ?_⟩
  have := h.size
  simpa using this
theorem box44_on {w wr w' : World} {o p : Obj} (h : Below (w.heap.size + 1 + 1) ((w.alloc o).alloc p) wr) (h' : Below wr.heap.size wr w') : Below (w.heap.size + 1 + 1) ((w.alloc o).alloc p) w' := h.trans (h'.mono (box44_below h).2)
theorem box3 {w wr : World} {T : TypeId} {x0 x1 x2 : Value} (h : Below (w.heap.size + 1) (w.alloc (.cells #[x0, x1, x2] T)) wr) :
    wr.cell? ⟨w.heap.size, 0, none⟩ = some x0 ∧ wr.cell? ⟨w.heap.size, 1, none⟩ = some x1 ∧ wr.cell? ⟨w.heap.size, 2, none⟩ = some x2 := by
  refine ⟨?_, ?_, ?_⟩
  all_goals (rw [h.cell (by simp)]; simp [go_sem])

end Go.Proofs.YtfjlmkphnciglatGreatDoor

/-
  Texts that are held against each other.
-/
namespace Go.Proofs.YtfjlmkphnciglatGreatDoor
open Go.RowKit
set_option maxRecDepth 4000

theorem bytes_inj {a b : ByteArray} : a.toList = b.toList ↔ a = b := by
  constructor
  · intro h
    rw [ByteArray.toList_eq, ByteArray.toList_eq] at h
    obtain ⟨⟨x⟩⟩ := a
    obtain ⟨⟨y⟩⟩ := b
    simp only at h
    rw [h]
  · rintro rfl; rfl
theorem bytes_eq {a b : ByteArray} (h : a = b) : (a.toList == b.toList) = true := by rw [h]; exact beq_self_eq_true _
theorem bytes_ne {a b : ByteArray} (h : a ≠ b) : (a.toList == b.toList) = false := by
  cases e : (a.toList == b.toList) with
  | false => rfl
  | true => exact absurd (bytes_inj.1 (eq_of_beq e)) h
end Go.Proofs.YtfjlmkphnciglatGreatDoor

/-
  Tables that read alike are alike, as the law holds them against each other.
-/
namespace Go.Proofs.YtfjlmkphnciglatGreatDoor
open Go.RowKit
set_option maxRecDepth 4000

set_option maxHeartbeats 1000000 in
theorem eqBy_same (c : Int) (d : Bool) (w : World) :
    Calls Tryz.prog 58 #[.agg #[.int .i64 c, .bool d], .agg #[.int .i64 c, .bool d]] w fun e w' => e = .returned (.bool true) ∧ Below w.heap.size w w' := by
  have e1 : (c != c) = false := bne_self_eq_false _
  have e2 : (d != d) = false := bne_self_eq_false _
  go_enter Tryz.func58, Tryz.ntmps58
  go_wp2
  go_ret
  refine ⟨rfl, ?_⟩
  repeat (first | exact Below.refl _ _ | refine Below.alloc ?_ (by simp <;> omega) _ | refine Below.drew ?_)

set_option maxHeartbeats 1000000 in
theorem eqCol_same (s : ByteArray) (c : Int) (d : Bool) (w : World) :
    Calls Tryz.prog 57 #[.agg #[.string s, .int .i64 c, .bool d], .agg #[.string s, .int .i64 c, .bool d]] w fun e w' => e = .returned (.bool true) ∧ Below w.heap.size w w' := by
  have e0 := bytes_eq (a := s) rfl
  have e1 : (c != c) = false := bne_self_eq_false _
  have e2 : (d != d) = false := bne_self_eq_false _
  go_enter Tryz.func57, Tryz.ntmps57
  go_wp2
  go_ret
  refine ⟨rfl, ?_⟩
  repeat (first | exact Below.refl _ _ | refine Below.alloc ?_ (by simp <;> omega) _ | refine Below.drew ?_)

set_option maxHeartbeats 2000000 in
theorem eqByS_same (a1 a2 : Option Addr) (n c1 c2 : Nat) (f : Nat → PBy) (w : World) (h1 : BView w a1 n c1 f) (h2 : BView w a2 n c2 f) (hn : n ≤ 1048576) :
    Calls Tryz.prog 25 #[.slice a1 n c1, .slice a2 n c2] w fun e w' => e = .returned (.bool true) ∧ Below w.heap.size w w' := by
  go_enter Tryz.func25, Tryz.ntmps25
  go_wp2
  go_loopg [5] n (fun q i wr => ∃ k : Nat, k ≤ n ∧ q = n - k ∧ i = .int .i64 k ∧ Below w.heap.size w wr)
  case atStart => exact ⟨0, Nat.zero_le _, rfl, rfl, Below.refl _ _⟩
  case round =>
    obtain ⟨k, hk, rfl, rfl, hB⟩ := hrel
    by_cases hlt : k < n
    · obtain ⟨b1, o1, rfl, hb1, hc1⟩ := (h1.below hB).cells (by omega)
      obtain ⟨b2, o2, rfl, hb2, hc2⟩ := (h2.below hB).cells (by omega)
      obtain ⟨x0, x1⟩ := hc1 k hlt
      obtain ⟨y0, y1⟩ := hc2 k hlt
      obtain ⟨p0, hp0⟩ : ∃ x, Hid ((f k).col = x) := ⟨_, rfl⟩
      obtain ⟨p1, hp1⟩ : ∃ x, Hid ((f k).desc = x) := ⟨_, rfl⟩
      rw [hp0.out] at x0 y0
      rw [hp1.out] at x1 y1
      have hkz : (k : Int) < (n : Int) := by omega
      have hV := fun W (_ : Below wr.heap.size wr W) => eqBy_same p0 p1 W
      have HWK : Hid (∀ W, Below wr.heap.size wr W → (W.cell? ⟨b1, o1 + k * 2, none⟩ = some (.int .i64 p0) ∧ W.cell? ⟨b1, o1 + k * 2 + 1, none⟩ = some (.bool p1)) ∧ (W.cell? ⟨b2, o2 + k * 2, none⟩ = some (.int .i64 p0) ∧ W.cell? ⟨b2, o2 + k * 2 + 1, none⟩ = some (.bool p1))) := by
        intro W hb
        refine ⟨⟨?_, ?_⟩, ⟨?_, ?_⟩⟩ <;> (rw [hb.cell (by first | exact hb1 | exact hb2)]; assumption)
      clear hc1 hc2 h1 h2
      go_wp2_with fail
      go_region_held3 (fun W => (W.cell? ⟨b1, o1 + k * 2, none⟩ = some (.int .i64 p0) ∧ W.cell? ⟨b1, o1 + k * 2 + 1, none⟩ = some (.bool p1)) ∧ (W.cell? ⟨b2, o2 + k * 2, none⟩ = some (.int .i64 p0) ∧ W.cell? ⟨b2, o2 + k * 2 + 1, none⟩ = some (.bool p1))) (first | assumption | go_keep) (first | (go_at_call 58; refine (hV _ (by repeat (first | exact Below.refl _ _ | refine Below.drew ?_))).mono ?_; rintro e w2 ⟨rfl, hB2⟩; have hcells : (w2.cell? ⟨b1, o1 + k * 2, none⟩ = some (.int .i64 p0) ∧ w2.cell? ⟨b1, o1 + k * 2 + 1, none⟩ = some (.bool p1)) ∧ (w2.cell? ⟨b2, o2 + k * 2, none⟩ = some (.int .i64 p0) ∧ w2.cell? ⟨b2, o2 + k * 2 + 1, none⟩ = some (.bool p1)) := HWK.out _ (Below.trans (by repeat (first | exact Below.refl _ _ | refine Below.drew ?_)) hB2)))
      all_goals
        have hB3 : Hid (Below w.heap.size w w2) := hB.trans (Below.trans (by repeat (first | exact Below.refl _ _ | refine Below.drew ?_)) (hB2.mono (by have := hB.size; exact this)))
        clear hcells HWK hV
        go_wp2
        go_roundg (n - (k + 1))
        case measure => omega
        case rel => exact ⟨k + 1, by omega, rfl, by go_num, by first | exact hB3.out | exact hB3.out.drew⟩
    · clear h1 h2
      go_wp2
      go_ret
      exact ⟨rfl, hB⟩

set_option maxHeartbeats 2000000 in
theorem eqColS_same (a1 a2 : Option Addr) (n c1 c2 : Nat) (f : Nat → PCol) (w : World) (h1 : CView w a1 n c1 f) (h2 : CView w a2 n c2 f) (hn : n ≤ 1048576) :
    Calls Tryz.prog 24 #[.slice a1 n c1, .slice a2 n c2] w fun e w' => e = .returned (.bool true) ∧ Below w.heap.size w w' := by
  go_enter Tryz.func24, Tryz.ntmps24
  go_wp2
  go_loopg [5] n (fun q i wr => ∃ k : Nat, k ≤ n ∧ q = n - k ∧ i = .int .i64 k ∧ Below w.heap.size w wr)
  case atStart => exact ⟨0, Nat.zero_le _, rfl, rfl, Below.refl _ _⟩
  case round =>
    obtain ⟨k, hk, rfl, rfl, hB⟩ := hrel
    by_cases hlt : k < n
    · obtain ⟨b1, o1, rfl, hb1, hc1⟩ := (h1.below hB).cells (by omega)
      obtain ⟨b2, o2, rfl, hb2, hc2⟩ := (h2.below hB).cells (by omega)
      obtain ⟨x0, x1, x2⟩ := hc1 k hlt
      obtain ⟨y0, y1, y2⟩ := hc2 k hlt
      obtain ⟨p0, hp0⟩ : ∃ x, Hid ((f k).name = x) := ⟨_, rfl⟩
      obtain ⟨p1, hp1⟩ : ∃ x, Hid ((f k).type = x) := ⟨_, rfl⟩
      obtain ⟨p2, hp2⟩ : ∃ x, Hid ((f k).null = x) := ⟨_, rfl⟩
      rw [hp0.out] at x0 y0
      rw [hp1.out] at x1 y1
      rw [hp2.out] at x2 y2
      have hkz : (k : Int) < (n : Int) := by omega
      have hV := fun W (_ : Below wr.heap.size wr W) => eqCol_same p0 p1 p2 W
      have HWK : Hid (∀ W, Below wr.heap.size wr W → (W.cell? ⟨b1, o1 + k * 3, none⟩ = some (.string p0) ∧ W.cell? ⟨b1, o1 + k * 3 + 1, none⟩ = some (.int .i64 p1) ∧ W.cell? ⟨b1, o1 + k * 3 + 2, none⟩ = some (.bool p2)) ∧ (W.cell? ⟨b2, o2 + k * 3, none⟩ = some (.string p0) ∧ W.cell? ⟨b2, o2 + k * 3 + 1, none⟩ = some (.int .i64 p1) ∧ W.cell? ⟨b2, o2 + k * 3 + 2, none⟩ = some (.bool p2))) := by
        intro W hb
        refine ⟨⟨?_, ?_, ?_⟩, ⟨?_, ?_, ?_⟩⟩ <;> (rw [hb.cell (by first | exact hb1 | exact hb2)]; assumption)
      clear hc1 hc2 h1 h2
      go_wp2_with fail
      go_region_held3 (fun W => (W.cell? ⟨b1, o1 + k * 3, none⟩ = some (.string p0) ∧ W.cell? ⟨b1, o1 + k * 3 + 1, none⟩ = some (.int .i64 p1) ∧ W.cell? ⟨b1, o1 + k * 3 + 2, none⟩ = some (.bool p2)) ∧ (W.cell? ⟨b2, o2 + k * 3, none⟩ = some (.string p0) ∧ W.cell? ⟨b2, o2 + k * 3 + 1, none⟩ = some (.int .i64 p1) ∧ W.cell? ⟨b2, o2 + k * 3 + 2, none⟩ = some (.bool p2))) (first | assumption | go_keep) (first | (go_at_call 57; refine (hV _ (by repeat (first | exact Below.refl _ _ | refine Below.drew ?_))).mono ?_; rintro e w2 ⟨rfl, hB2⟩; have hcells : (w2.cell? ⟨b1, o1 + k * 3, none⟩ = some (.string p0) ∧ w2.cell? ⟨b1, o1 + k * 3 + 1, none⟩ = some (.int .i64 p1) ∧ w2.cell? ⟨b1, o1 + k * 3 + 2, none⟩ = some (.bool p2)) ∧ (w2.cell? ⟨b2, o2 + k * 3, none⟩ = some (.string p0) ∧ w2.cell? ⟨b2, o2 + k * 3 + 1, none⟩ = some (.int .i64 p1) ∧ w2.cell? ⟨b2, o2 + k * 3 + 2, none⟩ = some (.bool p2)) := HWK.out _ (Below.trans (by repeat (first | exact Below.refl _ _ | refine Below.drew ?_)) hB2)))
      all_goals
        have hB3 : Hid (Below w.heap.size w w2) := hB.trans (Below.trans (by repeat (first | exact Below.refl _ _ | refine Below.drew ?_)) (hB2.mono (by have := hB.size; exact this)))
        clear hcells HWK hV
        go_wp2
        go_roundg (n - (k + 1))
        case measure => omega
        case rel => exact ⟨k + 1, by omega, rfl, by go_num, by first | exact hB3.out | exact hB3.out.drew⟩
    · clear h1 h2
      go_wp2
      go_ret
      exact ⟨rfl, hB⟩

set_option maxHeartbeats 2000000 in
theorem eqIndex_same (s : ByteArray) (u : Bool) (a1 a2 : Option Addr) (n c1 c2 : Nat) (f : Nat → PBy) (w : World) (h1 : BView w a1 n c1 f) (h2 : BView w a2 n c2 f) (hn : n ≤ 1048576) :
    Calls Tryz.prog 59 #[.agg #[.string s, .bool u, .slice a1 n c1], .agg #[.string s, .bool u, .slice a2 n c2]] w fun e w' => e = .returned (.bool true) ∧ Below w.heap.size w w' := by
  have e0 := bytes_eq (a := s) rfl
  have e2 : (u != u) = false := bne_self_eq_false _
  have hV := fun W (hb : Below w.heap.size w W) => eqByS_same a1 a2 n c1 c2 f W (h1.below hb) (h2.below hb) hn
  have hb0 : Below w.heap.size w ((w.alloc (.cells #[.string s, .bool u, .slice a1 n c1] 62)).alloc (.cells #[.string s, .bool u, .slice a2 n c2] 62)) := ((Below.refl _ _).alloc (Nat.le_refl _) _).alloc (by simp) _
  clear h1 h2
  go_enter Tryz.func59, Tryz.ntmps59
  go_wp2_with fail
  refine (hV _ hb0).mono ?_
  rintro e w2 ⟨rfl, hb2⟩
  have HB : Hid (Below w.heap.size w w2) := hb0.trans (hb2.mono (by simp; omega))
  clear hV hb0 hb2
  go_wp2
  go_ret
  exact ⟨rfl, HB.out⟩

set_option maxHeartbeats 2000000 in
theorem eqIndexS_same (a1 a2 : Option Addr) (n c1 c2 : Nat) (f : Nat → PIdx) (w : World) (h1 : IView w a1 n c1 f) (h2 : IView w a2 n c2 f) (hn : n ≤ 1048576) (hz : ∀ i, i < n → (f i).n ≤ 1048576) :
    Calls Tryz.prog 26 #[.slice a1 n c1, .slice a2 n c2] w fun e w' => e = .returned (.bool true) ∧ Below w.heap.size w w' := by
  go_enter Tryz.func26, Tryz.ntmps26
  go_wp2
  go_loopg [5] n (fun q i wr => ∃ k : Nat, k ≤ n ∧ q = n - k ∧ i = .int .i64 k ∧ Below w.heap.size w wr)
  case atStart => exact ⟨0, Nat.zero_le _, rfl, rfl, Below.refl _ _⟩
  case round =>
    obtain ⟨k, hk, rfl, rfl, hB⟩ := hrel
    by_cases hlt : k < n
    · obtain ⟨b1, o1, rfl, hb1, hc1⟩ := (h1.below hB).cells (by omega)
      obtain ⟨b2, o2, rfl, hb2, hc2⟩ := (h2.below hB).cells (by omega)
      obtain ⟨x0, x1, a1, c1, x2, hv1⟩ := hc1 k hlt
      obtain ⟨y0, y1, a2, c2, y2, hv2⟩ := hc2 k hlt
      have hV := fun W (hb : Below wr.heap.size wr W) => eqIndex_same (f k).name (f k).uniq a1 a2 (f k).n c1 c2 (f k).part W (hv1.below hb) (hv2.below hb) (hz k hlt)
      obtain ⟨p0, hp0⟩ : ∃ x, Hid ((f k).name = x) := ⟨_, rfl⟩
      obtain ⟨p1, hp1⟩ : ∃ x, Hid ((f k).uniq = x) := ⟨_, rfl⟩
      obtain ⟨p2, hp2⟩ : ∃ x, Hid ((f k).n = x) := ⟨_, rfl⟩
      simp only [hp0.out, hp1.out, hp2.out] at hV
      rw [hp0.out] at x0 y0
      rw [hp1.out] at x1 y1
      rw [hp2.out] at x2 y2
      have hkz : (k : Int) < (n : Int) := by omega

      have HWK : Hid (∀ W, Below wr.heap.size wr W → (W.cell? ⟨b1, o1 + k * 3, none⟩ = some (.string p0) ∧ W.cell? ⟨b1, o1 + k * 3 + 1, none⟩ = some (.bool p1) ∧ W.cell? ⟨b1, o1 + k * 3 + 2, none⟩ = some (.slice a1 p2 c1)) ∧ (W.cell? ⟨b2, o2 + k * 3, none⟩ = some (.string p0) ∧ W.cell? ⟨b2, o2 + k * 3 + 1, none⟩ = some (.bool p1) ∧ W.cell? ⟨b2, o2 + k * 3 + 2, none⟩ = some (.slice a2 p2 c2))) := by
        intro W hb
        refine ⟨⟨?_, ?_, ?_⟩, ⟨?_, ?_, ?_⟩⟩ <;> (rw [hb.cell (by first | exact hb1 | exact hb2)]; assumption)
      clear hc1 hc2 h1 h2 hz hv1 hv2
      go_wp2_with fail
      go_region_held3 (fun W => (W.cell? ⟨b1, o1 + k * 3, none⟩ = some (.string p0) ∧ W.cell? ⟨b1, o1 + k * 3 + 1, none⟩ = some (.bool p1) ∧ W.cell? ⟨b1, o1 + k * 3 + 2, none⟩ = some (.slice a1 p2 c1)) ∧ (W.cell? ⟨b2, o2 + k * 3, none⟩ = some (.string p0) ∧ W.cell? ⟨b2, o2 + k * 3 + 1, none⟩ = some (.bool p1) ∧ W.cell? ⟨b2, o2 + k * 3 + 2, none⟩ = some (.slice a2 p2 c2))) (first | assumption | go_keep) (first | (go_at_call 59; refine (hV _ (by repeat (first | exact Below.refl _ _ | refine Below.drew ?_))).mono ?_; rintro e w2 ⟨rfl, hB2⟩; have hcells : (w2.cell? ⟨b1, o1 + k * 3, none⟩ = some (.string p0) ∧ w2.cell? ⟨b1, o1 + k * 3 + 1, none⟩ = some (.bool p1) ∧ w2.cell? ⟨b1, o1 + k * 3 + 2, none⟩ = some (.slice a1 p2 c1)) ∧ (w2.cell? ⟨b2, o2 + k * 3, none⟩ = some (.string p0) ∧ w2.cell? ⟨b2, o2 + k * 3 + 1, none⟩ = some (.bool p1) ∧ w2.cell? ⟨b2, o2 + k * 3 + 2, none⟩ = some (.slice a2 p2 c2)) := HWK.out _ (Below.trans (by repeat (first | exact Below.refl _ _ | refine Below.drew ?_)) hB2)))
      all_goals
        have hB3 : Hid (Below w.heap.size w w2) := hB.trans (Below.trans (by repeat (first | exact Below.refl _ _ | refine Below.drew ?_)) (hB2.mono (by have := hB.size; exact this)))
        clear hcells HWK hV
        go_wp2
        go_roundg (n - (k + 1))
        case measure => omega
        case rel => exact ⟨k + 1, by omega, rfl, by go_num, by first | exact hB3.out | exact hB3.out.drew⟩
    · clear h1 h2
      go_wp2
      go_ret
      exact ⟨rfl, hB⟩

set_option maxHeartbeats 2000000 in
theorem eqDef_same (u v : Value) (D : PDef) (w : World) (h1 : DView w u D) (h2 : DView w v D) (hf : DFine D) :
    Calls Tryz.prog 9 #[u, v] w fun e w' => e = .returned (.bool true) ∧ Below w.heap.size w w' := by
  obtain ⟨ac, cc, ap, cp, ai, ci, rfl, hc1, hp1, hi1⟩ := h1.is
  obtain ⟨bc, dc, bp, dp, bi, di, rfl, hc2, hp2, hi2⟩ := h2.is
  clear h1 h2
  have e0 := bytes_eq (a := D.name) rfl
  have hB0 : Below (w.heap.size + 1 + 1) ((w.alloc (.cells #[.string D.name, .slice ac D.nc cc, .slice ap D.np cp, .slice ai D.ni ci] 33)).alloc (.cells #[.string D.name, .slice bc D.nc dc, .slice bp D.np dp, .slice bi D.ni di] 33)) ((w.alloc (.cells #[.string D.name, .slice ac D.nc cc, .slice ap D.np cp, .slice ai D.ni ci] 33)).alloc (.cells #[.string D.name, .slice bc D.nc dc, .slice bp D.np dp, .slice bi D.ni di] 33)) := Below.refl _ _
  obtain ⟨hBw0, -⟩ := box44_below hB0
  have hV1 := eqColS_same ac bc D.nc cc dc D.col _ (hc1.below hBw0) (hc2.below hBw0) hf.nc
  go_enter Tryz.func9, Tryz.ntmps9
  go_wp2_with fail
  refine hV1.mono ?_
  rintro e w1 ⟨rfl, hb1⟩
  have hB1 := box44_on hB0 hb1
  obtain ⟨hBw1, hs1⟩ := box44_below hB1
  obtain ⟨⟨x0, x1, x2, x3⟩, y0, y1, y2, y3⟩ := box44 hB1
  have hV2 := eqByS_same ap bp D.np cp dp D.pri w1 (hp1.below hBw1) (hp2.below hBw1) hf.np
  clear hV1 hb1 hB0 hBw0 hc1 hc2
  go_wp2_with fail
  refine hV2.mono ?_
  rintro e w2 ⟨rfl, hb2⟩
  have hB2 := box44_on hB1 hb2
  obtain ⟨hBw2, hs2⟩ := box44_below hB2
  clear x0 x1 x2 x3 y0 y1 y2 y3
  obtain ⟨⟨x0, x1, x2, x3⟩, y0, y1, y2, y3⟩ := box44 hB2
  have hV3 := eqIndexS_same ai bi D.ni ci di D.idx w2 (hi1.below hBw2) (hi2.below hBw2) hf.ni (fun i hi => (hf.idx i hi).2)
  clear hV2 hb2 hB1 hBw1 hp1 hp2 hs1
  go_wp2_with fail
  refine hV3.mono ?_
  rintro e w3 ⟨rfl, hb3⟩
  have HB : Hid (Below w.heap.size w w3) := (box44_below (box44_on hB2 hb3)).1
  clear hV3 hb3 hB2 hBw2 hi1 hi2 hf
  go_wp2
  go_ret
  exact ⟨rfl, HB.out⟩
end Go.Proofs.YtfjlmkphnciglatGreatDoor

/-
  A table's text, plainly.
-/
namespace Go.Proofs.YtfjlmkphnciglatGreatDoor
open Go.RowKit
set_option maxRecDepth 4000

def typeW (t : Int) : ByteArray := if t = 1 then ⟨#[105, 110, 116]⟩ else if t = 2 then ⟨#[110, 117, 109]⟩ else if t = 3 then ⟨#[116, 101, 120, 116]⟩ else if t = 4 then ⟨#[98, 111, 111, 108]⟩ else ⟨#[]⟩
/-- The text of the first k parts. -/
def partsT (col : Nat → PCol) (f : Nat → PBy) : Nat → ByteArray
  | 0 => ⟨#[]⟩
  | k + 1 =>
    let s := (if 0 < k then partsT col f k ++ (⟨#[44, 32]⟩ : ByteArray) else partsT col f k) ++ (col (f k).col.toNat).name
    if (f k).desc then s ++ (⟨#[32, 100, 101, 115, 99]⟩ : ByteArray) else s
/-- The text as far as the first k columns. -/
def colsT (name : ByteArray) (col : Nat → PCol) : Nat → ByteArray
  | 0 => (⟨#[116, 97, 98, 108, 101, 32]⟩ : ByteArray) ++ name ++ (⟨#[32, 123, 32]⟩ : ByteArray)
  | k + 1 =>
    let s := colsT name col k ++ (col k).name ++ (⟨#[32]⟩ : ByteArray) ++ typeW (col k).type
    (if (col k).null then s ++ (⟨#[32, 110, 117, 108, 108]⟩ : ByteArray) else s) ++ (⟨#[59, 32]⟩ : ByteArray)
def partsE (col : Nat → PCol) (n : Nat) (f : Nat → PBy) : ByteArray := partsT col f n ++ (⟨#[59, 32]⟩ : ByteArray)
/-- .. and the first k indexes. -/
def idxT (D : PDef) : Nat → ByteArray
  | 0 => colsT D.name D.col D.nc ++ ((⟨#[112, 114, 105, 109, 97, 114, 121, 32]⟩ : ByteArray) ++ partsE D.col D.np D.pri)
  | k + 1 => idxT D k ++ (if (D.idx k).uniq then (⟨#[117, 110, 105, 113, 117, 101, 32]⟩ : ByteArray) else (⟨#[105, 110, 100, 101, 120, 32]⟩ : ByteArray)) ++ (D.idx k).name ++ (⟨#[32]⟩ : ByteArray) ++ partsE D.col (D.idx k).n (D.idx k).part
/-- The text of a table that nothing is wrong with. -/
def textG (D : PDef) : ByteArray := idxT D D.ni ++ (⟨#[125]⟩ : ByteArray)
def defText (D : PDef) : ByteArray := if checkF D = 0 then textG D else ⟨#[]⟩
end Go.Proofs.YtfjlmkphnciglatGreatDoor

/-
  A table's text is not long.
-/
namespace Go.Proofs.YtfjlmkphnciglatGreatDoor
open Go.RowKit
set_option maxRecDepth 4000

theorem partsT_size {col : Nat → PCol} {f : Nat → PBy} {n B : Nat} (h : ∀ i, i < n → (col (f i).col.toNat).name.size ≤ B) : ∀ k, k ≤ n → (partsT col f k).size ≤ k * (B + 7)
  | 0, _ => Nat.zero_le _
  | k + 1, hk => by
    have ih := partsT_size h k (by omega)
    have h1 := h k (by omega)
    have e1 : (⟨#[44, 32]⟩ : ByteArray).size = 2 := rfl
    have e2 : (⟨#[32, 100, 101, 115, 99]⟩ : ByteArray).size = 5 := rfl
    have h3 : (k + 1) * (B + 7) = k * (B + 7) + (B + 7) := by rw [Nat.add_mul]; omega
    rw [partsT]
    split <;> split <;> simp only [ByteArray.size_append] <;> omega
theorem typeW_size (t : Int) : (typeW t).size ≤ 4 := by
  unfold typeW
  split
  · exact Nat.le_succ _
  split
  · exact Nat.le_succ _
  split
  · exact Nat.le_refl _
  split
  · exact Nat.le_refl _
  · exact Nat.zero_le _
theorem colsT_size {name : ByteArray} {col : Nat → PCol} {n B : Nat} (hn : name.size ≤ B) (h : ∀ i, i < n → (col i).name.size ≤ B) : ∀ k, k ≤ n → (colsT name col k).size ≤ (k + 1) * (B + 12)
  | 0, _ => by
    have e1 : (⟨#[116, 97, 98, 108, 101, 32]⟩ : ByteArray).size = 6 := rfl
    have e2 : (⟨#[32, 123, 32]⟩ : ByteArray).size = 3 := rfl
    rw [colsT]
    simp only [ByteArray.size_append]
    omega
  | k + 1, hk => by
    have ih := colsT_size hn h k (by omega)
    have h1 := h k (by omega)
    have e1 : (⟨#[32]⟩ : ByteArray).size = 1 := rfl
    have e2 : (⟨#[32, 110, 117, 108, 108]⟩ : ByteArray).size = 5 := rfl
    have e3 : (⟨#[59, 32]⟩ : ByteArray).size = 2 := rfl
    have e4 := typeW_size (col k).type
    have h3 : (k + 1 + 1) * (B + 12) = (k + 1) * (B + 12) + (B + 12) := by rw [Nat.add_mul (k + 1)]; omega
    rw [colsT]
    split <;> simp only [ByteArray.size_append] <;> omega
theorem partsE_size {col : Nat → PCol} {f : Nat → PBy} {n B : Nat} (h : ∀ i, i < n → (col (f i).col.toNat).name.size ≤ B) (hn : n ≤ 2) : (partsE col n f).size ≤ 2 * B + 16 := by
  have h1 := partsT_size h n (Nat.le_refl _)
  have h2 : n * (B + 7) ≤ 2 * (B + 7) := Nat.mul_le_mul_right _ hn
  have e3 : (⟨#[59, 32]⟩ : ByteArray).size = 2 := rfl
  unfold partsE
  rw [ByteArray.size_append]
  omega
theorem idxT_size {D : PDef} {B : Nat} (hn : D.name.size ≤ B) (hc : ∀ i, i < D.nc → (D.col i).name.size ≤ B) (hnc : D.nc ≤ 6) (hp : (partsE D.col D.np D.pri).size ≤ 2 * B + 16) (hi : ∀ i, i < D.ni → (D.idx i).name.size ≤ B ∧ (partsE D.col (D.idx i).n (D.idx i).part).size ≤ 2 * B + 16) :
    ∀ k, k ≤ D.ni → (idxT D k).size ≤ 9 * B + 108 + k * (3 * B + 24)
  | 0, _ => by
    have h1 := colsT_size hn hc D.nc (Nat.le_refl _)
    have h2 : (D.nc + 1) * (B + 12) ≤ 7 * (B + 12) := Nat.mul_le_mul_right _ (by omega)
    have e1 : (⟨#[112, 114, 105, 109, 97, 114, 121, 32]⟩ : ByteArray).size = 8 := rfl
    rw [idxT]
    simp only [ByteArray.size_append]
    omega
  | k + 1, hk => by
    have ih := idxT_size hn hc hnc hp hi k (by omega)
    obtain ⟨h1, h2⟩ := hi k (by omega)
    have e1 : (⟨#[32]⟩ : ByteArray).size = 1 := rfl
    have e2 : (⟨#[117, 110, 105, 113, 117, 101, 32]⟩ : ByteArray).size = 7 := rfl
    have e3 : (⟨#[105, 110, 100, 101, 120, 32]⟩ : ByteArray).size = 6 := rfl
    have h3 : (k + 1) * (3 * B + 24) = k * (3 * B + 24) + (3 * B + 24) := by rw [Nat.add_mul]; omega
    rw [idxT]
    split <;> simp only [ByteArray.size_append] <;> omega
end Go.Proofs.YtfjlmkphnciglatGreatDoor

/-
  The model's l9Type, l9PartsText come to the plain ones.
-/
namespace Go.Proofs.YtfjlmkphnciglatGreatDoor
open Go.RowKit
set_option maxRecDepth 4000

set_option maxHeartbeats 1000000 in
theorem l9Type_any (t : Int) (w : World) (h1 : 1 ≤ t) (h4 : t ≤ 4) :
    Calls Tryz.prog 27 #[.int .i64 t] w fun e w' => e = .returned (.string (typeW t)) ∧ Below w.heap.size w w' := by
  have hcase : t = 1 ∨ t = 2 ∨ t = 3 ∨ t = 4 := by omega
  rcases hcase with rfl | rfl | rfl | rfl
  all_goals
    go_enter Tryz.func27, Tryz.ntmps27
    go_wp2
    go_ret
    exact ⟨rfl, (Below.refl _ _).alloc (Nat.le_refl _) _⟩

set_option maxHeartbeats 2000000 in
theorem l9PartsText_any (v : Value) (D : PDef) (a : Option Addr) (n c : Nat) (f : Nat → PBy) (w : World) (h : DView w v D) (hv : BView w a n c f) (hn : n ≤ 1048576) (hnc : D.nc ≤ 1048576)
    (hin : ∀ i, i < n → 0 ≤ (f i).col ∧ (f i).col < D.nc) (hz : ∀ i, i < D.nc → (D.col i).name.size ≤ 1048576) :
    Calls Tryz.prog 28 #[v, .slice a n c] w fun e w' => e = .returned (.string (partsE D.col n f)) ∧ Below w.heap.size w w' := by
  have HZ : Hid (∀ k, k ≤ n → (partsT D.col f k).size ≤ 1099520016384) := fun k hk => by
    have := partsT_size (B := 1048576) (col := D.col) (f := f) (n := n) (fun i hi => hz _ (by have := hin i hi; omega)) k hk
    have h2 : k * (1048576 + 7) ≤ 1048576 * (1048576 + 7) := Nat.mul_le_mul_right _ (by omega)
    omega
  obtain ⟨ac, cc, ap, cp, ai, ci, rfl, hc, -, -⟩ := h.is
  clear h
  go_enter Tryz.func28, Tryz.ntmps28
  go_wp2
  go_loopg [5, 6] n (fun q s i wr => ∃ k : Nat, k ≤ n ∧ q = n - k ∧ i = .int .i64 k ∧ s = .string (partsT D.col f k) ∧ Below (w.heap.size + 1) (w.alloc (.cells #[.string D.name, .slice ac D.nc cc, .slice ap D.np cp, .slice ai D.ni ci] 33)) wr)
  case atStart => exact ⟨0, Nat.zero_le _, rfl, rfl, rfl, Below.refl _ _⟩
  case round =>
    obtain ⟨k, hk, rfl, rfl, rfl, hB⟩ := hrel
    obtain ⟨x0, x1, x2, x3⟩ := box4 hB
    obtain ⟨hBw, hsz⟩ := box4_below hB
    by_cases hlt : k < n
    · have hkz : (k : Int) < (n : Int) := by omega
      obtain ⟨q0, q1⟩ := hin k hlt
      obtain ⟨m, hm⟩ := Int.eq_ofNat_of_zero_le q0
      obtain ⟨b2, o2, rfl, hb2, hcs⟩ := (hv.below hBw).cells (by omega)
      obtain ⟨y0, y1⟩ := hcs k hlt
      rw [hm] at y0 q1
      obtain ⟨b1, o1, rfl, hb1, hcc⟩ := (hc.below hBw).cells (by omega)
      obtain ⟨z0, -, -⟩ := hcc m (by omega)
      have hzm := hz m (by omega)
      have HN : Hid (partsT D.col f (k + 1) = (let s := (if 0 < k then partsT D.col f k ++ (⟨#[44, 32]⟩ : ByteArray) else partsT D.col f k) ++ (D.col m).name; if (f k).desc then s ++ (⟨#[32, 100, 101, 115, 99]⟩ : ByteArray) else s)) := by
        show _ = _
        rw [partsT, hm]; rfl
      have hjz := HZ.out k hk
      obtain ⟨J, hJ⟩ : ∃ J, Hid (partsT D.col f k = J) := ⟨_, rfl⟩
      obtain ⟨p, hp⟩ : ∃ p, Hid ((D.col m).name = p) := ⟨_, rfl⟩
      obtain ⟨ds, hds⟩ : ∃ ds, Hid ((f k).desc = ds) := ⟨_, rfl⟩
      rw [hJ.out] at HN hjz ⊢
      rw [hp.out] at HN z0 hzm
      rw [hds.out] at HN y1
      have HB : Hid (Below (w.heap.size + 1) (w.alloc (.cells #[.string D.name, .slice (some ⟨b1, o1, none⟩) D.nc cc, .slice ap D.np cp, .slice ai D.ni ci] 33)) wr) := hB
      have e1 : (⟨#[44, 32]⟩ : ByteArray).size = 2 := rfl
      have e2 : (⟨#[32, 100, 101, 115, 99]⟩ : ByteArray).size = 5 := rfl
      clear hcs hcc hc hv hB hBw hm q0 hin hz HZ
      by_cases h0 : 0 < k
      · have h0z : (0 : Int) < (k : Int) := by omega
        have s1 : ¬ (J.size + 2 > 9223372036854775807) := by omega
        have s3 : (J ++ (⟨#[44, 32]⟩ : ByteArray)).size = J.size + 2 := by rw [ByteArray.size_append]; rfl
        have s2 : ¬ (J.size + 2 + p.size > 9223372036854775807) := by omega
        have s4 : ((J ++ (⟨#[44, 32]⟩ : ByteArray)) ++ p).size = J.size + 2 + p.size := by rw [ByteArray.size_append, s3]
        have s5 : ¬ (J.size + 2 + p.size + 5 > 9223372036854775807) := by omega
        cases ds with
        | true =>
          have HN' : Hid (partsT D.col f (k + 1) = ((J ++ (⟨#[44, 32]⟩ : ByteArray)) ++ p) ++ (⟨#[32, 100, 101, 115, 99]⟩ : ByteArray)) := by show _ = _; rw [HN.out, if_pos h0]; rfl
          clear HN
          go_wp2_with fail
          go_quiet (fail)
          go_wp2
          go_roundg (n - (k + 1))
          case measure => omega
          case rel => exact ⟨k + 1, by omega, rfl, by go_num, by rw [HN'.out], HB.out.trans ⟨rfl, rfl, rfl, Nat.le_refl _, fun _ _ => rfl⟩⟩
        | false =>
          have HN' : Hid (partsT D.col f (k + 1) = (J ++ (⟨#[44, 32]⟩ : ByteArray)) ++ p) := by show _ = _; rw [HN.out, if_pos h0]; rfl
          clear HN
          go_wp2_with fail
          go_quiet (fail)
          go_wp2
          go_roundg (n - (k + 1))
          case measure => omega
          case rel => exact ⟨k + 1, by omega, rfl, by go_num, by rw [HN'.out], HB.out.trans ⟨rfl, rfl, rfl, Nat.le_refl _, fun _ _ => rfl⟩⟩
      · have h0z : ¬ (0 : Int) < (k : Int) := by omega
        have s2 : ¬ (J.size + p.size > 9223372036854775807) := by omega
        have s4 : (J ++ p).size = J.size + p.size := by rw [ByteArray.size_append]
        have s5 : ¬ (J.size + p.size + 5 > 9223372036854775807) := by omega
        cases ds with
        | true =>
          have HN' : Hid (partsT D.col f (k + 1) = (J ++ p) ++ (⟨#[32, 100, 101, 115, 99]⟩ : ByteArray)) := by show _ = _; rw [HN.out, if_neg h0]; rfl
          clear HN
          go_wp2_with fail
          go_quiet (fail)
          go_wp2
          go_roundg (n - (k + 1))
          case measure => omega
          case rel => exact ⟨k + 1, by omega, rfl, by go_num, by rw [HN'.out], HB.out.trans ⟨rfl, rfl, rfl, Nat.le_refl _, fun _ _ => rfl⟩⟩
        | false =>
          have HN' : Hid (partsT D.col f (k + 1) = J ++ p) := by show _ = _; rw [HN.out, if_neg h0]; rfl
          clear HN
          go_wp2_with fail
          go_quiet (fail)
          go_wp2
          go_roundg (n - (k + 1))
          case measure => omega
          case rel => exact ⟨k + 1, by omega, rfl, by go_num, by rw [HN'.out], HB.out.trans ⟨rfl, rfl, rfl, Nat.le_refl _, fun _ _ => rfl⟩⟩
    · have hkz : ¬ (k : Int) < (n : Int) := by omega
      obtain rfl : k = n := by omega
      have hjz := HZ.out k hk
      have HE : Hid (partsE D.col k f = partsT D.col f k ++ (⟨#[59, 32]⟩ : ByteArray)) := rfl
      obtain ⟨J, hJ⟩ : ∃ J, Hid (partsT D.col f k = J) := ⟨_, rfl⟩
      rw [hJ.out] at HE hjz ⊢
      have s1 : ¬ (J.size + 2 > 9223372036854775807) := by omega
      have e1 : (⟨#[59, 32]⟩ : ByteArray).size = 2 := rfl
      have HBw : Hid (Below w.heap.size w wr) := hBw
      clear hc hv hB hBw hin hz HZ
      go_wp2
      go_ret
      exact ⟨by rw [HE.out]; rfl, HBw.out⟩
end Go.Proofs.YtfjlmkphnciglatGreatDoor

/-
  The model's l8Name: whether a text is a name.
-/
namespace Go.Proofs.YtfjlmkphnciglatGreatDoor
open Go.RowKit
set_option maxRecDepth 4000

theorem l1In_tok (x l m : Int) (w : World) :
    Calls Tryz.prog 37 #[.int .i64 x, .int .i64 l, .int .i64 m] w fun e w' => e = .returned (.bool (decide (l ≤ x) && decide (x ≤ m))) ∧ w = w' := by
  go_enter Tryz.func37, Tryz.ntmps37
  by_cases h : l ≤ x
  · have e1 : decide (l ≤ x) = true := by simpa using h
    go_wp2
    go_ret
    exact ⟨by simp [h], rfl⟩
  · have e1 : decide (l ≤ x) = false := by simpa using h
    go_wp2
    go_ret
    exact ⟨by simp, rfl⟩

theorem l8Small_any (c : Int) (w : World) (h0 : 0 ≤ c) (h1 : c ≤ 255) :
    Calls Tryz.prog 78 #[.int .u8 c] w fun e w' => e = .returned (.bool (small c)) ∧ w = w' := by
  have e : small c = (decide (97 ≤ c) && decide (c ≤ 122)) := by unfold small; simp
  rw [e]
  go_enter Tryz.func78, Tryz.ntmps78
  go_wp2_with fail
  refine (l1In_tok c 97 122 w).mono ?_
  rintro e w2 ⟨rfl, rfl⟩
  go_wp2
  go_ret
  exact ⟨rfl, rfl⟩
theorem l2Digit_tok (c : Int) (w : World) (h0 : 0 ≤ c) (h1 : c ≤ 255) :
    Calls Tryz.prog 79 #[.int .u8 c] w fun e w' => e = .returned (.bool (digit c)) ∧ w = w' := by
  have e : digit c = (decide (48 ≤ c) && decide (c ≤ 57)) := by unfold digit; simp
  rw [e]
  go_enter Tryz.func79, Tryz.ntmps79
  go_wp2_with fail
  refine (l1In_tok c 48 57 w).mono ?_
  rintro e w2 ⟨rfl, rfl⟩
  go_wp2
  go_ret
  exact ⟨rfl, rfl⟩

set_option maxHeartbeats 1000000 in
theorem l8Name_any (s : ByteArray) (w : World) (hs : s.size ≤ 281474976710656) :
    Calls Tryz.prog 62 #[.string s] w fun e w' => e = .returned (.bool (nameOk s)) ∧ w = w' := by
  go_enter Tryz.func62, Tryz.ntmps62
  go_wp2
  go_loopg [3] s.size (fun q i wr => ∃ k : Nat, k ≤ s.size ∧ q = s.size - k ∧ i = .int .i64 k ∧ wr = w ∧ (0 < k → small (bt s 0) = true) ∧ ∀ j, j < k → inName (bt s j) = true)
  case atStart => exact ⟨0, Nat.zero_le _, rfl, rfl, rfl, fun h => absurd h (Nat.lt_irrefl _), fun j hj => absurd hj (Nat.not_lt_zero _)⟩
  case round =>
    obtain ⟨k, hk, rfl, rfl, rfl, hs0, hall⟩ := hrel
    have HA : Hid ((0 < k → small (bt s 0) = true) ∧ ∀ j, j < k → inName (bt s j) = true) := ⟨hs0, hall⟩
    clear hs0 hall
    by_cases hlt : k < s.size
    · have hkz : (k : Int) < (s.size : Int) := by omega
      have hc := bt_at hlt
      have hbd := bt_bd s k
      obtain ⟨c, hcc⟩ : ∃ c, Hid (bt s k = c) := ⟨_, rfl⟩
      rw [hcc.out] at hc hbd
      have hS := l8Small_any c wr hbd.1 hbd.2
      have hD := l2Digit_tok c wr hbd.1 hbd.2
      go_wp2_with (rw [hc])
      refine hS.mono ?_
      cases hsm : small c with
      | true =>
        rintro e _ ⟨rfl, rfl⟩
        have HN : Hid ((0 < k + 1 → small (bt s 0) = true) ∧ ∀ j, j < k + 1 → inName (bt s j) = true) := by
          refine ⟨fun _ => ?_, fun j hj => ?_⟩
          · by_cases h0 : k = 0
            · subst h0; rw [hcc.out]; exact hsm
            · exact HA.out.1 (by omega)
          · by_cases e : j < k
            · exact HA.out.2 j e
            · obtain rfl : j = k := by omega
              rw [hcc.out]; unfold inName; rw [hsm]; rfl
        clear hS hD
        go_wp2
        go_roundg (s.size - (k + 1))
        case measure => omega
        case rel => exact ⟨k + 1, by omega, rfl, by go_num, rfl, HN.out.1, HN.out.2⟩
      | false =>
        rintro e _ ⟨rfl, rfl⟩
        by_cases h0 : k = 0
        · subst h0
          have HF : Hid (nameOk s = false) := by
            show _ = _
            unfold nameOk
            apply decide_eq_false
            rintro ⟨-, -, h, -⟩
            rw [hcc.out, hsm] at h; cases h
          clear hS hD
          go_wp2
          go_ret
          exact ⟨by rw [HF.out]; rfl, rfl⟩
        · have h0z : ((k : Int) == 0) = false := by simpa using h0
          clear hS
          go_wp2_with (rw [hc])
          refine hD.mono ?_
          cases hdg : digit c with
          | true =>
            rintro e _ ⟨rfl, rfl⟩
            have HN : Hid ((0 < k + 1 → small (bt s 0) = true) ∧ ∀ j, j < k + 1 → inName (bt s j) = true) := by
              refine ⟨fun _ => HA.out.1 (by omega), fun j hj => ?_⟩
              by_cases e : j < k
              · exact HA.out.2 j e
              · obtain rfl : j = k := by omega
                rw [hcc.out]; unfold inName; rw [hdg]; simp
            clear hD
            go_wp2
            go_roundg (s.size - (k + 1))
            case measure => omega
            case rel => exact ⟨k + 1, by omega, rfl, by go_num, rfl, HN.out.1, HN.out.2⟩
          | false =>
            rintro e _ ⟨rfl, rfl⟩
            have HF : Hid (nameOk s = false) := by
              show _ = _
              unfold nameOk
              apply decide_eq_false
              rintro ⟨-, -, -, h⟩
              have := h k hlt
              rw [hcc.out] at this
              unfold inName at this
              rw [hsm, hdg] at this; cases this
            clear hD
            go_wp2
            go_ret
            exact ⟨by rw [HF.out]; rfl, rfl⟩
    · have hkz : ¬ (k : Int) < (s.size : Int) := by omega
      obtain rfl : k = s.size := by omega
      have HF : Hid (nameOk s = (decide ((1 : Int) ≤ (s.size : Int)) && decide ((s.size : Int) ≤ 8))) := by
        show _ = _
        unfold nameOk
        by_cases h1 : 1 ≤ s.size
        · by_cases h2 : s.size ≤ 8
          · rw [decide_eq_true ⟨h1, h2, HA.out.1 (by omega), HA.out.2⟩]
            simp; omega
          · rw [decide_eq_false (fun h => h2 h.2.1)]
            simp; omega
        · rw [decide_eq_false (fun h => h1 h.1)]
          simp; omega
      go_wp2_with fail
      refine (l1In_tok _ 1 8 wr).mono ?_
      rintro e _ ⟨rfl, rfl⟩
      go_wp2
      go_ret
      exact ⟨by rw [HF.out]; rfl, rfl⟩

end Go.Proofs.YtfjlmkphnciglatGreatDoor

/-
  The model's l9Has, l9Word: whether a text may be a name in a table.
-/
namespace Go.Proofs.YtfjlmkphnciglatGreatDoor
open Go.RowKit
set_option maxRecDepth 4000

/-- The words that are no names, as texts. -/
def kwT : List ByteArray := kwords.map (fun l => ⟨l.toArray⟩)
theorem isKw_iff (s : ByteArray) : isKw s = true ↔ ∃ i, i < 10 ∧ kwT.getD i ⟨#[]⟩ = s := by
  have key : ∀ l : List UInt8, s.toList = l ↔ (⟨l.toArray⟩ : ByteArray) = s := by
    intro l
    rw [ByteArray.toList_eq]
    constructor
    · rintro rfl; rfl
    · rintro rfl; rfl
  unfold isKw
  rw [List.contains_iff_mem]
  constructor
  · intro h
    obtain ⟨i, hi, e⟩ := List.mem_iff_getElem.1 h
    refine ⟨i, hi, ?_⟩
    have : kwT.getD i ⟨#[]⟩ = ⟨(kwords[i]'hi).toArray⟩ := by simp [kwT, List.getD, hi]
    rw [this, ← key, e]
  · rintro ⟨i, hi, e⟩
    have hi' : i < kwords.length := hi
    have : kwT.getD i ⟨#[]⟩ = ⟨(kwords[i]'hi').toArray⟩ := by simp [kwT, List.getD, hi']
    rw [this, ← key] at e
    rw [e]
    exact List.getElem_mem _

set_option maxHeartbeats 1000000 in
theorem l9Has_kw (b : Nat) (s : ByteArray) (w : World) (hz : ∀ i, i < 10 → w.cell? ⟨b, i, none⟩ = some (.string (kwT.getD i ⟨#[]⟩))) :
    Calls Tryz.prog 63 #[.slice (some ⟨b, 0, none⟩) 10 10, .string s] w fun e w' => e = .returned (.bool (isKw s)) ∧ w = w' := by
  go_enter Tryz.func63, Tryz.ntmps63
  go_wp2
  go_loopg [5] 10 (fun q i wr => ∃ k : Nat, k ≤ 10 ∧ q = 10 - k ∧ i = .int .i64 k ∧ wr = w ∧ ∀ j, j < k → kwT.getD j ⟨#[]⟩ ≠ s)
  case atStart => exact ⟨0, Nat.zero_le _, rfl, rfl, rfl, fun j hj => absurd hj (Nat.not_lt_zero _)⟩
  case round =>
    obtain ⟨k, hk, rfl, rfl, rfl, hall⟩ := hrel
    have HA : Hid (∀ j, j < k → kwT.getD j ⟨#[]⟩ ≠ s) := hall
    clear hall
    by_cases hlt : k < 10
    · have hkz : (k : Int) < 10 := by omega
      have hc := hz k hlt
      obtain ⟨z, hzz⟩ : ∃ z, Hid (kwT.getD k ⟨#[]⟩ = z) := ⟨_, rfl⟩
      rw [hzz.out] at hc
      clear hz
      by_cases he : z = s
      · have HF : Hid (isKw s = true) := (isKw_iff s).2 ⟨k, hlt, hzz.out.trans he⟩
        subst he
        go_wp2
        go_ret
        exact ⟨by rw [HF.out]; rfl, rfl⟩
      · have HN : Hid (∀ j, j < k + 1 → kwT.getD j ⟨#[]⟩ ≠ s) := by
          intro j hj
          by_cases e : j < k
          · exact HA.out j e
          · obtain rfl : j = k := by omega
            rw [hzz.out]; exact he
        have hne : (z.toList == s.toList) = false := by
          cases h : (z.toList == s.toList) with
          | false => rfl
          | true =>
            have h2 := eq_of_beq h
            rw [ByteArray.toList_eq, ByteArray.toList_eq] at h2
            exact absurd (by obtain ⟨⟨x⟩⟩ := z; obtain ⟨⟨y⟩⟩ := s; simp only at h2; rw [h2]) he
        clear he
        go_wp2
        go_roundg (10 - (k + 1))
        case measure => omega
        case rel => exact ⟨k + 1, by omega, rfl, by go_num, rfl, HN.out⟩
    · have hkz : ¬ (k : Int) < 10 := by omega
      obtain rfl : k = 10 := by omega
      have HF : Hid (isKw s = false) := by
        show _ = _
        cases h : isKw s with
        | false => rfl
        | true =>
          obtain ⟨i, hi, e⟩ := (isKw_iff s).1 h
          exact absurd e (HA.out i hi)
      clear hz
      go_wp2
      go_ret
      exact ⟨by rw [HF.out]; rfl, rfl⟩

set_option maxHeartbeats 1000000 in
theorem l9Word_any (s : ByteArray) (w : World) (hs : s.size ≤ 281474976710656) :
    Calls Tryz.prog 36 #[.string s] w fun e w' => e = .returned (.bool (wordOk s)) ∧ Below w.heap.size w w' := by
  have hN := l8Name_any s w hs
  have HW : Hid (wordOk s = (nameOk s && !isKw s)) := rfl
  have hz : ∀ i, i < 10 → (w.alloc (.cells (kwT.map Value.string).toArray 9)).cell? ⟨w.heap.size, i, none⟩ = some (.string (kwT.getD i ⟨#[]⟩)) := by
    intro i hi
    rw [World.cell?, show (w.alloc (.cells (kwT.map Value.string).toArray 9)).heap[w.heap.size]? = some (.cells (kwT.map Value.string).toArray 9) from Deep.blk_alloc_new _ _]
    have : i < kwT.length := hi
    simp [this]
  have hH := l9Has_kw w.heap.size s _ hz
  cases hn : nameOk s with
  | true =>
    rw [hn] at hN
    go_enter Tryz.func36, Tryz.ntmps36
    go_wp2_with fail
    refine hN.mono ?_
    rintro e _ ⟨rfl, rfl⟩
    clear hN hz
    go_wp2_with fail
    refine hH.mono ?_
    rintro e _ ⟨rfl, rfl⟩
    go_wp2
    go_ret
    exact ⟨by rw [HW.out, hn]; rfl, (Below.refl _ _).alloc (Nat.le_refl _) _⟩
  | false =>
    rw [hn] at hN
    go_enter Tryz.func36, Tryz.ntmps36
    go_wp2_with fail
    refine hN.mono ?_
    rintro e _ ⟨rfl, rfl⟩
    clear hN hz hH
    go_wp2
    go_ret
    exact ⟨by rw [HW.out, hn]; rfl, Below.refl _ _⟩
end Go.Proofs.YtfjlmkphnciglatGreatDoor

/-
  The model's l9Names and l9Types come to the plain ones.
-/
namespace Go.Proofs.YtfjlmkphnciglatGreatDoor
open Go.RowKit
set_option maxRecDepth 4000

set_option maxHeartbeats 1000000 in
theorem l9Names_any (v : Value) (D : PDef) (w : World) (h : DView w v D) (hf : DFine D) :
    Calls Tryz.prog 15 #[v] w fun e w' => e = .returned (.bool (namesF D)) ∧ Below w.heap.size w w' := by
  obtain ⟨ac, cc, ap, cp, ai, ci, rfl, hc, -, hi⟩ := h.is
  clear h
  have hnc := hf.nc
  have hni := hf.ni
  have hW := fun s W (h : s.size ≤ 1048576) => l9Word_any s W (by omega)
  go_enter Tryz.func15, Tryz.ntmps15
  go_wp2
  go_loopg [3] D.nc (fun q i wr => ∃ k : Nat, k ≤ D.nc ∧ q = D.nc - k ∧ i = .int .i64 k ∧ Below (w.heap.size + 1) (w.alloc (.cells #[.string D.name, .slice ac D.nc cc, .slice ap D.np cp, .slice ai D.ni ci] 33)) wr ∧ Hid (∀ j, j < k → wordOk (D.col j).name = true))
  case atStart => exact ⟨0, Nat.zero_le _, rfl, rfl, Below.refl _ _, fun j hj => absurd hj (Nat.not_lt_zero _)⟩
  case round =>
    obtain ⟨k, hk, rfl, rfl, hB, HA⟩ := hrel
    obtain ⟨x0, x1, x2, x3⟩ := box4 hB
    obtain ⟨hBw, hsz⟩ := box4_below hB
    by_cases hlt : k < D.nc
    · have hkz : (k : Int) < (D.nc : Int) := by omega
      obtain ⟨b1, o1, rfl, hb1, hcs⟩ := (hc.below hBw).cells (by omega)
      obtain ⟨y0, -, -⟩ := hcs k hlt
      have hWk := hW (D.col k).name wr (hf.col k hlt)
      have HX : Hid (∀ b, wordOk (D.col k).name = b → (b = true → ∀ j, j < k + 1 → wordOk (D.col j).name = true) ∧ (b = false → namesF D = false)) := by
        intro b e
        refine ⟨fun hb j hj => ?_, fun hb => ?_⟩
        · by_cases hj' : j < k
          · exact HA.out j hj'
          · obtain rfl : j = k := by omega
            rw [e, hb]
        · unfold namesF
          exact decide_eq_false (fun h => by have := h.1 k hlt; rw [e, hb] at this; cases this)
      obtain ⟨z, hz⟩ : ∃ z, Hid ((D.col k).name = z) := ⟨_, rfl⟩
      rw [hz.out] at y0 hWk HX
      clear hcs hc hi hf hW HA
      go_wp2_with fail
      refine hWk.mono ?_
      cases hwk : wordOk z with
      | true =>
        rintro e w2 ⟨rfl, hb2⟩
        have HB2 : Hid (Below (w.heap.size + 1) _ w2) := box4_on hB hb2
        have HN := (HX.out _ hwk).1 rfl
        have HN' : Hid (∀ j, j < k + 1 → wordOk (D.col j).name = true) := HN
        clear hb2 hWk HN HX hwk
        go_wp2
        go_roundg (D.nc - (k + 1))
        case measure => omega
        case rel => exact ⟨k + 1, by omega, rfl, by go_num, HB2.out, HN'⟩
      | false =>
        rintro e w2 ⟨rfl, hb2⟩
        have HB2 : Hid (Below w.heap.size w w2) := (box4_below (box4_on hB hb2)).1
        have HF : Hid (namesF D = false) := (HX.out _ hwk).2 rfl
        clear hb2 hWk HX hwk
        go_wp2
        go_ret
        exact ⟨by rw [HF.out]; rfl, HB2.out⟩
    · have hkz : ¬ (k : Int) < (D.nc : Int) := by omega
      obtain rfl : k = D.nc := by omega
      go_wp2
      go_loopg [4] D.ni (fun q i wr => ∃ k : Nat, k ≤ D.ni ∧ q = D.ni - k ∧ i = .int .i64 k ∧ Below (w.heap.size + 1) (w.alloc (.cells #[.string D.name, .slice ac D.nc cc, .slice ap D.np cp, .slice ai D.ni ci] 33)) wr ∧ Hid (∀ j, j < k → wordOk (D.idx j).name = true))
      case atStart => exact ⟨0, Nat.zero_le _, rfl, rfl, hB, fun j hj => absurd hj (Nat.not_lt_zero _)⟩
      case round =>
        clear x0 x1 x2 x3 hBw hsz hB hkz hlt
        obtain ⟨k, hk, rfl, rfl, hB, HI⟩ := hrel
        obtain ⟨x0, x1, x2, x3⟩ := box4 hB
        obtain ⟨hBw, hsz⟩ := box4_below hB
        by_cases hlt : k < D.ni
        · have hkz : (k : Int) < (D.ni : Int) := by omega
          obtain ⟨b1, o1, rfl, hb1, hcs⟩ := (hi.below hBw).cells (by omega)
          obtain ⟨y0, -, -⟩ := hcs k hlt
          have hWk := hW (D.idx k).name wr (hf.idx k hlt).1
          have HX : Hid (∀ b, wordOk (D.idx k).name = b → (b = true → ∀ j, j < k + 1 → wordOk (D.idx j).name = true) ∧ (b = false → namesF D = false)) := by
            intro b e
            refine ⟨fun hb j hj => ?_, fun hb => ?_⟩
            · by_cases hj' : j < k
              · exact HI.out j hj'
              · obtain rfl : j = k := by omega
                rw [e, hb]
            · unfold namesF
              exact decide_eq_false (fun h => by have := h.2.1 k hlt; rw [e, hb] at this; cases this)
          obtain ⟨z, hz⟩ : ∃ z, Hid ((D.idx k).name = z) := ⟨_, rfl⟩
          rw [hz.out] at y0 hWk HX
          clear hcs hc hi hf hW HA HI
          go_wp2_with fail
          refine hWk.mono ?_
          cases hwk : wordOk z with
          | true =>
            rintro e w2 ⟨rfl, hb2⟩
            have HB2 : Hid (Below (w.heap.size + 1) _ w2) := box4_on hB hb2
            have HN := (HX.out _ hwk).1 rfl
            have HN' : Hid (∀ j, j < k + 1 → wordOk (D.idx j).name = true) := HN
            clear hb2 hWk HN HX hwk
            go_wp2
            go_roundg (D.ni - (k + 1))
            case measure => omega
            case rel => exact ⟨k + 1, by omega, rfl, by go_num, HB2.out, HN'⟩
          | false =>
            rintro e w2 ⟨rfl, hb2⟩
            have HB2 : Hid (Below w.heap.size w w2) := (box4_below (box4_on hB hb2)).1
            have HF : Hid (namesF D = false) := (HX.out _ hwk).2 rfl
            clear hb2 hWk HX hwk
            go_wp2
            go_ret
            exact ⟨by rw [HF.out]; rfl, HB2.out⟩
        · have hkz : ¬ (k : Int) < (D.ni : Int) := by omega
          obtain rfl : k = D.ni := by omega
          have hWk := hW D.name wr hf.name
          have HF : Hid (namesF D = wordOk D.name) := by
            show _ = _
            unfold namesF
            cases hn : wordOk D.name with
            | true => exact decide_eq_true ⟨HA.out, HI.out, rfl⟩
            | false => exact decide_eq_false (fun h => by cases h.2.2)
          clear hc hi hf hW HA HI
          go_wp2_with fail
          refine hWk.mono ?_
          rintro e w2 ⟨rfl, hb2⟩
          have HB2 : Hid (Below w.heap.size w w2) := (box4_below (box4_on hB hb2)).1
          clear hb2 hWk
          go_wp2
          go_ret
          exact ⟨by rw [HF.out]; rfl, HB2.out⟩
end Go.Proofs.YtfjlmkphnciglatGreatDoor

/-
  The model's l9Types comes to the plain one.
-/
namespace Go.Proofs.YtfjlmkphnciglatGreatDoor
open Go.RowKit
set_option maxRecDepth 4000

set_option maxHeartbeats 1000000 in
theorem l9Types_any (v : Value) (D : PDef) (w : World) (h : DView w v D) (hnc : D.nc ≤ 1048576) :
    Calls Tryz.prog 16 #[v] w fun e w' => e = .returned (.bool (typesF D)) ∧ Below w.heap.size w w' := by
  obtain ⟨ac, cc, ap, cp, ai, ci, rfl, hc, -, -⟩ := h.is
  clear h
  go_enter Tryz.func16, Tryz.ntmps16
  go_wp2
  go_loopg [3] D.nc (fun q i wr => ∃ k : Nat, k ≤ D.nc ∧ q = D.nc - k ∧ i = .int .i64 k ∧ Below (w.heap.size + 1) (w.alloc (.cells #[.string D.name, .slice ac D.nc cc, .slice ap D.np cp, .slice ai D.ni ci] 33)) wr ∧ Hid (∀ j, j < k → 1 ≤ (D.col j).type ∧ (D.col j).type ≤ 4))
  case atStart => exact ⟨0, Nat.zero_le _, rfl, rfl, Below.refl _ _, fun j hj => absurd hj (Nat.not_lt_zero _)⟩
  case round =>
    obtain ⟨k, hk, rfl, rfl, hB, HA⟩ := hrel
    obtain ⟨x0, x1, x2, x3⟩ := box4 hB
    obtain ⟨hBw, hsz⟩ := box4_below hB
    by_cases hlt : k < D.nc
    · have hkz : (k : Int) < (D.nc : Int) := by omega
      obtain ⟨b1, o1, rfl, hb1, hcs⟩ := (hc.below hBw).cells (by omega)
      obtain ⟨-, y1, -⟩ := hcs k hlt
      obtain ⟨t, ht⟩ : ∃ t, Hid ((D.col k).type = t) := ⟨_, rfl⟩
      rw [ht.out] at y1
      have hI := l1In_tok t 1 4 wr
      have HX : Hid ((1 ≤ t ∧ t ≤ 4 → ∀ j, j < k + 1 → 1 ≤ (D.col j).type ∧ (D.col j).type ≤ 4) ∧ (¬ (1 ≤ t ∧ t ≤ 4) → typesF D = false)) := by
        refine ⟨fun hb j hj => ?_, fun hb => ?_⟩
        · by_cases hj' : j < k
          · exact HA.out j hj'
          · obtain rfl : j = k := by omega
            rw [ht.out]; exact hb
        · unfold typesF
          exact decide_eq_false (fun h => by have := h.1 k hlt; rw [ht.out] at this; exact hb this)
      clear hcs hc HA
      by_cases hb : 1 ≤ t ∧ t ≤ 4
      · have hd : (decide (1 ≤ t) && decide (t ≤ 4)) = true := by simp [hb]
        rw [hd] at hI
        have HN : Hid (∀ j, j < k + 1 → 1 ≤ (D.col j).type ∧ (D.col j).type ≤ 4) := HX.out.1 hb
        have HB2 : Hid (Below (w.heap.size + 1) _ wr) := hB
        clear hd HX hb hB
        go_wp2_with fail
        refine hI.mono ?_
        rintro e _ ⟨rfl, rfl⟩
        clear hI
        go_wp2
        go_roundg (D.nc - (k + 1))
        case measure => omega
        case rel => exact ⟨k + 1, by omega, rfl, by go_num, HB2.out, HN⟩
      · have hd : (decide (1 ≤ t) && decide (t ≤ 4)) = false := by
          rw [Bool.eq_false_iff]; intro h; simp at h; exact hb h
        rw [hd] at hI
        have HF : Hid (typesF D = false) := HX.out.2 hb
        clear hd HX hb
        go_wp2_with fail
        refine hI.mono ?_
        rintro e _ ⟨rfl, rfl⟩
        clear hI
        go_wp2
        go_ret
        exact ⟨by rw [HF.out]; rfl, hBw⟩
    · have hkz : ¬ (k : Int) < (D.nc : Int) := by omega
      obtain rfl : k = D.nc := by omega
      have HF : Hid (typesF D = (decide ((1 : Int) ≤ (D.nc : Int)) && decide ((D.nc : Int) ≤ 6))) := by
        show _ = _
        unfold typesF
        rw [Bool.eq_iff_iff]
        simp only [decide_eq_true_eq, Bool.and_eq_true]
        exact ⟨fun h => ⟨by omega, by omega⟩, fun h => ⟨HA.out, by omega, by omega⟩⟩
      have hI := l1In_tok D.nc 1 6 wr
      clear hc HA
      go_wp2_with fail
      refine hI.mono ?_
      rintro e _ ⟨rfl, rfl⟩
      clear hI
      go_wp2
      go_ret
      exact ⟨by rw [HF.out]; rfl, hBw⟩
end Go.Proofs.YtfjlmkphnciglatGreatDoor

/-
  The model's l9Col and l9Once come to the plain ones.
-/
namespace Go.Proofs.YtfjlmkphnciglatGreatDoor
open Go.RowKit
set_option maxRecDepth 4000

/-- The place of the first column from the k-th on, of m, that has a name; -1: there is none. -/
def colFrom (f : Nat → PCol) (s : ByteArray) : Nat → Nat → Int
  | 0, _ => -1
  | m + 1, k => if (f k).name = s then (k : Int) else colFrom f s m (k + 1)
/-- The place of the first of n columns that has a name; -1: there is none. -/
def colAt (f : Nat → PCol) (n : Nat) (s : ByteArray) : Int := colFrom f s n 0
theorem colFrom_skip (f : Nat → PCol) (s : ByteArray) : ∀ (k n : Nat), k ≤ n → (∀ j, j < k → (f j).name ≠ s) → colAt f n s = colFrom f s (n - k) k
  | 0, _, _, _ => rfl
  | k + 1, n, hk, hn => by
    rw [colFrom_skip f s k n (by omega) (fun j hj => hn j (by omega)), show n - k = (n - (k + 1)) + 1 by omega, colFrom, if_neg (hn k (by omega))]
theorem colAt_first {f : Nat → PCol} {n k : Nat} {s : ByteArray} (hk : k < n) (he : (f k).name = s) (hn : ∀ j, j < k → (f j).name ≠ s) : colAt f n s = k := by
  rw [colFrom_skip f s k n (by omega) hn, show n - k = (n - k - 1) + 1 by omega, colFrom, if_pos he]
theorem colAt_none {f : Nat → PCol} {n : Nat} {s : ByteArray} (hn : ∀ j, j < n → (f j).name ≠ s) : colAt f n s = -1 := by
  rw [colFrom_skip f s n n (Nat.le_refl _) hn, Nat.sub_self]; rfl
/-- A column is the first of its name just if none ahead has it. -/
theorem colAt_self {f : Nat → PCol} {n k : Nat} (hk : k < n) : colAt f n (f k).name = k ↔ ∀ j, j < k → (f j).name ≠ (f k).name := by
  constructor
  · intro h
    have key : ∀ m, m ≤ k → ∀ j, j < m → (f j).name ≠ (f k).name := by
      intro m
      induction m with
      | zero => intro _ j hj; exact absurd hj (Nat.not_lt_zero _)
      | succ m ih =>
        intro hm j hj
        have hi := ih (by omega)
        by_cases e : j < m
        · exact hi j e
        · obtain rfl : j = m := by omega
          intro he
          have := colAt_first (n := n) (by omega) he hi
          rw [h] at this
          omega
    exact key k (Nat.le_refl _)
  · exact fun h => colAt_first hk rfl h

set_option maxHeartbeats 1000000 in
theorem l9Col_any (v : Value) (D : PDef) (s : ByteArray) (w : World) (h : DView w v D) (hnc : D.nc ≤ 1048576) :
    Calls Tryz.prog 38 #[v, .string s] w fun e w' => e = .returned (.int .i64 (colAt D.col D.nc s)) ∧ Below w.heap.size w w' := by
  obtain ⟨ac, cc, ap, cp, ai, ci, rfl, hc, -, -⟩ := h.is
  clear h
  go_enter Tryz.func38, Tryz.ntmps38
  go_wp2
  go_loopg [5] D.nc (fun q i wr => ∃ k : Nat, k ≤ D.nc ∧ q = D.nc - k ∧ i = .int .i64 k ∧ wr = w.alloc (.cells #[.string D.name, .slice ac D.nc cc, .slice ap D.np cp, .slice ai D.ni ci] 33) ∧ Hid (∀ j, j < k → (D.col j).name ≠ s))
  case atStart => exact ⟨0, Nat.zero_le _, rfl, rfl, rfl, fun j hj => absurd hj (Nat.not_lt_zero _)⟩
  case round =>
    obtain ⟨k, hk, rfl, rfl, hW, HA⟩ := hrel
    have hB : Below (w.heap.size + 1) (w.alloc (.cells #[.string D.name, .slice ac D.nc cc, .slice ap D.np cp, .slice ai D.ni ci] 33)) wr := by rw [hW]; exact Below.refl _ _
    have HW : Hid (wr = w.alloc (.cells #[.string D.name, .slice ac D.nc cc, .slice ap D.np cp, .slice ai D.ni ci] 33)) := hW
    clear hW
    obtain ⟨x0, x1, x2, x3⟩ := box4 hB
    obtain ⟨hBw, hsz⟩ := box4_below hB
    clear hB
    by_cases hlt : k < D.nc
    · have hkz : (k : Int) < (D.nc : Int) := by omega
      obtain ⟨b1, o1, rfl, hb1, hcs⟩ := (hc.below hBw).cells (by omega)
      obtain ⟨y0, -, -⟩ := hcs k hlt
      clear hcs hc
      by_cases he : (D.col k).name = s
      · have HF : Hid (colAt D.col D.nc s = k) := colAt_first hlt he HA.out
        have hq := bytes_eq he
        obtain ⟨z, hz⟩ : ∃ z, Hid ((D.col k).name = z) := ⟨_, rfl⟩
        rw [hz.out] at y0 hq
        clear he
        go_wp2
        go_ret
        exact ⟨by rw [HF.out]; rfl, hBw⟩
      · have HN : Hid (∀ j, j < k + 1 → (D.col j).name ≠ s) := by
          intro j hj
          by_cases hj' : j < k
          · exact HA.out j hj'
          · obtain rfl : j = k := by omega
            exact he
        have hq := bytes_ne he
        obtain ⟨z, hz⟩ : ∃ z, Hid ((D.col k).name = z) := ⟨_, rfl⟩
        rw [hz.out] at y0 hq
        clear he HA
        go_wp2
        go_roundg (D.nc - (k + 1))
        case measure => omega
        case rel => exact ⟨k + 1, by omega, rfl, by go_num, HW.out, HN⟩
    · have hkz : ¬ (k : Int) < (D.nc : Int) := by omega
      obtain rfl : k = D.nc := by omega
      have HF : Hid (colAt D.col D.nc s = -1) := colAt_none HA.out
      clear hc HA
      go_wp2
      go_ret
      exact ⟨by rw [HF.out]; rfl, hBw⟩

set_option maxHeartbeats 2000000 in
theorem l9Once_any (v : Value) (D : PDef) (w : World) (h : DView w v D) (hnc : D.nc ≤ 1048576) (hni : D.ni ≤ 1048576) :
    Calls Tryz.prog 17 #[v] w fun e w' => e = .returned (.bool (onceF D)) ∧ Below w.heap.size w w' := by
  have hL := fun s W hV => l9Col_any v D s W hV hnc
  have hv := h
  obtain ⟨ac, cc, ap, cp, ai, ci, rfl, hc, -, hi⟩ := h.is
  clear h
  go_enter Tryz.func17, Tryz.ntmps17
  go_wp2
  go_loopg [3] D.nc (fun q i wr => ∃ k : Nat, k ≤ D.nc ∧ q = D.nc - k ∧ i = .int .i64 k ∧ Below (w.heap.size + 1) (w.alloc (.cells #[.string D.name, .slice ac D.nc cc, .slice ap D.np cp, .slice ai D.ni ci] 33)) wr ∧ Hid (∀ i, i < k → ∀ j, j < i → (D.col j).name ≠ (D.col i).name))
  case atStart => exact ⟨0, Nat.zero_le _, rfl, rfl, Below.refl _ _, fun j hj => absurd hj (Nat.not_lt_zero _)⟩
  case round =>
    obtain ⟨k, hk, rfl, rfl, hB, HA⟩ := hrel
    obtain ⟨x0, x1, x2, x3⟩ := box4 hB
    obtain ⟨hBw, hsz⟩ := box4_below hB
    by_cases hlt : k < D.nc
    · have hkz : (k : Int) < (D.nc : Int) := by omega
      have hLk := fun W (hb : Below w.heap.size w W) => hL (D.col k).name W (hv.below hb)
      obtain ⟨b1, o1, rfl, hb1, hcs⟩ := (hc.below hBw).cells (by omega)
      obtain ⟨y0, -, -⟩ := hcs k hlt
      have HS : Hid (∀ x, colAt D.col D.nc (D.col k).name = x → (x = (k : Int) → ∀ i, i < k + 1 → ∀ j, j < i → (D.col j).name ≠ (D.col i).name) ∧ (x ≠ (k : Int) → onceF D = false)) := by
        intro x e
        refine ⟨fun hx i hi => ?_, fun hx => ?_⟩
        · by_cases hj' : i < k
          · exact HA.out i hj'
          · obtain rfl : i = k := by omega
            exact (colAt_self hlt).1 (e.trans hx)
        · unfold onceF
          refine decide_eq_false (fun h => hx ?_)
          rw [← e]
          exact (colAt_self hlt).2 (h.1 k hlt)
      obtain ⟨x, hx⟩ : ∃ x, Hid (colAt D.col D.nc (D.col k).name = x) := ⟨_, rfl⟩
      simp only [hx.out] at hLk
      obtain ⟨z, hz⟩ : ∃ z, Hid ((D.col k).name = z) := ⟨_, rfl⟩
      rw [hz.out] at y0
      simp only [hz.out] at hLk
      have HX := HS.out x hx.out
      have HX' : Hid ((x = (k : Int) → ∀ i, i < k + 1 → ∀ j, j < i → (D.col j).name ≠ (D.col i).name) ∧ (x ≠ (k : Int) → onceF D = false)) := HX
      clear hcs hc hi hv hL HA HX HS
      have HBw : Hid (Below w.heap.size w wr) := hBw
      have HB : Hid (Below (w.heap.size + 1) (w.alloc (.cells #[.string D.name, .slice (some ⟨b1, o1, none⟩) D.nc cc, .slice ap D.np cp, .slice ai D.ni ci] 33)) wr) := hB
      clear hBw hB
      go_wp2_with fail
      go_region_held3 (fun WW => (WW.cell? ⟨w.heap.size, 0, none⟩ = some (.string D.name) ∧ WW.cell? ⟨w.heap.size, 1, none⟩ = some (.slice (some ⟨b1, o1, none⟩) D.nc cc) ∧ WW.cell? ⟨w.heap.size, 2, none⟩ = some (.slice ap D.np cp) ∧ WW.cell? ⟨w.heap.size, 3, none⟩ = some (.slice ai D.ni ci)) ∧ WW.cell? ⟨b1, o1 + k * 3, none⟩ = some (.string z)) (first | assumption | go_keep) (first | (go_at_call 38; refine (hLk _ (by repeat (first | exact HBw.out | refine Below.drew ?_))).mono ?_; rintro e w2 ⟨rfl, hB2⟩; have hcells : (w2.cell? ⟨w.heap.size, 0, none⟩ = some (.string D.name) ∧ w2.cell? ⟨w.heap.size, 1, none⟩ = some (.slice (some ⟨b1, o1, none⟩) D.nc cc) ∧ w2.cell? ⟨w.heap.size, 2, none⟩ = some (.slice ap D.np cp) ∧ w2.cell? ⟨w.heap.size, 3, none⟩ = some (.slice ai D.ni ci)) ∧ w2.cell? ⟨b1, o1 + k * 3, none⟩ = some (.string z) := (by (refine ⟨⟨?_, ?_, ?_, ?_⟩, ?_⟩ <;> (rw [hB2.cell (by first | (simp; omega) | exact hb1)]; assumption)))))
      all_goals
        have hb2 : Below wr.heap.size wr w2 := Below.trans (by repeat (first | exact Below.refl _ _ | refine Below.drew ?_)) hB2
        have HB2 : Hid (Below (w.heap.size + 1) (w.alloc (.cells #[.string D.name, .slice (some ⟨b1, o1, none⟩) D.nc cc, .slice ap D.np cp, .slice ai D.ni ci] 33)) w2) := box4_on HB.out hb2
        clear hB2 hb2 hLk HB
        by_cases hxk : x = (k : Int)
        · have hq : (x != (k : Int)) = false := by rw [hxk]; exact bne_self_eq_false _
          have HN : Hid (∀ i, i < k + 1 → ∀ j, j < i → (D.col j).name ≠ (D.col i).name) := HX'.out.1 hxk
          clear hxk HX' HBw hcells
          go_wp2
          go_roundg (D.nc - (k + 1))
          case measure => omega
          case rel => exact ⟨k + 1, by omega, rfl, by go_num, HB2.out, HN⟩
        · have hq : (x != (k : Int)) = true := by simpa using hxk
          have HF : Hid (onceF D = false) := HX'.out.2 hxk
          have HB3 : Hid (Below w.heap.size w w2) := (box4_below HB2.out).1
          clear hxk HX' HBw hcells
          go_wp2
          go_ret
          exact ⟨by rw [HF.out]; rfl, HB3.out⟩
    · have hkz : ¬ (k : Int) < (D.nc : Int) := by omega
      obtain rfl : k = D.nc := by omega
      clear hc hL hv
      go_wp2
      go_loopg [4] D.ni (fun q i wr => ∃ k : Nat, k ≤ D.ni ∧ q = D.ni - k ∧ i = .int .i64 k ∧ Below (w.heap.size + 1) (w.alloc (.cells #[.string D.name, .slice ac D.nc cc, .slice ap D.np cp, .slice ai D.ni ci] 33)) wr ∧ Hid (∀ i, i < k → ∀ j, j < i → (D.idx j).name ≠ (D.idx i).name))
      case atStart => exact ⟨0, Nat.zero_le _, rfl, rfl, hB, fun j hj => absurd hj (Nat.not_lt_zero _)⟩
      case round =>
        clear x0 x1 x2 x3 hBw hsz hB hkz hlt
        obtain ⟨k, hk, rfl, rfl, hB, HI⟩ := hrel
        obtain ⟨x0, x1, x2, x3⟩ := box4 hB
        obtain ⟨hBw, hsz⟩ := box4_below hB
        by_cases hlt : k < D.ni
        · have hkz : (k : Int) < (D.ni : Int) := by omega
          go_wp2
          go_loopg [5] k (fun q i wr => ∃ m : Nat, m ≤ k ∧ q = k - m ∧ i = .int .i64 m ∧ Below (w.heap.size + 1) (w.alloc (.cells #[.string D.name, .slice ac D.nc cc, .slice ap D.np cp, .slice ai D.ni ci] 33)) wr ∧ Hid (∀ j, j < m → (D.idx j).name ≠ (D.idx k).name))
          case atStart => exact ⟨0, Nat.zero_le _, rfl, rfl, hB, fun j hj => absurd hj (Nat.not_lt_zero _)⟩
          case round =>
            clear x0 x1 x2 x3 hBw hsz hB
            obtain ⟨m, hm, rfl, rfl, hB, HM⟩ := hrel
            obtain ⟨x0, x1, x2, x3⟩ := box4 hB
            obtain ⟨hBw, hsz⟩ := box4_below hB
            by_cases hmk : m < k
            · have hmz : (m : Int) < (k : Int) := by omega
              have hmn : (m : Int) < (D.ni : Int) := by omega
              obtain ⟨b1, o1, rfl, hb1, hcs⟩ := (hi.below hBw).cells (by omega)
              obtain ⟨y0, -, -⟩ := hcs k hlt
              obtain ⟨y1, -, -⟩ := hcs m (by omega)
              have HB2 : Hid (Below (w.heap.size + 1) (w.alloc (.cells #[.string D.name, .slice ac D.nc cc, .slice ap D.np cp, .slice (some ⟨b1, o1, none⟩) D.ni ci] 33)) wr) := hB
              have HBw : Hid (Below w.heap.size w wr) := hBw
              clear hcs hi hB hBw
              by_cases he : (D.idx m).name = (D.idx k).name
              · have hq := bytes_eq he
                have HF : Hid (onceF D = false) := by
                  show _ = _
                  unfold onceF
                  exact decide_eq_false (fun h => h.2 k hlt m hmk he)
                obtain ⟨z, hz⟩ : ∃ z, Hid ((D.idx k).name = z) := ⟨_, rfl⟩
                obtain ⟨y, hy⟩ : ∃ y, Hid ((D.idx m).name = y) := ⟨_, rfl⟩
                rw [hz.out] at y0 hq
                rw [hy.out] at y1 hq
                clear he HM HI HA
                go_wp2_with fail
                go_quiet (fail)
                go_wp2
                go_ret
                exact ⟨by rw [HF.out]; rfl, HBw.out.trans ⟨rfl, rfl, rfl, Nat.le_refl _, fun _ _ => rfl⟩⟩
              · have hq := bytes_ne he
                have HN : Hid (∀ j, j < m + 1 → (D.idx j).name ≠ (D.idx k).name) := by
                  intro j hj
                  by_cases hj' : j < m
                  · exact HM.out j hj'
                  · obtain rfl : j = m := by omega
                    exact he
                obtain ⟨z, hz⟩ : ∃ z, Hid ((D.idx k).name = z) := ⟨_, rfl⟩
                obtain ⟨y, hy⟩ : ∃ y, Hid ((D.idx m).name = y) := ⟨_, rfl⟩
                rw [hz.out] at y0 hq
                rw [hy.out] at y1 hq
                clear he HM HI HA
                go_wp2_with fail
                go_quiet (fail)
                go_wp2
                go_roundg (k - (m + 1))
                case measure => omega
                case rel => exact ⟨m + 1, by omega, rfl, by go_num, HB2.out.trans ⟨rfl, rfl, rfl, Nat.le_refl _, fun _ _ => rfl⟩, HN⟩
            · have hmz : ¬ (m : Int) < (k : Int) := by omega
              obtain rfl : m = k := by omega
              have HN : Hid (∀ i, i < m + 1 → ∀ j, j < i → (D.idx j).name ≠ (D.idx i).name) := by
                intro i hi'
                by_cases hj' : i < m
                · exact HI.out i hj'
                · obtain rfl : i = m := by omega
                  exact HM.out
              have HB2 : Hid (Below (w.heap.size + 1) (w.alloc (.cells #[.string D.name, .slice ac D.nc cc, .slice ap D.np cp, .slice ai D.ni ci] 33)) wr) := hB
              clear HM HI HA hi hB hBw
              go_wp2
              go_roundg (D.ni - (m + 1))
              case measure => omega
              case rel => exact ⟨m + 1, by omega, rfl, by go_num, HB2.out, HN⟩
        · have hkz : ¬ (k : Int) < (D.ni : Int) := by omega
          obtain rfl : k = D.ni := by omega
          have HF : Hid (onceF D = true) := decide_eq_true ⟨HA.out, HI.out⟩
          have HBw : Hid (Below w.heap.size w wr) := hBw
          clear HI HA hi hB hBw
          go_wp2
          go_ret
          exact ⟨by rw [HF.out]; rfl, HBw.out⟩
end Go.Proofs.YtfjlmkphnciglatGreatDoor

