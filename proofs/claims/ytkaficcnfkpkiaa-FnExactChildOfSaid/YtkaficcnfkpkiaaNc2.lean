/-
  Together: NodeCopy, BytesEq, NodeEq, NodeChild, LawChildOf, SliceIn, NodeIn
-/
import Derived.Test.YtkaficcnfkpkiaaNc1
import Derived.Deep.LoopGhost
import Derived.Deep.RegionHeld3
import Derived.Test.YtkaficcnfkpkiaaProg
import Derived.WalkKit
import Derived.OpenShut
import Derived.Deep.Strs
import Derived.ChangeSame
import Derived.Lib.SmallJoins
/-
  A node copied, as the law does it.
-/
namespace Go.Proofs.Ytkaficcnfkpkiaa
open Go.RowKit
set_option maxRecDepth 4000

theorem alloc_sizeN (W : World) (o : Obj) : (W.alloc o).heap.size = W.heap.size + 1 := by simp
/-- k of the n elements are copied into the new row. -/
structure CopO (T : TypeId) (z : Value) (w wr : World) (n : Nat) (f : Nat → Value) (k : Nat) : Prop where
  below : Below w.heap.size w wr
  size : w.heap.size < wr.heap.size
  row : wr.rowIs w.heap.size T n (fun j => if j < k then f j else z)
theorem copO_start (T : TypeId) (z : Value) (w : World) (n : Nat) (f : Nat → Value) : CopO T z w (w.alloc (.cells (madeCells #[z] n) T)) n f 0 := by
  have hr := World.rowIs_alloc w (madeCells #[z] n) T (fun _ => z) (fun i hi => by
    rw [size_madeCells] at hi
    simp [madeCells, hi, Nat.mod_one])
  rw [size_madeCells] at hr
  exact ⟨(Below.refl _ _).alloc (Nat.le_refl _) _, by simp, hr.congr (fun i _ => by simp)⟩
theorem CopO.put {T : TypeId} {z : Value} {w wr : World} {n : Nat} {f : Nat → Value} {k : Nat} (h : CopO T z w wr n f k) : CopO T z w (wr.setCell ⟨w.heap.size, k, none⟩ (f k)) n f (k + 1) := by
  refine ⟨h.below.setCell (Nat.le_refl _) _, by simpa using h.size, (h.row.set _ _).congr (fun i _ => ?_)⟩
  by_cases e : i = k
  · subst e; simp
  · rw [if_neg e]
    by_cases hlt : i < k
    · rw [if_pos hlt, if_pos (by omega)]
    · rw [if_neg hlt, if_neg (by omega)]
theorem CopO.view {T : TypeId} {z : Value} {w wr : World} {n : Nat} {f : Nat → Value} (h : CopO T z w wr n f n) : OV wr (some ⟨w.heap.size, 0, none⟩) n n f :=
  OV.ofIs (h.row.congr (fun i hi => by rw [if_pos hi])) (Nat.le_refl _)

theorem infoTx : ∃ i, Try.prog.info? 9 = some i ∧ i.zero = some (.string ⟨#[]⟩) ∧ i.size = 1 ∧ i.bytes = 16 := by
  have h : (Try.prog.info? 9).map (fun i => (i.zero, i.size, i.bytes)) = some (some (.string ⟨#[]⟩), 1, 16) := by kernel_rfl
  obtain ⟨i, hi, hz⟩ := Option.map_eq_some_iff.1 h
  simp only [Prod.mk.injEq] at hz
  exact ⟨i, hi, hz.1, hz.2.1, hz.2.2⟩
theorem makeTx (n : Nat) (h : n ≤ 1048576) (w : World) : (Instr.makeSlice 22 (.int .i64 (n : Int)) (.int .i64 (n : Int))).run Try.prog w = .ok (.slice (some ⟨w.heap.size, 0, none⟩) n n) (w.alloc (.cells (madeCells #[.string ⟨#[]⟩] n) 9)) := by
  obtain ⟨i, hi, hz, hs, hb⟩ := infoTx
  have hr := run_make (P := Try.prog) w 22 9 i _ Try.underlying22 hi hz .i64 .i64 n n (by omega) (Int.le_refl _) (by rw [hb]; omega) (by omega)
  simp only [Int.toNat_natCast, hs, Nat.mul_one] at hr
  exact hr
set_option maxHeartbeats 2000000 in
theorem toStringS_any (a : Option Addr) (n cap : Nat) (f : Nat → ByteArray) (w : World) (h : TxV w a n cap f) (hn : n ≤ 1048576) :
    Calls Try.prog 34 #[.slice a n cap] w fun e w' => e = .returned (.slice (some ⟨w.heap.size, 0, none⟩) n n) ∧ TxV w' (some ⟨w.heap.size, 0, none⟩) n n f ∧ Below w.heap.size w w' ∧ w.heap.size < w'.heap.size := by
  have hmk := fun W => makeTx n hn W
  go_enter Try.func34, Try.ntmps34
  go_wp2
  clear hmk
  go_loopg [4] n (fun q i wr => ∃ k : Nat, k ≤ n ∧ q = n - k ∧ i = .int .i64 k ∧ CopO 9 (.string ⟨#[]⟩) w wr n (fun j => .string (f j)) k)
  case atStart => exact ⟨0, Nat.zero_le _, rfl, rfl, copO_start _ _ w n _⟩
  case round =>
    obtain ⟨k, hk, rfl, rfl, hC⟩ := hrel
    by_cases hlt : k < n
    · obtain ⟨b1, o1, rfl, hb1, x0⟩ := txv_at (h.below hC.below) hlt
      have hkz : (k : Int) < (n : Int) := by omega
      have hS : Hid (CopO 9 (.string ⟨#[]⟩) w (wr.setCell ⟨w.heap.size, k, none⟩ (.string (f k))) n (fun j => .string (f j)) (k + 1)) := hC.put
      have z0 := hC.row.cell (i := k) hlt
      have f0 := hC.row.frozen k
      clear hC h
      go_wp2
      go_roundg (n - (k + 1))
      case measure => omega
      case rel => exact ⟨k + 1, by omega, rfl, by go_num, hS.out⟩
    · have hkn : k = n := by omega
      have hkz : ¬ (k : Int) < (n : Int) := by omega
      rw [hkn] at hC
      have hS : Hid (CopO 9 (.string ⟨#[]⟩) w wr n (fun j => .string (f j)) n) := hC
      clear hC h
      go_wp2
      go_ret
      exact ⟨rfl, hS.out.view, hS.out.below, hS.out.size⟩

theorem infoNu : ∃ i, Try.prog.info? 3 = some i ∧ i.zero = some (.int .i64 0) ∧ i.size = 1 ∧ i.bytes = 8 := by
  have h : (Try.prog.info? 3).map (fun i => (i.zero, i.size, i.bytes)) = some (some (.int .i64 0), 1, 8) := by kernel_rfl
  obtain ⟨i, hi, hz⟩ := Option.map_eq_some_iff.1 h
  simp only [Prod.mk.injEq] at hz
  exact ⟨i, hi, hz.1, hz.2.1, hz.2.2⟩
theorem makeNu (n : Nat) (h : n ≤ 1048576) (w : World) : (Instr.makeSlice 23 (.int .i64 (n : Int)) (.int .i64 (n : Int))).run Try.prog w = .ok (.slice (some ⟨w.heap.size, 0, none⟩) n n) (w.alloc (.cells (madeCells #[.int .i64 0] n) 3)) := by
  obtain ⟨i, hi, hz, hs, hb⟩ := infoNu
  have hr := run_make (P := Try.prog) w 23 3 i _ Try.underlying23 hi hz .i64 .i64 n n (by omega) (Int.le_refl _) (by rw [hb]; omega) (by omega)
  simp only [Int.toNat_natCast, hs, Nat.mul_one] at hr
  exact hr
set_option maxHeartbeats 2000000 in
theorem toIntS_any (a : Option Addr) (n cap : Nat) (f : Nat → Int) (w : World) (h : NuV w a n cap f) (hn : n ≤ 1048576) :
    Calls Try.prog 35 #[.slice a n cap] w fun e w' => e = .returned (.slice (some ⟨w.heap.size, 0, none⟩) n n) ∧ NuV w' (some ⟨w.heap.size, 0, none⟩) n n f ∧ Below w.heap.size w w' ∧ w.heap.size < w'.heap.size := by
  have hmk := fun W => makeNu n hn W
  go_enter Try.func35, Try.ntmps35
  go_wp2
  clear hmk
  go_loopg [4] n (fun q i wr => ∃ k : Nat, k ≤ n ∧ q = n - k ∧ i = .int .i64 k ∧ CopO 3 (.int .i64 0) w wr n (fun j => .int .i64 (f j)) k)
  case atStart => exact ⟨0, Nat.zero_le _, rfl, rfl, copO_start _ _ w n _⟩
  case round =>
    obtain ⟨k, hk, rfl, rfl, hC⟩ := hrel
    by_cases hlt : k < n
    · obtain ⟨b1, o1, rfl, hb1, x0⟩ := nuv_at (h.below hC.below) hlt
      have hkz : (k : Int) < (n : Int) := by omega
      have hS : Hid (CopO 3 (.int .i64 0) w (wr.setCell ⟨w.heap.size, k, none⟩ (.int .i64 (f k))) n (fun j => .int .i64 (f j)) (k + 1)) := hC.put
      have z0 := hC.row.cell (i := k) hlt
      have f0 := hC.row.frozen k
      clear hC h
      go_wp2
      go_roundg (n - (k + 1))
      case measure => omega
      case rel => exact ⟨k + 1, by omega, rfl, by go_num, hS.out⟩
    · have hkn : k = n := by omega
      have hkz : ¬ (k : Int) < (n : Int) := by omega
      rw [hkn] at hC
      have hS : Hid (CopO 3 (.int .i64 0) w wr n (fun j => .int .i64 (f j)) n) := hC
      clear hC h
      go_wp2
      go_ret
      exact ⟨rfl, hS.out.view, hS.out.below, hS.out.size⟩

/-- A node's value whose blocks lie from B on. -/
structure NdOwn (w : World) (B : Nat) (v : Value) (D : PNode) : Prop where
  is : ∃ gc cc gp cp gi ci, v = .agg #[.bool D.leaf, .slice (some ⟨gc, 0, none⟩) D.nk cc, .slice (some ⟨gp, 0, none⟩) D.nv cp, .slice (some ⟨gi, 0, none⟩) D.nd ci] ∧ B ≤ gc ∧ B ≤ gp ∧ B ≤ gi ∧ TxV w (some ⟨gc, 0, none⟩) D.nk cc D.key ∧ TxV w (some ⟨gp, 0, none⟩) D.nv cp D.val ∧ NuV w (some ⟨gi, 0, none⟩) D.nd ci D.kid
theorem NdOwn.view {w : World} {B : Nat} {v : Value} {D : PNode} (h : NdOwn w B v D) : NdView w v D := by
  obtain ⟨gc, cc, gp, cp, gi, ci, e, -, -, -, h1, h2, h3⟩ := h.is
  exact ⟨_, cc, _, cp, _, ci, e, h1, h2, h3⟩

set_option maxHeartbeats 2000000 in
theorem toNode_any (v : Value) (D : PNode) (w : World) (h : NdView w v D) (hf : NFine D) :
    Calls Try.prog 11 #[v] w fun e w' => ∃ v', e = .returned v' ∧ NdOwn w' w.heap.size v' D ∧ Below w.heap.size w w' := by
  obtain ⟨ac, cc, ap, cp, ai, ci, rfl, hc, hp, hi⟩ := h.is
  clear h
  have hb0 : Below w.heap.size w (((w.alloc (.cells #[.bool D.leaf, .slice ac D.nk cc, .slice ap D.nv cp, .slice ai D.nd ci] 25)).alloc (.cells #[.bool false, .slice none 0 0, .slice none 0 0, .slice none 0 0] 28)).alloc (.cells #[.bool D.leaf, .slice none 0 0, .slice none 0 0, .slice none 0 0] 28)) := (((Below.refl _ _).alloc (Nat.le_refl _) _).alloc (by simp) _).alloc (by simp; omega) _
  have hS := toStringS_any ac D.nk cc D.key _ (hc.below hb0) hf.nk
  have V2 := V4.new ((w.alloc (.cells #[.bool D.leaf, .slice ac D.nk cc, .slice ap D.nv cp, .slice ai D.nd ci] 25)).alloc (.cells #[.bool false, .slice none 0 0, .slice none 0 0, .slice none 0 0] 28)) 28 (.bool D.leaf) (.slice none 0 0) (.slice none 0 0) (.slice none 0 0)
  have V1 := (V4.new (w.alloc (.cells #[.bool D.leaf, .slice ac D.nk cc, .slice ap D.nv cp, .slice ai D.nd ci] 25)) 28 (.bool false) (.slice none 0 0) (.slice none 0 0) (.slice none 0 0)).below ((Below.refl _ _).alloc (Nat.le_refl _) (.cells #[.bool D.leaf, .slice none 0 0, .slice none 0 0, .slice none 0 0] 28))
  have V0 := ((V4.new w 25 (.bool D.leaf) (.slice ac D.nk cc) (.slice ap D.nv cp) (.slice ai D.nd ci)).below ((Below.refl _ _).alloc (Nat.le_refl _) (.cells #[.bool false, .slice none 0 0, .slice none 0 0, .slice none 0 0] 28))).below ((Below.refl _ _).alloc (Nat.le_refl _) (.cells #[.bool D.leaf, .slice none 0 0, .slice none 0 0, .slice none 0 0] 28))
  simp only [alloc_sizeN] at V0 V1 V2 hS
  go_enter Try.func11, Try.ntmps11
  go_wp2_with fail
  refine hS.mono ?_
  rintro e w2 ⟨rfl, hv2, hb2, hlt2⟩
  have hbw2 : Below w.heap.size w w2 := hb0.trans (hb2.mono (by omega))
  have V2' := V2.below (by simpa using hb2)
  have V1' := V1.below (by simpa using hb2)
  have V0' := V0.below (by simpa using hb2)
  clear V0 V1 V2 hS hb2 hb0
  obtain ⟨-, a1, -, -⟩ := V2'.cells
  obtain ⟨-, q1, -, -⟩ := V2'.fz
  obtain ⟨W3, hW3⟩ : ∃ W3, Hid (w2.setCell ⟨w.heap.size + 1 + 1, 1, none⟩ (.slice (some ⟨w.heap.size + 1 + 1 + 1, 0, none⟩) D.nk D.nk) = W3) := ⟨_, rfl⟩
  have U2 := V2'.set1 (.slice (some ⟨w.heap.size + 1 + 1 + 1, 0, none⟩) D.nk D.nk)
  have U1 := V1'.other (C := w.heap.size + 1 + 1) (i := 1) (u := .slice (some ⟨w.heap.size + 1 + 1 + 1, 0, none⟩) D.nk D.nk) (by omega)
  have U0 := V0'.other (C := w.heap.size + 1 + 1) (i := 1) (u := .slice (some ⟨w.heap.size + 1 + 1 + 1, 0, none⟩) D.nk D.nk) (by omega)
  have hv3 := hv2.set (B := w.heap.size + 1 + 1) (by omega) 1 (.slice (some ⟨w.heap.size + 1 + 1 + 1, 0, none⟩) D.nk D.nk)
  have hbw3 : Below w.heap.size w (w2.setCell ⟨w.heap.size + 1 + 1, 1, none⟩ (.slice (some ⟨w.heap.size + 1 + 1 + 1, 0, none⟩) D.nk D.nk)) := hbw2.setCell (p := ⟨w.heap.size + 1 + 1, 1, none⟩) (by simp; omega) _
  have hs3 : w.heap.size + 1 + 1 + 1 < (w2.setCell ⟨w.heap.size + 1 + 1, 1, none⟩ (.slice (some ⟨w.heap.size + 1 + 1 + 1, 0, none⟩) D.nk D.nk)).heap.size := by simpa using hlt2
  rw [hW3.out] at U0 U1 U2 hv3 hbw3 hs3
  obtain ⟨u0, u1, u2, u3⟩ := U0.cells
  have hS := toStringS_any ap D.nv cp D.val W3 (hp.below hbw3) hf.nv
  clear V0' V1' V2' hv2 hbw2 hlt2
  go_wp2_with (rw [hW3.out])
  refine hS.mono ?_
  rintro e w4 ⟨rfl, hv4, hb4, hlt4⟩
  obtain ⟨g4, hg4⟩ : ∃ g, Hid (W3.heap.size = g) := ⟨_, rfl⟩
  rw [hg4.out] at hv4 hlt4 hs3 ⊢
  have hbw4 : Below w.heap.size w w4 := hbw3.trans (hb4.mono hbw3.size)
  have T2 := U2.below hb4
  have T1 := U1.below hb4
  have T0 := U0.below hb4
  have hv3' := hv3.below hb4
  clear U0 U1 U2 hS hb4 hbw3 hv3 u0 u1 u2 u3 hc hp a1 q1
  obtain ⟨-, -, a1, -⟩ := T2.cells
  obtain ⟨-, -, q1, -⟩ := T2.fz
  obtain ⟨W5, hW5⟩ : ∃ W5, Hid (w4.setCell ⟨w.heap.size + 1 + 1, 2, none⟩ (.slice (some ⟨g4, 0, none⟩) D.nv D.nv) = W5) := ⟨_, rfl⟩
  have S2 := T2.set2 (.slice (some ⟨g4, 0, none⟩) D.nv D.nv)
  have S1 := T1.other (C := w.heap.size + 1 + 1) (i := 2) (u := .slice (some ⟨g4, 0, none⟩) D.nv D.nv) (by omega)
  have S0 := T0.other (C := w.heap.size + 1 + 1) (i := 2) (u := .slice (some ⟨g4, 0, none⟩) D.nv D.nv) (by omega)
  have hv5 := hv4.set (B := w.heap.size + 1 + 1) (by omega) 2 (.slice (some ⟨g4, 0, none⟩) D.nv D.nv)
  have hv3'' := hv3'.set (B := w.heap.size + 1 + 1) (by omega) 2 (.slice (some ⟨g4, 0, none⟩) D.nv D.nv)
  have hbw5 : Below w.heap.size w (w4.setCell ⟨w.heap.size + 1 + 1, 2, none⟩ (.slice (some ⟨g4, 0, none⟩) D.nv D.nv)) := hbw4.setCell (p := ⟨w.heap.size + 1 + 1, 2, none⟩) (by simp; omega) _
  have hs5 : g4 < (w4.setCell ⟨w.heap.size + 1 + 1, 2, none⟩ (.slice (some ⟨g4, 0, none⟩) D.nv D.nv)).heap.size := by simpa using hlt4
  rw [hW5.out] at S0 S1 S2 hv5 hv3'' hbw5 hs5
  obtain ⟨u0, u1, u2, u3⟩ := S0.cells
  have hS := toIntS_any ai D.nd ci D.kid W5 (hi.below hbw5) hf.nd
  clear T0 T1 T2 hv4 hbw4 hlt4 hv3' hi
  go_wp2_with (rw [hW5.out])
  refine hS.mono ?_
  rintro e w6 ⟨rfl, hv6, hb6, hlt6⟩
  obtain ⟨g6, hg6⟩ : ∃ g, Hid (W5.heap.size = g) := ⟨_, rfl⟩
  rw [hg6.out] at hv6 hlt6 hs5 ⊢
  have hbw6 : Below w.heap.size w w6 := hbw5.trans (hb6.mono hbw5.size)
  have R2 := S2.below hb6
  have R1 := S1.below hb6
  have hv3b := hv3''.below hb6
  have hv5b := hv5.below hb6
  clear S0 S1 S2 hS hb6 hbw5 hv3'' hv5 u0 u1 u2 u3 a1 q1
  obtain ⟨-, -, -, a1⟩ := R2.cells
  obtain ⟨-, -, -, q1⟩ := R2.fz
  obtain ⟨W7, hW7⟩ : ∃ W7, Hid (w6.setCell ⟨w.heap.size + 1 + 1, 3, none⟩ (.slice (some ⟨g6, 0, none⟩) D.nd D.nd) = W7) := ⟨_, rfl⟩
  have Z2 := R2.set3 (.slice (some ⟨g6, 0, none⟩) D.nd D.nd)
  have Z1 := R1.other (C := w.heap.size + 1 + 1) (i := 3) (u := .slice (some ⟨g6, 0, none⟩) D.nd D.nd) (by omega)
  have hv3c := hv3b.set (B := w.heap.size + 1 + 1) (by omega) 3 (.slice (some ⟨g6, 0, none⟩) D.nd D.nd)
  have hv5c := hv5b.set (B := w.heap.size + 1 + 1) (by omega) 3 (.slice (some ⟨g6, 0, none⟩) D.nd D.nd)
  have hv6c := hv6.set (B := w.heap.size + 1 + 1) (by omega) 3 (.slice (some ⟨g6, 0, none⟩) D.nd D.nd)
  have hbw7 : Below w.heap.size w (w6.setCell ⟨w.heap.size + 1 + 1, 3, none⟩ (.slice (some ⟨g6, 0, none⟩) D.nd D.nd)) := hbw6.setCell (p := ⟨w.heap.size + 1 + 1, 3, none⟩) (by simp; omega) _
  rw [hW7.out] at Z1 Z2 hv3c hv5c hv6c hbw7
  obtain ⟨u0, u1, u2, u3⟩ := Z2.cells
  obtain ⟨p0, p1, p2, p3⟩ := Z1.cells
  obtain ⟨k0, k1, k2, k3⟩ := Z1.fz
  have ZF := (((Z1.set0 (.bool D.leaf)).set1 (.slice (some ⟨w.heap.size + 1 + 1 + 1, 0, none⟩) D.nk D.nk)).set2 (.slice (some ⟨g4, 0, none⟩) D.nv D.nv)).set3 (.slice (some ⟨g6, 0, none⟩) D.nd D.nd)
  have HR : Hid (NdOwn ((((W7.setCell ⟨w.heap.size + 1, 0, none⟩ (.bool D.leaf)).setCell ⟨w.heap.size + 1, 1, none⟩ (.slice (some ⟨w.heap.size + 1 + 1 + 1, 0, none⟩) D.nk D.nk)).setCell ⟨w.heap.size + 1, 2, none⟩ (.slice (some ⟨g4, 0, none⟩) D.nv D.nv)).setCell ⟨w.heap.size + 1, 3, none⟩ (.slice (some ⟨g6, 0, none⟩) D.nd D.nd)) w.heap.size (.agg #[.bool D.leaf, .slice (some ⟨w.heap.size + 1 + 1 + 1, 0, none⟩) D.nk D.nk, .slice (some ⟨g4, 0, none⟩) D.nv D.nv, .slice (some ⟨g6, 0, none⟩) D.nd D.nd]) D
      ∧ Below w.heap.size w ((((W7.setCell ⟨w.heap.size + 1, 0, none⟩ (.bool D.leaf)).setCell ⟨w.heap.size + 1, 1, none⟩ (.slice (some ⟨w.heap.size + 1 + 1 + 1, 0, none⟩) D.nk D.nk)).setCell ⟨w.heap.size + 1, 2, none⟩ (.slice (some ⟨g4, 0, none⟩) D.nv D.nv)).setCell ⟨w.heap.size + 1, 3, none⟩ (.slice (some ⟨g6, 0, none⟩) D.nd D.nd))) := by
    refine ⟨⟨_, _, _, _, _, _, rfl, by omega, by omega, by omega, ?_, ?_, ?_⟩, ?_⟩
    · exact (((hv3c.set (B := w.heap.size + 1) (by omega) _ _).set (B := w.heap.size + 1) (by omega) _ _).set (B := w.heap.size + 1) (by omega) _ _).set (B := w.heap.size + 1) (by omega) _ _
    · exact (((hv5c.set (B := w.heap.size + 1) (by omega) _ _).set (B := w.heap.size + 1) (by omega) _ _).set (B := w.heap.size + 1) (by omega) _ _).set (B := w.heap.size + 1) (by omega) _ _
    · exact (((hv6c.set (B := w.heap.size + 1) (by omega) _ _).set (B := w.heap.size + 1) (by omega) _ _).set (B := w.heap.size + 1) (by omega) _ _).set (B := w.heap.size + 1) (by omega) _ _
    · exact (((hbw7.setCell (p := ⟨w.heap.size + 1, 0, none⟩) (by simp) _).setCell (p := ⟨w.heap.size + 1, 1, none⟩) (by simp) _).setCell (p := ⟨w.heap.size + 1, 2, none⟩) (by simp) _).setCell (p := ⟨w.heap.size + 1, 3, none⟩) (by simp) _
  obtain ⟨r0, r1, r2, r3⟩ := ZF.cells
  clear R1 R2 Z1 Z2 ZF hv3b hv5b hv6 hv3c hv5c hv6c hbw6 hbw7 hlt6 hs3 hs5 hf
  go_wp2_with (rw [hW7.out])
  refine bodyPost_ret (v := .agg #[.bool D.leaf, .slice (some ⟨w.heap.size + 1 + 1 + 1, 0, none⟩) D.nk D.nk, .slice (some ⟨g4, 0, none⟩) D.nv D.nv, .slice (some ⟨g6, 0, none⟩) D.nd D.nd]) (by simp [results, Try.results11, go_sem, r0, r1, r2, r3]) rfl ⟨_, rfl, HR.out.1, HR.out.2⟩
end Go.Proofs.Ytkaficcnfkpkiaa

/-
  Texts that are held against each other.
-/
namespace Go.Proofs.Ytkaficcnfkpkiaa
open Go.RowKit
set_option maxRecDepth 4000

theorem bytes_inj {a b : ByteArray} : a.toList = b.toList ↔ a = b := by
  constructor
  · intro h
    rw [ByteArray.toList_eq, ByteArray.toList_eq] at h
    obtain ⟨⟨x⟩⟩ := a
    obtain ⟨⟨y⟩⟩ := b
    simp only at h
    rw [h]
  · rintro rfl; rfl
theorem bytes_eq {a b : ByteArray} (h : a = b) : (a.toList == b.toList) = true := by rw [h]; exact beq_self_eq_true _
theorem bytes_ne {a b : ByteArray} (h : a ≠ b) : (a.toList == b.toList) = false := by
  cases e : (a.toList == b.toList) with
  | false => rfl
  | true => exact absurd (bytes_inj.1 (eq_of_beq e)) h
end Go.Proofs.Ytkaficcnfkpkiaa

/-
  Nodes that read alike are alike, as the law holds them against each other.
-/
namespace Go.Proofs.Ytkaficcnfkpkiaa
open Go.RowKit
set_option maxRecDepth 4000

set_option maxHeartbeats 2000000 in
theorem eqStringS_same (a1 a2 : Option Addr) (n c1 c2 : Nat) (f : Nat → ByteArray) (w : World) (h1 : TxV w a1 n c1 f) (h2 : TxV w a2 n c2 f) (hn : n ≤ 1048576) :
    Calls Try.prog 39 #[.slice a1 n c1, .slice a2 n c2] w fun e w' => e = .returned (.bool true) ∧ Below w.heap.size w w' := by
  go_enter Try.func39, Try.ntmps39
  go_wp2
  go_loopg [5] n (fun q i wr => ∃ k : Nat, k ≤ n ∧ q = n - k ∧ i = .int .i64 k ∧ Below w.heap.size w wr)
  case atStart => exact ⟨0, Nat.zero_le _, rfl, rfl, Below.refl _ _⟩
  case round =>
    obtain ⟨k, hk, rfl, rfl, hB⟩ := hrel
    by_cases hlt : k < n
    · obtain ⟨b1, o1, rfl, hb1, x0⟩ := txv_at (h1.below hB) hlt
      obtain ⟨b2, o2, rfl, hb2, y0⟩ := txv_at (h2.below hB) hlt
      obtain ⟨p0, hp0⟩ : ∃ x, Hid (f k = x) := ⟨_, rfl⟩
      rw [hp0.out] at x0 y0
      have hkz : (k : Int) < (n : Int) := by omega
      have e0 := bytes_eq (a := p0) rfl
      clear h1 h2
      go_wp2
      go_region
      all_goals go_wp2
      all_goals
        go_roundg (n - (k + 1))
        case measure => omega
        case rel => exact ⟨k + 1, by omega, rfl, by go_num, by first | exact hB.drew | exact hB⟩
    · clear h1 h2
      go_wp2
      go_ret
      exact ⟨rfl, hB⟩

set_option maxHeartbeats 2000000 in
theorem eqIntS_same (a1 a2 : Option Addr) (n c1 c2 : Nat) (f : Nat → Int) (w : World) (h1 : NuV w a1 n c1 f) (h2 : NuV w a2 n c2 f) (hn : n ≤ 1048576) :
    Calls Try.prog 40 #[.slice a1 n c1, .slice a2 n c2] w fun e w' => e = .returned (.bool true) ∧ Below w.heap.size w w' := by
  go_enter Try.func40, Try.ntmps40
  go_wp2
  go_loopg [5] n (fun q i wr => ∃ k : Nat, k ≤ n ∧ q = n - k ∧ i = .int .i64 k ∧ Below w.heap.size w wr)
  case atStart => exact ⟨0, Nat.zero_le _, rfl, rfl, Below.refl _ _⟩
  case round =>
    obtain ⟨k, hk, rfl, rfl, hB⟩ := hrel
    by_cases hlt : k < n
    · obtain ⟨b1, o1, rfl, hb1, x0⟩ := nuv_at (h1.below hB) hlt
      obtain ⟨b2, o2, rfl, hb2, y0⟩ := nuv_at (h2.below hB) hlt
      obtain ⟨p0, hp0⟩ : ∃ x, Hid (f k = x) := ⟨_, rfl⟩
      rw [hp0.out] at x0 y0
      have hkz : (k : Int) < (n : Int) := by omega
      have e0 : (p0 != p0) = false := bne_self_eq_false _
      clear h1 h2
      go_wp2
      go_region
      all_goals go_wp2
      all_goals
        go_roundg (n - (k + 1))
        case measure => omega
        case rel => exact ⟨k + 1, by omega, rfl, by go_num, by first | exact hB.drew | exact hB⟩
    · clear h1 h2
      go_wp2
      go_ret
      exact ⟨rfl, hB⟩

set_option maxHeartbeats 2000000 in
theorem eqNode_same (u v : Value) (D : PNode) (w : World) (h1 : NdView w u D) (h2 : NdView w v D) (hf : NFine D) :
    Calls Try.prog 13 #[u, v] w fun e w' => e = .returned (.bool true) ∧ Below w.heap.size w w' := by
  obtain ⟨ac, cc, ap, cp, ai, ci, rfl, hc1, hp1, hi1⟩ := h1.is
  obtain ⟨bc, dc, bp, dp, bi, di, rfl, hc2, hp2, hi2⟩ := h2.is
  clear h1 h2
  have e0 : (D.leaf != D.leaf) = false := bne_self_eq_false _
  have hB0 : Below (w.heap.size + 1 + 1) ((w.alloc (.cells #[.bool D.leaf, .slice ac D.nk cc, .slice ap D.nv cp, .slice ai D.nd ci] 28)).alloc (.cells #[.bool D.leaf, .slice bc D.nk dc, .slice bp D.nv dp, .slice bi D.nd di] 28)) ((w.alloc (.cells #[.bool D.leaf, .slice ac D.nk cc, .slice ap D.nv cp, .slice ai D.nd ci] 28)).alloc (.cells #[.bool D.leaf, .slice bc D.nk dc, .slice bp D.nv dp, .slice bi D.nd di] 28)) := Below.refl _ _
  obtain ⟨hBw0, -⟩ := nbox44_below hB0
  have hV1 := eqStringS_same ac bc D.nk cc dc D.key _ (hc1.below hBw0) (hc2.below hBw0) hf.nk
  go_enter Try.func13, Try.ntmps13
  go_wp2_with fail
  refine hV1.mono ?_
  rintro e w1 ⟨rfl, hb1⟩
  have hB1 := nbox44_on hB0 hb1
  obtain ⟨hBw1, hs1⟩ := nbox44_below hB1
  obtain ⟨⟨x0, x1, x2, x3⟩, y0, y1, y2, y3⟩ := nbox44 hB1
  have hV2 := eqStringS_same ap bp D.nv cp dp D.val w1 (hp1.below hBw1) (hp2.below hBw1) hf.nv
  clear hV1 hb1 hB0 hBw0 hc1 hc2
  go_wp2_with fail
  refine hV2.mono ?_
  rintro e w2 ⟨rfl, hb2⟩
  have hB2 := nbox44_on hB1 hb2
  obtain ⟨hBw2, hs2⟩ := nbox44_below hB2
  clear x0 x1 x2 x3 y0 y1 y2 y3
  obtain ⟨⟨x0, x1, x2, x3⟩, y0, y1, y2, y3⟩ := nbox44 hB2
  have hV3 := eqIntS_same ai bi D.nd ci di D.kid w2 (hi1.below hBw2) (hi2.below hBw2) hf.nd
  clear hV2 hb2 hB1 hBw1 hp1 hp2 hs1
  go_wp2_with fail
  refine hV3.mono ?_
  rintro e w3 ⟨rfl, hb3⟩
  have HB : Hid (Below w.heap.size w w3) := (nbox44_below (nbox44_on hB2 hb3)).1
  clear hV3 hb3 hB2 hBw2 hi1 hi2 hf
  go_wp2
  go_ret
  exact ⟨rfl, HB.out⟩
end Go.Proofs.Ytkaficcnfkpkiaa

/-
  How many keys of a node are no greater than a key: the model's and the program's.
-/
namespace Go.Proofs.Ytkaficcnfkpkiaa
open Go.RowKit
set_option maxRecDepth 4000

/-- A text that is no greater than another. -/
def leT (a b : ByteArray) : Bool := Op.bytesLess a.toList b.toList || a.toList == b.toList
/-- How many of the first k are no greater. -/
def cntLe (f : Nat → ByteArray) (s : ByteArray) : Nat → Nat
  | 0 => 0
  | k + 1 => cntLe f s k + (if leT (f k) s then 1 else 0)
theorem cntLe_le (f : Nat → ByteArray) (s : ByteArray) : ∀ k, cntLe f s k ≤ k
  | 0 => Nat.le_refl _
  | k + 1 => by have := cntLe_le f s k; simp only [cntLe]; split <;> omega
theorem leq_str (a b : ByteArray) (w : World) : (binOp .leq 9 (.string a) (.string b)).run Try.prog w = .ok (.bool (leT a b)) w := by
  simp [go_sem, binOp, Op.stringOp, leT]

set_option maxHeartbeats 2000000 in
theorem specChild_any (v : Value) (D : PNode) (s : ByteArray) (w : World) (h : NdView w v D) (hf : NFine D) :
    Calls Try.prog 28 #[v, .string s] w fun e w' => e = .returned (.int .i64 (cntLe D.key s D.nk)) ∧ Below w.heap.size w w' := by
  obtain ⟨ac, cc, ap, cp, ai, ci, rfl, hc, -, -⟩ := h.is
  have hnk := hf.nk
  clear h hf
  have hB0 := nbox_start w (.cells #[.bool D.leaf, .slice ac D.nk cc, .slice ap D.nv cp, .slice ai D.nd ci] 28)
  go_enter Try.func28, Try.ntmps28
  go_wp2
  go_loopg [5, 6] D.nk (fun q c i wr => ∃ k : Nat, k ≤ D.nk ∧ q = D.nk - k ∧ c = .int .i64 (cntLe D.key s k) ∧ i = .int .i64 k ∧ Below (w.heap.size + 1) (w.alloc (.cells #[.bool D.leaf, .slice ac D.nk cc, .slice ap D.nv cp, .slice ai D.nd ci] 28)) wr)
  case atStart => exact ⟨0, Nat.zero_le _, rfl, rfl, rfl, hB0⟩
  case round =>
    clear hB0
    obtain ⟨k, hk, rfl, rfl, rfl, hB⟩ := hrel
    obtain ⟨x0, x1, x2, x3⟩ := nbox4 hB
    have hBw := (nbox_below hB).1
    by_cases hlt : k < D.nk
    · obtain ⟨b1, o1, rfl, hb1, y0⟩ := txv_at (hc.below hBw) hlt
      have hkz : (k : Int) < (D.nk : Int) := by omega
      have hle := cntLe_le D.key s k
      have HS : Hid ((cntLe D.key s (k + 1) : Int) = cntLe D.key s k + (if leT (D.key k) s then 1 else 0)) := by
        show _ = _
        simp only [cntLe]; split <;> simp
      have hL := fun W => leq_str (D.key k) s W
      obtain ⟨p0, hp0⟩ : ∃ x, Hid (D.key k = x) := ⟨_, rfl⟩
      obtain ⟨n0, hn0⟩ : ∃ x, Hid (cntLe D.key s k = x) := ⟨_, rfl⟩
      simp only [hp0.out] at hL
      rw [hp0.out] at y0
      rw [hp0.out, hn0.out] at HS
      rw [hn0.out] at hle ⊢
      have HB : Hid (Below (w.heap.size + 1) (w.alloc (.cells #[.bool D.leaf, .slice (some ⟨b1, o1, none⟩) D.nk cc, .slice ap D.nv cp, .slice ai D.nd ci] 28)) wr) := hB
      clear hB hBw hc
      cases hb : leT p0 s
      · rw [hb] at HS
        simp only [hb] at hL
        go_wp2
        go_roundg (D.nk - (k + 1))
        case measure => omega
        case rel => exact ⟨k + 1, by omega, rfl, by rw [HS.out]; simp, by go_num, HB.out⟩
      · rw [hb] at HS
        simp only [hb] at hL
        go_wp2
        go_roundg (D.nk - (k + 1))
        case measure => omega
        case rel => exact ⟨k + 1, by omega, rfl, by rw [HS.out]; go_num, by go_num, HB.out⟩
    · obtain rfl : k = D.nk := by omega
      have hkz : ¬ (D.nk : Int) < (D.nk : Int) := by omega
      clear hc hB
      go_wp2
      go_ret
      exact ⟨rfl, hBw⟩

set_option maxHeartbeats 2000000 in
theorem implChild_any (v : Value) (D : PNode) (s : ByteArray) (w : World) (h : NdView w v D) (hf : NFine D) :
    Calls Try.prog 29 #[v, .string s] w fun e w' => e = .returned (.int .i64 (cntLe D.key s D.nk)) ∧ Below w.heap.size w w' := by
  obtain ⟨ac, cc, ap, cp, ai, ci, rfl, hc, -, -⟩ := h.is
  have hnk := hf.nk
  clear h hf
  have hB0 := nbox_start w (.cells #[.bool D.leaf, .slice ac D.nk cc, .slice ap D.nv cp, .slice ai D.nd ci] 28)
  go_enter Try.func29, Try.ntmps29
  go_wp2
  go_loopg [5, 11] D.nk (fun q c i wr => ∃ k : Nat, k ≤ D.nk ∧ q = D.nk - k ∧ c = .int .i64 (cntLe D.key s k) ∧ i = .int .i64 k ∧ Below (w.heap.size + 1) (w.alloc (.cells #[.bool D.leaf, .slice ac D.nk cc, .slice ap D.nv cp, .slice ai D.nd ci] 28)) wr)
  case atStart => exact ⟨0, Nat.zero_le _, rfl, rfl, rfl, hB0⟩
  case round =>
    clear hB0
    obtain ⟨k, hk, rfl, rfl, rfl, hB⟩ := hrel
    have hBw := (nbox_below hB).1
    by_cases hlt : k < D.nk
    · obtain ⟨b1, o1, rfl, hb1, y0⟩ := txv_at (hc.below hBw) hlt
      have hkz : (k : Int) < (D.nk : Int) := by omega
      have hle := cntLe_le D.key s k
      have HS : Hid ((cntLe D.key s (k + 1) : Int) = cntLe D.key s k + (if leT (D.key k) s then 1 else 0)) := by
        show _ = _
        simp only [cntLe]; split <;> simp
      have hL := fun W => leq_str (D.key k) s W
      obtain ⟨p0, hp0⟩ : ∃ x, Hid (D.key k = x) := ⟨_, rfl⟩
      obtain ⟨n0, hn0⟩ : ∃ x, Hid (cntLe D.key s k = x) := ⟨_, rfl⟩
      simp only [hp0.out] at hL
      rw [hp0.out] at y0
      rw [hp0.out, hn0.out] at HS
      rw [hn0.out] at hle ⊢
      have HB : Hid (Below (w.heap.size + 1) (w.alloc (.cells #[.bool D.leaf, .slice (some ⟨b1, o1, none⟩) D.nk cc, .slice ap D.nv cp, .slice ai D.nd ci] 28)) wr) := hB
      clear hB hBw hc
      cases hb : leT p0 s
      · rw [hb] at HS
        simp only [hb] at hL
        go_wp2
        go_roundg (D.nk - (k + 1))
        case measure => omega
        case rel => exact ⟨k + 1, by omega, rfl, by rw [HS.out]; simp, by go_num, HB.out⟩
      · rw [hb] at HS
        simp only [hb] at hL
        go_wp2
        go_roundg (D.nk - (k + 1))
        case measure => omega
        case rel => exact ⟨k + 1, by omega, rfl, by rw [HS.out]; go_num, by go_num, HB.out⟩
    · obtain rfl : k = D.nk := by omega
      have hkz : ¬ (D.nk : Int) < (D.nk : Int) := by omega
      clear hc hB
      go_wp2
      go_ret
      exact ⟨rfl, hBw⟩
end Go.Proofs.Ytkaficcnfkpkiaa

/-
  The law FnExactChildOf, walked.
-/
namespace Go.Proofs.Ytkaficcnfkpkiaa
open Go.RowKit
set_option maxRecDepth 4000

set_option maxHeartbeats 4000000 in
theorem lawChildOf (v : Value) (D : PNode) (s : ByteArray) (w : World) (h : NdView w v D) (hm : NLim D) (hs0 : s.size ≤ maxLen)
    (hI : ∀ (W : World) (v' : Value), Below w.heap.size w W → NdView W v' D → NFine D → Calls Try.prog 29 #[v', .string s] W fun e w' => e = .returned (.int .i64 (cntLe D.key s D.nk)) ∧ Below W.heap.size W w') :
    Calls Try.prog 8 #[v, .string s] w fun e w' => e = .returned (.bool true) ∧ Below w.heap.size w w' := by
  have hv := h
  obtain ⟨ac, cc, ap, cp, ai, ci, rfl, -, -, -⟩ := h.is
  clear h
  have hB0 := nbox_start w (.cells #[.bool D.leaf, .slice ac D.nk cc, .slice ap D.nv cp, .slice ai D.nd ci] 25)
  obtain ⟨hBw0, -⟩ := nbox_below hB0
  have hZ := szNode_fine _ D 1048576 _ (hv.below hBw0) hm (by omega) (by omega)
  clear hm
  have hsz1 : (s.size : Int) ≤ 9223372036854775807 := by unfold maxLen at hs0; omega
  by_cases hbig : (1048576 : Int) < (s.size : Int)
  · have HB : Hid (Below w.heap.size w (w.alloc (.cells #[.bool D.leaf, .slice ac D.nk cc, .slice ap D.nv cp, .slice ai D.nd ci] 25))) := hBw0
    clear hI hv hB0 hBw0 hZ
    go_enter Try.func8, Try.ntmps8
    go_wp2
    go_ret
    exact ⟨rfl, HB.out⟩
  go_enter Try.func8, Try.ntmps8
  go_wp2_with fail
  refine hZ.mono ?_
  rintro e w1 ⟨L, rfl, hb1, hL⟩
  have hB1 := nbox_on hB0 hb1
  obtain ⟨hBw1, hs1⟩ := nbox_below hB1
  obtain ⟨x0, x1, x2, x3⟩ := nbox4 hB1
  clear hZ hb1 hB0 hBw0
  rcases hL with rfl | ⟨hL0, hL1, hf⟩
  · have HB : Hid (Below w.heap.size w w1) := hBw1
    clear hI hv hB1 hBw1
    go_wp2
    go_ret
    exact ⟨rfl, HB.out⟩
  have hLn : ¬ L < 0 := by omega
  have hT := toNode_any _ D w1 (hv.below hBw1) hf
  go_wp2_with fail
  refine hT.mono ?_
  rintro e w2 ⟨v2, rfl, hO2, hb2⟩
  have hB2 := nbox_on hB1 hb2
  obtain ⟨hBw2, hs2⟩ := nbox_below hB2
  have hP := specChild_any v2 D s w2 hO2.view hf
  obtain ⟨r, hr⟩ : ∃ r, Hid ((cntLe D.key s D.nk : Int) = r) := ⟨_, rfl⟩
  simp only [hr.out] at hP hI
  clear hT hb2 hB1 hBw1 hs1 hO2 x0 x1 x2 x3
  go_wp2_with fail
  refine hP.mono ?_
  rintro e w3 ⟨rfl, hb3⟩
  have hB3 := nbox_on hB2 hb3
  obtain ⟨hBw3, hs3⟩ := nbox_below hB3
  obtain ⟨x0, x1, x2, x3⟩ := nbox4 hB3
  have hT := toNode_any _ D w3 (hv.below hBw3) hf
  clear hP hb3 hB2 hBw2 hs2
  go_wp2_with fail
  refine hT.mono ?_
  rintro e w4 ⟨v4, rfl, hO4, hb4⟩
  have hB4 := nbox_on hB3 hb4
  obtain ⟨hBw4, hs4⟩ := nbox_below hB4
  have hD4 := hO4.view
  obtain ⟨gc, kc, gp, kp, gi, ki, rfl, -, -, -, -, -, -⟩ := hO4.is
  have hbA : Below w4.heap.size w4 (w4.alloc (.cells #[.bool D.leaf, .slice (some ⟨gc, 0, none⟩) D.nk kc, .slice (some ⟨gp, 0, none⟩) D.nv kp, .slice (some ⟨gi, 0, none⟩) D.nd ki] 28)) := (Below.refl _ _).alloc (Nat.le_refl _) _
  have hB5 := nbox_on hB4 hbA
  obtain ⟨hBw5, hs5⟩ := nbox_below hB5
  have hG := hI _ _ hBw5 (hD4.below hbA) hf
  have C5 := nbox_start w4 (.cells #[.bool D.leaf, .slice (some ⟨gc, 0, none⟩) D.nk kc, .slice (some ⟨gp, 0, none⟩) D.nv kp, .slice (some ⟨gi, 0, none⟩) D.nd ki] 28)
  clear hT hb4 hB3 hBw3 hs3 hO4 x0 x1 x2 x3 hI hB4 hBw4
  go_wp2_with fail
  refine hG.mono ?_
  rintro e w6 ⟨rfl, hb6⟩
  have hB6 := nbox_on hB5 hb6
  obtain ⟨hBw6, hs6⟩ := nbox_below hB6
  have C6 := nbox_on C5 hb6
  obtain ⟨hCw6, ht6⟩ := nbox_below C6
  have hD6 := hD4.below hCw6
  obtain ⟨x0, x1, x2, x3⟩ := nbox4 hB6
  obtain ⟨y0, y1, y2, y3⟩ := nbox4 C6
  have hE : ∀ W u, Below w6.heap.size w6 W → NdView W u D → Calls Try.prog 13 #[.agg #[.bool D.leaf, .slice (some ⟨gc, 0, none⟩) D.nk kc, .slice (some ⟨gp, 0, none⟩) D.nv kp, .slice (some ⟨gi, 0, none⟩) D.nd ki], u] W fun e w' => e = .returned (.bool true) ∧ Below W.heap.size W w' := fun W u hb hu => eqNode_same _ u D W (hD6.below hb) hu hf
  have hT : ∀ W, Below w6.heap.size w6 W → Calls Try.prog 11 #[.agg #[.bool D.leaf, .slice ac D.nk cc, .slice ap D.nv cp, .slice ai D.nd ci]] W fun e w' => ∃ v', e = .returned v' ∧ NdOwn w' W.heap.size v' D ∧ Below W.heap.size W w' := fun W hb => toNode_any _ D W (hv.below (hBw6.trans (hb.mono (by have := hBw6.size; exact this)))) hf
  have hq : (r != r) = false := bne_self_eq_false _
  obtain ⟨X, hX⟩ : ∃ X, Hid (w4.heap.size = X) := ⟨_, rfl⟩
  rw [hX.out] at y0 y1 y2 y3 ht6 ⊢
  have HWK : Hid (∀ W, Below w6.heap.size w6 W → (W.cell? ⟨w.heap.size, 0, none⟩ = some (.bool D.leaf) ∧ W.cell? ⟨w.heap.size, 1, none⟩ = some (.slice ac D.nk cc) ∧ W.cell? ⟨w.heap.size, 2, none⟩ = some (.slice ap D.nv cp) ∧ W.cell? ⟨w.heap.size, 3, none⟩ = some (.slice ai D.nd ci)) ∧ (W.cell? ⟨X, 0, none⟩ = some (.bool D.leaf) ∧ W.cell? ⟨X, 1, none⟩ = some (.slice (some ⟨gc, 0, none⟩) D.nk kc) ∧ W.cell? ⟨X, 2, none⟩ = some (.slice (some ⟨gp, 0, none⟩) D.nv kp) ∧ W.cell? ⟨X, 3, none⟩ = some (.slice (some ⟨gi, 0, none⟩) D.nd ki))) := by
    intro W hb
    refine ⟨⟨?_, ?_, ?_, ?_⟩, ?_, ?_, ?_, ?_⟩ <;> (rw [hb.cell (by first | exact hs6 | exact ht6)]; assumption)
  have HB6 : Hid (Below w.heap.size w w6) := hBw6
  clear hG hb6 hB5 hBw5 hs5 C5 C6 hCw6 hD6 hD4 hB6 hBw6 hbA hv hf hs4
  go_wp2_with fail
  go_region_held3 (fun WW => (WW.cell? ⟨w.heap.size, 0, none⟩ = some (.bool D.leaf) ∧ WW.cell? ⟨w.heap.size, 1, none⟩ = some (.slice ac D.nk cc) ∧ WW.cell? ⟨w.heap.size, 2, none⟩ = some (.slice ap D.nv cp) ∧ WW.cell? ⟨w.heap.size, 3, none⟩ = some (.slice ai D.nd ci)) ∧ (WW.cell? ⟨X, 0, none⟩ = some (.bool D.leaf) ∧ WW.cell? ⟨X, 1, none⟩ = some (.slice (some ⟨gc, 0, none⟩) D.nk kc) ∧ WW.cell? ⟨X, 2, none⟩ = some (.slice (some ⟨gp, 0, none⟩) D.nv kp) ∧ WW.cell? ⟨X, 3, none⟩ = some (.slice (some ⟨gi, 0, none⟩) D.nd ki))) (first | assumption | go_keep) (first
    | (go_at_call 11; refine (hT _ (by repeat (first | exact Below.refl _ _ | refine Below.drew ?_))).mono ?_; rintro e w7 ⟨v7, rfl, hO7, hB7⟩; have hb7 : Below w6.heap.size w6 w7 := Below.trans (by repeat (first | exact Below.refl _ _ | refine Below.drew ?_)) hB7; have hcells : (w7.cell? ⟨w.heap.size, 0, none⟩ = some (.bool D.leaf) ∧ w7.cell? ⟨w.heap.size, 1, none⟩ = some (.slice ac D.nk cc) ∧ w7.cell? ⟨w.heap.size, 2, none⟩ = some (.slice ap D.nv cp) ∧ w7.cell? ⟨w.heap.size, 3, none⟩ = some (.slice ai D.nd ci)) ∧ (w7.cell? ⟨X, 0, none⟩ = some (.bool D.leaf) ∧ w7.cell? ⟨X, 1, none⟩ = some (.slice (some ⟨gc, 0, none⟩) D.nk kc) ∧ w7.cell? ⟨X, 2, none⟩ = some (.slice (some ⟨gp, 0, none⟩) D.nv kp) ∧ w7.cell? ⟨X, 3, none⟩ = some (.slice (some ⟨gi, 0, none⟩) D.nd ki)) := HWK.out _ hb7)
    | (go_at_call 13; refine (hE _ _ (by repeat (first | exact hb7 | refine Below.drew ?_)) (by first | exact hO7.view | exact hO7.view.below (Below.refl _ _).drew)).mono ?_; rintro e w8 ⟨rfl, hB8⟩; have hb8 : Below w6.heap.size w6 w8 := Below.trans hb7 (Below.trans (by repeat (first | exact Below.refl _ _ | refine Below.drew ?_)) (hB8.mono (by have := hb7.size; exact this))); have hcells8 : (w8.cell? ⟨w.heap.size, 0, none⟩ = some (.bool D.leaf) ∧ w8.cell? ⟨w.heap.size, 1, none⟩ = some (.slice ac D.nk cc) ∧ w8.cell? ⟨w.heap.size, 2, none⟩ = some (.slice ap D.nv cp) ∧ w8.cell? ⟨w.heap.size, 3, none⟩ = some (.slice ai D.nd ci)) ∧ (w8.cell? ⟨X, 0, none⟩ = some (.bool D.leaf) ∧ w8.cell? ⟨X, 1, none⟩ = some (.slice (some ⟨gc, 0, none⟩) D.nk kc) ∧ w8.cell? ⟨X, 2, none⟩ = some (.slice (some ⟨gp, 0, none⟩) D.nv kp) ∧ w8.cell? ⟨X, 3, none⟩ = some (.slice (some ⟨gi, 0, none⟩) D.nd ki)) := HWK.out _ hb8))
  all_goals
    have HB : Hid (Below w.heap.size w w8) := HB6.out.trans (hb8.mono (by have := HB6.out.size; exact this))
    clear hb7 hb8 hB7 hB8 hcells hcells8 hT hE HWK HB6
    go_wp2
    go_ret
    exact ⟨rfl, by first | exact HB.out | exact HB.out.drew⟩
end Go.Proofs.Ytkaficcnfkpkiaa

/-
  What the frame of a row hands over of a slice that came in, element by element.
-/
namespace Go.Proofs.Ytkaficcnfkpkiaa
open Go.RowKit
set_option maxRecDepth 4000
open Go.Deep Go.ChangeShapes

/-- A slice that came in, whose elements are each read. -/
theorem sliceIn {H : Type} {enc : TypeId × Value → H} {W : World} {sp : Nat → Bool} {α : Type} [Inhabited α] {T e : TypeId} {c fuel : Nat} {cs : List Value} {x : DataW H × List MemPlace}
    (ht : Try.prog.underlying T = some (.slice e)) (hc : Try.prog.cellsOf e = c) (hc0 : 0 < c) (Q : Addr → α → Prop)
    (each : ∀ (fuel : Nat) (cs : List Value) (x : DataW H × List MemPlace) (a : Addr), cs.length = c → (∀ j, j < c → W.cell? (a.add j) = cs[j]?) → DataW.trod enc Try.prog W 0 sp true fuel e cs = some x → ∃ y, Q a y)
    (h : DataW.trod enc Try.prog W 0 sp true fuel T cs = some x) :
    ∃ (ao : Option Addr) (n cap : Nat) (f : Nat → α), cs = [.slice ao n cap] ∧ n ≤ cap ∧ cap ≤ maxLen ∧ (0 < n → ∃ b off, ao = some ⟨b, off, none⟩ ∧ b < W.heap.size ∧ ∀ i, i < n → Q ⟨b, off + i * c, none⟩ (f i)) := by
  rcases DataW.trod_slice ht h with ⟨hcs, _⟩ | ⟨a, l, cap, elems, rest, n, _, hcs, _, _, hl, hm, hlen, hel, _, _⟩
  · exact ⟨none, 0, 0, fun _ => default, hcs, Nat.le_refl _, Nat.zero_le _, fun h => absurd h (Nat.lt_irrefl _)⟩
  · have key : ∀ i, i < l → ∃ y, Q (a.add (i * c)) y ∧ W.cell? (a.add (i * c)) ≠ none := by
      intro i hi
      have h1 := hel i hi
      rw [hc] at h1
      have h2 : elems[i]? = some elems[i] := List.getElem?_eq_getElem (by omega)
      rw [h2] at h1
      obtain ⟨cs, hcs, htr⟩ := Option.bind_eq_some_iff.1 h1
      obtain ⟨_, hl3, hcell⟩ := World.cells?_some hcs
      obtain ⟨y, hy⟩ := each n cs _ _ hl3 (fun j hj => hcell j hj) htr
      refine ⟨y, hy, ?_⟩
      have := hcell 0 (by omega)
      intro hn
      rw [show (a.add (i * c)).add 0 = a.add (i * c) by unfold Addr.add; split <;> simp_all, hn, List.getElem?_eq_getElem (by omega)] at this
      cases this
    have pick : ∃ f : Nat → α, ∀ i, i < l → Q (a.add (i * c)) (f i) := ⟨fun i => if h : i < l then (key i h).choose else default, fun i hi => by simp only [dif_pos hi]; exact (key i hi).choose_spec.1⟩
    obtain ⟨f, hf⟩ := pick
    refine ⟨some a, l, cap, f, hcs, hl, hm, fun hn => ?_⟩
    obtain ⟨b, off, spot⟩ := a
    obtain ⟨y0, -, h0⟩ := key 0 hn
    obtain ⟨u, hu⟩ := Option.ne_none_iff_exists'.1 h0
    have hs : spot = none := by simpa [Addr.add] using World.cell?_spot hu
    subst hs
    have ea : ∀ j, (⟨b, off, none⟩ : Addr).add j = ⟨b, off + j, none⟩ := fun j => by unfold Addr.add; split <;> simp_all
    rw [ea] at hu
    refine ⟨b, off, rfl, World.block_lt_of_cell? _ _ hu, fun i hi => ?_⟩
    have := hf i hi
    rw [ea] at this
    exact this

theorem addr_add (b off j : Nat) : (⟨b, off, none⟩ : Addr).add j = ⟨b, off + j, none⟩ := by unfold Addr.add; split <;> simp_all
end Go.Proofs.Ytkaficcnfkpkiaa

/-
  What the frame of a row hands over of a node that came in.
-/
namespace Go.Proofs.Ytkaficcnfkpkiaa
open Go.RowKit
set_option maxRecDepth 4000
open Go.Deep Go.ChangeShapes

theorem textsIn {H : Type} {enc : TypeId × Value → H} {W : World} {sp : Nat → Bool} {fuel : Nat} {cs : List Value} {x : DataW H × List MemPlace}
    (h : DataW.trod enc Try.prog W 0 sp true fuel 22 cs = some x) : ∃ a n cap f, cs = [.slice a n cap] ∧ TxV W a n cap f ∧ n ≤ maxLen ∧ ∀ i, i < n → (f i).size ≤ maxLen := by
  have c1 : Try.prog.cellsOf 9 = 1 := by kernel_rfl
  haveI : Inhabited ByteArray := ⟨⟨#[]⟩⟩
  obtain ⟨a, n, cap, f, e, hl, hm, hv⟩ := sliceIn (α := ByteArray) Try.underlying22 c1 (by decide) (fun a y => W.cell? (a.add 0) = some (.string y) ∧ y.size ≤ maxLen) (by
    intro fuel cs x a hl hcell htr
    match cs, hl with
    | [c0], _ =>
      obtain ⟨s, e0, _, hs⟩ := DataW.trod_string Try.underlying9 htr
      simp only [List.cons.injEq, and_true] at e0
      subst e0
      exact ⟨s, hcell 0 (by decide), hs⟩) h
  refine ⟨a, n, cap, f, e, ⟨hl, fun hn => ?_⟩, Nat.le_trans hl hm, fun i hi => ?_⟩
  · obtain ⟨b, off, ea, hlt, hc⟩ := hv hn
    refine ⟨b, off, ea, hlt, fun i hi => ?_⟩
    have := (hc i hi).1
    simpa only [addr_add, Nat.add_zero, Nat.mul_one] using this
  · obtain ⟨b, off, ea, hlt, hc⟩ := hv (by omega)
    exact (hc i hi).2
theorem numsIn {H : Type} {enc : TypeId × Value → H} {W : World} {sp : Nat → Bool} {fuel : Nat} {cs : List Value} {x : DataW H × List MemPlace}
    (h : DataW.trod enc Try.prog W 0 sp true fuel 23 cs = some x) : ∃ a n cap f, cs = [.slice a n cap] ∧ NuV W a n cap f ∧ n ≤ maxLen := by
  have c1 : Try.prog.cellsOf 3 = 1 := by kernel_rfl
  haveI : Inhabited Int := ⟨0⟩
  obtain ⟨a, n, cap, f, e, hl, hm, hv⟩ := sliceIn (α := Int) Try.underlying23 c1 (by decide) (fun a y => W.cell? (a.add 0) = some (.int .i64 y)) (by
    intro fuel cs x a hl hcell htr
    match cs, hl with
    | [c0], _ =>
      obtain ⟨s, e0, _, _⟩ := DataW.trod_int Try.underlying3 htr
      simp only [List.cons.injEq, and_true] at e0
      subst e0
      exact ⟨s, hcell 0 (by decide)⟩) h
  refine ⟨a, n, cap, f, e, ⟨hl, fun hn => ?_⟩, Nat.le_trans hl hm⟩
  · obtain ⟨b, off, ea, hlt, hc⟩ := hv hn
    refine ⟨b, off, ea, hlt, fun i hi => ?_⟩
    have := hc i hi
    simpa only [addr_add, Nat.add_zero, Nat.mul_one] using this
/-- The four cells of a node that came in. -/
theorem nodeIn {H : Type} {enc : TypeId × Value → H} {W : World} {sp : Nat → Bool} {n0 n1 n2 n3 : Nat} {c0 c1 c2 c3 : Value} {y0 y1 y2 y3 : DataW H × List MemPlace}
    (h0 : DataW.trod enc Try.prog W 0 sp true n0 4 [c0] = some y0) (h1 : DataW.trod enc Try.prog W 0 sp true n1 22 [c1] = some y1)
    (h2 : DataW.trod enc Try.prog W 0 sp true n2 22 [c2] = some y2) (h3 : DataW.trod enc Try.prog W 0 sp true n3 23 [c3] = some y3) :
    ∃ D : PNode, NdView W (.agg #[c0, c1, c2, c3]) D ∧ NLim D := by
  obtain ⟨s, e0, _⟩ := DataW.trod_bool Try.underlying4 h0
  obtain ⟨ac, nc, cc, fc, e1, v1, m1, z1⟩ := textsIn h1
  obtain ⟨ap, np, cp, fp, e2, v2, m2, z2⟩ := textsIn h2
  obtain ⟨ai, ni, ci, fi, e3, v3, m3⟩ := numsIn h3
  simp only [List.cons.injEq, and_true] at e0 e1 e2 e3
  subst e0 e1 e2 e3
  exact ⟨⟨s, nc, fc, np, fp, ni, fi⟩, ⟨ac, cc, ap, cp, ai, ci, rfl, v1, v2, v3⟩, ⟨m1, z1, m2, z2, m3⟩⟩
end Go.Proofs.Ytkaficcnfkpkiaa

