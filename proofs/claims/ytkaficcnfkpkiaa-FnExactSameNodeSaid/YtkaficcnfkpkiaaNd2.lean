/-
  Together: NodeCopy, BytesEq, NodeEq, NodeSameS
-/
import Derived.Test.YtkaficcnfkpkiaaNd1
import Derived.Deep.LoopGhost
/-
  A node copied, as the law does it.
-/
namespace Go.Proofs.Ytkaficcnfkpkiaa
open Go.RowKit
set_option maxRecDepth 4000

theorem alloc_sizeN (W : World) (o : Obj) : (W.alloc o).heap.size = W.heap.size + 1 := by simp
/-- k of the n elements are copied into the new row. -/
structure CopO (T : TypeId) (z : Value) (w wr : World) (n : Nat) (f : Nat → Value) (k : Nat) : Prop where
  below : Below w.heap.size w wr
  size : w.heap.size < wr.heap.size
  row : wr.rowIs w.heap.size T n (fun j => if j < k then f j else z)
theorem copO_start (T : TypeId) (z : Value) (w : World) (n : Nat) (f : Nat → Value) : CopO T z w (w.alloc (.cells (madeCells #[z] n) T)) n f 0 := by
  have hr := World.rowIs_alloc w (madeCells #[z] n) T (fun _ => z) (fun i hi => by
    rw [size_madeCells] at hi
    simp [madeCells, hi, Nat.mod_one])
  rw [size_madeCells] at hr
  exact ⟨(Below.refl _ _).alloc (Nat.le_refl _) _, by simp, hr.congr (fun i _ => by simp)⟩
theorem CopO.put {T : TypeId} {z : Value} {w wr : World} {n : Nat} {f : Nat → Value} {k : Nat} (h : CopO T z w wr n f k) : CopO T z w (wr.setCell ⟨w.heap.size, k, none⟩ (f k)) n f (k + 1) := by
  refine ⟨h.below.setCell (Nat.le_refl _) _, by simpa using h.size, (h.row.set _ _).congr (fun i _ => ?_)⟩
  by_cases e : i = k
  · subst e; simp
  · rw [if_neg e]
    by_cases hlt : i < k
    · rw [if_pos hlt, if_pos (by omega)]
    · rw [if_neg hlt, if_neg (by omega)]
theorem CopO.view {T : TypeId} {z : Value} {w wr : World} {n : Nat} {f : Nat → Value} (h : CopO T z w wr n f n) : OV wr (some ⟨w.heap.size, 0, none⟩) n n f :=
  OV.ofIs (h.row.congr (fun i hi => by rw [if_pos hi])) (Nat.le_refl _)

theorem infoTx : ∃ i, Try.prog.info? 9 = some i ∧ i.zero = some (.string ⟨#[]⟩) ∧ i.size = 1 ∧ i.bytes = 16 := by
  have h : (Try.prog.info? 9).map (fun i => (i.zero, i.size, i.bytes)) = some (some (.string ⟨#[]⟩), 1, 16) := by kernel_rfl
  obtain ⟨i, hi, hz⟩ := Option.map_eq_some_iff.1 h
  simp only [Prod.mk.injEq] at hz
  exact ⟨i, hi, hz.1, hz.2.1, hz.2.2⟩
theorem makeTx (n : Nat) (h : n ≤ 1048576) (w : World) : (Instr.makeSlice 22 (.int .i64 (n : Int)) (.int .i64 (n : Int))).run Try.prog w = .ok (.slice (some ⟨w.heap.size, 0, none⟩) n n) (w.alloc (.cells (madeCells #[.string ⟨#[]⟩] n) 9)) := by
  obtain ⟨i, hi, hz, hs, hb⟩ := infoTx
  have hr := run_make (P := Try.prog) w 22 9 i _ Try.underlying22 hi hz .i64 .i64 n n (by omega) (Int.le_refl _) (by rw [hb]; omega) (by omega)
  simp only [Int.toNat_natCast, hs, Nat.mul_one] at hr
  exact hr
set_option maxHeartbeats 2000000 in
theorem toStringS_any (a : Option Addr) (n cap : Nat) (f : Nat → ByteArray) (w : World) (h : TxV w a n cap f) (hn : n ≤ 1048576) :
    Calls Try.prog 34 #[.slice a n cap] w fun e w' => e = .returned (.slice (some ⟨w.heap.size, 0, none⟩) n n) ∧ TxV w' (some ⟨w.heap.size, 0, none⟩) n n f ∧ Below w.heap.size w w' ∧ w.heap.size < w'.heap.size := by
  have hmk := fun W => makeTx n hn W
  go_enter Try.func34, Try.ntmps34
  go_wp2
  clear hmk
  go_loopg [4] n (fun q i wr => ∃ k : Nat, k ≤ n ∧ q = n - k ∧ i = .int .i64 k ∧ CopO 9 (.string ⟨#[]⟩) w wr n (fun j => .string (f j)) k)
  case atStart => exact ⟨0, Nat.zero_le _, rfl, rfl, copO_start _ _ w n _⟩
  case round =>
    obtain ⟨k, hk, rfl, rfl, hC⟩ := hrel
    by_cases hlt : k < n
    · obtain ⟨b1, o1, rfl, hb1, x0⟩ := txv_at (h.below hC.below) hlt
      have hkz : (k : Int) < (n : Int) := by omega
      have hS : Hid (CopO 9 (.string ⟨#[]⟩) w (wr.setCell ⟨w.heap.size, k, none⟩ (.string (f k))) n (fun j => .string (f j)) (k + 1)) := hC.put
      have z0 := hC.row.cell (i := k) hlt
      have f0 := hC.row.frozen k
      clear hC h
      go_wp2
      go_roundg (n - (k + 1))
      case measure => omega
      case rel => exact ⟨k + 1, by omega, rfl, by go_num, hS.out⟩
    · have hkn : k = n := by omega
      have hkz : ¬ (k : Int) < (n : Int) := by omega
      rw [hkn] at hC
      have hS : Hid (CopO 9 (.string ⟨#[]⟩) w wr n (fun j => .string (f j)) n) := hC
      clear hC h
      go_wp2
      go_ret
      exact ⟨rfl, hS.out.view, hS.out.below, hS.out.size⟩

theorem infoNu : ∃ i, Try.prog.info? 3 = some i ∧ i.zero = some (.int .i64 0) ∧ i.size = 1 ∧ i.bytes = 8 := by
  have h : (Try.prog.info? 3).map (fun i => (i.zero, i.size, i.bytes)) = some (some (.int .i64 0), 1, 8) := by kernel_rfl
  obtain ⟨i, hi, hz⟩ := Option.map_eq_some_iff.1 h
  simp only [Prod.mk.injEq] at hz
  exact ⟨i, hi, hz.1, hz.2.1, hz.2.2⟩
theorem makeNu (n : Nat) (h : n ≤ 1048576) (w : World) : (Instr.makeSlice 23 (.int .i64 (n : Int)) (.int .i64 (n : Int))).run Try.prog w = .ok (.slice (some ⟨w.heap.size, 0, none⟩) n n) (w.alloc (.cells (madeCells #[.int .i64 0] n) 3)) := by
  obtain ⟨i, hi, hz, hs, hb⟩ := infoNu
  have hr := run_make (P := Try.prog) w 23 3 i _ Try.underlying23 hi hz .i64 .i64 n n (by omega) (Int.le_refl _) (by rw [hb]; omega) (by omega)
  simp only [Int.toNat_natCast, hs, Nat.mul_one] at hr
  exact hr
set_option maxHeartbeats 2000000 in
theorem toIntS_any (a : Option Addr) (n cap : Nat) (f : Nat → Int) (w : World) (h : NuV w a n cap f) (hn : n ≤ 1048576) :
    Calls Try.prog 35 #[.slice a n cap] w fun e w' => e = .returned (.slice (some ⟨w.heap.size, 0, none⟩) n n) ∧ NuV w' (some ⟨w.heap.size, 0, none⟩) n n f ∧ Below w.heap.size w w' ∧ w.heap.size < w'.heap.size := by
  have hmk := fun W => makeNu n hn W
  go_enter Try.func35, Try.ntmps35
  go_wp2
  clear hmk
  go_loopg [4] n (fun q i wr => ∃ k : Nat, k ≤ n ∧ q = n - k ∧ i = .int .i64 k ∧ CopO 3 (.int .i64 0) w wr n (fun j => .int .i64 (f j)) k)
  case atStart => exact ⟨0, Nat.zero_le _, rfl, rfl, copO_start _ _ w n _⟩
  case round =>
    obtain ⟨k, hk, rfl, rfl, hC⟩ := hrel
    by_cases hlt : k < n
    · obtain ⟨b1, o1, rfl, hb1, x0⟩ := nuv_at (h.below hC.below) hlt
      have hkz : (k : Int) < (n : Int) := by omega
      have hS : Hid (CopO 3 (.int .i64 0) w (wr.setCell ⟨w.heap.size, k, none⟩ (.int .i64 (f k))) n (fun j => .int .i64 (f j)) (k + 1)) := hC.put
      have z0 := hC.row.cell (i := k) hlt
      have f0 := hC.row.frozen k
      clear hC h
      go_wp2
      go_roundg (n - (k + 1))
      case measure => omega
      case rel => exact ⟨k + 1, by omega, rfl, by go_num, hS.out⟩
    · have hkn : k = n := by omega
      have hkz : ¬ (k : Int) < (n : Int) := by omega
      rw [hkn] at hC
      have hS : Hid (CopO 3 (.int .i64 0) w wr n (fun j => .int .i64 (f j)) n) := hC
      clear hC h
      go_wp2
      go_ret
      exact ⟨rfl, hS.out.view, hS.out.below, hS.out.size⟩

/-- A node's value whose blocks lie from B on. -/
structure NdOwn (w : World) (B : Nat) (v : Value) (D : PNode) : Prop where
  is : ∃ gc cc gp cp gi ci, v = .agg #[.bool D.leaf, .slice (some ⟨gc, 0, none⟩) D.nk cc, .slice (some ⟨gp, 0, none⟩) D.nv cp, .slice (some ⟨gi, 0, none⟩) D.nd ci] ∧ B ≤ gc ∧ B ≤ gp ∧ B ≤ gi ∧ TxV w (some ⟨gc, 0, none⟩) D.nk cc D.key ∧ TxV w (some ⟨gp, 0, none⟩) D.nv cp D.val ∧ NuV w (some ⟨gi, 0, none⟩) D.nd ci D.kid
theorem NdOwn.view {w : World} {B : Nat} {v : Value} {D : PNode} (h : NdOwn w B v D) : NdView w v D := by
  obtain ⟨gc, cc, gp, cp, gi, ci, e, -, -, -, h1, h2, h3⟩ := h.is
  exact ⟨_, cc, _, cp, _, ci, e, h1, h2, h3⟩

set_option maxHeartbeats 2000000 in
theorem toNode_any (v : Value) (D : PNode) (w : World) (h : NdView w v D) (hf : NFine D) :
    Calls Try.prog 11 #[v] w fun e w' => ∃ v', e = .returned v' ∧ NdOwn w' w.heap.size v' D ∧ Below w.heap.size w w' := by
  obtain ⟨ac, cc, ap, cp, ai, ci, rfl, hc, hp, hi⟩ := h.is
  clear h
  have hb0 : Below w.heap.size w (((w.alloc (.cells #[.bool D.leaf, .slice ac D.nk cc, .slice ap D.nv cp, .slice ai D.nd ci] 25)).alloc (.cells #[.bool false, .slice none 0 0, .slice none 0 0, .slice none 0 0] 28)).alloc (.cells #[.bool D.leaf, .slice none 0 0, .slice none 0 0, .slice none 0 0] 28)) := (((Below.refl _ _).alloc (Nat.le_refl _) _).alloc (by simp) _).alloc (by simp; omega) _
  have hS := toStringS_any ac D.nk cc D.key _ (hc.below hb0) hf.nk
  have V2 := V4.new ((w.alloc (.cells #[.bool D.leaf, .slice ac D.nk cc, .slice ap D.nv cp, .slice ai D.nd ci] 25)).alloc (.cells #[.bool false, .slice none 0 0, .slice none 0 0, .slice none 0 0] 28)) 28 (.bool D.leaf) (.slice none 0 0) (.slice none 0 0) (.slice none 0 0)
  have V1 := (V4.new (w.alloc (.cells #[.bool D.leaf, .slice ac D.nk cc, .slice ap D.nv cp, .slice ai D.nd ci] 25)) 28 (.bool false) (.slice none 0 0) (.slice none 0 0) (.slice none 0 0)).below ((Below.refl _ _).alloc (Nat.le_refl _) (.cells #[.bool D.leaf, .slice none 0 0, .slice none 0 0, .slice none 0 0] 28))
  have V0 := ((V4.new w 25 (.bool D.leaf) (.slice ac D.nk cc) (.slice ap D.nv cp) (.slice ai D.nd ci)).below ((Below.refl _ _).alloc (Nat.le_refl _) (.cells #[.bool false, .slice none 0 0, .slice none 0 0, .slice none 0 0] 28))).below ((Below.refl _ _).alloc (Nat.le_refl _) (.cells #[.bool D.leaf, .slice none 0 0, .slice none 0 0, .slice none 0 0] 28))
  simp only [alloc_sizeN] at V0 V1 V2 hS
  go_enter Try.func11, Try.ntmps11
  go_wp2_with fail
  refine hS.mono ?_
  rintro e w2 ⟨rfl, hv2, hb2, hlt2⟩
  have hbw2 : Below w.heap.size w w2 := hb0.trans (hb2.mono (by omega))
  have V2' := V2.below (by simpa using hb2)
  have V1' := V1.below (by simpa using hb2)
  have V0' := V0.below (by simpa using hb2)
  clear V0 V1 V2 hS hb2 hb0
  obtain ⟨-, a1, -, -⟩ := V2'.cells
  obtain ⟨-, q1, -, -⟩ := V2'.fz
  obtain ⟨W3, hW3⟩ : ∃ W3, Hid (w2.setCell ⟨w.heap.size + 1 + 1, 1, none⟩ (.slice (some ⟨w.heap.size + 1 + 1 + 1, 0, none⟩) D.nk D.nk) = W3) := ⟨_, rfl⟩
  have U2 := V2'.set1 (.slice (some ⟨w.heap.size + 1 + 1 + 1, 0, none⟩) D.nk D.nk)
  have U1 := V1'.other (C := w.heap.size + 1 + 1) (i := 1) (u := .slice (some ⟨w.heap.size + 1 + 1 + 1, 0, none⟩) D.nk D.nk) (by omega)
  have U0 := V0'.other (C := w.heap.size + 1 + 1) (i := 1) (u := .slice (some ⟨w.heap.size + 1 + 1 + 1, 0, none⟩) D.nk D.nk) (by omega)
  have hv3 := hv2.set (B := w.heap.size + 1 + 1) (by omega) 1 (.slice (some ⟨w.heap.size + 1 + 1 + 1, 0, none⟩) D.nk D.nk)
  have hbw3 : Below w.heap.size w (w2.setCell ⟨w.heap.size + 1 + 1, 1, none⟩ (.slice (some ⟨w.heap.size + 1 + 1 + 1, 0, none⟩) D.nk D.nk)) := hbw2.setCell (p := ⟨w.heap.size + 1 + 1, 1, none⟩) (by simp; omega) _
  have hs3 : w.heap.size + 1 + 1 + 1 < (w2.setCell ⟨w.heap.size + 1 + 1, 1, none⟩ (.slice (some ⟨w.heap.size + 1 + 1 + 1, 0, none⟩) D.nk D.nk)).heap.size := by simpa using hlt2
  rw [hW3.out] at U0 U1 U2 hv3 hbw3 hs3
  obtain ⟨u0, u1, u2, u3⟩ := U0.cells
  have hS := toStringS_any ap D.nv cp D.val W3 (hp.below hbw3) hf.nv
  clear V0' V1' V2' hv2 hbw2 hlt2
  go_wp2_with (rw [hW3.out])
  refine hS.mono ?_
  rintro e w4 ⟨rfl, hv4, hb4, hlt4⟩
  obtain ⟨g4, hg4⟩ : ∃ g, Hid (W3.heap.size = g) := ⟨_, rfl⟩
  rw [hg4.out] at hv4 hlt4 hs3 ⊢
  have hbw4 : Below w.heap.size w w4 := hbw3.trans (hb4.mono hbw3.size)
  have T2 := U2.below hb4
  have T1 := U1.below hb4
  have T0 := U0.below hb4
  have hv3' := hv3.below hb4
  clear U0 U1 U2 hS hb4 hbw3 hv3 u0 u1 u2 u3 hc hp a1 q1
  obtain ⟨-, -, a1, -⟩ := T2.cells
  obtain ⟨-, -, q1, -⟩ := T2.fz
  obtain ⟨W5, hW5⟩ : ∃ W5, Hid (w4.setCell ⟨w.heap.size + 1 + 1, 2, none⟩ (.slice (some ⟨g4, 0, none⟩) D.nv D.nv) = W5) := ⟨_, rfl⟩
  have S2 := T2.set2 (.slice (some ⟨g4, 0, none⟩) D.nv D.nv)
  have S1 := T1.other (C := w.heap.size + 1 + 1) (i := 2) (u := .slice (some ⟨g4, 0, none⟩) D.nv D.nv) (by omega)
  have S0 := T0.other (C := w.heap.size + 1 + 1) (i := 2) (u := .slice (some ⟨g4, 0, none⟩) D.nv D.nv) (by omega)
  have hv5 := hv4.set (B := w.heap.size + 1 + 1) (by omega) 2 (.slice (some ⟨g4, 0, none⟩) D.nv D.nv)
  have hv3'' := hv3'.set (B := w.heap.size + 1 + 1) (by omega) 2 (.slice (some ⟨g4, 0, none⟩) D.nv D.nv)
  have hbw5 : Below w.heap.size w (w4.setCell ⟨w.heap.size + 1 + 1, 2, none⟩ (.slice (some ⟨g4, 0, none⟩) D.nv D.nv)) := hbw4.setCell (p := ⟨w.heap.size + 1 + 1, 2, none⟩) (by simp; omega) _
  have hs5 : g4 < (w4.setCell ⟨w.heap.size + 1 + 1, 2, none⟩ (.slice (some ⟨g4, 0, none⟩) D.nv D.nv)).heap.size := by simpa using hlt4
  rw [hW5.out] at S0 S1 S2 hv5 hv3'' hbw5 hs5
  obtain ⟨u0, u1, u2, u3⟩ := S0.cells
  have hS := toIntS_any ai D.nd ci D.kid W5 (hi.below hbw5) hf.nd
  clear T0 T1 T2 hv4 hbw4 hlt4 hv3' hi
  go_wp2_with (rw [hW5.out])
  refine hS.mono ?_
  rintro e w6 ⟨rfl, hv6, hb6, hlt6⟩
  obtain ⟨g6, hg6⟩ : ∃ g, Hid (W5.heap.size = g) := ⟨_, rfl⟩
  rw [hg6.out] at hv6 hlt6 hs5 ⊢
  have hbw6 : Below w.heap.size w w6 := hbw5.trans (hb6.mono hbw5.size)
  have R2 := S2.below hb6
  have R1 := S1.below hb6
  have hv3b := hv3''.below hb6
  have hv5b := hv5.below hb6
  clear S0 S1 S2 hS hb6 hbw5 hv3'' hv5 u0 u1 u2 u3 a1 q1
  obtain ⟨-, -, -, a1⟩ := R2.cells
  obtain ⟨-, -, -, q1⟩ := R2.fz
  obtain ⟨W7, hW7⟩ : ∃ W7, Hid (w6.setCell ⟨w.heap.size + 1 + 1, 3, none⟩ (.slice (some ⟨g6, 0, none⟩) D.nd D.nd) = W7) := ⟨_, rfl⟩
  have Z2 := R2.set3 (.slice (some ⟨g6, 0, none⟩) D.nd D.nd)
  have Z1 := R1.other (C := w.heap.size + 1 + 1) (i := 3) (u := .slice (some ⟨g6, 0, none⟩) D.nd D.nd) (by omega)
  have hv3c := hv3b.set (B := w.heap.size + 1 + 1) (by omega) 3 (.slice (some ⟨g6, 0, none⟩) D.nd D.nd)
  have hv5c := hv5b.set (B := w.heap.size + 1 + 1) (by omega) 3 (.slice (some ⟨g6, 0, none⟩) D.nd D.nd)
  have hv6c := hv6.set (B := w.heap.size + 1 + 1) (by omega) 3 (.slice (some ⟨g6, 0, none⟩) D.nd D.nd)
  have hbw7 : Below w.heap.size w (w6.setCell ⟨w.heap.size + 1 + 1, 3, none⟩ (.slice (some ⟨g6, 0, none⟩) D.nd D.nd)) := hbw6.setCell (p := ⟨w.heap.size + 1 + 1, 3, none⟩) (by simp; omega) _
  rw [hW7.out] at Z1 Z2 hv3c hv5c hv6c hbw7
  obtain ⟨u0, u1, u2, u3⟩ := Z2.cells
  obtain ⟨p0, p1, p2, p3⟩ := Z1.cells
  obtain ⟨k0, k1, k2, k3⟩ := Z1.fz
  have ZF := (((Z1.set0 (.bool D.leaf)).set1 (.slice (some ⟨w.heap.size + 1 + 1 + 1, 0, none⟩) D.nk D.nk)).set2 (.slice (some ⟨g4, 0, none⟩) D.nv D.nv)).set3 (.slice (some ⟨g6, 0, none⟩) D.nd D.nd)
  have HR : Hid (NdOwn ((((W7.setCell ⟨w.heap.size + 1, 0, none⟩ (.bool D.leaf)).setCell ⟨w.heap.size + 1, 1, none⟩ (.slice (some ⟨w.heap.size + 1 + 1 + 1, 0, none⟩) D.nk D.nk)).setCell ⟨w.heap.size + 1, 2, none⟩ (.slice (some ⟨g4, 0, none⟩) D.nv D.nv)).setCell ⟨w.heap.size + 1, 3, none⟩ (.slice (some ⟨g6, 0, none⟩) D.nd D.nd)) w.heap.size (.agg #[.bool D.leaf, .slice (some ⟨w.heap.size + 1 + 1 + 1, 0, none⟩) D.nk D.nk, .slice (some ⟨g4, 0, none⟩) D.nv D.nv, .slice (some ⟨g6, 0, none⟩) D.nd D.nd]) D
      ∧ Below w.heap.size w ((((W7.setCell ⟨w.heap.size + 1, 0, none⟩ (.bool D.leaf)).setCell ⟨w.heap.size + 1, 1, none⟩ (.slice (some ⟨w.heap.size + 1 + 1 + 1, 0, none⟩) D.nk D.nk)).setCell ⟨w.heap.size + 1, 2, none⟩ (.slice (some ⟨g4, 0, none⟩) D.nv D.nv)).setCell ⟨w.heap.size + 1, 3, none⟩ (.slice (some ⟨g6, 0, none⟩) D.nd D.nd))) := by
    refine ⟨⟨_, _, _, _, _, _, rfl, by omega, by omega, by omega, ?_, ?_, ?_⟩, ?_⟩
    · exact (((hv3c.set (B := w.heap.size + 1) (by omega) _ _).set (B := w.heap.size + 1) (by omega) _ _).set (B := w.heap.size + 1) (by omega) _ _).set (B := w.heap.size + 1) (by omega) _ _
    · exact (((hv5c.set (B := w.heap.size + 1) (by omega) _ _).set (B := w.heap.size + 1) (by omega) _ _).set (B := w.heap.size + 1) (by omega) _ _).set (B := w.heap.size + 1) (by omega) _ _
    · exact (((hv6c.set (B := w.heap.size + 1) (by omega) _ _).set (B := w.heap.size + 1) (by omega) _ _).set (B := w.heap.size + 1) (by omega) _ _).set (B := w.heap.size + 1) (by omega) _ _
    · exact (((hbw7.setCell (p := ⟨w.heap.size + 1, 0, none⟩) (by simp) _).setCell (p := ⟨w.heap.size + 1, 1, none⟩) (by simp) _).setCell (p := ⟨w.heap.size + 1, 2, none⟩) (by simp) _).setCell (p := ⟨w.heap.size + 1, 3, none⟩) (by simp) _
  obtain ⟨r0, r1, r2, r3⟩ := ZF.cells
  clear R1 R2 Z1 Z2 ZF hv3b hv5b hv6 hv3c hv5c hv6c hbw6 hbw7 hlt6 hs3 hs5 hf
  go_wp2_with (rw [hW7.out])
  refine bodyPost_ret (v := .agg #[.bool D.leaf, .slice (some ⟨w.heap.size + 1 + 1 + 1, 0, none⟩) D.nk D.nk, .slice (some ⟨g4, 0, none⟩) D.nv D.nv, .slice (some ⟨g6, 0, none⟩) D.nd D.nd]) (by simp [results, Try.results11, go_sem, r0, r1, r2, r3]) rfl ⟨_, rfl, HR.out.1, HR.out.2⟩
end Go.Proofs.Ytkaficcnfkpkiaa

/-
  Texts that are held against each other.
-/
namespace Go.Proofs.Ytkaficcnfkpkiaa
open Go.RowKit
set_option maxRecDepth 4000

theorem bytes_inj {a b : ByteArray} : a.toList = b.toList ↔ a = b := by
  constructor
  · intro h
    rw [ByteArray.toList_eq, ByteArray.toList_eq] at h
    obtain ⟨⟨x⟩⟩ := a
    obtain ⟨⟨y⟩⟩ := b
    simp only at h
    rw [h]
  · rintro rfl; rfl
theorem bytes_eq {a b : ByteArray} (h : a = b) : (a.toList == b.toList) = true := by rw [h]; exact beq_self_eq_true _
theorem bytes_ne {a b : ByteArray} (h : a ≠ b) : (a.toList == b.toList) = false := by
  cases e : (a.toList == b.toList) with
  | false => rfl
  | true => exact absurd (bytes_inj.1 (eq_of_beq e)) h
end Go.Proofs.Ytkaficcnfkpkiaa

/-
  Nodes that read alike are alike, as the law holds them against each other.
-/
namespace Go.Proofs.Ytkaficcnfkpkiaa
open Go.RowKit
set_option maxRecDepth 4000

set_option maxHeartbeats 2000000 in
theorem eqStringS_same (a1 a2 : Option Addr) (n c1 c2 : Nat) (f : Nat → ByteArray) (w : World) (h1 : TxV w a1 n c1 f) (h2 : TxV w a2 n c2 f) (hn : n ≤ 1048576) :
    Calls Try.prog 39 #[.slice a1 n c1, .slice a2 n c2] w fun e w' => e = .returned (.bool true) ∧ Below w.heap.size w w' := by
  go_enter Try.func39, Try.ntmps39
  go_wp2
  go_loopg [5] n (fun q i wr => ∃ k : Nat, k ≤ n ∧ q = n - k ∧ i = .int .i64 k ∧ Below w.heap.size w wr)
  case atStart => exact ⟨0, Nat.zero_le _, rfl, rfl, Below.refl _ _⟩
  case round =>
    obtain ⟨k, hk, rfl, rfl, hB⟩ := hrel
    by_cases hlt : k < n
    · obtain ⟨b1, o1, rfl, hb1, x0⟩ := txv_at (h1.below hB) hlt
      obtain ⟨b2, o2, rfl, hb2, y0⟩ := txv_at (h2.below hB) hlt
      obtain ⟨p0, hp0⟩ : ∃ x, Hid (f k = x) := ⟨_, rfl⟩
      rw [hp0.out] at x0 y0
      have hkz : (k : Int) < (n : Int) := by omega
      have e0 := bytes_eq (a := p0) rfl
      clear h1 h2
      go_wp2
      go_region
      all_goals go_wp2
      all_goals
        go_roundg (n - (k + 1))
        case measure => omega
        case rel => exact ⟨k + 1, by omega, rfl, by go_num, by first | exact hB.drew | exact hB⟩
    · clear h1 h2
      go_wp2
      go_ret
      exact ⟨rfl, hB⟩

set_option maxHeartbeats 2000000 in
theorem eqIntS_same (a1 a2 : Option Addr) (n c1 c2 : Nat) (f : Nat → Int) (w : World) (h1 : NuV w a1 n c1 f) (h2 : NuV w a2 n c2 f) (hn : n ≤ 1048576) :
    Calls Try.prog 40 #[.slice a1 n c1, .slice a2 n c2] w fun e w' => e = .returned (.bool true) ∧ Below w.heap.size w w' := by
  go_enter Try.func40, Try.ntmps40
  go_wp2
  go_loopg [5] n (fun q i wr => ∃ k : Nat, k ≤ n ∧ q = n - k ∧ i = .int .i64 k ∧ Below w.heap.size w wr)
  case atStart => exact ⟨0, Nat.zero_le _, rfl, rfl, Below.refl _ _⟩
  case round =>
    obtain ⟨k, hk, rfl, rfl, hB⟩ := hrel
    by_cases hlt : k < n
    · obtain ⟨b1, o1, rfl, hb1, x0⟩ := nuv_at (h1.below hB) hlt
      obtain ⟨b2, o2, rfl, hb2, y0⟩ := nuv_at (h2.below hB) hlt
      obtain ⟨p0, hp0⟩ : ∃ x, Hid (f k = x) := ⟨_, rfl⟩
      rw [hp0.out] at x0 y0
      have hkz : (k : Int) < (n : Int) := by omega
      have e0 : (p0 != p0) = false := bne_self_eq_false _
      clear h1 h2
      go_wp2
      go_region
      all_goals go_wp2
      all_goals
        go_roundg (n - (k + 1))
        case measure => omega
        case rel => exact ⟨k + 1, by omega, rfl, by go_num, by first | exact hB.drew | exact hB⟩
    · clear h1 h2
      go_wp2
      go_ret
      exact ⟨rfl, hB⟩

set_option maxHeartbeats 2000000 in
theorem eqNode_same (u v : Value) (D : PNode) (w : World) (h1 : NdView w u D) (h2 : NdView w v D) (hf : NFine D) :
    Calls Try.prog 13 #[u, v] w fun e w' => e = .returned (.bool true) ∧ Below w.heap.size w w' := by
  obtain ⟨ac, cc, ap, cp, ai, ci, rfl, hc1, hp1, hi1⟩ := h1.is
  obtain ⟨bc, dc, bp, dp, bi, di, rfl, hc2, hp2, hi2⟩ := h2.is
  clear h1 h2
  have e0 : (D.leaf != D.leaf) = false := bne_self_eq_false _
  have hB0 : Below (w.heap.size + 1 + 1) ((w.alloc (.cells #[.bool D.leaf, .slice ac D.nk cc, .slice ap D.nv cp, .slice ai D.nd ci] 28)).alloc (.cells #[.bool D.leaf, .slice bc D.nk dc, .slice bp D.nv dp, .slice bi D.nd di] 28)) ((w.alloc (.cells #[.bool D.leaf, .slice ac D.nk cc, .slice ap D.nv cp, .slice ai D.nd ci] 28)).alloc (.cells #[.bool D.leaf, .slice bc D.nk dc, .slice bp D.nv dp, .slice bi D.nd di] 28)) := Below.refl _ _
  obtain ⟨hBw0, -⟩ := nbox44_below hB0
  have hV1 := eqStringS_same ac bc D.nk cc dc D.key _ (hc1.below hBw0) (hc2.below hBw0) hf.nk
  go_enter Try.func13, Try.ntmps13
  go_wp2_with fail
  refine hV1.mono ?_
  rintro e w1 ⟨rfl, hb1⟩
  have hB1 := nbox44_on hB0 hb1
  obtain ⟨hBw1, hs1⟩ := nbox44_below hB1
  obtain ⟨⟨x0, x1, x2, x3⟩, y0, y1, y2, y3⟩ := nbox44 hB1
  have hV2 := eqStringS_same ap bp D.nv cp dp D.val w1 (hp1.below hBw1) (hp2.below hBw1) hf.nv
  clear hV1 hb1 hB0 hBw0 hc1 hc2
  go_wp2_with fail
  refine hV2.mono ?_
  rintro e w2 ⟨rfl, hb2⟩
  have hB2 := nbox44_on hB1 hb2
  obtain ⟨hBw2, hs2⟩ := nbox44_below hB2
  clear x0 x1 x2 x3 y0 y1 y2 y3
  obtain ⟨⟨x0, x1, x2, x3⟩, y0, y1, y2, y3⟩ := nbox44 hB2
  have hV3 := eqIntS_same ai bi D.nd ci di D.kid w2 (hi1.below hBw2) (hi2.below hBw2) hf.nd
  clear hV2 hb2 hB1 hBw1 hp1 hp2 hs1
  go_wp2_with fail
  refine hV3.mono ?_
  rintro e w3 ⟨rfl, hb3⟩
  have HB : Hid (Below w.heap.size w w3) := (nbox44_below (nbox44_on hB2 hb3)).1
  clear hV3 hb3 hB2 hBw2 hi1 hi2 hf
  go_wp2
  go_ret
  exact ⟨rfl, HB.out⟩
end Go.Proofs.Ytkaficcnfkpkiaa

/-
  The model's SameNode comes to the plain one.
-/
namespace Go.Proofs.Ytkaficcnfkpkiaa
open Go.RowKit
set_option maxRecDepth 4000

set_option maxHeartbeats 2000000 in
theorem l14SameTexts_any (a1 a2 : Option Addr) (n c1 m c2 : Nat) (f g : Nat → ByteArray) (w : World) (h1 : TxV w a1 n c1 f) (h2 : TxV w a2 m c2 g) (hn : n ≤ 1048576) :
    Calls Try.prog 55 #[.slice a1 n c1, .slice a2 m c2] w fun e w' => e = .returned (.bool (sameTx n f m g)) ∧ Below w.heap.size w w' := by
  by_cases hnm : n = m
  · subst hnm
    have hq : ((n : Int) != (n : Int)) = false := bne_self_eq_false _
    go_enter Try.func55, Try.ntmps55
    go_wp2
    go_loopg [5] n (fun q i wr => ∃ k : Nat, k ≤ n ∧ q = n - k ∧ i = .int .i64 k ∧ Below w.heap.size w wr ∧ Hid (∀ i, i < k → f i = g i))
    case atStart => exact ⟨0, Nat.zero_le _, rfl, rfl, Below.refl _ _, fun j hj => absurd hj (Nat.not_lt_zero _)⟩
    case round =>
      obtain ⟨k, hk, rfl, rfl, hB, HA⟩ := hrel
      by_cases hlt : k < n
      · have hkz : (k : Int) < (n : Int) := by omega
        obtain ⟨b1, o1, rfl, hb1, x0⟩ := txv_at (h1.below hB) hlt
        obtain ⟨b2, o2, rfl, hb2, y0⟩ := txv_at (h2.below hB) hlt
        have HB : Hid (Below w.heap.size w wr) := hB
        clear h1 h2 hB hq
        by_cases hfg : f k = g k
        · have HN : Hid (∀ i, i < k + 1 → f i = g i) := by
            intro i hi
            by_cases e : i < k
            · exact HA.out i e
            · obtain rfl : i = k := by omega
              exact hfg
          rw [← hfg] at y0
          clear HA hfg
          obtain ⟨p0, hp0⟩ : ∃ x, Hid (f k = x) := ⟨_, rfl⟩
          rw [hp0.out] at x0 y0
          have e0 := bytes_eq (a := p0) rfl
          go_wp2
          go_region
          all_goals go_wp2
          all_goals
            go_roundg (n - (k + 1))
            case measure => omega
            case rel => exact ⟨k + 1, by omega, rfl, by go_num, by first | exact HB.out.drew | exact HB.out, HN⟩
        · have HF : Hid (sameTx n f n g = false) := sameTx_at hlt hfg
          have e0 := bytes_ne hfg
          obtain ⟨p0, hp0⟩ : ∃ x, Hid (f k = x) := ⟨_, rfl⟩
          obtain ⟨p1, hp1⟩ : ∃ x, Hid (g k = x) := ⟨_, rfl⟩
          rw [hp0.out] at x0 e0
          rw [hp1.out] at y0 e0
          clear HA hfg
          go_wp2
          go_region
          all_goals go_wp2
          all_goals
            go_ret
            exact ⟨by rw [HF.out]; rfl, by first | exact HB.out.drew | exact HB.out⟩
      · have hkz : ¬ (k : Int) < (n : Int) := by omega
        obtain rfl : k = n := by omega
        have HF : Hid (sameTx k f k g = true) := sameTx_yes HA.out
        clear h1 h2
        go_wp2
        go_ret
        exact ⟨by rw [HF.out]; rfl, hB⟩
  · have hq : ((n : Int) != (m : Int)) = true := by simp; omega
    have HF : Hid (sameTx n f m g = false) := sameTx_len hnm
    clear h1 h2 hnm
    go_enter Try.func55, Try.ntmps55
    go_wp2
    go_ret
    exact ⟨by rw [HF.out]; rfl, Below.refl _ _⟩

set_option maxHeartbeats 2000000 in
theorem l14SameInts_any (a1 a2 : Option Addr) (n c1 m c2 : Nat) (f g : Nat → Int) (w : World) (h1 : NuV w a1 n c1 f) (h2 : NuV w a2 m c2 g) (hn : n ≤ 1048576) :
    Calls Try.prog 56 #[.slice a1 n c1, .slice a2 m c2] w fun e w' => e = .returned (.bool (sameNu n f m g)) ∧ Below w.heap.size w w' := by
  by_cases hnm : n = m
  · subst hnm
    have hq : ((n : Int) != (n : Int)) = false := bne_self_eq_false _
    go_enter Try.func56, Try.ntmps56
    go_wp2
    go_loopg [5] n (fun q i wr => ∃ k : Nat, k ≤ n ∧ q = n - k ∧ i = .int .i64 k ∧ Below w.heap.size w wr ∧ Hid (∀ i, i < k → f i = g i))
    case atStart => exact ⟨0, Nat.zero_le _, rfl, rfl, Below.refl _ _, fun j hj => absurd hj (Nat.not_lt_zero _)⟩
    case round =>
      obtain ⟨k, hk, rfl, rfl, hB, HA⟩ := hrel
      by_cases hlt : k < n
      · have hkz : (k : Int) < (n : Int) := by omega
        obtain ⟨b1, o1, rfl, hb1, x0⟩ := nuv_at (h1.below hB) hlt
        obtain ⟨b2, o2, rfl, hb2, y0⟩ := nuv_at (h2.below hB) hlt
        have HB : Hid (Below w.heap.size w wr) := hB
        clear h1 h2 hB hq
        by_cases hfg : f k = g k
        · have HN : Hid (∀ i, i < k + 1 → f i = g i) := by
            intro i hi
            by_cases e : i < k
            · exact HA.out i e
            · obtain rfl : i = k := by omega
              exact hfg
          rw [← hfg] at y0
          clear HA hfg
          obtain ⟨p0, hp0⟩ : ∃ x, Hid (f k = x) := ⟨_, rfl⟩
          rw [hp0.out] at x0 y0
          have e0 : (p0 != p0) = false := bne_self_eq_false _
          go_wp2
          go_region
          all_goals go_wp2
          all_goals
            go_roundg (n - (k + 1))
            case measure => omega
            case rel => exact ⟨k + 1, by omega, rfl, by go_num, by first | exact HB.out.drew | exact HB.out, HN⟩
        · have HF : Hid (sameNu n f n g = false) := sameNu_at hlt hfg
          have e0 : (f k != g k) = true := by simp [bne, hfg]
          obtain ⟨p0, hp0⟩ : ∃ x, Hid (f k = x) := ⟨_, rfl⟩
          obtain ⟨p1, hp1⟩ : ∃ x, Hid (g k = x) := ⟨_, rfl⟩
          rw [hp0.out] at x0 e0
          rw [hp1.out] at y0 e0
          clear HA hfg
          go_wp2
          go_region
          all_goals go_wp2
          all_goals
            go_ret
            exact ⟨by rw [HF.out]; rfl, by first | exact HB.out.drew | exact HB.out⟩
      · have hkz : ¬ (k : Int) < (n : Int) := by omega
        obtain rfl : k = n := by omega
        have HF : Hid (sameNu k f k g = true) := sameNu_yes HA.out
        clear h1 h2
        go_wp2
        go_ret
        exact ⟨by rw [HF.out]; rfl, hB⟩
  · have hq : ((n : Int) != (m : Int)) = true := by simp; omega
    have HF : Hid (sameNu n f m g = false) := sameNu_len hnm
    clear h1 h2 hnm
    go_enter Try.func56, Try.ntmps56
    go_wp2
    go_ret
    exact ⟨by rw [HF.out]; rfl, Below.refl _ _⟩

set_option maxHeartbeats 4000000 in
theorem specSameNd_any (u v : Value) (D E : PNode) (w : World) (h1 : NdView w u D) (h2 : NdView w v E) (hf : NFine D) :
    Calls Try.prog 26 #[u, v] w fun e w' => e = .returned (.bool (sameNd D E)) ∧ Below w.heap.size w w' := by
  obtain ⟨ac, cc, ap, cp, ai, ci, rfl, hc1, hp1, hi1⟩ := h1.is
  obtain ⟨bc, dc, bp, dp, bi, di, rfl, hc2, hp2, hi2⟩ := h2.is
  clear h1 h2
  have hB0 : Below (w.heap.size + 1 + 1) ((w.alloc (.cells #[.bool D.leaf, .slice ac D.nk cc, .slice ap D.nv cp, .slice ai D.nd ci] 28)).alloc (.cells #[.bool E.leaf, .slice bc E.nk dc, .slice bp E.nv dp, .slice bi E.nd di] 28)) ((w.alloc (.cells #[.bool D.leaf, .slice ac D.nk cc, .slice ap D.nv cp, .slice ai D.nd ci] 28)).alloc (.cells #[.bool E.leaf, .slice bc E.nk dc, .slice bp E.nv dp, .slice bi E.nd di] 28)) := Below.refl _ _
  obtain ⟨hBw0, -⟩ := nbox44_below hB0
  have HO : Hid (sameNd D E = (D.leaf == E.leaf && sameTx D.nk D.key E.nk E.key && sameTx D.nv D.val E.nv E.val && sameNu D.nd D.kid E.nd E.kid)) := rfl
  obtain ⟨S, hS⟩ : ∃ x, Hid (sameNd D E = x) := ⟨_, rfl⟩
  rw [hS.out] at HO ⊢
  cases q0 : (D.leaf == E.leaf) with
  | false =>
    have HF : Hid (S = false) := by show _ = _; rw [HO.out, q0]; rfl
    clear hc1 hc2 hp1 hp2 hi1 hi2 HO hS
    go_enter Try.func26, Try.ntmps26
    go_wp2
    go_ret
    exact ⟨by rw [HF.out]; rfl, hBw0⟩
  | true =>
  have hV1 := l14SameTexts_any ac bc D.nk cc E.nk dc D.key E.key _ (hc1.below hBw0) (hc2.below hBw0) hf.nk
  go_enter Try.func26, Try.ntmps26
  go_wp2_with fail
  refine hV1.mono ?_
  clear hV1 hc1 hc2
  cases q1 : sameTx D.nk D.key E.nk E.key with
  | false =>
    rintro e w1 ⟨rfl, hb1⟩
    have HF : Hid (S = false) := by show _ = _; rw [HO.out, q1]; simp
    have HB : Hid (Below w.heap.size w w1) := (nbox44_below (nbox44_on hB0 hb1)).1
    clear hp1 hp2 hi1 hi2 HO hS hb1 q0
    go_wp2
    go_ret
    exact ⟨by rw [HF.out]; rfl, HB.out⟩
  | true =>
  rintro e w1 ⟨rfl, hb1⟩
  have hB1 := nbox44_on hB0 hb1
  obtain ⟨hBw1, hs1⟩ := nbox44_below hB1
  obtain ⟨⟨x0, x1, x2, x3⟩, y0, y1, y2, y3⟩ := nbox44 hB1
  have hV2 := l14SameTexts_any ap bp D.nv cp E.nv dp D.val E.val w1 (hp1.below hBw1) (hp2.below hBw1) hf.nv
  clear hb1 hB0 hBw0
  go_wp2_with fail
  refine hV2.mono ?_
  clear hV2 hp1 hp2
  cases q2 : sameTx D.nv D.val E.nv E.val with
  | false =>
    rintro e w2 ⟨rfl, hb2⟩
    have HF : Hid (S = false) := by show _ = _; rw [HO.out, q2]; simp
    have HB : Hid (Below w.heap.size w w2) := (nbox44_below (nbox44_on hB1 hb2)).1
    clear hi1 hi2 HO hS hb2 q0 q1 x0 x1 x2 x3 y0 y1 y2 y3
    go_wp2
    go_ret
    exact ⟨by rw [HF.out]; rfl, HB.out⟩
  | true =>
  rintro e w2 ⟨rfl, hb2⟩
  have hB2 := nbox44_on hB1 hb2
  obtain ⟨hBw2, hs2⟩ := nbox44_below hB2
  clear x0 x1 x2 x3 y0 y1 y2 y3
  obtain ⟨⟨x0, x1, x2, x3⟩, y0, y1, y2, y3⟩ := nbox44 hB2
  have hV3 := l14SameInts_any ai bi D.nd ci E.nd di D.kid E.kid w2 (hi1.below hBw2) (hi2.below hBw2) hf.nd
  clear hb2 hB1 hBw1 hs1
  go_wp2_with fail
  refine hV3.mono ?_
  rintro e w3 ⟨rfl, hb3⟩
  have HF : Hid (S = sameNu D.nd D.kid E.nd E.kid) := by show _ = _; rw [HO.out, q0, q1, q2]; simp
  have HB : Hid (Below w.heap.size w w3) := (nbox44_below (nbox44_on hB2 hb3)).1
  clear hi1 hi2 HO hS hb3 q0 q1 q2 x0 x1 x2 x3 y0 y1 y2 y3 hV3
  obtain ⟨R, hR⟩ : ∃ x, Hid (sameNu D.nd D.kid E.nd E.kid = x) := ⟨_, rfl⟩
  rw [hR.out] at HF ⊢
  go_wp2
  go_ret
  exact ⟨by rw [HF.out]; first | rfl | simp, HB.out⟩
end Go.Proofs.Ytkaficcnfkpkiaa

