/-
  Together: NodeCopy, BytesEq, NodeEq, Plain, PutPlain, TextPlain, NodeBytes, Info, PutSpec, PutTextSpec
-/
import Derived.Test.YtkaficcnfkpkiaaNz1
import Derived.Deep.LoopGhost
import Derived.Laws.BitsAllLaws
import Derived.Laws.Bits128
import Derived.Lib.AppendStr
import Derived.Test.YtkaficcnfkpkiaaProg
import Derived.Test.YtkaficcnfkpkiaaChecked
import Derived.WalkSpells
/-
  A node copied, as the law does it.
-/
namespace Go.Proofs.Ytkaficcnfkpkiaa
open Go.RowKit
set_option maxRecDepth 4000

theorem alloc_sizeN (W : World) (o : Obj) : (W.alloc o).heap.size = W.heap.size + 1 := by simp
/-- k of the n elements are copied into the new row. -/
structure CopO (T : TypeId) (z : Value) (w wr : World) (n : Nat) (f : Nat → Value) (k : Nat) : Prop where
  below : Below w.heap.size w wr
  size : w.heap.size < wr.heap.size
  row : wr.rowIs w.heap.size T n (fun j => if j < k then f j else z)
theorem copO_start (T : TypeId) (z : Value) (w : World) (n : Nat) (f : Nat → Value) : CopO T z w (w.alloc (.cells (madeCells #[z] n) T)) n f 0 := by
  have hr := World.rowIs_alloc w (madeCells #[z] n) T (fun _ => z) (fun i hi => by
    rw [size_madeCells] at hi
    simp [madeCells, hi, Nat.mod_one])
  rw [size_madeCells] at hr
  exact ⟨(Below.refl _ _).alloc (Nat.le_refl _) _, by simp, hr.congr (fun i _ => by simp)⟩
theorem CopO.put {T : TypeId} {z : Value} {w wr : World} {n : Nat} {f : Nat → Value} {k : Nat} (h : CopO T z w wr n f k) : CopO T z w (wr.setCell ⟨w.heap.size, k, none⟩ (f k)) n f (k + 1) := by
  refine ⟨h.below.setCell (Nat.le_refl _) _, by simpa using h.size, (h.row.set _ _).congr (fun i _ => ?_)⟩
  by_cases e : i = k
  · subst e; simp
  · rw [if_neg e]
    by_cases hlt : i < k
    · rw [if_pos hlt, if_pos (by omega)]
    · rw [if_neg hlt, if_neg (by omega)]
theorem CopO.view {T : TypeId} {z : Value} {w wr : World} {n : Nat} {f : Nat → Value} (h : CopO T z w wr n f n) : OV wr (some ⟨w.heap.size, 0, none⟩) n n f :=
  OV.ofIs (h.row.congr (fun i hi => by rw [if_pos hi])) (Nat.le_refl _)

theorem infoTx : ∃ i, Try.prog.info? 9 = some i ∧ i.zero = some (.string ⟨#[]⟩) ∧ i.size = 1 ∧ i.bytes = 16 := by
  have h : (Try.prog.info? 9).map (fun i => (i.zero, i.size, i.bytes)) = some (some (.string ⟨#[]⟩), 1, 16) := by kernel_rfl
  obtain ⟨i, hi, hz⟩ := Option.map_eq_some_iff.1 h
  simp only [Prod.mk.injEq] at hz
  exact ⟨i, hi, hz.1, hz.2.1, hz.2.2⟩
theorem makeTx (n : Nat) (h : n ≤ 1048576) (w : World) : (Instr.makeSlice 22 (.int .i64 (n : Int)) (.int .i64 (n : Int))).run Try.prog w = .ok (.slice (some ⟨w.heap.size, 0, none⟩) n n) (w.alloc (.cells (madeCells #[.string ⟨#[]⟩] n) 9)) := by
  obtain ⟨i, hi, hz, hs, hb⟩ := infoTx
  have hr := run_make (P := Try.prog) w 22 9 i _ Try.underlying22 hi hz .i64 .i64 n n (by omega) (Int.le_refl _) (by rw [hb]; omega) (by omega)
  simp only [Int.toNat_natCast, hs, Nat.mul_one] at hr
  exact hr
set_option maxHeartbeats 2000000 in
theorem toStringS_any (a : Option Addr) (n cap : Nat) (f : Nat → ByteArray) (w : World) (h : TxV w a n cap f) (hn : n ≤ 1048576) :
    Calls Try.prog 34 #[.slice a n cap] w fun e w' => e = .returned (.slice (some ⟨w.heap.size, 0, none⟩) n n) ∧ TxV w' (some ⟨w.heap.size, 0, none⟩) n n f ∧ Below w.heap.size w w' ∧ w.heap.size < w'.heap.size := by
  have hmk := fun W => makeTx n hn W
  go_enter Try.func34, Try.ntmps34
  go_wp2
  clear hmk
  go_loopg [4] n (fun q i wr => ∃ k : Nat, k ≤ n ∧ q = n - k ∧ i = .int .i64 k ∧ CopO 9 (.string ⟨#[]⟩) w wr n (fun j => .string (f j)) k)
  case atStart => exact ⟨0, Nat.zero_le _, rfl, rfl, copO_start _ _ w n _⟩
  case round =>
    obtain ⟨k, hk, rfl, rfl, hC⟩ := hrel
    by_cases hlt : k < n
    · obtain ⟨b1, o1, rfl, hb1, x0⟩ := txv_at (h.below hC.below) hlt
      have hkz : (k : Int) < (n : Int) := by omega
      have hS : Hid (CopO 9 (.string ⟨#[]⟩) w (wr.setCell ⟨w.heap.size, k, none⟩ (.string (f k))) n (fun j => .string (f j)) (k + 1)) := hC.put
      have z0 := hC.row.cell (i := k) hlt
      have f0 := hC.row.frozen k
      clear hC h
      go_wp2
      go_roundg (n - (k + 1))
      case measure => omega
      case rel => exact ⟨k + 1, by omega, rfl, by go_num, hS.out⟩
    · have hkn : k = n := by omega
      have hkz : ¬ (k : Int) < (n : Int) := by omega
      rw [hkn] at hC
      have hS : Hid (CopO 9 (.string ⟨#[]⟩) w wr n (fun j => .string (f j)) n) := hC
      clear hC h
      go_wp2
      go_ret
      exact ⟨rfl, hS.out.view, hS.out.below, hS.out.size⟩

theorem infoNu : ∃ i, Try.prog.info? 3 = some i ∧ i.zero = some (.int .i64 0) ∧ i.size = 1 ∧ i.bytes = 8 := by
  have h : (Try.prog.info? 3).map (fun i => (i.zero, i.size, i.bytes)) = some (some (.int .i64 0), 1, 8) := by kernel_rfl
  obtain ⟨i, hi, hz⟩ := Option.map_eq_some_iff.1 h
  simp only [Prod.mk.injEq] at hz
  exact ⟨i, hi, hz.1, hz.2.1, hz.2.2⟩
theorem makeNu (n : Nat) (h : n ≤ 1048576) (w : World) : (Instr.makeSlice 23 (.int .i64 (n : Int)) (.int .i64 (n : Int))).run Try.prog w = .ok (.slice (some ⟨w.heap.size, 0, none⟩) n n) (w.alloc (.cells (madeCells #[.int .i64 0] n) 3)) := by
  obtain ⟨i, hi, hz, hs, hb⟩ := infoNu
  have hr := run_make (P := Try.prog) w 23 3 i _ Try.underlying23 hi hz .i64 .i64 n n (by omega) (Int.le_refl _) (by rw [hb]; omega) (by omega)
  simp only [Int.toNat_natCast, hs, Nat.mul_one] at hr
  exact hr
set_option maxHeartbeats 2000000 in
theorem toIntS_any (a : Option Addr) (n cap : Nat) (f : Nat → Int) (w : World) (h : NuV w a n cap f) (hn : n ≤ 1048576) :
    Calls Try.prog 35 #[.slice a n cap] w fun e w' => e = .returned (.slice (some ⟨w.heap.size, 0, none⟩) n n) ∧ NuV w' (some ⟨w.heap.size, 0, none⟩) n n f ∧ Below w.heap.size w w' ∧ w.heap.size < w'.heap.size := by
  have hmk := fun W => makeNu n hn W
  go_enter Try.func35, Try.ntmps35
  go_wp2
  clear hmk
  go_loopg [4] n (fun q i wr => ∃ k : Nat, k ≤ n ∧ q = n - k ∧ i = .int .i64 k ∧ CopO 3 (.int .i64 0) w wr n (fun j => .int .i64 (f j)) k)
  case atStart => exact ⟨0, Nat.zero_le _, rfl, rfl, copO_start _ _ w n _⟩
  case round =>
    obtain ⟨k, hk, rfl, rfl, hC⟩ := hrel
    by_cases hlt : k < n
    · obtain ⟨b1, o1, rfl, hb1, x0⟩ := nuv_at (h.below hC.below) hlt
      have hkz : (k : Int) < (n : Int) := by omega
      have hS : Hid (CopO 3 (.int .i64 0) w (wr.setCell ⟨w.heap.size, k, none⟩ (.int .i64 (f k))) n (fun j => .int .i64 (f j)) (k + 1)) := hC.put
      have z0 := hC.row.cell (i := k) hlt
      have f0 := hC.row.frozen k
      clear hC h
      go_wp2
      go_roundg (n - (k + 1))
      case measure => omega
      case rel => exact ⟨k + 1, by omega, rfl, by go_num, hS.out⟩
    · have hkn : k = n := by omega
      have hkz : ¬ (k : Int) < (n : Int) := by omega
      rw [hkn] at hC
      have hS : Hid (CopO 3 (.int .i64 0) w wr n (fun j => .int .i64 (f j)) n) := hC
      clear hC h
      go_wp2
      go_ret
      exact ⟨rfl, hS.out.view, hS.out.below, hS.out.size⟩

/-- A node's value whose blocks lie from B on. -/
structure NdOwn (w : World) (B : Nat) (v : Value) (D : PNode) : Prop where
  is : ∃ gc cc gp cp gi ci, v = .agg #[.bool D.leaf, .slice (some ⟨gc, 0, none⟩) D.nk cc, .slice (some ⟨gp, 0, none⟩) D.nv cp, .slice (some ⟨gi, 0, none⟩) D.nd ci] ∧ B ≤ gc ∧ B ≤ gp ∧ B ≤ gi ∧ TxV w (some ⟨gc, 0, none⟩) D.nk cc D.key ∧ TxV w (some ⟨gp, 0, none⟩) D.nv cp D.val ∧ NuV w (some ⟨gi, 0, none⟩) D.nd ci D.kid
theorem NdOwn.view {w : World} {B : Nat} {v : Value} {D : PNode} (h : NdOwn w B v D) : NdView w v D := by
  obtain ⟨gc, cc, gp, cp, gi, ci, e, -, -, -, h1, h2, h3⟩ := h.is
  exact ⟨_, cc, _, cp, _, ci, e, h1, h2, h3⟩

set_option maxHeartbeats 2000000 in
theorem toNode_any (v : Value) (D : PNode) (w : World) (h : NdView w v D) (hf : NFine D) :
    Calls Try.prog 11 #[v] w fun e w' => ∃ v', e = .returned v' ∧ NdOwn w' w.heap.size v' D ∧ Below w.heap.size w w' := by
  obtain ⟨ac, cc, ap, cp, ai, ci, rfl, hc, hp, hi⟩ := h.is
  clear h
  have hb0 : Below w.heap.size w (((w.alloc (.cells #[.bool D.leaf, .slice ac D.nk cc, .slice ap D.nv cp, .slice ai D.nd ci] 25)).alloc (.cells #[.bool false, .slice none 0 0, .slice none 0 0, .slice none 0 0] 28)).alloc (.cells #[.bool D.leaf, .slice none 0 0, .slice none 0 0, .slice none 0 0] 28)) := (((Below.refl _ _).alloc (Nat.le_refl _) _).alloc (by simp) _).alloc (by simp; omega) _
  have hS := toStringS_any ac D.nk cc D.key _ (hc.below hb0) hf.nk
  have V2 := V4.new ((w.alloc (.cells #[.bool D.leaf, .slice ac D.nk cc, .slice ap D.nv cp, .slice ai D.nd ci] 25)).alloc (.cells #[.bool false, .slice none 0 0, .slice none 0 0, .slice none 0 0] 28)) 28 (.bool D.leaf) (.slice none 0 0) (.slice none 0 0) (.slice none 0 0)
  have V1 := (V4.new (w.alloc (.cells #[.bool D.leaf, .slice ac D.nk cc, .slice ap D.nv cp, .slice ai D.nd ci] 25)) 28 (.bool false) (.slice none 0 0) (.slice none 0 0) (.slice none 0 0)).below ((Below.refl _ _).alloc (Nat.le_refl _) (.cells #[.bool D.leaf, .slice none 0 0, .slice none 0 0, .slice none 0 0] 28))
  have V0 := ((V4.new w 25 (.bool D.leaf) (.slice ac D.nk cc) (.slice ap D.nv cp) (.slice ai D.nd ci)).below ((Below.refl _ _).alloc (Nat.le_refl _) (.cells #[.bool false, .slice none 0 0, .slice none 0 0, .slice none 0 0] 28))).below ((Below.refl _ _).alloc (Nat.le_refl _) (.cells #[.bool D.leaf, .slice none 0 0, .slice none 0 0, .slice none 0 0] 28))
  simp only [alloc_sizeN] at V0 V1 V2 hS
  go_enter Try.func11, Try.ntmps11
  go_wp2_with fail
  refine hS.mono ?_
  rintro e w2 ⟨rfl, hv2, hb2, hlt2⟩
  have hbw2 : Below w.heap.size w w2 := hb0.trans (hb2.mono (by omega))
  have V2' := V2.below (by simpa using hb2)
  have V1' := V1.below (by simpa using hb2)
  have V0' := V0.below (by simpa using hb2)
  clear V0 V1 V2 hS hb2 hb0
  obtain ⟨-, a1, -, -⟩ := V2'.cells
  obtain ⟨-, q1, -, -⟩ := V2'.fz
  obtain ⟨W3, hW3⟩ : ∃ W3, Hid (w2.setCell ⟨w.heap.size + 1 + 1, 1, none⟩ (.slice (some ⟨w.heap.size + 1 + 1 + 1, 0, none⟩) D.nk D.nk) = W3) := ⟨_, rfl⟩
  have U2 := V2'.set1 (.slice (some ⟨w.heap.size + 1 + 1 + 1, 0, none⟩) D.nk D.nk)
  have U1 := V1'.other (C := w.heap.size + 1 + 1) (i := 1) (u := .slice (some ⟨w.heap.size + 1 + 1 + 1, 0, none⟩) D.nk D.nk) (by omega)
  have U0 := V0'.other (C := w.heap.size + 1 + 1) (i := 1) (u := .slice (some ⟨w.heap.size + 1 + 1 + 1, 0, none⟩) D.nk D.nk) (by omega)
  have hv3 := hv2.set (B := w.heap.size + 1 + 1) (by omega) 1 (.slice (some ⟨w.heap.size + 1 + 1 + 1, 0, none⟩) D.nk D.nk)
  have hbw3 : Below w.heap.size w (w2.setCell ⟨w.heap.size + 1 + 1, 1, none⟩ (.slice (some ⟨w.heap.size + 1 + 1 + 1, 0, none⟩) D.nk D.nk)) := hbw2.setCell (p := ⟨w.heap.size + 1 + 1, 1, none⟩) (by simp; omega) _
  have hs3 : w.heap.size + 1 + 1 + 1 < (w2.setCell ⟨w.heap.size + 1 + 1, 1, none⟩ (.slice (some ⟨w.heap.size + 1 + 1 + 1, 0, none⟩) D.nk D.nk)).heap.size := by simpa using hlt2
  rw [hW3.out] at U0 U1 U2 hv3 hbw3 hs3
  obtain ⟨u0, u1, u2, u3⟩ := U0.cells
  have hS := toStringS_any ap D.nv cp D.val W3 (hp.below hbw3) hf.nv
  clear V0' V1' V2' hv2 hbw2 hlt2
  go_wp2_with (rw [hW3.out])
  refine hS.mono ?_
  rintro e w4 ⟨rfl, hv4, hb4, hlt4⟩
  obtain ⟨g4, hg4⟩ : ∃ g, Hid (W3.heap.size = g) := ⟨_, rfl⟩
  rw [hg4.out] at hv4 hlt4 hs3 ⊢
  have hbw4 : Below w.heap.size w w4 := hbw3.trans (hb4.mono hbw3.size)
  have T2 := U2.below hb4
  have T1 := U1.below hb4
  have T0 := U0.below hb4
  have hv3' := hv3.below hb4
  clear U0 U1 U2 hS hb4 hbw3 hv3 u0 u1 u2 u3 hc hp a1 q1
  obtain ⟨-, -, a1, -⟩ := T2.cells
  obtain ⟨-, -, q1, -⟩ := T2.fz
  obtain ⟨W5, hW5⟩ : ∃ W5, Hid (w4.setCell ⟨w.heap.size + 1 + 1, 2, none⟩ (.slice (some ⟨g4, 0, none⟩) D.nv D.nv) = W5) := ⟨_, rfl⟩
  have S2 := T2.set2 (.slice (some ⟨g4, 0, none⟩) D.nv D.nv)
  have S1 := T1.other (C := w.heap.size + 1 + 1) (i := 2) (u := .slice (some ⟨g4, 0, none⟩) D.nv D.nv) (by omega)
  have S0 := T0.other (C := w.heap.size + 1 + 1) (i := 2) (u := .slice (some ⟨g4, 0, none⟩) D.nv D.nv) (by omega)
  have hv5 := hv4.set (B := w.heap.size + 1 + 1) (by omega) 2 (.slice (some ⟨g4, 0, none⟩) D.nv D.nv)
  have hv3'' := hv3'.set (B := w.heap.size + 1 + 1) (by omega) 2 (.slice (some ⟨g4, 0, none⟩) D.nv D.nv)
  have hbw5 : Below w.heap.size w (w4.setCell ⟨w.heap.size + 1 + 1, 2, none⟩ (.slice (some ⟨g4, 0, none⟩) D.nv D.nv)) := hbw4.setCell (p := ⟨w.heap.size + 1 + 1, 2, none⟩) (by simp; omega) _
  have hs5 : g4 < (w4.setCell ⟨w.heap.size + 1 + 1, 2, none⟩ (.slice (some ⟨g4, 0, none⟩) D.nv D.nv)).heap.size := by simpa using hlt4
  rw [hW5.out] at S0 S1 S2 hv5 hv3'' hbw5 hs5
  obtain ⟨u0, u1, u2, u3⟩ := S0.cells
  have hS := toIntS_any ai D.nd ci D.kid W5 (hi.below hbw5) hf.nd
  clear T0 T1 T2 hv4 hbw4 hlt4 hv3' hi
  go_wp2_with (rw [hW5.out])
  refine hS.mono ?_
  rintro e w6 ⟨rfl, hv6, hb6, hlt6⟩
  obtain ⟨g6, hg6⟩ : ∃ g, Hid (W5.heap.size = g) := ⟨_, rfl⟩
  rw [hg6.out] at hv6 hlt6 hs5 ⊢
  have hbw6 : Below w.heap.size w w6 := hbw5.trans (hb6.mono hbw5.size)
  have R2 := S2.below hb6
  have R1 := S1.below hb6
  have hv3b := hv3''.below hb6
  have hv5b := hv5.below hb6
  clear S0 S1 S2 hS hb6 hbw5 hv3'' hv5 u0 u1 u2 u3 a1 q1
  obtain ⟨-, -, -, a1⟩ := R2.cells
  obtain ⟨-, -, -, q1⟩ := R2.fz
  obtain ⟨W7, hW7⟩ : ∃ W7, Hid (w6.setCell ⟨w.heap.size + 1 + 1, 3, none⟩ (.slice (some ⟨g6, 0, none⟩) D.nd D.nd) = W7) := ⟨_, rfl⟩
  have Z2 := R2.set3 (.slice (some ⟨g6, 0, none⟩) D.nd D.nd)
  have Z1 := R1.other (C := w.heap.size + 1 + 1) (i := 3) (u := .slice (some ⟨g6, 0, none⟩) D.nd D.nd) (by omega)
  have hv3c := hv3b.set (B := w.heap.size + 1 + 1) (by omega) 3 (.slice (some ⟨g6, 0, none⟩) D.nd D.nd)
  have hv5c := hv5b.set (B := w.heap.size + 1 + 1) (by omega) 3 (.slice (some ⟨g6, 0, none⟩) D.nd D.nd)
  have hv6c := hv6.set (B := w.heap.size + 1 + 1) (by omega) 3 (.slice (some ⟨g6, 0, none⟩) D.nd D.nd)
  have hbw7 : Below w.heap.size w (w6.setCell ⟨w.heap.size + 1 + 1, 3, none⟩ (.slice (some ⟨g6, 0, none⟩) D.nd D.nd)) := hbw6.setCell (p := ⟨w.heap.size + 1 + 1, 3, none⟩) (by simp; omega) _
  rw [hW7.out] at Z1 Z2 hv3c hv5c hv6c hbw7
  obtain ⟨u0, u1, u2, u3⟩ := Z2.cells
  obtain ⟨p0, p1, p2, p3⟩ := Z1.cells
  obtain ⟨k0, k1, k2, k3⟩ := Z1.fz
  have ZF := (((Z1.set0 (.bool D.leaf)).set1 (.slice (some ⟨w.heap.size + 1 + 1 + 1, 0, none⟩) D.nk D.nk)).set2 (.slice (some ⟨g4, 0, none⟩) D.nv D.nv)).set3 (.slice (some ⟨g6, 0, none⟩) D.nd D.nd)
  have HR : Hid (NdOwn ((((W7.setCell ⟨w.heap.size + 1, 0, none⟩ (.bool D.leaf)).setCell ⟨w.heap.size + 1, 1, none⟩ (.slice (some ⟨w.heap.size + 1 + 1 + 1, 0, none⟩) D.nk D.nk)).setCell ⟨w.heap.size + 1, 2, none⟩ (.slice (some ⟨g4, 0, none⟩) D.nv D.nv)).setCell ⟨w.heap.size + 1, 3, none⟩ (.slice (some ⟨g6, 0, none⟩) D.nd D.nd)) w.heap.size (.agg #[.bool D.leaf, .slice (some ⟨w.heap.size + 1 + 1 + 1, 0, none⟩) D.nk D.nk, .slice (some ⟨g4, 0, none⟩) D.nv D.nv, .slice (some ⟨g6, 0, none⟩) D.nd D.nd]) D
      ∧ Below w.heap.size w ((((W7.setCell ⟨w.heap.size + 1, 0, none⟩ (.bool D.leaf)).setCell ⟨w.heap.size + 1, 1, none⟩ (.slice (some ⟨w.heap.size + 1 + 1 + 1, 0, none⟩) D.nk D.nk)).setCell ⟨w.heap.size + 1, 2, none⟩ (.slice (some ⟨g4, 0, none⟩) D.nv D.nv)).setCell ⟨w.heap.size + 1, 3, none⟩ (.slice (some ⟨g6, 0, none⟩) D.nd D.nd))) := by
    refine ⟨⟨_, _, _, _, _, _, rfl, by omega, by omega, by omega, ?_, ?_, ?_⟩, ?_⟩
    · exact (((hv3c.set (B := w.heap.size + 1) (by omega) _ _).set (B := w.heap.size + 1) (by omega) _ _).set (B := w.heap.size + 1) (by omega) _ _).set (B := w.heap.size + 1) (by omega) _ _
    · exact (((hv5c.set (B := w.heap.size + 1) (by omega) _ _).set (B := w.heap.size + 1) (by omega) _ _).set (B := w.heap.size + 1) (by omega) _ _).set (B := w.heap.size + 1) (by omega) _ _
    · exact (((hv6c.set (B := w.heap.size + 1) (by omega) _ _).set (B := w.heap.size + 1) (by omega) _ _).set (B := w.heap.size + 1) (by omega) _ _).set (B := w.heap.size + 1) (by omega) _ _
    · exact (((hbw7.setCell (p := ⟨w.heap.size + 1, 0, none⟩) (by simp) _).setCell (p := ⟨w.heap.size + 1, 1, none⟩) (by simp) _).setCell (p := ⟨w.heap.size + 1, 2, none⟩) (by simp) _).setCell (p := ⟨w.heap.size + 1, 3, none⟩) (by simp) _
  obtain ⟨r0, r1, r2, r3⟩ := ZF.cells
  clear R1 R2 Z1 Z2 ZF hv3b hv5b hv6 hv3c hv5c hv6c hbw6 hbw7 hlt6 hs3 hs5 hf
  go_wp2_with (rw [hW7.out])
  refine bodyPost_ret (v := .agg #[.bool D.leaf, .slice (some ⟨w.heap.size + 1 + 1 + 1, 0, none⟩) D.nk D.nk, .slice (some ⟨g4, 0, none⟩) D.nv D.nv, .slice (some ⟨g6, 0, none⟩) D.nd D.nd]) (by simp [results, Try.results11, go_sem, r0, r1, r2, r3]) rfl ⟨_, rfl, HR.out.1, HR.out.2⟩
end Go.Proofs.Ytkaficcnfkpkiaa

/-
  Texts that are held against each other.
-/
namespace Go.Proofs.Ytkaficcnfkpkiaa
open Go.RowKit
set_option maxRecDepth 4000

theorem bytes_inj {a b : ByteArray} : a.toList = b.toList ↔ a = b := by
  constructor
  · intro h
    rw [ByteArray.toList_eq, ByteArray.toList_eq] at h
    obtain ⟨⟨x⟩⟩ := a
    obtain ⟨⟨y⟩⟩ := b
    simp only at h
    rw [h]
  · rintro rfl; rfl
theorem bytes_eq {a b : ByteArray} (h : a = b) : (a.toList == b.toList) = true := by rw [h]; exact beq_self_eq_true _
theorem bytes_ne {a b : ByteArray} (h : a ≠ b) : (a.toList == b.toList) = false := by
  cases e : (a.toList == b.toList) with
  | false => rfl
  | true => exact absurd (bytes_inj.1 (eq_of_beq e)) h
end Go.Proofs.Ytkaficcnfkpkiaa

/-
  Nodes that read alike are alike, as the law holds them against each other.
-/
namespace Go.Proofs.Ytkaficcnfkpkiaa
open Go.RowKit
set_option maxRecDepth 4000

set_option maxHeartbeats 2000000 in
theorem eqStringS_same (a1 a2 : Option Addr) (n c1 c2 : Nat) (f : Nat → ByteArray) (w : World) (h1 : TxV w a1 n c1 f) (h2 : TxV w a2 n c2 f) (hn : n ≤ 1048576) :
    Calls Try.prog 39 #[.slice a1 n c1, .slice a2 n c2] w fun e w' => e = .returned (.bool true) ∧ Below w.heap.size w w' := by
  go_enter Try.func39, Try.ntmps39
  go_wp2
  go_loopg [5] n (fun q i wr => ∃ k : Nat, k ≤ n ∧ q = n - k ∧ i = .int .i64 k ∧ Below w.heap.size w wr)
  case atStart => exact ⟨0, Nat.zero_le _, rfl, rfl, Below.refl _ _⟩
  case round =>
    obtain ⟨k, hk, rfl, rfl, hB⟩ := hrel
    by_cases hlt : k < n
    · obtain ⟨b1, o1, rfl, hb1, x0⟩ := txv_at (h1.below hB) hlt
      obtain ⟨b2, o2, rfl, hb2, y0⟩ := txv_at (h2.below hB) hlt
      obtain ⟨p0, hp0⟩ : ∃ x, Hid (f k = x) := ⟨_, rfl⟩
      rw [hp0.out] at x0 y0
      have hkz : (k : Int) < (n : Int) := by omega
      have e0 := bytes_eq (a := p0) rfl
      clear h1 h2
      go_wp2
      go_region
      all_goals go_wp2
      all_goals
        go_roundg (n - (k + 1))
        case measure => omega
        case rel => exact ⟨k + 1, by omega, rfl, by go_num, by first | exact hB.drew | exact hB⟩
    · clear h1 h2
      go_wp2
      go_ret
      exact ⟨rfl, hB⟩

set_option maxHeartbeats 2000000 in
theorem eqIntS_same (a1 a2 : Option Addr) (n c1 c2 : Nat) (f : Nat → Int) (w : World) (h1 : NuV w a1 n c1 f) (h2 : NuV w a2 n c2 f) (hn : n ≤ 1048576) :
    Calls Try.prog 40 #[.slice a1 n c1, .slice a2 n c2] w fun e w' => e = .returned (.bool true) ∧ Below w.heap.size w w' := by
  go_enter Try.func40, Try.ntmps40
  go_wp2
  go_loopg [5] n (fun q i wr => ∃ k : Nat, k ≤ n ∧ q = n - k ∧ i = .int .i64 k ∧ Below w.heap.size w wr)
  case atStart => exact ⟨0, Nat.zero_le _, rfl, rfl, Below.refl _ _⟩
  case round =>
    obtain ⟨k, hk, rfl, rfl, hB⟩ := hrel
    by_cases hlt : k < n
    · obtain ⟨b1, o1, rfl, hb1, x0⟩ := nuv_at (h1.below hB) hlt
      obtain ⟨b2, o2, rfl, hb2, y0⟩ := nuv_at (h2.below hB) hlt
      obtain ⟨p0, hp0⟩ : ∃ x, Hid (f k = x) := ⟨_, rfl⟩
      rw [hp0.out] at x0 y0
      have hkz : (k : Int) < (n : Int) := by omega
      have e0 : (p0 != p0) = false := bne_self_eq_false _
      clear h1 h2
      go_wp2
      go_region
      all_goals go_wp2
      all_goals
        go_roundg (n - (k + 1))
        case measure => omega
        case rel => exact ⟨k + 1, by omega, rfl, by go_num, by first | exact hB.drew | exact hB⟩
    · clear h1 h2
      go_wp2
      go_ret
      exact ⟨rfl, hB⟩

set_option maxHeartbeats 2000000 in
theorem eqNode_same (u v : Value) (D : PNode) (w : World) (h1 : NdView w u D) (h2 : NdView w v D) (hf : NFine D) :
    Calls Try.prog 13 #[u, v] w fun e w' => e = .returned (.bool true) ∧ Below w.heap.size w w' := by
  obtain ⟨ac, cc, ap, cp, ai, ci, rfl, hc1, hp1, hi1⟩ := h1.is
  obtain ⟨bc, dc, bp, dp, bi, di, rfl, hc2, hp2, hi2⟩ := h2.is
  clear h1 h2
  have e0 : (D.leaf != D.leaf) = false := bne_self_eq_false _
  have hB0 : Below (w.heap.size + 1 + 1) ((w.alloc (.cells #[.bool D.leaf, .slice ac D.nk cc, .slice ap D.nv cp, .slice ai D.nd ci] 28)).alloc (.cells #[.bool D.leaf, .slice bc D.nk dc, .slice bp D.nv dp, .slice bi D.nd di] 28)) ((w.alloc (.cells #[.bool D.leaf, .slice ac D.nk cc, .slice ap D.nv cp, .slice ai D.nd ci] 28)).alloc (.cells #[.bool D.leaf, .slice bc D.nk dc, .slice bp D.nv dp, .slice bi D.nd di] 28)) := Below.refl _ _
  obtain ⟨hBw0, -⟩ := nbox44_below hB0
  have hV1 := eqStringS_same ac bc D.nk cc dc D.key _ (hc1.below hBw0) (hc2.below hBw0) hf.nk
  go_enter Try.func13, Try.ntmps13
  go_wp2_with fail
  refine hV1.mono ?_
  rintro e w1 ⟨rfl, hb1⟩
  have hB1 := nbox44_on hB0 hb1
  obtain ⟨hBw1, hs1⟩ := nbox44_below hB1
  obtain ⟨⟨x0, x1, x2, x3⟩, y0, y1, y2, y3⟩ := nbox44 hB1
  have hV2 := eqStringS_same ap bp D.nv cp dp D.val w1 (hp1.below hBw1) (hp2.below hBw1) hf.nv
  clear hV1 hb1 hB0 hBw0 hc1 hc2
  go_wp2_with fail
  refine hV2.mono ?_
  rintro e w2 ⟨rfl, hb2⟩
  have hB2 := nbox44_on hB1 hb2
  obtain ⟨hBw2, hs2⟩ := nbox44_below hB2
  clear x0 x1 x2 x3 y0 y1 y2 y3
  obtain ⟨⟨x0, x1, x2, x3⟩, y0, y1, y2, y3⟩ := nbox44 hB2
  have hV3 := eqIntS_same ai bi D.nd ci di D.kid w2 (hi1.below hBw2) (hi2.below hBw2) hf.nd
  clear hV2 hb2 hB1 hBw1 hp1 hp2 hs1
  go_wp2_with fail
  refine hV3.mono ?_
  rintro e w3 ⟨rfl, hb3⟩
  have HB : Hid (Below w.heap.size w w3) := (nbox44_below (nbox44_on hB2 hb3)).1
  clear hV3 hb3 hB2 hBw2 hi1 hi2 hf
  go_wp2
  go_ret
  exact ⟨rfl, HB.out⟩
end Go.Proofs.Ytkaficcnfkpkiaa

/-
  Plain facts on numbers: and, or, exclusive or of two numbers that are not negative, as Go's int has them. No program text is named here.
-/
namespace Go.Proofs.Ytkaficcnfkpkiaa
open Go.RowKit
set_option maxRecDepth 4000

theorem wrapNat63 (n : Nat) (h : n < 9223372036854775808) : IntKind.i64.wrap (n : Int) = (n : Int) := by
  rw [IntKind.wrap_i64]; omega

theorem i64_xor_nat (a b : Nat) (ha : a < 9223372036854775808) (hb : b < 9223372036854775808) : bits .xor .i64 (a : Int) (b : Int) = ((a ^^^ b : Nat) : Int) := by
  have h : a ^^^ b < 9223372036854775808 := Nat.xor_lt_two_pow (n := 63) ha hb
  show IntKind.i64.wrap ((BitVec.ofInt 64 (a : Int) ^^^ BitVec.ofInt 64 (b : Int)).toNat : Nat) = _
  rw [BitVec.toNat_xor, ofInt_u64 a (by omega), ofInt_u64 b (by omega), wrapNat63 _ h]

theorem i64_or_nat (a b : Nat) (ha : a < 9223372036854775808) (hb : b < 9223372036854775808) : bits .or .i64 (a : Int) (b : Int) = ((a ||| b : Nat) : Int) := by
  have h : a ||| b < 9223372036854775808 := Nat.or_lt_two_pow (n := 63) ha hb
  show IntKind.i64.wrap ((BitVec.ofInt 64 (a : Int) ||| BitVec.ofInt 64 (b : Int)).toNat : Nat) = _
  rw [BitVec.toNat_or, ofInt_u64 a (by omega), ofInt_u64 b (by omega), wrapNat63 _ h]

theorem i64_and_nat (a b : Nat) (ha : a < 9223372036854775808) (hb : b < 9223372036854775808) : bits .and .i64 (a : Int) (b : Int) = ((a &&& b : Nat) : Int) := by
  have h : a &&& b < 9223372036854775808 := Nat.and_lt_two_pow (n := 63) _ hb
  show IntKind.i64.wrap ((BitVec.ofInt 64 (a : Int) &&& BitVec.ofInt 64 (b : Int)).toNat : Nat) = _
  rw [BitVec.toNat_and, ofInt_u64 a (by omega), ofInt_u64 b (by omega), wrapNat63 _ h]

theorem i64_and1 (n : Nat) (h : n < 9223372036854775808) : bits .and .i64 (n : Int) 1 = ((n % 2 : Nat) : Int) := by
  have := i64_and_nat n 1 h (by decide)
  rw [nat_mask1] at this; exact this

/-- What is laid above the lower i bits is added. -/
theorem i64_or_add (i : Nat) (a b : Int) (h0 : 0 ≤ a) (h1 : a < 2 ^ i) (h2 : 0 ≤ b) (h3 : b % 2 ^ i = 0) (h4 : b < 9223372036854775808) (h5 : (2 : Int) ^ i ≤ 9223372036854775808) : bits .or .i64 a b = a + b := by
  obtain ⟨x, rfl⟩ := Int.eq_ofNat_of_zero_le h0
  obtain ⟨y, rfl⟩ := Int.eq_ofNat_of_zero_le h2
  have e : ((2 ^ i : Nat) : Int) = 2 ^ i := by simp
  rw [← e] at h1 h3 h5
  have h3' : y % 2 ^ i = 0 := by omega
  rw [i64_or_nat x y (by omega) (by omega), Nat.or_comm, nat_join i y x h3' (by omega)]
  omega

theorem u8_wrap (x : Int) : IntKind.u8.wrap x = x % 256 := by simp [IntKind.wrap, IntKind.bits, IntKind.signed]

end Go.Proofs.Ytkaficcnfkpkiaa

/-
  A number as its groups, plainly; lists of bytes that the call owns as rows.
-/
namespace Go.Proofs.Ytkaficcnfkpkiaa
open Go.RowKit
set_option maxRecDepth 4000

def groups (x : Int) : List Int := if x < 128 then [x] else if x < 16384 then [x % 128 + 128, x / 128] else [x % 128 + 128, x / 128 % 128 + 128, x / 16384]
theorem groups_last (x : Int) (h : x < 128) : groups x = [x] := by unfold groups; rw [if_pos h]
theorem groups_step (x : Int) (h : 128 ≤ x) (h1 : x ≤ 1000000) : groups x = (x % 128 + 128) :: groups (x / 128) := by
  unfold groups
  rw [if_neg (by omega)]
  by_cases h2 : x < 16384
  · rw [if_pos h2, if_pos (by omega)]
  · rw [if_neg h2, if_neg (by omega), if_pos (by omega)]
    have : x / 128 / 128 = x / 16384 := by omega
    rw [this]
theorem groups_len (x : Int) : 1 ≤ (groups x).length ∧ (groups x).length ≤ 3 := by
  unfold groups; split
  · simp
  · split <;> simp
theorem groups_byte (x : Int) (h0 : 0 ≤ x) (h1 : x ≤ 1000000) : ∀ y ∈ groups x, 0 ≤ y ∧ y ≤ 255 := by
  unfold groups; intro y hy; split at hy
  · simp at hy; omega
  · split at hy
    · simp at hy; omega
    · simp at hy; omega

def clampN (x : Int) : Int := if x < 0 then 0 else if 1000000 < x then 1000000 else x
theorem clampN_bd (x : Int) : 0 ≤ clampN x ∧ clampN x ≤ 1000000 := by unfold clampN; split <;> (try split) <;> omega

def lof (n : Nat) (f : Nat → Int) : List Int := (List.range n).map f
theorem lof_len (n : Nat) (f : Nat → Int) : (lof n f).length = n := by simp [lof]
theorem lof_get (n : Nat) (f : Nat → Int) (i : Nat) (h : i < n) : (lof n f).getD i 0 = f i := by simp [lof, h]
def bl (l : List Int) : List Value := l.map (Value.int .u8)
theorem bl_len (l : List Int) : (bl l).length = l.length := by simp [bl]
theorem bl_append (l m : List Int) : bl (l ++ m) = bl l ++ bl m := by simp [bl]
theorem bl_one (l : List Int) : ∀ u ∈ bl l, u.oneCell' = true := by
  intro u hu
  simp only [bl, List.mem_map] at hu
  obtain ⟨x, _, rfl⟩ := hu
  rfl

/-- What the call owns as a list of bytes, as a row. -/
theorem row_of_own {base : Nat} {t : TypeId} {v : Value} {N : Nat} {l : List Int} {w : World} (h : w.ownsRow base t 1 v N (bl l)) (hN : 0 < N) :
    ∃ g c, v = .slice (some ⟨g, 0, none⟩) N c ∧ base ≤ g ∧ N ≤ c ∧ Row t w g N (fun i => l.getD i 0) := by
  obtain ⟨hl, h⟩ := h
  rcases h with ⟨_, h0⟩ | ⟨g, c, cur, rfl, hb, hg, hnc, _, hcs, ht⟩
  · omega
  · refine ⟨g, c, rfl, hb, hnc, cur, hg, by omega, fun i hi => ?_⟩
    have e : (bl l)[i]? = some (.int .u8 (l.getD i 0)) := by
      have : i < l.length := by rw [bl_len] at hl; omega
      simp [bl, this]
    rw [← ht, List.getElem?_take, if_pos (by omega)] at e
    simpa using e

theorem row_of_own' {base : Nat} {t : TypeId} {v : Value} {N : Nat} {l : List Int} {w : World} (h : w.ownsRow base t 1 v N (bl l)) (hv : v ≠ .slice none 0 0) :
    ∃ g c, v = .slice (some ⟨g, 0, none⟩) N c ∧ base ≤ g ∧ N ≤ c ∧ Row t w g N (fun i => l.getD i 0) := by
  obtain ⟨hl, h⟩ := h
  rcases h with ⟨h0, _⟩ | ⟨g, c, cur, rfl, hb, hg, hnc, _, hcs, ht⟩
  · exact absurd h0 hv
  · refine ⟨g, c, rfl, hb, hnc, cur, hg, by omega, fun i hi => ?_⟩
    have e : (bl l)[i]? = some (.int .u8 (l.getD i 0)) := by
      have : i < l.length := by rw [bl_len] at hl; omega
      simp [bl, this]
    rw [← ht, List.getElem?_take, if_pos (by omega)] at e
    simpa using e
theorem row_of_owned {base : Nat} {t : TypeId} {g N c : Nat} {l : List Int} {w : World} (h : w.ownsRow base t 1 (.slice (some ⟨g, 0, none⟩) N c) N (bl l)) : Row t w g N (fun i => l.getD i 0) := by
  obtain ⟨hl, h⟩ := h
  rcases h with ⟨h, _⟩ | ⟨g', c', cur, e, hb, hg, hnc, _, hcs, ht⟩
  · cases h
  · simp only [Value.slice.injEq, Option.some.injEq, Addr.mk.injEq, and_true, true_and] at e
    obtain ⟨rfl, rfl⟩ := e
    refine ⟨cur, hg, by omega, fun i hi => ?_⟩
    have e : (bl l)[i]? = some (.int .u8 (l.getD i 0)) := by
      have : i < l.length := by rw [bl_len] at hl; omega
      simp [bl, this]
    rw [← ht, List.getElem?_take, if_pos (by omega)] at e
    simpa using e
theorem lof_self (l : List Int) : lof l.length (fun i => l.getD i 0) = l := by
  apply List.ext_getElem
  · simp [lof]
  · intro i h1 h2
    simp [lof, h2]

/-- One new cell. -/
theorem cellNew (w : World) (x : Value) (t : TypeId) : ∀ j u, [x][j]? = some u → (w.alloc (.cells #[x] t)).cell? ((⟨w.heap.size, 0, none⟩ : Addr).add j) = some u := by
  intro j u hj
  match j, hj with
  | 0, hj => simp at hj; subst hj; simp [Addr.add]

/-- The cells of a slice that reads, as the law on appending asks for them. -/
theorem cells_of_view {w : World} {b off n cap : Nat} {f : Nat → Int} (h : View w (some ⟨b, off, none⟩) n cap f) : ∀ j u, (bl (lof n f))[j]? = some u → w.cell? ((⟨b, off, none⟩ : Addr).add j) = some u := by
  intro j u hu
  have hj : j < n := by
    by_cases hj : j < n
    · exact hj
    · rw [List.getElem?_eq_none (by rw [bl_len, lof_len]; omega)] at hu; cases hu
  obtain ⟨b', off', e, _, hc⟩ := h.cells (by omega)
  simp only [Option.some.injEq, Addr.mk.injEq, and_true] at e
  obtain ⟨rfl, rfl⟩ := e
  have ea : (⟨b, off, none⟩ : Addr).add j = ⟨b, off + j, none⟩ := by unfold Addr.add; split <;> simp_all
  rw [ea, hc j hj]
  simp [bl, lof, hj] at hu
  rw [hu]

theorem put_byte (n : Nat) (f : Nat → Int) (gs : List Int) (hf : ∀ i, i < n → 0 ≤ f i ∧ f i ≤ 255) (hg : ∀ y ∈ gs, 0 ≤ y ∧ y ≤ 255) : ∀ i, i < n + gs.length → 0 ≤ (lof n f ++ gs).getD i 0 ∧ (lof n f ++ gs).getD i 0 ≤ 255 := by
  intro i hi
  by_cases h : i < n
  · have e : (lof n f ++ gs).getD i 0 = f i := by
      rw [← lof_get n f i h, List.getD_eq_getElem?_getD, List.getD_eq_getElem?_getD, List.getElem?_append_left (by rw [lof_len]; exact h)]
    rw [e]; exact hf i h
  · have e : (lof n f ++ gs).getD i 0 = gs.getD (i - n) 0 := by
      rw [List.getD_eq_getElem?_getD, List.getD_eq_getElem?_getD, List.getElem?_append_right (by rw [lof_len]; omega), lof_len]
    rw [e]
    have hi' : i - n < gs.length := by omega
    have : gs.getD (i - n) 0 = gs[i - n] := by simp [hi']
    rw [this]
    exact hg _ (List.getElem_mem hi')

end Go.Proofs.Ytkaficcnfkpkiaa

/-
  A text's bytes as numbers; what is put of a text.
-/
namespace Go.Proofs.Ytkaficcnfkpkiaa
open Go.RowKit
set_option maxRecDepth 4000

/-- A text's bytes as numbers. -/
def sl (s : ByteArray) : List Int := s.data.toList.map (fun b => (b.toNat : Int))
theorem sl_len (s : ByteArray) : (sl s).length = s.size := by unfold sl; rw [List.length_map, Array.length_toList]; rfl
theorem sl_byte (s : ByteArray) : ∀ y ∈ sl s, 0 ≤ y ∧ y ≤ 255 := by
  intro y hy
  simp only [sl, List.mem_map] at hy
  obtain ⟨b, _, rfl⟩ := hy
  have := b.toNat_lt
  omega
theorem sl_cells (s : ByteArray) : Lib.strCells s = bl (sl s) := by simp [Lib.strCells, bl, sl]

/-- What is put: the bytes, the count's groups, the text. -/
def textL (n : Nat) (f : Nat → Int) (s : ByteArray) : List Int := lof n f ++ groups (clampN s.size) ++ sl s
theorem textL_len (n : Nat) (f : Nat → Int) (s : ByteArray) : (textL n f s).length = n + (groups (clampN s.size)).length + s.size := by
  unfold textL; rw [List.length_append, List.length_append, lof_len, sl_len]

end Go.Proofs.Ytkaficcnfkpkiaa

/-
  The bytes of a node, plainly; rows of bytes that an answer owns, by a list.
-/
namespace Go.Proofs.Ytkaficcnfkpkiaa
open Go.RowKit
set_option maxRecDepth 4000

/-- The groups of the first k numbers, one behind the other. -/
def numL (g : Nat → Int) : Nat → List Int
  | 0 => []
  | k + 1 => numL g k ++ groups (clampN (g k))
/-- One text: its count, its bytes. -/
def oneT (s : ByteArray) : List Int := groups (clampN s.size) ++ sl s
/-- The first k texts, one behind the other. -/
def textsL (f : Nat → ByteArray) : Nat → List Int
  | 0 => []
  | k + 1 => textsL f k ++ oneT (f k)
def headL (D : PNode) : List Int := groups (clampN (if D.leaf then 1 else 0)) ++ groups (clampN D.nk)
/-- The bytes of a node, right or not. -/
def bytesN (D : PNode) : List Int := headL D ++ textsL D.key D.nk ++ (if D.leaf then textsL D.val D.nv else numL D.kid D.nd)
/-- How many they are. -/
def sizeN (D : PNode) : Int := (bytesN D).length
theorem numL_len (g : Nat → Int) : ∀ k, (numL g k).length ≤ 3 * k
  | 0 => by simp [numL]
  | k + 1 => by have := numL_len g k; have := (groups_len (clampN (g k))).2; simp only [numL, List.length_append]; omega
theorem numL_byte (g : Nat → Int) : ∀ k, ∀ y ∈ numL g k, 0 ≤ y ∧ y ≤ 255
  | 0 => by simp [numL]
  | k + 1 => by
    intro y hy
    rw [numL, List.mem_append] at hy
    rcases hy with hy | hy
    · exact numL_byte g k y hy
    · exact groups_byte _ (clampN_bd _).1 (clampN_bd _).2 y hy
theorem oneT_len (s : ByteArray) : (oneT s).length = (groups (clampN s.size)).length + s.size := by rw [oneT, List.length_append, sl_len]
theorem oneT_byte (s : ByteArray) : ∀ y ∈ oneT s, 0 ≤ y ∧ y ≤ 255 := by
  intro y hy
  rw [oneT, List.mem_append] at hy
  rcases hy with hy | hy
  · exact groups_byte _ (clampN_bd _).1 (clampN_bd _).2 y hy
  · exact sl_byte s y hy
theorem textsL_len {f : Nat → ByteArray} {n : Nat} (h : ∀ i, i < n → (f i).size ≤ 1048576) : ∀ k, k ≤ n → (textsL f k).length ≤ 1048579 * k
  | 0, _ => by simp [textsL]
  | k + 1, hk => by
    have := textsL_len h k (by omega)
    have := (groups_len (clampN (f k).size)).2
    have := h k (by omega)
    simp only [textsL, List.length_append, oneT_len]; omega
theorem textsL_byte (f : Nat → ByteArray) : ∀ k, ∀ y ∈ textsL f k, 0 ≤ y ∧ y ≤ 255
  | 0 => by simp [textsL]
  | k + 1 => by
    intro y hy
    rw [textsL, List.mem_append] at hy
    rcases hy with hy | hy
    · exact textsL_byte f k y hy
    · exact oneT_byte _ y hy
theorem headL_len (D : PNode) : (headL D).length ≤ 6 := by
  have := (groups_len (clampN (if D.leaf then 1 else 0))).2
  have := (groups_len (clampN D.nk)).2
  simp only [headL, List.length_append]; omega
theorem headL_byte (D : PNode) : ∀ y ∈ headL D, 0 ≤ y ∧ y ≤ 255 := by
  intro y hy
  rw [headL, List.mem_append] at hy
  rcases hy with hy | hy <;> exact groups_byte _ (clampN_bd _).1 (clampN_bd _).2 y hy

/-- Bytes of the call's own, by a list. -/
def BR (w : World) (B : Nat) (v : Value) (L : List Int) : Prop :=
  ∃ g c, v = .slice (some ⟨g, 0, none⟩) L.length c ∧ B ≤ g ∧ L.length ≤ c ∧ Row 5 w g L.length (fun i => L.getD i 0)
theorem BR.below {w w' : World} {B : Nat} {v : Value} {L : List Int} (h : BR w B v L) (hb : Below w.heap.size w w') : BR w' B v L := by
  obtain ⟨g, c, e, hB, hc, hr⟩ := h
  exact ⟨g, c, e, hB, hc, hr.belowAll hb⟩
theorem BR.mono {w : World} {B B' : Nat} {v : Value} {L : List Int} (h : BR w B v L) (hB : B' ≤ B) : BR w B' v L := by
  obtain ⟨g, c, e, h1, hc, hr⟩ := h
  exact ⟨g, c, e, Nat.le_trans hB h1, hc, hr⟩
theorem getD_byte {L : List Int} (h : ∀ y ∈ L, 0 ≤ y ∧ y ≤ 255) : ∀ i, i < L.length → 0 ≤ L.getD i 0 ∧ L.getD i 0 ≤ 255 := fun i hi => by
  have := h _ (List.getElem_mem hi)
  simpa [hi] using this
theorem BR.view {w : World} {B : Nat} {v : Value} {L : List Int} (h : BR w B v L) (hy : ∀ y ∈ L, 0 ≤ y ∧ y ≤ 255) : ∃ g c, v = .slice (some ⟨g, 0, none⟩) L.length c ∧ View w (some ⟨g, 0, none⟩) L.length c (fun i => L.getD i 0) := by
  obtain ⟨g, c, e, -, hc, hr⟩ := h
  exact ⟨g, c, e, hr.view hc (getD_byte hy)⟩
end Go.Proofs.Ytkaficcnfkpkiaa

/-
  What the table of the types says of the bytes.
-/
namespace Go.Proofs.Ytkaficcnfkpkiaa
open Go.RowKit
set_option maxRecDepth 4000

theorem Try.info5 : (Try.prog.info? 5).map (fun i => (i.zero, i.size, i.bytes)) = some (some (.int .u8 0), 1, 1) := by kernel_rfl

end Go.Proofs.Ytkaficcnfkpkiaa

/-
  The model's PutU: what was there, and behind it the number's groups, in memory of its own.
-/
namespace Go.Proofs.Ytkaficcnfkpkiaa
open Go.RowKit
set_option maxRecDepth 4000

set_option maxHeartbeats 1000000 in
theorem putU_spec (b off n cap : Nat) (f : Nat → Int) (x : Int) (w : World) (hv : View w (some ⟨b, off, none⟩) n cap f) (hn : n ≤ 70368744177664) (hx0 : -9223372036854775808 ≤ x) (hx1 : x ≤ 9223372036854775807) :
    Calls Try.prog 63 #[.slice (some ⟨b, off, none⟩) n cap, .int .i64 x] w fun e w' => ∃ v, e = .returned v ∧ w'.ownsRow w.heap.size 5 1 v (n + (groups (clampN x)).length) (bl (lof n f ++ groups (clampN x))) ∧ Below w.heap.size w w' := by
  obtain ⟨i0, hi, hz0, hz1, hz2⟩ := info_parts Try.info5
  have hown0 := World.ownsRow_lit (base := w.heap.size) (e := 5) (size := 1) w #[] 0 (Nat.le_refl _) (Nat.zero_le _) rfl
  have hb0 : Below w.heap.size w (w.alloc (.cells #[] 5)) := (Below.refl _ _).alloc (Nat.le_refl _) _
  have hcl := cells_of_view (hv.below hb0)
  have hsz : (w.alloc (.cells #[] 5)).heap.size = w.heap.size + 1 := by simp
  go_enter Try.func63, Try.ntmps63
  go_wp2_with (at_builtin; go_must (refine wpList_append_own _ rfl (.tmp 6) (.tmp 7) 33 rfl w.heap.size 5 i0 (.int .u8 0) 1 1 Try.underlying33 hi hz0 hz1 hz2 rfl (by decide) (.slice (some ⟨w.heap.size, 0, none⟩) 0 0) 0 [] rfl hown0 ⟨b, off, none⟩ n cap (bl (lof n f)) rfl (by rw [bl_len, lof_len]; omega) hcl (bl_one _) (by unfold maxLen; omega) (by omega) (by rw [hsz]; omega) ?_); intro v1 w1 hown1 hgr1 _)
  all_goals
    have hb1 : Below w.heap.size w w1 := hb0.grown hgr1 (by simp) (fun k hk => by simp only [Value.ownBlock, Option.some.injEq] at hk; omega)
    clear hown0 hcl hsz hgr1 hb0 hv
    simp only [Nat.zero_add, List.nil_append] at hown1
    go_loopg [1, 5] (clampN x).toNat (fun g s v wr => ∃ (y : Int) (ys : List Int), s = .int .i64 y ∧ 0 ≤ y ∧ y ≤ 1000000 ∧ g = y.toNat ∧ groups (clampN x) = ys ++ groups y ∧ wr.ownsRow w.heap.size 5 1 v (n + ys.length) (bl (lof n f ++ ys)) ∧ Below w.heap.size w wr)
    case atStart => exact ⟨clampN x, [], congrArg (Value.int .i64) (by unfold clampN; split <;> (try split) <;> omega), (clampN_bd x).1, (clampN_bd x).2, rfl, rfl, by rw [List.append_nil]; exact hown1, hb1⟩
    case round =>
      obtain ⟨y, ys, rfl, hy0, hy1, rfl, hgr, hown, hB⟩ := hrel
      clear hown1 hb1
      have HG : Hid (groups (clampN x) = ys ++ groups y) := hgr
      have hlen : n + ys.length ≤ n + 3 := by have := groups_len (clampN x); rw [hgr] at this; simp at this; have := groups_len y; omega
      clear hgr
      have hA : ∀ z : Int, bits .and .i64 z 127 = z % 128 := i64_and127
      have hq : bits .or .i64 (y % 128) 128 = y % 128 + 128 := i64_or_add 7 _ _ (by omega) (by show _ < (128 : Int); omega) (by omega) (by decide) (by omega) (by decide)
      by_cases hlt : y < 128
      · go_wp2_with (at_builtin; go_must (refine wpList_append_own _ rfl (.tmp 24) (.tmp 27) 33 rfl w.heap.size 5 i0 (.int .u8 0) 1 1 Try.underlying33 hi hz0 hz1 hz2 rfl (by decide) u5 _ _ rfl (hown.alloc _) ⟨wr.heap.size, 0, none⟩ 1 1 [.int .u8 y] rfl rfl (cellNew _ _ _) (bl_one [y]) (by unfold maxLen; omega) (by omega) (by have := hB.size; simp; omega) ?_); intro v2 w2 hown2 hgr2 _)
        go_ret
        refine ⟨v2, rfl, ?_, ?_⟩
        · rw [HG.out, groups_last y hlt, List.length_append, ← List.append_assoc, bl_append]
          rw [Nat.add_assoc] at hown2
          exact hown2
        · exact (hB.alloc hB.size _).grown hgr2 (by have := hB.size; simp; omega) (fun k hk => (hown.lt k hk).1)
      · have hS : y / 128 < y := by omega
        have hG2 : Hid (groups (clampN x) = (ys ++ [y % 128 + 128]) ++ groups (y / 128)) := by
          have := HG.out
          rw [groups_step y (by omega) hy1] at this
          rw [List.append_assoc]; exact this
        go_wp2_with (at_builtin; go_must (refine wpList_append_own _ rfl (.tmp 15) (.tmp 20) 33 rfl w.heap.size 5 i0 (.int .u8 0) 1 1 Try.underlying33 hi hz0 hz1 hz2 rfl (by decide) u5 _ _ rfl (hown.alloc _) ⟨wr.heap.size, 0, none⟩ 1 1 [.int .u8 (y % 128 + 128)] rfl rfl (cellNew _ _ _) (bl_one [y % 128 + 128]) (by unfold maxLen; omega) (by omega) (by have := hB.size; simp; omega) ?_); intro v2 w2 hown2 hgr2 _)
        have hB2 : Below w.heap.size w w2 := (hB.alloc hB.size _).grown hgr2 (by have := hB.size; simp; omega) (fun k hk => (hown.lt k hk).1)
        have hO2 : w2.ownsRow w.heap.size 5 1 v2 (n + (ys ++ [y % 128 + 128]).length) (bl (lof n f ++ (ys ++ [y % 128 + 128]))) := by
          rw [List.length_append, ← List.append_assoc, bl_append]
          rw [Nat.add_assoc] at hown2
          exact hown2
        clear hgr2 hown hown2 hB
        go_wp2
        go_roundg ((y / 128).toNat)
        case measure => omega
        case rel => exact ⟨y / 128, ys ++ [y % 128 + 128], rfl, by omega, by omega, rfl, hG2.out, hO2, hB2⟩
end Go.Proofs.Ytkaficcnfkpkiaa

/-
  The model's PutText: what was there, the number of the text's bytes, and these, in memory of its own.
-/
namespace Go.Proofs.Ytkaficcnfkpkiaa
open Go.RowKit
set_option maxRecDepth 4000

set_option maxHeartbeats 1000000 in
theorem putText_spec (b off n cap : Nat) (f : Nat → Int) (s : ByteArray) (w : World) (hv : View w (some ⟨b, off, none⟩) n cap f) (hn : n ≤ 35184372088832) (hs : s.size ≤ 35184372088832) :
    Calls Try.prog 64 #[.slice (some ⟨b, off, none⟩) n cap, .string s] w fun e w' => ∃ g c, e = .returned (.slice (some ⟨g, 0, none⟩) (n + (groups (clampN s.size)).length + s.size) c) ∧ w.heap.size ≤ g ∧ n + (groups (clampN s.size)).length + s.size ≤ c ∧ Row 5 w' g (n + (groups (clampN s.size)).length + s.size) (fun i => (textL n f s).getD i 0) ∧ Below w.heap.size w w' := by
  obtain ⟨i0, hi, hz0, hz1, hz2⟩ := info_parts Try.info5
  have hgl := (groups_len (clampN s.size)).2
  have hg1 := (groups_len (clampN s.size)).1
  obtain ⟨gs, hgs⟩ : ∃ gs, Hid (groups (clampN s.size) = gs) := ⟨_, rfl⟩
  rw [hgs.out] at hgl hg1
  go_enter Try.func64, Try.ntmps64
  go_wp2_with fail
  refine (putU_spec b off n cap f (s.size : Int) w hv (by omega) (by omega) (by omega)).mono ?_
  rintro e w1 ⟨v, rfl, hown, hb1⟩
  rw [hgs.out] at hown
  go_wp2_with (at_builtin; go_must (refine Lib.wpList_append_own_string _ rfl (.tmp 8) (.tmp 9) 33 9 rfl w.heap.size 5 i0 Try.underlying33 Try.underlying9 hi hz0 hz1 hz2 v _ _ rfl hown s rfl (by unfold maxLen; omega) (by omega) hb1.size ?_); intro v2 w2 hown2 hgr2 _)
  have hb2 : Below w.heap.size w w2 := hb1.grown hgr2 hb1.size (fun k hk => (hown.lt k hk).1)
  go_ret
  rw [sl_cells, ← bl_append] at hown2
  obtain ⟨g, c, hv2, hg, hgc, hrow⟩ := row_of_own hown2 (by omega)
  unfold textL
  rw [hgs.out, hv2]
  exact ⟨g, c, rfl, hg, hgc, hrow, hb2⟩

end Go.Proofs.Ytkaficcnfkpkiaa

