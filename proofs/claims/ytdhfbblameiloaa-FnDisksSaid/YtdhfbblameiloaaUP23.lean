/-
  WriteI
-/
import Derived.Test.YtdhfbblameiloaaUP21
import Derived.Test.YtdhfbblameiloaaUP3
import Derived.Test.YtdhfbblameiloaaUP22
import Derived.Deep.CutBlock
/-
  The program's WriteSec.
-/
namespace Go.Proofs.Ytdhfbblameiloaa
open Go.RowKit
set_option maxRecDepth 4000

theorem KO.more {w w' : World} {B : Nat} {sa : Option Addr} {sc : Nat} {ca : Option Addr} {cc : Nat} {fa : Option Addr} {fc : Nat} {ss cs : List Value} {D : PDisk} (h : KO w B sa sc ca cc fa fc ss cs D) (n : Int) (l : List Int) (u : Value) {cb : Option Addr} {cd : Nat} (hk : KeepT (fun t => t = 51) w w') (hu : Bs w' B ((ss ++ cs) ++ [u]) ((D.secs ++ D.cache.map (·.2)) ++ [l])) (hO : w'.ownsRow B 51 2 (.slice cb (D.cache.length + 1) cd) (D.cache.length + 1) (wcells D.cache cs ++ [.int .i64 n, u])) : KO w' B sa sc cb cd fa fc ss (cs ++ [u]) { D with cache := D.cache ++ [(n, l)] } := by
  obtain ⟨a, c, e, h1, h2, h3⟩ := own_rl hO
  cases e
  refine ⟨h.sle, h.snil, by show (D.cache ++ [(n, l)]).length ≤ cd; simpa using h1, h2, h.fle, h.fnil, h.ns, by show _ = (D.cache ++ [(n, l)]).length; simp [h.nc], h.secs.keepT hk (by decide), ?_, h.faults.keepT hk (by decide), ?_⟩
  · show RL _ w' B cb (wcells (D.cache ++ [(n, l)]) (cs ++ [u]))
    rw [wcells_push h.nc]
    exact h3
  · show Bs w' B (ss ++ (cs ++ [u])) (D.secs ++ (D.cache ++ [(n, l)]).map (·.2))
    rw [List.map_append, List.map_singleton, ← List.append_assoc, ← List.append_assoc]
    exact hu

/-- Behind the append: the disk with one write more, in its variable. -/
def MidW (w : World) (X FB gs tc : Nat) (ga : Option Addr) (gc : Nat) (ss cs : List Value) (D : PDisk) (n : Int) (l : List Int) (fv : List Value) (wx : World) : Prop :=
  ∃ cb cd u8, VN wx X 32 [.slice (some ⟨gs, 0, none⟩) D.secs.length tc, .slice (some ⟨cb, 0, none⟩) (D.cache.length + 1) cd, .int .i64 (D.ops + 1), .slice ga D.faults.length gc, .bool D.down] ∧ KO wx (w.heap.size + 1 + 1) (some ⟨gs, 0, none⟩) tc (some ⟨cb, 0, none⟩) cd ga gc ss (cs ++ [.slice (some ⟨u8, 0, none⟩) l.length l.length]) { { D with ops := D.ops + 1 } with cache := D.cache ++ [(n, l)] } ∧ VN wx (w.heap.size + 1) 32 [.slice none 0 0, .slice none 0 0, .int .i64 0, .slice none 0 0, .bool false] ∧ VN wx FB 79 fv ∧ Below w.heap.size w wx ∧ w.heap.size + 1 + 1 ≤ wx.heap.size

set_option maxHeartbeats 20000000 in
theorem implWrite_any (v : Value) (D : PDisk) (n : Int) (ba : Option Addr) (bc : Nat) (l : List Int) (w : World) (h : KView w v D) (hf : KFine D) (hb : View w ba l.length bc (bf l)) (hbn : ba = none → bc = 0) (hbl : l.length ≤ 1048576) :
    Calls Try.prog 13 #[v, .int .i64 n, .slice ba l.length bc] w (ITo w (writeD D n l).1 (writeD D n l).2) := by
  have HVB : Hid (View w ba l.length bc (bf l)) := hb
  clear hb
  obtain ⟨sa, sc, ca, cc, fa, fc, rfl, hs, hc, hfv⟩ := h.is
  have hv : KView w (.agg #[.slice sa D.secs.length sc, .slice ca D.cache.length cc, .int .i64 D.ops, .slice fa D.faults.length fc, .bool D.down]) D := ⟨sa, sc, ca, cc, fa, fc, rfl, hs, hc, hfv⟩
  clear h hs hc hfv
  have hA0 := VN.new w 32 [.slice sa D.secs.length sc, .slice ca D.cache.length cc, .int .i64 D.ops, .slice fa D.faults.length fc, .bool D.down]
  have hR := VN.new (w.alloc (.cells #[.slice sa D.secs.length sc, .slice ca D.cache.length cc, .int .i64 D.ops, .slice fa D.faults.length fc, .bool D.down] 32)) 32 [.slice none 0 0, .slice none 0 0, .int .i64 0, .slice none 0 0, .bool false]
  rw [alloc_sizeK] at hR
  have hbel : Below w.heap.size w ((w.alloc (.cells #[.slice sa D.secs.length sc, .slice ca D.cache.length cc, .int .i64 D.ops, .slice fa D.faults.length fc, .bool D.down] 32)).alloc (.cells #[.slice none 0 0, .slice none 0 0, .int .i64 0, .slice none 0 0, .bool false] 32)) := ((Below.refl _ _).alloc (Nat.le_refl _) _).alloc (by simp) _
  obtain ⟨W0, hW0⟩ := hidEx ((w.alloc (.cells #[.slice sa D.secs.length sc, .slice ca D.cache.length cc, .int .i64 D.ops, .slice fa D.faults.length fc, .bool D.down] 32)).alloc (.cells #[.slice none 0 0, .slice none 0 0, .int .i64 0, .slice none 0 0, .bool false] 32))
  have hz : W0.heap.size = w.heap.size + 1 + 1 := by rw [← hW0.out]; simp
  have hA := hA0.below ((Below.refl _ _).alloc (Nat.le_refl _) (.cells #[.slice none 0 0, .slice none 0 0, .int .i64 0, .slice none 0 0, .bool false] 32))
  rw [hW0.out] at hbel
  replace hA : VN W0 w.heap.size 32 [.slice sa D.secs.length sc, .slice ca D.cache.length cc, .int .i64 D.ops, .slice fa D.faults.length fc, .bool D.down] := by rw [← hW0.out]; exact hA
  replace hR : VN W0 (w.heap.size + 1) 32 [.slice none 0 0, .slice none 0 0, .int .i64 0, .slice none 0 0, .bool false] := by rw [← hW0.out]; exact hR
  have hS := copyDisk_own _ D W0 (hv.below hbel) hf
  have x0 : W0.cell? ⟨w.heap.size, 0, none⟩ = some (.slice sa D.secs.length sc) := hA.cell 0
  have x1 : W0.cell? ⟨w.heap.size, 1, none⟩ = some (.slice ca D.cache.length cc) := hA.cell 1
  have x2 : W0.cell? ⟨w.heap.size, 2, none⟩ = some (.int .i64 D.ops) := hA.cell 2
  have x3 : W0.cell? ⟨w.heap.size, 3, none⟩ = some (.slice fa D.faults.length fc) := hA.cell 3
  have x4 : W0.cell? ⟨w.heap.size, 4, none⟩ = some (.bool D.down) := hA.cell 4
  clear hA0
  go_enter Try.func13, Try.ntmps13
  go_wp2_with (rw [hW0.out])
  refine hS.mono ?_
  rintro e W1 ⟨v1, rfl, hO1, hb1⟩
  obtain ⟨ta, tc, da, dc, ga, gc, ss, cs, rfl, hk, hO⟩ := hO1
  rw [hz] at hk hO
  unfold dval
  clear x0 x1 x2 x3 x4 hS
  have hbw : Below w.heap.size w W1 := hbel.trans (hb1.mono hbel.size)
  replace hR := hR.below hb1
  replace hA := hA.below hb1
  have hsz : w.heap.size + 1 + 1 ≤ W1.heap.size := by rw [← hz]; exact hb1.size
  have hbA : Below W1.heap.size W1 (W1.alloc (.cells #[.slice ta D.secs.length tc, .slice da D.cache.length dc, .int .i64 D.ops, .slice ga D.faults.length gc, .bool D.down] 32)) := (Below.refl _ _).alloc (Nat.le_refl _) _
  have hX := VN.new W1 32 [.slice ta D.secs.length tc, .slice da D.cache.length dc, .int .i64 D.ops, .slice ga D.faults.length gc, .bool D.down]
  have hk2 := hk.up (Up.ofBelow hbA)
  have hO2 := own_upK hO (Up.ofBelow hbA)
  replace hR := hR.below hbA
  replace hA := hA.below hbA
  replace hbw := hbw.trans (hbA.mono hbw.size)
  have x0 : (W1.alloc (.cells #[.slice ta D.secs.length tc, .slice da D.cache.length dc, .int .i64 D.ops, .slice ga D.faults.length gc, .bool D.down] 32)).cell? ⟨w.heap.size, 0, none⟩ = some (.slice sa D.secs.length sc) := hA.cell 0
  have x1 : (W1.alloc (.cells #[.slice ta D.secs.length tc, .slice da D.cache.length dc, .int .i64 D.ops, .slice ga D.faults.length gc, .bool D.down] 32)).cell? ⟨w.heap.size, 1, none⟩ = some (.slice ca D.cache.length cc) := hA.cell 1
  have x2 : (W1.alloc (.cells #[.slice ta D.secs.length tc, .slice da D.cache.length dc, .int .i64 D.ops, .slice ga D.faults.length gc, .bool D.down] 32)).cell? ⟨w.heap.size, 2, none⟩ = some (.int .i64 D.ops) := hA.cell 2
  have x3 : (W1.alloc (.cells #[.slice ta D.secs.length tc, .slice da D.cache.length dc, .int .i64 D.ops, .slice ga D.faults.length gc, .bool D.down] 32)).cell? ⟨w.heap.size, 3, none⟩ = some (.slice fa D.faults.length fc) := hA.cell 3
  have x4 : (W1.alloc (.cells #[.slice ta D.secs.length tc, .slice da D.cache.length dc, .int .i64 D.ops, .slice ga D.faults.length gc, .bool D.down] 32)).cell? ⟨w.heap.size, 4, none⟩ = some (.bool D.down) := hA.cell 4
  have hMy := implDiskOk_any _ D (W1.alloc (.cells #[.slice ta D.secs.length tc, .slice da D.cache.length dc, .int .i64 D.ops, .slice ga D.faults.length gc, .bool D.down] 32)) (hv.below hbw) hf
  clear hk hb1 hbA hbel hO
  go_wp2_with fail
  refine hMy.mono ?_
  rintro e W3 ⟨rok, rfl, hrok0, hb3⟩
  have hrok : Hid (rok = true ↔ OkD D) := hrok0
  clear x0 x1 x2 x3 x4 hMy hrok0
  obtain ⟨X, hXe⟩ := hidEx W1.heap.size
  rw [hXe.out] at hX hsz ⊢
  obtain ⟨W2, hW2⟩ := hidEx (W1.alloc (.cells #[.slice ta D.secs.length tc, .slice da D.cache.length dc, .int .i64 D.ops, .slice ga D.faults.length gc, .bool D.down] 32))
  rw [hW2.out] at hX hk2 hR hA hbw hb3 hO2
  have hX3 := hX.below hb3
  have hk3 := hk2.up (Up.ofBelow hb3)
  have hO3 := own_upK hO2 (Up.ofBelow hb3)
  have hR3 := hR.below hb3
  have hA3 := hA.below hb3
  have hXl := hX.lt
  have hb3' := hbw.trans (hb3.mono hbw.size)
  have hsz3 := hb3.size
  clear hX hk2 hR hA hbw hb3 hW2 hXe hO2
  have HV : Hid (KView w (.agg #[.slice sa D.secs.length sc, .slice ca D.cache.length cc, .int .i64 D.ops, .slice fa D.faults.length fc, .bool D.down]) D) := hv
  clear hv
  cases rok
  · have HF : Hid (writeD D n l = (D, 1)) := writeD_no (fun h => by have := hrok.out.2 h.1; cases this)
    have hBw := hb3'
    have hXw := hX3
    have hRw := hR3
    have a0 : W3.cell? ⟨X, 0, none⟩ = some (.slice ta D.secs.length tc) := hXw.cell 0
    have a1 : W3.cell? ⟨X, 1, none⟩ = some (.slice da D.cache.length dc) := hXw.cell 1
    have a2 : W3.cell? ⟨X, 2, none⟩ = some (.int .i64 D.ops) := hXw.cell 2
    have a3 : W3.cell? ⟨X, 3, none⟩ = some (.slice ga D.faults.length gc) := hXw.cell 3
    have a4 : W3.cell? ⟨X, 4, none⟩ = some (.bool D.down) := hXw.cell 4
    have r0 : W3.cell? ⟨w.heap.size + 1, 0, none⟩ = some (.slice none 0 0) := hRw.cell 0
    have r1 : W3.cell? ⟨w.heap.size + 1, 1, none⟩ = some (.slice none 0 0) := hRw.cell 1
    have r2 : W3.cell? ⟨w.heap.size + 1, 2, none⟩ = some (.int .i64 0) := hRw.cell 2
    have r3 : W3.cell? ⟨w.heap.size + 1, 3, none⟩ = some (.slice none 0 0) := hRw.cell 3
    have r4 : W3.cell? ⟨w.heap.size + 1, 4, none⟩ = some (.bool false) := hRw.cell 4
    have z0 := hRw.fz 0
    have z1 := hRw.fz 1
    have z2 := hRw.fz 2
    have z3 := hRw.fz 3
    have z4 := hRw.fz 4
    have hRv := ret5_vn (.slice ta D.secs.length tc) (.slice da D.cache.length dc) (.int .i64 D.ops) (.slice ga D.faults.length gc) (.bool D.down) hRw
    have hRk := ret5_keep (.slice ta D.secs.length tc) (.slice da D.cache.length dc) (.int .i64 D.ops) (.slice ga D.faults.length gc) (.bool D.down) hRw
    have hRb := ret5_below (R := w.heap.size + 1) (.slice ta D.secs.length tc) (.slice da D.cache.length dc) (.int .i64 D.ops) (.slice ga D.faults.length gc) (.bool D.down) hBw (by omega)
    have m0 : (((((W3.setCell ⟨w.heap.size + 1, 0, none⟩ (.slice ta D.secs.length tc)).setCell ⟨w.heap.size + 1, 1, none⟩ (.slice da D.cache.length dc)).setCell ⟨w.heap.size + 1, 2, none⟩ (.int .i64 D.ops)).setCell ⟨w.heap.size + 1, 3, none⟩ (.slice ga D.faults.length gc)).setCell ⟨w.heap.size + 1, 4, none⟩ (.bool D.down)).cell? ⟨w.heap.size + 1, 0, none⟩ = some (.slice ta D.secs.length tc) := hRv.cell 0
    have m1 : (((((W3.setCell ⟨w.heap.size + 1, 0, none⟩ (.slice ta D.secs.length tc)).setCell ⟨w.heap.size + 1, 1, none⟩ (.slice da D.cache.length dc)).setCell ⟨w.heap.size + 1, 2, none⟩ (.int .i64 D.ops)).setCell ⟨w.heap.size + 1, 3, none⟩ (.slice ga D.faults.length gc)).setCell ⟨w.heap.size + 1, 4, none⟩ (.bool D.down)).cell? ⟨w.heap.size + 1, 1, none⟩ = some (.slice da D.cache.length dc) := hRv.cell 1
    have m2 : (((((W3.setCell ⟨w.heap.size + 1, 0, none⟩ (.slice ta D.secs.length tc)).setCell ⟨w.heap.size + 1, 1, none⟩ (.slice da D.cache.length dc)).setCell ⟨w.heap.size + 1, 2, none⟩ (.int .i64 D.ops)).setCell ⟨w.heap.size + 1, 3, none⟩ (.slice ga D.faults.length gc)).setCell ⟨w.heap.size + 1, 4, none⟩ (.bool D.down)).cell? ⟨w.heap.size + 1, 2, none⟩ = some (.int .i64 D.ops) := hRv.cell 2
    have m3 : (((((W3.setCell ⟨w.heap.size + 1, 0, none⟩ (.slice ta D.secs.length tc)).setCell ⟨w.heap.size + 1, 1, none⟩ (.slice da D.cache.length dc)).setCell ⟨w.heap.size + 1, 2, none⟩ (.int .i64 D.ops)).setCell ⟨w.heap.size + 1, 3, none⟩ (.slice ga D.faults.length gc)).setCell ⟨w.heap.size + 1, 4, none⟩ (.bool D.down)).cell? ⟨w.heap.size + 1, 3, none⟩ = some (.slice ga D.faults.length gc) := hRv.cell 3
    have m4 : (((((W3.setCell ⟨w.heap.size + 1, 0, none⟩ (.slice ta D.secs.length tc)).setCell ⟨w.heap.size + 1, 1, none⟩ (.slice da D.cache.length dc)).setCell ⟨w.heap.size + 1, 2, none⟩ (.int .i64 D.ops)).setCell ⟨w.heap.size + 1, 3, none⟩ (.slice ga D.faults.length gc)).setCell ⟨w.heap.size + 1, 4, none⟩ (.bool D.down)).cell? ⟨w.heap.size + 1, 4, none⟩ = some (.bool D.down) := hRv.cell 4
    have HR : Hid (ITo w (writeD D n l).1 (writeD D n l).2 (.returned (.tuple #[dval D ta tc da dc ga gc, .int .i64 1])) (((((W3.setCell ⟨w.heap.size + 1, 0, none⟩ (.slice ta D.secs.length tc)).setCell ⟨w.heap.size + 1, 1, none⟩ (.slice da D.cache.length dc)).setCell ⟨w.heap.size + 1, 2, none⟩ (.int .i64 D.ops)).setCell ⟨w.heap.size + 1, 3, none⟩ (.slice ga D.faults.length gc)).setCell ⟨w.heap.size + 1, 4, none⟩ (.bool D.down))) := by
      rw [HF.out]
      have k9 := hk3.keepT hRk (by rw [ret5_size]; exact Nat.le_refl _) (by decide) (by decide) (by decide) (by decide)
      exact ⟨_, rfl, ⟨_, _, _, _, _, _, _, _, rfl, k9.mono (by omega)⟩, hRb⟩
    clear hk3
    clear hRv hRk hRb hXw hRw
    go_wp2
    refine bodyPost_ret (v := .tuple #[dval D ta tc da dc ga gc, .int .i64 1]) (by simp [results, Try.results13, go_sem, m0, m1, m2, m3, m4, dval]) rfl HR.out
  have hok : OkD D := hrok.out.1 rfl
  clear hrok
  have x0 : W3.cell? ⟨w.heap.size, 0, none⟩ = some (.slice sa D.secs.length sc) := hA3.cell 0
  have x1 : W3.cell? ⟨w.heap.size, 1, none⟩ = some (.slice ca D.cache.length cc) := hA3.cell 1
  have x2 : W3.cell? ⟨w.heap.size, 2, none⟩ = some (.int .i64 D.ops) := hA3.cell 2
  have x3 : W3.cell? ⟨w.heap.size, 3, none⟩ = some (.slice fa D.faults.length fc) := hA3.cell 3
  have x4 : W3.cell? ⟨w.heap.size, 4, none⟩ = some (.bool D.down) := hA3.cell 4
  have hHs := hasSec_any _ D n W3 (HV.out.below hb3')
  go_wp2_with fail
  refine hHs.mono ?_
  rintro e W4 ⟨rh, rfl, hrh0, hb4⟩
  have hrh : Hid (rh = true ↔ HasS D n) := hrh0
  clear x0 x1 x2 x3 x4 hHs hrh0
  have hX4 := hX3.below hb4
  have hk4 := hk3.up (Up.ofBelow hb4)
  have hO4 := own_upK hO3 (Up.ofBelow hb4)
  have hR4 := hR3.below hb4
  have hA4 := hA3.below hb4
  have hb4' := hb3'.trans (hb4.mono hb3'.size)
  have hsz4 := hb4.size
  clear hX3 hk3 hO3 hR3 hA3 hb3' hb4
  cases rh
  · have HF : Hid (writeD D n l = (D, 1)) := writeD_no (fun h => by have := hrh.out.2 h.2.1; cases this)
    have hBw := hb4'
    have hXw := hX4
    have hRw := hR4
    have a0 : W4.cell? ⟨X, 0, none⟩ = some (.slice ta D.secs.length tc) := hXw.cell 0
    have a1 : W4.cell? ⟨X, 1, none⟩ = some (.slice da D.cache.length dc) := hXw.cell 1
    have a2 : W4.cell? ⟨X, 2, none⟩ = some (.int .i64 D.ops) := hXw.cell 2
    have a3 : W4.cell? ⟨X, 3, none⟩ = some (.slice ga D.faults.length gc) := hXw.cell 3
    have a4 : W4.cell? ⟨X, 4, none⟩ = some (.bool D.down) := hXw.cell 4
    have r0 : W4.cell? ⟨w.heap.size + 1, 0, none⟩ = some (.slice none 0 0) := hRw.cell 0
    have r1 : W4.cell? ⟨w.heap.size + 1, 1, none⟩ = some (.slice none 0 0) := hRw.cell 1
    have r2 : W4.cell? ⟨w.heap.size + 1, 2, none⟩ = some (.int .i64 0) := hRw.cell 2
    have r3 : W4.cell? ⟨w.heap.size + 1, 3, none⟩ = some (.slice none 0 0) := hRw.cell 3
    have r4 : W4.cell? ⟨w.heap.size + 1, 4, none⟩ = some (.bool false) := hRw.cell 4
    have z0 := hRw.fz 0
    have z1 := hRw.fz 1
    have z2 := hRw.fz 2
    have z3 := hRw.fz 3
    have z4 := hRw.fz 4
    have hRv := ret5_vn (.slice ta D.secs.length tc) (.slice da D.cache.length dc) (.int .i64 D.ops) (.slice ga D.faults.length gc) (.bool D.down) hRw
    have hRk := ret5_keep (.slice ta D.secs.length tc) (.slice da D.cache.length dc) (.int .i64 D.ops) (.slice ga D.faults.length gc) (.bool D.down) hRw
    have hRb := ret5_below (R := w.heap.size + 1) (.slice ta D.secs.length tc) (.slice da D.cache.length dc) (.int .i64 D.ops) (.slice ga D.faults.length gc) (.bool D.down) hBw (by omega)
    have m0 : (((((W4.setCell ⟨w.heap.size + 1, 0, none⟩ (.slice ta D.secs.length tc)).setCell ⟨w.heap.size + 1, 1, none⟩ (.slice da D.cache.length dc)).setCell ⟨w.heap.size + 1, 2, none⟩ (.int .i64 D.ops)).setCell ⟨w.heap.size + 1, 3, none⟩ (.slice ga D.faults.length gc)).setCell ⟨w.heap.size + 1, 4, none⟩ (.bool D.down)).cell? ⟨w.heap.size + 1, 0, none⟩ = some (.slice ta D.secs.length tc) := hRv.cell 0
    have m1 : (((((W4.setCell ⟨w.heap.size + 1, 0, none⟩ (.slice ta D.secs.length tc)).setCell ⟨w.heap.size + 1, 1, none⟩ (.slice da D.cache.length dc)).setCell ⟨w.heap.size + 1, 2, none⟩ (.int .i64 D.ops)).setCell ⟨w.heap.size + 1, 3, none⟩ (.slice ga D.faults.length gc)).setCell ⟨w.heap.size + 1, 4, none⟩ (.bool D.down)).cell? ⟨w.heap.size + 1, 1, none⟩ = some (.slice da D.cache.length dc) := hRv.cell 1
    have m2 : (((((W4.setCell ⟨w.heap.size + 1, 0, none⟩ (.slice ta D.secs.length tc)).setCell ⟨w.heap.size + 1, 1, none⟩ (.slice da D.cache.length dc)).setCell ⟨w.heap.size + 1, 2, none⟩ (.int .i64 D.ops)).setCell ⟨w.heap.size + 1, 3, none⟩ (.slice ga D.faults.length gc)).setCell ⟨w.heap.size + 1, 4, none⟩ (.bool D.down)).cell? ⟨w.heap.size + 1, 2, none⟩ = some (.int .i64 D.ops) := hRv.cell 2
    have m3 : (((((W4.setCell ⟨w.heap.size + 1, 0, none⟩ (.slice ta D.secs.length tc)).setCell ⟨w.heap.size + 1, 1, none⟩ (.slice da D.cache.length dc)).setCell ⟨w.heap.size + 1, 2, none⟩ (.int .i64 D.ops)).setCell ⟨w.heap.size + 1, 3, none⟩ (.slice ga D.faults.length gc)).setCell ⟨w.heap.size + 1, 4, none⟩ (.bool D.down)).cell? ⟨w.heap.size + 1, 3, none⟩ = some (.slice ga D.faults.length gc) := hRv.cell 3
    have m4 : (((((W4.setCell ⟨w.heap.size + 1, 0, none⟩ (.slice ta D.secs.length tc)).setCell ⟨w.heap.size + 1, 1, none⟩ (.slice da D.cache.length dc)).setCell ⟨w.heap.size + 1, 2, none⟩ (.int .i64 D.ops)).setCell ⟨w.heap.size + 1, 3, none⟩ (.slice ga D.faults.length gc)).setCell ⟨w.heap.size + 1, 4, none⟩ (.bool D.down)).cell? ⟨w.heap.size + 1, 4, none⟩ = some (.bool D.down) := hRv.cell 4
    have HR : Hid (ITo w (writeD D n l).1 (writeD D n l).2 (.returned (.tuple #[dval D ta tc da dc ga gc, .int .i64 1])) (((((W4.setCell ⟨w.heap.size + 1, 0, none⟩ (.slice ta D.secs.length tc)).setCell ⟨w.heap.size + 1, 1, none⟩ (.slice da D.cache.length dc)).setCell ⟨w.heap.size + 1, 2, none⟩ (.int .i64 D.ops)).setCell ⟨w.heap.size + 1, 3, none⟩ (.slice ga D.faults.length gc)).setCell ⟨w.heap.size + 1, 4, none⟩ (.bool D.down))) := by
      rw [HF.out]
      have k9 := hk4.keepT hRk (by rw [ret5_size]; exact Nat.le_refl _) (by decide) (by decide) (by decide) (by decide)
      exact ⟨_, rfl, ⟨_, _, _, _, _, _, _, _, rfl, k9.mono (by omega)⟩, hRb⟩
    clear hk4
    clear hRv hRk hRb hXw hRw
    go_wp2
    refine bodyPost_ret (v := .tuple #[dval D ta tc da dc ga gc, .int .i64 1]) (by simp [results, Try.results13, go_sem, m0, m1, m2, m3, m4, dval]) rfl HR.out
  have hhs : HasS D n := hrh.out.1 rfl
  clear hrh
  have hPs := passesSec_any ba l.length bc W4
  have HHS : Hid (HasS D n ∧ OkD D) := ⟨hhs, hok⟩
  clear hhs hok
  have x0 : W4.cell? ⟨w.heap.size, 0, none⟩ = some (.slice sa D.secs.length sc) := hA4.cell 0
  have x1 : W4.cell? ⟨w.heap.size, 1, none⟩ = some (.slice ca D.cache.length cc) := hA4.cell 1
  have x2 : W4.cell? ⟨w.heap.size, 2, none⟩ = some (.int .i64 D.ops) := hA4.cell 2
  have x3 : W4.cell? ⟨w.heap.size, 3, none⟩ = some (.slice fa D.faults.length fc) := hA4.cell 3
  have x4 : W4.cell? ⟨w.heap.size, 4, none⟩ = some (.bool D.down) := hA4.cell 4
  by_cases hbig : 256 < l.length
  · have HF : Hid (writeD D n l = (D, 1)) := writeD_no (fun h => by have := h.2.2.1; omega)
    have hdd : decide ((256 : Int) < (l.length : Int)) = true := by simp; omega
    rw [hdd] at hPs
    go_wp2_with fail
    refine hPs.mono ?_
    rintro e _ ⟨rfl, rfl⟩
    clear x0 x1 x2 x3 x4
    have hBw := hb4'
    have hXw := hX4
    have hRw := hR4
    have a0 : W4.cell? ⟨X, 0, none⟩ = some (.slice ta D.secs.length tc) := hXw.cell 0
    have a1 : W4.cell? ⟨X, 1, none⟩ = some (.slice da D.cache.length dc) := hXw.cell 1
    have a2 : W4.cell? ⟨X, 2, none⟩ = some (.int .i64 D.ops) := hXw.cell 2
    have a3 : W4.cell? ⟨X, 3, none⟩ = some (.slice ga D.faults.length gc) := hXw.cell 3
    have a4 : W4.cell? ⟨X, 4, none⟩ = some (.bool D.down) := hXw.cell 4
    have r0 : W4.cell? ⟨w.heap.size + 1, 0, none⟩ = some (.slice none 0 0) := hRw.cell 0
    have r1 : W4.cell? ⟨w.heap.size + 1, 1, none⟩ = some (.slice none 0 0) := hRw.cell 1
    have r2 : W4.cell? ⟨w.heap.size + 1, 2, none⟩ = some (.int .i64 0) := hRw.cell 2
    have r3 : W4.cell? ⟨w.heap.size + 1, 3, none⟩ = some (.slice none 0 0) := hRw.cell 3
    have r4 : W4.cell? ⟨w.heap.size + 1, 4, none⟩ = some (.bool false) := hRw.cell 4
    have z0 := hRw.fz 0
    have z1 := hRw.fz 1
    have z2 := hRw.fz 2
    have z3 := hRw.fz 3
    have z4 := hRw.fz 4
    have hRv := ret5_vn (.slice ta D.secs.length tc) (.slice da D.cache.length dc) (.int .i64 D.ops) (.slice ga D.faults.length gc) (.bool D.down) hRw
    have hRk := ret5_keep (.slice ta D.secs.length tc) (.slice da D.cache.length dc) (.int .i64 D.ops) (.slice ga D.faults.length gc) (.bool D.down) hRw
    have hRb := ret5_below (R := w.heap.size + 1) (.slice ta D.secs.length tc) (.slice da D.cache.length dc) (.int .i64 D.ops) (.slice ga D.faults.length gc) (.bool D.down) hBw (by omega)
    have m0 : (((((W4.setCell ⟨w.heap.size + 1, 0, none⟩ (.slice ta D.secs.length tc)).setCell ⟨w.heap.size + 1, 1, none⟩ (.slice da D.cache.length dc)).setCell ⟨w.heap.size + 1, 2, none⟩ (.int .i64 D.ops)).setCell ⟨w.heap.size + 1, 3, none⟩ (.slice ga D.faults.length gc)).setCell ⟨w.heap.size + 1, 4, none⟩ (.bool D.down)).cell? ⟨w.heap.size + 1, 0, none⟩ = some (.slice ta D.secs.length tc) := hRv.cell 0
    have m1 : (((((W4.setCell ⟨w.heap.size + 1, 0, none⟩ (.slice ta D.secs.length tc)).setCell ⟨w.heap.size + 1, 1, none⟩ (.slice da D.cache.length dc)).setCell ⟨w.heap.size + 1, 2, none⟩ (.int .i64 D.ops)).setCell ⟨w.heap.size + 1, 3, none⟩ (.slice ga D.faults.length gc)).setCell ⟨w.heap.size + 1, 4, none⟩ (.bool D.down)).cell? ⟨w.heap.size + 1, 1, none⟩ = some (.slice da D.cache.length dc) := hRv.cell 1
    have m2 : (((((W4.setCell ⟨w.heap.size + 1, 0, none⟩ (.slice ta D.secs.length tc)).setCell ⟨w.heap.size + 1, 1, none⟩ (.slice da D.cache.length dc)).setCell ⟨w.heap.size + 1, 2, none⟩ (.int .i64 D.ops)).setCell ⟨w.heap.size + 1, 3, none⟩ (.slice ga D.faults.length gc)).setCell ⟨w.heap.size + 1, 4, none⟩ (.bool D.down)).cell? ⟨w.heap.size + 1, 2, none⟩ = some (.int .i64 D.ops) := hRv.cell 2
    have m3 : (((((W4.setCell ⟨w.heap.size + 1, 0, none⟩ (.slice ta D.secs.length tc)).setCell ⟨w.heap.size + 1, 1, none⟩ (.slice da D.cache.length dc)).setCell ⟨w.heap.size + 1, 2, none⟩ (.int .i64 D.ops)).setCell ⟨w.heap.size + 1, 3, none⟩ (.slice ga D.faults.length gc)).setCell ⟨w.heap.size + 1, 4, none⟩ (.bool D.down)).cell? ⟨w.heap.size + 1, 3, none⟩ = some (.slice ga D.faults.length gc) := hRv.cell 3
    have m4 : (((((W4.setCell ⟨w.heap.size + 1, 0, none⟩ (.slice ta D.secs.length tc)).setCell ⟨w.heap.size + 1, 1, none⟩ (.slice da D.cache.length dc)).setCell ⟨w.heap.size + 1, 2, none⟩ (.int .i64 D.ops)).setCell ⟨w.heap.size + 1, 3, none⟩ (.slice ga D.faults.length gc)).setCell ⟨w.heap.size + 1, 4, none⟩ (.bool D.down)).cell? ⟨w.heap.size + 1, 4, none⟩ = some (.bool D.down) := hRv.cell 4
    have HR : Hid (ITo w (writeD D n l).1 (writeD D n l).2 (.returned (.tuple #[dval D ta tc da dc ga gc, .int .i64 1])) (((((W4.setCell ⟨w.heap.size + 1, 0, none⟩ (.slice ta D.secs.length tc)).setCell ⟨w.heap.size + 1, 1, none⟩ (.slice da D.cache.length dc)).setCell ⟨w.heap.size + 1, 2, none⟩ (.int .i64 D.ops)).setCell ⟨w.heap.size + 1, 3, none⟩ (.slice ga D.faults.length gc)).setCell ⟨w.heap.size + 1, 4, none⟩ (.bool D.down))) := by
      rw [HF.out]
      have k9 := hk4.keepT hRk (by rw [ret5_size]; exact Nat.le_refl _) (by decide) (by decide) (by decide) (by decide)
      exact ⟨_, rfl, ⟨_, _, _, _, _, _, _, _, rfl, k9.mono (by omega)⟩, hRb⟩
    clear hk4
    clear hRv hRk hRb hXw hRw
    go_wp2
    refine bodyPost_ret (v := .tuple #[dval D ta tc da dc ga gc, .int .i64 1]) (by simp [results, Try.results13, go_sem, m0, m1, m2, m3, m4, dval]) rfl HR.out
  have hdd : decide ((256 : Int) < (l.length : Int)) = false := by simp; omega
  rw [hdd] at hPs
  go_wp2_with fail
  refine hPs.mono ?_
  rintro e _ ⟨rfl, rfl⟩
  by_cases hc60 : 60 ≤ D.cache.length
  · have HF : Hid (writeD D n l = (D, 1)) := writeD_no (fun h => by have := h.2.2.2; omega)
    have hcz : (60 : Int) ≤ (D.cache.length : Int) := by omega
    have hBw := hb4'
    have hXw := hX4
    have hRw := hR4
    have a0 : W4.cell? ⟨X, 0, none⟩ = some (.slice ta D.secs.length tc) := hXw.cell 0
    have a1 : W4.cell? ⟨X, 1, none⟩ = some (.slice da D.cache.length dc) := hXw.cell 1
    have a2 : W4.cell? ⟨X, 2, none⟩ = some (.int .i64 D.ops) := hXw.cell 2
    have a3 : W4.cell? ⟨X, 3, none⟩ = some (.slice ga D.faults.length gc) := hXw.cell 3
    have a4 : W4.cell? ⟨X, 4, none⟩ = some (.bool D.down) := hXw.cell 4
    have r0 : W4.cell? ⟨w.heap.size + 1, 0, none⟩ = some (.slice none 0 0) := hRw.cell 0
    have r1 : W4.cell? ⟨w.heap.size + 1, 1, none⟩ = some (.slice none 0 0) := hRw.cell 1
    have r2 : W4.cell? ⟨w.heap.size + 1, 2, none⟩ = some (.int .i64 0) := hRw.cell 2
    have r3 : W4.cell? ⟨w.heap.size + 1, 3, none⟩ = some (.slice none 0 0) := hRw.cell 3
    have r4 : W4.cell? ⟨w.heap.size + 1, 4, none⟩ = some (.bool false) := hRw.cell 4
    have z0 := hRw.fz 0
    have z1 := hRw.fz 1
    have z2 := hRw.fz 2
    have z3 := hRw.fz 3
    have z4 := hRw.fz 4
    have hRv := ret5_vn (.slice ta D.secs.length tc) (.slice da D.cache.length dc) (.int .i64 D.ops) (.slice ga D.faults.length gc) (.bool D.down) hRw
    have hRk := ret5_keep (.slice ta D.secs.length tc) (.slice da D.cache.length dc) (.int .i64 D.ops) (.slice ga D.faults.length gc) (.bool D.down) hRw
    have hRb := ret5_below (R := w.heap.size + 1) (.slice ta D.secs.length tc) (.slice da D.cache.length dc) (.int .i64 D.ops) (.slice ga D.faults.length gc) (.bool D.down) hBw (by omega)
    have m0 : (((((W4.setCell ⟨w.heap.size + 1, 0, none⟩ (.slice ta D.secs.length tc)).setCell ⟨w.heap.size + 1, 1, none⟩ (.slice da D.cache.length dc)).setCell ⟨w.heap.size + 1, 2, none⟩ (.int .i64 D.ops)).setCell ⟨w.heap.size + 1, 3, none⟩ (.slice ga D.faults.length gc)).setCell ⟨w.heap.size + 1, 4, none⟩ (.bool D.down)).cell? ⟨w.heap.size + 1, 0, none⟩ = some (.slice ta D.secs.length tc) := hRv.cell 0
    have m1 : (((((W4.setCell ⟨w.heap.size + 1, 0, none⟩ (.slice ta D.secs.length tc)).setCell ⟨w.heap.size + 1, 1, none⟩ (.slice da D.cache.length dc)).setCell ⟨w.heap.size + 1, 2, none⟩ (.int .i64 D.ops)).setCell ⟨w.heap.size + 1, 3, none⟩ (.slice ga D.faults.length gc)).setCell ⟨w.heap.size + 1, 4, none⟩ (.bool D.down)).cell? ⟨w.heap.size + 1, 1, none⟩ = some (.slice da D.cache.length dc) := hRv.cell 1
    have m2 : (((((W4.setCell ⟨w.heap.size + 1, 0, none⟩ (.slice ta D.secs.length tc)).setCell ⟨w.heap.size + 1, 1, none⟩ (.slice da D.cache.length dc)).setCell ⟨w.heap.size + 1, 2, none⟩ (.int .i64 D.ops)).setCell ⟨w.heap.size + 1, 3, none⟩ (.slice ga D.faults.length gc)).setCell ⟨w.heap.size + 1, 4, none⟩ (.bool D.down)).cell? ⟨w.heap.size + 1, 2, none⟩ = some (.int .i64 D.ops) := hRv.cell 2
    have m3 : (((((W4.setCell ⟨w.heap.size + 1, 0, none⟩ (.slice ta D.secs.length tc)).setCell ⟨w.heap.size + 1, 1, none⟩ (.slice da D.cache.length dc)).setCell ⟨w.heap.size + 1, 2, none⟩ (.int .i64 D.ops)).setCell ⟨w.heap.size + 1, 3, none⟩ (.slice ga D.faults.length gc)).setCell ⟨w.heap.size + 1, 4, none⟩ (.bool D.down)).cell? ⟨w.heap.size + 1, 3, none⟩ = some (.slice ga D.faults.length gc) := hRv.cell 3
    have m4 : (((((W4.setCell ⟨w.heap.size + 1, 0, none⟩ (.slice ta D.secs.length tc)).setCell ⟨w.heap.size + 1, 1, none⟩ (.slice da D.cache.length dc)).setCell ⟨w.heap.size + 1, 2, none⟩ (.int .i64 D.ops)).setCell ⟨w.heap.size + 1, 3, none⟩ (.slice ga D.faults.length gc)).setCell ⟨w.heap.size + 1, 4, none⟩ (.bool D.down)).cell? ⟨w.heap.size + 1, 4, none⟩ = some (.bool D.down) := hRv.cell 4
    have HR : Hid (ITo w (writeD D n l).1 (writeD D n l).2 (.returned (.tuple #[dval D ta tc da dc ga gc, .int .i64 1])) (((((W4.setCell ⟨w.heap.size + 1, 0, none⟩ (.slice ta D.secs.length tc)).setCell ⟨w.heap.size + 1, 1, none⟩ (.slice da D.cache.length dc)).setCell ⟨w.heap.size + 1, 2, none⟩ (.int .i64 D.ops)).setCell ⟨w.heap.size + 1, 3, none⟩ (.slice ga D.faults.length gc)).setCell ⟨w.heap.size + 1, 4, none⟩ (.bool D.down))) := by
      rw [HF.out]
      have k9 := hk4.keepT hRk (by rw [ret5_size]; exact Nat.le_refl _) (by decide) (by decide) (by decide) (by decide)
      exact ⟨_, rfl, ⟨_, _, _, _, _, _, _, _, rfl, k9.mono (by omega)⟩, hRb⟩
    clear hk4
    clear hRv hRk hRb hXw hRw
    go_wp2
    refine bodyPost_ret (v := .tuple #[dval D ta tc da dc ga gc, .int .i64 1]) (by simp [results, Try.results13, go_sem, m0, m1, m2, m3, m4, dval]) rfl HR.out
  have hcz : ¬ (60 : Int) ≤ (D.cache.length : Int) := by omega
  have hmay : MayW D n l := ⟨HHS.out.2, HHS.out.1, by omega, by omega⟩
  have HMAY : Hid (MayW D n l) := hmay
  clear hmay hdd
  have hSt := isStopped_any _ D W4 (HV.out.below hb4')
  go_wp2_with fail
  refine hSt.mono ?_
  rintro e W5 ⟨rst, rfl, hrst0, hb5⟩
  have hrst : Hid (rst = true ↔ D.down = true ∨ 100000 ≤ D.ops) := hrst0
  clear x0 x1 x2 x3 x4 hSt HV hA4 hrst0
  have hX5 := hX4.below hb5
  have hk5 := hk4.up (Up.ofBelow hb5)
  have hO5 := own_upK hO4 (Up.ofBelow hb5)
  have hR5 := hR4.below hb5
  have hb5' := hb4'.trans (hb5.mono hb4'.size)
  have hsz5 := hb5.size
  clear hX4 hk4 hO4 hR4 hb4' hb5
  cases rst
  case true =>
    have HF : Hid (writeD D n l = (D, 9)) := by show _ = _; rw [writeD_ok HMAY.out, writeF_down (hrst.out.1 rfl)]
    clear hrst
    have hBw := hb5'
    have hXw := hX5
    have hRw := hR5
    have a0 : W5.cell? ⟨X, 0, none⟩ = some (.slice ta D.secs.length tc) := hXw.cell 0
    have a1 : W5.cell? ⟨X, 1, none⟩ = some (.slice da D.cache.length dc) := hXw.cell 1
    have a2 : W5.cell? ⟨X, 2, none⟩ = some (.int .i64 D.ops) := hXw.cell 2
    have a3 : W5.cell? ⟨X, 3, none⟩ = some (.slice ga D.faults.length gc) := hXw.cell 3
    have a4 : W5.cell? ⟨X, 4, none⟩ = some (.bool D.down) := hXw.cell 4
    have r0 : W5.cell? ⟨w.heap.size + 1, 0, none⟩ = some (.slice none 0 0) := hRw.cell 0
    have r1 : W5.cell? ⟨w.heap.size + 1, 1, none⟩ = some (.slice none 0 0) := hRw.cell 1
    have r2 : W5.cell? ⟨w.heap.size + 1, 2, none⟩ = some (.int .i64 0) := hRw.cell 2
    have r3 : W5.cell? ⟨w.heap.size + 1, 3, none⟩ = some (.slice none 0 0) := hRw.cell 3
    have r4 : W5.cell? ⟨w.heap.size + 1, 4, none⟩ = some (.bool false) := hRw.cell 4
    have z0 := hRw.fz 0
    have z1 := hRw.fz 1
    have z2 := hRw.fz 2
    have z3 := hRw.fz 3
    have z4 := hRw.fz 4
    have hRv := ret5_vn (.slice ta D.secs.length tc) (.slice da D.cache.length dc) (.int .i64 D.ops) (.slice ga D.faults.length gc) (.bool D.down) hRw
    have hRk := ret5_keep (.slice ta D.secs.length tc) (.slice da D.cache.length dc) (.int .i64 D.ops) (.slice ga D.faults.length gc) (.bool D.down) hRw
    have hRb := ret5_below (R := w.heap.size + 1) (.slice ta D.secs.length tc) (.slice da D.cache.length dc) (.int .i64 D.ops) (.slice ga D.faults.length gc) (.bool D.down) hBw (by omega)
    have m0 : (((((W5.setCell ⟨w.heap.size + 1, 0, none⟩ (.slice ta D.secs.length tc)).setCell ⟨w.heap.size + 1, 1, none⟩ (.slice da D.cache.length dc)).setCell ⟨w.heap.size + 1, 2, none⟩ (.int .i64 D.ops)).setCell ⟨w.heap.size + 1, 3, none⟩ (.slice ga D.faults.length gc)).setCell ⟨w.heap.size + 1, 4, none⟩ (.bool D.down)).cell? ⟨w.heap.size + 1, 0, none⟩ = some (.slice ta D.secs.length tc) := hRv.cell 0
    have m1 : (((((W5.setCell ⟨w.heap.size + 1, 0, none⟩ (.slice ta D.secs.length tc)).setCell ⟨w.heap.size + 1, 1, none⟩ (.slice da D.cache.length dc)).setCell ⟨w.heap.size + 1, 2, none⟩ (.int .i64 D.ops)).setCell ⟨w.heap.size + 1, 3, none⟩ (.slice ga D.faults.length gc)).setCell ⟨w.heap.size + 1, 4, none⟩ (.bool D.down)).cell? ⟨w.heap.size + 1, 1, none⟩ = some (.slice da D.cache.length dc) := hRv.cell 1
    have m2 : (((((W5.setCell ⟨w.heap.size + 1, 0, none⟩ (.slice ta D.secs.length tc)).setCell ⟨w.heap.size + 1, 1, none⟩ (.slice da D.cache.length dc)).setCell ⟨w.heap.size + 1, 2, none⟩ (.int .i64 D.ops)).setCell ⟨w.heap.size + 1, 3, none⟩ (.slice ga D.faults.length gc)).setCell ⟨w.heap.size + 1, 4, none⟩ (.bool D.down)).cell? ⟨w.heap.size + 1, 2, none⟩ = some (.int .i64 D.ops) := hRv.cell 2
    have m3 : (((((W5.setCell ⟨w.heap.size + 1, 0, none⟩ (.slice ta D.secs.length tc)).setCell ⟨w.heap.size + 1, 1, none⟩ (.slice da D.cache.length dc)).setCell ⟨w.heap.size + 1, 2, none⟩ (.int .i64 D.ops)).setCell ⟨w.heap.size + 1, 3, none⟩ (.slice ga D.faults.length gc)).setCell ⟨w.heap.size + 1, 4, none⟩ (.bool D.down)).cell? ⟨w.heap.size + 1, 3, none⟩ = some (.slice ga D.faults.length gc) := hRv.cell 3
    have m4 : (((((W5.setCell ⟨w.heap.size + 1, 0, none⟩ (.slice ta D.secs.length tc)).setCell ⟨w.heap.size + 1, 1, none⟩ (.slice da D.cache.length dc)).setCell ⟨w.heap.size + 1, 2, none⟩ (.int .i64 D.ops)).setCell ⟨w.heap.size + 1, 3, none⟩ (.slice ga D.faults.length gc)).setCell ⟨w.heap.size + 1, 4, none⟩ (.bool D.down)).cell? ⟨w.heap.size + 1, 4, none⟩ = some (.bool D.down) := hRv.cell 4
    have HR : Hid (ITo w (writeD D n l).1 (writeD D n l).2 (.returned (.tuple #[dval D ta tc da dc ga gc, .int .i64 9])) (((((W5.setCell ⟨w.heap.size + 1, 0, none⟩ (.slice ta D.secs.length tc)).setCell ⟨w.heap.size + 1, 1, none⟩ (.slice da D.cache.length dc)).setCell ⟨w.heap.size + 1, 2, none⟩ (.int .i64 D.ops)).setCell ⟨w.heap.size + 1, 3, none⟩ (.slice ga D.faults.length gc)).setCell ⟨w.heap.size + 1, 4, none⟩ (.bool D.down))) := by
      rw [HF.out]
      have k9 := hk5.keepT hRk (by rw [ret5_size]; exact Nat.le_refl _) (by decide) (by decide) (by decide) (by decide)
      exact ⟨_, rfl, ⟨_, _, _, _, _, _, _, _, rfl, k9.mono (by omega)⟩, hRb⟩
    clear hk5
    clear hRv hRk hRb hXw hRw
    go_wp2
    refine bodyPost_ret (v := .tuple #[dval D ta tc da dc ga gc, .int .i64 9]) (by simp [results, Try.results13, go_sem, m0, m1, m2, m3, m4, dval]) rfl HR.out
  have hdn : ¬ (D.down = true ∨ 100000 ≤ D.ops) := fun h => by have := hrst.out.2 h; cases this
  clear hrst
  have hp : 0 < D.secs.length := by have := HHS.out.2.1.1; omega
  obtain ⟨gs, es⟩ : ∃ gs, ta = some ⟨gs, 0, none⟩ := by
    obtain ⟨g, e, -⟩ := hk5.secs.cell (by rw [hk5.ns]; exact hp)
    exact ⟨g, e⟩
  subst es
  have hops : 0 ≤ D.ops ∧ D.ops ≤ 100000 := HHS.out.2.2.2.1
  have hBe := begin_any X (w.heap.size + 1 + 1) _ _ D.ops ga gc D.faults _ W5 hX5 hk5.faults hk5.fle hk5.fnil hf.nf hops.1 (by omega)
  have HDN : Hid (¬ (D.down = true ∨ 100000 ≤ D.ops)) := hdn
  have HKF : Hid (KFine D) := hf
  clear hdn hf
  go_wp2_with fail
  refine hBe.mono ?_
  rintro e W6 ⟨hbx, hX6, hres⟩
  clear hBe
  have hkk6 := hbx.keep hX5
  have hk6 := (hk5.keepT hkk6 hbx.size (by decide) (by decide) (by decide) (by decide)).opsUp (D.ops + 1)
  have hO6 := own_keepT hO5 hkk6 (by decide)
  have hR6 := hR5.block (hbx.block _ (by omega) (by omega))
  have hb6' := hb5'.trans (hbx.below (n := w.heap.size) (by omega) (by omega))
  have hsz6 := hbx.size
  clear hX5 hk5 hR5 hb5' hbx hO5 hkk6
  --REST
  rcases hres with ⟨f, hff, rfl⟩ | ⟨hff, rfl⟩
  · have HF0 : Hid (writeD D n l = (loseD (moreD D n l) f, 9)) := by show _ = _; rw [writeD_ok HMAY.out, writeF_lose HDN.out hff]
    have hfo := findF_ok HHS.out.2 hff
    obtain ⟨p, q, c⟩ := f
    obtain ⟨-, ⟨hq0, hq1⟩, hc0, hc1⟩ := hfo
    dsimp only at hq0 hq1 hc0 hc1 ⊢
    obtain ⟨r, rfl⟩ := Int.eq_ofNat_of_zero_le hc0
    obtain ⟨i0, hi, hz0, hz1, hz2⟩ := infoWrite
    have hbA : Below W6.heap.size W6 (W6.alloc (.cells #[.int .i64 p, .int .i64 q, .int .i64 (r : Int)] 79)) := (Below.refl _ _).alloc (Nat.le_refl _) _
    have hF7 := VN.new W6 79 [.int .i64 p, .int .i64 q, .int .i64 (r : Int)]
    have hX7 := hX6.below hbA
    have hk7 := hk6.up (Up.ofBelow hbA)
    have hO7 := own_upK hO6 (Up.ofBelow hbA)
    have hR7 := hR6.below hbA
    have hB7 := hb6'.trans (hbA.mono hb6'.size)
    have hs7 : w.heap.size + 1 + 1 ≤ (W6.alloc (.cells #[.int .i64 p, .int .i64 q, .int .i64 (r : Int)] 79)).heap.size := by simp; omega
    clear hX6 hk6 hO6 hR6 hb6' hbA
    go_upto_region 7 with fail
    obtain ⟨FB, hFB⟩ := hidEx W6.heap.size
    obtain ⟨WF, hWF⟩ := hidEx (W6.alloc (.cells #[.int .i64 p, .int .i64 q, .int .i64 (r : Int)] 79))
    rw [hFB.out] at hF7
    rw [hWF.out] at hF7 hX7 hk7 hO7 hR7 hB7 hs7
    rw [hWF.out, hFB.out]
    go_cut [] (fun wx => MidW w X FB gs tc ga gc ss cs D n l [.int .i64 p, .int .i64 q, .int .i64 (r : Int)] wx)
    case first =>
     as_aux_lemma =>
      refine wp_region_held_drew (S := fun _ => True) (by kernel_rfl) trivial (fun hHeld => ?_)
      have hbd : Below WF.heap.size WF WF.drew := (Below.refl _ _).drew
      replace hX7 := hX7.below hbd
      replace hk7 := hk7.up (Up.ofBelow hbd)
      replace hO7 := own_upK hO7 (Up.ofBelow hbd)
      replace hR7 := hR7.below hbd
      replace hF7 := hF7.below hbd
      replace hB7 := hB7.trans (hbd.mono hB7.size)
      have hs7d : w.heap.size + 1 + 1 ≤ WF.drew.heap.size := hs7
      clear hbd hs7
      obtain ⟨wd, hwd⟩ := hidEx WF.drew
      rw [hwd.out] at hX7 hk7 hO7 hR7 hF7 hB7 hs7d ⊢
      refine' wpAnyH_take (i := 0) (v := _) rfl (by kernel_rfl) (by kernel_rfl) (by kernel_rfl) (fun _ _ _ h => h) (Or.inl ⟨by kernel_rfl, ?hwa1⟩) (by assumption) ?rwa1
      case hwa1 => intro W hW; go_simp; all_goals with_reducible rfl
      change wpAnyH _ _ _ _ _ _ _ (Act.put _ (some 40) _) _
      simp only [Act.put, List.setIfInBounds_toArray, List.set_cons_zero, List.set_cons_succ]
      refine' wpAnyH_take (i := 2) (v := _) rfl (by kernel_rfl) (by kernel_rfl) (by kernel_rfl) (fun _ _ _ h => h) (Or.inl ⟨by kernel_rfl, ?hwa2⟩) (by assumption) ?rwa2
      case hwa2 => intro W hW; go_simp; all_goals with_reducible rfl
      change wpAnyH _ _ _ _ _ _ _ (Act.put _ (some 42) _) _
      simp only [Act.put, List.setIfInBounds_toArray, List.set_cons_zero, List.set_cons_succ]
      refine' wpAnyH_take (i := 3) (v := _) rfl (by kernel_rfl) (by kernel_rfl) (by kernel_rfl) (fun _ _ _ h => h) (Or.inl ⟨by kernel_rfl, ?hwa3⟩) (by assumption) ?rwa3
      case hwa3 => intro W hW; go_simp; all_goals with_reducible rfl
      change wpAnyH _ _ _ _ _ _ _ (Act.put _ (some 43) _) _
      simp only [Act.put, List.setIfInBounds_toArray, List.set_cons_zero, List.set_cons_succ]
      refine wpAnyH_ready (rs := [1, 4]) (by kernel_rfl) (by simp) ?_
      refine AllReadyH.cons rfl (fun KK hK => ?_) (AllReadyH.cons rfl (fun KK hK => ?_) AllReadyH.nil)
      ·
        have xl : wd.cell? ⟨X, 1, none⟩ = some (.slice da D.cache.length dc) := hX7.cell 1
        go_simp
        clear xl
        refine hK.out _ _ trivial (fun hHeld => ?_)
        clear hK KK
        try simp only [Act.put, List.setIfInBounds_toArray, List.set_cons_zero, List.set_cons_succ]
        refine wpAnyH_ready (rs := [4]) (by kernel_rfl) (by simp) ?_
        refine AllReadyH.cons rfl (fun KK hK => ?_) AllReadyH.nil
        go_simp
        refine (putSec_any ba bc l wd (HVB.out.below hB7) hbn hbl).mono ?_
        rintro e w8 ⟨rfl, hOB, hb8, hlt8⟩
        obtain ⟨u8, hu8⟩ := hidEx wd.heap.size
        have hnew8 : Bs w8 (w.heap.size + 1 + 1) ((ss ++ cs) ++ [.slice (some ⟨u8, 0, none⟩) l.length l.length]) ((D.secs ++ D.cache.map (·.2)) ++ [l]) := by
          have h8 := hu8.out
          have h9 := hb8.size
          rw [hu8.out] at hOB
          refine (hk7.bytes.up (Up.ofBelow hb8)).push (hOB.mono (by omega)) (fun g hg => ?_)
          have eg : g = u8 := by simp [Value.ownBlock] at hg; omega
          subst eg
          exact ⟨⟨by omega, by omega⟩, hk7.bytes.newer (by omega)⟩
        have hX8 := hX7.below hb8
        have hk8 := hk7.up (Up.ofBelow hb8)
        have hO8 := own_upK hO7 (Up.ofBelow hb8)
        have hR8 := hR7.below hb8
        have hB8 := hB7.trans (hb8.mono hB7.size)
        have hF8 := hF7.below hb8
        have hs8 := hb8.size
        rw [hu8.out]
        clear hX7 hk7 hO7 hR7 hB7 hF7 hOB hb8 hlt8
        go_wp2_with fail
        refine hK.out _ _ trivial (fun hHeld => ?_)
        clear hK KK
        try simp only [Act.put, List.setIfInBounds_toArray, List.set_cons_zero, List.set_cons_succ]
        refine' wpAnyH_take (i := 5) (v := _) rfl (by kernel_rfl) (by kernel_rfl) (by kernel_rfl) (fun _ _ _ h => h) (Or.inl ⟨by kernel_rfl, ?hwa4⟩) (by assumption) ?rwa4
        case hwa4 => intro W hW; go_simp; all_goals with_reducible rfl
        change wpAnyH _ _ _ _ _ _ _ (Act.put _ (some 45) _) _
        simp only [Act.put, List.setIfInBounds_toArray, List.set_cons_zero, List.set_cons_succ]
        refine wpAnyH_ready (rs := [6]) (by kernel_rfl) (by simp) ?_
        refine AllReadyH.cons rfl (fun KK hK => ?_) AllReadyH.nil
        go_simp
        have hbA : Below w8.heap.size w8 (w8.alloc (.cells #[.int .i64 n, .slice (some ⟨u8, 0, none⟩) l.length l.length] 51)) := (Below.refl _ _).alloc (Nat.le_refl _) _
        have hcl : ∀ j u, [Value.int .i64 n, .slice (some ⟨u8, 0, none⟩) l.length l.length][j]? = some u → (w8.alloc (.cells #[.int .i64 n, .slice (some ⟨u8, 0, none⟩) l.length l.length] 51)).cell? ((⟨w8.heap.size, 0, none⟩ : Addr).add j) = some u := by
          have ea : ∀ j, (⟨w8.heap.size, 0, none⟩ : Addr).add j = ⟨w8.heap.size, 0 + j, none⟩ := fun j => by unfold Addr.add; split <;> simp_all
          intro j u hj
          match j, hj with
          | 0, hj => cases hj; rw [ea]; simp
          | 1, hj => cases hj; rw [ea]; simp [go_sem]
        have hX9 := hX8.below hbA
        have hk9 := hk8.up (Up.ofBelow hbA)
        have hO9 := own_upK hO8 (Up.ofBelow hbA)
        have hR9 := hR8.below hbA
        have hB9 := hB8.trans (hbA.mono hB8.size)
        have hF9 := hF8.below hbA
        have hn9 := hnew8.up (Up.ofBelow hbA)
        have hs9 : w.heap.size + 1 + 1 ≤ (w8.alloc (.cells #[.int .i64 n, .slice (some ⟨u8, 0, none⟩) l.length l.length] 51)).heap.size := by have := hbA.size; omega
        clear hX8 hk8 hO8 hR8 hB8 hF8 hnew8 hbA
        refine hK.out _ _ trivial (fun hHeld => ?_)
        clear hK KK
        try simp only [Act.put, List.setIfInBounds_toArray, List.set_cons_zero, List.set_cons_succ]
        obtain ⟨w9, hw9⟩ := hidEx (w8.alloc (.cells #[.int .i64 n, .slice (some ⟨u8, 0, none⟩) l.length l.length] 51))
        obtain ⟨g9, hg9⟩ := hidEx w8.heap.size
        rw [hw9.out, hg9.out] at hcl
        rw [hw9.out] at hX9 hk9 hO9 hR9 hB9 hF9 hn9 hs9 ⊢
        try rw [hg9.out]
        refine wpAnyH_ready (rs := [7]) (by kernel_rfl) (by simp) ?_
        refine AllReadyH.cons rfl (fun KK hK => ?_) AllReadyH.nil
        rw [if_pos (by kernel_rfl)]
        refine wp_append_own _ (.tmp 41) (.tmp 46) 29 rfl (w.heap.size + 1 + 1) 51 i0 (.agg #[.int .i64 0, .slice none 0 0]) 2 32 Try.underlying29 hi hz0 hz1 hz2 rfl (by decide) _ _ _ rfl hO9 ⟨g9, 0, none⟩ 1 1 [.int .i64 n, .slice (some ⟨u8, 0, none⟩) l.length l.length] rfl rfl hcl (by intro u hu; simp at hu; rcases hu with rfl | rfl <;> rfl) (by unfold maxLen; omega) (by omega) hs9 ?_
        intro v6 wa hOa hgra hnila
        have hKa := keep_grown hO9 hgra
        obtain ⟨cb, cd, rfl⟩ := own_succK hOa
        have hXa := hX9.block (hKa _ _ _ _ hX9 (by decide))
        have hRa := hR9.block (hKa _ _ _ _ hR9 (by decide))
        have hFa := hF9.block (hKa _ _ _ _ hF9 (by decide))
        have hBa := hB9.grown hgra (by omega) (fun k e => by have := own_geK hO9 k e; omega)
        have hna := hn9.keepT hKa hgra.size (by decide)
        have hka := hk9.more n l _ hKa hna hOa
        have hsa := hgra.size
        clear hX9 hk9 hO9 hR9 hB9 hF9 hn9 hcl hgra hnila hKa
        refine hK.out _ _ trivial (fun hHeld => ?_)
        clear hK KK
        change wpAnyH _ _ _ _ _ _ _ (Act.put _ (some 47) _) _
        try simp only [Act.put, List.setIfInBounds_toArray, List.set_cons_zero, List.set_cons_succ]
        refine' wpAnyH_take (i := 8) (v := _) rfl (by kernel_rfl) (by kernel_rfl) (by kernel_rfl) (fun _ _ _ h => h) (Or.inl ⟨by kernel_rfl, ?hwa5⟩) (by assumption) ?rwa5
        case hwa5 => intro W hW; go_simp; all_goals with_reducible rfl
        change wpAnyH _ _ _ _ _ _ _ (Act.put _ (some 48) _) _
        simp only [Act.put, List.setIfInBounds_toArray, List.set_cons_zero, List.set_cons_succ]
        refine wpAnyH_ready (rs := [9]) (by kernel_rfl) (by simp) ?_
        refine AllReadyH.cons rfl (fun KK hK => ?_) AllReadyH.nil
        have xa : wa.cell? ⟨X, 1, none⟩ = some (.slice da D.cache.length dc) := hXa.cell 1
        have za := hXa.fz 1
        go_simp
        have hXb := hXa.set 1 (.slice (some ⟨cb, 0, none⟩) (D.cache.length + 1) cd)
        simp only [List.set] at hXb
        have hKb := keep_vn (P := fun t => t = 32) (i := 1) (u := .slice (some ⟨cb, 0, none⟩) (D.cache.length + 1) cd) hXa rfl
        have hsb : (wa.setCell ⟨X, 1, none⟩ (.slice (some ⟨cb, 0, none⟩) (D.cache.length + 1) cd)).heap.size = wa.heap.size := by simp
        have hkb := hka.keepT hKb (by rw [hsb]; exact Nat.le_refl _) (by decide) (by decide) (by decide) (by decide)
        have hRb9 := hRa.other (C := X) (i := 1) (u := .slice (some ⟨cb, 0, none⟩) (D.cache.length + 1) cd) (by omega)
        have hFb := hFa.block (hKb _ _ _ _ hFa (by decide))
        have hBb : Below w.heap.size w (wa.setCell ⟨X, 1, none⟩ (.slice (some ⟨cb, 0, none⟩) (D.cache.length + 1) cd)) := hBa.setCell (p := ⟨X, 1, none⟩) (by show w.heap.size ≤ X; omega) _
        clear xa za hXa hka hRa hFa hBa hKb
        refine hK.out _ _ trivial (fun hHeld => ?_)
        clear hK KK
        try simp only [Act.put, List.setIfInBounds_toArray, List.set_cons_zero, List.set_cons_succ]
        refine wpAnyH_done (by kernel_rfl) ?_ _
        clear hHeld
        go_wp2_with fail
        go_meet
        exact ⟨cb, cd, u8, hXb, hkb, hRb9, hFb, hBb, by rw [hsb]; omega⟩
      ·
        go_simp
        refine (putSec_any ba bc l wd (HVB.out.below hB7) hbn hbl).mono ?_
        rintro e w8 ⟨rfl, hOB, hb8, hlt8⟩
        obtain ⟨u8, hu8⟩ := hidEx wd.heap.size
        have hnew8 : Bs w8 (w.heap.size + 1 + 1) ((ss ++ cs) ++ [.slice (some ⟨u8, 0, none⟩) l.length l.length]) ((D.secs ++ D.cache.map (·.2)) ++ [l]) := by
          have h8 := hu8.out
          have h9 := hb8.size
          rw [hu8.out] at hOB
          refine (hk7.bytes.up (Up.ofBelow hb8)).push (hOB.mono (by omega)) (fun g hg => ?_)
          have eg : g = u8 := by simp [Value.ownBlock] at hg; omega
          subst eg
          exact ⟨⟨by omega, by omega⟩, hk7.bytes.newer (by omega)⟩
        have hX8 := hX7.below hb8
        have hk8 := hk7.up (Up.ofBelow hb8)
        have hO8 := own_upK hO7 (Up.ofBelow hb8)
        have hR8 := hR7.below hb8
        have hB8 := hB7.trans (hb8.mono hB7.size)
        have hF8 := hF7.below hb8
        have hs8 := hb8.size
        rw [hu8.out]
        clear hX7 hk7 hO7 hR7 hB7 hF7 hOB hb8 hlt8
        go_wp2_with fail
        refine hK.out _ _ trivial (fun hHeld => ?_)
        clear hK KK
        try simp only [Act.put, List.setIfInBounds_toArray, List.set_cons_zero, List.set_cons_succ]
        refine' wpAnyH_take (i := 5) (v := _) rfl (by kernel_rfl) (by kernel_rfl) (by kernel_rfl) (fun _ _ _ h => h) (Or.inl ⟨by kernel_rfl, ?hwa6⟩) (by assumption) ?rwa6
        case hwa6 => intro W hW; go_simp; all_goals with_reducible rfl
        change wpAnyH _ _ _ _ _ _ _ (Act.put _ (some 45) _) _
        simp only [Act.put, List.setIfInBounds_toArray, List.set_cons_zero, List.set_cons_succ]
        refine wpAnyH_ready (rs := [1, 6]) (by kernel_rfl) (by simp) ?_
        refine AllReadyH.cons rfl (fun KK hK => ?_) (AllReadyH.cons rfl (fun KK hK => ?_) AllReadyH.nil)
        ·
          have xl : w8.cell? ⟨X, 1, none⟩ = some (.slice da D.cache.length dc) := hX8.cell 1
          go_simp
          clear xl
          refine hK.out _ _ trivial (fun hHeld => ?_)
          clear hK KK
          try simp only [Act.put, List.setIfInBounds_toArray, List.set_cons_zero, List.set_cons_succ]
          refine wpAnyH_ready (rs := [6]) (by kernel_rfl) (by simp) ?_
          refine AllReadyH.cons rfl (fun KK hK => ?_) AllReadyH.nil
          go_simp
          have hbA : Below w8.heap.size w8 (w8.alloc (.cells #[.int .i64 n, .slice (some ⟨u8, 0, none⟩) l.length l.length] 51)) := (Below.refl _ _).alloc (Nat.le_refl _) _
          have hcl : ∀ j u, [Value.int .i64 n, .slice (some ⟨u8, 0, none⟩) l.length l.length][j]? = some u → (w8.alloc (.cells #[.int .i64 n, .slice (some ⟨u8, 0, none⟩) l.length l.length] 51)).cell? ((⟨w8.heap.size, 0, none⟩ : Addr).add j) = some u := by
            have ea : ∀ j, (⟨w8.heap.size, 0, none⟩ : Addr).add j = ⟨w8.heap.size, 0 + j, none⟩ := fun j => by unfold Addr.add; split <;> simp_all
            intro j u hj
            match j, hj with
            | 0, hj => cases hj; rw [ea]; simp
            | 1, hj => cases hj; rw [ea]; simp [go_sem]
          have hX9 := hX8.below hbA
          have hk9 := hk8.up (Up.ofBelow hbA)
          have hO9 := own_upK hO8 (Up.ofBelow hbA)
          have hR9 := hR8.below hbA
          have hB9 := hB8.trans (hbA.mono hB8.size)
          have hF9 := hF8.below hbA
          have hn9 := hnew8.up (Up.ofBelow hbA)
          have hs9 : w.heap.size + 1 + 1 ≤ (w8.alloc (.cells #[.int .i64 n, .slice (some ⟨u8, 0, none⟩) l.length l.length] 51)).heap.size := by have := hbA.size; omega
          clear hX8 hk8 hO8 hR8 hB8 hF8 hnew8 hbA
          refine hK.out _ _ trivial (fun hHeld => ?_)
          clear hK KK
          try simp only [Act.put, List.setIfInBounds_toArray, List.set_cons_zero, List.set_cons_succ]
          obtain ⟨w9, hw9⟩ := hidEx (w8.alloc (.cells #[.int .i64 n, .slice (some ⟨u8, 0, none⟩) l.length l.length] 51))
          obtain ⟨g9, hg9⟩ := hidEx w8.heap.size
          rw [hw9.out, hg9.out] at hcl
          rw [hw9.out] at hX9 hk9 hO9 hR9 hB9 hF9 hn9 hs9 ⊢
          try rw [hg9.out]
          refine wpAnyH_ready (rs := [7]) (by kernel_rfl) (by simp) ?_
          refine AllReadyH.cons rfl (fun KK hK => ?_) AllReadyH.nil
          rw [if_pos (by kernel_rfl)]
          refine wp_append_own _ (.tmp 41) (.tmp 46) 29 rfl (w.heap.size + 1 + 1) 51 i0 (.agg #[.int .i64 0, .slice none 0 0]) 2 32 Try.underlying29 hi hz0 hz1 hz2 rfl (by decide) _ _ _ rfl hO9 ⟨g9, 0, none⟩ 1 1 [.int .i64 n, .slice (some ⟨u8, 0, none⟩) l.length l.length] rfl rfl hcl (by intro u hu; simp at hu; rcases hu with rfl | rfl <;> rfl) (by unfold maxLen; omega) (by omega) hs9 ?_
          intro v6 wa hOa hgra hnila
          have hKa := keep_grown hO9 hgra
          obtain ⟨cb, cd, rfl⟩ := own_succK hOa
          have hXa := hX9.block (hKa _ _ _ _ hX9 (by decide))
          have hRa := hR9.block (hKa _ _ _ _ hR9 (by decide))
          have hFa := hF9.block (hKa _ _ _ _ hF9 (by decide))
          have hBa := hB9.grown hgra (by omega) (fun k e => by have := own_geK hO9 k e; omega)
          have hna := hn9.keepT hKa hgra.size (by decide)
          have hka := hk9.more n l _ hKa hna hOa
          have hsa := hgra.size
          clear hX9 hk9 hO9 hR9 hB9 hF9 hn9 hcl hgra hnila hKa
          refine hK.out _ _ trivial (fun hHeld => ?_)
          clear hK KK
          change wpAnyH _ _ _ _ _ _ _ (Act.put _ (some 47) _) _
          try simp only [Act.put, List.setIfInBounds_toArray, List.set_cons_zero, List.set_cons_succ]
          refine' wpAnyH_take (i := 8) (v := _) rfl (by kernel_rfl) (by kernel_rfl) (by kernel_rfl) (fun _ _ _ h => h) (Or.inl ⟨by kernel_rfl, ?hwa7⟩) (by assumption) ?rwa7
          case hwa7 => intro W hW; go_simp; all_goals with_reducible rfl
          change wpAnyH _ _ _ _ _ _ _ (Act.put _ (some 48) _) _
          simp only [Act.put, List.setIfInBounds_toArray, List.set_cons_zero, List.set_cons_succ]
          refine wpAnyH_ready (rs := [9]) (by kernel_rfl) (by simp) ?_
          refine AllReadyH.cons rfl (fun KK hK => ?_) AllReadyH.nil
          have xa : wa.cell? ⟨X, 1, none⟩ = some (.slice da D.cache.length dc) := hXa.cell 1
          have za := hXa.fz 1
          go_simp
          have hXb := hXa.set 1 (.slice (some ⟨cb, 0, none⟩) (D.cache.length + 1) cd)
          simp only [List.set] at hXb
          have hKb := keep_vn (P := fun t => t = 32) (i := 1) (u := .slice (some ⟨cb, 0, none⟩) (D.cache.length + 1) cd) hXa rfl
          have hsb : (wa.setCell ⟨X, 1, none⟩ (.slice (some ⟨cb, 0, none⟩) (D.cache.length + 1) cd)).heap.size = wa.heap.size := by simp
          have hkb := hka.keepT hKb (by rw [hsb]; exact Nat.le_refl _) (by decide) (by decide) (by decide) (by decide)
          have hRb9 := hRa.other (C := X) (i := 1) (u := .slice (some ⟨cb, 0, none⟩) (D.cache.length + 1) cd) (by omega)
          have hFb := hFa.block (hKb _ _ _ _ hFa (by decide))
          have hBb : Below w.heap.size w (wa.setCell ⟨X, 1, none⟩ (.slice (some ⟨cb, 0, none⟩) (D.cache.length + 1) cd)) := hBa.setCell (p := ⟨X, 1, none⟩) (by show w.heap.size ≤ X; omega) _
          clear xa za hXa hka hRa hFa hBa hKb
          refine hK.out _ _ trivial (fun hHeld => ?_)
          clear hK KK
          try simp only [Act.put, List.setIfInBounds_toArray, List.set_cons_zero, List.set_cons_succ]
          refine wpAnyH_done (by kernel_rfl) ?_ _
          clear hHeld
          go_wp2_with fail
          go_meet
          exact ⟨cb, cd, u8, hXb, hkb, hRb9, hFb, hBb, by rw [hsb]; omega⟩
        ·
          go_simp
          have hbA : Below w8.heap.size w8 (w8.alloc (.cells #[.int .i64 n, .slice (some ⟨u8, 0, none⟩) l.length l.length] 51)) := (Below.refl _ _).alloc (Nat.le_refl _) _
          have hcl : ∀ j u, [Value.int .i64 n, .slice (some ⟨u8, 0, none⟩) l.length l.length][j]? = some u → (w8.alloc (.cells #[.int .i64 n, .slice (some ⟨u8, 0, none⟩) l.length l.length] 51)).cell? ((⟨w8.heap.size, 0, none⟩ : Addr).add j) = some u := by
            have ea : ∀ j, (⟨w8.heap.size, 0, none⟩ : Addr).add j = ⟨w8.heap.size, 0 + j, none⟩ := fun j => by unfold Addr.add; split <;> simp_all
            intro j u hj
            match j, hj with
            | 0, hj => cases hj; rw [ea]; simp
            | 1, hj => cases hj; rw [ea]; simp [go_sem]
          have hX9 := hX8.below hbA
          have hk9 := hk8.up (Up.ofBelow hbA)
          have hO9 := own_upK hO8 (Up.ofBelow hbA)
          have hR9 := hR8.below hbA
          have hB9 := hB8.trans (hbA.mono hB8.size)
          have hF9 := hF8.below hbA
          have hn9 := hnew8.up (Up.ofBelow hbA)
          have hs9 : w.heap.size + 1 + 1 ≤ (w8.alloc (.cells #[.int .i64 n, .slice (some ⟨u8, 0, none⟩) l.length l.length] 51)).heap.size := by have := hbA.size; omega
          clear hX8 hk8 hO8 hR8 hB8 hF8 hnew8 hbA
          refine hK.out _ _ trivial (fun hHeld => ?_)
          clear hK KK
          try simp only [Act.put, List.setIfInBounds_toArray, List.set_cons_zero, List.set_cons_succ]
          obtain ⟨w9, hw9⟩ := hidEx (w8.alloc (.cells #[.int .i64 n, .slice (some ⟨u8, 0, none⟩) l.length l.length] 51))
          obtain ⟨g9, hg9⟩ := hidEx w8.heap.size
          rw [hw9.out, hg9.out] at hcl
          rw [hw9.out] at hX9 hk9 hO9 hR9 hB9 hF9 hn9 hs9 ⊢
          try rw [hg9.out]
          refine wpAnyH_ready (rs := [1]) (by kernel_rfl) (by simp) ?_
          refine AllReadyH.cons rfl (fun KK hK => ?_) AllReadyH.nil
          have xl : w9.cell? ⟨X, 1, none⟩ = some (.slice da D.cache.length dc) := hX9.cell 1
          go_simp
          clear xl
          refine hK.out _ _ trivial (fun hHeld => ?_)
          clear hK KK
          try simp only [Act.put, List.setIfInBounds_toArray, List.set_cons_zero, List.set_cons_succ]
          refine wpAnyH_ready (rs := [7]) (by kernel_rfl) (by simp) ?_
          refine AllReadyH.cons rfl (fun KK hK => ?_) AllReadyH.nil
          rw [if_pos (by kernel_rfl)]
          refine wp_append_own _ (.tmp 41) (.tmp 46) 29 rfl (w.heap.size + 1 + 1) 51 i0 (.agg #[.int .i64 0, .slice none 0 0]) 2 32 Try.underlying29 hi hz0 hz1 hz2 rfl (by decide) _ _ _ rfl hO9 ⟨g9, 0, none⟩ 1 1 [.int .i64 n, .slice (some ⟨u8, 0, none⟩) l.length l.length] rfl rfl hcl (by intro u hu; simp at hu; rcases hu with rfl | rfl <;> rfl) (by unfold maxLen; omega) (by omega) hs9 ?_
          intro v6 wa hOa hgra hnila
          have hKa := keep_grown hO9 hgra
          obtain ⟨cb, cd, rfl⟩ := own_succK hOa
          have hXa := hX9.block (hKa _ _ _ _ hX9 (by decide))
          have hRa := hR9.block (hKa _ _ _ _ hR9 (by decide))
          have hFa := hF9.block (hKa _ _ _ _ hF9 (by decide))
          have hBa := hB9.grown hgra (by omega) (fun k e => by have := own_geK hO9 k e; omega)
          have hna := hn9.keepT hKa hgra.size (by decide)
          have hka := hk9.more n l _ hKa hna hOa
          have hsa := hgra.size
          clear hX9 hk9 hO9 hR9 hB9 hF9 hn9 hcl hgra hnila hKa
          refine hK.out _ _ trivial (fun hHeld => ?_)
          clear hK KK
          change wpAnyH _ _ _ _ _ _ _ (Act.put _ (some 47) _) _
          try simp only [Act.put, List.setIfInBounds_toArray, List.set_cons_zero, List.set_cons_succ]
          refine' wpAnyH_take (i := 8) (v := _) rfl (by kernel_rfl) (by kernel_rfl) (by kernel_rfl) (fun _ _ _ h => h) (Or.inl ⟨by kernel_rfl, ?hwa8⟩) (by assumption) ?rwa8
          case hwa8 => intro W hW; go_simp; all_goals with_reducible rfl
          change wpAnyH _ _ _ _ _ _ _ (Act.put _ (some 48) _) _
          simp only [Act.put, List.setIfInBounds_toArray, List.set_cons_zero, List.set_cons_succ]
          refine wpAnyH_ready (rs := [9]) (by kernel_rfl) (by simp) ?_
          refine AllReadyH.cons rfl (fun KK hK => ?_) AllReadyH.nil
          have xa : wa.cell? ⟨X, 1, none⟩ = some (.slice da D.cache.length dc) := hXa.cell 1
          have za := hXa.fz 1
          go_simp
          have hXb := hXa.set 1 (.slice (some ⟨cb, 0, none⟩) (D.cache.length + 1) cd)
          simp only [List.set] at hXb
          have hKb := keep_vn (P := fun t => t = 32) (i := 1) (u := .slice (some ⟨cb, 0, none⟩) (D.cache.length + 1) cd) hXa rfl
          have hsb : (wa.setCell ⟨X, 1, none⟩ (.slice (some ⟨cb, 0, none⟩) (D.cache.length + 1) cd)).heap.size = wa.heap.size := by simp
          have hkb := hka.keepT hKb (by rw [hsb]; exact Nat.le_refl _) (by decide) (by decide) (by decide) (by decide)
          have hRb9 := hRa.other (C := X) (i := 1) (u := .slice (some ⟨cb, 0, none⟩) (D.cache.length + 1) cd) (by omega)
          have hFb := hFa.block (hKb _ _ _ _ hFa (by decide))
          have hBb : Below w.heap.size w (wa.setCell ⟨X, 1, none⟩ (.slice (some ⟨cb, 0, none⟩) (D.cache.length + 1) cd)) := hBa.setCell (p := ⟨X, 1, none⟩) (by show w.heap.size ≤ X; omega) _
          clear xa za hXa hka hRa hFa hBa hKb
          refine hK.out _ _ trivial (fun hHeld => ?_)
          clear hK KK
          try simp only [Act.put, List.setIfInBounds_toArray, List.set_cons_zero, List.set_cons_succ]
          refine wpAnyH_done (by kernel_rfl) ?_ _
          clear hHeld
          go_wp2_with fail
          go_meet
          exact ⟨cb, cd, u8, hXb, hkb, hRb9, hFb, hBb, by rw [hsb]; omega⟩
    case rest =>
     clear hX7 hk7 hO7 hR7 hF7 hB7 hs7
     as_aux_lemma =>
      obtain ⟨cb, cd, u8, hXb, hkb, hRb9, hFb, hBb, hszb⟩ := hcut
      obtain ⟨Wb, hWb⟩ := hidEx wc
      rw [hWb.out] at hXb hkb hRb9 hFb hBb hszb ⊢
      clear hWb
      obtain ⟨D2, hD2⟩ := hidEx (moreD D n l)
      have eD2 : ({ { D with ops := D.ops + 1 } with cache := D.cache ++ [(n, l)] } : PDisk) = D2 := by rw [← hD2.out]; rfl
      rw [eD2] at hkb
      have hX2 : VN Wb X 32 [.slice (some ⟨gs, 0, none⟩) D2.secs.length tc, .slice (some ⟨cb, 0, none⟩) D2.cache.length cd, .int .i64 D2.ops, .slice ga D2.faults.length gc, .bool D2.down] := by
        rw [← hD2.out]
        show VN Wb X 32 [.slice (some ⟨gs, 0, none⟩) D.secs.length tc, .slice (some ⟨cb, 0, none⟩) (D.cache ++ [(n, l)]).length cd, .int .i64 (D.ops + 1), .slice ga D.faults.length gc, .bool D.down]
        rw [List.length_append]
        exact hXb
      clear hXb eD2
      have hok2 : OkD D2 := by rw [← hD2.out]; exact moreD_ok HMAY.out HDN.out
      have HOK2 : Hid (OkD D2) := hok2
      have hp2 : 0 < D2.secs.length := by have := hok2.1.1; omega
      have hf2 := hok2.fine
      clear hok2
      have f0 : Wb.cell? ⟨FB, 0, none⟩ = some (.int .i64 p) := hFb.cell 0
      have f1 : Wb.cell? ⟨FB, 1, none⟩ = some (.int .i64 q) := hFb.cell 1
      have f2 : Wb.cell? ⟨FB, 2, none⟩ = some (.int .i64 (r : Int)) := hFb.cell 2
      have hPo := powerOff_any X (w.heap.size + 1 + 1) gs D2.secs.length tc p q r (some ⟨cb, 0, none⟩) cd _ _ _ D2.cache ss _ _ hX2 hkb.secs hkb.ns hp2 hf2.ns hkb.cache hkb.nc (fun e => by cases e) (hkb.slices HOK2.out) (fun x hx => by obtain ⟨i, hi, rfl⟩ := List.getElem_of_mem hx; exact ⟨(HOK2.out.2.1.2 i hi).1, (HOK2.out.2.1.2 i hi).2.1⟩) hq0 hq1 HOK2.out.2.1.1 (by omega) hszb
      obtain ⟨hBl, hBn⟩ := hkb.bytes.lost hkb.ns q r
      have HBL : Hid _ := And.intro hBl hBn
      rw [← cut_fst r] at hPo
      clear hBl hBn
      go_wp2_with fail
      refine hPo.mono ?_
      rintro e W7 ⟨rfl, hT⟩
      have hk7 := KO.settled hkb hX2 hp2 _ _ HBL.out.1 HBL.out.2 hT true
      have hX7 := hT.x
      have hR7 := hRb9.block (hT.low _ hRb9.lt (by omega) (by omega))
      have hb7 := hBb.trans (hT.below (n := w.heap.size) (by omega) (by omega) (by omega))
      have hsz7 := hT.size
      clear hPo hT hkb hX2 hRb9 hBb HBL f0 f1 f2 hFb
      obtain ⟨DD, hDD⟩ := hidEx (loseD D2 ⟨p, q, r⟩)
      have HF : Hid (writeD D n l = (DD, 9)) := by show _ = _; rw [HF0.out, hD2.out, hDD.out]
      have eDD : ({ D2 with secs := settleL D2.secs (cutLast (cutW r) (keptG q D2.cache D2.cache.length)), cache := [], down := true } : PDisk) = DD := by rw [← hDD.out]; rfl
      rw [eDD] at hk7
      have hX8 : VN W7 X 32 [.slice (some ⟨gs, 0, none⟩) DD.secs.length tc, .slice (some ⟨cb, 0, none⟩) DD.cache.length 0, .int .i64 DD.ops, .slice ga DD.faults.length gc, .bool DD.down] := by
        rw [← eDD]
        show VN W7 X 32 [.slice (some ⟨gs, 0, none⟩) (settleL D2.secs _).length tc, .slice (some ⟨cb, 0, none⟩) 0 0, .int .i64 D2.ops, .slice ga D2.faults.length gc, .bool true]
        rw [settleL_len]; exact hX7
      have hk8 := hk7
      clear hk7 hX7 eDD hDD HF0 hszb
      have hBw := hb7
      have hXw := hX8
      have hRw := hR7
      have a0 : W7.cell? ⟨X, 0, none⟩ = some (.slice (some ⟨gs, 0, none⟩) DD.secs.length tc) := hXw.cell 0
      have a1 : W7.cell? ⟨X, 1, none⟩ = some (.slice (some ⟨cb, 0, none⟩) DD.cache.length 0) := hXw.cell 1
      have a2 : W7.cell? ⟨X, 2, none⟩ = some (.int .i64 DD.ops) := hXw.cell 2
      have a3 : W7.cell? ⟨X, 3, none⟩ = some (.slice ga DD.faults.length gc) := hXw.cell 3
      have a4 : W7.cell? ⟨X, 4, none⟩ = some (.bool DD.down) := hXw.cell 4
      have r0 : W7.cell? ⟨w.heap.size + 1, 0, none⟩ = some (.slice none 0 0) := hRw.cell 0
      have r1 : W7.cell? ⟨w.heap.size + 1, 1, none⟩ = some (.slice none 0 0) := hRw.cell 1
      have r2 : W7.cell? ⟨w.heap.size + 1, 2, none⟩ = some (.int .i64 0) := hRw.cell 2
      have r3 : W7.cell? ⟨w.heap.size + 1, 3, none⟩ = some (.slice none 0 0) := hRw.cell 3
      have r4 : W7.cell? ⟨w.heap.size + 1, 4, none⟩ = some (.bool false) := hRw.cell 4
      have z0 := hRw.fz 0
      have z1 := hRw.fz 1
      have z2 := hRw.fz 2
      have z3 := hRw.fz 3
      have z4 := hRw.fz 4
      have hRv := ret5_vn (.slice (some ⟨gs, 0, none⟩) DD.secs.length tc) (.slice (some ⟨cb, 0, none⟩) DD.cache.length 0) (.int .i64 DD.ops) (.slice ga DD.faults.length gc) (.bool DD.down) hRw
      have hRk := ret5_keep (.slice (some ⟨gs, 0, none⟩) DD.secs.length tc) (.slice (some ⟨cb, 0, none⟩) DD.cache.length 0) (.int .i64 DD.ops) (.slice ga DD.faults.length gc) (.bool DD.down) hRw
      have hRb := ret5_below (R := w.heap.size + 1) (.slice (some ⟨gs, 0, none⟩) DD.secs.length tc) (.slice (some ⟨cb, 0, none⟩) DD.cache.length 0) (.int .i64 DD.ops) (.slice ga DD.faults.length gc) (.bool DD.down) hBw (by omega)
      have m0 : (((((W7.setCell ⟨w.heap.size + 1, 0, none⟩ (.slice (some ⟨gs, 0, none⟩) DD.secs.length tc)).setCell ⟨w.heap.size + 1, 1, none⟩ (.slice (some ⟨cb, 0, none⟩) DD.cache.length 0)).setCell ⟨w.heap.size + 1, 2, none⟩ (.int .i64 DD.ops)).setCell ⟨w.heap.size + 1, 3, none⟩ (.slice ga DD.faults.length gc)).setCell ⟨w.heap.size + 1, 4, none⟩ (.bool DD.down)).cell? ⟨w.heap.size + 1, 0, none⟩ = some (.slice (some ⟨gs, 0, none⟩) DD.secs.length tc) := hRv.cell 0
      have m1 : (((((W7.setCell ⟨w.heap.size + 1, 0, none⟩ (.slice (some ⟨gs, 0, none⟩) DD.secs.length tc)).setCell ⟨w.heap.size + 1, 1, none⟩ (.slice (some ⟨cb, 0, none⟩) DD.cache.length 0)).setCell ⟨w.heap.size + 1, 2, none⟩ (.int .i64 DD.ops)).setCell ⟨w.heap.size + 1, 3, none⟩ (.slice ga DD.faults.length gc)).setCell ⟨w.heap.size + 1, 4, none⟩ (.bool DD.down)).cell? ⟨w.heap.size + 1, 1, none⟩ = some (.slice (some ⟨cb, 0, none⟩) DD.cache.length 0) := hRv.cell 1
      have m2 : (((((W7.setCell ⟨w.heap.size + 1, 0, none⟩ (.slice (some ⟨gs, 0, none⟩) DD.secs.length tc)).setCell ⟨w.heap.size + 1, 1, none⟩ (.slice (some ⟨cb, 0, none⟩) DD.cache.length 0)).setCell ⟨w.heap.size + 1, 2, none⟩ (.int .i64 DD.ops)).setCell ⟨w.heap.size + 1, 3, none⟩ (.slice ga DD.faults.length gc)).setCell ⟨w.heap.size + 1, 4, none⟩ (.bool DD.down)).cell? ⟨w.heap.size + 1, 2, none⟩ = some (.int .i64 DD.ops) := hRv.cell 2
      have m3 : (((((W7.setCell ⟨w.heap.size + 1, 0, none⟩ (.slice (some ⟨gs, 0, none⟩) DD.secs.length tc)).setCell ⟨w.heap.size + 1, 1, none⟩ (.slice (some ⟨cb, 0, none⟩) DD.cache.length 0)).setCell ⟨w.heap.size + 1, 2, none⟩ (.int .i64 DD.ops)).setCell ⟨w.heap.size + 1, 3, none⟩ (.slice ga DD.faults.length gc)).setCell ⟨w.heap.size + 1, 4, none⟩ (.bool DD.down)).cell? ⟨w.heap.size + 1, 3, none⟩ = some (.slice ga DD.faults.length gc) := hRv.cell 3
      have m4 : (((((W7.setCell ⟨w.heap.size + 1, 0, none⟩ (.slice (some ⟨gs, 0, none⟩) DD.secs.length tc)).setCell ⟨w.heap.size + 1, 1, none⟩ (.slice (some ⟨cb, 0, none⟩) DD.cache.length 0)).setCell ⟨w.heap.size + 1, 2, none⟩ (.int .i64 DD.ops)).setCell ⟨w.heap.size + 1, 3, none⟩ (.slice ga DD.faults.length gc)).setCell ⟨w.heap.size + 1, 4, none⟩ (.bool DD.down)).cell? ⟨w.heap.size + 1, 4, none⟩ = some (.bool DD.down) := hRv.cell 4
      have HR : Hid (ITo w (writeD D n l).1 (writeD D n l).2 (.returned (.tuple #[dval DD (some ⟨gs, 0, none⟩) tc (some ⟨cb, 0, none⟩) 0 ga gc, .int .i64 9])) (((((W7.setCell ⟨w.heap.size + 1, 0, none⟩ (.slice (some ⟨gs, 0, none⟩) DD.secs.length tc)).setCell ⟨w.heap.size + 1, 1, none⟩ (.slice (some ⟨cb, 0, none⟩) DD.cache.length 0)).setCell ⟨w.heap.size + 1, 2, none⟩ (.int .i64 DD.ops)).setCell ⟨w.heap.size + 1, 3, none⟩ (.slice ga DD.faults.length gc)).setCell ⟨w.heap.size + 1, 4, none⟩ (.bool DD.down))) := by
        rw [HF.out]
        have k9 := hk8.keepT hRk (by rw [ret5_size]; exact Nat.le_refl _) (by decide) (by decide) (by decide) (by decide)
        exact ⟨_, rfl, ⟨_, _, _, _, _, _, _, _, rfl, k9.mono (by omega)⟩, hRb⟩
      clear hk8
      clear hRv hRk hRb hXw hRw
      go_wp2
      refine bodyPost_ret (v := .tuple #[dval DD (some ⟨gs, 0, none⟩) tc (some ⟨cb, 0, none⟩) 0 ga gc, .int .i64 9]) (by simp [results, Try.results13, go_sem, m0, m1, m2, m3, m4, dval]) rfl HR.out
  · have HF0 : Hid (writeD D n l = (moreD D n l, 0)) := by show _ = _; rw [writeD_ok HMAY.out, writeF_good HDN.out hff]
    obtain ⟨i0, hi, hz0, hz1, hz2⟩ := infoWrite
    have hbA : Below W6.heap.size W6 (W6.alloc (.cells #[.int .i64 0, .int .i64 0, .int .i64 0] 79)) := (Below.refl _ _).alloc (Nat.le_refl _) _
    have hF7 := VN.new W6 79 [.int .i64 0, .int .i64 0, .int .i64 0]
    have hX7 := hX6.below hbA
    have hk7 := hk6.up (Up.ofBelow hbA)
    have hO7 := own_upK hO6 (Up.ofBelow hbA)
    have hR7 := hR6.below hbA
    have hB7 := hb6'.trans (hbA.mono hb6'.size)
    have hs7 : w.heap.size + 1 + 1 ≤ (W6.alloc (.cells #[.int .i64 0, .int .i64 0, .int .i64 0] 79)).heap.size := by simp; omega
    clear hX6 hk6 hO6 hR6 hb6' hbA
    go_upto_region 7 with fail
    obtain ⟨FB, hFB⟩ := hidEx W6.heap.size
    obtain ⟨WF, hWF⟩ := hidEx (W6.alloc (.cells #[.int .i64 0, .int .i64 0, .int .i64 0] 79))
    rw [hFB.out] at hF7
    rw [hWF.out] at hF7 hX7 hk7 hO7 hR7 hB7 hs7
    rw [hWF.out, hFB.out]
    go_cut [] (fun wx => MidW w X FB gs tc ga gc ss cs D n l [.int .i64 0, .int .i64 0, .int .i64 0] wx)
    case first =>
     as_aux_lemma =>
      refine wp_region_held_drew (S := fun _ => True) (by kernel_rfl) trivial (fun hHeld => ?_)
      have hbd : Below WF.heap.size WF WF.drew := (Below.refl _ _).drew
      replace hX7 := hX7.below hbd
      replace hk7 := hk7.up (Up.ofBelow hbd)
      replace hO7 := own_upK hO7 (Up.ofBelow hbd)
      replace hR7 := hR7.below hbd
      replace hF7 := hF7.below hbd
      replace hB7 := hB7.trans (hbd.mono hB7.size)
      have hs7d : w.heap.size + 1 + 1 ≤ WF.drew.heap.size := hs7
      clear hbd hs7
      obtain ⟨wd, hwd⟩ := hidEx WF.drew
      rw [hwd.out] at hX7 hk7 hO7 hR7 hF7 hB7 hs7d ⊢
      refine' wpAnyH_take (i := 0) (v := _) rfl (by kernel_rfl) (by kernel_rfl) (by kernel_rfl) (fun _ _ _ h => h) (Or.inl ⟨by kernel_rfl, ?hwb1⟩) (by assumption) ?rwb1
      case hwb1 => intro W hW; go_simp; all_goals with_reducible rfl
      change wpAnyH _ _ _ _ _ _ _ (Act.put _ (some 40) _) _
      simp only [Act.put, List.setIfInBounds_toArray, List.set_cons_zero, List.set_cons_succ]
      refine' wpAnyH_take (i := 2) (v := _) rfl (by kernel_rfl) (by kernel_rfl) (by kernel_rfl) (fun _ _ _ h => h) (Or.inl ⟨by kernel_rfl, ?hwb2⟩) (by assumption) ?rwb2
      case hwb2 => intro W hW; go_simp; all_goals with_reducible rfl
      change wpAnyH _ _ _ _ _ _ _ (Act.put _ (some 42) _) _
      simp only [Act.put, List.setIfInBounds_toArray, List.set_cons_zero, List.set_cons_succ]
      refine' wpAnyH_take (i := 3) (v := _) rfl (by kernel_rfl) (by kernel_rfl) (by kernel_rfl) (fun _ _ _ h => h) (Or.inl ⟨by kernel_rfl, ?hwb3⟩) (by assumption) ?rwb3
      case hwb3 => intro W hW; go_simp; all_goals with_reducible rfl
      change wpAnyH _ _ _ _ _ _ _ (Act.put _ (some 43) _) _
      simp only [Act.put, List.setIfInBounds_toArray, List.set_cons_zero, List.set_cons_succ]
      refine wpAnyH_ready (rs := [1, 4]) (by kernel_rfl) (by simp) ?_
      refine AllReadyH.cons rfl (fun KK hK => ?_) (AllReadyH.cons rfl (fun KK hK => ?_) AllReadyH.nil)
      ·
        have xl : wd.cell? ⟨X, 1, none⟩ = some (.slice da D.cache.length dc) := hX7.cell 1
        go_simp
        clear xl
        refine hK.out _ _ trivial (fun hHeld => ?_)
        clear hK KK
        try simp only [Act.put, List.setIfInBounds_toArray, List.set_cons_zero, List.set_cons_succ]
        refine wpAnyH_ready (rs := [4]) (by kernel_rfl) (by simp) ?_
        refine AllReadyH.cons rfl (fun KK hK => ?_) AllReadyH.nil
        go_simp
        refine (putSec_any ba bc l wd (HVB.out.below hB7) hbn hbl).mono ?_
        rintro e w8 ⟨rfl, hOB, hb8, hlt8⟩
        obtain ⟨u8, hu8⟩ := hidEx wd.heap.size
        have hnew8 : Bs w8 (w.heap.size + 1 + 1) ((ss ++ cs) ++ [.slice (some ⟨u8, 0, none⟩) l.length l.length]) ((D.secs ++ D.cache.map (·.2)) ++ [l]) := by
          have h8 := hu8.out
          have h9 := hb8.size
          rw [hu8.out] at hOB
          refine (hk7.bytes.up (Up.ofBelow hb8)).push (hOB.mono (by omega)) (fun g hg => ?_)
          have eg : g = u8 := by simp [Value.ownBlock] at hg; omega
          subst eg
          exact ⟨⟨by omega, by omega⟩, hk7.bytes.newer (by omega)⟩
        have hX8 := hX7.below hb8
        have hk8 := hk7.up (Up.ofBelow hb8)
        have hO8 := own_upK hO7 (Up.ofBelow hb8)
        have hR8 := hR7.below hb8
        have hB8 := hB7.trans (hb8.mono hB7.size)
        have hF8 := hF7.below hb8
        have hs8 := hb8.size
        rw [hu8.out]
        clear hX7 hk7 hO7 hR7 hB7 hF7 hOB hb8 hlt8
        go_wp2_with fail
        refine hK.out _ _ trivial (fun hHeld => ?_)
        clear hK KK
        try simp only [Act.put, List.setIfInBounds_toArray, List.set_cons_zero, List.set_cons_succ]
        refine' wpAnyH_take (i := 5) (v := _) rfl (by kernel_rfl) (by kernel_rfl) (by kernel_rfl) (fun _ _ _ h => h) (Or.inl ⟨by kernel_rfl, ?hwb4⟩) (by assumption) ?rwb4
        case hwb4 => intro W hW; go_simp; all_goals with_reducible rfl
        change wpAnyH _ _ _ _ _ _ _ (Act.put _ (some 45) _) _
        simp only [Act.put, List.setIfInBounds_toArray, List.set_cons_zero, List.set_cons_succ]
        refine wpAnyH_ready (rs := [6]) (by kernel_rfl) (by simp) ?_
        refine AllReadyH.cons rfl (fun KK hK => ?_) AllReadyH.nil
        go_simp
        have hbA : Below w8.heap.size w8 (w8.alloc (.cells #[.int .i64 n, .slice (some ⟨u8, 0, none⟩) l.length l.length] 51)) := (Below.refl _ _).alloc (Nat.le_refl _) _
        have hcl : ∀ j u, [Value.int .i64 n, .slice (some ⟨u8, 0, none⟩) l.length l.length][j]? = some u → (w8.alloc (.cells #[.int .i64 n, .slice (some ⟨u8, 0, none⟩) l.length l.length] 51)).cell? ((⟨w8.heap.size, 0, none⟩ : Addr).add j) = some u := by
          have ea : ∀ j, (⟨w8.heap.size, 0, none⟩ : Addr).add j = ⟨w8.heap.size, 0 + j, none⟩ := fun j => by unfold Addr.add; split <;> simp_all
          intro j u hj
          match j, hj with
          | 0, hj => cases hj; rw [ea]; simp
          | 1, hj => cases hj; rw [ea]; simp [go_sem]
        have hX9 := hX8.below hbA
        have hk9 := hk8.up (Up.ofBelow hbA)
        have hO9 := own_upK hO8 (Up.ofBelow hbA)
        have hR9 := hR8.below hbA
        have hB9 := hB8.trans (hbA.mono hB8.size)
        have hF9 := hF8.below hbA
        have hn9 := hnew8.up (Up.ofBelow hbA)
        have hs9 : w.heap.size + 1 + 1 ≤ (w8.alloc (.cells #[.int .i64 n, .slice (some ⟨u8, 0, none⟩) l.length l.length] 51)).heap.size := by have := hbA.size; omega
        clear hX8 hk8 hO8 hR8 hB8 hF8 hnew8 hbA
        refine hK.out _ _ trivial (fun hHeld => ?_)
        clear hK KK
        try simp only [Act.put, List.setIfInBounds_toArray, List.set_cons_zero, List.set_cons_succ]
        obtain ⟨w9, hw9⟩ := hidEx (w8.alloc (.cells #[.int .i64 n, .slice (some ⟨u8, 0, none⟩) l.length l.length] 51))
        obtain ⟨g9, hg9⟩ := hidEx w8.heap.size
        rw [hw9.out, hg9.out] at hcl
        rw [hw9.out] at hX9 hk9 hO9 hR9 hB9 hF9 hn9 hs9 ⊢
        try rw [hg9.out]
        refine wpAnyH_ready (rs := [7]) (by kernel_rfl) (by simp) ?_
        refine AllReadyH.cons rfl (fun KK hK => ?_) AllReadyH.nil
        rw [if_pos (by kernel_rfl)]
        refine wp_append_own _ (.tmp 41) (.tmp 46) 29 rfl (w.heap.size + 1 + 1) 51 i0 (.agg #[.int .i64 0, .slice none 0 0]) 2 32 Try.underlying29 hi hz0 hz1 hz2 rfl (by decide) _ _ _ rfl hO9 ⟨g9, 0, none⟩ 1 1 [.int .i64 n, .slice (some ⟨u8, 0, none⟩) l.length l.length] rfl rfl hcl (by intro u hu; simp at hu; rcases hu with rfl | rfl <;> rfl) (by unfold maxLen; omega) (by omega) hs9 ?_
        intro v6 wa hOa hgra hnila
        have hKa := keep_grown hO9 hgra
        obtain ⟨cb, cd, rfl⟩ := own_succK hOa
        have hXa := hX9.block (hKa _ _ _ _ hX9 (by decide))
        have hRa := hR9.block (hKa _ _ _ _ hR9 (by decide))
        have hFa := hF9.block (hKa _ _ _ _ hF9 (by decide))
        have hBa := hB9.grown hgra (by omega) (fun k e => by have := own_geK hO9 k e; omega)
        have hna := hn9.keepT hKa hgra.size (by decide)
        have hka := hk9.more n l _ hKa hna hOa
        have hsa := hgra.size
        clear hX9 hk9 hO9 hR9 hB9 hF9 hn9 hcl hgra hnila hKa
        refine hK.out _ _ trivial (fun hHeld => ?_)
        clear hK KK
        change wpAnyH _ _ _ _ _ _ _ (Act.put _ (some 47) _) _
        try simp only [Act.put, List.setIfInBounds_toArray, List.set_cons_zero, List.set_cons_succ]
        refine' wpAnyH_take (i := 8) (v := _) rfl (by kernel_rfl) (by kernel_rfl) (by kernel_rfl) (fun _ _ _ h => h) (Or.inl ⟨by kernel_rfl, ?hwb5⟩) (by assumption) ?rwb5
        case hwb5 => intro W hW; go_simp; all_goals with_reducible rfl
        change wpAnyH _ _ _ _ _ _ _ (Act.put _ (some 48) _) _
        simp only [Act.put, List.setIfInBounds_toArray, List.set_cons_zero, List.set_cons_succ]
        refine wpAnyH_ready (rs := [9]) (by kernel_rfl) (by simp) ?_
        refine AllReadyH.cons rfl (fun KK hK => ?_) AllReadyH.nil
        have xa : wa.cell? ⟨X, 1, none⟩ = some (.slice da D.cache.length dc) := hXa.cell 1
        have za := hXa.fz 1
        go_simp
        have hXb := hXa.set 1 (.slice (some ⟨cb, 0, none⟩) (D.cache.length + 1) cd)
        simp only [List.set] at hXb
        have hKb := keep_vn (P := fun t => t = 32) (i := 1) (u := .slice (some ⟨cb, 0, none⟩) (D.cache.length + 1) cd) hXa rfl
        have hsb : (wa.setCell ⟨X, 1, none⟩ (.slice (some ⟨cb, 0, none⟩) (D.cache.length + 1) cd)).heap.size = wa.heap.size := by simp
        have hkb := hka.keepT hKb (by rw [hsb]; exact Nat.le_refl _) (by decide) (by decide) (by decide) (by decide)
        have hRb9 := hRa.other (C := X) (i := 1) (u := .slice (some ⟨cb, 0, none⟩) (D.cache.length + 1) cd) (by omega)
        have hFb := hFa.block (hKb _ _ _ _ hFa (by decide))
        have hBb : Below w.heap.size w (wa.setCell ⟨X, 1, none⟩ (.slice (some ⟨cb, 0, none⟩) (D.cache.length + 1) cd)) := hBa.setCell (p := ⟨X, 1, none⟩) (by show w.heap.size ≤ X; omega) _
        clear xa za hXa hka hRa hFa hBa hKb
        refine hK.out _ _ trivial (fun hHeld => ?_)
        clear hK KK
        try simp only [Act.put, List.setIfInBounds_toArray, List.set_cons_zero, List.set_cons_succ]
        refine wpAnyH_done (by kernel_rfl) ?_ _
        clear hHeld
        go_wp2_with fail
        go_meet
        exact ⟨cb, cd, u8, hXb, hkb, hRb9, hFb, hBb, by rw [hsb]; omega⟩
      ·
        go_simp
        refine (putSec_any ba bc l wd (HVB.out.below hB7) hbn hbl).mono ?_
        rintro e w8 ⟨rfl, hOB, hb8, hlt8⟩
        obtain ⟨u8, hu8⟩ := hidEx wd.heap.size
        have hnew8 : Bs w8 (w.heap.size + 1 + 1) ((ss ++ cs) ++ [.slice (some ⟨u8, 0, none⟩) l.length l.length]) ((D.secs ++ D.cache.map (·.2)) ++ [l]) := by
          have h8 := hu8.out
          have h9 := hb8.size
          rw [hu8.out] at hOB
          refine (hk7.bytes.up (Up.ofBelow hb8)).push (hOB.mono (by omega)) (fun g hg => ?_)
          have eg : g = u8 := by simp [Value.ownBlock] at hg; omega
          subst eg
          exact ⟨⟨by omega, by omega⟩, hk7.bytes.newer (by omega)⟩
        have hX8 := hX7.below hb8
        have hk8 := hk7.up (Up.ofBelow hb8)
        have hO8 := own_upK hO7 (Up.ofBelow hb8)
        have hR8 := hR7.below hb8
        have hB8 := hB7.trans (hb8.mono hB7.size)
        have hF8 := hF7.below hb8
        have hs8 := hb8.size
        rw [hu8.out]
        clear hX7 hk7 hO7 hR7 hB7 hF7 hOB hb8 hlt8
        go_wp2_with fail
        refine hK.out _ _ trivial (fun hHeld => ?_)
        clear hK KK
        try simp only [Act.put, List.setIfInBounds_toArray, List.set_cons_zero, List.set_cons_succ]
        refine' wpAnyH_take (i := 5) (v := _) rfl (by kernel_rfl) (by kernel_rfl) (by kernel_rfl) (fun _ _ _ h => h) (Or.inl ⟨by kernel_rfl, ?hwb6⟩) (by assumption) ?rwb6
        case hwb6 => intro W hW; go_simp; all_goals with_reducible rfl
        change wpAnyH _ _ _ _ _ _ _ (Act.put _ (some 45) _) _
        simp only [Act.put, List.setIfInBounds_toArray, List.set_cons_zero, List.set_cons_succ]
        refine wpAnyH_ready (rs := [1, 6]) (by kernel_rfl) (by simp) ?_
        refine AllReadyH.cons rfl (fun KK hK => ?_) (AllReadyH.cons rfl (fun KK hK => ?_) AllReadyH.nil)
        ·
          have xl : w8.cell? ⟨X, 1, none⟩ = some (.slice da D.cache.length dc) := hX8.cell 1
          go_simp
          clear xl
          refine hK.out _ _ trivial (fun hHeld => ?_)
          clear hK KK
          try simp only [Act.put, List.setIfInBounds_toArray, List.set_cons_zero, List.set_cons_succ]
          refine wpAnyH_ready (rs := [6]) (by kernel_rfl) (by simp) ?_
          refine AllReadyH.cons rfl (fun KK hK => ?_) AllReadyH.nil
          go_simp
          have hbA : Below w8.heap.size w8 (w8.alloc (.cells #[.int .i64 n, .slice (some ⟨u8, 0, none⟩) l.length l.length] 51)) := (Below.refl _ _).alloc (Nat.le_refl _) _
          have hcl : ∀ j u, [Value.int .i64 n, .slice (some ⟨u8, 0, none⟩) l.length l.length][j]? = some u → (w8.alloc (.cells #[.int .i64 n, .slice (some ⟨u8, 0, none⟩) l.length l.length] 51)).cell? ((⟨w8.heap.size, 0, none⟩ : Addr).add j) = some u := by
            have ea : ∀ j, (⟨w8.heap.size, 0, none⟩ : Addr).add j = ⟨w8.heap.size, 0 + j, none⟩ := fun j => by unfold Addr.add; split <;> simp_all
            intro j u hj
            match j, hj with
            | 0, hj => cases hj; rw [ea]; simp
            | 1, hj => cases hj; rw [ea]; simp [go_sem]
          have hX9 := hX8.below hbA
          have hk9 := hk8.up (Up.ofBelow hbA)
          have hO9 := own_upK hO8 (Up.ofBelow hbA)
          have hR9 := hR8.below hbA
          have hB9 := hB8.trans (hbA.mono hB8.size)
          have hF9 := hF8.below hbA
          have hn9 := hnew8.up (Up.ofBelow hbA)
          have hs9 : w.heap.size + 1 + 1 ≤ (w8.alloc (.cells #[.int .i64 n, .slice (some ⟨u8, 0, none⟩) l.length l.length] 51)).heap.size := by have := hbA.size; omega
          clear hX8 hk8 hO8 hR8 hB8 hF8 hnew8 hbA
          refine hK.out _ _ trivial (fun hHeld => ?_)
          clear hK KK
          try simp only [Act.put, List.setIfInBounds_toArray, List.set_cons_zero, List.set_cons_succ]
          obtain ⟨w9, hw9⟩ := hidEx (w8.alloc (.cells #[.int .i64 n, .slice (some ⟨u8, 0, none⟩) l.length l.length] 51))
          obtain ⟨g9, hg9⟩ := hidEx w8.heap.size
          rw [hw9.out, hg9.out] at hcl
          rw [hw9.out] at hX9 hk9 hO9 hR9 hB9 hF9 hn9 hs9 ⊢
          try rw [hg9.out]
          refine wpAnyH_ready (rs := [7]) (by kernel_rfl) (by simp) ?_
          refine AllReadyH.cons rfl (fun KK hK => ?_) AllReadyH.nil
          rw [if_pos (by kernel_rfl)]
          refine wp_append_own _ (.tmp 41) (.tmp 46) 29 rfl (w.heap.size + 1 + 1) 51 i0 (.agg #[.int .i64 0, .slice none 0 0]) 2 32 Try.underlying29 hi hz0 hz1 hz2 rfl (by decide) _ _ _ rfl hO9 ⟨g9, 0, none⟩ 1 1 [.int .i64 n, .slice (some ⟨u8, 0, none⟩) l.length l.length] rfl rfl hcl (by intro u hu; simp at hu; rcases hu with rfl | rfl <;> rfl) (by unfold maxLen; omega) (by omega) hs9 ?_
          intro v6 wa hOa hgra hnila
          have hKa := keep_grown hO9 hgra
          obtain ⟨cb, cd, rfl⟩ := own_succK hOa
          have hXa := hX9.block (hKa _ _ _ _ hX9 (by decide))
          have hRa := hR9.block (hKa _ _ _ _ hR9 (by decide))
          have hFa := hF9.block (hKa _ _ _ _ hF9 (by decide))
          have hBa := hB9.grown hgra (by omega) (fun k e => by have := own_geK hO9 k e; omega)
          have hna := hn9.keepT hKa hgra.size (by decide)
          have hka := hk9.more n l _ hKa hna hOa
          have hsa := hgra.size
          clear hX9 hk9 hO9 hR9 hB9 hF9 hn9 hcl hgra hnila hKa
          refine hK.out _ _ trivial (fun hHeld => ?_)
          clear hK KK
          change wpAnyH _ _ _ _ _ _ _ (Act.put _ (some 47) _) _
          try simp only [Act.put, List.setIfInBounds_toArray, List.set_cons_zero, List.set_cons_succ]
          refine' wpAnyH_take (i := 8) (v := _) rfl (by kernel_rfl) (by kernel_rfl) (by kernel_rfl) (fun _ _ _ h => h) (Or.inl ⟨by kernel_rfl, ?hwb7⟩) (by assumption) ?rwb7
          case hwb7 => intro W hW; go_simp; all_goals with_reducible rfl
          change wpAnyH _ _ _ _ _ _ _ (Act.put _ (some 48) _) _
          simp only [Act.put, List.setIfInBounds_toArray, List.set_cons_zero, List.set_cons_succ]
          refine wpAnyH_ready (rs := [9]) (by kernel_rfl) (by simp) ?_
          refine AllReadyH.cons rfl (fun KK hK => ?_) AllReadyH.nil
          have xa : wa.cell? ⟨X, 1, none⟩ = some (.slice da D.cache.length dc) := hXa.cell 1
          have za := hXa.fz 1
          go_simp
          have hXb := hXa.set 1 (.slice (some ⟨cb, 0, none⟩) (D.cache.length + 1) cd)
          simp only [List.set] at hXb
          have hKb := keep_vn (P := fun t => t = 32) (i := 1) (u := .slice (some ⟨cb, 0, none⟩) (D.cache.length + 1) cd) hXa rfl
          have hsb : (wa.setCell ⟨X, 1, none⟩ (.slice (some ⟨cb, 0, none⟩) (D.cache.length + 1) cd)).heap.size = wa.heap.size := by simp
          have hkb := hka.keepT hKb (by rw [hsb]; exact Nat.le_refl _) (by decide) (by decide) (by decide) (by decide)
          have hRb9 := hRa.other (C := X) (i := 1) (u := .slice (some ⟨cb, 0, none⟩) (D.cache.length + 1) cd) (by omega)
          have hFb := hFa.block (hKb _ _ _ _ hFa (by decide))
          have hBb : Below w.heap.size w (wa.setCell ⟨X, 1, none⟩ (.slice (some ⟨cb, 0, none⟩) (D.cache.length + 1) cd)) := hBa.setCell (p := ⟨X, 1, none⟩) (by show w.heap.size ≤ X; omega) _
          clear xa za hXa hka hRa hFa hBa hKb
          refine hK.out _ _ trivial (fun hHeld => ?_)
          clear hK KK
          try simp only [Act.put, List.setIfInBounds_toArray, List.set_cons_zero, List.set_cons_succ]
          refine wpAnyH_done (by kernel_rfl) ?_ _
          clear hHeld
          go_wp2_with fail
          go_meet
          exact ⟨cb, cd, u8, hXb, hkb, hRb9, hFb, hBb, by rw [hsb]; omega⟩
        ·
          go_simp
          have hbA : Below w8.heap.size w8 (w8.alloc (.cells #[.int .i64 n, .slice (some ⟨u8, 0, none⟩) l.length l.length] 51)) := (Below.refl _ _).alloc (Nat.le_refl _) _
          have hcl : ∀ j u, [Value.int .i64 n, .slice (some ⟨u8, 0, none⟩) l.length l.length][j]? = some u → (w8.alloc (.cells #[.int .i64 n, .slice (some ⟨u8, 0, none⟩) l.length l.length] 51)).cell? ((⟨w8.heap.size, 0, none⟩ : Addr).add j) = some u := by
            have ea : ∀ j, (⟨w8.heap.size, 0, none⟩ : Addr).add j = ⟨w8.heap.size, 0 + j, none⟩ := fun j => by unfold Addr.add; split <;> simp_all
            intro j u hj
            match j, hj with
            | 0, hj => cases hj; rw [ea]; simp
            | 1, hj => cases hj; rw [ea]; simp [go_sem]
          have hX9 := hX8.below hbA
          have hk9 := hk8.up (Up.ofBelow hbA)
          have hO9 := own_upK hO8 (Up.ofBelow hbA)
          have hR9 := hR8.below hbA
          have hB9 := hB8.trans (hbA.mono hB8.size)
          have hF9 := hF8.below hbA
          have hn9 := hnew8.up (Up.ofBelow hbA)
          have hs9 : w.heap.size + 1 + 1 ≤ (w8.alloc (.cells #[.int .i64 n, .slice (some ⟨u8, 0, none⟩) l.length l.length] 51)).heap.size := by have := hbA.size; omega
          clear hX8 hk8 hO8 hR8 hB8 hF8 hnew8 hbA
          refine hK.out _ _ trivial (fun hHeld => ?_)
          clear hK KK
          try simp only [Act.put, List.setIfInBounds_toArray, List.set_cons_zero, List.set_cons_succ]
          obtain ⟨w9, hw9⟩ := hidEx (w8.alloc (.cells #[.int .i64 n, .slice (some ⟨u8, 0, none⟩) l.length l.length] 51))
          obtain ⟨g9, hg9⟩ := hidEx w8.heap.size
          rw [hw9.out, hg9.out] at hcl
          rw [hw9.out] at hX9 hk9 hO9 hR9 hB9 hF9 hn9 hs9 ⊢
          try rw [hg9.out]
          refine wpAnyH_ready (rs := [1]) (by kernel_rfl) (by simp) ?_
          refine AllReadyH.cons rfl (fun KK hK => ?_) AllReadyH.nil
          have xl : w9.cell? ⟨X, 1, none⟩ = some (.slice da D.cache.length dc) := hX9.cell 1
          go_simp
          clear xl
          refine hK.out _ _ trivial (fun hHeld => ?_)
          clear hK KK
          try simp only [Act.put, List.setIfInBounds_toArray, List.set_cons_zero, List.set_cons_succ]
          refine wpAnyH_ready (rs := [7]) (by kernel_rfl) (by simp) ?_
          refine AllReadyH.cons rfl (fun KK hK => ?_) AllReadyH.nil
          rw [if_pos (by kernel_rfl)]
          refine wp_append_own _ (.tmp 41) (.tmp 46) 29 rfl (w.heap.size + 1 + 1) 51 i0 (.agg #[.int .i64 0, .slice none 0 0]) 2 32 Try.underlying29 hi hz0 hz1 hz2 rfl (by decide) _ _ _ rfl hO9 ⟨g9, 0, none⟩ 1 1 [.int .i64 n, .slice (some ⟨u8, 0, none⟩) l.length l.length] rfl rfl hcl (by intro u hu; simp at hu; rcases hu with rfl | rfl <;> rfl) (by unfold maxLen; omega) (by omega) hs9 ?_
          intro v6 wa hOa hgra hnila
          have hKa := keep_grown hO9 hgra
          obtain ⟨cb, cd, rfl⟩ := own_succK hOa
          have hXa := hX9.block (hKa _ _ _ _ hX9 (by decide))
          have hRa := hR9.block (hKa _ _ _ _ hR9 (by decide))
          have hFa := hF9.block (hKa _ _ _ _ hF9 (by decide))
          have hBa := hB9.grown hgra (by omega) (fun k e => by have := own_geK hO9 k e; omega)
          have hna := hn9.keepT hKa hgra.size (by decide)
          have hka := hk9.more n l _ hKa hna hOa
          have hsa := hgra.size
          clear hX9 hk9 hO9 hR9 hB9 hF9 hn9 hcl hgra hnila hKa
          refine hK.out _ _ trivial (fun hHeld => ?_)
          clear hK KK
          change wpAnyH _ _ _ _ _ _ _ (Act.put _ (some 47) _) _
          try simp only [Act.put, List.setIfInBounds_toArray, List.set_cons_zero, List.set_cons_succ]
          refine' wpAnyH_take (i := 8) (v := _) rfl (by kernel_rfl) (by kernel_rfl) (by kernel_rfl) (fun _ _ _ h => h) (Or.inl ⟨by kernel_rfl, ?hwb8⟩) (by assumption) ?rwb8
          case hwb8 => intro W hW; go_simp; all_goals with_reducible rfl
          change wpAnyH _ _ _ _ _ _ _ (Act.put _ (some 48) _) _
          simp only [Act.put, List.setIfInBounds_toArray, List.set_cons_zero, List.set_cons_succ]
          refine wpAnyH_ready (rs := [9]) (by kernel_rfl) (by simp) ?_
          refine AllReadyH.cons rfl (fun KK hK => ?_) AllReadyH.nil
          have xa : wa.cell? ⟨X, 1, none⟩ = some (.slice da D.cache.length dc) := hXa.cell 1
          have za := hXa.fz 1
          go_simp
          have hXb := hXa.set 1 (.slice (some ⟨cb, 0, none⟩) (D.cache.length + 1) cd)
          simp only [List.set] at hXb
          have hKb := keep_vn (P := fun t => t = 32) (i := 1) (u := .slice (some ⟨cb, 0, none⟩) (D.cache.length + 1) cd) hXa rfl
          have hsb : (wa.setCell ⟨X, 1, none⟩ (.slice (some ⟨cb, 0, none⟩) (D.cache.length + 1) cd)).heap.size = wa.heap.size := by simp
          have hkb := hka.keepT hKb (by rw [hsb]; exact Nat.le_refl _) (by decide) (by decide) (by decide) (by decide)
          have hRb9 := hRa.other (C := X) (i := 1) (u := .slice (some ⟨cb, 0, none⟩) (D.cache.length + 1) cd) (by omega)
          have hFb := hFa.block (hKb _ _ _ _ hFa (by decide))
          have hBb : Below w.heap.size w (wa.setCell ⟨X, 1, none⟩ (.slice (some ⟨cb, 0, none⟩) (D.cache.length + 1) cd)) := hBa.setCell (p := ⟨X, 1, none⟩) (by show w.heap.size ≤ X; omega) _
          clear xa za hXa hka hRa hFa hBa hKb
          refine hK.out _ _ trivial (fun hHeld => ?_)
          clear hK KK
          try simp only [Act.put, List.setIfInBounds_toArray, List.set_cons_zero, List.set_cons_succ]
          refine wpAnyH_done (by kernel_rfl) ?_ _
          clear hHeld
          go_wp2_with fail
          go_meet
          exact ⟨cb, cd, u8, hXb, hkb, hRb9, hFb, hBb, by rw [hsb]; omega⟩
    case rest =>
     clear hX7 hk7 hO7 hR7 hF7 hB7 hs7
     as_aux_lemma =>
      obtain ⟨cb, cd, u8, hXb, hkb, hRb9, hFb, hBb, hszb⟩ := hcut
      obtain ⟨Wb, hWb⟩ := hidEx wc
      rw [hWb.out] at hXb hkb hRb9 hFb hBb hszb ⊢
      clear hWb
      obtain ⟨D2, hD2⟩ := hidEx (moreD D n l)
      have eD2 : ({ { D with ops := D.ops + 1 } with cache := D.cache ++ [(n, l)] } : PDisk) = D2 := by rw [← hD2.out]; rfl
      rw [eD2] at hkb
      have hX2 : VN Wb X 32 [.slice (some ⟨gs, 0, none⟩) D2.secs.length tc, .slice (some ⟨cb, 0, none⟩) D2.cache.length cd, .int .i64 D2.ops, .slice ga D2.faults.length gc, .bool D2.down] := by
        rw [← hD2.out]
        show VN Wb X 32 [.slice (some ⟨gs, 0, none⟩) D.secs.length tc, .slice (some ⟨cb, 0, none⟩) (D.cache ++ [(n, l)]).length cd, .int .i64 (D.ops + 1), .slice ga D.faults.length gc, .bool D.down]
        rw [List.length_append]
        exact hXb
      clear hXb eD2
      have HF : Hid (writeD D n l = (D2, 0)) := by show _ = _; rw [HF0.out, hD2.out]
      clear hFb hszb
      have hBw := hBb
      have hXw := hX2
      have hRw := hRb9
      have a0 : Wb.cell? ⟨X, 0, none⟩ = some (.slice (some ⟨gs, 0, none⟩) D2.secs.length tc) := hXw.cell 0
      have a1 : Wb.cell? ⟨X, 1, none⟩ = some (.slice (some ⟨cb, 0, none⟩) D2.cache.length cd) := hXw.cell 1
      have a2 : Wb.cell? ⟨X, 2, none⟩ = some (.int .i64 D2.ops) := hXw.cell 2
      have a3 : Wb.cell? ⟨X, 3, none⟩ = some (.slice ga D2.faults.length gc) := hXw.cell 3
      have a4 : Wb.cell? ⟨X, 4, none⟩ = some (.bool D2.down) := hXw.cell 4
      have r0 : Wb.cell? ⟨w.heap.size + 1, 0, none⟩ = some (.slice none 0 0) := hRw.cell 0
      have r1 : Wb.cell? ⟨w.heap.size + 1, 1, none⟩ = some (.slice none 0 0) := hRw.cell 1
      have r2 : Wb.cell? ⟨w.heap.size + 1, 2, none⟩ = some (.int .i64 0) := hRw.cell 2
      have r3 : Wb.cell? ⟨w.heap.size + 1, 3, none⟩ = some (.slice none 0 0) := hRw.cell 3
      have r4 : Wb.cell? ⟨w.heap.size + 1, 4, none⟩ = some (.bool false) := hRw.cell 4
      have z0 := hRw.fz 0
      have z1 := hRw.fz 1
      have z2 := hRw.fz 2
      have z3 := hRw.fz 3
      have z4 := hRw.fz 4
      have hRv := ret5_vn (.slice (some ⟨gs, 0, none⟩) D2.secs.length tc) (.slice (some ⟨cb, 0, none⟩) D2.cache.length cd) (.int .i64 D2.ops) (.slice ga D2.faults.length gc) (.bool D2.down) hRw
      have hRk := ret5_keep (.slice (some ⟨gs, 0, none⟩) D2.secs.length tc) (.slice (some ⟨cb, 0, none⟩) D2.cache.length cd) (.int .i64 D2.ops) (.slice ga D2.faults.length gc) (.bool D2.down) hRw
      have hRb := ret5_below (R := w.heap.size + 1) (.slice (some ⟨gs, 0, none⟩) D2.secs.length tc) (.slice (some ⟨cb, 0, none⟩) D2.cache.length cd) (.int .i64 D2.ops) (.slice ga D2.faults.length gc) (.bool D2.down) hBw (by omega)
      have m0 : (((((Wb.setCell ⟨w.heap.size + 1, 0, none⟩ (.slice (some ⟨gs, 0, none⟩) D2.secs.length tc)).setCell ⟨w.heap.size + 1, 1, none⟩ (.slice (some ⟨cb, 0, none⟩) D2.cache.length cd)).setCell ⟨w.heap.size + 1, 2, none⟩ (.int .i64 D2.ops)).setCell ⟨w.heap.size + 1, 3, none⟩ (.slice ga D2.faults.length gc)).setCell ⟨w.heap.size + 1, 4, none⟩ (.bool D2.down)).cell? ⟨w.heap.size + 1, 0, none⟩ = some (.slice (some ⟨gs, 0, none⟩) D2.secs.length tc) := hRv.cell 0
      have m1 : (((((Wb.setCell ⟨w.heap.size + 1, 0, none⟩ (.slice (some ⟨gs, 0, none⟩) D2.secs.length tc)).setCell ⟨w.heap.size + 1, 1, none⟩ (.slice (some ⟨cb, 0, none⟩) D2.cache.length cd)).setCell ⟨w.heap.size + 1, 2, none⟩ (.int .i64 D2.ops)).setCell ⟨w.heap.size + 1, 3, none⟩ (.slice ga D2.faults.length gc)).setCell ⟨w.heap.size + 1, 4, none⟩ (.bool D2.down)).cell? ⟨w.heap.size + 1, 1, none⟩ = some (.slice (some ⟨cb, 0, none⟩) D2.cache.length cd) := hRv.cell 1
      have m2 : (((((Wb.setCell ⟨w.heap.size + 1, 0, none⟩ (.slice (some ⟨gs, 0, none⟩) D2.secs.length tc)).setCell ⟨w.heap.size + 1, 1, none⟩ (.slice (some ⟨cb, 0, none⟩) D2.cache.length cd)).setCell ⟨w.heap.size + 1, 2, none⟩ (.int .i64 D2.ops)).setCell ⟨w.heap.size + 1, 3, none⟩ (.slice ga D2.faults.length gc)).setCell ⟨w.heap.size + 1, 4, none⟩ (.bool D2.down)).cell? ⟨w.heap.size + 1, 2, none⟩ = some (.int .i64 D2.ops) := hRv.cell 2
      have m3 : (((((Wb.setCell ⟨w.heap.size + 1, 0, none⟩ (.slice (some ⟨gs, 0, none⟩) D2.secs.length tc)).setCell ⟨w.heap.size + 1, 1, none⟩ (.slice (some ⟨cb, 0, none⟩) D2.cache.length cd)).setCell ⟨w.heap.size + 1, 2, none⟩ (.int .i64 D2.ops)).setCell ⟨w.heap.size + 1, 3, none⟩ (.slice ga D2.faults.length gc)).setCell ⟨w.heap.size + 1, 4, none⟩ (.bool D2.down)).cell? ⟨w.heap.size + 1, 3, none⟩ = some (.slice ga D2.faults.length gc) := hRv.cell 3
      have m4 : (((((Wb.setCell ⟨w.heap.size + 1, 0, none⟩ (.slice (some ⟨gs, 0, none⟩) D2.secs.length tc)).setCell ⟨w.heap.size + 1, 1, none⟩ (.slice (some ⟨cb, 0, none⟩) D2.cache.length cd)).setCell ⟨w.heap.size + 1, 2, none⟩ (.int .i64 D2.ops)).setCell ⟨w.heap.size + 1, 3, none⟩ (.slice ga D2.faults.length gc)).setCell ⟨w.heap.size + 1, 4, none⟩ (.bool D2.down)).cell? ⟨w.heap.size + 1, 4, none⟩ = some (.bool D2.down) := hRv.cell 4
      have HR : Hid (ITo w (writeD D n l).1 (writeD D n l).2 (.returned (.tuple #[dval D2 (some ⟨gs, 0, none⟩) tc (some ⟨cb, 0, none⟩) cd ga gc, .int .i64 0])) (((((Wb.setCell ⟨w.heap.size + 1, 0, none⟩ (.slice (some ⟨gs, 0, none⟩) D2.secs.length tc)).setCell ⟨w.heap.size + 1, 1, none⟩ (.slice (some ⟨cb, 0, none⟩) D2.cache.length cd)).setCell ⟨w.heap.size + 1, 2, none⟩ (.int .i64 D2.ops)).setCell ⟨w.heap.size + 1, 3, none⟩ (.slice ga D2.faults.length gc)).setCell ⟨w.heap.size + 1, 4, none⟩ (.bool D2.down))) := by
        rw [HF.out]
        have k9 := hkb.keepT hRk (by rw [ret5_size]; exact Nat.le_refl _) (by decide) (by decide) (by decide) (by decide)
        exact ⟨_, rfl, ⟨_, _, _, _, _, _, _, _, rfl, k9.mono (by omega)⟩, hRb⟩
      clear hkb
      clear hRv hRk hRb hXw hRw
      go_wp2
      refine bodyPost_ret (v := .tuple #[dval D2 (some ⟨gs, 0, none⟩) tc (some ⟨cb, 0, none⟩) cd ga gc, .int .i64 0]) (by simp [results, Try.results13, go_sem, m0, m1, m2, m3, m4, dval]) rfl HR.out
end Go.Proofs.Ytdhfbblameiloaa

