/-
  TurnOn, of the program and of the model.
-/
import Derived.Test.YtagjgnephaaehaaDiskCopyI
import Derived.Test.YtagjgnephaaehaaDiskCopyS
namespace Go.Proofs.Ytagjgnephaaehaa
open Go.RowKit
set_option maxRecDepth 4000

theorem KOwn.turned {w w' : World} {B : Nat} {D : PDisk} {ta : Option Addr} {tc : Nat} {da : Option Addr} {dc : Nat} {ga : Option Addr} {gc : Nat} {ss cs : List Value} (b : Bool) (h : KO w B ta tc da dc ga gc ss cs D) (hu : Up B w w') : KOwn w' B (.agg #[.slice ta D.secs.length tc, .slice da D.cache.length dc, .int .i64 D.ops, .slice ga D.faults.length gc, .bool b]) { D with down := b } :=
  have k := h.up hu
  ⟨ta, tc, da, dc, ga, gc, ss, cs, rfl, ⟨k.sle, k.snil, k.cle, k.cnil, k.fle, k.fnil, k.ns, k.nc, k.secs, k.cache, k.faults, k.bytes⟩⟩
theorem RL.tight {T : TypeId} {w : World} {B B' : Nat} {a : Option Addr} {xs : List Value} (h : RL T w B a xs) (hB : ∀ g, a = some ⟨g, 0, none⟩ → B' ≤ g) : RL T w B' a xs := by
  rcases h with h | ⟨g, cur, ea, hb, hg, hc⟩
  · exact .inl h
  · exact .inr ⟨g, cur, ea, hB g ea, hg, hc⟩

set_option maxHeartbeats 4000000 in
theorem implTurnOn_any (v : Value) (D : PDisk) (w : World) (h : KView w v D) (hf : KFine D) :
    Calls Try.prog 9 #[v] w fun e w' => ∃ v', e = .returned v' ∧ KOwn w' w.heap.size v' { D with down := false } ∧ Below w.heap.size w w' := by
  obtain ⟨sa, sc, ca, cc, fa, fc, rfl, hs, hc, hfv⟩ := h.is
  have hv : KView w (.agg #[.slice sa D.secs.length sc, .slice ca D.cache.length cc, .int .i64 D.ops, .slice fa D.faults.length fc, .bool D.down]) D := ⟨sa, sc, ca, cc, fa, fc, rfl, hs, hc, hfv⟩
  clear h hs hc hfv
  have hA0 := VN.new w 31 [.slice sa D.secs.length sc, .slice ca D.cache.length cc, .int .i64 D.ops, .slice fa D.faults.length fc, .bool D.down]
  have hR := VN.new (w.alloc (.cells #[.slice sa D.secs.length sc, .slice ca D.cache.length cc, .int .i64 D.ops, .slice fa D.faults.length fc, .bool D.down] 31)) 31 [.slice none 0 0, .slice none 0 0, .int .i64 0, .slice none 0 0, .bool false]
  rw [alloc_sizeK] at hR
  have hbel : Below w.heap.size w ((w.alloc (.cells #[.slice sa D.secs.length sc, .slice ca D.cache.length cc, .int .i64 D.ops, .slice fa D.faults.length fc, .bool D.down] 31)).alloc (.cells #[.slice none 0 0, .slice none 0 0, .int .i64 0, .slice none 0 0, .bool false] 31)) := ((Below.refl _ _).alloc (Nat.le_refl _) _).alloc (by simp) _
  obtain ⟨W0, hW0⟩ := hidEx ((w.alloc (.cells #[.slice sa D.secs.length sc, .slice ca D.cache.length cc, .int .i64 D.ops, .slice fa D.faults.length fc, .bool D.down] 31)).alloc (.cells #[.slice none 0 0, .slice none 0 0, .int .i64 0, .slice none 0 0, .bool false] 31))
  have hz : W0.heap.size = w.heap.size + 1 + 1 := by rw [← hW0.out]; simp
  have hA := hA0.below ((Below.refl _ _).alloc (Nat.le_refl _) (.cells #[.slice none 0 0, .slice none 0 0, .int .i64 0, .slice none 0 0, .bool false] 31))
  rw [hW0.out] at hbel
  replace hA : VN W0 w.heap.size 31 [.slice sa D.secs.length sc, .slice ca D.cache.length cc, .int .i64 D.ops, .slice fa D.faults.length fc, .bool D.down] := by rw [← hW0.out]; exact hA
  replace hR : VN W0 (w.heap.size + 1) 31 [.slice none 0 0, .slice none 0 0, .int .i64 0, .slice none 0 0, .bool false] := by rw [← hW0.out]; exact hR
  have hS := copyDisk_any _ D W0 (hv.below hbel) hf
  have x0 := hA.cell 0
  have x1 := hA.cell 1
  have x2 := hA.cell 2
  have x3 := hA.cell 3
  have x4 := hA.cell 4
  simp at x0 x1 x2 x3 x4
  clear hv hf hA0
  go_enter Try.func9, Try.ntmps9
  go_wp2_with (rw [hW0.out])
  refine hS.mono ?_
  rintro e W1 ⟨v1, rfl, hO1, hb1⟩
  obtain ⟨ta, tc, da, dc, ga, gc, ss, cs, rfl, hk⟩ := hO1
  rw [hz] at hk
  unfold dval
  have hbw : Below w.heap.size w W1 := hbel.trans (hb1.mono hbel.size)
  replace hR := hR.below hb1
  have hsz : w.heap.size + 1 + 1 ≤ W1.heap.size := by rw [← hz]; exact hb1.size
  have hbA : Below W1.heap.size W1 (W1.alloc (.cells #[.slice ta D.secs.length tc, .slice da D.cache.length dc, .int .i64 D.ops, .slice ga D.faults.length gc, .bool false] 31)) := (Below.refl _ _).alloc (Nat.le_refl _) _
  have hk2 := hk.up (Up.ofBelow hbA)
  replace hR := hR.below hbA
  replace hbw := hbw.trans (hbA.mono hbw.size)
  have r0 : (W1.alloc (.cells #[.slice ta D.secs.length tc, .slice da D.cache.length dc, .int .i64 D.ops, .slice ga D.faults.length gc, .bool false] 31)).cell? ⟨w.heap.size + 1, 0, none⟩ = some (.slice none 0 0) := hR.cell 0
  have r1 : (W1.alloc (.cells #[.slice ta D.secs.length tc, .slice da D.cache.length dc, .int .i64 D.ops, .slice ga D.faults.length gc, .bool false] 31)).cell? ⟨w.heap.size + 1, 1, none⟩ = some (.slice none 0 0) := hR.cell 1
  have r2 : (W1.alloc (.cells #[.slice ta D.secs.length tc, .slice da D.cache.length dc, .int .i64 D.ops, .slice ga D.faults.length gc, .bool false] 31)).cell? ⟨w.heap.size + 1, 2, none⟩ = some (.int .i64 0) := hR.cell 2
  have r3 : (W1.alloc (.cells #[.slice ta D.secs.length tc, .slice da D.cache.length dc, .int .i64 D.ops, .slice ga D.faults.length gc, .bool false] 31)).cell? ⟨w.heap.size + 1, 3, none⟩ = some (.slice none 0 0) := hR.cell 3
  have r4 : (W1.alloc (.cells #[.slice ta D.secs.length tc, .slice da D.cache.length dc, .int .i64 D.ops, .slice ga D.faults.length gc, .bool false] 31)).cell? ⟨w.heap.size + 1, 4, none⟩ = some (.bool false) := hR.cell 4
  have z0 := hR.fz 0
  have z1 := hR.fz 1
  have z2 := hR.fz 2
  have z3 := hR.fz 3
  have z4 := hR.fz 4
  have hR9 := ((((hR.set 0 (.slice ta D.secs.length tc)).set 1 (.slice da D.cache.length dc)).set 2 (.int .i64 D.ops)).set 3 (.slice ga D.faults.length gc)).set 4 (.bool false)
  simp only [List.set] at hR9
  have m0 : ((((((W1.alloc (.cells #[.slice ta D.secs.length tc, .slice da D.cache.length dc, .int .i64 D.ops, .slice ga D.faults.length gc, .bool false] 31)).setCell ⟨w.heap.size + 1, 0, none⟩ (.slice ta D.secs.length tc)).setCell ⟨w.heap.size + 1, 1, none⟩ (.slice da D.cache.length dc)).setCell ⟨w.heap.size + 1, 2, none⟩ (.int .i64 D.ops)).setCell ⟨w.heap.size + 1, 3, none⟩ (.slice ga D.faults.length gc)).setCell ⟨w.heap.size + 1, 4, none⟩ (.bool false)).cell? ⟨w.heap.size + 1, 0, none⟩ = some (.slice ta D.secs.length tc) := hR9.cell 0
  have m1 : ((((((W1.alloc (.cells #[.slice ta D.secs.length tc, .slice da D.cache.length dc, .int .i64 D.ops, .slice ga D.faults.length gc, .bool false] 31)).setCell ⟨w.heap.size + 1, 0, none⟩ (.slice ta D.secs.length tc)).setCell ⟨w.heap.size + 1, 1, none⟩ (.slice da D.cache.length dc)).setCell ⟨w.heap.size + 1, 2, none⟩ (.int .i64 D.ops)).setCell ⟨w.heap.size + 1, 3, none⟩ (.slice ga D.faults.length gc)).setCell ⟨w.heap.size + 1, 4, none⟩ (.bool false)).cell? ⟨w.heap.size + 1, 1, none⟩ = some (.slice da D.cache.length dc) := hR9.cell 1
  have m2 : ((((((W1.alloc (.cells #[.slice ta D.secs.length tc, .slice da D.cache.length dc, .int .i64 D.ops, .slice ga D.faults.length gc, .bool false] 31)).setCell ⟨w.heap.size + 1, 0, none⟩ (.slice ta D.secs.length tc)).setCell ⟨w.heap.size + 1, 1, none⟩ (.slice da D.cache.length dc)).setCell ⟨w.heap.size + 1, 2, none⟩ (.int .i64 D.ops)).setCell ⟨w.heap.size + 1, 3, none⟩ (.slice ga D.faults.length gc)).setCell ⟨w.heap.size + 1, 4, none⟩ (.bool false)).cell? ⟨w.heap.size + 1, 2, none⟩ = some (.int .i64 D.ops) := hR9.cell 2
  have m3 : ((((((W1.alloc (.cells #[.slice ta D.secs.length tc, .slice da D.cache.length dc, .int .i64 D.ops, .slice ga D.faults.length gc, .bool false] 31)).setCell ⟨w.heap.size + 1, 0, none⟩ (.slice ta D.secs.length tc)).setCell ⟨w.heap.size + 1, 1, none⟩ (.slice da D.cache.length dc)).setCell ⟨w.heap.size + 1, 2, none⟩ (.int .i64 D.ops)).setCell ⟨w.heap.size + 1, 3, none⟩ (.slice ga D.faults.length gc)).setCell ⟨w.heap.size + 1, 4, none⟩ (.bool false)).cell? ⟨w.heap.size + 1, 3, none⟩ = some (.slice ga D.faults.length gc) := hR9.cell 3
  have m4 : ((((((W1.alloc (.cells #[.slice ta D.secs.length tc, .slice da D.cache.length dc, .int .i64 D.ops, .slice ga D.faults.length gc, .bool false] 31)).setCell ⟨w.heap.size + 1, 0, none⟩ (.slice ta D.secs.length tc)).setCell ⟨w.heap.size + 1, 1, none⟩ (.slice da D.cache.length dc)).setCell ⟨w.heap.size + 1, 2, none⟩ (.int .i64 D.ops)).setCell ⟨w.heap.size + 1, 3, none⟩ (.slice ga D.faults.length gc)).setCell ⟨w.heap.size + 1, 4, none⟩ (.bool false)).cell? ⟨w.heap.size + 1, 4, none⟩ = some (.bool false) := hR9.cell 4
  have UB : Up (w.heap.size + 1 + 1) (W1.alloc (.cells #[.slice ta D.secs.length tc, .slice da D.cache.length dc, .int .i64 D.ops, .slice ga D.faults.length gc, .bool false] 31)) ((((((W1.alloc (.cells #[.slice ta D.secs.length tc, .slice da D.cache.length dc, .int .i64 D.ops, .slice ga D.faults.length gc, .bool false] 31)).setCell ⟨w.heap.size + 1, 0, none⟩ (.slice ta D.secs.length tc)).setCell ⟨w.heap.size + 1, 1, none⟩ (.slice da D.cache.length dc)).setCell ⟨w.heap.size + 1, 2, none⟩ (.int .i64 D.ops)).setCell ⟨w.heap.size + 1, 3, none⟩ (.slice ga D.faults.length gc)).setCell ⟨w.heap.size + 1, 4, none⟩ (.bool false)) := (((Up.set (by omega)).trans (Up.set (by omega))).trans ((Up.set (by omega)).trans (Up.set (by omega)))).trans (Up.set (by omega))
  have hB9 : Below w.heap.size w ((((((W1.alloc (.cells #[.slice ta D.secs.length tc, .slice da D.cache.length dc, .int .i64 D.ops, .slice ga D.faults.length gc, .bool false] 31)).setCell ⟨w.heap.size + 1, 0, none⟩ (.slice ta D.secs.length tc)).setCell ⟨w.heap.size + 1, 1, none⟩ (.slice da D.cache.length dc)).setCell ⟨w.heap.size + 1, 2, none⟩ (.int .i64 D.ops)).setCell ⟨w.heap.size + 1, 3, none⟩ (.slice ga D.faults.length gc)).setCell ⟨w.heap.size + 1, 4, none⟩ (.bool false)) := ((((hbw.setCell (p := ⟨w.heap.size + 1, 0, none⟩) (by simp) _).setCell (p := ⟨w.heap.size + 1, 1, none⟩) (by simp) _).setCell (p := ⟨w.heap.size + 1, 2, none⟩) (by simp) _).setCell (p := ⟨w.heap.size + 1, 3, none⟩) (by simp) _).setCell (p := ⟨w.heap.size + 1, 4, none⟩) (by simp) _
  obtain ⟨a1, a2, a3, a4, a5, a6, b1, b2, e9, k9⟩ := KOwn.turned false hk2 UB
  have HR : Hid (KOwn ((((((W1.alloc (.cells #[.slice ta D.secs.length tc, .slice da D.cache.length dc, .int .i64 D.ops, .slice ga D.faults.length gc, .bool false] 31)).setCell ⟨w.heap.size + 1, 0, none⟩ (.slice ta D.secs.length tc)).setCell ⟨w.heap.size + 1, 1, none⟩ (.slice da D.cache.length dc)).setCell ⟨w.heap.size + 1, 2, none⟩ (.int .i64 D.ops)).setCell ⟨w.heap.size + 1, 3, none⟩ (.slice ga D.faults.length gc)).setCell ⟨w.heap.size + 1, 4, none⟩ (.bool false)) w.heap.size (.agg #[.slice ta D.secs.length tc, .slice da D.cache.length dc, .int .i64 D.ops, .slice ga D.faults.length gc, .bool false]) { D with down := false } ∧ Below w.heap.size w ((((((W1.alloc (.cells #[.slice ta D.secs.length tc, .slice da D.cache.length dc, .int .i64 D.ops, .slice ga D.faults.length gc, .bool false] 31)).setCell ⟨w.heap.size + 1, 0, none⟩ (.slice ta D.secs.length tc)).setCell ⟨w.heap.size + 1, 1, none⟩ (.slice da D.cache.length dc)).setCell ⟨w.heap.size + 1, 2, none⟩ (.int .i64 D.ops)).setCell ⟨w.heap.size + 1, 3, none⟩ (.slice ga D.faults.length gc)).setCell ⟨w.heap.size + 1, 4, none⟩ (.bool false))) :=
    ⟨⟨a1, a2, a3, a4, a5, a6, b1, b2, e9, ⟨k9.sle, k9.snil, k9.cle, k9.cnil, k9.fle, k9.fnil, k9.ns, k9.nc, k9.secs.mono (by omega), k9.cache.mono (by omega), k9.faults.mono (by omega), k9.bytes.mono (by omega)⟩⟩, hB9⟩
  clear hR9 hR hk2 hk UB hB9 k9 e9 hbel hbw hb1 hS hA hbA
  go_wp2
  refine bodyPost_ret (v := .agg #[.slice ta D.secs.length tc, .slice da D.cache.length dc, .int .i64 D.ops, .slice ga D.faults.length gc, .bool false]) (by simp [results, Try.results9, go_sem, m0, m1, m2, m3, m4]) rfl ⟨_, rfl, HR.out.1, HR.out.2⟩

end Go.Proofs.Ytagjgnephaaehaa
