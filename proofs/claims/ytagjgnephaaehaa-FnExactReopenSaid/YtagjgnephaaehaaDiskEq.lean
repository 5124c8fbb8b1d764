/-
  Disks that read alike are alike, as the law holds them against each other.
-/
import Derived.Test.YtagjgnephaaehaaDiskSize
import Derived.Test.YtagjgnephaaehaaEqBytes
import Derived.Deep.LoopGhost
import Derived.Deep.RegionHeld3
namespace Go.Proofs.Ytagjgnephaaehaa
open Go.RowKit
set_option maxRecDepth 4000

/-- Two variables of five cells, one behind the other. -/
theorem box55 {w wr : World} {T U : TypeId} {x0 x1 x2 x3 x4 y0 y1 y2 y3 y4 : Value} (h : Below (w.heap.size + 1 + 1) ((w.alloc (.cells #[x0, x1, x2, x3, x4] T)).alloc (.cells #[y0, y1, y2, y3, y4] U)) wr) :
    (wr.cell? ⟨w.heap.size, 0, none⟩ = some x0 ∧ wr.cell? ⟨w.heap.size, 1, none⟩ = some x1 ∧ wr.cell? ⟨w.heap.size, 2, none⟩ = some x2 ∧ wr.cell? ⟨w.heap.size, 3, none⟩ = some x3 ∧ wr.cell? ⟨w.heap.size, 4, none⟩ = some x4)
    ∧ (wr.cell? ⟨w.heap.size + 1, 0, none⟩ = some y0 ∧ wr.cell? ⟨w.heap.size + 1, 1, none⟩ = some y1 ∧ wr.cell? ⟨w.heap.size + 1, 2, none⟩ = some y2 ∧ wr.cell? ⟨w.heap.size + 1, 3, none⟩ = some y3 ∧ wr.cell? ⟨w.heap.size + 1, 4, none⟩ = some y4) := by
  refine ⟨⟨?_, ?_, ?_, ?_, ?_⟩, ?_, ?_, ?_, ?_, ?_⟩
  all_goals (rw [h.cell (by first | (simp; done) | (simp; omega))]; simp [go_sem])
theorem box55_below {w wr : World} {o p : Obj} (h : Below (w.heap.size + 1 + 1) ((w.alloc o).alloc p) wr) : Below w.heap.size w wr ∧ w.heap.size + 2 ≤ wr.heap.size := by
  refine ⟨(((Below.refl _ _).alloc (Nat.le_refl _) _).alloc (by simp) _).trans (h.mono (by omega)), ?_⟩
  have := h.size
  simpa using this
theorem box55_on {w wr w' : World} {o p : Obj} (h : Below (w.heap.size + 1 + 1) ((w.alloc o).alloc p) wr) (h' : Below wr.heap.size wr w') : Below (w.heap.size + 1 + 1) ((w.alloc o).alloc p) w' := h.trans (h'.mono (box55_below h).2)

set_option maxHeartbeats 1000000 in
theorem eqFault_same (c d f : Int) (w : World) :
    Calls Try.prog 49 #[.agg #[.int .i64 c, .int .i64 d, .int .i64 f], .agg #[.int .i64 c, .int .i64 d, .int .i64 f]] w fun e w' => e = .returned (.bool true) ∧ Below w.heap.size w w' := by
  have e1 : (c != c) = false := bne_self_eq_false _
  have e2 : (d != d) = false := bne_self_eq_false _
  have e3 : (f != f) = false := bne_self_eq_false _
  go_enter Try.func49, Try.ntmps49
  go_wp2
  go_ret
  refine ⟨rfl, ?_⟩
  repeat (first | exact Below.refl _ _ | refine Below.alloc ?_ (by simp <;> omega) _ | refine Below.drew ?_)
set_option maxHeartbeats 1000000 in
theorem eqWrite_same (x : Int) (a1 a2 : Option Addr) (n c1 c2 : Nat) (f : Nat → Int) (w : World) (h1 : View w a1 n c1 f) (h2 : View w a2 n c2 f) (hn : n ≤ 1048576) :
    Calls Try.prog 48 #[.agg #[.int .i64 x, .slice a1 n c1], .agg #[.int .i64 x, .slice a2 n c2]] w fun e w' => e = .returned (.bool true) ∧ Below w.heap.size w w' := by
  have e1 : (x != x) = false := bne_self_eq_false _
  have hb0 : Below w.heap.size w ((w.alloc (.cells #[.int .i64 x, .slice a1 n c1] 52)).alloc (.cells #[.int .i64 x, .slice a2 n c2] 52)) := ((Below.refl _ _).alloc (Nat.le_refl _) _).alloc (by simp) _
  have hV := eqByteS_same a1 a2 n c1 c2 f f _ (h1.below hb0) (h2.below hb0) (by omega) (fun _ _ => rfl)
  clear h1 h2
  go_enter Try.func48, Try.ntmps48
  go_wp2_with fail
  refine hV.mono ?_
  rintro e w1 ⟨rfl, hb1⟩
  have HB : Hid (Below w.heap.size w w1) := hb0.trans (hb1.mono (by simp; omega))
  clear hV hb1 hb0
  go_wp2
  go_ret
  exact ⟨rfl, HB.out⟩

set_option maxHeartbeats 2000000 in
theorem eqByteSS_same (a1 a2 : Option Addr) (c1 c2 : Nat) (l : List (List Int)) (w : World) (h1 : SView w a1 c1 l) (h2 : SView w a2 c2 l) (hn : l.length ≤ 1048576) (hf : ∀ i (h : i < l.length), (l[i]).length ≤ 1048576) :
    Calls Try.prog 25 #[.slice a1 l.length c1, .slice a2 l.length c2] w fun e w' => e = .returned (.bool true) ∧ Below w.heap.size w w' := by
  go_enter Try.func25, Try.ntmps25
  go_wp2
  go_loopg [5] l.length (fun q i wr => ∃ k : Nat, k ≤ l.length ∧ q = l.length - k ∧ i = .int .i64 k ∧ Below w.heap.size w wr)
  case atStart => exact ⟨0, Nat.zero_le _, rfl, rfl, Below.refl _ _⟩
  case round =>
    obtain ⟨k, hk, rfl, rfl, hB⟩ := hrel
    by_cases hlt : k < l.length
    · obtain ⟨b1, o1, a3, c3, rfl, hb1, x0, v1, -⟩ := sview_at (sview_below h1 hB) hlt
      obtain ⟨b2, o2, a4, c4, rfl, hb2, y0, v2, -⟩ := sview_at (sview_below h2 hB) hlt
      have hf1 := hf k hlt
      obtain ⟨p1, hp1⟩ := hidEx (bf l[k])
      rw [hp1.out] at v1 v2
      obtain ⟨p0, hp0⟩ := hidEx (l[k]).length
      rw [hp0.out] at x0 y0 v1 v2 hf1
      have hkz : (k : Int) < (l.length : Int) := by omega
      have hV := fun W (hb : Below wr.heap.size wr W) => eqByteS_same a3 a4 p0 c3 c4 p1 p1 W (v1.below hb) (v2.below hb) (by omega) (fun _ _ => rfl)
      have HWK : Hid (∀ W, Below wr.heap.size wr W → (W.cell? ⟨b1, o1 + k, none⟩ = some (.slice a3 p0 c3)) ∧ (W.cell? ⟨b2, o2 + k, none⟩ = some (.slice a4 p0 c4))) := by
        intro W hb
        refine ⟨?_, ?_⟩ <;> (rw [hb.cell (by first | exact hb1 | exact hb2)]; assumption)
      clear h1 h2 hf v1 v2
      go_wp2_with fail
      go_region_held3 (fun W => (W.cell? ⟨b1, o1 + k, none⟩ = some (.slice a3 p0 c3)) ∧ (W.cell? ⟨b2, o2 + k, none⟩ = some (.slice a4 p0 c4))) (first | assumption | go_keep) (first | (go_at_call 47; refine (hV _ (by repeat (first | exact Below.refl _ _ | refine Below.drew ?_))).mono ?_; rintro e w2 ⟨rfl, hB2⟩; have hcells : (w2.cell? ⟨b1, o1 + k, none⟩ = some (.slice a3 p0 c3)) ∧ (w2.cell? ⟨b2, o2 + k, none⟩ = some (.slice a4 p0 c4)) := HWK.out _ (Below.trans (by repeat (first | exact Below.refl _ _ | refine Below.drew ?_)) hB2)))
      all_goals
        have hB3 : Hid (Below w.heap.size w w2) := hB.trans (Below.trans (by repeat (first | exact Below.refl _ _ | refine Below.drew ?_)) (hB2.mono (by have := hB.size; exact this)))
        clear hcells HWK hV
        go_wp2
        go_roundg (l.length - (k + 1))
        case measure => omega
        case rel => exact ⟨k + 1, by omega, rfl, by go_num, by first | exact hB3.out | exact hB3.out.drew⟩
    · clear h1 h2
      go_wp2
      go_ret
      exact ⟨rfl, hB⟩

set_option maxHeartbeats 2000000 in
theorem eqFaultS_same (a1 a2 : Option Addr) (c1 c2 : Nat) (l : List PFault) (w : World) (h1 : FView w a1 c1 l) (h2 : FView w a2 c2 l) (hn : l.length ≤ 1048576) :
    Calls Try.prog 27 #[.slice a1 l.length c1, .slice a2 l.length c2] w fun e w' => e = .returned (.bool true) ∧ Below w.heap.size w w' := by
  go_enter Try.func27, Try.ntmps27
  go_wp2
  go_loopg [5] l.length (fun q i wr => ∃ k : Nat, k ≤ l.length ∧ q = l.length - k ∧ i = .int .i64 k ∧ Below w.heap.size w wr)
  case atStart => exact ⟨0, Nat.zero_le _, rfl, rfl, Below.refl _ _⟩
  case round =>
    obtain ⟨k, hk, rfl, rfl, hB⟩ := hrel
    by_cases hlt : k < l.length
    · obtain ⟨b1, o1, rfl, hb1, x0, x1, x2⟩ := fview_at (fview_below h1 hB) hlt
      obtain ⟨b2, o2, rfl, hb2, y0, y1, y2⟩ := fview_at (fview_below h2 hB) hlt
      obtain ⟨p0, hp0⟩ := hidEx (l[k]).pos
      obtain ⟨p1, hp1⟩ := hidEx (l[k]).keep
      obtain ⟨p2, hp2⟩ := hidEx (l[k]).cut
      rw [hp0.out] at x0 y0
      rw [hp1.out] at x1 y1
      rw [hp2.out] at x2 y2
      have hkz : (k : Int) < (l.length : Int) := by omega
      have hV := fun W (_ : Below wr.heap.size wr W) => eqFault_same p0 p1 p2 W
      have HWK : Hid (∀ W, Below wr.heap.size wr W → (W.cell? ⟨b1, o1 + k * 3, none⟩ = some (.int .i64 p0) ∧ W.cell? ⟨b1, o1 + k * 3 + 1, none⟩ = some (.int .i64 p1) ∧ W.cell? ⟨b1, o1 + k * 3 + 2, none⟩ = some (.int .i64 p2)) ∧ (W.cell? ⟨b2, o2 + k * 3, none⟩ = some (.int .i64 p0) ∧ W.cell? ⟨b2, o2 + k * 3 + 1, none⟩ = some (.int .i64 p1) ∧ W.cell? ⟨b2, o2 + k * 3 + 2, none⟩ = some (.int .i64 p2))) := by
        intro W hb
        refine ⟨⟨?_, ?_, ?_⟩, ⟨?_, ?_, ?_⟩⟩ <;> (rw [hb.cell (by first | exact hb1 | exact hb2)]; assumption)
      clear h1 h2
      go_wp2_with fail
      go_region_held3 (fun W => (W.cell? ⟨b1, o1 + k * 3, none⟩ = some (.int .i64 p0) ∧ W.cell? ⟨b1, o1 + k * 3 + 1, none⟩ = some (.int .i64 p1) ∧ W.cell? ⟨b1, o1 + k * 3 + 2, none⟩ = some (.int .i64 p2)) ∧ (W.cell? ⟨b2, o2 + k * 3, none⟩ = some (.int .i64 p0) ∧ W.cell? ⟨b2, o2 + k * 3 + 1, none⟩ = some (.int .i64 p1) ∧ W.cell? ⟨b2, o2 + k * 3 + 2, none⟩ = some (.int .i64 p2))) (first | assumption | go_keep) (first | (go_at_call 49; refine (hV _ (by repeat (first | exact Below.refl _ _ | refine Below.drew ?_))).mono ?_; rintro e w2 ⟨rfl, hB2⟩; have hcells : (w2.cell? ⟨b1, o1 + k * 3, none⟩ = some (.int .i64 p0) ∧ w2.cell? ⟨b1, o1 + k * 3 + 1, none⟩ = some (.int .i64 p1) ∧ w2.cell? ⟨b1, o1 + k * 3 + 2, none⟩ = some (.int .i64 p2)) ∧ (w2.cell? ⟨b2, o2 + k * 3, none⟩ = some (.int .i64 p0) ∧ w2.cell? ⟨b2, o2 + k * 3 + 1, none⟩ = some (.int .i64 p1) ∧ w2.cell? ⟨b2, o2 + k * 3 + 2, none⟩ = some (.int .i64 p2)) := HWK.out _ (Below.trans (by repeat (first | exact Below.refl _ _ | refine Below.drew ?_)) hB2)))
      all_goals
        have hB3 : Hid (Below w.heap.size w w2) := hB.trans (Below.trans (by repeat (first | exact Below.refl _ _ | refine Below.drew ?_)) (hB2.mono (by have := hB.size; exact this)))
        clear hcells HWK hV
        go_wp2
        go_roundg (l.length - (k + 1))
        case measure => omega
        case rel => exact ⟨k + 1, by omega, rfl, by go_num, by first | exact hB3.out | exact hB3.out.drew⟩
    · clear h1 h2
      go_wp2
      go_ret
      exact ⟨rfl, hB⟩

set_option maxHeartbeats 2000000 in
theorem eqWriteS_same (a1 a2 : Option Addr) (c1 c2 : Nat) (l : List (Int × List Int)) (w : World) (h1 : WView w a1 c1 l) (h2 : WView w a2 c2 l) (hn : l.length ≤ 1048576) (hf : ∀ i (h : i < l.length), (l[i]).2.length ≤ 1048576) :
    Calls Try.prog 26 #[.slice a1 l.length c1, .slice a2 l.length c2] w fun e w' => e = .returned (.bool true) ∧ Below w.heap.size w w' := by
  go_enter Try.func26, Try.ntmps26
  go_wp2
  go_loopg [5] l.length (fun q i wr => ∃ k : Nat, k ≤ l.length ∧ q = l.length - k ∧ i = .int .i64 k ∧ Below w.heap.size w wr)
  case atStart => exact ⟨0, Nat.zero_le _, rfl, rfl, Below.refl _ _⟩
  case round =>
    obtain ⟨k, hk, rfl, rfl, hB⟩ := hrel
    by_cases hlt : k < l.length
    · obtain ⟨b1, o1, a3, c3, rfl, hb1, x0, x1, v1, -⟩ := wview_at (wview_below h1 hB) hlt
      obtain ⟨b2, o2, a4, c4, rfl, hb2, y0, y1, v2, -⟩ := wview_at (wview_below h2 hB) hlt
      have hf1 := hf k hlt
      obtain ⟨p2, hp2⟩ := hidEx (l[k]).1
      rw [hp2.out] at x0 y0
      obtain ⟨p1, hp1⟩ := hidEx (bf (l[k]).2)
      rw [hp1.out] at v1 v2
      obtain ⟨p0, hp0⟩ := hidEx (l[k]).2.length
      rw [hp0.out] at x1 y1 v1 v2 hf1
      have hkz : (k : Int) < (l.length : Int) := by omega
      have hV := fun W (hb : Below wr.heap.size wr W) => eqWrite_same p2 a3 a4 p0 c3 c4 p1 W (v1.below hb) (v2.below hb) (by omega)
      have HWK : Hid (∀ W, Below wr.heap.size wr W → (W.cell? ⟨b1, o1 + k * 2, none⟩ = some (.int .i64 p2) ∧ W.cell? ⟨b1, o1 + k * 2 + 1, none⟩ = some (.slice a3 p0 c3)) ∧ (W.cell? ⟨b2, o2 + k * 2, none⟩ = some (.int .i64 p2) ∧ W.cell? ⟨b2, o2 + k * 2 + 1, none⟩ = some (.slice a4 p0 c4))) := by
        intro W hb
        refine ⟨⟨?_, ?_⟩, ⟨?_, ?_⟩⟩ <;> (rw [hb.cell (by first | exact hb1 | exact hb2)]; assumption)
      clear h1 h2 hf v1 v2
      go_wp2_with fail
      go_region_held3 (fun W => (W.cell? ⟨b1, o1 + k * 2, none⟩ = some (.int .i64 p2) ∧ W.cell? ⟨b1, o1 + k * 2 + 1, none⟩ = some (.slice a3 p0 c3)) ∧ (W.cell? ⟨b2, o2 + k * 2, none⟩ = some (.int .i64 p2) ∧ W.cell? ⟨b2, o2 + k * 2 + 1, none⟩ = some (.slice a4 p0 c4))) (first | assumption | go_keep) (first | (go_at_call 48; refine (hV _ (by repeat (first | exact Below.refl _ _ | refine Below.drew ?_))).mono ?_; rintro e w2 ⟨rfl, hB2⟩; have hcells : (w2.cell? ⟨b1, o1 + k * 2, none⟩ = some (.int .i64 p2) ∧ w2.cell? ⟨b1, o1 + k * 2 + 1, none⟩ = some (.slice a3 p0 c3)) ∧ (w2.cell? ⟨b2, o2 + k * 2, none⟩ = some (.int .i64 p2) ∧ w2.cell? ⟨b2, o2 + k * 2 + 1, none⟩ = some (.slice a4 p0 c4)) := HWK.out _ (Below.trans (by repeat (first | exact Below.refl _ _ | refine Below.drew ?_)) hB2)))
      all_goals
        have hB3 : Hid (Below w.heap.size w w2) := hB.trans (Below.trans (by repeat (first | exact Below.refl _ _ | refine Below.drew ?_)) (hB2.mono (by have := hB.size; exact this)))
        clear hcells HWK hV
        go_wp2
        go_roundg (l.length - (k + 1))
        case measure => omega
        case rel => exact ⟨k + 1, by omega, rfl, by go_num, by first | exact hB3.out | exact hB3.out.drew⟩
    · clear h1 h2
      go_wp2
      go_ret
      exact ⟨rfl, hB⟩

set_option maxHeartbeats 2000000 in
theorem eqDisk_same (u v : Value) (D : PDisk) (w : World) (h1 : KView w u D) (h2 : KView w v D) (hf : KFine D) :
    Calls Try.prog 10 #[u, v] w fun e w' => e = .returned (.bool true) ∧ Below w.heap.size w w' := by
  obtain ⟨sa, sc, ca, cc, fa, fc, rfl, hs1, hc1, hf1⟩ := h1.is
  obtain ⟨ta, tc, da, dc, ga, gc, rfl, hs2, hc2, hf2⟩ := h2.is
  clear h1 h2
  have e1 : (D.ops != D.ops) = false := bne_self_eq_false _
  have e2 : (D.down != D.down) = false := bne_self_eq_false _
  have hB0 : Below (w.heap.size + 1 + 1) ((w.alloc (.cells #[.slice sa D.secs.length sc, .slice ca D.cache.length cc, .int .i64 D.ops, .slice fa D.faults.length fc, .bool D.down] 31)).alloc (.cells #[.slice ta D.secs.length tc, .slice da D.cache.length dc, .int .i64 D.ops, .slice ga D.faults.length gc, .bool D.down] 31)) ((w.alloc (.cells #[.slice sa D.secs.length sc, .slice ca D.cache.length cc, .int .i64 D.ops, .slice fa D.faults.length fc, .bool D.down] 31)).alloc (.cells #[.slice ta D.secs.length tc, .slice da D.cache.length dc, .int .i64 D.ops, .slice ga D.faults.length gc, .bool D.down] 31)) := Below.refl _ _
  obtain ⟨hBw0, -⟩ := box55_below hB0
  have hV1 := eqByteSS_same sa ta sc tc D.secs _ (sview_below hs1 hBw0) (sview_below hs2 hBw0) hf.ns (fun i h => hf.sec _ (List.getElem_mem h))
  go_enter Try.func10, Try.ntmps10
  go_wp2_with fail
  refine hV1.mono ?_
  rintro e w1 ⟨rfl, hb1⟩
  have hB1 := box55_on hB0 hb1
  obtain ⟨hBw1, hs1⟩ := box55_below hB1
  obtain ⟨⟨x0, x1, x2, x3, x4⟩, y0, y1, y2, y3, y4⟩ := box55 hB1
  have hV2 := eqWriteS_same ca da cc dc D.cache w1 (wview_below hc1 hBw1) (wview_below hc2 hBw1) hf.nc (fun i h => hf.cache _ (List.getElem_mem h))
  clear hV1 hb1 hB0 hBw0 hs1 hs2
  go_wp2_with fail
  refine hV2.mono ?_
  rintro e w2 ⟨rfl, hb2⟩
  have hB2 := box55_on hB1 hb2
  obtain ⟨hBw2, hs2⟩ := box55_below hB2
  clear x0 x1 x2 x3 x4 y0 y1 y2 y3 y4
  obtain ⟨⟨x0, x1, x2, x3, x4⟩, y0, y1, y2, y3, y4⟩ := box55 hB2
  have hV3 := eqFaultS_same fa ga fc gc D.faults w2 (fview_below hf1 hBw2) (fview_below hf2 hBw2) hf.nf
  clear hV2 hb2 hB1 hBw1 hc1 hc2
  go_wp2_with fail
  refine hV3.mono ?_
  rintro e w3 ⟨rfl, hb3⟩
  have hB3 := box55_on hB2 hb3
  have HB : Hid (Below w.heap.size w w3) := (box55_below hB3).1
  clear x0 x1 x2 x3 x4 y0 y1 y2 y3 y4
  obtain ⟨⟨x0, x1, x2, x3, x4⟩, y0, y1, y2, y3, y4⟩ := box55 hB3
  clear hV3 hb3 hB2 hBw2 hf1 hf2 hf hB3
  go_wp2
  go_ret
  exact ⟨rfl, HB.out⟩
end Go.Proofs.Ytagjgnephaaehaa
