/-
  Together: DiskEq, DiskMark2, DiskMark3
-/
import Derived.Test.YtphipmhibegbnaaPkR3
import Derived.Test.YtphipmhibegbnaaPkR2
import Derived.Deep.LoopGhost
import Derived.Deep.RegionHeld3
import Derived.Test.YtphipmhibegbnaaPkR4
/-
  Disks that read alike are alike, as the law holds them against each other.
-/
namespace Go.Proofs.Ytphipmhibegbnaa
open Go.RowKit
set_option maxRecDepth 4000

/-- Two variables of five cells, one behind the other. -/
theorem box55 {w wr : World} {T U : TypeId} {x0 x1 x2 x3 x4 y0 y1 y2 y3 y4 : Value} (h : Below (w.heap.size + 1 + 1) ((w.alloc (.cells #[x0, x1, x2, x3, x4] T)).alloc (.cells #[y0, y1, y2, y3, y4] U)) wr) :
    (wr.cell? ⟨w.heap.size, 0, none⟩ = some x0 ∧ wr.cell? ⟨w.heap.size, 1, none⟩ = some x1 ∧ wr.cell? ⟨w.heap.size, 2, none⟩ = some x2 ∧ wr.cell? ⟨w.heap.size, 3, none⟩ = some x3 ∧ wr.cell? ⟨w.heap.size, 4, none⟩ = some x4)
    ∧ (wr.cell? ⟨w.heap.size + 1, 0, none⟩ = some y0 ∧ wr.cell? ⟨w.heap.size + 1, 1, none⟩ = some y1 ∧ wr.cell? ⟨w.heap.size + 1, 2, none⟩ = some y2 ∧ wr.cell? ⟨w.heap.size + 1, 3, none⟩ = some y3 ∧ wr.cell? ⟨w.heap.size + 1, 4, none⟩ = some y4) := by
  refine ⟨⟨?_, ?_, ?_, ?_, ?_⟩, ?_, ?_, ?_, ?_, ?_⟩
  all_goals (rw [h.cell (by first | (simp; done) | (simp; omega))]; simp [go_sem])
theorem box55_below {w wr : World} {o p : Obj} (h : Below (w.heap.size + 1 + 1) ((w.alloc o).alloc p) wr) : Below w.heap.size w wr ∧ w.heap.size + 2 ≤ wr.heap.size := by
  refine ⟨(((Below.refl _ _).alloc (Nat.le_refl _) _).alloc (by simp) _).trans (h.mono (by omega)), ?_⟩
  have := h.size
  simpa using this
theorem box55_on {w wr w' : World} {o p : Obj} (h : Below (w.heap.size + 1 + 1) ((w.alloc o).alloc p) wr) (h' : Below wr.heap.size wr w') : Below (w.heap.size + 1 + 1) ((w.alloc o).alloc p) w' := h.trans (h'.mono (box55_below h).2)

set_option maxHeartbeats 1000000 in
theorem eqFault_same (c d f : Int) (w : World) :
    Calls Try.prog 81 #[.agg #[.int .i64 c, .int .i64 d, .int .i64 f], .agg #[.int .i64 c, .int .i64 d, .int .i64 f]] w fun e w' => e = .returned (.bool true) ∧ Below w.heap.size w w' := by
  have e1 : (c != c) = false := bne_self_eq_false _
  have e2 : (d != d) = false := bne_self_eq_false _
  have e3 : (f != f) = false := bne_self_eq_false _
  go_enter Try.func81, Try.ntmps81
  go_wp2
  go_ret
  refine ⟨rfl, ?_⟩
  repeat (first | exact Below.refl _ _ | refine Below.alloc ?_ (by simp <;> omega) _ | refine Below.drew ?_)
set_option maxHeartbeats 1000000 in
theorem eqWrite_same (x : Int) (a1 a2 : Option Addr) (n c1 c2 : Nat) (f : Nat → Int) (w : World) (h1 : View w a1 n c1 f) (h2 : View w a2 n c2 f) (hn : n ≤ 1048576) :
    Calls Try.prog 80 #[.agg #[.int .i64 x, .slice a1 n c1], .agg #[.int .i64 x, .slice a2 n c2]] w fun e w' => e = .returned (.bool true) ∧ Below w.heap.size w w' := by
  have e1 : (x != x) = false := bne_self_eq_false _
  have hb0 : Below w.heap.size w ((w.alloc (.cells #[.int .i64 x, .slice a1 n c1] 59)).alloc (.cells #[.int .i64 x, .slice a2 n c2] 59)) := ((Below.refl _ _).alloc (Nat.le_refl _) _).alloc (by simp) _
  have hV := eqByteS_same a1 a2 n c1 c2 f f _ (h1.below hb0) (h2.below hb0) (by omega) (fun _ _ => rfl)
  clear h1 h2
  go_enter Try.func80, Try.ntmps80
  go_wp2_with fail
  refine hV.mono ?_
  rintro e w1 ⟨rfl, hb1⟩
  have HB : Hid (Below w.heap.size w w1) := hb0.trans (hb1.mono (by simp; omega))
  clear hV hb1 hb0
  go_wp2
  go_ret
  exact ⟨rfl, HB.out⟩

set_option maxHeartbeats 2000000 in
theorem eqByteSS_same (a1 a2 : Option Addr) (c1 c2 : Nat) (l : List (List Int)) (w : World) (h1 : SView w a1 c1 l) (h2 : SView w a2 c2 l) (hn : l.length ≤ 1048576) (hf : ∀ i (h : i < l.length), (l[i]).length ≤ 1048576) :
    Calls Try.prog 40 #[.slice a1 l.length c1, .slice a2 l.length c2] w fun e w' => e = .returned (.bool true) ∧ Below w.heap.size w w' := by
  go_enter Try.func40, Try.ntmps40
  go_wp2
  go_loopg [5] l.length (fun q i wr => ∃ k : Nat, k ≤ l.length ∧ q = l.length - k ∧ i = .int .i64 k ∧ Below w.heap.size w wr)
  case atStart => exact ⟨0, Nat.zero_le _, rfl, rfl, Below.refl _ _⟩
  case round =>
    obtain ⟨k, hk, rfl, rfl, hB⟩ := hrel
    by_cases hlt : k < l.length
    · obtain ⟨b1, o1, a3, c3, rfl, hb1, x0, v1, -⟩ := sview_at (sview_below h1 hB) hlt
      obtain ⟨b2, o2, a4, c4, rfl, hb2, y0, v2, -⟩ := sview_at (sview_below h2 hB) hlt
      have hf1 := hf k hlt
      obtain ⟨p1, hp1⟩ := hidEx (bf l[k])
      rw [hp1.out] at v1 v2
      obtain ⟨p0, hp0⟩ := hidEx (l[k]).length
      rw [hp0.out] at x0 y0 v1 v2 hf1
      have hkz : (k : Int) < (l.length : Int) := by omega
      have hV := fun W (hb : Below wr.heap.size wr W) => eqByteS_same a3 a4 p0 c3 c4 p1 p1 W (v1.below hb) (v2.below hb) (by omega) (fun _ _ => rfl)
      have HWK : Hid (∀ W, Below wr.heap.size wr W → (W.cell? ⟨b1, o1 + k, none⟩ = some (.slice a3 p0 c3)) ∧ (W.cell? ⟨b2, o2 + k, none⟩ = some (.slice a4 p0 c4))) := by
        intro W hb
        refine ⟨?_, ?_⟩ <;> (rw [hb.cell (by first | exact hb1 | exact hb2)]; assumption)
      clear h1 h2 hf v1 v2
      go_wp2_with fail
      go_region_held3 (fun W => (W.cell? ⟨b1, o1 + k, none⟩ = some (.slice a3 p0 c3)) ∧ (W.cell? ⟨b2, o2 + k, none⟩ = some (.slice a4 p0 c4))) (first | assumption | go_keep) (first | (go_at_call 13; refine (hV _ (by repeat (first | exact Below.refl _ _ | refine Below.drew ?_))).mono ?_; rintro e w2 ⟨rfl, hB2⟩; have hcells : (w2.cell? ⟨b1, o1 + k, none⟩ = some (.slice a3 p0 c3)) ∧ (w2.cell? ⟨b2, o2 + k, none⟩ = some (.slice a4 p0 c4)) := HWK.out _ (Below.trans (by repeat (first | exact Below.refl _ _ | refine Below.drew ?_)) hB2)))
      all_goals
        have hB3 : Hid (Below w.heap.size w w2) := hB.trans (Below.trans (by repeat (first | exact Below.refl _ _ | refine Below.drew ?_)) (hB2.mono (by have := hB.size; exact this)))
        clear hcells HWK hV
        go_wp2
        go_roundg (l.length - (k + 1))
        case measure => omega
        case rel => exact ⟨k + 1, by omega, rfl, by go_num, by first | exact hB3.out | exact hB3.out.drew⟩
    · clear h1 h2
      go_wp2
      go_ret
      exact ⟨rfl, hB⟩

set_option maxHeartbeats 2000000 in
theorem eqFaultS_same (a1 a2 : Option Addr) (c1 c2 : Nat) (l : List PFault) (w : World) (h1 : FView w a1 c1 l) (h2 : FView w a2 c2 l) (hn : l.length ≤ 1048576) :
    Calls Try.prog 42 #[.slice a1 l.length c1, .slice a2 l.length c2] w fun e w' => e = .returned (.bool true) ∧ Below w.heap.size w w' := by
  go_enter Try.func42, Try.ntmps42
  go_wp2
  go_loopg [5] l.length (fun q i wr => ∃ k : Nat, k ≤ l.length ∧ q = l.length - k ∧ i = .int .i64 k ∧ Below w.heap.size w wr)
  case atStart => exact ⟨0, Nat.zero_le _, rfl, rfl, Below.refl _ _⟩
  case round =>
    obtain ⟨k, hk, rfl, rfl, hB⟩ := hrel
    by_cases hlt : k < l.length
    · obtain ⟨b1, o1, rfl, hb1, x0, x1, x2⟩ := fview_at (fview_below h1 hB) hlt
      obtain ⟨b2, o2, rfl, hb2, y0, y1, y2⟩ := fview_at (fview_below h2 hB) hlt
      obtain ⟨p0, hp0⟩ := hidEx (l[k]).pos
      obtain ⟨p1, hp1⟩ := hidEx (l[k]).keep
      obtain ⟨p2, hp2⟩ := hidEx (l[k]).cut
      rw [hp0.out] at x0 y0
      rw [hp1.out] at x1 y1
      rw [hp2.out] at x2 y2
      have hkz : (k : Int) < (l.length : Int) := by omega
      have hV := fun W (_ : Below wr.heap.size wr W) => eqFault_same p0 p1 p2 W
      have HWK : Hid (∀ W, Below wr.heap.size wr W → (W.cell? ⟨b1, o1 + k * 3, none⟩ = some (.int .i64 p0) ∧ W.cell? ⟨b1, o1 + k * 3 + 1, none⟩ = some (.int .i64 p1) ∧ W.cell? ⟨b1, o1 + k * 3 + 2, none⟩ = some (.int .i64 p2)) ∧ (W.cell? ⟨b2, o2 + k * 3, none⟩ = some (.int .i64 p0) ∧ W.cell? ⟨b2, o2 + k * 3 + 1, none⟩ = some (.int .i64 p1) ∧ W.cell? ⟨b2, o2 + k * 3 + 2, none⟩ = some (.int .i64 p2))) := by
        intro W hb
        refine ⟨⟨?_, ?_, ?_⟩, ⟨?_, ?_, ?_⟩⟩ <;> (rw [hb.cell (by first | exact hb1 | exact hb2)]; assumption)
      clear h1 h2
      go_wp2_with fail
      go_region_held3 (fun W => (W.cell? ⟨b1, o1 + k * 3, none⟩ = some (.int .i64 p0) ∧ W.cell? ⟨b1, o1 + k * 3 + 1, none⟩ = some (.int .i64 p1) ∧ W.cell? ⟨b1, o1 + k * 3 + 2, none⟩ = some (.int .i64 p2)) ∧ (W.cell? ⟨b2, o2 + k * 3, none⟩ = some (.int .i64 p0) ∧ W.cell? ⟨b2, o2 + k * 3 + 1, none⟩ = some (.int .i64 p1) ∧ W.cell? ⟨b2, o2 + k * 3 + 2, none⟩ = some (.int .i64 p2))) (first | assumption | go_keep) (first | (go_at_call 81; refine (hV _ (by repeat (first | exact Below.refl _ _ | refine Below.drew ?_))).mono ?_; rintro e w2 ⟨rfl, hB2⟩; have hcells : (w2.cell? ⟨b1, o1 + k * 3, none⟩ = some (.int .i64 p0) ∧ w2.cell? ⟨b1, o1 + k * 3 + 1, none⟩ = some (.int .i64 p1) ∧ w2.cell? ⟨b1, o1 + k * 3 + 2, none⟩ = some (.int .i64 p2)) ∧ (w2.cell? ⟨b2, o2 + k * 3, none⟩ = some (.int .i64 p0) ∧ w2.cell? ⟨b2, o2 + k * 3 + 1, none⟩ = some (.int .i64 p1) ∧ w2.cell? ⟨b2, o2 + k * 3 + 2, none⟩ = some (.int .i64 p2)) := HWK.out _ (Below.trans (by repeat (first | exact Below.refl _ _ | refine Below.drew ?_)) hB2)))
      all_goals
        have hB3 : Hid (Below w.heap.size w w2) := hB.trans (Below.trans (by repeat (first | exact Below.refl _ _ | refine Below.drew ?_)) (hB2.mono (by have := hB.size; exact this)))
        clear hcells HWK hV
        go_wp2
        go_roundg (l.length - (k + 1))
        case measure => omega
        case rel => exact ⟨k + 1, by omega, rfl, by go_num, by first | exact hB3.out | exact hB3.out.drew⟩
    · clear h1 h2
      go_wp2
      go_ret
      exact ⟨rfl, hB⟩

set_option maxHeartbeats 2000000 in
theorem eqWriteS_same (a1 a2 : Option Addr) (c1 c2 : Nat) (l : List (Int × List Int)) (w : World) (h1 : WView w a1 c1 l) (h2 : WView w a2 c2 l) (hn : l.length ≤ 1048576) (hf : ∀ i (h : i < l.length), (l[i]).2.length ≤ 1048576) :
    Calls Try.prog 41 #[.slice a1 l.length c1, .slice a2 l.length c2] w fun e w' => e = .returned (.bool true) ∧ Below w.heap.size w w' := by
  go_enter Try.func41, Try.ntmps41
  go_wp2
  go_loopg [5] l.length (fun q i wr => ∃ k : Nat, k ≤ l.length ∧ q = l.length - k ∧ i = .int .i64 k ∧ Below w.heap.size w wr)
  case atStart => exact ⟨0, Nat.zero_le _, rfl, rfl, Below.refl _ _⟩
  case round =>
    obtain ⟨k, hk, rfl, rfl, hB⟩ := hrel
    by_cases hlt : k < l.length
    · obtain ⟨b1, o1, a3, c3, rfl, hb1, x0, x1, v1, -⟩ := wview_at (wview_below h1 hB) hlt
      obtain ⟨b2, o2, a4, c4, rfl, hb2, y0, y1, v2, -⟩ := wview_at (wview_below h2 hB) hlt
      have hf1 := hf k hlt
      obtain ⟨p2, hp2⟩ := hidEx (l[k]).1
      rw [hp2.out] at x0 y0
      obtain ⟨p1, hp1⟩ := hidEx (bf (l[k]).2)
      rw [hp1.out] at v1 v2
      obtain ⟨p0, hp0⟩ := hidEx (l[k]).2.length
      rw [hp0.out] at x1 y1 v1 v2 hf1
      have hkz : (k : Int) < (l.length : Int) := by omega
      have hV := fun W (hb : Below wr.heap.size wr W) => eqWrite_same p2 a3 a4 p0 c3 c4 p1 W (v1.below hb) (v2.below hb) (by omega)
      have HWK : Hid (∀ W, Below wr.heap.size wr W → (W.cell? ⟨b1, o1 + k * 2, none⟩ = some (.int .i64 p2) ∧ W.cell? ⟨b1, o1 + k * 2 + 1, none⟩ = some (.slice a3 p0 c3)) ∧ (W.cell? ⟨b2, o2 + k * 2, none⟩ = some (.int .i64 p2) ∧ W.cell? ⟨b2, o2 + k * 2 + 1, none⟩ = some (.slice a4 p0 c4))) := by
        intro W hb
        refine ⟨⟨?_, ?_⟩, ⟨?_, ?_⟩⟩ <;> (rw [hb.cell (by first | exact hb1 | exact hb2)]; assumption)
      clear h1 h2 hf v1 v2
      go_wp2_with fail
      go_region_held3 (fun W => (W.cell? ⟨b1, o1 + k * 2, none⟩ = some (.int .i64 p2) ∧ W.cell? ⟨b1, o1 + k * 2 + 1, none⟩ = some (.slice a3 p0 c3)) ∧ (W.cell? ⟨b2, o2 + k * 2, none⟩ = some (.int .i64 p2) ∧ W.cell? ⟨b2, o2 + k * 2 + 1, none⟩ = some (.slice a4 p0 c4))) (first | assumption | go_keep) (first | (go_at_call 80; refine (hV _ (by repeat (first | exact Below.refl _ _ | refine Below.drew ?_))).mono ?_; rintro e w2 ⟨rfl, hB2⟩; have hcells : (w2.cell? ⟨b1, o1 + k * 2, none⟩ = some (.int .i64 p2) ∧ w2.cell? ⟨b1, o1 + k * 2 + 1, none⟩ = some (.slice a3 p0 c3)) ∧ (w2.cell? ⟨b2, o2 + k * 2, none⟩ = some (.int .i64 p2) ∧ w2.cell? ⟨b2, o2 + k * 2 + 1, none⟩ = some (.slice a4 p0 c4)) := HWK.out _ (Below.trans (by repeat (first | exact Below.refl _ _ | refine Below.drew ?_)) hB2)))
      all_goals
        have hB3 : Hid (Below w.heap.size w w2) := hB.trans (Below.trans (by repeat (first | exact Below.refl _ _ | refine Below.drew ?_)) (hB2.mono (by have := hB.size; exact this)))
        clear hcells HWK hV
        go_wp2
        go_roundg (l.length - (k + 1))
        case measure => omega
        case rel => exact ⟨k + 1, by omega, rfl, by go_num, by first | exact hB3.out | exact hB3.out.drew⟩
    · clear h1 h2
      go_wp2
      go_ret
      exact ⟨rfl, hB⟩

set_option maxHeartbeats 2000000 in
theorem eqDisk_same (u v : Value) (D : PDisk) (w : World) (h1 : KView w u D) (h2 : KView w v D) (hf : KFine D) :
    Calls Try.prog 14 #[u, v] w fun e w' => e = .returned (.bool true) ∧ Below w.heap.size w w' := by
  obtain ⟨sa, sc, ca, cc, fa, fc, rfl, hs1, hc1, hf1⟩ := h1.is
  obtain ⟨ta, tc, da, dc, ga, gc, rfl, hs2, hc2, hf2⟩ := h2.is
  clear h1 h2
  have e1 : (D.ops != D.ops) = false := bne_self_eq_false _
  have e2 : (D.down != D.down) = false := bne_self_eq_false _
  have hB0 : Below (w.heap.size + 1 + 1) ((w.alloc (.cells #[.slice sa D.secs.length sc, .slice ca D.cache.length cc, .int .i64 D.ops, .slice fa D.faults.length fc, .bool D.down] 34)).alloc (.cells #[.slice ta D.secs.length tc, .slice da D.cache.length dc, .int .i64 D.ops, .slice ga D.faults.length gc, .bool D.down] 34)) ((w.alloc (.cells #[.slice sa D.secs.length sc, .slice ca D.cache.length cc, .int .i64 D.ops, .slice fa D.faults.length fc, .bool D.down] 34)).alloc (.cells #[.slice ta D.secs.length tc, .slice da D.cache.length dc, .int .i64 D.ops, .slice ga D.faults.length gc, .bool D.down] 34)) := Below.refl _ _
  obtain ⟨hBw0, -⟩ := box55_below hB0
  have hV1 := eqByteSS_same sa ta sc tc D.secs _ (sview_below hs1 hBw0) (sview_below hs2 hBw0) hf.ns (fun i h => hf.sec _ (List.getElem_mem h))
  go_enter Try.func14, Try.ntmps14
  go_wp2_with fail
  refine hV1.mono ?_
  rintro e w1 ⟨rfl, hb1⟩
  have hB1 := box55_on hB0 hb1
  obtain ⟨hBw1, hs1⟩ := box55_below hB1
  obtain ⟨⟨x0, x1, x2, x3, x4⟩, y0, y1, y2, y3, y4⟩ := box55 hB1
  have hV2 := eqWriteS_same ca da cc dc D.cache w1 (wview_below hc1 hBw1) (wview_below hc2 hBw1) hf.nc (fun i h => hf.cache _ (List.getElem_mem h))
  clear hV1 hb1 hB0 hBw0 hs1 hs2
  go_wp2_with fail
  refine hV2.mono ?_
  rintro e w2 ⟨rfl, hb2⟩
  have hB2 := box55_on hB1 hb2
  obtain ⟨hBw2, hs2⟩ := box55_below hB2
  clear x0 x1 x2 x3 x4 y0 y1 y2 y3 y4
  obtain ⟨⟨x0, x1, x2, x3, x4⟩, y0, y1, y2, y3, y4⟩ := box55 hB2
  have hV3 := eqFaultS_same fa ga fc gc D.faults w2 (fview_below hf1 hBw2) (fview_below hf2 hBw2) hf.nf
  clear hV2 hb2 hB1 hBw1 hc1 hc2
  go_wp2_with fail
  refine hV3.mono ?_
  rintro e w3 ⟨rfl, hb3⟩
  have hB3 := box55_on hB2 hb3
  have HB : Hid (Below w.heap.size w w3) := (box55_below hB3).1
  clear x0 x1 x2 x3 x4 y0 y1 y2 y3 y4
  obtain ⟨⟨x0, x1, x2, x3, x4⟩, y0, y1, y2, y3, y4⟩ := box55 hB3
  clear hV3 hb3 hB2 hBw2 hf1 hf2 hf hB3
  go_wp2
  go_ret
  exact ⟨rfl, HB.out⟩
end Go.Proofs.Ytphipmhibegbnaa

/-
  The laws' markDisk and heldDisk, walked.
-/
namespace Go.Proofs.Ytphipmhibegbnaa
open Go.RowKit
set_option maxRecDepth 4000

set_option maxHeartbeats 2000000 in
theorem markByteSS_any (a : Option Addr) (cap B H : Nat) (ss cs : List Value) (l ms : List (List Int)) (k : Int) (w : World) (hR : RL 28 w B a ss) (hB : Bs w B (ss ++ cs) (l ++ ms)) (hl : ss.length = l.length) (hH : ∀ v, v ∈ ss → ∀ g, v.ownBlock = some g → g < H) (hn : l.length ≤ 1048576) (hk : 0 ≤ k) (hk1 : k + szS l ≤ 4611686018427387904) :
    Calls Try.prog 43 #[.slice a l.length cap, .int .i64 k] w fun e w' => e = .returned (.int .i64 (k + szS l)) ∧ Bs w' B (ss ++ cs) (l.mapIdx (fS k l) ++ ms) ∧ Out B H w w' ∧ w'.heap.size = w.heap.size ∧ Keep8 w w' := by
  go_enter Try.func43, Try.ntmps43
  go_wp2
  go_loopg [1, 5] l.length (fun q s i wr => ∃ j : Nat, j ≤ l.length ∧ q = l.length - j ∧ s = .int .i64 (k + szS (l.take j)) ∧ i = .int .i64 j ∧ Bs wr B (ss ++ cs) (upto (fS k l) l j ++ ms) ∧ Out B H w wr ∧ wr.heap.size = w.heap.size ∧ Keep8 w wr)
  case atStart => exact ⟨0, Nat.zero_le _, rfl, by simp [szS], rfl, by rw [upto_zero]; exact hB, Out.refl _ _ _, rfl, fun _ _ _ _ _ _ => rfl⟩
  case round =>
    clear hB
    obtain ⟨j, hj, rfl, rfl, rfl, hB, hO, hsz, ho⟩ := hrel
    by_cases hlt : j < l.length
    · have hjz : (j : Int) < (l.length : Int) := by omega
      have hR2 : RL 28 wr B a ss := hR.keep ho (by decide)
      obtain ⟨g, rfl, hg0, hg1, hgc⟩ := hR2.cell (by omega)
      have hv := List.getElem?_eq_getElem (l := ss) (i := j) (by omega)
      have hc := hgc j _ hv
      have hvs : (ss ++ cs)[j]? = some ss[j] := by rw [List.getElem?_append_left (by omega)]; exact hv
      have hls : (upto (fS k l) l j ++ ms)[j]? = some l[j] := by
        rw [List.getElem?_append_left (by rw [upto_len]; exact hlt), upto_get, List.getElem?_eq_getElem hlt]
        simp
      have hOB := hB.ob j _ _ hvs hls
      have hst := szS_take hlt
      have hsl := szS_le l (j + 1)
      have hV := markOB hOB (k + szS (l.take j)) (by omega) (by omega)
      have HS : Hid ((upto (fS k l) l j ++ ms).set j (mkB (k + szS (l.take j)) (l[j]).length) = upto (fS k l) l (j + 1) ++ ms) := by
        show _ = _
        rw [List.set_append_left _ _ (by rw [upto_len]; exact hlt)]
        rw [← upto_set _ _ _ hlt]
        rfl
      have HK : Hid (k + szS (l.take j) + (l[j]).length = k + szS (l.take (j + 1))) := by
        show _ = _
        rw [hst]; omega
      have HH : Hid (∀ g, ss[j].ownBlock = some g → B ≤ g ∧ g < H) := fun g e => ⟨(hB.lt _ (List.mem_of_getElem? hvs) g e).1, hH _ (List.mem_of_getElem? hv) g e⟩
      have HB : Hid (Bs wr B (ss ++ cs) (upto (fS k l) l j ++ ms) ∧ Out B H w wr ∧ Keep8 w wr ∧ (ss ++ cs)[j]? = some ss[j]) := ⟨hB, hO, ho, hvs⟩
      clear hB hO ho hvs hls hOB hst hsl hR hR2 hgc hv
      obtain ⟨k0, hk0⟩ := hidEx (k + (szS (l.take j) : Int))
      obtain ⟨k2, hk2⟩ := hidEx (k + (szS (l.take (j + 1)) : Int))
      obtain ⟨n0, hn0⟩ := hidEx (l[j]).length
      obtain ⟨v0, hv0⟩ := hidEx ss[j]
      rw [hv0.out] at hc hV HH HB
      rw [hn0.out, hk0.out] at hV HS
      rw [hn0.out, hk0.out, hk2.out] at HK
      have hHs := hH
      clear hH
      rw [hk0.out]
      go_wp2_with fail
      refine hV.mono ?_
      rintro e w2 ⟨rfl, hm, hov⟩
      have HR : Hid (Bs w2 B (ss ++ cs) (upto (fS k l) l (j + 1) ++ ms) ∧ Out B H w w2 ∧ w2.heap.size = w.heap.size ∧ Keep8 w w2) := by
        refine ⟨?_, HB.out.2.1.trans (Out.ofOnlyV hov HH.out), by rw [hov.size, hsz], HB.out.2.2.1.trans hov.keep⟩
        rw [← HS.out]
        exact HB.out.1.mark HB.out.2.2.2 hm hov
      rw [HK.out]
      clear hV hm hov HB HS HH HK
      go_wp2
      go_roundg (l.length - (j + 1))
      case measure => omega
      case rel => exact ⟨j + 1, by omega, rfl, by rw [hk2.out], by go_num, HR.out⟩
    · obtain rfl : j = l.length := by omega
      have hjz : ¬ (l.length : Int) < (l.length : Int) := by omega
      rw [List.take_length]
      have HB : Hid (Bs wr B (ss ++ cs) (l.mapIdx (fS k l) ++ ms)) := by
        show Bs _ _ _ _
        rw [← upto_all (fS k l) l l.length (Nat.le_refl _)]
        exact hB
      clear hB hR
      go_wp2
      go_ret
      exact ⟨rfl, HB.out, hO, hsz, ho⟩

set_option maxHeartbeats 2000000 in
theorem heldByteSS_any (a : Option Addr) (cap : Nat) (l : List (List Int)) (k : Int) (w : World) (h : SView w a cap (l.mapIdx (fS k l))) (hn : l.length ≤ 1048576) (hk : 0 ≤ k) (hk1 : k + szS l ≤ 4611686018427387904) :
    Calls Try.prog 55 #[.slice a l.length cap, .int .i64 k] w fun e w' => e = .returned (.int .i64 (k + szS l)) ∧ Below w.heap.size w w' := by
  go_enter Try.func55, Try.ntmps55
  go_wp2
  go_loopg [1, 5] l.length (fun q s i wr => ∃ j : Nat, j ≤ l.length ∧ q = l.length - j ∧ s = .int .i64 (k + szS (l.take j)) ∧ i = .int .i64 j ∧ Below w.heap.size w wr)
  case atStart => exact ⟨0, Nat.zero_le _, rfl, by simp [szS], rfl, Below.refl _ _⟩
  case round =>
    obtain ⟨j, hj, rfl, rfl, rfl, hB⟩ := hrel
    by_cases hlt : j < l.length
    · have hjz : (j : Int) < (l.length : Int) := by omega
      obtain ⟨b1, o1, a', c', rfl, hb1, x0, v0, -⟩ := sview_at (sview_below h hB) (i := j) (by simpa using hlt)
      have eL : (l.mapIdx (fS k l))[j]'(by simpa using hlt) = mkB (k + szS (l.take j)) (l[j]).length := by simp [fS]
      rw [eL, mkB_len] at x0 v0
      have hst := szS_take hlt
      have hsl := szS_le l (j + 1)
      have hV := held_any a' (l[j]).length c' _ (k + szS (l.take j)) wr v0 (fun i hi => mkB_get _ _ i hi) (by omega) (by omega)
      have HK : Hid (k + szS (l.take j) + (l[j]).length = k + szS (l.take (j + 1))) := by
        show _ = _
        rw [hst]; omega
      have hp : ¬ k + szS (l.take (j + 1)) < (0 : Int) := by omega
      clear h v0 eL hst hsl
      obtain ⟨k0, hk0⟩ := hidEx (k + (szS (l.take j) : Int))
      obtain ⟨k2, hk2⟩ := hidEx (k + (szS (l.take (j + 1)) : Int))
      obtain ⟨n0, hn0⟩ := hidEx (l[j]).length
      rw [hn0.out] at x0
      rw [hn0.out, hk0.out] at hV
      rw [hn0.out, hk0.out, hk2.out] at HK
      rw [hk2.out] at hp
      rw [hk0.out]
      go_wp2_with fail
      refine hV.mono ?_
      rintro e w2 ⟨rfl, hb2⟩
      have HB : Hid (Below w.heap.size w w2) := hB.trans (hb2.mono hB.size)
      rw [HK.out]
      clear hV hb2 HK hB
      go_wp2
      go_roundg (l.length - (j + 1))
      case measure => omega
      case rel => exact ⟨j + 1, by omega, rfl, by rw [hk2.out], by go_num, HB.out⟩
    · obtain rfl : j = l.length := by omega
      have hjz : ¬ (l.length : Int) < (l.length : Int) := by omega
      rw [List.take_length]
      clear h
      go_wp2
      go_ret
      exact ⟨rfl, hB⟩
end Go.Proofs.Ytphipmhibegbnaa

/-
  The laws' markWriteS, markFaultS, markDisk and what finds the marks, walked.
-/
namespace Go.Proofs.Ytphipmhibegbnaa
open Go.RowKit
set_option maxRecDepth 4000

/-- Rows of types without P are as they were. -/
def KeepT (P : TypeId → Prop) (w w' : World) : Prop := ∀ (b : Nat) (c : Array Value) (t : TypeId) (z : Nat × Nat), w.heap[b]? = some (Obj.cells c t z) → ¬ P t → w'.heap[b]? = w.heap[b]?
theorem KeepT.refl (P : TypeId → Prop) (w : World) : KeepT P w w := fun _ _ _ _ _ _ => rfl
theorem KeepT.trans {P : TypeId → Prop} {a b c : World} (h : KeepT P a b) (k : KeepT P b c) : KeepT P a c := fun i x t z h1 h2 => (k i x t z ((h i x t z h1 h2).trans h1) h2).trans (h i x t z h1 h2)
theorem KeepT.of8 {P : TypeId → Prop} {a b : World} (h : Keep8 a b) (hP : P 5) : KeepT P a b := fun i x t z h1 h2 => h i x t z h1 (fun e => h2 (by rw [e]; exact hP))
theorem KeepT.set {P : TypeId → Prop} {T : TypeId} {w : World} {B g i : Nat} {xs : List Value} {u : Value} (h : RL T w B (some ⟨g, 0, none⟩) xs) (hx : 0 < xs.length) (hP : P T) : KeepT P w (w.setCell ⟨g, i, none⟩ u) := by
  intro b c t z hb ht
  refine Below.heap_setCell _ _ _ _ (fun e => ?_)
  rcases h with h | ⟨g', cur, ea, hb', hg, hc⟩
  · subst h; simp at hx
  · cases ea
    have e' : b = g := e
    rw [e', hg] at hb
    cases hb
    exact ht hP
theorem RL.keepT {P : TypeId → Prop} {T : TypeId} {w w' : World} {B : Nat} {a : Option Addr} {xs : List Value} (h : RL T w B a xs) (ho : KeepT P w w') (hT : ¬ P T) : RL T w' B a xs := by
  rcases h with h | ⟨g, cur, ea, hb, hg, hc⟩
  · exact .inl h
  · exact .inr ⟨g, cur, ea, hb, (ho g _ _ _ hg hT).trans hg, hc⟩
theorem Bs.keepT {P : TypeId → Prop} {w w' : World} {B : Nat} {vs : List Value} {ls : List (List Int)} (h : Bs w B vs ls) (ho : KeepT P w w') (hs : w.heap.size ≤ w'.heap.size) (hT : ¬ P 5) : Bs w' B vs ls := by
  refine ⟨h.len, fun q v l h1 h2 => ?_, fun v hv q hq => ?_, h.apt⟩
  · obtain ⟨a, c, rfl, k1, k2, k3, k4⟩ := (h.ob q v l h1 h2).is
    refine ⟨a, c, rfl, k1, k2, k3, ?_⟩
    rcases k4 with k4 | ⟨g1, rfl, hb, hr⟩
    · exact .inl k4
    · obtain ⟨c0, hb0, hn0, hc0⟩ := hr
      exact .inr ⟨g1, rfl, hb, c0, (ho g1 _ _ _ hb0 hT).trans hb0, hn0, hc0⟩
  · have := h.lt v hv q hq
    exact ⟨this.1, by omega⟩
theorem wcells_at {l : List (Int × List Int)} {cs : List Value} (i j : Nat) (hj : j < 2) : (wcells l cs)[i * 2 + j]? = (((l.map (·.1)).zip cs)[i]?).bind (fun x => (wEl x)[j]?) := flat_get wEl 2 (fun _ => rfl) _ i j hj
theorem wcells_set {l : List (Int × List Int)} {cs : List Value} (h : cs.length = l.length) {j : Nat} (hj : j < l.length) (x : Int) (y : List Int) : (wcells l cs).set (j * 2) (.int .i64 x) = wcells (l.set j (x, y)) cs := by
  have hw := wcells_len h
  refine List.ext_getElem? (fun q => ?_)
  rw [List.getElem?_set]
  have hz : ∀ i, j ≠ i → ((l.set j (x, y)).map (·.1)).zip cs = ((l.map (·.1)).set j x).zip cs := by intro i _; rw [List.map_set]
  have hq : q = q / 2 * 2 + q % 2 := by omega
  have hm : q % 2 < 2 := by omega
  by_cases e : j * 2 = q
  · rw [if_pos e, if_pos (by omega)]
    have e2 : q / 2 = j := by omega
    have e3 : q % 2 = 0 := by omega
    rw [hq, wcells_at _ _ hm, e2, e3]
    have : ((List.map (fun x => x.1) (l.set j (x, y))).zip cs)[j]? = some (x, cs[j]) := by
      simp [hj, h]
    rw [this]
    rfl
  · rw [if_neg e]
    rw [hq, wcells_at _ _ hm, wcells_at _ _ hm]
    by_cases e2 : q / 2 = j
    · have e3 : q % 2 = 1 := by omega
      rw [e2, e3]
      have a1 : ((List.map (fun x => x.1) (l.set j (x, y))).zip cs)[j]? = some (x, cs[j]) := by
        simp [hj, h]
      have a2 : ((List.map (fun x => x.1) l).zip cs)[j]? = some ((l[j]).1, cs[j]) := by
        simp [hj, h]
      rw [a1, a2]
      rfl
    · congr 1
      by_cases hi : q / 2 < l.length
      · simp [hi, h, Ne.symm e2]
      · rw [List.getElem?_eq_none (by simp [h]; omega), List.getElem?_eq_none (by simp [h]; omega)]

set_option maxHeartbeats 4000000 in
theorem markWriteS_any (a : Option Addr) (cap B H : Nat) (ss cs : List Value) (ms : List (List Int)) (l : List (Int × List Int)) (k : Int) (w : World) (hR : RL 59 w B a (wcells l cs)) (hB : Bs w B (ss ++ cs) (ms ++ l.map (·.2))) (hl : cs.length = l.length) (hss : ss.length = ms.length) (hH : ∀ v, v ∈ cs → ∀ g, v.ownBlock = some g → g < H) (hA : 0 < l.length → ∀ g, a = some ⟨g, 0, none⟩ → g < H) (hn : l.length ≤ 1048576) (hk : 0 ≤ k) (hk1 : k + szC l ≤ 4611686018427387904) :
    Calls Try.prog 44 #[.slice a l.length cap, .int .i64 k] w fun e w' => e = .returned (.int .i64 (k + szC l)) ∧ RL 59 w' B a (wcells (l.mapIdx (fC k l)) cs) ∧ Bs w' B (ss ++ cs) (ms ++ (l.mapIdx (fC k l)).map (·.2)) ∧ Out B H w w' ∧ w'.heap.size = w.heap.size ∧ KeepT (fun t => t = 5 ∨ t = 59) w w' := by
  go_enter Try.func44, Try.ntmps44
  go_wp2
  go_loopg [1, 5] l.length (fun q s i wr => ∃ j : Nat, j ≤ l.length ∧ q = l.length - j ∧ s = .int .i64 (k + szC (l.take j)) ∧ i = .int .i64 j ∧ RL 59 wr B a (wcells (upto (fC k l) l j) cs) ∧ Bs wr B (ss ++ cs) (ms ++ (upto (fC k l) l j).map (·.2)) ∧ Out B H w wr ∧ wr.heap.size = w.heap.size ∧ KeepT (fun t => t = 5 ∨ t = 59) w wr)
  case atStart => exact ⟨0, Nat.zero_le _, rfl, by simp [szC], rfl, by rw [upto_zero]; exact hR, by rw [upto_zero]; exact hB, Out.refl _ _ _, rfl, KeepT.refl _ _⟩
  case round =>
    clear hB hR
    obtain ⟨j, hj, rfl, rfl, rfl, hR, hB, hO, hsz, ho⟩ := hrel
    by_cases hlt : j < l.length
    · have hjz : (j : Int) < (l.length : Int) := by omega
      have hul := upto_len (fC k l) l j
      have hwl := wcells_len (l := upto (fC k l) l j) (cs := cs) (by omega)
      obtain ⟨g, rfl, hg0, hg1, hgc⟩ := hR.cell (by omega)
      have hgH := hA (by omega) g rfl
      have hv := List.getElem?_eq_getElem (l := cs) (i := j) (by omega)
      have hu : (upto (fC k l) l j)[j]? = some l[j] := by rw [upto_get, List.getElem?_eq_getElem hlt]; simp
      obtain ⟨w0, w1⟩ := wcells_get hu hv
      have c0 := hgc _ _ w0
      have c1 := hgc _ _ w1
      have q0 := hR.cellFz (by omega) (j * 2)
      obtain ⟨N, hN⟩ := hidEx (k + (szC (l.take j) : Int))
      obtain ⟨m, hm⟩ := hidEx (upto (fC k l) l j)
      rw [hm.out] at hul hwl hR hB hu hgc
      -- the number
      have R1 := hR.set (j * 2) (.int .i64 N) (by omega)
      rw [wcells_set (by omega) (by omega) N (l[j]).2] at R1
      have B1 : Bs (wr.setCell ⟨g, j * 2, none⟩ (.int .i64 N)) B (ss ++ cs) (ms ++ m.map (·.2)) := hB.other (i := j * 2) (u := .int .i64 N) hR (by omega) (by decide)
      have O1 : Out B H w (wr.setCell ⟨g, j * 2, none⟩ (.int .i64 N)) := hO.trans (Out.set ⟨hg0, hgH⟩)
      have K1 : KeepT (fun t => t = 5 ∨ t = 59) w (wr.setCell ⟨g, j * 2, none⟩ (.int .i64 N)) := ho.trans (KeepT.set hR (by omega) (.inr rfl))
      have S1 : (wr.setCell ⟨g, j * 2, none⟩ (.int .i64 N)).heap.size = w.heap.size := by simpa using hsz
      obtain ⟨W1, hW1⟩ := hidEx (wr.setCell ⟨g, j * 2, none⟩ (.int .i64 N))
      rw [hW1.out] at R1 B1 O1 K1 S1
      have hvs : (ss ++ cs)[ms.length + j]? = some cs[j] := by rw [← hss, List.getElem?_append_right (by omega), Nat.add_sub_cancel_left]; exact hv
      have hls : (ms ++ m.map (·.2))[ms.length + j]? = some (l[j]).2 := by rw [List.getElem?_append_right (by omega), Nat.add_sub_cancel_left]; simp [hu]
      have hOB := B1.ob _ _ _ hvs hls
      have hst := szC_take hlt
      have hsl := szC_le l (j + 1)
      have hNe := hN.out
      have hV := markOB hOB (N + 1) (by omega) (by omega)
      have d1 : W1.cell? ⟨g, j * 2 + 1, none⟩ = some cs[j] := by
        obtain ⟨g', e', -, -, hgc'⟩ := R1.cell (by rw [wcells_len (by simp; omega)]; simp; omega)
        cases e'
        have hu2 : (m.set j (N, (l[j]).2))[j]? = some (N, (l[j]).2) := by simp [show j < m.length by omega]
        exact hgc' _ _ (wcells_get hu2 hv).2
      have HS : Hid (m.set j (N, mkB (N + 1) (l[j]).2.length) = upto (fC k l) l (j + 1)) := by
        show _ = _
        rw [← hm.out, ← upto_set _ _ _ hlt, ← hN.out]
        rfl
      have HK : Hid (N + 1 + (l[j]).2.length = k + szC (l.take (j + 1))) := by
        show _ = _
        rw [hst, ← hNe]; omega
      have HH : Hid (∀ g, cs[j].ownBlock = some g → B ≤ g ∧ g < H) := fun g e => ⟨(B1.lt _ (List.mem_of_getElem? hvs) g e).1, hH _ (List.mem_of_getElem? hv) g e⟩
      have HB : Hid (RL 59 W1 B (some ⟨g, 0, none⟩) (wcells (m.set j (N, (l[j]).2)) cs) ∧ Bs W1 B (ss ++ cs) (ms ++ m.map (·.2)) ∧ Out B H w W1 ∧ KeepT (fun t => t = 5 ∨ t = 59) w W1 ∧ (ss ++ cs)[ms.length + j]? = some cs[j]) := ⟨R1, B1, O1, K1, hvs⟩
      have HW : Hid (wcells (m.set j (N, (l[j]).2)) cs = wcells (m.set j (N, mkB (N + 1) (l[j]).2.length)) cs) := by
        show _ = _
        rw [← wcells_set (by omega) (by omega), ← wcells_set (by omega) (by omega)]
      have HX : Hid ((ms ++ m.map (·.2)).set (ms.length + j) (mkB (N + 1) (l[j]).2.length) = ms ++ (m.set j (N, mkB (N + 1) (l[j]).2.length)).map (·.2)) := by
        show _ = _
        rw [List.set_append_right _ _ (by omega), Nat.add_sub_cancel_left, List.map_set]
      have hw1 : IntKind.i64.wrap (N + 1) = N + 1 := by rw [IntKind.wrap_i64]; omega
      clear hB hO ho hvs hls hOB hst hsl hR hgc hv R1 B1 O1 K1 w0 w1 hu
      obtain ⟨k2, hk2⟩ := hidEx (k + (szC (l.take (j + 1)) : Int))
      obtain ⟨n0, hn0⟩ := hidEx (l[j]).2.length
      obtain ⟨v0, hv0⟩ := hidEx cs[j]
      obtain ⟨n1, hn1⟩ := hidEx (l[j]).1
      rw [hn1.out] at c0
      rw [hv0.out] at c1 hV HH HB d1
      rw [hn0.out] at hV HS HW HX
      rw [hn0.out, hk2.out] at HK
      rw [hN.out]
      go_wp2_with (rw [hW1.out])
      refine hV.mono ?_
      rintro e w2 ⟨rfl, hmm, hov⟩
      have HR : Hid (RL 59 w2 B (some ⟨g, 0, none⟩) (wcells (upto (fC k l) l (j + 1)) cs) ∧ Bs w2 B (ss ++ cs) (ms ++ (upto (fC k l) l (j + 1)).map (·.2)) ∧ Out B H w w2 ∧ w2.heap.size = w.heap.size ∧ KeepT (fun t => t = 5 ∨ t = 59) w w2) := by
        refine ⟨?_, ?_, HB.out.2.2.1.trans (Out.ofOnlyV hov HH.out), by rw [hov.size, S1], HB.out.2.2.2.1.trans (KeepT.of8 hov.keep (.inl rfl))⟩
        · rw [← HS.out, ← HW.out]
          exact HB.out.1.keep hov.keep (by decide)
        · rw [← HS.out, ← HX.out]
          exact HB.out.2.1.mark HB.out.2.2.2.2 hmm hov
      rw [HK.out]
      clear hV hmm hov HB HS HH HK HW HX d1 c0 c1 q0
      go_wp2
      go_roundg (l.length - (j + 1))
      case measure => omega
      case rel => exact ⟨j + 1, by omega, rfl, by rw [hk2.out], by go_num, HR.out⟩
    · obtain rfl : j = l.length := by omega
      have hjz : ¬ (l.length : Int) < (l.length : Int) := by omega
      rw [List.take_length]
      have HB : Hid (RL 59 wr B a (wcells (l.mapIdx (fC k l)) cs) ∧ Bs wr B (ss ++ cs) (ms ++ (l.mapIdx (fC k l)).map (·.2))) := by
        show _ ∧ _
        rw [← upto_all (fC k l) l l.length (Nat.le_refl _)]
        exact ⟨hR, hB⟩
      clear hB hR
      go_wp2
      go_ret
      exact ⟨rfl, HB.out.1, HB.out.2, hO, hsz, ho⟩
end Go.Proofs.Ytphipmhibegbnaa

