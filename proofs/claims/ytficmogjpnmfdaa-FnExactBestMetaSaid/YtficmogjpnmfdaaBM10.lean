/-
  Together: DiskSize2, DiskEq, LawBestMeta, DiskIn
-/
import Derived.Test.YtficmogjpnmfdaaBM6
import Derived.Test.YtficmogjpnmfdaaBM5
import Derived.Deep.LoopGhost
import Derived.Deep.RegionHeld3
import Derived.Test.YtficmogjpnmfdaaBM9
import Derived.Test.YtficmogjpnmfdaaBM7
import Derived.Deep.Strs
import Derived.ChangeSame
import Derived.Lib.SmallJoins
/-
  How much a disk holds, as the law counts it: rows of sectors and of writes, and the disk.
-/
namespace Go.Proofs.Ytficmogjpnmfdaa
open Go.RowKit
set_option maxRecDepth 4000

set_option maxHeartbeats 1000000 in
theorem szWrite_fine (x : Int) (a : Option Addr) (n cap : Nat) (left : Int) (w : World) (hs : n ≤ maxLen) (h0 : 0 ≤ left) (hl : left ≤ 1048576) :
    Calls Try.prog 41 #[.agg #[.int .i64 x, .slice a n cap], .int .i64 left] w (LeftK w left (n ≤ 1048576)) := by
  have hS := fun W => szByteS_fine a n cap left W hs h0 hl
  go_enter Try.func41, Try.ntmps41
  go_wp2_with fail
  refine (hS _).mono ?_
  rintro e w1 ⟨L, rfl, hb1, hL⟩
  have HB : Hid (Below w.heap.size w w1) := ((Below.refl _ _).alloc (Nat.le_refl _) _).trans (hb1.mono (by simp))
  clear hS hb1
  rcases hL with rfl | ⟨hL0, hL1, hP⟩
  · go_wp2
    go_ret
    exact ⟨_, rfl, HB.out, .inl rfl⟩
  · have hLn : ¬ L < 0 := by omega
    go_wp2
    go_ret
    exact ⟨_, rfl, HB.out, .inr ⟨by omega, by omega, hP⟩⟩

set_option maxHeartbeats 2000000 in
theorem szByteSS_fine (a : Option Addr) (cap : Nat) (l : List (List Int)) (left : Int) (w : World) (h : SView w a cap l) (hn : l.length ≤ maxLen) (hz : ∀ i (h : i < l.length), (l[i]).length ≤ maxLen) (h0 : 0 ≤ left) (hl : left ≤ 1048576) :
    Calls Try.prog 19 #[.slice a l.length cap, .int .i64 left] w (LeftK w left (l.length ≤ 1048576 ∧ ∀ i (h : i < l.length), (l[i]).length ≤ 1048576)) := by
  have hn' : (l.length : Int) ≤ 9223372036854775807 := by unfold maxLen at hn; omega
  by_cases hb : left - (l.length : Int) < 0
  · go_enter Try.func19, Try.ntmps19
    go_wp2
    go_ret
    exact ⟨_, rfl, Below.refl _ _, .inl rfl⟩
  go_enter Try.func19, Try.ntmps19
  go_wp2
  go_loopg [1, 5] l.length (fun q t i wr => ∃ (k : Nat) (L : Int), k ≤ l.length ∧ q = l.length - k ∧ t = .int .i64 L ∧ i = .int .i64 k ∧ Below w.heap.size w wr ∧ 0 ≤ L ∧ L ≤ left - l.length ∧ Hid (∀ i (h : i < l.length), i < k → (l[i]).length ≤ 1048576))
  case atStart => exact ⟨0, left - l.length, Nat.zero_le _, rfl, rfl, rfl, Below.refl _ _, by omega, by omega, fun i _ hi => absurd hi (Nat.not_lt_zero _)⟩
  case round =>
    obtain ⟨k, L, hk, rfl, rfl, rfl, hB, hL0, hL1, HA⟩ := hrel
    by_cases hlt : k < l.length
    · obtain ⟨b1, o1, a', c', rfl, hb1, x0, -, -⟩ := sview_at (sview_below h hB) hlt
      have hkz : (k : Int) < (l.length : Int) := by omega
      have hS := fun W => szByteS_fine a' (l[k]).length c' L W (hz k hlt) hL0 (by omega)
      have HN : Hid ((l[k]).length ≤ 1048576 → ∀ i (h : i < l.length), i < k + 1 → (l[i]).length ≤ 1048576) := by
        intro hp i h hi
        by_cases e : i < k
        · exact HA.out i h e
        · obtain rfl : i = k := by omega
          exact hp
      clear h hz HA
      obtain ⟨p0, hp0⟩ := hidEx (l[k]).length
      rw [hp0.out] at x0 HN
      simp only [hp0.out] at hS
      go_wp2_with fail
      refine (hS _).mono ?_
      rintro e w1 ⟨L', rfl, hb1', hL⟩
      have HB : Hid (Below w.heap.size w w1) := hB.trans (hb1'.mono hB.size)
      clear hS hb1' hB
      rcases hL with rfl | ⟨hL0', hL1', hP⟩
      · go_wp2
        go_ret
        exact ⟨_, rfl, HB.out, .inl rfl⟩
      · have hLn : ¬ L' < 0 := by omega
        have HN2 : Hid (∀ i (h : i < l.length), i < k + 1 → (l[i]).length ≤ 1048576) := HN.out hP
        clear HN
        go_wp2
        go_roundg (l.length - (k + 1))
        case measure => omega
        case rel => exact ⟨k + 1, L', by omega, rfl, rfl, by go_num, HB.out, by omega, by omega, HN2⟩
    · have hkz : ¬ (k : Int) < (l.length : Int) := by omega
      clear h hz
      go_wp2
      go_ret
      exact ⟨_, rfl, hB, .inr ⟨hL0, by omega, by omega, fun i h => HA.out i h (by omega)⟩⟩

set_option maxHeartbeats 2000000 in
theorem szWriteS_fine (a : Option Addr) (cap : Nat) (l : List (Int × List Int)) (left : Int) (w : World) (h : WView w a cap l) (hn : l.length ≤ maxLen) (hz : ∀ i (h : i < l.length), (l[i]).2.length ≤ maxLen) (h0 : 0 ≤ left) (hl : left ≤ 1048576) :
    Calls Try.prog 20 #[.slice a l.length cap, .int .i64 left] w (LeftK w left (l.length ≤ 1048576 ∧ ∀ i (h : i < l.length), (l[i]).2.length ≤ 1048576)) := by
  have hn' : (l.length : Int) ≤ 9223372036854775807 := by unfold maxLen at hn; omega
  by_cases hb : left - (l.length : Int) < 0
  · go_enter Try.func20, Try.ntmps20
    go_wp2
    go_ret
    exact ⟨_, rfl, Below.refl _ _, .inl rfl⟩
  go_enter Try.func20, Try.ntmps20
  go_wp2
  go_loopg [1, 5] l.length (fun q t i wr => ∃ (k : Nat) (L : Int), k ≤ l.length ∧ q = l.length - k ∧ t = .int .i64 L ∧ i = .int .i64 k ∧ Below w.heap.size w wr ∧ 0 ≤ L ∧ L ≤ left - l.length ∧ Hid (∀ i (h : i < l.length), i < k → (l[i]).2.length ≤ 1048576))
  case atStart => exact ⟨0, left - l.length, Nat.zero_le _, rfl, rfl, rfl, Below.refl _ _, by omega, by omega, fun i _ hi => absurd hi (Nat.not_lt_zero _)⟩
  case round =>
    obtain ⟨k, L, hk, rfl, rfl, rfl, hB, hL0, hL1, HA⟩ := hrel
    by_cases hlt : k < l.length
    · obtain ⟨b1, o1, a', c', rfl, hb1, x0, x1, -, -⟩ := wview_at (wview_below h hB) hlt
      have hkz : (k : Int) < (l.length : Int) := by omega
      have hS := fun y W => szWrite_fine y a' (l[k]).2.length c' L W (hz k hlt) hL0 (by omega)
      have HN : Hid ((l[k]).2.length ≤ 1048576 → ∀ i (h : i < l.length), i < k + 1 → (l[i]).2.length ≤ 1048576) := by
        intro hp i h hi
        by_cases e : i < k
        · exact HA.out i h e
        · obtain rfl : i = k := by omega
          exact hp
      clear h hz HA
      obtain ⟨p0, hp0⟩ := hidEx (l[k]).2.length
      obtain ⟨p1, hp1⟩ := hidEx (l[k]).1
      rw [hp0.out] at x1 HN
      rw [hp1.out] at x0
      simp only [hp0.out] at hS
      go_wp2_with fail
      refine (hS _ _).mono ?_
      rintro e w1 ⟨L', rfl, hb1', hL⟩
      have HB : Hid (Below w.heap.size w w1) := hB.trans (hb1'.mono hB.size)
      clear hS hb1' hB
      rcases hL with rfl | ⟨hL0', hL1', hP⟩
      · go_wp2
        go_ret
        exact ⟨_, rfl, HB.out, .inl rfl⟩
      · have hLn : ¬ L' < 0 := by omega
        have HN2 : Hid (∀ i (h : i < l.length), i < k + 1 → (l[i]).2.length ≤ 1048576) := HN.out hP
        clear HN
        go_wp2
        go_roundg (l.length - (k + 1))
        case measure => omega
        case rel => exact ⟨k + 1, L', by omega, rfl, rfl, by go_num, HB.out, by omega, by omega, HN2⟩
    · have hkz : ¬ (k : Int) < (l.length : Int) := by omega
      clear h hz
      go_wp2
      go_ret
      exact ⟨_, rfl, hB, .inr ⟨hL0, by omega, by omega, fun i h => HA.out i h (by omega)⟩⟩

set_option maxHeartbeats 2000000 in
theorem szDisk_fine (v : Value) (D : PDisk) (left : Int) (w : World) (h : KView w v D) (hm : KLim D) (h0 : 0 ≤ left) (hl : left ≤ 1048576) :
    Calls Try.prog 5 #[v, .int .i64 left] w (LeftK w left (KFine D)) := by
  obtain ⟨sa, sc, ca, cc, fa, fc, rfl, hs, hc, hf⟩ := h.is
  clear h
  have hB0 := box5_start w (.cells #[.slice sa D.secs.length sc, .slice ca D.cache.length cc, .int .i64 D.ops, .slice fa D.faults.length fc, .bool D.down] 26)
  obtain ⟨hBw0, -⟩ := box5_below hB0
  have h1 := szByteSS_fine sa sc D.secs left _ (sview_below hs hBw0) hm.ns hm.sec h0 hl
  go_enter Try.func5, Try.ntmps5
  go_wp2_with fail
  refine h1.mono ?_
  rintro e w1 ⟨L1, rfl, hb1, hL⟩
  have hB1 := box5_on hB0 hb1
  obtain ⟨hBw1, hs1⟩ := box5_below hB1
  obtain ⟨x0, x1, x2, x3, x4⟩ := box5 hB1
  clear h1 hb1 hB0 hBw0 hs
  rcases hL with rfl | ⟨a0, a1, aP⟩
  · clear hc hf
    go_wp2
    go_ret
    exact ⟨_, rfl, hBw1, .inl rfl⟩
  have n1 : ¬ L1 < 0 := by omega
  have HP1 : Hid (D.secs.length ≤ 1048576 ∧ ∀ i (h : i < D.secs.length), (D.secs[i]).length ≤ 1048576) := aP
  have h2 := szWriteS_fine ca cc D.cache L1 w1 (wview_below hc hBw1) hm.nc hm.cache a0 (by omega)
  clear aP
  go_wp2_with fail
  refine h2.mono ?_
  rintro e w2 ⟨L2, rfl, hb2, hL⟩
  have hB2 := box5_on hB1 hb2
  obtain ⟨hBw2, hs2⟩ := box5_below hB2
  clear x0 x1 x2 x3 x4
  obtain ⟨x0, x1, x2, x3, x4⟩ := box5 hB2
  clear h2 hb2 hB1 hBw1 hs1 hc
  rcases hL with rfl | ⟨c0, c1, cP⟩
  · clear hf
    go_wp2
    go_ret
    exact ⟨_, rfl, hBw2, .inl rfl⟩
  have n2 : ¬ L2 < 0 := by omega
  have HP2 : Hid (D.cache.length ≤ 1048576 ∧ ∀ i (h : i < D.cache.length), (D.cache[i]).2.length ≤ 1048576) := cP
  have h3 := szFaultS_fine fa D.faults.length fc L2 w2 hm.nf c0 (by omega)
  clear cP hf
  go_wp2_with fail
  refine h3.mono ?_
  rintro e w3 ⟨L3, rfl, hb3, hL⟩
  have hB3 := box5_on hB2 hb3
  obtain ⟨hBw3, hs3⟩ := box5_below hB3
  clear x0 x1 x2 x3 x4 h3 hb3 hB2 hBw2 hs2
  rcases hL with rfl | ⟨d0, d1, dP⟩
  · go_wp2
    go_ret
    exact ⟨_, rfl, hBw3, .inl rfl⟩
  have n3 : ¬ L3 < 0 := by omega
  go_wp2
  go_ret
  refine ⟨_, rfl, hBw3, .inr ⟨d0, by omega, ⟨HP1.out.1, fun x hx => ?_, HP2.out.1, fun x hx => ?_, dP⟩⟩⟩
  · obtain ⟨i, hi, rfl⟩ := List.getElem_of_mem hx
    exact HP1.out.2 i hi
  · obtain ⟨i, hi, rfl⟩ := List.getElem_of_mem hx
    exact HP2.out.2 i hi
end Go.Proofs.Ytficmogjpnmfdaa

/-
  Disks that read alike are alike, as the law holds them against each other.
-/
namespace Go.Proofs.Ytficmogjpnmfdaa
open Go.RowKit
set_option maxRecDepth 4000

/-- Two variables of five cells, one behind the other. -/
theorem box55 {w wr : World} {T U : TypeId} {x0 x1 x2 x3 x4 y0 y1 y2 y3 y4 : Value} (h : Below (w.heap.size + 1 + 1) ((w.alloc (.cells #[x0, x1, x2, x3, x4] T)).alloc (.cells #[y0, y1, y2, y3, y4] U)) wr) :
    (wr.cell? ⟨w.heap.size, 0, none⟩ = some x0 ∧ wr.cell? ⟨w.heap.size, 1, none⟩ = some x1 ∧ wr.cell? ⟨w.heap.size, 2, none⟩ = some x2 ∧ wr.cell? ⟨w.heap.size, 3, none⟩ = some x3 ∧ wr.cell? ⟨w.heap.size, 4, none⟩ = some x4)
    ∧ (wr.cell? ⟨w.heap.size + 1, 0, none⟩ = some y0 ∧ wr.cell? ⟨w.heap.size + 1, 1, none⟩ = some y1 ∧ wr.cell? ⟨w.heap.size + 1, 2, none⟩ = some y2 ∧ wr.cell? ⟨w.heap.size + 1, 3, none⟩ = some y3 ∧ wr.cell? ⟨w.heap.size + 1, 4, none⟩ = some y4) := by
  refine ⟨⟨?_, ?_, ?_, ?_, ?_⟩, ?_, ?_, ?_, ?_, ?_⟩
  all_goals (rw [h.cell (by first | (simp; done) | (simp; omega))]; simp [go_sem])
theorem box55_below {w wr : World} {o p : Obj} (h : Below (w.heap.size + 1 + 1) ((w.alloc o).alloc p) wr) : Below w.heap.size w wr ∧ w.heap.size + 2 ≤ wr.heap.size := by
  refine ⟨(((Below.refl _ _).alloc (Nat.le_refl _) _).alloc (by simp) _).trans (h.mono (by omega)), ?_⟩
  have := h.size
  simpa using this
theorem box55_on {w wr w' : World} {o p : Obj} (h : Below (w.heap.size + 1 + 1) ((w.alloc o).alloc p) wr) (h' : Below wr.heap.size wr w') : Below (w.heap.size + 1 + 1) ((w.alloc o).alloc p) w' := h.trans (h'.mono (box55_below h).2)

set_option maxHeartbeats 1000000 in
theorem eqFault_same (c d f : Int) (w : World) :
    Calls Try.prog 34 #[.agg #[.int .i64 c, .int .i64 d, .int .i64 f], .agg #[.int .i64 c, .int .i64 d, .int .i64 f]] w fun e w' => e = .returned (.bool true) ∧ Below w.heap.size w w' := by
  have e1 : (c != c) = false := bne_self_eq_false _
  have e2 : (d != d) = false := bne_self_eq_false _
  have e3 : (f != f) = false := bne_self_eq_false _
  go_enter Try.func34, Try.ntmps34
  go_wp2
  go_ret
  refine ⟨rfl, ?_⟩
  repeat (first | exact Below.refl _ _ | refine Below.alloc ?_ (by simp <;> omega) _ | refine Below.drew ?_)
set_option maxHeartbeats 1000000 in
theorem eqWrite_same (x : Int) (a1 a2 : Option Addr) (n c1 c2 : Nat) (f : Nat → Int) (w : World) (h1 : View w a1 n c1 f) (h2 : View w a2 n c2 f) (hn : n ≤ 1048576) :
    Calls Try.prog 51 #[.agg #[.int .i64 x, .slice a1 n c1], .agg #[.int .i64 x, .slice a2 n c2]] w fun e w' => e = .returned (.bool true) ∧ Below w.heap.size w w' := by
  have e1 : (x != x) = false := bne_self_eq_false _
  have hb0 : Below w.heap.size w ((w.alloc (.cells #[.int .i64 x, .slice a1 n c1] 71)).alloc (.cells #[.int .i64 x, .slice a2 n c2] 71)) := ((Below.refl _ _).alloc (Nat.le_refl _) _).alloc (by simp) _
  have hV := eqByteS_same a1 a2 n c1 c2 f f _ (h1.below hb0) (h2.below hb0) (by omega) (fun _ _ => rfl)
  clear h1 h2
  go_enter Try.func51, Try.ntmps51
  go_wp2_with fail
  refine hV.mono ?_
  rintro e w1 ⟨rfl, hb1⟩
  have HB : Hid (Below w.heap.size w w1) := hb0.trans (hb1.mono (by simp; omega))
  clear hV hb1 hb0
  go_wp2
  go_ret
  exact ⟨rfl, HB.out⟩

set_option maxHeartbeats 2000000 in
theorem eqByteSS_same (a1 a2 : Option Addr) (c1 c2 : Nat) (l : List (List Int)) (w : World) (h1 : SView w a1 c1 l) (h2 : SView w a2 c2 l) (hn : l.length ≤ 1048576) (hf : ∀ i (h : i < l.length), (l[i]).length ≤ 1048576) :
    Calls Try.prog 26 #[.slice a1 l.length c1, .slice a2 l.length c2] w fun e w' => e = .returned (.bool true) ∧ Below w.heap.size w w' := by
  go_enter Try.func26, Try.ntmps26
  go_wp2
  go_loopg [5] l.length (fun q i wr => ∃ k : Nat, k ≤ l.length ∧ q = l.length - k ∧ i = .int .i64 k ∧ Below w.heap.size w wr)
  case atStart => exact ⟨0, Nat.zero_le _, rfl, rfl, Below.refl _ _⟩
  case round =>
    obtain ⟨k, hk, rfl, rfl, hB⟩ := hrel
    by_cases hlt : k < l.length
    · obtain ⟨b1, o1, a3, c3, rfl, hb1, x0, v1, -⟩ := sview_at (sview_below h1 hB) hlt
      obtain ⟨b2, o2, a4, c4, rfl, hb2, y0, v2, -⟩ := sview_at (sview_below h2 hB) hlt
      have hf1 := hf k hlt
      obtain ⟨p1, hp1⟩ := hidEx (bf l[k])
      rw [hp1.out] at v1 v2
      obtain ⟨p0, hp0⟩ := hidEx (l[k]).length
      rw [hp0.out] at x0 y0 v1 v2 hf1
      have hkz : (k : Int) < (l.length : Int) := by omega
      have hV := fun W (hb : Below wr.heap.size wr W) => eqByteS_same a3 a4 p0 c3 c4 p1 p1 W (v1.below hb) (v2.below hb) (by omega) (fun _ _ => rfl)
      have HWK : Hid (∀ W, Below wr.heap.size wr W → (W.cell? ⟨b1, o1 + k, none⟩ = some (.slice a3 p0 c3)) ∧ (W.cell? ⟨b2, o2 + k, none⟩ = some (.slice a4 p0 c4))) := by
        intro W hb
        refine ⟨?_, ?_⟩ <;> (rw [hb.cell (by first | exact hb1 | exact hb2)]; assumption)
      clear h1 h2 hf v1 v2
      go_wp2_with fail
      go_region_held3 (fun W => (W.cell? ⟨b1, o1 + k, none⟩ = some (.slice a3 p0 c3)) ∧ (W.cell? ⟨b2, o2 + k, none⟩ = some (.slice a4 p0 c4))) (first | assumption | go_keep) (first | (go_at_call 50; refine (hV _ (by repeat (first | exact Below.refl _ _ | refine Below.drew ?_))).mono ?_; rintro e w2 ⟨rfl, hB2⟩; have hcells : (w2.cell? ⟨b1, o1 + k, none⟩ = some (.slice a3 p0 c3)) ∧ (w2.cell? ⟨b2, o2 + k, none⟩ = some (.slice a4 p0 c4)) := HWK.out _ (Below.trans (by repeat (first | exact Below.refl _ _ | refine Below.drew ?_)) hB2)))
      all_goals
        have hB3 : Hid (Below w.heap.size w w2) := hB.trans (Below.trans (by repeat (first | exact Below.refl _ _ | refine Below.drew ?_)) (hB2.mono (by have := hB.size; exact this)))
        clear hcells HWK hV
        go_wp2
        go_roundg (l.length - (k + 1))
        case measure => omega
        case rel => exact ⟨k + 1, by omega, rfl, by go_num, by first | exact hB3.out | exact hB3.out.drew⟩
    · clear h1 h2
      go_wp2
      go_ret
      exact ⟨rfl, hB⟩

set_option maxHeartbeats 2000000 in
theorem eqFaultS_same (a1 a2 : Option Addr) (c1 c2 : Nat) (l : List PFault) (w : World) (h1 : FView w a1 c1 l) (h2 : FView w a2 c2 l) (hn : l.length ≤ 1048576) :
    Calls Try.prog 15 #[.slice a1 l.length c1, .slice a2 l.length c2] w fun e w' => e = .returned (.bool true) ∧ Below w.heap.size w w' := by
  go_enter Try.func15, Try.ntmps15
  go_wp2
  go_loopg [5] l.length (fun q i wr => ∃ k : Nat, k ≤ l.length ∧ q = l.length - k ∧ i = .int .i64 k ∧ Below w.heap.size w wr)
  case atStart => exact ⟨0, Nat.zero_le _, rfl, rfl, Below.refl _ _⟩
  case round =>
    obtain ⟨k, hk, rfl, rfl, hB⟩ := hrel
    by_cases hlt : k < l.length
    · obtain ⟨b1, o1, rfl, hb1, x0, x1, x2⟩ := fview_at (fview_below h1 hB) hlt
      obtain ⟨b2, o2, rfl, hb2, y0, y1, y2⟩ := fview_at (fview_below h2 hB) hlt
      obtain ⟨p0, hp0⟩ := hidEx (l[k]).pos
      obtain ⟨p1, hp1⟩ := hidEx (l[k]).keep
      obtain ⟨p2, hp2⟩ := hidEx (l[k]).cut
      rw [hp0.out] at x0 y0
      rw [hp1.out] at x1 y1
      rw [hp2.out] at x2 y2
      have hkz : (k : Int) < (l.length : Int) := by omega
      have hV := fun W (_ : Below wr.heap.size wr W) => eqFault_same p0 p1 p2 W
      have HWK : Hid (∀ W, Below wr.heap.size wr W → (W.cell? ⟨b1, o1 + k * 3, none⟩ = some (.int .i64 p0) ∧ W.cell? ⟨b1, o1 + k * 3 + 1, none⟩ = some (.int .i64 p1) ∧ W.cell? ⟨b1, o1 + k * 3 + 2, none⟩ = some (.int .i64 p2)) ∧ (W.cell? ⟨b2, o2 + k * 3, none⟩ = some (.int .i64 p0) ∧ W.cell? ⟨b2, o2 + k * 3 + 1, none⟩ = some (.int .i64 p1) ∧ W.cell? ⟨b2, o2 + k * 3 + 2, none⟩ = some (.int .i64 p2))) := by
        intro W hb
        refine ⟨⟨?_, ?_, ?_⟩, ⟨?_, ?_, ?_⟩⟩ <;> (rw [hb.cell (by first | exact hb1 | exact hb2)]; assumption)
      clear h1 h2
      go_wp2_with fail
      go_region_held3 (fun W => (W.cell? ⟨b1, o1 + k * 3, none⟩ = some (.int .i64 p0) ∧ W.cell? ⟨b1, o1 + k * 3 + 1, none⟩ = some (.int .i64 p1) ∧ W.cell? ⟨b1, o1 + k * 3 + 2, none⟩ = some (.int .i64 p2)) ∧ (W.cell? ⟨b2, o2 + k * 3, none⟩ = some (.int .i64 p0) ∧ W.cell? ⟨b2, o2 + k * 3 + 1, none⟩ = some (.int .i64 p1) ∧ W.cell? ⟨b2, o2 + k * 3 + 2, none⟩ = some (.int .i64 p2))) (first | assumption | go_keep) (first | (go_at_call 34; refine (hV _ (by repeat (first | exact Below.refl _ _ | refine Below.drew ?_))).mono ?_; rintro e w2 ⟨rfl, hB2⟩; have hcells : (w2.cell? ⟨b1, o1 + k * 3, none⟩ = some (.int .i64 p0) ∧ w2.cell? ⟨b1, o1 + k * 3 + 1, none⟩ = some (.int .i64 p1) ∧ w2.cell? ⟨b1, o1 + k * 3 + 2, none⟩ = some (.int .i64 p2)) ∧ (w2.cell? ⟨b2, o2 + k * 3, none⟩ = some (.int .i64 p0) ∧ w2.cell? ⟨b2, o2 + k * 3 + 1, none⟩ = some (.int .i64 p1) ∧ w2.cell? ⟨b2, o2 + k * 3 + 2, none⟩ = some (.int .i64 p2)) := HWK.out _ (Below.trans (by repeat (first | exact Below.refl _ _ | refine Below.drew ?_)) hB2)))
      all_goals
        have hB3 : Hid (Below w.heap.size w w2) := hB.trans (Below.trans (by repeat (first | exact Below.refl _ _ | refine Below.drew ?_)) (hB2.mono (by have := hB.size; exact this)))
        clear hcells HWK hV
        go_wp2
        go_roundg (l.length - (k + 1))
        case measure => omega
        case rel => exact ⟨k + 1, by omega, rfl, by go_num, by first | exact hB3.out | exact hB3.out.drew⟩
    · clear h1 h2
      go_wp2
      go_ret
      exact ⟨rfl, hB⟩

set_option maxHeartbeats 2000000 in
theorem eqWriteS_same (a1 a2 : Option Addr) (c1 c2 : Nat) (l : List (Int × List Int)) (w : World) (h1 : WView w a1 c1 l) (h2 : WView w a2 c2 l) (hn : l.length ≤ 1048576) (hf : ∀ i (h : i < l.length), (l[i]).2.length ≤ 1048576) :
    Calls Try.prog 27 #[.slice a1 l.length c1, .slice a2 l.length c2] w fun e w' => e = .returned (.bool true) ∧ Below w.heap.size w w' := by
  go_enter Try.func27, Try.ntmps27
  go_wp2
  go_loopg [5] l.length (fun q i wr => ∃ k : Nat, k ≤ l.length ∧ q = l.length - k ∧ i = .int .i64 k ∧ Below w.heap.size w wr)
  case atStart => exact ⟨0, Nat.zero_le _, rfl, rfl, Below.refl _ _⟩
  case round =>
    obtain ⟨k, hk, rfl, rfl, hB⟩ := hrel
    by_cases hlt : k < l.length
    · obtain ⟨b1, o1, a3, c3, rfl, hb1, x0, x1, v1, -⟩ := wview_at (wview_below h1 hB) hlt
      obtain ⟨b2, o2, a4, c4, rfl, hb2, y0, y1, v2, -⟩ := wview_at (wview_below h2 hB) hlt
      have hf1 := hf k hlt
      obtain ⟨p2, hp2⟩ := hidEx (l[k]).1
      rw [hp2.out] at x0 y0
      obtain ⟨p1, hp1⟩ := hidEx (bf (l[k]).2)
      rw [hp1.out] at v1 v2
      obtain ⟨p0, hp0⟩ := hidEx (l[k]).2.length
      rw [hp0.out] at x1 y1 v1 v2 hf1
      have hkz : (k : Int) < (l.length : Int) := by omega
      have hV := fun W (hb : Below wr.heap.size wr W) => eqWrite_same p2 a3 a4 p0 c3 c4 p1 W (v1.below hb) (v2.below hb) (by omega)
      have HWK : Hid (∀ W, Below wr.heap.size wr W → (W.cell? ⟨b1, o1 + k * 2, none⟩ = some (.int .i64 p2) ∧ W.cell? ⟨b1, o1 + k * 2 + 1, none⟩ = some (.slice a3 p0 c3)) ∧ (W.cell? ⟨b2, o2 + k * 2, none⟩ = some (.int .i64 p2) ∧ W.cell? ⟨b2, o2 + k * 2 + 1, none⟩ = some (.slice a4 p0 c4))) := by
        intro W hb
        refine ⟨⟨?_, ?_⟩, ⟨?_, ?_⟩⟩ <;> (rw [hb.cell (by first | exact hb1 | exact hb2)]; assumption)
      clear h1 h2 hf v1 v2
      go_wp2_with fail
      go_region_held3 (fun W => (W.cell? ⟨b1, o1 + k * 2, none⟩ = some (.int .i64 p2) ∧ W.cell? ⟨b1, o1 + k * 2 + 1, none⟩ = some (.slice a3 p0 c3)) ∧ (W.cell? ⟨b2, o2 + k * 2, none⟩ = some (.int .i64 p2) ∧ W.cell? ⟨b2, o2 + k * 2 + 1, none⟩ = some (.slice a4 p0 c4))) (first | assumption | go_keep) (first | (go_at_call 51; refine (hV _ (by repeat (first | exact Below.refl _ _ | refine Below.drew ?_))).mono ?_; rintro e w2 ⟨rfl, hB2⟩; have hcells : (w2.cell? ⟨b1, o1 + k * 2, none⟩ = some (.int .i64 p2) ∧ w2.cell? ⟨b1, o1 + k * 2 + 1, none⟩ = some (.slice a3 p0 c3)) ∧ (w2.cell? ⟨b2, o2 + k * 2, none⟩ = some (.int .i64 p2) ∧ w2.cell? ⟨b2, o2 + k * 2 + 1, none⟩ = some (.slice a4 p0 c4)) := HWK.out _ (Below.trans (by repeat (first | exact Below.refl _ _ | refine Below.drew ?_)) hB2)))
      all_goals
        have hB3 : Hid (Below w.heap.size w w2) := hB.trans (Below.trans (by repeat (first | exact Below.refl _ _ | refine Below.drew ?_)) (hB2.mono (by have := hB.size; exact this)))
        clear hcells HWK hV
        go_wp2
        go_roundg (l.length - (k + 1))
        case measure => omega
        case rel => exact ⟨k + 1, by omega, rfl, by go_num, by first | exact hB3.out | exact hB3.out.drew⟩
    · clear h1 h2
      go_wp2
      go_ret
      exact ⟨rfl, hB⟩

set_option maxHeartbeats 2000000 in
theorem eqDisk_same (u v : Value) (D : PDisk) (w : World) (h1 : KView w u D) (h2 : KView w v D) (hf : KFine D) :
    Calls Try.prog 10 #[u, v] w fun e w' => e = .returned (.bool true) ∧ Below w.heap.size w w' := by
  obtain ⟨sa, sc, ca, cc, fa, fc, rfl, hs1, hc1, hf1⟩ := h1.is
  obtain ⟨ta, tc, da, dc, ga, gc, rfl, hs2, hc2, hf2⟩ := h2.is
  clear h1 h2
  have e1 : (D.ops != D.ops) = false := bne_self_eq_false _
  have e2 : (D.down != D.down) = false := bne_self_eq_false _
  have hB0 : Below (w.heap.size + 1 + 1) ((w.alloc (.cells #[.slice sa D.secs.length sc, .slice ca D.cache.length cc, .int .i64 D.ops, .slice fa D.faults.length fc, .bool D.down] 35)).alloc (.cells #[.slice ta D.secs.length tc, .slice da D.cache.length dc, .int .i64 D.ops, .slice ga D.faults.length gc, .bool D.down] 35)) ((w.alloc (.cells #[.slice sa D.secs.length sc, .slice ca D.cache.length cc, .int .i64 D.ops, .slice fa D.faults.length fc, .bool D.down] 35)).alloc (.cells #[.slice ta D.secs.length tc, .slice da D.cache.length dc, .int .i64 D.ops, .slice ga D.faults.length gc, .bool D.down] 35)) := Below.refl _ _
  obtain ⟨hBw0, -⟩ := box55_below hB0
  have hV1 := eqByteSS_same sa ta sc tc D.secs _ (sview_below hs1 hBw0) (sview_below hs2 hBw0) hf.ns (fun i h => hf.sec _ (List.getElem_mem h))
  go_enter Try.func10, Try.ntmps10
  go_wp2_with fail
  refine hV1.mono ?_
  rintro e w1 ⟨rfl, hb1⟩
  have hB1 := box55_on hB0 hb1
  obtain ⟨hBw1, hs1⟩ := box55_below hB1
  obtain ⟨⟨x0, x1, x2, x3, x4⟩, y0, y1, y2, y3, y4⟩ := box55 hB1
  have hV2 := eqWriteS_same ca da cc dc D.cache w1 (wview_below hc1 hBw1) (wview_below hc2 hBw1) hf.nc (fun i h => hf.cache _ (List.getElem_mem h))
  clear hV1 hb1 hB0 hBw0 hs1 hs2
  go_wp2_with fail
  refine hV2.mono ?_
  rintro e w2 ⟨rfl, hb2⟩
  have hB2 := box55_on hB1 hb2
  obtain ⟨hBw2, hs2⟩ := box55_below hB2
  clear x0 x1 x2 x3 x4 y0 y1 y2 y3 y4
  obtain ⟨⟨x0, x1, x2, x3, x4⟩, y0, y1, y2, y3, y4⟩ := box55 hB2
  have hV3 := eqFaultS_same fa ga fc gc D.faults w2 (fview_below hf1 hBw2) (fview_below hf2 hBw2) hf.nf
  clear hV2 hb2 hB1 hBw1 hc1 hc2
  go_wp2_with fail
  refine hV3.mono ?_
  rintro e w3 ⟨rfl, hb3⟩
  have hB3 := box55_on hB2 hb3
  have HB : Hid (Below w.heap.size w w3) := (box55_below hB3).1
  clear x0 x1 x2 x3 x4 y0 y1 y2 y3 y4
  obtain ⟨⟨x0, x1, x2, x3, x4⟩, y0, y1, y2, y3, y4⟩ := box55 hB3
  clear hV3 hb3 hB2 hBw2 hf1 hf2 hf hB3
  go_wp2
  go_ret
  exact ⟨rfl, HB.out⟩
end Go.Proofs.Ytficmogjpnmfdaa

/-
  The law FnExactBestMeta.
-/
namespace Go.Proofs.Ytficmogjpnmfdaa
open Go.RowKit
set_option maxRecDepth 4000

set_option maxHeartbeats 8000000 in
theorem lawBestMeta (v : Value) (D : PDisk) (w : World) (h : KView w v D) (hm : KLim D) :
    Calls Try.prog 3 #[v] w fun e w' => e = .returned (.bool true) ∧ Below w.heap.size w w' := by
  have hv := h
  have hy := readB_bytes h
  obtain ⟨sa, sc, ca, cc, fa, fc, rfl, -, -, -⟩ := h.is
  clear h
  obtain ⟨g, r, ok, hP⟩ : ∃ g r ok, Hid (bestP D 2 = (g, r, ok)) := ⟨_, _, _, rfl⟩
  have hI : ∀ W u, KFine D → KView W u D → Calls Try.prog 8 #[u] W (MeTo W (g, r, ok)) := by
    intro W u hf hu
    have := implBest_any u D W hu hf hy
    rwa [hP.out] at this
  have hS : ∀ W u, KFine D → KView W u D → Calls Try.prog 6 #[u] W (MeTo W (g, r, ok)) := by
    intro W u hf hu
    have := specBest_any u D W hu hf hy
    rwa [hP.out] at this
  clear hP hy
  have hBw : Below w.heap.size w (w.alloc (.cells #[.slice sa D.secs.length sc, .slice ca D.cache.length cc, .int .i64 D.ops, .slice fa D.faults.length fc, .bool D.down] 26)) := (Below.refl _ _).alloc (Nat.le_refl _) _
  have nA : VN (w.alloc (.cells #[.slice sa D.secs.length sc, .slice ca D.cache.length cc, .int .i64 D.ops, .slice fa D.faults.length fc, .bool D.down] 26)) w.heap.size 26 [.slice sa D.secs.length sc, .slice ca D.cache.length cc, .int .i64 D.ops, .slice fa D.faults.length fc, .bool D.down] := VN.new w 26 [.slice sa D.secs.length sc, .slice ca D.cache.length cc, .int .i64 D.ops, .slice fa D.faults.length fc, .bool D.down]
  have hZ := szDisk_fine _ D 1048576 _ (hv.below hBw) hm (by omega) (by omega)
  clear hm
  go_enter Try.func3, Try.ntmps3
  go_wp2_with fail
  refine hZ.mono ?_
  rintro e w1 ⟨L, rfl, hb1, hL⟩
  clear hZ
  replace nA := nA.below hb1
  replace hBw := hBw.trans (hb1.mono hBw.size)
  rcases hL with rfl | ⟨hL0, hL1, hf⟩
  · have HB : Hid (Below w.heap.size w w1) := hBw
    clear hv nA hBw hb1 hI hS
    go_wp2
    go_ret
    exact ⟨rfl, HB.out⟩
  have hLn : ¬ L < 0 := by omega
  have hqq : (ok == ok) = true := beq_self_eq_true _
  clear hb1
  have hC := toDisk_any _ D w1 (hv.below hBw) hf
  have nA0 : w1.cell? ⟨w.heap.size, 0, none⟩ = some (.slice sa D.secs.length sc) := nA.cell 0
  have nA1 : w1.cell? ⟨w.heap.size, 1, none⟩ = some (.slice ca D.cache.length cc) := nA.cell 1
  have nA2 : w1.cell? ⟨w.heap.size, 2, none⟩ = some (.int .i64 D.ops) := nA.cell 2
  have nA3 : w1.cell? ⟨w.heap.size, 3, none⟩ = some (.slice fa D.faults.length fc) := nA.cell 3
  have nA4 : w1.cell? ⟨w.heap.size, 4, none⟩ = some (.bool D.down) := nA.cell 4
  go_wp2_with fail
  refine hC.mono ?_
  rintro e w2 ⟨v2, rfl, hO2, hb2⟩
  clear hC
  clear nA0 nA1 nA2 nA3 nA4
  replace nA := nA.below hb2
  replace hBw := hBw.trans (hb2.mono hBw.size)
  clear hb2
  have hC := hS w2 v2 hf hO2.view
  go_wp2_with fail
  refine hC.mono ?_
  rintro e w3 ⟨rfl, hb3⟩
  clear hC hO2 hS
  replace nA := nA.below hb3
  replace hBw := hBw.trans (hb3.mono hBw.size)
  clear hb3
  have hbM : Below w3.heap.size w3 (w3.alloc (.cells #[.int .i64 g, .int .i64 r] 29)) := (Below.refl _ _).alloc (Nat.le_refl _) _
  have hM := MBox.new w3 g r
  replace nA := nA.below hbM
  replace hBw := hBw.trans (hbM.mono hBw.size)
  obtain ⟨W3, hW3⟩ : ∃ x, Hid (w3.alloc (.cells #[.int .i64 g, .int .i64 r] 29) = x) := ⟨_, rfl⟩
  obtain ⟨M, hMe⟩ : ∃ x, Hid (w3.heap.size = x) := ⟨_, rfl⟩
  rw [hW3.out] at nA hBw hM
  rw [hMe.out] at hM
  clear hbM
  have hC := toDisk_any _ D W3 (hv.below hBw) hf
  have nA0 : W3.cell? ⟨w.heap.size, 0, none⟩ = some (.slice sa D.secs.length sc) := nA.cell 0
  have nA1 : W3.cell? ⟨w.heap.size, 1, none⟩ = some (.slice ca D.cache.length cc) := nA.cell 1
  have nA2 : W3.cell? ⟨w.heap.size, 2, none⟩ = some (.int .i64 D.ops) := nA.cell 2
  have nA3 : W3.cell? ⟨w.heap.size, 3, none⟩ = some (.slice fa D.faults.length fc) := nA.cell 3
  have nA4 : W3.cell? ⟨w.heap.size, 4, none⟩ = some (.bool D.down) := nA.cell 4
  go_wp2_with (rw [hW3.out])
  rw [hMe.out]
  refine hC.mono ?_
  rintro e w4 ⟨v4, rfl, hO4, hb4⟩
  clear hC hW3 hMe
  clear nA0 nA1 nA2 nA3 nA4
  replace nA := nA.below hb4
  replace hM := hM.below hb4
  replace hBw := hBw.trans (hb4.mono hBw.size)
  clear hb4
  have hVx := hO4.view
  obtain ⟨x1, x2, x3, x4, x5, x6, cx1, cx2, ex, -⟩ := id hO4
  subst ex
  unfold dval at hVx ⊢
  clear hO4
  have hbX : Below w4.heap.size w4 (w4.alloc (.cells #[.slice x1 D.secs.length x2, .slice x3 D.cache.length x4, .int .i64 D.ops, .slice x5 D.faults.length x6, .bool D.down] 35)) := (Below.refl _ _).alloc (Nat.le_refl _) _
  have nx := VN.new w4 35 [.slice x1 D.secs.length x2, .slice x3 D.cache.length x4, .int .i64 D.ops, .slice x5 D.faults.length x6, .bool D.down]
  replace nA := nA.below hbX
  replace hM := hM.below hbX
  replace hVx := hVx.below hbX
  replace hBw := hBw.trans (hbX.mono hBw.size)
  obtain ⟨W5, hW5⟩ : ∃ x, Hid (w4.alloc (.cells #[.slice x1 D.secs.length x2, .slice x3 D.cache.length x4, .int .i64 D.ops, .slice x5 D.faults.length x6, .bool D.down] 35) = x) := ⟨_, rfl⟩
  obtain ⟨X, hXe⟩ : ∃ x, Hid (w4.heap.size = x) := ⟨_, rfl⟩
  have nx' : VN W5 w4.heap.size 35 [.slice x1 D.secs.length x2, .slice x3 D.cache.length x4, .int .i64 D.ops, .slice x5 D.faults.length x6, .bool D.down] := by rw [← hW5.out]; exact nx
  rw [hW5.out] at nA hM hVx hBw
  clear nx hbX
  have hC := hI W5 _ hf hVx
  have nx0 : W5.cell? ⟨w4.heap.size, 0, none⟩ = some (.slice x1 D.secs.length x2) := nx'.cell 0
  have nx1 : W5.cell? ⟨w4.heap.size, 1, none⟩ = some (.slice x3 D.cache.length x4) := nx'.cell 1
  have nx2 : W5.cell? ⟨w4.heap.size, 2, none⟩ = some (.int .i64 D.ops) := nx'.cell 2
  have nx3 : W5.cell? ⟨w4.heap.size, 3, none⟩ = some (.slice x5 D.faults.length x6) := nx'.cell 3
  have nx4 : W5.cell? ⟨w4.heap.size, 4, none⟩ = some (.bool D.down) := nx'.cell 4
  go_wp2_with (rw [hW5.out])
  rw [hXe.out] at nx' ⊢
  refine hC.mono ?_
  rintro e w6 ⟨rfl, hb6⟩
  clear hC hI hW5 hXe
  clear nx0 nx1 nx2 nx3 nx4
  replace nA := nA.below hb6
  replace nx' := nx'.below hb6
  replace hM := hM.below hb6
  replace hVx := hVx.below hb6
  replace hBw := hBw.trans (hb6.mono hBw.size)
  have hbN : Below w6.heap.size w6 (w6.alloc (.cells #[.int .i64 g, .int .i64 r] 29)) := (Below.refl _ _).alloc (Nat.le_refl _) _
  have hN := MBox.new w6 g r
  replace nA := nA.below hbN
  replace nx' := nx'.below hbN
  replace hM := hM.below hbN
  replace hVx := hVx.below hbN
  replace hBw := hBw.trans (hbN.mono hBw.size)
  obtain ⟨W7, hW7⟩ : ∃ x, Hid (w6.alloc (.cells #[.int .i64 g, .int .i64 r] 29) = x) := ⟨_, rfl⟩
  rw [hW7.out] at nA nx' hM hN hVx hBw
  obtain ⟨m0, m1⟩ := hM.cells
  obtain ⟨q0, q1⟩ := hN.cells
  clear hb6 hbN hM hN
  go_wp2_with (rw [hW7.out])
  refine (eqMeta_same g r W7).mono ?_
  rintro e w8 ⟨rfl, hb8⟩
  clear hW7 m0 m1 q0 q1
  replace nA := nA.below hb8
  replace nx' := nx'.below hb8
  replace hVx := hVx.below hb8
  replace hBw := hBw.trans (hb8.mono hBw.size)
  clear hb8
  go_wp2_with fail
  have hBd : Below w.heap.size w w8.drew := hBw.drew
  replace nA := nA.below (Below.refl _ _).drew
  replace nx' := nx'.below (Below.refl _ _).drew
  replace hVx := hVx.below (Below.refl _ _).drew
  refine wp_region_held_drew (S := fun W => (W.cell? ⟨X, 0, none⟩ = some (.slice x1 D.secs.length x2) ∧ W.cell? ⟨X, 1, none⟩ = some (.slice x3 D.cache.length x4) ∧ W.cell? ⟨X, 2, none⟩ = some (.int .i64 D.ops) ∧ W.cell? ⟨X, 3, none⟩ = some (.slice x5 D.faults.length x6) ∧ W.cell? ⟨X, 4, none⟩ = some (.bool D.down)) ∧ (W.cell? ⟨w.heap.size, 0, none⟩ = some (.slice sa D.secs.length sc) ∧ W.cell? ⟨w.heap.size, 1, none⟩ = some (.slice ca D.cache.length cc) ∧ W.cell? ⟨w.heap.size, 2, none⟩ = some (.int .i64 D.ops) ∧ W.cell? ⟨w.heap.size, 3, none⟩ = some (.slice fa D.faults.length fc) ∧ W.cell? ⟨w.heap.size, 4, none⟩ = some (.bool D.down))) (by kernel_rfl) ⟨⟨nx'.cell 0, nx'.cell 1, nx'.cell 2, nx'.cell 3, nx'.cell 4⟩, ⟨nA.cell 0, nA.cell 1, nA.cell 2, nA.cell 3, nA.cell 4⟩⟩ (fun hHeld => ?_)
  refine' wpAnyH_take (i := 0) (v := _) rfl (by kernel_rfl) (by kernel_rfl) (by kernel_rfl) (fun _ _ _ h => h) (Or.inl ⟨by kernel_rfl, ?hbm1⟩) (by assumption) ?rbm1
  case hbm1 => intro W hW; obtain ⟨⟨c0, c1, c2, c3, c4⟩, ⟨d0, d1, d2, d3, d4⟩⟩ := hW; go_simp; all_goals with_reducible rfl
  change wpAnyH _ _ _ _ _ _ _ (Act.put _ (some 36) _) _
  simp only [Act.put, List.setIfInBounds_toArray, List.set_cons_zero, List.set_cons_succ]
  refine' wpAnyH_take (i := 1) (v := _) rfl (by kernel_rfl) (by kernel_rfl) (by kernel_rfl) (fun _ _ _ h => h) (Or.inl ⟨by kernel_rfl, ?hbm2⟩) (by assumption) ?rbm2
  case hbm2 => intro W hW; obtain ⟨⟨c0, c1, c2, c3, c4⟩, ⟨d0, d1, d2, d3, d4⟩⟩ := hW; go_simp; all_goals with_reducible rfl
  change wpAnyH _ _ _ _ _ _ _ (Act.put _ (some 37) _) _
  simp only [Act.put, List.setIfInBounds_toArray, List.set_cons_zero, List.set_cons_succ]
  refine wpAnyH_ready (rs := [2]) (by kernel_rfl) (by simp) ?_
  refine AllReadyH.cons rfl (fun KK hK => ?_) AllReadyH.nil
  go_simp
  refine (toDisk_any _ D _ (hv.below hBd) hf).mono ?_
  rintro e w9 ⟨v9, rfl, hO9, hb9⟩
  replace nA := nA.below hb9
  replace nx' := nx'.below hb9
  replace hVx := hVx.below hb9
  replace hBd := hBd.trans (hb9.mono hBd.size)
  have hV9 := hO9.view
  clear hb9 hO9 hHeld
  go_wp2_with fail
  refine hK.out _ _ ⟨⟨nx'.cell 0, nx'.cell 1, nx'.cell 2, nx'.cell 3, nx'.cell 4⟩, ⟨nA.cell 0, nA.cell 1, nA.cell 2, nA.cell 3, nA.cell 4⟩⟩ (fun hHeld => ?_)
  clear hK KK
  try simp only [Act.put, List.setIfInBounds_toArray, List.set_cons_zero, List.set_cons_succ]
  refine wpAnyH_ready (rs := [3]) (by kernel_rfl) (by simp) ?_
  refine AllReadyH.cons rfl (fun KK hK => ?_) AllReadyH.nil
  go_simp
  refine (eqDisk_same _ _ D _ hVx hV9 hf).mono ?_
  rintro e w10 ⟨rfl, hb10⟩
  replace nA := nA.below hb10
  replace nx' := nx'.below hb10
  replace hBd := hBd.trans (hb10.mono hBd.size)
  clear hb10 hV9 hVx hHeld
  go_wp2_with fail
  refine hK.out _ _ ⟨⟨nx'.cell 0, nx'.cell 1, nx'.cell 2, nx'.cell 3, nx'.cell 4⟩, ⟨nA.cell 0, nA.cell 1, nA.cell 2, nA.cell 3, nA.cell 4⟩⟩ (fun hHeld => ?_)
  clear hK KK
  try simp only [Act.put, List.setIfInBounds_toArray, List.set_cons_zero, List.set_cons_succ]
  refine' wpAnyH_take (i := 4) (v := _) rfl (by kernel_rfl) (by kernel_rfl) (by kernel_rfl) (fun _ _ _ h => h) (Or.inl ⟨by kernel_rfl, ?hbm3⟩) (by assumption) ?rbm3
  case hbm3 => intro W hW; obtain ⟨⟨c0, c1, c2, c3, c4⟩, ⟨d0, d1, d2, d3, d4⟩⟩ := hW; go_simp; all_goals with_reducible rfl
  change wpAnyH _ _ _ _ _ _ _ (Act.put _ (some 40) _) _
  simp only [Act.put, List.setIfInBounds_toArray, List.set_cons_zero, List.set_cons_succ]
  refine wpAnyH_done (by kernel_rfl) ?_ _
  clear nA nx' hHeld
  go_wp2
  go_ret
  exact ⟨rfl, hBd⟩

end Go.Proofs.Ytficmogjpnmfdaa

/-
  What the frame of a row hands over of a disk, and of faults, that came in.
-/
namespace Go.Proofs.Ytficmogjpnmfdaa
open Go.RowKit
set_option maxRecDepth 4000
open Go.Deep Go.ChangeShapes Go.WideShapes

/-- A slice that came in, whose elements are each read, as a list. -/
theorem sliceInL {H : Type} {enc : TypeId × Value → H} {W : World} {sp : Nat → Bool} {α : Type} [Inhabited α] {T e : TypeId} {c fuel : Nat} {cs : List Value} {x : DataW H × List MemPlace}
    (ht : Try.prog.underlying T = some (.slice e)) (hc : Try.prog.cellsOf e = c) (hc0 : 0 < c) (Q : Addr → α → Prop)
    (each : ∀ (fuel : Nat) (cs : List Value) (x : DataW H × List MemPlace) (a : Addr), cs.length = c → (∀ j, j < c → W.cell? (a.add j) = cs[j]?) → DataW.trod enc Try.prog W 0 sp true fuel e cs = some x → ∃ y, Q a y)
    (h : DataW.trod enc Try.prog W 0 sp true fuel T cs = some x) :
    ∃ (ao : Option Addr) (cap : Nat) (l : List α), cs = [.slice ao l.length cap] ∧ l.length ≤ cap ∧ cap ≤ maxLen ∧ (ao = none → cap = 0) ∧ (0 < l.length → ∃ b off, ao = some ⟨b, off, none⟩ ∧ b < W.heap.size ∧ ∀ i y, l[i]? = some y → Q ⟨b, off + i * c, none⟩ y) := by
  rcases DataW.trod_slice ht h with ⟨hcs, _⟩ | ⟨a, l, cap, elems, rest, n, _, hcs, _, _, hl, hm, hlen, hel, _, _⟩
  · exact ⟨none, 0, [], hcs, Nat.le_refl _, Nat.zero_le _, fun _ => rfl, fun h => absurd h (Nat.lt_irrefl _)⟩
  · have key : ∀ i, i < l → ∃ y, Q (a.add (i * c)) y ∧ W.cell? (a.add (i * c)) ≠ none := by
      intro i hi
      have h1 := hel i hi
      rw [hc] at h1
      have h2 : elems[i]? = some elems[i] := List.getElem?_eq_getElem (by omega)
      rw [h2] at h1
      obtain ⟨cs, hcs, htr⟩ := Option.bind_eq_some_iff.1 h1
      obtain ⟨_, hl3, hcell⟩ := World.cells?_some hcs
      obtain ⟨y, hy⟩ := each n cs _ _ hl3 (fun j hj => hcell j hj) htr
      refine ⟨y, hy, ?_⟩
      have := hcell 0 (by omega)
      intro hn
      rw [show (a.add (i * c)).add 0 = a.add (i * c) by unfold Addr.add; split <;> simp_all, hn, List.getElem?_eq_getElem (by omega)] at this
      cases this
    have pick : ∃ f : Nat → α, ∀ i, i < l → Q (a.add (i * c)) (f i) := ⟨fun i => if h : i < l then (key i h).choose else default, fun i hi => by simp only [dif_pos hi]; exact (key i hi).choose_spec.1⟩
    obtain ⟨f, hf⟩ := pick
    have ll : ((List.range l).map f).length = l := by simp
    refine ⟨some a, cap, (List.range l).map f, by rw [ll]; exact hcs, by rw [ll]; exact hl, hm, (fun e => by cases e), fun hn => ?_⟩
    rw [ll] at hn
    obtain ⟨b, off, spot⟩ := a
    obtain ⟨y0, -, h0⟩ := key 0 hn
    obtain ⟨u, hu⟩ := Option.ne_none_iff_exists'.1 h0
    have hs : spot = none := by simpa [Addr.add] using World.cell?_spot hu
    subst hs
    have ea : ∀ j, (⟨b, off, none⟩ : Addr).add j = ⟨b, off + j, none⟩ := fun j => by unfold Addr.add; split <;> simp_all
    rw [ea] at hu
    refine ⟨b, off, rfl, World.block_lt_of_cell? _ _ hu, fun i y hi => ?_⟩
    obtain ⟨hi', e⟩ := List.getElem?_eq_some_iff.1 hi
    rw [ll] at hi'
    have hq := hf i hi'
    rw [ea] at hq
    simp at e
    rw [← e]
    exact hq
theorem addrAdd (b off j : Nat) : (⟨b, off, none⟩ : Addr).add j = ⟨b, off + j, none⟩ := by unfold Addr.add; split <;> simp_all
/-- Bytes that came in, as a cell. -/
theorem bytesIn {H : Type} {enc : TypeId × Value → H} {W : World} {sp : Nat → Bool} {fuel : Nat} {cs : List Value} {x : DataW H × List MemPlace}
    (h : DataW.trod enc Try.prog W 0 sp true fuel 49 cs = some x) : ∃ (v : Value) (l : List Int), cs = [v] ∧ LV W v l ∧ l.length ≤ maxLen := by
  have c1 : Try.prog.cellsOf 5 = 1 := by kernel_rfl
  obtain ⟨a, cap, l, e, hl, hm, hn, hv⟩ := sliceInL (α := Int) Try.underlying49 c1 (by decide) (fun a y => W.cell? (a.add 0) = some (.int .u8 y) ∧ 0 ≤ y ∧ y ≤ 255) (by
    intro fuel cs x a hl hcell htr
    match cs, hl with
    | [c0], _ =>
      obtain ⟨k, e0, _, hk⟩ := DataW.trod_int Try.underlying5 htr
      simp only [List.cons.injEq, and_true] at e0
      subst e0
      have hw : 0 ≤ k ∧ k ≤ 255 := by
        have := range_u8 (zs := [k]) (by intro n hn; simp at hn; subst hn; exact hk) 0
        simpa using this
      exact ⟨k, hcell 0 (by decide), hw⟩) h
  refine ⟨_, l, e, ⟨a, cap, rfl, ⟨hl, fun i hi => ?_, fun hp => ?_⟩, hn⟩, Nat.le_trans hl hm⟩
  · obtain ⟨b, off, ea, hlt, hc⟩ := hv (by omega)
    have := (hc i l[i] (List.getElem?_eq_getElem hi)).2
    have e : bf l i = l[i] := by simp [bf, hi]
    rw [e]; exact this
  · obtain ⟨b, off, ea, hlt, hc⟩ := hv hp
    refine ⟨b, off, ea, hlt, fun i hi => ?_⟩
    have := (hc i l[i] (List.getElem?_eq_getElem hi)).1
    have e : bf l i = l[i] := by simp [bf, hi]
    rw [e]
    simpa only [addrAdd, Nat.add_zero, Nat.mul_one] using this
theorem secsIn {H : Type} {enc : TypeId × Value → H} {W : World} {sp : Nat → Bool} {fuel : Nat} {cs : List Value} {x : DataW H × List MemPlace}
    (h : DataW.trod enc Try.prog W 0 sp true fuel 22 cs = some x) : ∃ a cap l, cs = [.slice a l.length cap] ∧ SView W a cap l ∧ l.length ≤ maxLen ∧ ∀ i (h : i < l.length), (l[i]).length ≤ maxLen := by
  have c1 : Try.prog.cellsOf 49 = 1 := by kernel_rfl
  obtain ⟨a, cap, l, e, hl, hm, hn, hv⟩ := sliceInL (α := List Int) Try.underlying22 c1 (by decide) (fun a y => (∃ u, W.cell? (a.add 0) = some u ∧ LV W u y) ∧ y.length ≤ maxLen) (by
    intro fuel cs x a hl hcell htr
    obtain ⟨v, y, rfl, hy, hm⟩ := bytesIn htr
    exact ⟨y, ⟨v, hcell 0 (by decide), hy⟩, hm⟩) h
  refine ⟨a, cap, l, e, ⟨hl, hn, fun hp => ?_⟩, Nat.le_trans hl hm, fun i hi => ?_⟩
  · obtain ⟨b, off, ea, hlt, hc⟩ := hv hp
    refine ⟨b, off, ea, hlt, fun i y hi => ?_⟩
    obtain ⟨⟨u, hu, hy⟩, -⟩ := hc i y hi
    refine ⟨[u], ⟨u, rfl, hy⟩, fun j v hj => ?_⟩
    match j, hj with
    | 0, hj => cases hj; simpa only [addrAdd, Nat.add_zero] using hu
  · obtain ⟨b, off, ea, hlt, hc⟩ := hv (by omega)
    exact (hc i _ (List.getElem?_eq_getElem hi)).2
theorem writesIn {H : Type} {enc : TypeId × Value → H} {W : World} {sp : Nat → Bool} {fuel : Nat} {cs : List Value} {x : DataW H × List MemPlace}
    (h : DataW.trod enc Try.prog W 0 sp true fuel 23 cs = some x) : ∃ a cap l, cs = [.slice a l.length cap] ∧ WView W a cap l ∧ l.length ≤ maxLen ∧ ∀ i (h : i < l.length), (l[i]).2.length ≤ maxLen := by
  have c1 : Try.prog.cellsOf 69 = 2 := by kernel_rfl
  obtain ⟨a, cap, l, e, hl, hm, hn, hv⟩ := sliceInL (α := Int × List Int) Try.underlying23 c1 (by decide) (fun a y => (W.cell? (a.add 0) = some (.int .i64 y.1) ∧ ∃ u, W.cell? (a.add 1) = some u ∧ LV W u y.2) ∧ y.2.length ≤ maxLen) (by
    intro fuel cs x a hl hcell htr
    obtain ⟨y0, y1, m, _, _, t0, t1⟩ := trod_struct2 Try.underlying69 htr
    have o1 : Try.prog.cellsOf 3 = 1 := by kernel_rfl
    have o2 : Try.prog.cellsOf 49 = 1 := by kernel_rfl
    simp only [o1, o2] at t0 t1
    match cs, hl with
    | [c0, c1], _ =>
      simp only [List.drop_zero, List.drop_succ_cons, List.take_succ_cons, List.take_zero] at t0 t1
      obtain ⟨k, e0, _, _⟩ := DataW.trod_int Try.underlying3 t0
      obtain ⟨v, y, e1, hy, hm⟩ := bytesIn t1
      simp only [List.cons.injEq, and_true] at e0 e1
      subst e0 e1
      exact ⟨(k, y), ⟨hcell 0 (by decide), _, hcell 1 (by decide), hy⟩, hm⟩) h
  refine ⟨a, cap, l, e, ⟨hl, hn, fun hp => ?_⟩, Nat.le_trans hl hm, fun i hi => ?_⟩
  · obtain ⟨b, off, ea, hlt, hc⟩ := hv hp
    refine ⟨b, off, ea, hlt, fun i y hi => ?_⟩
    obtain ⟨⟨h0, u, hu, hy⟩, -⟩ := hc i y hi
    refine ⟨[.int .i64 y.1, u], ⟨u, rfl, hy⟩, fun j v hj => ?_⟩
    match j, hj with
    | 0, hj => cases hj; simpa only [addrAdd, Nat.add_zero] using h0
    | 1, hj => cases hj; simpa only [addrAdd, Nat.add_zero] using hu
  · obtain ⟨b, off, ea, hlt, hc⟩ := hv (by omega)
    exact (hc i _ (List.getElem?_eq_getElem hi)).2
instance : Inhabited PFault := ⟨⟨0, 0, 0⟩⟩
theorem faultsIn {H : Type} {enc : TypeId × Value → H} {W : World} {sp : Nat → Bool} {fuel : Nat} {cs : List Value} {x : DataW H × List MemPlace}
    (h : DataW.trod enc Try.prog W 0 sp true fuel 24 cs = some x) : ∃ a cap l, cs = [.slice a l.length cap] ∧ FView W a cap l ∧ l.length ≤ maxLen := by
  have c1 : Try.prog.cellsOf 62 = 3 := by kernel_rfl
  obtain ⟨a, cap, l, e, hl, hm, hn, hv⟩ := sliceInL (α := PFault) Try.underlying24 c1 (by decide) (fun a y => W.cell? (a.add 0) = some (.int .i64 y.pos) ∧ W.cell? (a.add 1) = some (.int .i64 y.keep) ∧ W.cell? (a.add 2) = some (.int .i64 y.cut)) (by
    intro fuel cs x a hl hcell htr
    obtain ⟨y0, y1, y2, m, _, _, t0, t1, t2⟩ := trod_struct3 Try.underlying62 htr
    have o1 : Try.prog.cellsOf 3 = 1 := by kernel_rfl
    simp only [o1] at t0 t1 t2
    match cs, hl with
    | [c0, c1, c2], _ =>
      simp only [List.drop_zero, List.drop_succ_cons, List.take_succ_cons, List.take_zero] at t0 t1 t2
      obtain ⟨k0, e0, _, _⟩ := DataW.trod_int Try.underlying3 t0
      obtain ⟨k1, e1, _, _⟩ := DataW.trod_int Try.underlying3 t1
      obtain ⟨k2, e2, _, _⟩ := DataW.trod_int Try.underlying3 t2
      simp only [List.cons.injEq, and_true] at e0 e1 e2
      subst e0 e1 e2
      exact ⟨⟨k0, k1, k2⟩, hcell 0 (by decide), hcell 1 (by decide), hcell 2 (by decide)⟩) h
  refine ⟨a, cap, l, e, ⟨hl, hn, fun hp => ?_⟩, Nat.le_trans hl hm⟩
  obtain ⟨b, off, ea, hlt, hc⟩ := hv hp
  refine ⟨b, off, ea, hlt, fun i y hi => ?_⟩
  obtain ⟨h0, h1, h2⟩ := hc i y hi
  refine ⟨_, rfl, fun j v hj => ?_⟩
  match j, hj with
  | 0, hj => cases hj; simpa only [addrAdd, Nat.add_zero] using h0
  | 1, hj => cases hj; simpa only [addrAdd, Nat.add_zero] using h1
  | 2, hj => cases hj; simpa only [addrAdd, Nat.add_zero] using h2
/-- The five cells of a disk that came in. -/
theorem diskIn {H : Type} {enc : TypeId × Value → H} {W : World} {sp : Nat → Bool} {n0 n1 n2 n3 n4 : Nat} {c0 c1 c2 c3 c4 : Value} {y0 y1 y2 y3 y4 : DataW H × List MemPlace}
    (h0 : DataW.trod enc Try.prog W 0 sp true n0 22 [c0] = some y0) (h1 : DataW.trod enc Try.prog W 0 sp true n1 23 [c1] = some y1)
    (h2 : DataW.trod enc Try.prog W 0 sp true n2 3 [c2] = some y2) (h3 : DataW.trod enc Try.prog W 0 sp true n3 24 [c3] = some y3) (h4 : DataW.trod enc Try.prog W 0 sp true n4 4 [c4] = some y4) :
    ∃ D : PDisk, KView W (.agg #[c0, c1, c2, c3, c4]) D ∧ KLim D := by
  obtain ⟨sa, sc, ls, e0, v0, m0, z0⟩ := secsIn h0
  obtain ⟨ca, cc, lc, e1, v1, m1, z1⟩ := writesIn h1
  obtain ⟨k, e2, _, _⟩ := DataW.trod_int Try.underlying3 h2
  obtain ⟨fa, fc, lf, e3, v3, m3⟩ := faultsIn h3
  obtain ⟨z, e4, _⟩ := DataW.trod_bool Try.underlying4 h4
  simp only [List.cons.injEq, and_true] at e0 e1 e2 e3 e4
  subst e0 e1 e2 e3 e4
  exact ⟨⟨ls, lc, k, lf, z⟩, ⟨sa, sc, ca, cc, fa, fc, rfl, v0, v1, v3⟩, ⟨m0, z0, m1, z1, m3⟩⟩
theorem array5 {α : Type} {cs : Array α} (h : cs.size = 5) : ∃ c0 c1 c2 c3 c4, cs = #[c0, c1, c2, c3, c4] := by
  obtain ⟨l⟩ := cs
  match l, h with
  | [c0, c1, c2, c3, c4], _ => exact ⟨c0, c1, c2, c3, c4, rfl⟩
/-- A struct of five fields of one cell each, opened. -/
theorem openFive {H : Type} {enc : TypeId × Value → H} {w : World} {base : Nat} {spare : Nat → Bool} {held : Bool} {r : Reach} {b0 : Nat} {t : TypeId} {f0 f1 f2 f3 f4 : Field} {v : Value} {d : DataW H} {p : List MemPlace} (hs : Try.prog.underlying t = some (.struct #[f0, f1, f2, f3, f4])) (hone : oneCellFields Try.prog #[f0, f1, f2, f3, f4] = true) (hC : Try.prog.cellsOf t = 5)
    (hv : Value.okWide Try.prog w r b0 t v) (h : DataW.Trod enc Try.prog w base spare held t v d p) :
    ∃ (v0 v1 v2 v3 v4 : Value) (y0 y1 y2 y3 y4 : DataW H × List MemPlace) (n : Nat), v = .agg #[v0, v1, v2, v3, v4] ∧ d = .agg [y0.1, y1.1, y2.1, y3.1, y4.1] ∧ p = y0.2 ++ (y1.2 ++ (y2.2 ++ (y3.2 ++ y4.2))) ∧
      DataW.trod enc Try.prog w base spare held n f0.type [v0] = some y0 ∧ DataW.trod enc Try.prog w base spare held n f1.type [v1] = some y1 ∧ DataW.trod enc Try.prog w base spare held n f2.type [v2] = some y2 ∧ DataW.trod enc Try.prog w base spare held n f3.type [v3] = some y3 ∧ DataW.trod enc Try.prog w base spare held n f4.type [v4] = some y4 := by
  obtain ⟨cs, rfl, hsz⟩ := okWide_struct hs hv
  obtain ⟨c0, c1, c2, c3, c4, rfl⟩ := array5 (hsz.trans hC)
  obtain ⟨fuel, hf⟩ := h
  obtain ⟨xs, n, _, hx, hl, hlen, hfs⟩ := DataW.trod_struct hs hf
  match xs, hlen, hx, hfs with
  | [y0, y1, y2, y3, y4], _, hx, hfs =>
    have h0 := hfs 0 f0 rfl
    have h1 := hfs 1 f1 rfl
    have h2 := hfs 2 f2 rfl
    have h3 := hfs 3 f3 rfl
    have h4 := hfs 4 f4 rfl
    obtain ⟨o0, k0⟩ := hone_of hone 0 f0 rfl
    obtain ⟨o1, k1⟩ := hone_of hone 1 f1 rfl
    obtain ⟨o2, k2⟩ := hone_of hone 2 f2 rfl
    obtain ⟨o3, k3⟩ := hone_of hone 3 f3 rfl
    obtain ⟨o4, k4⟩ := hone_of hone 4 f4 rfl
    simp only [Prod.mk.injEq] at hx
    exact ⟨c0, c1, c2, c3, c4, y0, y1, y2, y3, y4, n, rfl, by simpa using hx.1, by simpa using hx.2, by simpa [Value.cells, o0, k0] using h0, by simpa [Value.cells, o1, k1] using h1, by simpa [Value.cells, o2, k2] using h2, by simpa [Value.cells, o3, k3] using h3, by simpa [Value.cells, o4, k4] using h4⟩
end Go.Proofs.Ytficmogjpnmfdaa

