/-
  How much a disk holds, as the law counts it: rows of sectors and of writes, and the disk.
-/
import Derived.Test.YtagjgnephaaehaaDiskSize
namespace Go.Proofs.Ytagjgnephaaehaa
open Go.RowKit
set_option maxRecDepth 4000

set_option maxHeartbeats 1000000 in
theorem szWrite_fine (x : Int) (a : Option Addr) (n cap : Nat) (left : Int) (w : World) (hs : n ≤ maxLen) (h0 : 0 ≤ left) (hl : left ≤ 1048576) :
    Calls Try.prog 41 #[.agg #[.int .i64 x, .slice a n cap], .int .i64 left] w (LeftK w left (n ≤ 1048576)) := by
  have hS := fun W => szByteS_fine a n cap left W hs h0 hl
  go_enter Try.func41, Try.ntmps41
  go_wp2_with fail
  refine (hS _).mono ?_
  rintro e w1 ⟨L, rfl, hb1, hL⟩
  have HB : Hid (Below w.heap.size w w1) := ((Below.refl _ _).alloc (Nat.le_refl _) _).trans (hb1.mono (by simp))
  clear hS hb1
  rcases hL with rfl | ⟨hL0, hL1, hP⟩
  · go_wp2
    go_ret
    exact ⟨_, rfl, HB.out, .inl rfl⟩
  · have hLn : ¬ L < 0 := by omega
    go_wp2
    go_ret
    exact ⟨_, rfl, HB.out, .inr ⟨by omega, by omega, hP⟩⟩

set_option maxHeartbeats 2000000 in
theorem szByteSS_fine (a : Option Addr) (cap : Nat) (l : List (List Int)) (left : Int) (w : World) (h : SView w a cap l) (hn : l.length ≤ maxLen) (hz : ∀ i (h : i < l.length), (l[i]).length ≤ maxLen) (h0 : 0 ≤ left) (hl : left ≤ 1048576) :
    Calls Try.prog 17 #[.slice a l.length cap, .int .i64 left] w (LeftK w left (l.length ≤ 1048576 ∧ ∀ i (h : i < l.length), (l[i]).length ≤ 1048576)) := by
  have hn' : (l.length : Int) ≤ 9223372036854775807 := by unfold maxLen at hn; omega
  by_cases hb : left - (l.length : Int) < 0
  · go_enter Try.func17, Try.ntmps17
    go_wp2
    go_ret
    exact ⟨_, rfl, Below.refl _ _, .inl rfl⟩
  go_enter Try.func17, Try.ntmps17
  go_wp2
  go_loopg [1, 5] l.length (fun q t i wr => ∃ (k : Nat) (L : Int), k ≤ l.length ∧ q = l.length - k ∧ t = .int .i64 L ∧ i = .int .i64 k ∧ Below w.heap.size w wr ∧ 0 ≤ L ∧ L ≤ left - l.length ∧ Hid (∀ i (h : i < l.length), i < k → (l[i]).length ≤ 1048576))
  case atStart => exact ⟨0, left - l.length, Nat.zero_le _, rfl, rfl, rfl, Below.refl _ _, by omega, by omega, fun i _ hi => absurd hi (Nat.not_lt_zero _)⟩
  case round =>
    obtain ⟨k, L, hk, rfl, rfl, rfl, hB, hL0, hL1, HA⟩ := hrel
    by_cases hlt : k < l.length
    · obtain ⟨b1, o1, a', c', rfl, hb1, x0, -, -⟩ := sview_at (sview_below h hB) hlt
      have hkz : (k : Int) < (l.length : Int) := by omega
      have hS := fun W => szByteS_fine a' (l[k]).length c' L W (hz k hlt) hL0 (by omega)
      have HN : Hid ((l[k]).length ≤ 1048576 → ∀ i (h : i < l.length), i < k + 1 → (l[i]).length ≤ 1048576) := by
        intro hp i h hi
        by_cases e : i < k
        · exact HA.out i h e
        · obtain rfl : i = k := by omega
          exact hp
      clear h hz HA
      obtain ⟨p0, hp0⟩ := hidEx (l[k]).length
      rw [hp0.out] at x0 HN
      simp only [hp0.out] at hS
      go_wp2_with fail
      refine (hS _).mono ?_
      rintro e w1 ⟨L', rfl, hb1', hL⟩
      have HB : Hid (Below w.heap.size w w1) := hB.trans (hb1'.mono hB.size)
      clear hS hb1' hB
      rcases hL with rfl | ⟨hL0', hL1', hP⟩
      · go_wp2
        go_ret
        exact ⟨_, rfl, HB.out, .inl rfl⟩
      · have hLn : ¬ L' < 0 := by omega
        have HN2 : Hid (∀ i (h : i < l.length), i < k + 1 → (l[i]).length ≤ 1048576) := HN.out hP
        clear HN
        go_wp2
        go_roundg (l.length - (k + 1))
        case measure => omega
        case rel => exact ⟨k + 1, L', by omega, rfl, rfl, by go_num, HB.out, by omega, by omega, HN2⟩
    · have hkz : ¬ (k : Int) < (l.length : Int) := by omega
      clear h hz
      go_wp2
      go_ret
      exact ⟨_, rfl, hB, .inr ⟨hL0, by omega, by omega, fun i h => HA.out i h (by omega)⟩⟩

set_option maxHeartbeats 2000000 in
theorem szWriteS_fine (a : Option Addr) (cap : Nat) (l : List (Int × List Int)) (left : Int) (w : World) (h : WView w a cap l) (hn : l.length ≤ maxLen) (hz : ∀ i (h : i < l.length), (l[i]).2.length ≤ maxLen) (h0 : 0 ≤ left) (hl : left ≤ 1048576) :
    Calls Try.prog 18 #[.slice a l.length cap, .int .i64 left] w (LeftK w left (l.length ≤ 1048576 ∧ ∀ i (h : i < l.length), (l[i]).2.length ≤ 1048576)) := by
  have hn' : (l.length : Int) ≤ 9223372036854775807 := by unfold maxLen at hn; omega
  by_cases hb : left - (l.length : Int) < 0
  · go_enter Try.func18, Try.ntmps18
    go_wp2
    go_ret
    exact ⟨_, rfl, Below.refl _ _, .inl rfl⟩
  go_enter Try.func18, Try.ntmps18
  go_wp2
  go_loopg [1, 5] l.length (fun q t i wr => ∃ (k : Nat) (L : Int), k ≤ l.length ∧ q = l.length - k ∧ t = .int .i64 L ∧ i = .int .i64 k ∧ Below w.heap.size w wr ∧ 0 ≤ L ∧ L ≤ left - l.length ∧ Hid (∀ i (h : i < l.length), i < k → (l[i]).2.length ≤ 1048576))
  case atStart => exact ⟨0, left - l.length, Nat.zero_le _, rfl, rfl, rfl, Below.refl _ _, by omega, by omega, fun i _ hi => absurd hi (Nat.not_lt_zero _)⟩
  case round =>
    obtain ⟨k, L, hk, rfl, rfl, rfl, hB, hL0, hL1, HA⟩ := hrel
    by_cases hlt : k < l.length
    · obtain ⟨b1, o1, a', c', rfl, hb1, x0, x1, -, -⟩ := wview_at (wview_below h hB) hlt
      have hkz : (k : Int) < (l.length : Int) := by omega
      have hS := fun y W => szWrite_fine y a' (l[k]).2.length c' L W (hz k hlt) hL0 (by omega)
      have HN : Hid ((l[k]).2.length ≤ 1048576 → ∀ i (h : i < l.length), i < k + 1 → (l[i]).2.length ≤ 1048576) := by
        intro hp i h hi
        by_cases e : i < k
        · exact HA.out i h e
        · obtain rfl : i = k := by omega
          exact hp
      clear h hz HA
      obtain ⟨p0, hp0⟩ := hidEx (l[k]).2.length
      obtain ⟨p1, hp1⟩ := hidEx (l[k]).1
      rw [hp0.out] at x1 HN
      rw [hp1.out] at x0
      simp only [hp0.out] at hS
      go_wp2_with fail
      refine (hS _ _).mono ?_
      rintro e w1 ⟨L', rfl, hb1', hL⟩
      have HB : Hid (Below w.heap.size w w1) := hB.trans (hb1'.mono hB.size)
      clear hS hb1' hB
      rcases hL with rfl | ⟨hL0', hL1', hP⟩
      · go_wp2
        go_ret
        exact ⟨_, rfl, HB.out, .inl rfl⟩
      · have hLn : ¬ L' < 0 := by omega
        have HN2 : Hid (∀ i (h : i < l.length), i < k + 1 → (l[i]).2.length ≤ 1048576) := HN.out hP
        clear HN
        go_wp2
        go_roundg (l.length - (k + 1))
        case measure => omega
        case rel => exact ⟨k + 1, L', by omega, rfl, rfl, by go_num, HB.out, by omega, by omega, HN2⟩
    · have hkz : ¬ (k : Int) < (l.length : Int) := by omega
      clear h hz
      go_wp2
      go_ret
      exact ⟨_, rfl, hB, .inr ⟨hL0, by omega, by omega, fun i h => HA.out i h (by omega)⟩⟩

set_option maxHeartbeats 2000000 in
theorem szDisk_fine (v : Value) (D : PDisk) (left : Int) (w : World) (h : KView w v D) (hm : KLim D) (h0 : 0 ≤ left) (hl : left ≤ 1048576) :
    Calls Try.prog 6 #[v, .int .i64 left] w (LeftK w left (KFine D)) := by
  obtain ⟨sa, sc, ca, cc, fa, fc, rfl, hs, hc, hf⟩ := h.is
  clear h
  have hB0 := box5_start w (.cells #[.slice sa D.secs.length sc, .slice ca D.cache.length cc, .int .i64 D.ops, .slice fa D.faults.length fc, .bool D.down] 26)
  obtain ⟨hBw0, -⟩ := box5_below hB0
  have h1 := szByteSS_fine sa sc D.secs left _ (sview_below hs hBw0) hm.ns hm.sec h0 hl
  go_enter Try.func6, Try.ntmps6
  go_wp2_with fail
  refine h1.mono ?_
  rintro e w1 ⟨L1, rfl, hb1, hL⟩
  have hB1 := box5_on hB0 hb1
  obtain ⟨hBw1, hs1⟩ := box5_below hB1
  obtain ⟨x0, x1, x2, x3, x4⟩ := box5 hB1
  clear h1 hb1 hB0 hBw0 hs
  rcases hL with rfl | ⟨a0, a1, aP⟩
  · clear hc hf
    go_wp2
    go_ret
    exact ⟨_, rfl, hBw1, .inl rfl⟩
  have n1 : ¬ L1 < 0 := by omega
  have HP1 : Hid (D.secs.length ≤ 1048576 ∧ ∀ i (h : i < D.secs.length), (D.secs[i]).length ≤ 1048576) := aP
  have h2 := szWriteS_fine ca cc D.cache L1 w1 (wview_below hc hBw1) hm.nc hm.cache a0 (by omega)
  clear aP
  go_wp2_with fail
  refine h2.mono ?_
  rintro e w2 ⟨L2, rfl, hb2, hL⟩
  have hB2 := box5_on hB1 hb2
  obtain ⟨hBw2, hs2⟩ := box5_below hB2
  clear x0 x1 x2 x3 x4
  obtain ⟨x0, x1, x2, x3, x4⟩ := box5 hB2
  clear h2 hb2 hB1 hBw1 hs1 hc
  rcases hL with rfl | ⟨c0, c1, cP⟩
  · clear hf
    go_wp2
    go_ret
    exact ⟨_, rfl, hBw2, .inl rfl⟩
  have n2 : ¬ L2 < 0 := by omega
  have HP2 : Hid (D.cache.length ≤ 1048576 ∧ ∀ i (h : i < D.cache.length), (D.cache[i]).2.length ≤ 1048576) := cP
  have h3 := szFaultS_fine fa D.faults.length fc L2 w2 hm.nf c0 (by omega)
  clear cP hf
  go_wp2_with fail
  refine h3.mono ?_
  rintro e w3 ⟨L3, rfl, hb3, hL⟩
  have hB3 := box5_on hB2 hb3
  obtain ⟨hBw3, hs3⟩ := box5_below hB3
  clear x0 x1 x2 x3 x4 h3 hb3 hB2 hBw2 hs2
  rcases hL with rfl | ⟨d0, d1, dP⟩
  · go_wp2
    go_ret
    exact ⟨_, rfl, hBw3, .inl rfl⟩
  have n3 : ¬ L3 < 0 := by omega
  go_wp2
  go_ret
  refine ⟨_, rfl, hBw3, .inr ⟨d0, by omega, ⟨HP1.out.1, fun x hx => ?_, HP2.out.1, fun x hx => ?_, dP⟩⟩⟩
  · obtain ⟨i, hi, rfl⟩ := List.getElem_of_mem hx
    exact HP1.out.2 i hi
  · obtain ⟨i, hi, rfl⟩ := List.getElem_of_mem hx
    exact HP2.out.2 i hi
end Go.Proofs.Ytagjgnephaaehaa
