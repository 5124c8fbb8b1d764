/-
  Together: RowFine, EqVal, EqValS, LawKeyOf, KeyBytesImpl, KeyAllImpl
-/
import Derived.Test.YtjoimkfpenbkmabGreatDoorPackK6
import Derived.Test.YtjoimkfpenbkmabGreatDoorPackK5
import Derived.Deep.LoopGhost
import Derived.Deep.RegionHeld3
import Derived.Test.YtjoimkfpenbkmabGreatDoorPackK12
import Derived.Test.YtjoimkfpenbkmabGreatDoorPackK19
import Derived.Test.YtjoimkfpenbkmabGreatDoorPackK20
import Derived.Test.YtjoimkfpenbkmabGreatDoorPackK26
import Derived.Test.YtjoimkfpenbkmabGreatDoorPackK18
/-
  How much a row of values holds, as the law counts it; where that is not too much, no text of it is long.
-/
namespace Go.Proofs.YtjoimkfpenbkmabGreatDoor
open Go.RowKit
set_option maxRecDepth 4000

set_option maxHeartbeats 2000000 in
theorem szValS_fine (a : Option Addr) (n cap : Nat) (fk fn : Nat → Int) (fs : Nat → ByteArray) (left : Int) (w : World) (h : VView w a n cap fk fn fs) (hn : n ≤ maxLen) (hz : ∀ i, i < n → (fs i).size ≤ maxLen) (h0 : 0 ≤ left) (hl : left ≤ 1048576) :
    Calls Tryz.prog 7 #[.slice a n cap, .int .i64 left] w fun e w' => ∃ L : Int, e = .returned (.int .i64 L) ∧ Below w.heap.size w w' ∧ (L = -1 ∨ (0 ≤ L ∧ L ≤ left - n ∧ ∀ i, i < n → (fs i).size ≤ 1048576)) := by
  have hn' : (n : Int) ≤ 9223372036854775807 := by unfold maxLen at hn; omega
  by_cases hb : left - (n : Int) < 0
  · go_enter Tryz.func7, Tryz.ntmps7
    go_wp2
    go_ret
    exact ⟨_, rfl, Below.refl _ _, .inl rfl⟩
  go_enter Tryz.func7, Tryz.ntmps7
  go_wp2
  go_loopg [1, 5] n (fun q l i wr => ∃ (k : Nat) (L : Int), k ≤ n ∧ q = n - k ∧ l = .int .i64 L ∧ i = .int .i64 k ∧ Below w.heap.size w wr ∧ 0 ≤ L ∧ L ≤ left - n ∧ ∀ i, i < k → (fs i).size ≤ 1048576)
  case atStart => exact ⟨0, left - n, Nat.zero_le _, rfl, rfl, rfl, Below.refl _ _, by omega, by omega, fun i hi => absurd hi (Nat.not_lt_zero _)⟩
  case round =>
    obtain ⟨k, L, hk, rfl, rfl, rfl, hB, hL0, hL1, hall⟩ := hrel
    have HA : Hid (∀ i, i < k → (fs i).size ≤ 1048576) := hall
    clear hall
    by_cases hlt : k < n
    · obtain ⟨b1, o1, rfl, hb1, hc1⟩ := (h.below hB).cells (by omega)
      obtain ⟨x0, x1, x2⟩ := hc1 k hlt
      have hkz : (k : Int) < (n : Int) := by omega
      have hzk := hz k hlt
      have hLm : L ≤ 1048576 := by omega
      obtain ⟨p2, hp2⟩ : ∃ p2, Hid (fs k = p2) := ⟨_, rfl⟩
      rw [hp2.out] at x2 hzk
      clear hc1 h hz
      generalize fk k = p0 at *
      generalize fn k = p1 at *
      by_cases hc : (p2.size : Int) ≤ L
      · have hV := fun W => szVal_small p0 p1 p2 L W hc hLm
        have hnn : ¬ L - (p2.size : Int) < 0 := by omega
        have HN : Hid (∀ i, i < k + 1 → (fs i).size ≤ 1048576) := by
          intro i hi
          by_cases e : i < k
          · exact HA.out i e
          · obtain rfl : i = k := by omega
            rw [hp2.out]; omega
        go_wp2_with fail
        refine (hV _).mono ?_
        rintro e w2 ⟨rfl, hB2⟩
        have hB3 := hB.trans (hB2.mono hB.size)
        clear hB2 hV
        go_wp2
        go_roundg (n - (k + 1))
        case measure => omega
        case rel => exact ⟨k + 1, L - p2.size, by omega, rfl, rfl, by go_num, hB3, by omega, by omega, HN.out⟩
      · have hV := fun W => szVal_big p0 p1 p2 L W (by omega) hL0 hzk
        go_wp2_with fail
        refine (hV _).mono ?_
        rintro e w2 ⟨rfl, hB2⟩
        have hB3 := hB.trans (hB2.mono hB.size)
        clear hB2 hV
        go_wp2
        go_ret
        exact ⟨_, rfl, hB3, .inl rfl⟩
    · have hkz : ¬ (k : Int) < (n : Int) := by omega
      go_wp2
      go_ret
      exact ⟨_, rfl, hB, .inr ⟨hL0, hL1, fun i hi => HA.out i (by omega)⟩⟩
end Go.Proofs.YtjoimkfpenbkmabGreatDoor

/-
  What the law's own helper eqVal comes to, at the same value twice.
-/
namespace Go.Proofs.YtjoimkfpenbkmabGreatDoor
open Go.RowKit
set_option maxRecDepth 4000

set_option maxHeartbeats 1000000 in
theorem eqVal_same (k n : Int) (s : ByteArray) (w : World) :
    Calls Tryz.prog 37 #[.agg #[.int .i64 k, .int .i64 n, .string s], .agg #[.int .i64 k, .int .i64 n, .string s]] w fun e w' => e = .returned (.bool true) ∧ Below w.heap.size w w' := by
  have e1 : (k != k) = false := by simp
  have e2 : (n != n) = false := by simp
  go_enter Tryz.func37, Tryz.ntmps37
  go_wp2
  go_ret
  refine ⟨rfl, ?_⟩
  repeat (first | exact Below.refl _ _ | refine Below.alloc ?_ (by simp <;> omega) _ | refine Below.drew ?_)
end Go.Proofs.YtjoimkfpenbkmabGreatDoor

/-
  Two rows of values that read alike are alike, as the law holds them against each other.
-/
namespace Go.Proofs.YtjoimkfpenbkmabGreatDoor
open Go.RowKit
set_option maxRecDepth 4000

set_option maxHeartbeats 2000000 in
theorem eqValS_same (a1 a2 : Option Addr) (n c1 c2 : Nat) (fk fn : Nat → Int) (fs : Nat → ByteArray) (w : World) (h1 : VView w a1 n c1 fk fn fs) (h2 : VView w a2 n c2 fk fn fs) (hn : n ≤ 281474976710656) :
    Calls Tryz.prog 14 #[.slice a1 n c1, .slice a2 n c2] w fun e w' => e = .returned (.bool true) ∧ Below w.heap.size w w' := by
  go_enter Tryz.func14, Tryz.ntmps14
  go_wp2
  go_loopg [5] n (fun q i wr => ∃ k : Nat, k ≤ n ∧ q = n - k ∧ i = .int .i64 k ∧ Below w.heap.size w wr)
  case atStart => exact ⟨0, Nat.zero_le _, rfl, rfl, Below.refl _ _⟩
  case round =>
    obtain ⟨k, hk, rfl, rfl, hB⟩ := hrel
    by_cases hlt : k < n
    · obtain ⟨b1, o1, rfl, hb1, hc1⟩ := (h1.below hB).cells (by omega)
      obtain ⟨b2, o2, rfl, hb2, hc2⟩ := (h2.below hB).cells (by omega)
      obtain ⟨x0, x1, x2⟩ := hc1 k hlt
      obtain ⟨y0, y1, y2⟩ := hc2 k hlt
      have hkz : (k : Int) < (n : Int) := by omega
      have hV := fun W => eqVal_same (fk k) (fn k) (fs k) W
      clear hc1 hc2 h1 h2
      generalize fk k = p0 at *
      generalize fn k = p1 at *
      generalize fs k = p2 at *
      go_wp2_with fail
      go_region_held3 (fun W => (W.cell? ⟨b1, o1 + k * 3, none⟩ = some (.int .i64 p0) ∧ W.cell? ⟨b1, o1 + k * 3 + 1, none⟩ = some (.int .i64 p1) ∧ W.cell? ⟨b1, o1 + k * 3 + 2, none⟩ = some (.string p2)) ∧ (W.cell? ⟨b2, o2 + k * 3, none⟩ = some (.int .i64 p0) ∧ W.cell? ⟨b2, o2 + k * 3 + 1, none⟩ = some (.int .i64 p1) ∧ W.cell? ⟨b2, o2 + k * 3 + 2, none⟩ = some (.string p2))) (first | assumption | go_keep) (first | (go_at_call 37; refine (hV _).mono ?_; rintro e w2 ⟨rfl, hB2⟩; have hcells : (w2.cell? ⟨b1, o1 + k * 3, none⟩ = some (.int .i64 p0) ∧ w2.cell? ⟨b1, o1 + k * 3 + 1, none⟩ = some (.int .i64 p1) ∧ w2.cell? ⟨b1, o1 + k * 3 + 2, none⟩ = some (.string p2)) ∧ (w2.cell? ⟨b2, o2 + k * 3, none⟩ = some (.int .i64 p0) ∧ w2.cell? ⟨b2, o2 + k * 3 + 1, none⟩ = some (.int .i64 p1) ∧ w2.cell? ⟨b2, o2 + k * 3 + 2, none⟩ = some (.string p2)) := (by (refine ⟨⟨?_, ?_, ?_⟩, ?_, ?_, ?_⟩ <;> (rw [hB2.cell (by first | exact hb1 | exact hb2)]; assumption)))))
      all_goals
        have hB3 : Hid (Below w.heap.size w w2) := hB.trans (Below.trans (by repeat (first | exact Below.refl _ _ | refine Below.drew ?_)) (hB2.mono (by have := hB.size; exact this)))
        go_wp2
        go_roundg (n - (k + 1))
        case measure => omega
        case rel => exact ⟨k + 1, by omega, rfl, by go_num, by first | exact hB3.out | exact hB3.out.drew⟩
    · go_wp2
      go_ret
      exact ⟨rfl, hB⟩
end Go.Proofs.YtjoimkfpenbkmabGreatDoor

/-
  The law FnExactKeyOf, walked.
-/
namespace Go.Proofs.YtjoimkfpenbkmabGreatDoor
open Go.RowKit
set_option maxRecDepth 4000

set_option maxHeartbeats 8000000 in
theorem lawKeyOf (a : Option Addr) (n cap : Nat) (f : Nat → PDef) (t i : Int) (a2 : Option Addr) (m c2 : Nat) (fk fn : Nat → Int) (fs : Nat → ByteArray) (w : World) (h : LView w a n cap f) (hn : n ≤ maxLen) (hm : ∀ i, i < n → DLim (f i)) (h2 : VView w a2 m c2 fk fn fs) (hm2 : m ≤ maxLen) (hz2 : ∀ i, i < m → (fs i).size ≤ maxLen)
    (hI : ∀ (W : World) (a' : Option Addr) (c' : Nat) (a3 : Option Addr) (c3 : Nat), Below w.heap.size w W → LView W a' n c' f → LFine n f → VView W a3 m c3 fk fn fs → m ≤ 1048576 → (∀ i, i < m → (fs i).size ≤ 1048576) → Calls Tryz.prog 11 #[.slice a' n c', .int .i64 t, .int .i64 i, .slice a3 m c3] W (ByTo W (keyB f n t i m fk fn fs))) :
    Calls Tryz.prog 3 #[.slice a n cap, .int .i64 t, .int .i64 i, .slice a2 m c2] w fun e w' => e = .returned (.bool true) ∧ Below w.heap.size w w' := by
  have hZ := szDefS_fine a n cap f 1048576 w h hn hm (by omega) (by omega)
  clear hm hn
  go_enter Tryz.func3, Tryz.ntmps3
  go_wp2_with fail
  refine hZ.mono ?_
  rintro e w1 ⟨L1, rfl, hb1, hL⟩
  clear hZ
  rcases hL with rfl | ⟨hL0, hL1, hf⟩
  · have HB : Hid (Below w.heap.size w w1) := hb1
    clear hI h hb1 h2
    go_wp2
    go_ret
    exact ⟨rfl, HB.out⟩
  have hLn : ¬ L1 < 0 := by omega
  have hZ2 := szValS_fine a2 m c2 fk fn fs L1 w1 (h2.below hb1) hm2 hz2 (by omega) (by omega)
  go_wp2_with fail
  refine hZ2.mono ?_
  rintro e w1b ⟨L2, rfl, hb1b, hLv⟩
  have hB1 := hb1.trans (hb1b.mono hb1.size)
  clear hZ2 hb1 hb1b hm2 hz2
  rcases hLv with rfl | ⟨hL20, hL21, hfs⟩
  · have HB : Hid (Below w.heap.size w w1b) := hB1
    clear hI h hB1 h2
    go_wp2
    go_ret
    exact ⟨rfl, HB.out⟩
  have hLn2 : ¬ L2 < 0 := by omega
  have hm20 : m ≤ 1048576 := by omega
  obtain ⟨LL, hLL⟩ : ∃ L, Hid (keyB f n t i m fk fn fs = L) := ⟨_, rfl⟩
  have HFI : Hid ((∀ y ∈ LL, 0 ≤ y ∧ y ≤ 255) ∧ LL.length ≤ 416) := by rw [← hLL.out]; exact keyB_fine f n t i m fk fn fs
  have hl4 := HFI.out.2
  have HTD : Hid (∀ W, Below w.heap.size w W → Calls Tryz.prog 9 #[.slice a n cap] W fun e w' => e = .returned (.slice (some ⟨W.heap.size, 0, none⟩) n n) ∧ LRow w' W.heap.size W.heap.size n f ∧ Below W.heap.size W w' ∧ W.heap.size < w'.heap.size) := fun W hb => toDefS_any a n cap f W (h.below hb) hf
  have HED : Hid (∀ W a1 c1 a2 c2, LView W a1 n c1 f → LView W a2 n c2 f → Calls Tryz.prog 13 #[.slice a1 n c1, .slice a2 n c2] W fun e w' => e = .returned (.bool true) ∧ Below W.heap.size W w') := fun W a1 c1 a2 c2 h1 h2 => eqDefS_same a1 a2 n c1 c2 f W h1 h2 hf
  have HMD : Hid (∀ W B b, LRow W B b n f → Calls Tryz.prog 15 #[.slice (some ⟨b, 0, none⟩) n n, .int .i64 1] W fun e w' => ∃ k' : Int, e = .returned (.int .i64 k') ∧ 1 ≤ k' ∧ k' ≤ 1 + 2199030595585 * n ∧ Mk S4 B W w') := fun W B b hr => markDefS_mk B b n n W (hr.marks hf)
  have hn20 := hf.few
  have HSP : Hid (∀ (W : World) (a' : Option Addr) (c' : Nat) (a3 : Option Addr) (c3 : Nat), LView W a' n c' f → VView W a3 m c3 fk fn fs → m ≤ 1048576 → (∀ i, i < m → (fs i).size ≤ 1048576) → Calls Tryz.prog 8 #[.slice a' n c', .int .i64 t, .int .i64 i, .slice a3 m c3] W (ByTo W LL)) := fun W a' c' a3 c3 hv hv3 hm3 hs3 => by rw [← hLL.out]; exact specKey_any a' n c' f t i a3 m c3 fk fn fs W hv hf hv3 hm3 hs3
  have HIM : Hid (∀ (W : World) (a' : Option Addr) (c' : Nat) (a3 : Option Addr) (c3 : Nat), Below w.heap.size w W → LView W a' n c' f → VView W a3 m c3 fk fn fs → m ≤ 1048576 → (∀ i, i < m → (fs i).size ≤ 1048576) → Calls Tryz.prog 11 #[.slice a' n c', .int .i64 t, .int .i64 i, .slice a3 m c3] W (ByTo W LL)) := fun W a' c' a3 c3 hb hv hv3 hm3 hs3 => by rw [← hLL.out]; exact hI W a' c' a3 c3 hb hv hf hv3 hm3 hs3
  have HEQ : Hid (∀ W b1 b2 g1 c1 g2 c2, W.ownsRow b1 5 1 (.slice (some ⟨g1, 0, none⟩) LL.length c1) LL.length (bl LL) → W.ownsRow b2 5 1 (.slice (some ⟨g2, 0, none⟩) LL.length c2) LL.length (bl LL) → Calls Tryz.prog 12 #[.slice (some ⟨g1, 0, none⟩) LL.length c1, .slice (some ⟨g2, 0, none⟩) LL.length c2] W fun e w' => e = .returned (.bool true) ∧ Below W.heap.size W w') := fun W b1 b2 g1 c1 g2 c2 h1 h2 => eqByteS_same _ _ _ c1 c2 _ _ W (bview_of_owned h1 HFI.out.1) (bview_of_owned h2 HFI.out.1) (by omega) (fun _ _ => rfl)
  obtain ⟨FV, hFV⟩ : ∃ F : Nat → Value, Hid ((fun j => if j < m * 3 then cellF fk fn fs j else zeroF j) = F) := ⟨_, rfl⟩
  have HTV : Hid (∀ W, Below w.heap.size w W → Calls Tryz.prog 10 #[.slice a2 m c2] W fun e w' => e = .returned (.slice (some ⟨W.heap.size, 0, none⟩) m m) ∧ RowV w' W.heap.size m (FV) ∧ VView w' (some ⟨W.heap.size, 0, none⟩) m m fk fn fs ∧ Below W.heap.size W w' ∧ W.heap.size < w'.heap.size) := fun W hb => (toValS_row a2 m c2 fk fn fs W (h2.below hb) hm20).mono (fun _ _ hh => ⟨hh.1, by rw [← hFV.out]; exact RowV.ofIs hh.2.row, hh.2.view, hh.2.below, hh.2.size⟩)
  have HEV : Hid (∀ W a1 c1 a3 c3, VView W a1 m c1 fk fn fs → VView W a3 m c3 fk fn fs → Calls Tryz.prog 14 #[.slice a1 m c1, .slice a3 m c3] W fun e w' => e = .returned (.bool true) ∧ Below W.heap.size W w') := fun W a1 c1 a3 c3 h1 h3 => eqValS_same a1 a3 m c1 c3 fk fn fs W h1 h3 (by omega)
  have HFS : Hid (∀ i, i < m → (fs i).size ≤ 1048576) := hfs
  clear hI h hf h2 hfs
  obtain ⟨w1', hw1⟩ : ∃ W, Hid (w1b = W) := ⟨_, rfl⟩
  rw [hw1.out] at hB1 ⊢
  have HB1 : Hid (Below w.heap.size w w1') := hB1
  clear hB1
  -- the model's answer
  have hT := HTD.out w1' HB1.out
  go_wp2_with fail
  refine hT.mono ?_
  rintro e w2 ⟨rfl, hR2, hb2, -⟩
  have HB2 : Hid (Below w.heap.size w w2) := HB1.out.trans (hb2.mono HB1.out.size)
  have hv2 := hR2.view
  clear hT hb2 hR2
  have hTv := HTV.out w2 HB2.out
  go_wp2_with fail
  refine hTv.mono ?_
  rintro e w2b ⟨rfl, -, hvv2, hb2, -⟩
  have HB2b : Hid (Below w.heap.size w w2b) := HB2.out.trans (hb2.mono HB2.out.size)
  replace hv2 := hv2.below hb2
  clear hTv hb2
  have hC := HSP.out w2b _ _ _ _ hv2 hvv2 hm20 HFS.out
  obtain ⟨X2, hX2⟩ : ∃ x, Hid (w1'.heap.size = x) := ⟨_, rfl⟩
  rw [hX2.out] at hC ⊢
  clear hv2 hvv2
  go_wp2_with fail
  refine hC.mono ?_
  rintro e w3 ⟨gw, cw, rfl, hOw, hb3⟩
  have HB3 : Hid (Below w.heap.size w w3) := HB2b.out.trans (hb3.mono HB2b.out.size)
  replace hOw := own_low hOw HB2b.out.size
  clear hC hb3
  -- the copy
  have hT := HTD.out w3 HB3.out
  go_wp2_with fail
  refine hT.mono ?_
  rintro e w4 ⟨rfl, hR4, hb4, -⟩
  have hOw4 := own_belowG hOw hb4
  have HB4 : Hid (Below w.heap.size w w4) := HB3.out.trans (hb4.mono HB3.out.size)
  obtain ⟨X, hX⟩ : ∃ x, Hid (w3.heap.size = x) := ⟨_, rfl⟩
  have hwX : w.heap.size ≤ X := by rw [← hX.out]; exact HB3.out.size
  rw [hX.out] at hR4 ⊢
  clear hT hb4 hOw
  have hTv := HTV.out w4 HB4.out
  go_wp2_with fail
  refine hTv.mono ?_
  rintro e w5 ⟨rfl, hrv5, hvv5, hb5, -⟩
  have HB5 : Hid (Below w.heap.size w w5) := HB4.out.trans (hb5.mono HB4.out.size)
  have hR5 := hR4.below hb5
  have hOw5 := own_belowG hOw4 hb5
  obtain ⟨Y, hY⟩ : ∃ x, Hid (w4.heap.size = x) := ⟨_, rfl⟩
  have hwY : w.heap.size ≤ Y := by rw [← hY.out]; exact HB4.out.size
  rw [hY.out] at hrv5 hvv5 ⊢
  clear hTv hb5 hR4 hOw4
  have hG := HIM.out w5 _ _ _ _ HB5.out hR5.view hvv5 hm20 HFS.out
  clear hX
  go_wp2_with fail
  refine hG.mono ?_
  rintro e w6 ⟨gg, cg, rfl, hOg, hb6⟩
  have hne : gw ≠ gg := by have := own_ge9 hOg gg (by simp [Value.ownBlock]); have := own_gtK hOw5; omega
  have C6 : CarB w gw cw gg cg LL w6 := ⟨HB5.out.trans (hb6.mono HB5.out.size), own_belowG hOw5 hb6, own_low hOg HB5.out.size, hne⟩
  have hR6 := hR5.below hb6
  have hrv6 := hrv5.belowAll hb6
  have hvv6 := hvv5.below hb6
  have hE := HEQ.out w6 _ _ gg cg gw cw C6.own2 C6.own
  clear hG hb6 hOg hOw5 hR5 hne hrv5 hvv5
  go_wp2_with fail
  refine hE.mono ?_
  rintro e w7 ⟨rfl, hb7⟩
  have C7 := C6.on hb7
  have hR7 := hR6.below hb7
  have hrv7 := hrv6.belowAll hb7
  have hvv7 := hvv6.below hb7
  have hT := HTD.out w7 C7.below
  clear hE hb7 C6 hR6 hrv6 hvv6
  -- the argument is as it was
  go_wp2_with fail
  refine hT.mono ?_
  rintro e w8 ⟨rfl, hR8, hb8, -⟩
  have C8 := C7.on hb8
  have hR8' := hR7.below hb8
  have hrv8 := hrv7.belowAll hb8
  have hvv8 := hvv7.below hb8
  have hE := HED.out w8 _ _ _ _ hR8'.view hR8.view
  obtain ⟨X8, hX8⟩ : ∃ x, Hid (w7.heap.size = x) := ⟨_, rfl⟩
  rw [hX8.out] at hE ⊢
  clear hT hb8 C7 hR7 hR8 hrv7 hvv7
  go_wp2_with fail
  refine hE.mono ?_
  rintro e w9 ⟨rfl, hb9⟩
  have C9 := C8.on hb9
  have hR9 := hR8'.below hb9
  have hrv9 := hrv8.belowAll hb9
  have hvv9 := hvv8.below hb9
  clear hE hb9 C8 hR8' hrv8 hvv8
  have hTv := HTV.out w9 C9.below
  go_wp2_with fail
  refine hTv.mono ?_
  rintro e w9b ⟨rfl, -, hvvN, hb9, -⟩
  have C9b := C9.on hb9
  have hR9b := hR9.below hb9
  have hrv9b := hrv9.belowAll hb9
  have hvv9b := hvv9.below hb9
  have hEv := HEV.out w9b _ _ _ _ hvv9b hvvN
  obtain ⟨X9, hX9⟩ : ∃ x, Hid (w9.heap.size = x) := ⟨_, rfl⟩
  rw [hX9.out] at hEv ⊢
  clear hTv hb9 C9 hR9 hrv9 hvv9 hvvN hvv9b
  go_wp2_with fail
  refine hEv.mono ?_
  rintro e w9c ⟨rfl, hb9⟩
  have C9c := C9b.on hb9
  have hR9c := hR9b.below hb9
  have hrv9c := hrv9b.belowAll hb9
  clear hEv hb9 C9b hR9b hrv9b
  -- what was handed in is marked
  have hMD := HMD.out _ X X hR9c
  go_wp2_with fail
  refine hMD.mono ?_
  rintro e w10 ⟨k', rfl, hk0, hk1, hmk⟩
  have hk0' : ¬ k' < 0 := by omega
  have C10 := C9c.marked hmk hwX
  have hrv10 := hrv9c.mk hmk s4_val
  clear hMD hR9c C9c hrv9c
  have hMV := markValS_any Y m m FV k' w10 hrv10 (by omega) (by omega)
  go_wp2_with fail
  refine hMV.mono ?_
  rintro e w11 ⟨rfl, -, hbut⟩
  have C11 := C10.butV hrv10 hbut hwY
  have hk2' : ¬ (k' + 3 * m < 0) := by omega
  clear hMV hbut C10 hrv10
  have hE := HEQ.out _ _ _ gg cg gw cw C11.own2 C11.own
  go_wp2_with fail
  refine hE.mono ?_
  rintro e w12 ⟨rfl, hb12⟩
  have C12 := C11.on hb12
  have hMB := mark_any gg LL.length cg _ 1 w12 (row_of_owned C12.own2) (by omega) (by omega)
  have hle : LL.length ≤ cg := (bview_of_owned C12.own2 HFI.out.1).le
  clear hE hb12 C11
  go_wp2_with fail
  refine hMB.mono ?_
  rintro e w13 ⟨rfl, hrow, hO13⟩
  have C13 := C12.mark (But.ofOnly hO13) hrow
  have hH := held_any (some ⟨gg, 0, none⟩) LL.length cg _ 1 w13 (C13.view hle) (fun _ _ => rfl) (by omega) (by omega)
  clear hMB hrow hO13 C12
  go_wp2_with fail
  refine hH.mono ?_
  rintro e w14 ⟨rfl, hb14⟩
  have C14 := C13.on hb14
  have hnl : ¬ ((1 : Int) + LL.length < 0) := by omega
  have hnq : ((1 : Int) + LL.length != 1 + LL.length) = false := bne_self_eq_false _
  have hT := HTD.out w14 C14.below
  clear hH hb14 C13
  go_wp2_with fail
  refine hT.mono ?_
  rintro e w15 ⟨rfl, hR15, hb15, -⟩
  have C15 := C14.on hb15
  have hv15 := hR15.view
  clear hT hb15 C14 hR15
  obtain ⟨X15, hX15⟩ : ∃ x, Hid (w14.heap.size = x) := ⟨_, rfl⟩
  rw [hX15.out] at hv15 ⊢
  have hTv := HTV.out w15 C15.below
  go_wp2_with fail
  refine hTv.mono ?_
  rintro e w15b ⟨rfl, -, hvv15, hb15, -⟩
  have C15b := C15.on hb15
  replace hv15 := hv15.below hb15
  clear hTv hb15 C15
  have hG := HIM.out w15b _ _ _ _ C15b.below hv15 hvv15 hm20 HFS.out
  clear hX15
  go_wp2_with fail
  refine hG.mono ?_
  rintro e w16 ⟨gh, ch, rfl, hOh, hb16⟩
  have C16 := C15b.on hb16
  have hE := HEQ.out w16 _ _ gh ch gw cw hOh C16.own
  clear hG hb16 C15b hOh
  go_wp2_with fail
  refine hE.mono ?_
  rintro e w17 ⟨rfl, hb17⟩
  have C17 := C16.on hb17
  have hH := held_any (some ⟨gg, 0, none⟩) LL.length cg _ 1 w17 (C17.view hle) (fun _ _ => rfl) (by omega) (by omega)
  clear hE hb17 C16
  go_wp2_with fail
  refine hH.mono ?_
  rintro e w18 ⟨rfl, hb18⟩
  have HB : Hid (Below w.heap.size w w18) := (C17.on hb18).below
  clear hH hb18 C17 HTD HED HMD HIM HEQ HSP HTV HEV
  go_wp2
  go_ret
  exact ⟨rfl, HB.out⟩
end Go.Proofs.YtjoimkfpenbkmabGreatDoor

/-
  The program's rowPlanOf, takes and keyBytes come to the plain ones.
-/
namespace Go.Proofs.YtjoimkfpenbkmabGreatDoor
open Go.RowKit
set_option maxRecDepth 4000

theorem rowIs_belowK {w w' : World} {b : Nat} {t : TypeId} {m : Nat} {f : Nat → Value} (h : w.rowIs b t m f) (hb : Below w.heap.size w w') (hlt : b < w.heap.size) : w'.rowIs b t m f := h.of_block (hb.block b hlt)

set_option maxHeartbeats 4000000 in
theorem rowPlanOf_any (v : Value) (D : PDef) (w : World) (h : DView w v D) (hf : DFine D) (hI : ChkI w) :
    Calls Tryz.prog 32 #[v] w fun e w' => ∃ g c, e = .returned (.agg #[.slice (some ⟨g, 0, none⟩) (rowN D) c]) ∧ w'.ownsRow w.heap.size 91 4 (.slice (some ⟨g, 0, none⟩) (rowN D) c) (rowN D) (rowG (encQ (plF D.col allL)) (rowN D)) ∧ Below w.heap.size w w' := by
  have hv := h
  obtain ⟨ac, cc, ap, cp, ai, ci, rfl, -, -, -⟩ := h.is
  clear h
  have hb0 : Below w.heap.size w ((w.alloc (.cells #[.string D.name, .slice ac D.nc cc, .slice ap D.np cp, .slice ai D.ni ci] 60)).alloc (.cells #[.slice none 0 0] 71)) := ((Below.refl _ _).alloc (Nat.le_refl _) _).alloc (by simp) _
  have V0 := World.rowIs_alloc (w.alloc (.cells #[.string D.name, .slice ac D.nc cc, .slice ap D.np cp, .slice ai D.ni ci] 60)) #[.slice none 0 0] 71 (fun _ => .slice none 0 0) (fun i hi => by
    have : i = 0 := by simpa using hi
    subst this; rfl)
  rw [alloc_size9] at V0
  have hG := implRowPlan_any _ D _ (hv.below hb0) hf (hI.below hb0)
  have x0 : ((w.alloc (.cells #[.string D.name, .slice ac D.nc cc, .slice ap D.np cp, .slice ai D.ni ci] 60)).alloc (.cells #[.slice none 0 0] 71)).cell? ⟨w.heap.size, 0, none⟩ = some (.string D.name) := by simp [go_sem]
  have x1 : ((w.alloc (.cells #[.string D.name, .slice ac D.nc cc, .slice ap D.np cp, .slice ai D.ni ci] 60)).alloc (.cells #[.slice none 0 0] 71)).cell? ⟨w.heap.size, 1, none⟩ = some (.slice ac D.nc cc) := by simp [go_sem]
  have x2 : ((w.alloc (.cells #[.string D.name, .slice ac D.nc cc, .slice ap D.np cp, .slice ai D.ni ci] 60)).alloc (.cells #[.slice none 0 0] 71)).cell? ⟨w.heap.size, 2, none⟩ = some (.slice ap D.np cp) := by simp [go_sem]
  have x3 : ((w.alloc (.cells #[.string D.name, .slice ac D.nc cc, .slice ap D.np cp, .slice ai D.ni ci] 60)).alloc (.cells #[.slice none 0 0] 71)).cell? ⟨w.heap.size, 3, none⟩ = some (.slice ai D.ni ci) := by simp [go_sem]
  obtain ⟨W0, hW0⟩ : ∃ W, Hid ((w.alloc (.cells #[.string D.name, .slice ac D.nc cc, .slice ap D.np cp, .slice ai D.ni ci] 60)).alloc (.cells #[.slice none 0 0] 71) = W) := ⟨_, rfl⟩
  rw [hW0.out] at hb0 V0 hG x0 x1 x2 x3
  obtain ⟨N, hN⟩ : ∃ x, Hid (rowN D = x) := ⟨_, rfl⟩
  rw [hN.out] at hG
  rw [hN.out]
  clear hI hf hv
  go_enter Tryz.func32, Tryz.ntmps32
  go_wp2_with (rw [hW0.out])
  refine hG.mono ?_
  rintro e w1 ⟨g, c, rfl, hO, hb1⟩
  have hlt := V0.lt
  have V1 := rowIs_belowK V0 hb1 hlt
  have z0 := V1.cell (i := 0) (by simp)
  have f0 := V1.frozen 0
  have V2 := V1.set 0 (.slice (some ⟨g, 0, none⟩) N c)
  have z1 := V2.cell (i := 0) (by simp)
  simp only [if_true] at z1
  have hg := own_ge9 hO g (by simp [Value.ownBlock])
  have HR : Hid (Below w.heap.size w (w1.setCell ⟨w.heap.size + 1, 0, none⟩ (.slice (some ⟨g, 0, none⟩) N c)) ∧ (w1.setCell ⟨w.heap.size + 1, 0, none⟩ (.slice (some ⟨g, 0, none⟩) N c)).ownsRow w.heap.size 91 4 (.slice (some ⟨g, 0, none⟩) N c) N (rowG (encQ (plF D.col allL)) N)) := by
    refine ⟨(hb0.trans (hb1.mono hb0.size)).setCell (p := ⟨w.heap.size + 1, 0, none⟩) (by simp) _, ?_⟩
    have h1 := own_low hO hb0.size
    refine ⟨h1.1, ?_⟩
    rcases h1.2 with ⟨e, h0⟩ | ⟨g', k', cur, e, hb0', hg', hr'⟩
    · cases e
    · cases e
      exact .inr ⟨g, c, cur, rfl, hb0', (Below.heap_setCell _ _ _ _ (show g ≠ w.heap.size + 1 by omega)).trans hg', hr'⟩
  clear hG hO hb1 V0 V1 V2 hb0
  go_wp2
  refine bodyPost_ret (v := .agg #[.slice (some ⟨g, 0, none⟩) N c]) (by simp [results, Tryz.results32, go_sem, z1]) rfl ⟨g, c, rfl, HR.out.2, HR.out.1⟩

set_option maxHeartbeats 2000000 in
theorem takes_any (a : Option Addr) (n cap : Nat) (P : Nat → PPart) (a2 : Option Addr) (m c2 : Nat) (fk fn : Nat → Int) (fs : Nat → ByteArray) (w : World) (hp : QView w a n cap P) (hq : VView w a2 m c2 fk fn fs) (hn : n ≤ 1048576) (hm : m ≤ 1048576) :
    Calls Tryz.prog 33 #[.slice a n cap, .slice a2 m c2] w fun e w' => e = .returned (.bool (rowOk n (fun i => (P i).col) (fun i => (P i).type) (fun i => (P i).null) m fk fn fs)) ∧ Below w.heap.size w w' := by
  have hR := implRowOk_any a n cap _ _ _ _ a2 m c2 fk fn fs w hp hq (by omega) (by omega)
  obtain ⟨r, hr⟩ : ∃ r, Hid (rowOk n (fun i => (P i).col) (fun i => (P i).type) (fun i => (P i).null) m fk fn fs = r) := ⟨_, rfl⟩
  rw [hr.out] at hR
  rw [hr.out]
  clear hp hq
  go_enter Tryz.func33, Tryz.ntmps33
  go_wp2_with fail
  refine hR.mono ?_
  rintro e w1 ⟨rfl, hb⟩
  have HB : Hid (Below w.heap.size w w1) := hb
  clear hR hb
  go_wp2
  go_ret
  exact ⟨rfl, HB.out⟩

set_option maxHeartbeats 2000000 in
theorem keyBytes_any (a : Option Addr) (n cap : Nat) (P : Nat → PPart) (a2 : Option Addr) (m c2 : Nat) (fk fn : Nat → Int) (fs : Nat → ByteArray) (w : World) (hp : QView w a n cap P) (hq : VView w a2 m c2 fk fn fs) (hn : n ≤ 1048576) (hm : m ≤ 1048576) (hs : ∀ i, i < m → (fs i).size ≤ 1048576) :
    Calls Tryz.prog 35 #[.slice a n cap, .slice a2 m c2] w fun e w' => ∃ g cg, e = .returned (.slice (some ⟨g, 0, none⟩) (keyQ n P m fk fn fs).length cg) ∧ EncTo w w' g cg (keyQ n P m fk fn fs) := by
  have hR := implPick_any a n cap _ _ _ _ a2 m c2 fk fn fs w hp hq hn (by omega) (fun i hi => by have := hs i hi; omega)
  have HE : Hid (∀ (W : World) (a3 : Option Addr) (c3 : Nat), Below w.heap.size w W → VView W a3 n c3 (pickK (fun i => (P i).col) m fk) (pickK (fun i => (P i).col) m fn) (pickS (fun i => (P i).col) m fs) → Calls Tryz.prog 64 #[.slice a n cap, .slice a3 n c3] W fun e w' => ∃ g cg, e = .returned (.slice (some ⟨g, 0, none⟩) (keyQ n P m fk fn fs).length cg) ∧ EncTo W w' g cg (keyQ n P m fk fn fs)) := fun W a3 c3 hb hv => implEncodeKey_any a n cap _ _ _ _ a3 n c3 _ _ _ W (PView.below hp hb) hv (by omega) (by omega)
  obtain ⟨L, hL⟩ : ∃ L, Hid (keyQ n P m fk fn fs = L) := ⟨_, rfl⟩
  simp only [hL.out] at HE
  rw [hL.out]
  clear hp hq hs
  go_enter Tryz.func35, Tryz.ntmps35
  go_wp2_with fail
  refine hR.mono ?_
  rintro e w1 ⟨v, rfl, hne, hO, hb⟩
  obtain ⟨a3, c3, rfl, hv3, -⟩ := vview_of_own hO
  have hE := HE.out w1 a3 c3 hb hv3
  have HB : Hid (Below w.heap.size w w1) := hb
  clear hR hO hb hv3 hne HE
  go_wp2_with fail
  refine hE.mono ?_
  rintro e w2 ⟨g, cg, rfl, hT⟩
  have HR : Hid (EncTo w w2 g cg L) := ⟨hT.row, Nat.le_trans HB.out.size hT.new, hT.le, HB.out.trans (hT.below.mono HB.out.size)⟩
  clear hE hT
  go_wp2
  go_ret
  exact ⟨g, cg, rfl, HR.out⟩
end Go.Proofs.YtjoimkfpenbkmabGreatDoor

/-
  The program's KeyOf comes to the plain one.
-/
namespace Go.Proofs.YtjoimkfpenbkmabGreatDoor
open Go.RowKit
set_option maxRecDepth 4000

theorem rp_field (g N c : Nat) (W : World) : (Instr.field 71 (.agg #[.slice (some ⟨g, 0, none⟩) N c]) 0).run Tryz.prog W = .ok (.slice (some ⟨g, 0, none⟩) N c) W := by kernel_rfl
set_option maxHeartbeats 4000000 in
theorem implKey_any (a : Option Addr) (n cap : Nat) (f : Nat → PDef) (t i : Int) (a2 : Option Addr) (m c2 : Nat) (fk fn : Nat → Int) (fs : Nat → ByteArray) (w : World) (h : LView w a n cap f) (hf : LFine n f) (hq : VView w a2 m c2 fk fn fs) (hm : m ≤ 1048576) (hs : ∀ i, i < m → (fs i).size ≤ 1048576) (hI : ChkI w) :
    Calls Tryz.prog 11 #[.slice a n cap, .int .i64 t, .int .i64 i, .slice a2 m c2] w (ByTo w (keyB f n t i m fk fn fs)) := by
  have hK := keyPlanOf_any a n cap f t i w h hf hI
  have HVL : Hid (∀ W, Below w.heap.size w W → LView W a n cap f) := fun W hb => h.below hb
  have HRP : Hid (∀ (W : World) (v : Value) (j : Nat), Below w.heap.size w W → j < n → DView W v (f j) → Calls Tryz.prog 32 #[v] W fun e w' => ∃ g c, e = .returned (.agg #[.slice (some ⟨g, 0, none⟩) (rowN (f j)) c]) ∧ w'.ownsRow W.heap.size 91 4 (.slice (some ⟨g, 0, none⟩) (rowN (f j)) c) (rowN (f j)) (rowG (encQ (plF (f j).col allL)) (rowN (f j))) ∧ Below W.heap.size W w') := fun W v j hb hj hd => rowPlanOf_any v (f j) W hd (hf.at_ j hj) (hI.below hb)
  have HTK : Hid (∀ (W : World) (g c : Nat) (N : Nat) (P : Nat → PPart), Below w.heap.size w W → QView W (some ⟨g, 0, none⟩) N c P → N ≤ 6 → Calls Tryz.prog 33 #[.slice (some ⟨g, 0, none⟩) N c, .slice a2 m c2] W fun e w' => e = .returned (.bool (rowOk N (fun i => (P i).col) (fun i => (P i).type) (fun i => (P i).null) m fk fn fs)) ∧ Below W.heap.size W w') := fun W g c N P hb hp hN => takes_any _ N c P a2 m c2 fk fn fs W hp (hq.below hb) (by omega) hm
  have HKB : Hid (∀ (W : World) (g c : Nat) (N : Nat) (P : Nat → PPart), Below w.heap.size w W → QView W (some ⟨g, 0, none⟩) N c P → N ≤ 6 → Calls Tryz.prog 35 #[.slice (some ⟨g, 0, none⟩) N c, .slice a2 m c2] W fun e w' => ∃ g2 cg, e = .returned (.slice (some ⟨g2, 0, none⟩) (keyQ N P m fk fn fs).length cg) ∧ EncTo W w' g2 cg (keyQ N P m fk fn fs)) := fun W g c N P hb hp hN => keyBytes_any _ N c P a2 m c2 fk fn fs W hp (hq.below hb) (by omega) hm hs
  clear h hf hq hs hI
  go_enter Tryz.func11, Tryz.ntmps11
  go_wp2_with fail
  refine hK.mono ?_
  rintro e w1 ⟨hb1, hcase⟩
  clear hK
  rcases hcase with ⟨hT, g, c, rfl, hO⟩ | ⟨hT, rfl⟩
  · obtain ⟨ht, hi⟩ := hT.small
    have hN6 := planN_le (f t.toNat) i
    obtain ⟨j, rfl⟩ : ∃ j : Nat, t = j := ⟨t.toNat, by omega⟩
    have hjn : j < n := by have := hT.2.2.1; omega
    simp only [Int.toNat_natCast] at hO hN6 ⊢
    have HKY : Hid (∀ r, rowOkD (f j) m fk fn fs = r → keyB f n (j : Int) i m fk fn fs = if r = true then [(j : Int) + 1, i + 1] ++ keyQ (planN (f j) i) (plF (f j).col (planL (f j) i)) m fk fn fs else []) := by
      rintro r rfl
      unfold keyB
      simp only [Int.toNat_natCast]
      by_cases e : rowOkD (f j) m fk fn fs = true
      · rw [if_pos ⟨hT, e⟩, if_pos e]
      · rw [if_neg (fun h => e h.2), if_neg e]
    obtain ⟨N, hN⟩ : ∃ x, Hid (planN (f j) i = x) := ⟨_, rfl⟩
    obtain ⟨P, hP⟩ : ∃ x, Hid (plF (f j).col (planL (f j) i) = x) := ⟨_, rfl⟩
    simp only [hN.out, hP.out] at hO hN6 HKY
    rw [hN.out]
    have hb2 : Below w1.heap.size w1 (w1.alloc (.cells #[.slice (some ⟨g, 0, none⟩) N c, .int .u8 ((j : Int) + 1), .int .u8 (i + 1)] 67)) := (Below.refl _ _).alloc (Nat.le_refl _) _
    have V2 := V3.new w1 67 (.slice (some ⟨g, 0, none⟩) N c) (.int .u8 ((j : Int) + 1)) (.int .u8 (i + 1))
    have hO2 := own_belowG hO hb2
    have hB2 : Below w.heap.size w (w1.alloc (.cells #[.slice (some ⟨g, 0, none⟩) N c, .int .u8 ((j : Int) + 1), .int .u8 (i + 1)] 67)) := hb1.trans (hb2.mono hb1.size)
    obtain ⟨w2, hw2⟩ : ∃ W, Hid (w1.alloc (.cells #[.slice (some ⟨g, 0, none⟩) N c, .int .u8 ((j : Int) + 1), .int .u8 (i + 1)] 67) = W) := ⟨_, rfl⟩
    obtain ⟨X, hX⟩ : ∃ x, Hid (w1.heap.size = x) := ⟨_, rfl⟩
    rw [hw2.out] at V2 hO2 hB2
    rw [hX.out] at V2
    obtain ⟨b1, o1, rfl, hbb, hc1⟩ := (HVL.out w2 hB2).cells (by omega)
    obtain ⟨y1, y2, y3, x0, x1, x2, x3, hv⟩ := hc1 j hjn
    have hjz : (j : Int) < (n : Int) := by omega
    have hjz0 : ¬ (j : Int) < 0 := by omega
    have hR := HRP.out w2 _ j hB2 hjn hv
    obtain ⟨p0, hp0⟩ : ∃ x, Hid ((f j).name = x) := ⟨_, rfl⟩
    simp only [hp0.out] at x0 hR
    clear hO hb1 hb2 hc1 hv HVL HRP
    go_wp2_with (rw [hX.out, hw2.out])
    refine hR.mono ?_
    rintro e w3 ⟨g3, c3, rfl, hO3, hb3⟩
    have hV3 := V2.below hb3
    have hOp := own_belowG hO2 hb3
    have hB3 := hB2.trans (hb3.mono hB2.size)
    have hTk := HTK.out w3 g3 c3 _ _ hB3 (qview_of_own hO3) (rowN6 (f j))
    have HRO : Hid (rowOk (rowN (f j)) (fun i => (plF (f j).col allL i).col) (fun i => (plF (f j).col allL i).type) (fun i => (plF (f j).col allL i).null) m fk fn fs = rowOkD (f j) m fk fn fs) := rfl
    obtain ⟨r, hr⟩ : ∃ r, Hid (rowOkD (f j) m fk fn fs = r) := ⟨_, rfl⟩
    rw [HRO.out, hr.out] at hTk
    obtain ⟨RN, hRN⟩ : ∃ x, Hid (rowN (f j) = x) := ⟨_, rfl⟩
    rw [hRN.out] at hTk ⊢
    have hfd := fun W => rp_field g3 RN c3 W
    clear hR hO3 hb3 V2 hO2 hB2 HTK x0 x1 x2 x3 HRO
    go_wp2_with fail
    refine hTk.mono ?_
    rintro e w4 ⟨rfl, hb4⟩
    have V4' := hV3.below hb4
    have hO4 := own_belowG hOp hb4
    have hB4 := hB3.trans (hb4.mono hB3.size)
    clear hTk hb4 hV3 hOp hB3 hfd
    cases r with
    | false =>
      have HR : Hid (ByTo w (keyB f n (j : Int) i m fk fn fs) (.returned (.slice (some ⟨w4.heap.size, 0, none⟩) 0 0)) (w4.alloc (.cells #[] 5))) := by
        show ByTo _ _ _ _
        rw [HKY.out false hr.out, if_neg (by decide)]
        exact (ByTo.nil w4).low hB4
      clear V4' hO4 hB4 HKB
      go_wp2
      go_ret
      exact HR.out
    | true =>
      have HKK : Hid (keyB f n (j : Int) i m fk fn fs = [(j : Int) + 1, i + 1] ++ keyQ N P m fk fn fs) := by show _ = _; rw [HKY.out true hr.out, if_pos rfl]
      have hKB := fun (W : World) (hb : Below w4.heap.size w4 W) => HKB.out W g c N P (hB4.trans (hb.mono hB4.size)) (PView.below (qview_of_own hO4) hb) hN6
      have HQB : Hid ((∀ y ∈ keyQ N P m fk fn fs, 0 ≤ y ∧ y ≤ 255) ∧ (keyQ N P m fk fn fs).length ≤ 414) := ⟨keyL_byte _ _ _ _ _ _ _ _ _, keyL_len _ _ _ _ _ _ _ _ _⟩
      obtain ⟨L, hL⟩ : ∃ x, Hid (keyQ N P m fk fn fs = x) := ⟨_, rfl⟩
      simp only [hL.out] at hKB HKK HQB
      have hL4 := HQB.out.2
      have HWK : Hid (∀ W, Below w4.heap.size w4 W → V3 W X 67 (.slice (some ⟨g, 0, none⟩) N c) (.int .u8 ((j : Int) + 1)) (.int .u8 (i + 1))) := fun W hb => V4'.below hb
      obtain ⟨q0, q1, q2⟩ := V4'.cells
      have hPB := fun (W : World) (g2 cg : Nat) (hb : Below w4.heap.size w4 W) (hv2 : View W (some ⟨g2, 0, none⟩) L.length cg (fun q => L.getD q 0)) => putBytes_any X 1 2 2 (fun q => if q = 0 then (j : Int) + 1 else i + 1) (some ⟨g2, 0, none⟩) L.length cg (fun q => L.getD q 0) W (by
        obtain ⟨e0, e1, e2⟩ := (V4'.below hb).cells
        refine ⟨Nat.le_refl _, fun q hq => ?_, fun _ => ⟨_, _, rfl, (V4'.below hb).lt, fun q hq => ?_⟩⟩
        · by_cases e : q = 0
          · simp only [e, if_true]; omega
          · simp only [e, if_false]; omega
        · have hq' : q = 0 ∨ q = 1 := by omega
          rcases hq' with rfl | rfl
          · simpa using e1
          · simpa using e2) hv2 (fun e => by cases e) (by omega)
      have HB4 : Hid (Below w.heap.size w w4) := hB4
      clear hO4 hB4 HKB V4'
      go_wp2_with fail
      go_region_held3 (fun WW => WW.cell? ⟨X, 0, none⟩ = some (.slice (some ⟨g, 0, none⟩) N c)) (first | assumption | go_keep) (first
        | (go_at_call 35; refine (hKB _ (by repeat (first | exact Below.refl _ _ | refine Below.drew ?_))).mono ?_; rintro e w5 ⟨g5, c5, rfl, hE5⟩; have hb5 : Below w4.heap.size w4 w5 := Below.trans (by repeat (first | exact Below.refl _ _ | refine Below.drew ?_)) hE5.below; have hv5 := hE5.byte HQB.out.1; have hcells := (HWK.out _ hb5).cells.1)
        | (go_at_call 34; refine (hPB _ g5 c5 (by repeat (first | exact hb5 | refine Below.drew ?_)) (by first | exact hv5 | exact hv5.below (Below.refl _ _).drew)).mono ?_; rintro e w6 ⟨rfl, hO6, hB6⟩; have hb6 : Below w4.heap.size w4 w6 := Below.trans hb5 (Below.trans (by repeat (first | exact Below.refl _ _ | refine Below.drew ?_)) (hB6.mono (by have := hb5.size; exact this))); have hcells6 := (HWK.out _ hb6).cells.1))
      all_goals
        have HR : Hid (∀ g', (.slice (some ⟨g', 0, none⟩) (2 + L.length) (2 + L.length) : Value) = .slice (some ⟨w5.heap.size, 0, none⟩) (2 + L.length) (2 + L.length) → ByTo w (keyB f n (j : Int) i m fk fn fs) (.returned (.slice (some ⟨g', 0, none⟩) (2 + L.length) (2 + L.length))) w6) := by
          intro g' e
          cases e
          rw [HKK.out]
          have e2 : lof 2 (fun q => if q = 0 then (j : Int) + 1 else i + 1) ++ lof L.length (fun q => L.getD q 0) = [(j : Int) + 1, i + 1] ++ L := by
            rw [lof_self]; simp [lof, List.range_succ]
          have e3 : ([(j : Int) + 1, i + 1] ++ L).length = 2 + L.length := by simp; omega
          refine ByTo.low (w := w4) ?_ HB4.out
          refine ⟨w5.heap.size, 2 + L.length, by rw [e3], ?_, hb6⟩
          rw [e3, ← e2]
          first | exact own_low hO6 (by have := hb5.size; exact this) | exact own_low (by simpa using hO6) (by have := hb5.size; exact this)
        clear hb5 hb6 hB6 hO6 hv5 hE5 hcells hcells6 hKB hPB HWK
        go_wp2
        go_ret
        exact HR.out _ rfl
  · have HL : Hid (keyB f n t i m fk fn fs = []) := by show _ = _; unfold keyB; rw [if_neg (fun h => hT h.1)]
    have hb2 : Below w1.heap.size w1 (w1.alloc (.cells #[.slice none 0 0, .int .u8 0, .int .u8 0] 67)) := (Below.refl _ _).alloc (Nat.le_refl _) _
    have HR : Hid (ByTo w (keyB f n t i m fk fn fs) (.returned (.slice (some ⟨(w1.alloc (.cells #[.slice none 0 0, .int .u8 0, .int .u8 0] 67)).heap.size, 0, none⟩) 0 0)) ((w1.alloc (.cells #[.slice none 0 0, .int .u8 0, .int .u8 0] 67)).alloc (.cells #[] 5))) := by
      show ByTo _ _ _ _
      rw [HL.out]
      exact (ByTo.nil _).low (hb1.trans (hb2.mono hb1.size))
    clear hb1 hb2 HVL HRP HTK HKB
    go_wp2
    go_ret
    simpa using HR.out
end Go.Proofs.YtjoimkfpenbkmabGreatDoor

