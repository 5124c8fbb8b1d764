/-
  Together: SpecKey11, SizeDef, SizeDefs, Box44, EqDef
-/
import Derived.Test.YtjoimkfpenbkmabGreatDoorPackK18
import Derived.Test.YtjoimkfpenbkmabGreatDoorPackK3
import Derived.Deep.LoopGhost
import Derived.Test.YtjoimkfpenbkmabGreatDoorPackK5
import Derived.Test.YtjoimkfpenbkmabGreatDoorPackK8
import Derived.Deep.RegionHeld3
/-
  The model's l11Key and KeyOf come to the plain ones.
-/
namespace Go.Proofs.YtjoimkfpenbkmabGreatDoor
open Go.RowKit
set_option maxRecDepth 4000

set_option maxHeartbeats 4000000 in
theorem l11Key_any (a : Option Addr) (n cap : Nat) (f : Nat → PDef) (j : Nat) (i : Int) (a2 : Option Addr) (m c2 : Nat) (fk fn : Nat → Int) (fs : Nat → ByteArray) (w : World) (h : LView w a n cap f) (hf : LFine n f) (hq : VView w a2 m c2 fk fn fs) (hm : m ≤ 1048576) (hs : ∀ i, i < m → (fs i).size ≤ 1048576) (hT : There f n (j : Int) i) :
    Calls Tryz.prog 28 #[.slice a n cap, .int .i64 j, .int .i64 i, .slice a2 m c2] w (ByTo w ([(j : Int) + 1, i + 1] ++ keyQ (planN (f j) i) (plF (f j).col (planL (f j) i)) m fk fn fs)) := by
  obtain ⟨i0, hi, hz⟩ := Option.map_eq_some_iff.1 Tryz.info5
  simp only [Prod.mk.injEq] at hz
  obtain ⟨hz0, hz1, hz2⟩ := hz
  have hjn : j < n := by have := hT.2.2.1; omega
  have hjz : (j : Int) < (n : Int) := by omega
  have hjz0 : ¬ (j : Int) < 0 := by omega
  have hN6 := planN_le (f j) i
  have HHD : Hid (headB f n (j : Int) i = [(j : Int) + 1, i + 1]) := by show _ = _; unfold headB; rw [if_pos hT]
  have HH : Hid (∀ W, Below w.heap.size w W → Calls Tryz.prog 19 #[.slice a n cap, .int .i64 j, .int .i64 i] W (ByTo W [(j : Int) + 1, i + 1])) := fun W hb => by rw [← HHD.out]; exact specHead_any a n cap f j i W (h.below hb) hf
  obtain ⟨N, hN⟩ : ∃ x, Hid (planN (f j) i = x) := ⟨_, rfl⟩
  obtain ⟨P, hP⟩ : ∃ x, Hid (plF (f j).col (planL (f j) i) = x) := ⟨_, rfl⟩
  rw [hN.out] at hN6
  obtain ⟨b1, o1, e1, hb1, hc1⟩ := h.cells (by omega)
  obtain ⟨y1, y2, y3, x0, x1, x2, x3, hv⟩ := hc1 j hjn
  have hL := l11Plan_any _ (f j) i w hv (hf.at_ j hjn)
  rw [hN.out, hP.out] at hL
  have HPK : Hid (∀ (W : World) (g c : Nat), Below w.heap.size w W → QView W (some ⟨g, 0, none⟩) N c P → Calls Tryz.prog 55 #[.slice (some ⟨g, 0, none⟩) N c, .slice a2 m c2] W fun e w' => ∃ v, e = .returned v ∧ v ≠ .slice none 0 0 ∧ w'.ownsRow W.heap.size 62 3 v N (rowC (pickK (fun i => (P i).col) m fk) (pickK (fun i => (P i).col) m fn) (pickS (fun i => (P i).col) m fs) N) ∧ Below W.heap.size W w') := fun W g c hb hp => specPick_any _ N c _ _ _ _ a2 m c2 fk fn fs W hp (hq.below hb) (by omega) hm
  have HEK : Hid (∀ (W : World) (g c : Nat) (a3 : Option Addr) (c3 : Nat), QView W (some ⟨g, 0, none⟩) N c P → VView W a3 N c3 (pickK (fun i => (P i).col) m fk) (pickK (fun i => (P i).col) m fn) (pickS (fun i => (P i).col) m fs) → Calls Tryz.prog 54 #[.slice (some ⟨g, 0, none⟩) N c, .slice a3 N c3] W fun e w' => ∃ g2 cg, e = .returned (.slice (some ⟨g2, 0, none⟩) (keyQ N P m fk fn fs).length cg) ∧ EncTo W w' g2 cg (keyQ N P m fk fn fs)) := fun W g c a3 c3 hp hv => specEncodeKey_any _ N c _ _ _ _ a3 N c3 _ _ _ W hp hv (by omega) (by omega) (fun i hi => by
    unfold pickS
    split
    · rename_i hc; exact hs _ (by omega)
    · exact Nat.zero_le _)
  rw [hN.out, hP.out]
  have HQB : Hid ((∀ y ∈ keyQ N P m fk fn fs, 0 ≤ y ∧ y ≤ 255) ∧ (keyQ N P m fk fn fs).length ≤ 414) := ⟨keyL_byte _ _ _ _ _ _ _ _ _, keyL_len _ _ _ _ _ _ _ _ _⟩
  obtain ⟨L, hLL⟩ : ∃ x, Hid (keyQ N P m fk fn fs = x) := ⟨_, rfl⟩
  simp only [hLL.out] at HEK HQB
  rw [hLL.out]
  have hL4 := HQB.out.2
  obtain ⟨p0, hp0⟩ : ∃ x, Hid ((f j).name = x) := ⟨_, rfl⟩
  rw [hp0.out] at x0 hL
  clear h hf hq hs hc1 hv hT
  subst e1
  go_enter Tryz.func28, Tryz.ntmps28
  go_wp2_with fail
  refine hL.mono ?_
  rintro e w1 ⟨g, c, rfl, hO, hb⟩
  have hH := HH.out w1 hb
  have HB1 : Hid (Below w.heap.size w w1) := hb
  clear hL hb x0 x1 x2 x3 HH
  go_wp2_with fail
  refine hH.mono ?_
  rintro e w2 ⟨gh, ch, rfl, hOh, hb2⟩
  have hO2 := own_belowG hO hb2
  have HB2 : Hid (Below w.heap.size w w2) := HB1.out.trans (hb2.mono HB1.out.size)
  have hOh2 := own_low hOh HB1.out.size
  have hPk := HPK.out w2 g c HB2.out (qview_of_own hO2)
  have hl2 : ([(j : Int) + 1, i + 1] : List Int).length = 2 := rfl
  simp only [hl2] at hOh2 ⊢
  clear hH hO hb2 hOh HPK
  go_wp2_with fail
  refine hPk.mono ?_
  rintro e w3 ⟨v3, rfl, -, hO3, hb3⟩
  obtain ⟨a3, c3, rfl, hv3, -⟩ := vview_of_own hO3
  have hOp := own_belowG hO2 hb3
  have hOh3 := own_belowG hOh2 hb3
  have HB3 : Hid (Below w.heap.size w w3) := HB2.out.trans (hb3.mono HB2.out.size)
  have hE := HEK.out w3 g c a3 c3 (qview_of_own hOp) hv3
  clear hPk hO2 hb3 hO3 hv3 hOp hOh2 HEK
  go_wp2_with fail
  refine hE.mono ?_
  rintro e w4 ⟨g4, c4, rfl, hE4⟩
  have hOh4 := own_belowG hOh3 hE4.below
  have hv4 := hE4.byte HQB.out.1
  have HB4 : Hid (Below w.heap.size w w4) := HB3.out.trans (hE4.below.mono HB3.out.size)
  have hcl := cells_of_any hv4 _ rfl
  have hsz := HB4.out.size
  clear hE hOh3 hv4 hE4
  rw [lof_self] at hcl
  go_wp2_with (at_builtin; refine wpList_append_own _ rfl (.tmp 19) (.tmp 24) 26 rfl w.heap.size 5 i0 (.int .u8 0) 1 1 Tryz.underlying26 hi hz0 hz1 hz2 rfl (by decide) _ _ _ rfl hOh4 ⟨g4, 0, none⟩ L.length c4 (bl L) rfl (by rw [bl_len]; omega) hcl (bl_one _) (by unfold maxLen; omega) (by omega) (by omega) ?_)
  intro v5 w5 hO5 hgr5 hnil5
  obtain ⟨⟨g5, k5, rfl⟩, hb5⟩ := grown11 HB4.out hOh4 hO5 hgr5 hnil5
  have HR : Hid (ByTo w ([(j : Int) + 1, i + 1] ++ L) (.returned (.slice (some ⟨g5, 0, none⟩) (2 + L.length) k5)) w5) := by
    have e3 : ([(j : Int) + 1, i + 1] ++ L).length = 2 + L.length := by simp; omega
    refine ⟨g5, k5, by rw [e3], ?_, hb5⟩
    rw [e3, bl_append]
    exact hO5
  clear hOh4 hO5 hgr5 hnil5 hb5 hcl
  go_wp2
  go_ret
  exact HR.out

set_option maxHeartbeats 4000000 in
theorem specKey_any (a : Option Addr) (n cap : Nat) (f : Nat → PDef) (t i : Int) (a2 : Option Addr) (m c2 : Nat) (fk fn : Nat → Int) (fs : Nat → ByteArray) (w : World) (h : LView w a n cap f) (hf : LFine n f) (hq : VView w a2 m c2 fk fn fs) (hm : m ≤ 1048576) (hs : ∀ i, i < m → (fs i).size ≤ 1048576) :
    Calls Tryz.prog 8 #[.slice a n cap, .int .i64 t, .int .i64 i, .slice a2 m c2] w (ByTo w (keyB f n t i m fk fn fs)) := by
  have hTh := there_any a n cap f t i w h hf
  have HVL : Hid (∀ W, Below w.heap.size w W → LView W a n cap f) := fun W hb => h.below hb
  have HRP : Hid (∀ (W : World) (v : Value) (j : Nat), j < n → DView W v (f j) → Calls Tryz.prog 27 #[v] W (PlanTo W (rowN (f j)) (plF (f j).col allL))) := fun W v j hj hd => specRowPlan_any v (f j) W hd (hf.at_ j hj)
  have HRO : Hid (∀ (W : World) (g c : Nat) (N : Nat) (P : Nat → PPart), Below w.heap.size w W → QView W (some ⟨g, 0, none⟩) N c P → N ≤ 6 → Calls Tryz.prog 26 #[.slice (some ⟨g, 0, none⟩) N c, .slice a2 m c2] W fun e w' => e = .returned (.bool (rowOk N (fun i => (P i).col) (fun i => (P i).type) (fun i => (P i).null) m fk fn fs)) ∧ Below W.heap.size W w') := fun W g c N P hb hp hN => specRowOk_any _ N c _ _ _ _ a2 m c2 fk fn fs W hp (hq.below hb) (by omega) hm hs
  have HLK : Hid (∀ (W : World) (j : Nat), Below w.heap.size w W → There f n (j : Int) i → Calls Tryz.prog 28 #[.slice a n cap, .int .i64 j, .int .i64 i, .slice a2 m c2] W (ByTo W ([(j : Int) + 1, i + 1] ++ keyQ (planN (f j) i) (plF (f j).col (planL (f j) i)) m fk fn fs))) := fun W j hb hT => l11Key_any a n cap f j i a2 m c2 fk fn fs W (h.below hb) hf (hq.below hb) hm hs hT
  clear h hf hq hs
  go_enter Tryz.func8, Tryz.ntmps8
  go_wp2_with fail
  refine hTh.mono ?_
  rintro e w1 ⟨b, rfl, hbT, hb1⟩
  clear hTh
  cases b with
  | true =>
    have hT := hbT.out.1 rfl
    obtain ⟨ht, hi⟩ := hT.small
    obtain ⟨j, rfl⟩ : ∃ j : Nat, t = j := ⟨t.toNat, by omega⟩
    have hjn : j < n := by have := hT.2.2.1; omega
    have HKY : Hid (∀ r, rowOkD (f j) m fk fn fs = r → keyB f n (j : Int) i m fk fn fs = if r = true then [(j : Int) + 1, i + 1] ++ keyQ (planN (f j) i) (plF (f j).col (planL (f j) i)) m fk fn fs else []) := by
      rintro r rfl
      unfold keyB
      simp only [Int.toNat_natCast]
      by_cases e : rowOkD (f j) m fk fn fs = true
      · rw [if_pos ⟨hT, e⟩, if_pos e]
      · rw [if_neg (fun h => e h.2), if_neg e]
    obtain ⟨b1, o1, rfl, hbb, hc1⟩ := (HVL.out w1 hb1).cells (by omega)
    obtain ⟨y1, y2, y3, x0, x1, x2, x3, hv⟩ := hc1 j hjn
    have hjz : (j : Int) < (n : Int) := by omega
    have hjz0 : ¬ (j : Int) < 0 := by omega
    have hR := HRP.out w1 _ j hjn hv
    obtain ⟨p0, hp0⟩ : ∃ x, Hid ((f j).name = x) := ⟨_, rfl⟩
    simp only [hp0.out] at x0 hR
    have HB1 : Hid (Below w.heap.size w w1) := hb1
    have HTT : Hid (There f n (j : Int) i) := hT
    clear hc1 hv HVL HRP hbT hb1 hT
    go_wp2_with fail
    refine hR.mono ?_
    rintro e w3 ⟨g3, c3, rfl, hO3, hb3⟩
    have HB3 : Hid (Below w.heap.size w w3) := HB1.out.trans (hb3.mono HB1.out.size)
    have hTk := HRO.out w3 g3 c3 _ _ HB3.out (qview_of_own hO3) (rowN6 (f j))
    have HRD : Hid (rowOk (rowN (f j)) (fun i => (plF (f j).col allL i).col) (fun i => (plF (f j).col allL i).type) (fun i => (plF (f j).col allL i).null) m fk fn fs = rowOkD (f j) m fk fn fs) := rfl
    obtain ⟨r, hr⟩ : ∃ r, Hid (rowOkD (f j) m fk fn fs = r) := ⟨_, rfl⟩
    rw [HRD.out, hr.out] at hTk
    obtain ⟨RN, hRN⟩ : ∃ x, Hid (rowN (f j) = x) := ⟨_, rfl⟩
    rw [hRN.out] at hTk ⊢
    clear hR hO3 hb3 HRO x0 x1 x2 x3 HRD
    go_wp2_with fail
    refine hTk.mono ?_
    rintro e w4 ⟨rfl, hb4⟩
    have HB4 : Hid (Below w.heap.size w w4) := HB3.out.trans (hb4.mono HB3.out.size)
    clear hTk hb4
    cases r with
    | false =>
      have HR : Hid (ByTo w (keyB f n (j : Int) i m fk fn fs) (.returned (.slice (some ⟨w4.heap.size, 0, none⟩) 0 0)) (w4.alloc (.cells #[] 5))) := by
        show ByTo _ _ _ _
        rw [HKY.out false hr.out, if_neg (by decide)]
        exact (ByTo.nil w4).low HB4.out
      clear HLK
      go_wp2
      go_ret
      exact HR.out
    | true =>
      have hK := HLK.out w4 j HB4.out HTT.out
      clear HLK
      go_wp2_with fail
      refine hK.mono ?_
      rintro e w5 hBy
      have HR : Hid (ByTo w (keyB f n (j : Int) i m fk fn fs) e w5) := by
        show ByTo _ _ _ _
        rw [HKY.out true hr.out, if_pos rfl]
        exact hBy.low HB4.out
      obtain ⟨g5, c5, rfl, -, -⟩ := hBy
      clear hK
      go_wp2
      go_ret
      exact HR.out
  | false =>
    have hT : ¬ There f n t i := fun h => by have := hbT.out.2 h; simp at this
    have HR : Hid (ByTo w (keyB f n t i m fk fn fs) (.returned (.slice (some ⟨w1.heap.size, 0, none⟩) 0 0)) (w1.alloc (.cells #[] 5))) := by
      show ByTo _ _ _ _
      unfold keyB; rw [if_neg (fun h => hT h.1)]
      exact (ByTo.nil w1).low hb1
    clear hbT hb1 HVL HRP HRO HLK
    go_wp2
    go_ret
    exact HR.out
end Go.Proofs.YtjoimkfpenbkmabGreatDoor

/-
  How much a table holds, as the law counts it; where that is not too much, nothing of it is long.
-/
namespace Go.Proofs.YtjoimkfpenbkmabGreatDoor
open Go.RowKit
set_option maxRecDepth 4000

/-- Texts and rows that a machine can have. -/
structure DLim (D : PDef) : Prop where
  name : D.name.size ≤ maxLen
  nc : D.nc ≤ maxLen
  col : ∀ i, i < D.nc → (D.col i).name.size ≤ maxLen
  np : D.np ≤ maxLen
  ni : D.ni ≤ maxLen
  idx : ∀ i, i < D.ni → (D.idx i).name.size ≤ maxLen ∧ (D.idx i).n ≤ maxLen

/-- What a count comes to: too much, or what is left. -/
def Left (w : World) (left : Int) (P : Prop) (e : Ending) (w' : World) : Prop := ∃ L : Int, e = .returned (.int .i64 L) ∧ Below w.heap.size w w' ∧ (L = -1 ∨ (0 ≤ L ∧ L ≤ left ∧ P))

set_option maxHeartbeats 1000000 in
theorem szCol_fine (s : ByteArray) (t : Int) (z : Bool) (left : Int) (w : World) (hs : s.size ≤ maxLen) (h0 : 0 ≤ left) (hl : left ≤ 1048576) :
    Calls Tryz.prog 74 #[.agg #[.string s, .int .i64 t, .bool z], .int .i64 left] w (Left w left (s.size ≤ 1048576)) := by
  have hs' : (s.size : Int) ≤ 9223372036854775807 := by unfold maxLen at hs; omega
  by_cases hb : left - (s.size : Int) < 0
  · go_enter Tryz.func74, Tryz.ntmps74
    go_wp2
    go_ret
    exact ⟨_, rfl, (Below.refl _ _).alloc (Nat.le_refl _) _, .inl rfl⟩
  · go_enter Tryz.func74, Tryz.ntmps74
    go_wp2
    go_ret
    exact ⟨_, rfl, (Below.refl _ _).alloc (Nat.le_refl _) _, .inr ⟨by omega, by omega, by omega⟩⟩
set_option maxHeartbeats 1000000 in
theorem szByS_fine (a : Option Addr) (n cap : Nat) (left : Int) (w : World) (hs : n ≤ maxLen) (h0 : 0 ≤ left) (hl : left ≤ 1048576) :
    Calls Tryz.prog 45 #[.slice a n cap, .int .i64 left] w (Left w left (n ≤ 1048576)) := by
  have hs' : (n : Int) ≤ 9223372036854775807 := by unfold maxLen at hs; omega
  by_cases hb : left - (n : Int) < 0
  · go_enter Tryz.func45, Tryz.ntmps45
    go_wp2
    go_ret
    exact ⟨_, rfl, Below.refl _ _, .inl rfl⟩
  · go_enter Tryz.func45, Tryz.ntmps45
    go_wp2
    go_ret
    exact ⟨_, rfl, Below.refl _ _, .inr ⟨by omega, by omega, by omega⟩⟩
set_option maxHeartbeats 1000000 in
theorem szIndex_fine (s : ByteArray) (u : Bool) (a : Option Addr) (n cap : Nat) (left : Int) (w : World) (hs : s.size ≤ maxLen) (hn : n ≤ maxLen) (h0 : 0 ≤ left) (hl : left ≤ 1048576) :
    Calls Tryz.prog 75 #[.agg #[.string s, .bool u, .slice a n cap], .int .i64 left] w (Left w left (s.size ≤ 1048576 ∧ n ≤ 1048576)) := by
  have hs' : (s.size : Int) ≤ 9223372036854775807 := by unfold maxLen at hs; omega
  by_cases hb : left - (s.size : Int) < 0
  · go_enter Tryz.func75, Tryz.ntmps75
    go_wp2
    go_ret
    exact ⟨_, rfl, (Below.refl _ _).alloc (Nat.le_refl _) _, .inl rfl⟩
  · have hS := fun W => szByS_fine a n cap (left - s.size) W hn (by omega) (by omega)
    go_enter Tryz.func75, Tryz.ntmps75
    go_wp2_with fail
    refine (hS _).mono ?_
    rintro e w1 ⟨L, rfl, hb1, hL⟩
    have HB : Hid (Below w.heap.size w w1) := ((Below.refl _ _).alloc (Nat.le_refl _) _).trans (hb1.mono (by simp))
    clear hS hb1
    rcases hL with rfl | ⟨hL0, hL1, hP⟩
    · go_wp2
      go_ret
      exact ⟨_, rfl, HB.out, .inl rfl⟩
    · have hLn : ¬ L < 0 := by omega
      go_wp2
      go_ret
      exact ⟨_, rfl, HB.out, .inr ⟨by omega, by omega, by omega, hP⟩⟩

set_option maxHeartbeats 2000000 in
theorem szColS_fine (a : Option Addr) (n cap : Nat) (f : Nat → PCol) (left : Int) (w : World) (h : CView w a n cap f) (hn : n ≤ maxLen) (hz : ∀ i, i < n → (f i).name.size ≤ maxLen) (h0 : 0 ≤ left) (hl : left ≤ 1048576) :
    Calls Tryz.prog 44 #[.slice a n cap, .int .i64 left] w (Left w left (n ≤ 1048576 ∧ ∀ i, i < n → (f i).name.size ≤ 1048576)) := by
  have hn' : (n : Int) ≤ 9223372036854775807 := by unfold maxLen at hn; omega
  by_cases hb : left - (n : Int) < 0
  · go_enter Tryz.func44, Tryz.ntmps44
    go_wp2
    go_ret
    exact ⟨_, rfl, Below.refl _ _, .inl rfl⟩
  go_enter Tryz.func44, Tryz.ntmps44
  go_wp2
  go_loopg [1, 5] n (fun q l i wr => ∃ (k : Nat) (L : Int), k ≤ n ∧ q = n - k ∧ l = .int .i64 L ∧ i = .int .i64 k ∧ Below w.heap.size w wr ∧ 0 ≤ L ∧ L ≤ left - n ∧ Hid (∀ i, i < k → (f i).name.size ≤ 1048576))
  case atStart => exact ⟨0, left - n, Nat.zero_le _, rfl, rfl, rfl, Below.refl _ _, by omega, by omega, fun i hi => absurd hi (Nat.not_lt_zero _)⟩
  case round =>
    obtain ⟨k, L, hk, rfl, rfl, rfl, hB, hL0, hL1, HA⟩ := hrel
    by_cases hlt : k < n
    · obtain ⟨b1, o1, rfl, hb1, hc1⟩ := (h.below hB).cells (by omega)
      obtain ⟨x0, x1, x2⟩ := hc1 k hlt
      have hkz : (k : Int) < (n : Int) := by omega
      have hS := fun W => szCol_fine (f k).name (f k).type (f k).null L W (hz k hlt) hL0 (by omega)
      have HN : Hid ((f k).name.size ≤ 1048576 → ∀ i, i < k + 1 → (f i).name.size ≤ 1048576) := by
        intro hp i hi
        by_cases e : i < k
        · exact HA.out i e
        · obtain rfl : i = k := by omega
          exact hp
      clear hc1 h hz HA
      obtain ⟨p0, hp0⟩ : ∃ x, Hid ((f k).name = x) := ⟨_, rfl⟩
      obtain ⟨p1, hp1⟩ : ∃ x, Hid ((f k).type = x) := ⟨_, rfl⟩
      obtain ⟨p2, hp2⟩ : ∃ x, Hid ((f k).null = x) := ⟨_, rfl⟩
      rw [hp0.out] at x0 HN
      rw [hp1.out] at x1
      rw [hp2.out] at x2
      simp only [hp0.out, hp1.out, hp2.out] at hS
      go_wp2_with fail
      refine (hS _).mono ?_
      rintro e w1 ⟨L', rfl, hb1', hL⟩
      have HB : Hid (Below w.heap.size w w1) := hB.trans (hb1'.mono hB.size)
      clear hS hb1' hB
      rcases hL with rfl | ⟨hL0', hL1', hP⟩
      · go_wp2
        go_ret
        exact ⟨_, rfl, HB.out, .inl rfl⟩
      · have hLn : ¬ L' < 0 := by omega
        have HN2 : Hid (∀ i, i < k + 1 → (f i).name.size ≤ 1048576) := HN.out hP
        clear HN
        go_wp2
        go_roundg (n - (k + 1))
        case measure => omega
        case rel => exact ⟨k + 1, L', by omega, rfl, rfl, by go_num, HB.out, by omega, by omega, HN2⟩
    · have hkz : ¬ (k : Int) < (n : Int) := by omega
      clear h hz
      go_wp2
      go_ret
      exact ⟨_, rfl, hB, .inr ⟨hL0, by omega, by omega, fun i hi => HA.out i (by omega)⟩⟩

set_option maxHeartbeats 2000000 in
theorem szIndexS_fine (a : Option Addr) (n cap : Nat) (f : Nat → PIdx) (left : Int) (w : World) (h : IView w a n cap f) (hn : n ≤ maxLen) (hz : ∀ i, i < n → (f i).name.size ≤ maxLen ∧ (f i).n ≤ maxLen) (h0 : 0 ≤ left) (hl : left ≤ 1048576) :
    Calls Tryz.prog 46 #[.slice a n cap, .int .i64 left] w (Left w left (n ≤ 1048576 ∧ ∀ i, i < n → (f i).name.size ≤ 1048576 ∧ (f i).n ≤ 1048576)) := by
  have hn' : (n : Int) ≤ 9223372036854775807 := by unfold maxLen at hn; omega
  by_cases hb : left - (n : Int) < 0
  · go_enter Tryz.func46, Tryz.ntmps46
    go_wp2
    go_ret
    exact ⟨_, rfl, Below.refl _ _, .inl rfl⟩
  go_enter Tryz.func46, Tryz.ntmps46
  go_wp2
  go_loopg [1, 5] n (fun q l i wr => ∃ (k : Nat) (L : Int), k ≤ n ∧ q = n - k ∧ l = .int .i64 L ∧ i = .int .i64 k ∧ Below w.heap.size w wr ∧ 0 ≤ L ∧ L ≤ left - n ∧ Hid (∀ i, i < k → (f i).name.size ≤ 1048576 ∧ (f i).n ≤ 1048576))
  case atStart => exact ⟨0, left - n, Nat.zero_le _, rfl, rfl, rfl, Below.refl _ _, by omega, by omega, fun i hi => absurd hi (Nat.not_lt_zero _)⟩
  case round =>
    obtain ⟨k, L, hk, rfl, rfl, rfl, hB, hL0, hL1, HA⟩ := hrel
    by_cases hlt : k < n
    · obtain ⟨b1, o1, rfl, hb1, hc1⟩ := (h.below hB).cells (by omega)
      obtain ⟨x0, x1, a2, c2, x2, -⟩ := hc1 k hlt
      have hkz : (k : Int) < (n : Int) := by omega
      have hS := fun W => szIndex_fine (f k).name (f k).uniq a2 (f k).n c2 L W (hz k hlt).1 (hz k hlt).2 hL0 (by omega)
      have HN : Hid ((f k).name.size ≤ 1048576 ∧ (f k).n ≤ 1048576 → ∀ i, i < k + 1 → (f i).name.size ≤ 1048576 ∧ (f i).n ≤ 1048576) := by
        intro hp i hi
        by_cases e : i < k
        · exact HA.out i e
        · obtain rfl : i = k := by omega
          exact hp
      clear hc1 h hz HA
      obtain ⟨p0, hp0⟩ : ∃ x, Hid ((f k).name = x) := ⟨_, rfl⟩
      obtain ⟨p1, hp1⟩ : ∃ x, Hid ((f k).uniq = x) := ⟨_, rfl⟩
      obtain ⟨p2, hp2⟩ : ∃ x, Hid ((f k).n = x) := ⟨_, rfl⟩
      rw [hp0.out] at x0
      rw [hp1.out] at x1
      rw [hp2.out] at x2
      rw [hp0.out, hp2.out] at HN
      simp only [hp0.out, hp1.out, hp2.out] at hS
      go_wp2_with fail
      refine (hS _).mono ?_
      rintro e w1 ⟨L', rfl, hb1', hL⟩
      have HB : Hid (Below w.heap.size w w1) := hB.trans (hb1'.mono hB.size)
      clear hS hb1' hB
      rcases hL with rfl | ⟨hL0', hL1', hP⟩
      · go_wp2
        go_ret
        exact ⟨_, rfl, HB.out, .inl rfl⟩
      · have hLn : ¬ L' < 0 := by omega
        have HN2 : Hid (∀ i, i < k + 1 → (f i).name.size ≤ 1048576 ∧ (f i).n ≤ 1048576) := HN.out hP
        clear HN hP
        go_wp2
        go_roundg (n - (k + 1))
        case measure => omega
        case rel => exact ⟨k + 1, L', by omega, rfl, rfl, by go_num, HB.out, by omega, by omega, HN2⟩
    · have hkz : ¬ (k : Int) < (n : Int) := by omega
      clear h hz
      go_wp2
      go_ret
      exact ⟨_, rfl, hB, .inr ⟨hL0, by omega, by omega, fun i hi => HA.out i (by omega)⟩⟩

set_option maxHeartbeats 2000000 in
theorem szDef_fine (v : Value) (D : PDef) (left : Int) (w : World) (h : DView w v D) (hm : DLim D) (h0 : 0 ≤ left) (hl : left ≤ 1048576) :
    Calls Tryz.prog 23 #[v, .int .i64 left] w (Left w left (DFine D)) := by
  obtain ⟨ac, cc, ap, cp, ai, ci, rfl, hc, hp, hi⟩ := h.is
  clear h
  have hs' : (D.name.size : Int) ≤ 9223372036854775807 := by have := hm.name; unfold maxLen at this; omega
  have hB0 := box4_start w (.cells #[.string D.name, .slice ac D.nc cc, .slice ap D.np cp, .slice ai D.ni ci] 48)
  obtain ⟨hBw0, -⟩ := box4_below hB0
  by_cases hb : left - (D.name.size : Int) < 0
  · clear hc hp hi
    go_enter Tryz.func23, Tryz.ntmps23
    go_wp2
    go_ret
    exact ⟨_, rfl, hBw0, .inl rfl⟩
  have h1 := szColS_fine ac D.nc cc D.col (left - D.name.size) _ (hc.below hBw0) hm.nc hm.col (by omega) (by omega)
  go_enter Tryz.func23, Tryz.ntmps23
  go_wp2_with fail
  refine h1.mono ?_
  rintro e w1 ⟨L1, rfl, hb1, hL⟩
  have hB1 := box4_on hB0 hb1
  obtain ⟨hBw1, hs1⟩ := box4_below hB1
  obtain ⟨x0, x1, x2, x3⟩ := box4 hB1
  clear h1 hb1 hB0 hBw0 hc
  rcases hL with rfl | ⟨a0, a1, aP⟩
  · clear hp hi
    go_wp2
    go_ret
    exact ⟨_, rfl, hBw1, .inl rfl⟩
  have n1 : ¬ L1 < 0 := by omega
  have HP1 : Hid (D.nc ≤ 1048576 ∧ ∀ i, i < D.nc → (D.col i).name.size ≤ 1048576) := aP
  have h2 := szByS_fine ap D.np cp L1 w1 hm.np a0 (by omega)
  clear aP
  go_wp2_with fail
  refine h2.mono ?_
  rintro e w2 ⟨L2, rfl, hb2, hL⟩
  have hB2 := box4_on hB1 hb2
  obtain ⟨hBw2, hs2⟩ := box4_below hB2
  clear x0 x1 x2 x3
  obtain ⟨x0, x1, x2, x3⟩ := box4 hB2
  clear h2 hb2 hB1 hBw1 hs1 hp
  rcases hL with rfl | ⟨c0, c1, cP⟩
  · clear hi
    go_wp2
    go_ret
    exact ⟨_, rfl, hBw2, .inl rfl⟩
  have n2 : ¬ L2 < 0 := by omega
  have h3 := szIndexS_fine ai D.ni ci D.idx L2 w2 (hi.below hBw2) hm.ni hm.idx c0 (by omega)
  go_wp2_with fail
  refine h3.mono ?_
  rintro e w3 ⟨L3, rfl, hb3, hL⟩
  have HB3 : Hid (Below w.heap.size w w3) := (box4_below (box4_on hB2 hb3)).1
  clear h3 hb3 hB2 hBw2 hs2 hi x0 x1 x2 x3
  rcases hL with rfl | ⟨d0, d1, dP⟩
  · go_wp2
    go_ret
    exact ⟨_, rfl, HB3.out, .inl rfl⟩
  have n3 : ¬ L3 < 0 := by omega
  have HF : Hid (DFine D) := ⟨by omega, HP1.out.1, HP1.out.2, cP, dP.1, dP.2⟩
  clear dP
  go_wp2
  go_ret
  exact ⟨_, rfl, HB3.out, .inr ⟨d0, by omega, HF.out⟩⟩
end Go.Proofs.YtjoimkfpenbkmabGreatDoor

/-
  How much a row of tables holds, as the law counts it.
-/
namespace Go.Proofs.YtjoimkfpenbkmabGreatDoor
open Go.RowKit
set_option maxRecDepth 4000

set_option maxHeartbeats 2000000 in
theorem szDefS_fine (a : Option Addr) (n cap : Nat) (f : Nat → PDef) (left : Int) (w : World) (h : LView w a n cap f) (hn : n ≤ maxLen) (hz : ∀ i, i < n → DLim (f i)) (h0 : 0 ≤ left) (hl : left ≤ 1048576) :
    Calls Tryz.prog 6 #[.slice a n cap, .int .i64 left] w (Left w left (LFine n f)) := by
  have hn' : (n : Int) ≤ 9223372036854775807 := by unfold maxLen at hn; omega
  by_cases hb : left - (n : Int) < 0
  · go_enter Tryz.func6, Tryz.ntmps6
    go_wp2
    go_ret
    exact ⟨_, rfl, Below.refl _ _, .inl rfl⟩
  go_enter Tryz.func6, Tryz.ntmps6
  go_wp2
  go_loopg [1, 5] n (fun q l i wr => ∃ (k : Nat) (L : Int), k ≤ n ∧ q = n - k ∧ l = .int .i64 L ∧ i = .int .i64 k ∧ Below w.heap.size w wr ∧ 0 ≤ L ∧ L ≤ left - n ∧ Hid (∀ i, i < k → DFine (f i)))
  case atStart => exact ⟨0, left - n, Nat.zero_le _, rfl, rfl, rfl, Below.refl _ _, by omega, by omega, fun i hi => absurd hi (Nat.not_lt_zero _)⟩
  case round =>
    obtain ⟨k, L, hk, rfl, rfl, rfl, hB, hL0, hL1, HA⟩ := hrel
    by_cases hlt : k < n
    · obtain ⟨b1, o1, rfl, hb1, hc1⟩ := (h.below hB).cells (by omega)
      obtain ⟨y1, y2, y3, x0, x1, x2, x3, hv⟩ := hc1 k hlt
      have hkz : (k : Int) < (n : Int) := by omega
      have hS := szDef_fine _ (f k) L wr hv (hz k hlt) hL0 (by omega)
      have HN : Hid (DFine (f k) → ∀ i, i < k + 1 → DFine (f i)) := by
        intro hp i hi
        by_cases e : i < k
        · exact HA.out i e
        · obtain rfl : i = k := by omega
          exact hp
      clear hc1 h hz HA hv
      obtain ⟨p0, hp0⟩ : ∃ x, Hid ((f k).name = x) := ⟨_, rfl⟩
      rw [hp0.out] at x0
      simp only [hp0.out] at hS
      go_wp2_with fail
      refine hS.mono ?_
      rintro e w1 ⟨L', rfl, hb1', hL⟩
      have HB : Hid (Below w.heap.size w w1) := hB.trans (hb1'.mono hB.size)
      clear hS hb1' hB x0 x1 x2 x3
      rcases hL with rfl | ⟨hL0', hL1', hP⟩
      · go_wp2
        go_ret
        exact ⟨_, rfl, HB.out, .inl rfl⟩
      · have hLn : ¬ L' < 0 := by omega
        have HN2 : Hid (∀ i, i < k + 1 → DFine (f i)) := HN.out hP
        clear HN hP
        go_wp2
        go_roundg (n - (k + 1))
        case measure => omega
        case rel => exact ⟨k + 1, L', by omega, rfl, rfl, by go_num, HB.out, by omega, by omega, HN2⟩
    · have hkz : ¬ (k : Int) < (n : Int) := by omega
      clear h hz
      go_wp2
      go_ret
      exact ⟨_, rfl, hB, .inr ⟨hL0, by omega, ⟨by omega, fun i hi => HA.out i (by omega)⟩⟩⟩
end Go.Proofs.YtjoimkfpenbkmabGreatDoor

/-
  Two tables in variables of the call's own.
-/
namespace Go.Proofs.YtjoimkfpenbkmabGreatDoor
open Go.RowKit
set_option maxRecDepth 4000

theorem bool_ne {a b : Bool} (h : ¬ a = b) : b = !a := by cases a <;> cases b <;> simp at h <;> rfl
/-- Two variables of four cells, one behind the other. -/
theorem box44 {w wr : World} {T U : TypeId} {x0 x1 x2 x3 y0 y1 y2 y3 : Value} (h : Below (w.heap.size + 1 + 1) ((w.alloc (.cells #[x0, x1, x2, x3] T)).alloc (.cells #[y0, y1, y2, y3] U)) wr) :
    (wr.cell? ⟨w.heap.size, 0, none⟩ = some x0 ∧ wr.cell? ⟨w.heap.size, 1, none⟩ = some x1 ∧ wr.cell? ⟨w.heap.size, 2, none⟩ = some x2 ∧ wr.cell? ⟨w.heap.size, 3, none⟩ = some x3)
    ∧ (wr.cell? ⟨w.heap.size + 1, 0, none⟩ = some y0 ∧ wr.cell? ⟨w.heap.size + 1, 1, none⟩ = some y1 ∧ wr.cell? ⟨w.heap.size + 1, 2, none⟩ = some y2 ∧ wr.cell? ⟨w.heap.size + 1, 3, none⟩ = some y3) := by
  refine ⟨⟨?_, ?_, ?_, ?_⟩, ?_, ?_, ?_, ?_⟩
  all_goals (rw [h.cell (by first | (simp; done) | (simp; omega))]; simp [go_sem])
theorem box44_below {w wr : World} {o p : Obj} (h : Below (w.heap.size + 1 + 1) ((w.alloc o).alloc p) wr) : Below w.heap.size w wr ∧ w.heap.size + 2 ≤ wr.heap.size := by
  refine ⟨(((Below.refl _ _).alloc (Nat.le_refl _) _).alloc (by simp) _).trans (h.mono (by omega)), ?_⟩
  have := h.size
  simpa using this
theorem box44_on {w wr w' : World} {o p : Obj} (h : Below (w.heap.size + 1 + 1) ((w.alloc o).alloc p) wr) (h' : Below wr.heap.size wr w') : Below (w.heap.size + 1 + 1) ((w.alloc o).alloc p) w' := h.trans (h'.mono (box44_below h).2)
theorem box3 {w wr : World} {T : TypeId} {x0 x1 x2 : Value} (h : Below (w.heap.size + 1) (w.alloc (.cells #[x0, x1, x2] T)) wr) :
    wr.cell? ⟨w.heap.size, 0, none⟩ = some x0 ∧ wr.cell? ⟨w.heap.size, 1, none⟩ = some x1 ∧ wr.cell? ⟨w.heap.size, 2, none⟩ = some x2 := by
  refine ⟨?_, ?_, ?_⟩
  all_goals (rw [h.cell (by simp)]; simp [go_sem])

end Go.Proofs.YtjoimkfpenbkmabGreatDoor

/-
  Tables that read alike are alike, as the law holds them against each other.
-/
namespace Go.Proofs.YtjoimkfpenbkmabGreatDoor
open Go.RowKit
set_option maxRecDepth 4000

set_option maxHeartbeats 1000000 in
theorem eqBy_same (c : Int) (d : Bool) (w : World) :
    Calls Tryz.prog 99 #[.agg #[.int .i64 c, .bool d], .agg #[.int .i64 c, .bool d]] w fun e w' => e = .returned (.bool true) ∧ Below w.heap.size w w' := by
  have e1 : (c != c) = false := bne_self_eq_false _
  have e2 : (d != d) = false := bne_self_eq_false _
  go_enter Tryz.func99, Tryz.ntmps99
  go_wp2
  go_ret
  refine ⟨rfl, ?_⟩
  repeat (first | exact Below.refl _ _ | refine Below.alloc ?_ (by simp <;> omega) _ | refine Below.drew ?_)

set_option maxHeartbeats 1000000 in
theorem eqCol_same (s : ByteArray) (c : Int) (d : Bool) (w : World) :
    Calls Tryz.prog 98 #[.agg #[.string s, .int .i64 c, .bool d], .agg #[.string s, .int .i64 c, .bool d]] w fun e w' => e = .returned (.bool true) ∧ Below w.heap.size w w' := by
  have e0 := bytes_eq (a := s) rfl
  have e1 : (c != c) = false := bne_self_eq_false _
  have e2 : (d != d) = false := bne_self_eq_false _
  go_enter Tryz.func98, Tryz.ntmps98
  go_wp2
  go_ret
  refine ⟨rfl, ?_⟩
  repeat (first | exact Below.refl _ _ | refine Below.alloc ?_ (by simp <;> omega) _ | refine Below.drew ?_)

set_option maxHeartbeats 2000000 in
theorem eqByS_same (a1 a2 : Option Addr) (n c1 c2 : Nat) (f : Nat → PBy) (w : World) (h1 : BView w a1 n c1 f) (h2 : BView w a2 n c2 f) (hn : n ≤ 1048576) :
    Calls Tryz.prog 67 #[.slice a1 n c1, .slice a2 n c2] w fun e w' => e = .returned (.bool true) ∧ Below w.heap.size w w' := by
  go_enter Tryz.func67, Tryz.ntmps67
  go_wp2
  go_loopg [5] n (fun q i wr => ∃ k : Nat, k ≤ n ∧ q = n - k ∧ i = .int .i64 k ∧ Below w.heap.size w wr)
  case atStart => exact ⟨0, Nat.zero_le _, rfl, rfl, Below.refl _ _⟩
  case round =>
    obtain ⟨k, hk, rfl, rfl, hB⟩ := hrel
    by_cases hlt : k < n
    · obtain ⟨b1, o1, rfl, hb1, hc1⟩ := (h1.below hB).cells (by omega)
      obtain ⟨b2, o2, rfl, hb2, hc2⟩ := (h2.below hB).cells (by omega)
      obtain ⟨x0, x1⟩ := hc1 k hlt
      obtain ⟨y0, y1⟩ := hc2 k hlt
      obtain ⟨p0, hp0⟩ : ∃ x, Hid ((f k).col = x) := ⟨_, rfl⟩
      obtain ⟨p1, hp1⟩ : ∃ x, Hid ((f k).desc = x) := ⟨_, rfl⟩
      rw [hp0.out] at x0 y0
      rw [hp1.out] at x1 y1
      have hkz : (k : Int) < (n : Int) := by omega
      have hV := fun W (_ : Below wr.heap.size wr W) => eqBy_same p0 p1 W
      have HWK : Hid (∀ W, Below wr.heap.size wr W → (W.cell? ⟨b1, o1 + k * 2, none⟩ = some (.int .i64 p0) ∧ W.cell? ⟨b1, o1 + k * 2 + 1, none⟩ = some (.bool p1)) ∧ (W.cell? ⟨b2, o2 + k * 2, none⟩ = some (.int .i64 p0) ∧ W.cell? ⟨b2, o2 + k * 2 + 1, none⟩ = some (.bool p1))) := by
        intro W hb
        refine ⟨⟨?_, ?_⟩, ⟨?_, ?_⟩⟩ <;> (rw [hb.cell (by first | exact hb1 | exact hb2)]; assumption)
      clear hc1 hc2 h1 h2
      go_wp2_with fail
      go_region_held3 (fun W => (W.cell? ⟨b1, o1 + k * 2, none⟩ = some (.int .i64 p0) ∧ W.cell? ⟨b1, o1 + k * 2 + 1, none⟩ = some (.bool p1)) ∧ (W.cell? ⟨b2, o2 + k * 2, none⟩ = some (.int .i64 p0) ∧ W.cell? ⟨b2, o2 + k * 2 + 1, none⟩ = some (.bool p1))) (first | assumption | go_keep) (first | (go_at_call 99; refine (hV _ (by repeat (first | exact Below.refl _ _ | refine Below.drew ?_))).mono ?_; rintro e w2 ⟨rfl, hB2⟩; have hcells : (w2.cell? ⟨b1, o1 + k * 2, none⟩ = some (.int .i64 p0) ∧ w2.cell? ⟨b1, o1 + k * 2 + 1, none⟩ = some (.bool p1)) ∧ (w2.cell? ⟨b2, o2 + k * 2, none⟩ = some (.int .i64 p0) ∧ w2.cell? ⟨b2, o2 + k * 2 + 1, none⟩ = some (.bool p1)) := HWK.out _ (Below.trans (by repeat (first | exact Below.refl _ _ | refine Below.drew ?_)) hB2)))
      all_goals
        have hB3 : Hid (Below w.heap.size w w2) := hB.trans (Below.trans (by repeat (first | exact Below.refl _ _ | refine Below.drew ?_)) (hB2.mono (by have := hB.size; exact this)))
        clear hcells HWK hV
        go_wp2
        go_roundg (n - (k + 1))
        case measure => omega
        case rel => exact ⟨k + 1, by omega, rfl, by go_num, by first | exact hB3.out | exact hB3.out.drew⟩
    · clear h1 h2
      go_wp2
      go_ret
      exact ⟨rfl, hB⟩

set_option maxHeartbeats 2000000 in
theorem eqColS_same (a1 a2 : Option Addr) (n c1 c2 : Nat) (f : Nat → PCol) (w : World) (h1 : CView w a1 n c1 f) (h2 : CView w a2 n c2 f) (hn : n ≤ 1048576) :
    Calls Tryz.prog 66 #[.slice a1 n c1, .slice a2 n c2] w fun e w' => e = .returned (.bool true) ∧ Below w.heap.size w w' := by
  go_enter Tryz.func66, Tryz.ntmps66
  go_wp2
  go_loopg [5] n (fun q i wr => ∃ k : Nat, k ≤ n ∧ q = n - k ∧ i = .int .i64 k ∧ Below w.heap.size w wr)
  case atStart => exact ⟨0, Nat.zero_le _, rfl, rfl, Below.refl _ _⟩
  case round =>
    obtain ⟨k, hk, rfl, rfl, hB⟩ := hrel
    by_cases hlt : k < n
    · obtain ⟨b1, o1, rfl, hb1, hc1⟩ := (h1.below hB).cells (by omega)
      obtain ⟨b2, o2, rfl, hb2, hc2⟩ := (h2.below hB).cells (by omega)
      obtain ⟨x0, x1, x2⟩ := hc1 k hlt
      obtain ⟨y0, y1, y2⟩ := hc2 k hlt
      obtain ⟨p0, hp0⟩ : ∃ x, Hid ((f k).name = x) := ⟨_, rfl⟩
      obtain ⟨p1, hp1⟩ : ∃ x, Hid ((f k).type = x) := ⟨_, rfl⟩
      obtain ⟨p2, hp2⟩ : ∃ x, Hid ((f k).null = x) := ⟨_, rfl⟩
      rw [hp0.out] at x0 y0
      rw [hp1.out] at x1 y1
      rw [hp2.out] at x2 y2
      have hkz : (k : Int) < (n : Int) := by omega
      have hV := fun W (_ : Below wr.heap.size wr W) => eqCol_same p0 p1 p2 W
      have HWK : Hid (∀ W, Below wr.heap.size wr W → (W.cell? ⟨b1, o1 + k * 3, none⟩ = some (.string p0) ∧ W.cell? ⟨b1, o1 + k * 3 + 1, none⟩ = some (.int .i64 p1) ∧ W.cell? ⟨b1, o1 + k * 3 + 2, none⟩ = some (.bool p2)) ∧ (W.cell? ⟨b2, o2 + k * 3, none⟩ = some (.string p0) ∧ W.cell? ⟨b2, o2 + k * 3 + 1, none⟩ = some (.int .i64 p1) ∧ W.cell? ⟨b2, o2 + k * 3 + 2, none⟩ = some (.bool p2))) := by
        intro W hb
        refine ⟨⟨?_, ?_, ?_⟩, ⟨?_, ?_, ?_⟩⟩ <;> (rw [hb.cell (by first | exact hb1 | exact hb2)]; assumption)
      clear hc1 hc2 h1 h2
      go_wp2_with fail
      go_region_held3 (fun W => (W.cell? ⟨b1, o1 + k * 3, none⟩ = some (.string p0) ∧ W.cell? ⟨b1, o1 + k * 3 + 1, none⟩ = some (.int .i64 p1) ∧ W.cell? ⟨b1, o1 + k * 3 + 2, none⟩ = some (.bool p2)) ∧ (W.cell? ⟨b2, o2 + k * 3, none⟩ = some (.string p0) ∧ W.cell? ⟨b2, o2 + k * 3 + 1, none⟩ = some (.int .i64 p1) ∧ W.cell? ⟨b2, o2 + k * 3 + 2, none⟩ = some (.bool p2))) (first | assumption | go_keep) (first | (go_at_call 98; refine (hV _ (by repeat (first | exact Below.refl _ _ | refine Below.drew ?_))).mono ?_; rintro e w2 ⟨rfl, hB2⟩; have hcells : (w2.cell? ⟨b1, o1 + k * 3, none⟩ = some (.string p0) ∧ w2.cell? ⟨b1, o1 + k * 3 + 1, none⟩ = some (.int .i64 p1) ∧ w2.cell? ⟨b1, o1 + k * 3 + 2, none⟩ = some (.bool p2)) ∧ (w2.cell? ⟨b2, o2 + k * 3, none⟩ = some (.string p0) ∧ w2.cell? ⟨b2, o2 + k * 3 + 1, none⟩ = some (.int .i64 p1) ∧ w2.cell? ⟨b2, o2 + k * 3 + 2, none⟩ = some (.bool p2)) := HWK.out _ (Below.trans (by repeat (first | exact Below.refl _ _ | refine Below.drew ?_)) hB2)))
      all_goals
        have hB3 : Hid (Below w.heap.size w w2) := hB.trans (Below.trans (by repeat (first | exact Below.refl _ _ | refine Below.drew ?_)) (hB2.mono (by have := hB.size; exact this)))
        clear hcells HWK hV
        go_wp2
        go_roundg (n - (k + 1))
        case measure => omega
        case rel => exact ⟨k + 1, by omega, rfl, by go_num, by first | exact hB3.out | exact hB3.out.drew⟩
    · clear h1 h2
      go_wp2
      go_ret
      exact ⟨rfl, hB⟩

set_option maxHeartbeats 2000000 in
theorem eqIndex_same (s : ByteArray) (u : Bool) (a1 a2 : Option Addr) (n c1 c2 : Nat) (f : Nat → PBy) (w : World) (h1 : BView w a1 n c1 f) (h2 : BView w a2 n c2 f) (hn : n ≤ 1048576) :
    Calls Tryz.prog 100 #[.agg #[.string s, .bool u, .slice a1 n c1], .agg #[.string s, .bool u, .slice a2 n c2]] w fun e w' => e = .returned (.bool true) ∧ Below w.heap.size w w' := by
  have e0 := bytes_eq (a := s) rfl
  have e2 : (u != u) = false := bne_self_eq_false _
  have hV := fun W (hb : Below w.heap.size w W) => eqByS_same a1 a2 n c1 c2 f W (h1.below hb) (h2.below hb) hn
  have hb0 : Below w.heap.size w ((w.alloc (.cells #[.string s, .bool u, .slice a1 n c1] 106)).alloc (.cells #[.string s, .bool u, .slice a2 n c2] 106)) := ((Below.refl _ _).alloc (Nat.le_refl _) _).alloc (by simp) _
  clear h1 h2
  go_enter Tryz.func100, Tryz.ntmps100
  go_wp2_with fail
  refine (hV _ hb0).mono ?_
  rintro e w2 ⟨rfl, hb2⟩
  have HB : Hid (Below w.heap.size w w2) := hb0.trans (hb2.mono (by simp; omega))
  clear hV hb0 hb2
  go_wp2
  go_ret
  exact ⟨rfl, HB.out⟩

set_option maxHeartbeats 2000000 in
theorem eqIndexS_same (a1 a2 : Option Addr) (n c1 c2 : Nat) (f : Nat → PIdx) (w : World) (h1 : IView w a1 n c1 f) (h2 : IView w a2 n c2 f) (hn : n ≤ 1048576) (hz : ∀ i, i < n → (f i).n ≤ 1048576) :
    Calls Tryz.prog 68 #[.slice a1 n c1, .slice a2 n c2] w fun e w' => e = .returned (.bool true) ∧ Below w.heap.size w w' := by
  go_enter Tryz.func68, Tryz.ntmps68
  go_wp2
  go_loopg [5] n (fun q i wr => ∃ k : Nat, k ≤ n ∧ q = n - k ∧ i = .int .i64 k ∧ Below w.heap.size w wr)
  case atStart => exact ⟨0, Nat.zero_le _, rfl, rfl, Below.refl _ _⟩
  case round =>
    obtain ⟨k, hk, rfl, rfl, hB⟩ := hrel
    by_cases hlt : k < n
    · obtain ⟨b1, o1, rfl, hb1, hc1⟩ := (h1.below hB).cells (by omega)
      obtain ⟨b2, o2, rfl, hb2, hc2⟩ := (h2.below hB).cells (by omega)
      obtain ⟨x0, x1, a1, c1, x2, hv1⟩ := hc1 k hlt
      obtain ⟨y0, y1, a2, c2, y2, hv2⟩ := hc2 k hlt
      have hV := fun W (hb : Below wr.heap.size wr W) => eqIndex_same (f k).name (f k).uniq a1 a2 (f k).n c1 c2 (f k).part W (hv1.below hb) (hv2.below hb) (hz k hlt)
      obtain ⟨p0, hp0⟩ : ∃ x, Hid ((f k).name = x) := ⟨_, rfl⟩
      obtain ⟨p1, hp1⟩ : ∃ x, Hid ((f k).uniq = x) := ⟨_, rfl⟩
      obtain ⟨p2, hp2⟩ : ∃ x, Hid ((f k).n = x) := ⟨_, rfl⟩
      simp only [hp0.out, hp1.out, hp2.out] at hV
      rw [hp0.out] at x0 y0
      rw [hp1.out] at x1 y1
      rw [hp2.out] at x2 y2
      have hkz : (k : Int) < (n : Int) := by omega

      have HWK : Hid (∀ W, Below wr.heap.size wr W → (W.cell? ⟨b1, o1 + k * 3, none⟩ = some (.string p0) ∧ W.cell? ⟨b1, o1 + k * 3 + 1, none⟩ = some (.bool p1) ∧ W.cell? ⟨b1, o1 + k * 3 + 2, none⟩ = some (.slice a1 p2 c1)) ∧ (W.cell? ⟨b2, o2 + k * 3, none⟩ = some (.string p0) ∧ W.cell? ⟨b2, o2 + k * 3 + 1, none⟩ = some (.bool p1) ∧ W.cell? ⟨b2, o2 + k * 3 + 2, none⟩ = some (.slice a2 p2 c2))) := by
        intro W hb
        refine ⟨⟨?_, ?_, ?_⟩, ⟨?_, ?_, ?_⟩⟩ <;> (rw [hb.cell (by first | exact hb1 | exact hb2)]; assumption)
      clear hc1 hc2 h1 h2 hz hv1 hv2
      go_wp2_with fail
      go_region_held3 (fun W => (W.cell? ⟨b1, o1 + k * 3, none⟩ = some (.string p0) ∧ W.cell? ⟨b1, o1 + k * 3 + 1, none⟩ = some (.bool p1) ∧ W.cell? ⟨b1, o1 + k * 3 + 2, none⟩ = some (.slice a1 p2 c1)) ∧ (W.cell? ⟨b2, o2 + k * 3, none⟩ = some (.string p0) ∧ W.cell? ⟨b2, o2 + k * 3 + 1, none⟩ = some (.bool p1) ∧ W.cell? ⟨b2, o2 + k * 3 + 2, none⟩ = some (.slice a2 p2 c2))) (first | assumption | go_keep) (first | (go_at_call 100; refine (hV _ (by repeat (first | exact Below.refl _ _ | refine Below.drew ?_))).mono ?_; rintro e w2 ⟨rfl, hB2⟩; have hcells : (w2.cell? ⟨b1, o1 + k * 3, none⟩ = some (.string p0) ∧ w2.cell? ⟨b1, o1 + k * 3 + 1, none⟩ = some (.bool p1) ∧ w2.cell? ⟨b1, o1 + k * 3 + 2, none⟩ = some (.slice a1 p2 c1)) ∧ (w2.cell? ⟨b2, o2 + k * 3, none⟩ = some (.string p0) ∧ w2.cell? ⟨b2, o2 + k * 3 + 1, none⟩ = some (.bool p1) ∧ w2.cell? ⟨b2, o2 + k * 3 + 2, none⟩ = some (.slice a2 p2 c2)) := HWK.out _ (Below.trans (by repeat (first | exact Below.refl _ _ | refine Below.drew ?_)) hB2)))
      all_goals
        have hB3 : Hid (Below w.heap.size w w2) := hB.trans (Below.trans (by repeat (first | exact Below.refl _ _ | refine Below.drew ?_)) (hB2.mono (by have := hB.size; exact this)))
        clear hcells HWK hV
        go_wp2
        go_roundg (n - (k + 1))
        case measure => omega
        case rel => exact ⟨k + 1, by omega, rfl, by go_num, by first | exact hB3.out | exact hB3.out.drew⟩
    · clear h1 h2
      go_wp2
      go_ret
      exact ⟨rfl, hB⟩

set_option maxHeartbeats 2000000 in
theorem eqDef_same (u v : Value) (D : PDef) (w : World) (h1 : DView w u D) (h2 : DView w v D) (hf : DFine D) :
    Calls Tryz.prog 36 #[u, v] w fun e w' => e = .returned (.bool true) ∧ Below w.heap.size w w' := by
  obtain ⟨ac, cc, ap, cp, ai, ci, rfl, hc1, hp1, hi1⟩ := h1.is
  obtain ⟨bc, dc, bp, dp, bi, di, rfl, hc2, hp2, hi2⟩ := h2.is
  clear h1 h2
  have e0 := bytes_eq (a := D.name) rfl
  have hB0 : Below (w.heap.size + 1 + 1) ((w.alloc (.cells #[.string D.name, .slice ac D.nc cc, .slice ap D.np cp, .slice ai D.ni ci] 60)).alloc (.cells #[.string D.name, .slice bc D.nc dc, .slice bp D.np dp, .slice bi D.ni di] 60)) ((w.alloc (.cells #[.string D.name, .slice ac D.nc cc, .slice ap D.np cp, .slice ai D.ni ci] 60)).alloc (.cells #[.string D.name, .slice bc D.nc dc, .slice bp D.np dp, .slice bi D.ni di] 60)) := Below.refl _ _
  obtain ⟨hBw0, -⟩ := box44_below hB0
  have hV1 := eqColS_same ac bc D.nc cc dc D.col _ (hc1.below hBw0) (hc2.below hBw0) hf.nc
  go_enter Tryz.func36, Tryz.ntmps36
  go_wp2_with fail
  refine hV1.mono ?_
  rintro e w1 ⟨rfl, hb1⟩
  have hB1 := box44_on hB0 hb1
  obtain ⟨hBw1, hs1⟩ := box44_below hB1
  obtain ⟨⟨x0, x1, x2, x3⟩, y0, y1, y2, y3⟩ := box44 hB1
  have hV2 := eqByS_same ap bp D.np cp dp D.pri w1 (hp1.below hBw1) (hp2.below hBw1) hf.np
  clear hV1 hb1 hB0 hBw0 hc1 hc2
  go_wp2_with fail
  refine hV2.mono ?_
  rintro e w2 ⟨rfl, hb2⟩
  have hB2 := box44_on hB1 hb2
  obtain ⟨hBw2, hs2⟩ := box44_below hB2
  clear x0 x1 x2 x3 y0 y1 y2 y3
  obtain ⟨⟨x0, x1, x2, x3⟩, y0, y1, y2, y3⟩ := box44 hB2
  have hV3 := eqIndexS_same ai bi D.ni ci di D.idx w2 (hi1.below hBw2) (hi2.below hBw2) hf.ni (fun i hi => (hf.idx i hi).2)
  clear hV2 hb2 hB1 hBw1 hp1 hp2 hs1
  go_wp2_with fail
  refine hV3.mono ?_
  rintro e w3 ⟨rfl, hb3⟩
  have HB : Hid (Below w.heap.size w w3) := (box44_below (box44_on hB2 hb3)).1
  clear hV3 hb3 hB2 hBw2 hi1 hi2 hf
  go_wp2
  go_ret
  exact ⟨rfl, HB.out⟩
end Go.Proofs.YtjoimkfpenbkmabGreatDoor

