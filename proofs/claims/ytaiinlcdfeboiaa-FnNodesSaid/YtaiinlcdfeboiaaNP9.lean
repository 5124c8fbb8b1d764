/-
  Together: NodePutS, NodeSizeS, L1In
-/
import Derived.Test.YtaiinlcdfeboiaaNP6
import Derived.Test.YtaiinlcdfeboiaaNP1
import Derived.Test.YtaiinlcdfeboiaaNP8
import Derived.Deep.RegionHeld3
/-
  The model's l14Put: the bytes of a node, right or not; its SizeOf.
-/
namespace Go.Proofs.Ytaiinlcdfeboiaa
open Go.RowKit
set_option maxRecDepth 4000

theorem putU_br (g c : Nat) (L : List Int) (x : Int) (w : World) (hv : View w (some ⟨g, 0, none⟩) L.length c (fun i => L.getD i 0)) (hn : L.length ≤ 70368744177664) (hx0 : -9223372036854775808 ≤ x) (hx1 : x ≤ 9223372036854775807) :
    Calls Try.prog 76 #[.slice (some ⟨g, 0, none⟩) L.length c, .int .i64 x] w fun e w' => ∃ v, e = .returned v ∧ BR w' w.heap.size v (L ++ groups (clampN x)) ∧ Below w.heap.size w w' := by
  refine (putU_spec g 0 L.length c (fun i => L.getD i 0) x w hv hn hx0 hx1).mono ?_
  rintro e w1 ⟨v, rfl, hown, hb⟩
  rw [lof_self] at hown
  obtain ⟨g2, c2, e2, hg, hgc, hr⟩ := row_of_own hown (by have := (groups_len (clampN x)).1; omega)
  exact ⟨v, rfl, ⟨g2, c2, by rw [List.length_append]; exact e2, hg, by rw [List.length_append]; exact hgc, by rw [List.length_append]; exact hr⟩, hb⟩
theorem putText_br (g c : Nat) (L : List Int) (s : ByteArray) (w : World) (hv : View w (some ⟨g, 0, none⟩) L.length c (fun i => L.getD i 0)) (hn : L.length ≤ 35184372088832) (hs : s.size ≤ 35184372088832) :
    Calls Try.prog 77 #[.slice (some ⟨g, 0, none⟩) L.length c, .string s] w fun e w' => ∃ v, e = .returned v ∧ BR w' w.heap.size v (L ++ oneT s) ∧ Below w.heap.size w w' := by
  refine (putText_spec g 0 L.length c (fun i => L.getD i 0) s w hv hn hs).mono ?_
  rintro e w1 ⟨g2, c2, rfl, hg, hgc, hr, hb⟩
  have hl : (L ++ oneT s).length = L.length + (groups (clampN s.size)).length + s.size := by rw [List.length_append, oneT_len]; omega
  have ht : textL L.length (fun i => L.getD i 0) s = L ++ oneT s := by unfold textL oneT; rw [lof_self, List.append_assoc]
  rw [ht] at hr
  exact ⟨_, rfl, ⟨g2, c2, by rw [hl], hg, by rw [hl]; exact hgc, by rw [hl]; exact hr⟩, hb⟩
/-- The bytes ahead of the keys' end. -/
def keysL (D : PNode) (k : Nat) : List Int := headL D ++ textsL D.key k
def midL (D : PNode) (k : Nat) : List Int := headL D ++ textsL D.key D.nk ++ textsL D.val k
def kidsL (D : PNode) (k : Nat) : List Int := headL D ++ textsL D.key D.nk ++ numL D.kid k
theorem keysL_ok {D : PNode} (hf : NFine D) {k : Nat} (hk : k ≤ D.nk) : (keysL D k).length ≤ 2199023255552 ∧ ∀ y ∈ keysL D k, 0 ≤ y ∧ y ≤ 255 := by
  have h1 := headL_len D
  have h2 := textsL_len hf.key k hk
  have h3 := hf.nk
  refine ⟨by simp only [keysL, List.length_append]; omega, fun y hy => ?_⟩
  rw [keysL, List.mem_append] at hy
  rcases hy with hy | hy
  · exact headL_byte D y hy
  · exact textsL_byte _ _ y hy
theorem midL_ok {D : PNode} (hf : NFine D) {k : Nat} (hk : k ≤ D.nv) : (midL D k).length ≤ 4398046511104 ∧ ∀ y ∈ midL D k, 0 ≤ y ∧ y ≤ 255 := by
  obtain ⟨h1, h2⟩ := keysL_ok hf (Nat.le_refl D.nk)
  unfold keysL at h1 h2
  have h3 := textsL_len hf.val k hk
  have h4 := hf.nv
  refine ⟨by simp only [midL, List.length_append] at h1 ⊢; omega, fun y hy => ?_⟩
  rw [midL, List.mem_append] at hy
  rcases hy with hy | hy
  · exact h2 y hy
  · exact textsL_byte _ _ y hy
theorem kidsL_ok {D : PNode} (hf : NFine D) {k : Nat} (hk : k ≤ D.nd) : (kidsL D k).length ≤ 4398046511104 ∧ ∀ y ∈ kidsL D k, 0 ≤ y ∧ y ≤ 255 := by
  obtain ⟨h1, h2⟩ := keysL_ok hf (Nat.le_refl D.nk)
  unfold keysL at h1 h2
  have h3 := numL_len D.kid k
  have h4 := hf.nd
  refine ⟨by simp only [kidsL, List.length_append] at h1 ⊢; omega, fun y hy => ?_⟩
  rw [kidsL, List.mem_append] at hy
  rcases hy with hy | hy
  · exact h2 y hy
  · exact numL_byte _ _ y hy


set_option maxHeartbeats 8000000 in
theorem l14Put_true (D : PNode) (hleaf : D.leaf = true) (ac : Option Addr) (cc : Nat) (ap : Option Addr) (cp : Nat) (ai : Option Addr) (ci : Nat) (w : World) (hc : TxV w ac D.nk cc D.key) (hp : TxV w ap D.nv cp D.val) (hi : NuV w ai D.nd ci D.kid) (hf : NFine D) (hkd : ∀ i, i < D.nd → -9223372036854775808 ≤ D.kid i ∧ D.kid i ≤ 9223372036854775807) :
    Calls Try.prog 45 #[.agg #[.bool true, .slice ac D.nk cc, .slice ap D.nv cp, .slice ai D.nd ci]] w fun e w' => ∃ u, e = .returned u ∧ BR w' w.heap.size u (bytesN D) ∧ Below w.heap.size w w' := by
  have hnk := hf.nk
  have hnv := hf.nv
  have hnd := hf.nd
  have HF : Hid (NFine D) := hf
  have HKD : Hid (∀ i, i < D.nd → -9223372036854775808 ≤ D.kid i ∧ D.kid i ≤ 9223372036854775807) := hkd
  have HH : Hid (keysL D 0 = ([] ++ groups (clampN 1)) ++ groups (clampN D.nk)) := by show _ = _; simp [keysL, headL, hleaf, textsL]
  have HE : Hid (bytesN D = midL D D.nv) := by show _ = _; simp [bytesN, hleaf, midL]
  have HC : Hid (TxV w ac D.nk cc D.key) := hc
  have HP : Hid (TxV w ap D.nv cp D.val) := hp
  have HI : Hid (NuV w ai D.nd ci D.kid) := hi
  clear hf hkd hc hp hi hleaf
  have hB0 := nbox_start w (.cells #[.bool true, .slice ac D.nk cc, .slice ap D.nv cp, .slice ai D.nd ci] 27)
  have hBw0 := (nbox_below hB0).1
  obtain ⟨W0, hW0⟩ : ∃ W0, Hid ((w.alloc (.cells #[.bool true, .slice ac D.nk cc, .slice ap D.nv cp, .slice ai D.nd ci] 27)) = W0) := ⟨_, rfl⟩
  have HK0 : Hid (∀ W, Below W0.heap.size W0 W → (W.cell? ⟨w.heap.size, 0, none⟩ = some (.bool true) ∧ W.cell? ⟨w.heap.size, 1, none⟩ = some (.slice ac D.nk cc) ∧ W.cell? ⟨w.heap.size, 2, none⟩ = some (.slice ap D.nv cp) ∧ W.cell? ⟨w.heap.size, 3, none⟩ = some (.slice ai D.nd ci))) := by
    intro W hb
    rw [← hW0.out] at hb
    exact nbox4 (hb.mono (by simp))
  have HW0 : Hid (Below w.heap.size w W0) := by show Below _ _ _; rw [← hW0.out]; exact hBw0
  clear hBw0 hB0
  go_enter Try.func45, Try.ntmps45
  go_wp2_with fail
  rw [hW0.out]
  obtain ⟨x0, x1, x2, x3⟩ := HK0.out W0 (Below.refl _ _)
  go_region_held3 (fun WW => WW.cell? ⟨w.heap.size, 0, none⟩ = some (.bool true) ∧ WW.cell? ⟨w.heap.size, 1, none⟩ = some (.slice ac D.nk cc) ∧ WW.cell? ⟨w.heap.size, 2, none⟩ = some (.slice ap D.nv cp) ∧ WW.cell? ⟨w.heap.size, 3, none⟩ = some (.slice ai D.nd ci)) (first | assumption | go_keep) (first
    | (go_at_call_of 76 (D.nk); obtain ⟨g1, c1, rfl, hv1⟩ := hr1.view (fun y hy => groups_byte _ (clampN_bd _).1 (clampN_bd _).2 y (by simpa using hy)); refine (putU_br g1 c1 _ (D.nk : Int) _ (by first | exact hv1 | exact hv1.drew) (by have := (groups_len (clampN 1)).2; simp; omega) (by omega) (by omega)).mono ?_; rintro e w2 ⟨v2, rfl, hr2, hB2⟩; have hb2 : Below W0.heap.size W0 w2 := hb1.trans ((Below.trans (by repeat (first | exact Below.refl _ _ | refine Below.drew ?_)) hB2).mono hb1.size); have hcells2 : w2.cell? ⟨w.heap.size, 0, none⟩ = some (.bool true) ∧ w2.cell? ⟨w.heap.size, 1, none⟩ = some (.slice ac D.nk cc) ∧ w2.cell? ⟨w.heap.size, 2, none⟩ = some (.slice ap D.nv cp) ∧ w2.cell? ⟨w.heap.size, 3, none⟩ = some (.slice ai D.nd ci) := HK0.out _ hb2)
    | (go_at_call 76; refine (putU_br _ 0 [] 1 _ ⟨Nat.le_refl _, fun i hi => absurd hi (Nat.not_lt_zero _), fun h => absurd h (Nat.lt_irrefl _)⟩ (by simp) (by omega) (by omega)).mono ?_; rintro e w1 ⟨v1, rfl, hr1, hB1⟩; have hb1 : Below W0.heap.size W0 w1 := Below.trans (by repeat (first | exact Below.refl _ _ | refine Below.alloc ?_ (by simp) _ | refine Below.drew ?_)) (hB1.mono (by simp)); have hcells1 : w1.cell? ⟨w.heap.size, 0, none⟩ = some (.bool true) ∧ w1.cell? ⟨w.heap.size, 1, none⟩ = some (.slice ac D.nk cc) ∧ w1.cell? ⟨w.heap.size, 2, none⟩ = some (.slice ap D.nv cp) ∧ w1.cell? ⟨w.heap.size, 3, none⟩ = some (.slice ai D.nd ci) := HK0.out _ hb1))
  all_goals
    obtain ⟨W2, hW2⟩ : ∃ W2, Hid (w2 = W2) := ⟨_, rfl⟩
    have HR : Hid (BR W2 w.heap.size v2 (keysL D 0)) := by
      show BR _ _ _ _
      rw [HH.out, ← hW2.out]
      exact hr2.mono (Nat.le_trans HW0.out.size (by first | exact hb1.size | (have := hb1.size; simpa using this)))
    have HB : Hid (Below W0.heap.size W0 W2) := by show Below _ _ _; rw [← hW2.out]; exact hb2
    rw [hW2.out]
    clear hcells1 hcells2 hr1 hr2 hB1 hB2 hb1 hb2 x0 x1 x2 x3 hv1 HH
    go_wp2
    try clear x0 x1 x2 x3
    go_loopg [4, 5] D.nk (fun q b i wr => ∃ k : Nat, k ≤ D.nk ∧ q = D.nk - k ∧ i = .int .i64 k ∧ Below W0.heap.size W0 wr ∧ BR wr w.heap.size b (keysL D k))
    case atStart => exact ⟨0, Nat.zero_le _, rfl, rfl, HB.out, HR.out⟩
    case round =>
      clear HB HR
      obtain ⟨k, hk, rfl, rfl, hB, hr⟩ := hrel
      obtain ⟨x0, x1, x2, x3⟩ := HK0.out _ hB
      have hBw := HW0.out.trans (hB.mono HW0.out.size)
      by_cases hlt : k < D.nk
      · obtain ⟨b1, o1, rfl, hb1, y0⟩ := txv_at (HC.out.below hBw) hlt
        obtain ⟨hl, hby⟩ := keysL_ok HF.out (Nat.le_of_lt hlt)
        obtain ⟨g, c, rfl, hv⟩ := hr.view hby
        have hkz : (k : Int) < (D.nk : Int) := by omega
        have hP := putText_br g c _ (D.key k) wr hv (by omega) (by have := HF.out.key k hlt; omega)
        have HST : Hid (keysL D (k + 1) = keysL D k ++ oneT (D.key k)) := by show _ = _; simp [keysL, textsL, List.append_assoc]
        have HBk : Hid (Below W0.heap.size W0 wr) := hB
        obtain ⟨p0, hp0⟩ : ∃ x, Hid (D.key k = x) := ⟨_, rfl⟩
        obtain ⟨Q, hQ⟩ : ∃ Q, Hid (keysL D k = Q) := ⟨_, rfl⟩
        rw [hp0.out] at y0 HST hP
        rw [hQ.out] at hP HST ⊢
        clear hr hv hby hB
        go_wp2_with fail
        refine hP.mono ?_
        rintro e w3 ⟨v3, rfl, hr3, hb3⟩
        have HR3 : Hid (BR w3 w.heap.size v3 (keysL D (k + 1))) := by show BR _ _ _ _; rw [HST.out]; exact hr3.mono hBw.size
        have HB3 : Hid (Below W0.heap.size W0 w3) := HBk.out.trans (hb3.mono HBk.out.size)
        clear hP hr3 hb3 HST hBw
        go_wp2
        go_roundg (D.nk - (k + 1))
        case measure => omega
        case rel => exact ⟨k + 1, by omega, rfl, by go_num, HB3.out, HR3.out⟩
      · obtain rfl : k = D.nk := by omega
        have hkz : ¬ (D.nk : Int) < (D.nk : Int) := by omega
        have HB : Hid (Below W0.heap.size W0 wr) := hB
        have HR : Hid (BR wr w.heap.size u4 (keysL D D.nk)) := hr
        clear hB hr hBw
        have HR0 : Hid (BR wr w.heap.size u4 (midL D 0)) := by
          have := HR.out
          simp only [keysL] at this
          show BR _ _ _ _
          simpa [midL, textsL] using this
        clear HR
        have HR := HR0
        clear HR0
        go_wp2
        try clear x0 x1 x2 x3
        go_loopg [4, 6] D.nv (fun q b i wr => ∃ k : Nat, k ≤ D.nv ∧ q = D.nv - k ∧ i = .int .i64 k ∧ Below W0.heap.size W0 wr ∧ BR wr w.heap.size b (midL D k))
        case atStart => exact ⟨0, Nat.zero_le _, rfl, rfl, HB.out, HR.out⟩
        case round =>
          clear HB HR
          obtain ⟨k, hk, rfl, rfl, hB, hr⟩ := hrel
          obtain ⟨x0, x1, x2, x3⟩ := HK0.out _ hB
          have hBw := HW0.out.trans (hB.mono HW0.out.size)
          by_cases hlt : k < D.nv
          · obtain ⟨b1, o1, rfl, hb1, y0⟩ := txv_at (HP.out.below hBw) hlt
            obtain ⟨hl, hby⟩ := midL_ok HF.out (Nat.le_of_lt hlt)
            obtain ⟨g, c, rfl, hv⟩ := hr.view hby
            have hkz : (k : Int) < (D.nv : Int) := by omega
            have hP := putText_br g c _ (D.val k) wr hv (by omega) (by have := HF.out.val k hlt; omega)
            have HST : Hid (midL D (k + 1) = midL D k ++ oneT (D.val k)) := by show _ = _; simp [midL, textsL, List.append_assoc]
            have HBk : Hid (Below W0.heap.size W0 wr) := hB
            obtain ⟨p0, hp0⟩ : ∃ x, Hid (D.val k = x) := ⟨_, rfl⟩
            obtain ⟨Q, hQ⟩ : ∃ Q, Hid (midL D k = Q) := ⟨_, rfl⟩
            rw [hp0.out] at y0 HST hP
            rw [hQ.out] at hP HST ⊢
            clear hr hv hby hB
            go_wp2_with fail
            refine hP.mono ?_
            rintro e w3 ⟨v3, rfl, hr3, hb3⟩
            have HR3 : Hid (BR w3 w.heap.size v3 (midL D (k + 1))) := by show BR _ _ _ _; rw [HST.out]; exact hr3.mono hBw.size
            have HB3 : Hid (Below W0.heap.size W0 w3) := HBk.out.trans (hb3.mono HBk.out.size)
            clear hP hr3 hb3 HST hBw
            go_wp2
            go_roundg (D.nv - (k + 1))
            case measure => omega
            case rel => exact ⟨k + 1, by omega, rfl, by go_num, HB3.out, HR3.out⟩
          · obtain rfl : k = D.nv := by omega
            have hkz : ¬ (D.nv : Int) < (D.nv : Int) := by omega
            have HB : Hid (Below W0.heap.size W0 wr) := hB
            have HR : Hid (BR wr w.heap.size u4 (midL D D.nv)) := hr
            clear hB hr hBw
            obtain ⟨W9, hW9⟩ : ∃ W9, Hid (wr = W9) := ⟨_, rfl⟩
            rw [hW9.out] at HR HB x0 x1 x2 x3 ⊢
            go_wp2
            go_loopg [4, 7] 0 (fun q b i wx => q = 0 ∧ b = u4 ∧ i = .int .i64 0 ∧ wx = W9)
            case atStart => exact ⟨rfl, rfl, rfl, rfl⟩
            case round =>
              obtain ⟨rfl, hu4, rfl, hwx⟩ := hrel
              subst hu4
              rw [hwx]
              by_cases h0 : (0 : Int) < (D.nd : Int)
              · go_wp2
                go_ret
                exact ⟨_, rfl, by rw [HE.out]; exact HR.out, HW0.out.trans (HB.out.mono HW0.out.size)⟩
              · go_wp2
                go_ret
                exact ⟨_, rfl, by rw [HE.out]; exact HR.out, HW0.out.trans (HB.out.mono HW0.out.size)⟩
set_option maxHeartbeats 8000000 in
theorem l14Put_false (D : PNode) (hleaf : D.leaf = false) (ac : Option Addr) (cc : Nat) (ap : Option Addr) (cp : Nat) (ai : Option Addr) (ci : Nat) (w : World) (hc : TxV w ac D.nk cc D.key) (hp : TxV w ap D.nv cp D.val) (hi : NuV w ai D.nd ci D.kid) (hf : NFine D) (hkd : ∀ i, i < D.nd → -9223372036854775808 ≤ D.kid i ∧ D.kid i ≤ 9223372036854775807) :
    Calls Try.prog 45 #[.agg #[.bool false, .slice ac D.nk cc, .slice ap D.nv cp, .slice ai D.nd ci]] w fun e w' => ∃ u, e = .returned u ∧ BR w' w.heap.size u (bytesN D) ∧ Below w.heap.size w w' := by
  have hnk := hf.nk
  have hnv := hf.nv
  have hnd := hf.nd
  have HF : Hid (NFine D) := hf
  have HKD : Hid (∀ i, i < D.nd → -9223372036854775808 ≤ D.kid i ∧ D.kid i ≤ 9223372036854775807) := hkd
  have HH : Hid (keysL D 0 = ([] ++ groups (clampN 0)) ++ groups (clampN D.nk)) := by show _ = _; simp [keysL, headL, hleaf, textsL]
  have HE : Hid (bytesN D = kidsL D D.nd) := by show _ = _; simp [bytesN, hleaf, kidsL]
  have HC : Hid (TxV w ac D.nk cc D.key) := hc
  have HP : Hid (TxV w ap D.nv cp D.val) := hp
  have HI : Hid (NuV w ai D.nd ci D.kid) := hi
  clear hf hkd hc hp hi hleaf
  have hB0 := nbox_start w (.cells #[.bool false, .slice ac D.nk cc, .slice ap D.nv cp, .slice ai D.nd ci] 27)
  have hBw0 := (nbox_below hB0).1
  obtain ⟨W0, hW0⟩ : ∃ W0, Hid ((w.alloc (.cells #[.bool false, .slice ac D.nk cc, .slice ap D.nv cp, .slice ai D.nd ci] 27)) = W0) := ⟨_, rfl⟩
  have HK0 : Hid (∀ W, Below W0.heap.size W0 W → (W.cell? ⟨w.heap.size, 0, none⟩ = some (.bool false) ∧ W.cell? ⟨w.heap.size, 1, none⟩ = some (.slice ac D.nk cc) ∧ W.cell? ⟨w.heap.size, 2, none⟩ = some (.slice ap D.nv cp) ∧ W.cell? ⟨w.heap.size, 3, none⟩ = some (.slice ai D.nd ci))) := by
    intro W hb
    rw [← hW0.out] at hb
    exact nbox4 (hb.mono (by simp))
  have HW0 : Hid (Below w.heap.size w W0) := by show Below _ _ _; rw [← hW0.out]; exact hBw0
  clear hBw0 hB0
  go_enter Try.func45, Try.ntmps45
  go_wp2_with fail
  rw [hW0.out]
  obtain ⟨x0, x1, x2, x3⟩ := HK0.out W0 (Below.refl _ _)
  go_region_held3 (fun WW => WW.cell? ⟨w.heap.size, 0, none⟩ = some (.bool false) ∧ WW.cell? ⟨w.heap.size, 1, none⟩ = some (.slice ac D.nk cc) ∧ WW.cell? ⟨w.heap.size, 2, none⟩ = some (.slice ap D.nv cp) ∧ WW.cell? ⟨w.heap.size, 3, none⟩ = some (.slice ai D.nd ci)) (first | assumption | go_keep) (first
    | (go_at_call_of 76 (D.nk); obtain ⟨g1, c1, rfl, hv1⟩ := hr1.view (fun y hy => groups_byte _ (clampN_bd _).1 (clampN_bd _).2 y (by simpa using hy)); refine (putU_br g1 c1 _ (D.nk : Int) _ (by first | exact hv1 | exact hv1.drew) (by have := (groups_len (clampN 0)).2; simp; omega) (by omega) (by omega)).mono ?_; rintro e w2 ⟨v2, rfl, hr2, hB2⟩; have hb2 : Below W0.heap.size W0 w2 := hb1.trans ((Below.trans (by repeat (first | exact Below.refl _ _ | refine Below.drew ?_)) hB2).mono hb1.size); have hcells2 : w2.cell? ⟨w.heap.size, 0, none⟩ = some (.bool false) ∧ w2.cell? ⟨w.heap.size, 1, none⟩ = some (.slice ac D.nk cc) ∧ w2.cell? ⟨w.heap.size, 2, none⟩ = some (.slice ap D.nv cp) ∧ w2.cell? ⟨w.heap.size, 3, none⟩ = some (.slice ai D.nd ci) := HK0.out _ hb2)
    | (go_at_call 76; refine (putU_br _ 0 [] 0 _ ⟨Nat.le_refl _, fun i hi => absurd hi (Nat.not_lt_zero _), fun h => absurd h (Nat.lt_irrefl _)⟩ (by simp) (by omega) (by omega)).mono ?_; rintro e w1 ⟨v1, rfl, hr1, hB1⟩; have hb1 : Below W0.heap.size W0 w1 := Below.trans (by repeat (first | exact Below.refl _ _ | refine Below.alloc ?_ (by simp) _ | refine Below.drew ?_)) (hB1.mono (by simp)); have hcells1 : w1.cell? ⟨w.heap.size, 0, none⟩ = some (.bool false) ∧ w1.cell? ⟨w.heap.size, 1, none⟩ = some (.slice ac D.nk cc) ∧ w1.cell? ⟨w.heap.size, 2, none⟩ = some (.slice ap D.nv cp) ∧ w1.cell? ⟨w.heap.size, 3, none⟩ = some (.slice ai D.nd ci) := HK0.out _ hb1))
  all_goals
    obtain ⟨W2, hW2⟩ : ∃ W2, Hid (w2 = W2) := ⟨_, rfl⟩
    have HR : Hid (BR W2 w.heap.size v2 (keysL D 0)) := by
      show BR _ _ _ _
      rw [HH.out, ← hW2.out]
      exact hr2.mono (Nat.le_trans HW0.out.size (by first | exact hb1.size | (have := hb1.size; simpa using this)))
    have HB : Hid (Below W0.heap.size W0 W2) := by show Below _ _ _; rw [← hW2.out]; exact hb2
    rw [hW2.out]
    clear hcells1 hcells2 hr1 hr2 hB1 hB2 hb1 hb2 x0 x1 x2 x3 hv1 HH
    go_wp2
    try clear x0 x1 x2 x3
    go_loopg [4, 5] D.nk (fun q b i wr => ∃ k : Nat, k ≤ D.nk ∧ q = D.nk - k ∧ i = .int .i64 k ∧ Below W0.heap.size W0 wr ∧ BR wr w.heap.size b (keysL D k))
    case atStart => exact ⟨0, Nat.zero_le _, rfl, rfl, HB.out, HR.out⟩
    case round =>
      clear HB HR
      obtain ⟨k, hk, rfl, rfl, hB, hr⟩ := hrel
      obtain ⟨x0, x1, x2, x3⟩ := HK0.out _ hB
      have hBw := HW0.out.trans (hB.mono HW0.out.size)
      by_cases hlt : k < D.nk
      · obtain ⟨b1, o1, rfl, hb1, y0⟩ := txv_at (HC.out.below hBw) hlt
        obtain ⟨hl, hby⟩ := keysL_ok HF.out (Nat.le_of_lt hlt)
        obtain ⟨g, c, rfl, hv⟩ := hr.view hby
        have hkz : (k : Int) < (D.nk : Int) := by omega
        have hP := putText_br g c _ (D.key k) wr hv (by omega) (by have := HF.out.key k hlt; omega)
        have HST : Hid (keysL D (k + 1) = keysL D k ++ oneT (D.key k)) := by show _ = _; simp [keysL, textsL, List.append_assoc]
        have HBk : Hid (Below W0.heap.size W0 wr) := hB
        obtain ⟨p0, hp0⟩ : ∃ x, Hid (D.key k = x) := ⟨_, rfl⟩
        obtain ⟨Q, hQ⟩ : ∃ Q, Hid (keysL D k = Q) := ⟨_, rfl⟩
        rw [hp0.out] at y0 HST hP
        rw [hQ.out] at hP HST ⊢
        clear hr hv hby hB
        go_wp2_with fail
        refine hP.mono ?_
        rintro e w3 ⟨v3, rfl, hr3, hb3⟩
        have HR3 : Hid (BR w3 w.heap.size v3 (keysL D (k + 1))) := by show BR _ _ _ _; rw [HST.out]; exact hr3.mono hBw.size
        have HB3 : Hid (Below W0.heap.size W0 w3) := HBk.out.trans (hb3.mono HBk.out.size)
        clear hP hr3 hb3 HST hBw
        go_wp2
        go_roundg (D.nk - (k + 1))
        case measure => omega
        case rel => exact ⟨k + 1, by omega, rfl, by go_num, HB3.out, HR3.out⟩
      · obtain rfl : k = D.nk := by omega
        have hkz : ¬ (D.nk : Int) < (D.nk : Int) := by omega
        have HB : Hid (Below W0.heap.size W0 wr) := hB
        have HR : Hid (BR wr w.heap.size u4 (keysL D D.nk)) := hr
        clear hB hr hBw
        obtain ⟨W9, hW9⟩ : ∃ W9, Hid (wr = W9) := ⟨_, rfl⟩
        rw [hW9.out] at HR HB x0 x1 x2 x3 ⊢
        go_wp2
        go_loopg [4, 6] 0 (fun q b i wx => q = 0 ∧ b = u4 ∧ i = .int .i64 0 ∧ wx = W9)
        case atStart => exact ⟨rfl, rfl, rfl, rfl⟩
        case round =>
          obtain ⟨rfl, hu4, rfl, hwx⟩ := hrel
          subst hu4
          rw [hwx]
          by_cases h0 : (0 : Int) < (D.nv : Int)
          · have HR0 : Hid (BR W9 w.heap.size u4 (kidsL D 0)) := by
              have := HR.out
              simp only [keysL] at this
              show BR _ _ _ _
              simpa [kidsL, numL] using this
            clear HR
            have HR := HR0
            clear HR0
            go_wp2
            try clear x0 x1 x2 x3
            go_loopg [4, 7] D.nd (fun q b i wr => ∃ k : Nat, k ≤ D.nd ∧ q = D.nd - k ∧ i = .int .i64 k ∧ Below W0.heap.size W0 wr ∧ BR wr w.heap.size b (kidsL D k))
            case atStart => exact ⟨0, Nat.zero_le _, rfl, rfl, HB.out, HR.out⟩
            case round =>
              clear HB HR
              obtain ⟨k, hk, rfl, rfl, hB, hr⟩ := hrel
              obtain ⟨x0, x1, x2, x3⟩ := HK0.out _ hB
              have hBw := HW0.out.trans (hB.mono HW0.out.size)
              by_cases hlt : k < D.nd
              · obtain ⟨b1, o1, rfl, hb1, y0⟩ := nuv_at (HI.out.below hBw) hlt
                obtain ⟨hl, hby⟩ := kidsL_ok HF.out (Nat.le_of_lt hlt)
                obtain ⟨g, c, rfl, hv⟩ := hr.view hby
                have hkz : (k : Int) < (D.nd : Int) := by omega
                have hP := putU_br g c _ (D.kid k) wr hv (by omega) (HKD.out k hlt).1 (HKD.out k hlt).2
                have HST : Hid (kidsL D (k + 1) = kidsL D k ++ groups (clampN (D.kid k))) := by show _ = _; simp [kidsL, numL, List.append_assoc]
                have HBk : Hid (Below W0.heap.size W0 wr) := hB
                obtain ⟨p0, hp0⟩ : ∃ x, Hid (D.kid k = x) := ⟨_, rfl⟩
                obtain ⟨Q, hQ⟩ : ∃ Q, Hid (kidsL D k = Q) := ⟨_, rfl⟩
                rw [hp0.out] at y0 HST hP
                rw [hQ.out] at hP HST ⊢
                clear hr hv hby hB
                go_wp2_with fail
                refine hP.mono ?_
                rintro e w3 ⟨v3, rfl, hr3, hb3⟩
                have HR3 : Hid (BR w3 w.heap.size v3 (kidsL D (k + 1))) := by show BR _ _ _ _; rw [HST.out]; exact hr3.mono hBw.size
                have HB3 : Hid (Below W0.heap.size W0 w3) := HBk.out.trans (hb3.mono HBk.out.size)
                clear hP hr3 hb3 HST hBw
                go_wp2
                go_roundg (D.nd - (k + 1))
                case measure => omega
                case rel => exact ⟨k + 1, by omega, rfl, by go_num, HB3.out, HR3.out⟩
              · obtain rfl : k = D.nd := by omega
                have hkz : ¬ (D.nd : Int) < (D.nd : Int) := by omega
                have HB : Hid (Below W0.heap.size W0 wr) := hB
                have HR : Hid (BR wr w.heap.size u4 (kidsL D D.nd)) := hr
                clear hB hr hBw
                go_wp2
                go_ret
                exact ⟨_, rfl, by rw [HE.out]; exact HR.out, HW0.out.trans (HB.out.mono HW0.out.size)⟩
          · have HR0 : Hid (BR W9 w.heap.size u4 (kidsL D 0)) := by
              have := HR.out
              simp only [keysL] at this
              show BR _ _ _ _
              simpa [kidsL, numL] using this
            clear HR
            have HR := HR0
            clear HR0
            go_wp2
            try clear x0 x1 x2 x3
            go_loopg [4, 7] D.nd (fun q b i wr => ∃ k : Nat, k ≤ D.nd ∧ q = D.nd - k ∧ i = .int .i64 k ∧ Below W0.heap.size W0 wr ∧ BR wr w.heap.size b (kidsL D k))
            case atStart => exact ⟨0, Nat.zero_le _, rfl, rfl, HB.out, HR.out⟩
            case round =>
              clear HB HR
              obtain ⟨k, hk, rfl, rfl, hB, hr⟩ := hrel
              obtain ⟨x0, x1, x2, x3⟩ := HK0.out _ hB
              have hBw := HW0.out.trans (hB.mono HW0.out.size)
              by_cases hlt : k < D.nd
              · obtain ⟨b1, o1, rfl, hb1, y0⟩ := nuv_at (HI.out.below hBw) hlt
                obtain ⟨hl, hby⟩ := kidsL_ok HF.out (Nat.le_of_lt hlt)
                obtain ⟨g, c, rfl, hv⟩ := hr.view hby
                have hkz : (k : Int) < (D.nd : Int) := by omega
                have hP := putU_br g c _ (D.kid k) wr hv (by omega) (HKD.out k hlt).1 (HKD.out k hlt).2
                have HST : Hid (kidsL D (k + 1) = kidsL D k ++ groups (clampN (D.kid k))) := by show _ = _; simp [kidsL, numL, List.append_assoc]
                have HBk : Hid (Below W0.heap.size W0 wr) := hB
                obtain ⟨p0, hp0⟩ : ∃ x, Hid (D.kid k = x) := ⟨_, rfl⟩
                obtain ⟨Q, hQ⟩ : ∃ Q, Hid (kidsL D k = Q) := ⟨_, rfl⟩
                rw [hp0.out] at y0 HST hP
                rw [hQ.out] at hP HST ⊢
                clear hr hv hby hB
                go_wp2_with fail
                refine hP.mono ?_
                rintro e w3 ⟨v3, rfl, hr3, hb3⟩
                have HR3 : Hid (BR w3 w.heap.size v3 (kidsL D (k + 1))) := by show BR _ _ _ _; rw [HST.out]; exact hr3.mono hBw.size
                have HB3 : Hid (Below W0.heap.size W0 w3) := HBk.out.trans (hb3.mono HBk.out.size)
                clear hP hr3 hb3 HST hBw
                go_wp2
                go_roundg (D.nd - (k + 1))
                case measure => omega
                case rel => exact ⟨k + 1, by omega, rfl, by go_num, HB3.out, HR3.out⟩
              · obtain rfl : k = D.nd := by omega
                have hkz : ¬ (D.nd : Int) < (D.nd : Int) := by omega
                have HB : Hid (Below W0.heap.size W0 wr) := hB
                have HR : Hid (BR wr w.heap.size u4 (kidsL D D.nd)) := hr
                clear hB hr hBw
                go_wp2
                go_ret
                exact ⟨_, rfl, by rw [HE.out]; exact HR.out, HW0.out.trans (HB.out.mono HW0.out.size)⟩

theorem l14Put_any (v : Value) (D : PNode) (w : World) (h : NdView w v D) (hf : NFine D) (hkd : ∀ i, i < D.nd → -9223372036854775808 ≤ D.kid i ∧ D.kid i ≤ 9223372036854775807) :
    Calls Try.prog 45 #[v] w fun e w' => ∃ u, e = .returned u ∧ BR w' w.heap.size u (bytesN D) ∧ Below w.heap.size w w' := by
  obtain ⟨ac, cc, ap, cp, ai, ci, rfl, hc, hp, hi⟩ := h.is
  cases hl : D.leaf with
  | true => exact l14Put_true D hl ac cc ap cp ai ci w hc hp hi hf hkd
  | false => exact l14Put_false D hl ac cc ap cp ai ci w hc hp hi hf hkd
end Go.Proofs.Ytaiinlcdfeboiaa

/-
  The model's SizeOf.
-/
namespace Go.Proofs.Ytaiinlcdfeboiaa
open Go.RowKit
set_option maxRecDepth 4000

set_option maxHeartbeats 1000000 in
theorem specSizeOf_any (v : Value) (D : PNode) (w : World) (h : NdView w v D) (hf : NFine D) :
    Calls Try.prog 17 #[v] w fun e w' => e = .returned (.int .i64 (sizeN D)) ∧ Below w.heap.size w w' := by
  obtain ⟨ac, cc, ap, cp, ai, ci, rfl, -, -, -⟩ := h.is
  have hB0 := (nbox_below (nbox_start w (.cells #[.bool D.leaf, .slice ac D.nk cc, .slice ap D.nv cp, .slice ai D.nd ci] 27))).1
  have hP := l14Put_any _ D _ (h.below hB0) hf hf.kid
  clear h
  go_enter Try.func17, Try.ntmps17
  go_wp2_with fail
  refine hP.mono ?_
  rintro e w1 ⟨u, rfl, ⟨g, c, rfl, -⟩, hb1⟩
  have HB : Hid (Below w.heap.size w w1) := hB0.trans (hb1.mono (by simp))
  clear hP hb1 hB0
  go_wp2
  go_ret
  exact ⟨rfl, HB.out⟩
end Go.Proofs.Ytaiinlcdfeboiaa

/-
  The model's l1In: whether a number lies between two.
-/
namespace Go.Proofs.Ytaiinlcdfeboiaa
open Go.RowKit
set_option maxRecDepth 4000

set_option maxHeartbeats 1000000 in
theorem l1In_any (x l m : Int) (w : World) :
    Calls Try.prog 47 #[.int .i64 x, .int .i64 l, .int .i64 m] w fun e w' => e = .returned (.bool (decide (l ≤ x) && decide (x ≤ m))) ∧ w = w' := by
  go_enter Try.func47, Try.ntmps47
  by_cases h : l ≤ x
  · have e1 : decide (l ≤ x) = true := by simpa using h
    go_wp2
    go_ret
    exact ⟨by simp [h], rfl⟩
  · have e1 : decide (l ≤ x) = false := by simpa using h
    go_wp2
    go_ret
    exact ⟨by simp, rfl⟩

theorem l1In_yes (x l m : Int) (w : World) (h1 : l ≤ x) (h2 : x ≤ m) :
    Calls Try.prog 47 #[.int .i64 x, .int .i64 l, .int .i64 m] w fun e w' => e = .returned (.bool true) ∧ w = w' := by
  have h := l1In_any x l m w
  rw [decide_eq_true h1, decide_eq_true h2] at h
  exact h
theorem l1In_no (x l m : Int) (w : World) (h1 : x < l ∨ m < x) :
    Calls Try.prog 47 #[.int .i64 x, .int .i64 l, .int .i64 m] w fun e w' => e = .returned (.bool false) ∧ w = w' := by
  have h := l1In_any x l m w
  have e : (decide (l ≤ x) && decide (x ≤ m)) = false := by
    rcases h1 with h1 | h1
    · rw [decide_eq_false (by omega), Bool.false_and]
    · rw [decide_eq_false (p := x ≤ m) (by omega), Bool.and_false]
  rw [e] at h
  exact h
end Go.Proofs.Ytaiinlcdfeboiaa

