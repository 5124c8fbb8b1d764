/-
  Together: NodePutS, NodeSizeS, LawSizeOf, PutBytes, PutBOpt
-/
import Derived.Test.YtkaficcnfkpkiaaNz2
import Derived.Test.YtkaficcnfkpkiaaNz1
import Derived.Deep.RegionHeld3
import Derived.WalkSpells
/-
  The model's l14Put: the bytes of a node, right or not; its SizeOf.
-/
namespace Go.Proofs.Ytkaficcnfkpkiaa
open Go.RowKit
set_option maxRecDepth 4000

theorem putU_br (g c : Nat) (L : List Int) (x : Int) (w : World) (hv : View w (some ⟨g, 0, none⟩) L.length c (fun i => L.getD i 0)) (hn : L.length ≤ 70368744177664) (hx0 : -9223372036854775808 ≤ x) (hx1 : x ≤ 9223372036854775807) :
    Calls Try.prog 63 #[.slice (some ⟨g, 0, none⟩) L.length c, .int .i64 x] w fun e w' => ∃ v, e = .returned v ∧ BR w' w.heap.size v (L ++ groups (clampN x)) ∧ Below w.heap.size w w' := by
  refine (putU_spec g 0 L.length c (fun i => L.getD i 0) x w hv hn hx0 hx1).mono ?_
  rintro e w1 ⟨v, rfl, hown, hb⟩
  rw [lof_self] at hown
  obtain ⟨g2, c2, e2, hg, hgc, hr⟩ := row_of_own hown (by have := (groups_len (clampN x)).1; omega)
  exact ⟨v, rfl, ⟨g2, c2, by rw [List.length_append]; exact e2, hg, by rw [List.length_append]; exact hgc, by rw [List.length_append]; exact hr⟩, hb⟩
theorem putText_br (g c : Nat) (L : List Int) (s : ByteArray) (w : World) (hv : View w (some ⟨g, 0, none⟩) L.length c (fun i => L.getD i 0)) (hn : L.length ≤ 35184372088832) (hs : s.size ≤ 35184372088832) :
    Calls Try.prog 64 #[.slice (some ⟨g, 0, none⟩) L.length c, .string s] w fun e w' => ∃ v, e = .returned v ∧ BR w' w.heap.size v (L ++ oneT s) ∧ Below w.heap.size w w' := by
  refine (putText_spec g 0 L.length c (fun i => L.getD i 0) s w hv hn hs).mono ?_
  rintro e w1 ⟨g2, c2, rfl, hg, hgc, hr, hb⟩
  have hl : (L ++ oneT s).length = L.length + (groups (clampN s.size)).length + s.size := by rw [List.length_append, oneT_len]; omega
  have ht : textL L.length (fun i => L.getD i 0) s = L ++ oneT s := by unfold textL oneT; rw [lof_self, List.append_assoc]
  rw [ht] at hr
  exact ⟨_, rfl, ⟨g2, c2, by rw [hl], hg, by rw [hl]; exact hgc, by rw [hl]; exact hr⟩, hb⟩
/-- The bytes ahead of the keys' end. -/
def keysL (D : PNode) (k : Nat) : List Int := headL D ++ textsL D.key k
def midL (D : PNode) (k : Nat) : List Int := headL D ++ textsL D.key D.nk ++ textsL D.val k
def kidsL (D : PNode) (k : Nat) : List Int := headL D ++ textsL D.key D.nk ++ numL D.kid k
theorem keysL_ok {D : PNode} (hf : NFine D) {k : Nat} (hk : k ≤ D.nk) : (keysL D k).length ≤ 2199023255552 ∧ ∀ y ∈ keysL D k, 0 ≤ y ∧ y ≤ 255 := by
  have h1 := headL_len D
  have h2 := textsL_len hf.key k hk
  have h3 := hf.nk
  refine ⟨by simp only [keysL, List.length_append]; omega, fun y hy => ?_⟩
  rw [keysL, List.mem_append] at hy
  rcases hy with hy | hy
  · exact headL_byte D y hy
  · exact textsL_byte _ _ y hy
theorem midL_ok {D : PNode} (hf : NFine D) {k : Nat} (hk : k ≤ D.nv) : (midL D k).length ≤ 4398046511104 ∧ ∀ y ∈ midL D k, 0 ≤ y ∧ y ≤ 255 := by
  obtain ⟨h1, h2⟩ := keysL_ok hf (Nat.le_refl D.nk)
  unfold keysL at h1 h2
  have h3 := textsL_len hf.val k hk
  have h4 := hf.nv
  refine ⟨by simp only [midL, List.length_append] at h1 ⊢; omega, fun y hy => ?_⟩
  rw [midL, List.mem_append] at hy
  rcases hy with hy | hy
  · exact h2 y hy
  · exact textsL_byte _ _ y hy
theorem kidsL_ok {D : PNode} (hf : NFine D) {k : Nat} (hk : k ≤ D.nd) : (kidsL D k).length ≤ 4398046511104 ∧ ∀ y ∈ kidsL D k, 0 ≤ y ∧ y ≤ 255 := by
  obtain ⟨h1, h2⟩ := keysL_ok hf (Nat.le_refl D.nk)
  unfold keysL at h1 h2
  have h3 := numL_len D.kid k
  have h4 := hf.nd
  refine ⟨by simp only [kidsL, List.length_append] at h1 ⊢; omega, fun y hy => ?_⟩
  rw [kidsL, List.mem_append] at hy
  rcases hy with hy | hy
  · exact h2 y hy
  · exact numL_byte _ _ y hy


set_option maxHeartbeats 8000000 in
theorem l14Put_true (D : PNode) (hleaf : D.leaf = true) (ac : Option Addr) (cc : Nat) (ap : Option Addr) (cp : Nat) (ai : Option Addr) (ci : Nat) (w : World) (hc : TxV w ac D.nk cc D.key) (hp : TxV w ap D.nv cp D.val) (hi : NuV w ai D.nd ci D.kid) (hf : NFine D) (hkd : ∀ i, i < D.nd → -9223372036854775808 ≤ D.kid i ∧ D.kid i ≤ 9223372036854775807) :
    Calls Try.prog 41 #[.agg #[.bool true, .slice ac D.nk cc, .slice ap D.nv cp, .slice ai D.nd ci]] w fun e w' => ∃ u, e = .returned u ∧ BR w' w.heap.size u (bytesN D) ∧ Below w.heap.size w w' := by
  have hnk := hf.nk
  have hnv := hf.nv
  have hnd := hf.nd
  have HF : Hid (NFine D) := hf
  have HKD : Hid (∀ i, i < D.nd → -9223372036854775808 ≤ D.kid i ∧ D.kid i ≤ 9223372036854775807) := hkd
  have HH : Hid (keysL D 0 = ([] ++ groups (clampN 1)) ++ groups (clampN D.nk)) := by show _ = _; simp [keysL, headL, hleaf, textsL]
  have HE : Hid (bytesN D = midL D D.nv) := by show _ = _; simp [bytesN, hleaf, midL]
  have HC : Hid (TxV w ac D.nk cc D.key) := hc
  have HP : Hid (TxV w ap D.nv cp D.val) := hp
  have HI : Hid (NuV w ai D.nd ci D.kid) := hi
  clear hf hkd hc hp hi hleaf
  have hB0 := nbox_start w (.cells #[.bool true, .slice ac D.nk cc, .slice ap D.nv cp, .slice ai D.nd ci] 28)
  have hBw0 := (nbox_below hB0).1
  obtain ⟨W0, hW0⟩ : ∃ W0, Hid ((w.alloc (.cells #[.bool true, .slice ac D.nk cc, .slice ap D.nv cp, .slice ai D.nd ci] 28)) = W0) := ⟨_, rfl⟩
  have HK0 : Hid (∀ W, Below W0.heap.size W0 W → (W.cell? ⟨w.heap.size, 0, none⟩ = some (.bool true) ∧ W.cell? ⟨w.heap.size, 1, none⟩ = some (.slice ac D.nk cc) ∧ W.cell? ⟨w.heap.size, 2, none⟩ = some (.slice ap D.nv cp) ∧ W.cell? ⟨w.heap.size, 3, none⟩ = some (.slice ai D.nd ci))) := by
    intro W hb
    rw [← hW0.out] at hb
    exact nbox4 (hb.mono (by simp))
  have HW0 : Hid (Below w.heap.size w W0) := by show Below _ _ _; rw [← hW0.out]; exact hBw0
  clear hBw0 hB0
  go_enter Try.func41, Try.ntmps41
  go_wp2_with fail
  rw [hW0.out]
  obtain ⟨x0, x1, x2, x3⟩ := HK0.out W0 (Below.refl _ _)
  go_region_held3 (fun WW => WW.cell? ⟨w.heap.size, 0, none⟩ = some (.bool true) ∧ WW.cell? ⟨w.heap.size, 1, none⟩ = some (.slice ac D.nk cc) ∧ WW.cell? ⟨w.heap.size, 2, none⟩ = some (.slice ap D.nv cp) ∧ WW.cell? ⟨w.heap.size, 3, none⟩ = some (.slice ai D.nd ci)) (first | assumption | go_keep) (first
    | (go_at_call_of 63 (D.nk); obtain ⟨g1, c1, rfl, hv1⟩ := hr1.view (fun y hy => groups_byte _ (clampN_bd _).1 (clampN_bd _).2 y (by simpa using hy)); refine (putU_br g1 c1 _ (D.nk : Int) _ (by first | exact hv1 | exact hv1.drew) (by have := (groups_len (clampN 1)).2; simp; omega) (by omega) (by omega)).mono ?_; rintro e w2 ⟨v2, rfl, hr2, hB2⟩; have hb2 : Below W0.heap.size W0 w2 := hb1.trans ((Below.trans (by repeat (first | exact Below.refl _ _ | refine Below.drew ?_)) hB2).mono hb1.size); have hcells2 : w2.cell? ⟨w.heap.size, 0, none⟩ = some (.bool true) ∧ w2.cell? ⟨w.heap.size, 1, none⟩ = some (.slice ac D.nk cc) ∧ w2.cell? ⟨w.heap.size, 2, none⟩ = some (.slice ap D.nv cp) ∧ w2.cell? ⟨w.heap.size, 3, none⟩ = some (.slice ai D.nd ci) := HK0.out _ hb2)
    | (go_at_call 63; refine (putU_br _ 0 [] 1 _ ⟨Nat.le_refl _, fun i hi => absurd hi (Nat.not_lt_zero _), fun h => absurd h (Nat.lt_irrefl _)⟩ (by simp) (by omega) (by omega)).mono ?_; rintro e w1 ⟨v1, rfl, hr1, hB1⟩; have hb1 : Below W0.heap.size W0 w1 := Below.trans (by repeat (first | exact Below.refl _ _ | refine Below.alloc ?_ (by simp) _ | refine Below.drew ?_)) (hB1.mono (by simp)); have hcells1 : w1.cell? ⟨w.heap.size, 0, none⟩ = some (.bool true) ∧ w1.cell? ⟨w.heap.size, 1, none⟩ = some (.slice ac D.nk cc) ∧ w1.cell? ⟨w.heap.size, 2, none⟩ = some (.slice ap D.nv cp) ∧ w1.cell? ⟨w.heap.size, 3, none⟩ = some (.slice ai D.nd ci) := HK0.out _ hb1))
  all_goals
    obtain ⟨W2, hW2⟩ : ∃ W2, Hid (w2 = W2) := ⟨_, rfl⟩
    have HR : Hid (BR W2 w.heap.size v2 (keysL D 0)) := by
      show BR _ _ _ _
      rw [HH.out, ← hW2.out]
      exact hr2.mono (Nat.le_trans HW0.out.size (by first | exact hb1.size | (have := hb1.size; simpa using this)))
    have HB : Hid (Below W0.heap.size W0 W2) := by show Below _ _ _; rw [← hW2.out]; exact hb2
    rw [hW2.out]
    clear hcells1 hcells2 hr1 hr2 hB1 hB2 hb1 hb2 x0 x1 x2 x3 hv1 HH
    go_wp2
    try clear x0 x1 x2 x3
    go_loopg [4, 5] D.nk (fun q b i wr => ∃ k : Nat, k ≤ D.nk ∧ q = D.nk - k ∧ i = .int .i64 k ∧ Below W0.heap.size W0 wr ∧ BR wr w.heap.size b (keysL D k))
    case atStart => exact ⟨0, Nat.zero_le _, rfl, rfl, HB.out, HR.out⟩
    case round =>
      clear HB HR
      obtain ⟨k, hk, rfl, rfl, hB, hr⟩ := hrel
      obtain ⟨x0, x1, x2, x3⟩ := HK0.out _ hB
      have hBw := HW0.out.trans (hB.mono HW0.out.size)
      by_cases hlt : k < D.nk
      · obtain ⟨b1, o1, rfl, hb1, y0⟩ := txv_at (HC.out.below hBw) hlt
        obtain ⟨hl, hby⟩ := keysL_ok HF.out (Nat.le_of_lt hlt)
        obtain ⟨g, c, rfl, hv⟩ := hr.view hby
        have hkz : (k : Int) < (D.nk : Int) := by omega
        have hP := putText_br g c _ (D.key k) wr hv (by omega) (by have := HF.out.key k hlt; omega)
        have HST : Hid (keysL D (k + 1) = keysL D k ++ oneT (D.key k)) := by show _ = _; simp [keysL, textsL, List.append_assoc]
        have HBk : Hid (Below W0.heap.size W0 wr) := hB
        obtain ⟨p0, hp0⟩ : ∃ x, Hid (D.key k = x) := ⟨_, rfl⟩
        obtain ⟨Q, hQ⟩ : ∃ Q, Hid (keysL D k = Q) := ⟨_, rfl⟩
        rw [hp0.out] at y0 HST hP
        rw [hQ.out] at hP HST ⊢
        clear hr hv hby hB
        go_wp2_with fail
        refine hP.mono ?_
        rintro e w3 ⟨v3, rfl, hr3, hb3⟩
        have HR3 : Hid (BR w3 w.heap.size v3 (keysL D (k + 1))) := by show BR _ _ _ _; rw [HST.out]; exact hr3.mono hBw.size
        have HB3 : Hid (Below W0.heap.size W0 w3) := HBk.out.trans (hb3.mono HBk.out.size)
        clear hP hr3 hb3 HST hBw
        go_wp2
        go_roundg (D.nk - (k + 1))
        case measure => omega
        case rel => exact ⟨k + 1, by omega, rfl, by go_num, HB3.out, HR3.out⟩
      · obtain rfl : k = D.nk := by omega
        have hkz : ¬ (D.nk : Int) < (D.nk : Int) := by omega
        have HB : Hid (Below W0.heap.size W0 wr) := hB
        have HR : Hid (BR wr w.heap.size u4 (keysL D D.nk)) := hr
        clear hB hr hBw
        have HR0 : Hid (BR wr w.heap.size u4 (midL D 0)) := by
          have := HR.out
          simp only [keysL] at this
          show BR _ _ _ _
          simpa [midL, textsL] using this
        clear HR
        have HR := HR0
        clear HR0
        go_wp2
        try clear x0 x1 x2 x3
        go_loopg [4, 6] D.nv (fun q b i wr => ∃ k : Nat, k ≤ D.nv ∧ q = D.nv - k ∧ i = .int .i64 k ∧ Below W0.heap.size W0 wr ∧ BR wr w.heap.size b (midL D k))
        case atStart => exact ⟨0, Nat.zero_le _, rfl, rfl, HB.out, HR.out⟩
        case round =>
          clear HB HR
          obtain ⟨k, hk, rfl, rfl, hB, hr⟩ := hrel
          obtain ⟨x0, x1, x2, x3⟩ := HK0.out _ hB
          have hBw := HW0.out.trans (hB.mono HW0.out.size)
          by_cases hlt : k < D.nv
          · obtain ⟨b1, o1, rfl, hb1, y0⟩ := txv_at (HP.out.below hBw) hlt
            obtain ⟨hl, hby⟩ := midL_ok HF.out (Nat.le_of_lt hlt)
            obtain ⟨g, c, rfl, hv⟩ := hr.view hby
            have hkz : (k : Int) < (D.nv : Int) := by omega
            have hP := putText_br g c _ (D.val k) wr hv (by omega) (by have := HF.out.val k hlt; omega)
            have HST : Hid (midL D (k + 1) = midL D k ++ oneT (D.val k)) := by show _ = _; simp [midL, textsL, List.append_assoc]
            have HBk : Hid (Below W0.heap.size W0 wr) := hB
            obtain ⟨p0, hp0⟩ : ∃ x, Hid (D.val k = x) := ⟨_, rfl⟩
            obtain ⟨Q, hQ⟩ : ∃ Q, Hid (midL D k = Q) := ⟨_, rfl⟩
            rw [hp0.out] at y0 HST hP
            rw [hQ.out] at hP HST ⊢
            clear hr hv hby hB
            go_wp2_with fail
            refine hP.mono ?_
            rintro e w3 ⟨v3, rfl, hr3, hb3⟩
            have HR3 : Hid (BR w3 w.heap.size v3 (midL D (k + 1))) := by show BR _ _ _ _; rw [HST.out]; exact hr3.mono hBw.size
            have HB3 : Hid (Below W0.heap.size W0 w3) := HBk.out.trans (hb3.mono HBk.out.size)
            clear hP hr3 hb3 HST hBw
            go_wp2
            go_roundg (D.nv - (k + 1))
            case measure => omega
            case rel => exact ⟨k + 1, by omega, rfl, by go_num, HB3.out, HR3.out⟩
          · obtain rfl : k = D.nv := by omega
            have hkz : ¬ (D.nv : Int) < (D.nv : Int) := by omega
            have HB : Hid (Below W0.heap.size W0 wr) := hB
            have HR : Hid (BR wr w.heap.size u4 (midL D D.nv)) := hr
            clear hB hr hBw
            obtain ⟨W9, hW9⟩ : ∃ W9, Hid (wr = W9) := ⟨_, rfl⟩
            rw [hW9.out] at HR HB x0 x1 x2 x3 ⊢
            go_wp2
            go_loopg [4, 7] 0 (fun q b i wx => q = 0 ∧ b = u4 ∧ i = .int .i64 0 ∧ wx = W9)
            case atStart => exact ⟨rfl, rfl, rfl, rfl⟩
            case round =>
              obtain ⟨rfl, hu4, rfl, hwx⟩ := hrel
              subst hu4
              rw [hwx]
              by_cases h0 : (0 : Int) < (D.nd : Int)
              · go_wp2
                go_ret
                exact ⟨_, rfl, by rw [HE.out]; exact HR.out, HW0.out.trans (HB.out.mono HW0.out.size)⟩
              · go_wp2
                go_ret
                exact ⟨_, rfl, by rw [HE.out]; exact HR.out, HW0.out.trans (HB.out.mono HW0.out.size)⟩
set_option maxHeartbeats 8000000 in
theorem l14Put_false (D : PNode) (hleaf : D.leaf = false) (ac : Option Addr) (cc : Nat) (ap : Option Addr) (cp : Nat) (ai : Option Addr) (ci : Nat) (w : World) (hc : TxV w ac D.nk cc D.key) (hp : TxV w ap D.nv cp D.val) (hi : NuV w ai D.nd ci D.kid) (hf : NFine D) (hkd : ∀ i, i < D.nd → -9223372036854775808 ≤ D.kid i ∧ D.kid i ≤ 9223372036854775807) :
    Calls Try.prog 41 #[.agg #[.bool false, .slice ac D.nk cc, .slice ap D.nv cp, .slice ai D.nd ci]] w fun e w' => ∃ u, e = .returned u ∧ BR w' w.heap.size u (bytesN D) ∧ Below w.heap.size w w' := by
  have hnk := hf.nk
  have hnv := hf.nv
  have hnd := hf.nd
  have HF : Hid (NFine D) := hf
  have HKD : Hid (∀ i, i < D.nd → -9223372036854775808 ≤ D.kid i ∧ D.kid i ≤ 9223372036854775807) := hkd
  have HH : Hid (keysL D 0 = ([] ++ groups (clampN 0)) ++ groups (clampN D.nk)) := by show _ = _; simp [keysL, headL, hleaf, textsL]
  have HE : Hid (bytesN D = kidsL D D.nd) := by show _ = _; simp [bytesN, hleaf, kidsL]
  have HC : Hid (TxV w ac D.nk cc D.key) := hc
  have HP : Hid (TxV w ap D.nv cp D.val) := hp
  have HI : Hid (NuV w ai D.nd ci D.kid) := hi
  clear hf hkd hc hp hi hleaf
  have hB0 := nbox_start w (.cells #[.bool false, .slice ac D.nk cc, .slice ap D.nv cp, .slice ai D.nd ci] 28)
  have hBw0 := (nbox_below hB0).1
  obtain ⟨W0, hW0⟩ : ∃ W0, Hid ((w.alloc (.cells #[.bool false, .slice ac D.nk cc, .slice ap D.nv cp, .slice ai D.nd ci] 28)) = W0) := ⟨_, rfl⟩
  have HK0 : Hid (∀ W, Below W0.heap.size W0 W → (W.cell? ⟨w.heap.size, 0, none⟩ = some (.bool false) ∧ W.cell? ⟨w.heap.size, 1, none⟩ = some (.slice ac D.nk cc) ∧ W.cell? ⟨w.heap.size, 2, none⟩ = some (.slice ap D.nv cp) ∧ W.cell? ⟨w.heap.size, 3, none⟩ = some (.slice ai D.nd ci))) := by
    intro W hb
    rw [← hW0.out] at hb
    exact nbox4 (hb.mono (by simp))
  have HW0 : Hid (Below w.heap.size w W0) := by show Below _ _ _; rw [← hW0.out]; exact hBw0
  clear hBw0 hB0
  go_enter Try.func41, Try.ntmps41
  go_wp2_with fail
  rw [hW0.out]
  obtain ⟨x0, x1, x2, x3⟩ := HK0.out W0 (Below.refl _ _)
  go_region_held3 (fun WW => WW.cell? ⟨w.heap.size, 0, none⟩ = some (.bool false) ∧ WW.cell? ⟨w.heap.size, 1, none⟩ = some (.slice ac D.nk cc) ∧ WW.cell? ⟨w.heap.size, 2, none⟩ = some (.slice ap D.nv cp) ∧ WW.cell? ⟨w.heap.size, 3, none⟩ = some (.slice ai D.nd ci)) (first | assumption | go_keep) (first
    | (go_at_call_of 63 (D.nk); obtain ⟨g1, c1, rfl, hv1⟩ := hr1.view (fun y hy => groups_byte _ (clampN_bd _).1 (clampN_bd _).2 y (by simpa using hy)); refine (putU_br g1 c1 _ (D.nk : Int) _ (by first | exact hv1 | exact hv1.drew) (by have := (groups_len (clampN 0)).2; simp; omega) (by omega) (by omega)).mono ?_; rintro e w2 ⟨v2, rfl, hr2, hB2⟩; have hb2 : Below W0.heap.size W0 w2 := hb1.trans ((Below.trans (by repeat (first | exact Below.refl _ _ | refine Below.drew ?_)) hB2).mono hb1.size); have hcells2 : w2.cell? ⟨w.heap.size, 0, none⟩ = some (.bool false) ∧ w2.cell? ⟨w.heap.size, 1, none⟩ = some (.slice ac D.nk cc) ∧ w2.cell? ⟨w.heap.size, 2, none⟩ = some (.slice ap D.nv cp) ∧ w2.cell? ⟨w.heap.size, 3, none⟩ = some (.slice ai D.nd ci) := HK0.out _ hb2)
    | (go_at_call 63; refine (putU_br _ 0 [] 0 _ ⟨Nat.le_refl _, fun i hi => absurd hi (Nat.not_lt_zero _), fun h => absurd h (Nat.lt_irrefl _)⟩ (by simp) (by omega) (by omega)).mono ?_; rintro e w1 ⟨v1, rfl, hr1, hB1⟩; have hb1 : Below W0.heap.size W0 w1 := Below.trans (by repeat (first | exact Below.refl _ _ | refine Below.alloc ?_ (by simp) _ | refine Below.drew ?_)) (hB1.mono (by simp)); have hcells1 : w1.cell? ⟨w.heap.size, 0, none⟩ = some (.bool false) ∧ w1.cell? ⟨w.heap.size, 1, none⟩ = some (.slice ac D.nk cc) ∧ w1.cell? ⟨w.heap.size, 2, none⟩ = some (.slice ap D.nv cp) ∧ w1.cell? ⟨w.heap.size, 3, none⟩ = some (.slice ai D.nd ci) := HK0.out _ hb1))
  all_goals
    obtain ⟨W2, hW2⟩ : ∃ W2, Hid (w2 = W2) := ⟨_, rfl⟩
    have HR : Hid (BR W2 w.heap.size v2 (keysL D 0)) := by
      show BR _ _ _ _
      rw [HH.out, ← hW2.out]
      exact hr2.mono (Nat.le_trans HW0.out.size (by first | exact hb1.size | (have := hb1.size; simpa using this)))
    have HB : Hid (Below W0.heap.size W0 W2) := by show Below _ _ _; rw [← hW2.out]; exact hb2
    rw [hW2.out]
    clear hcells1 hcells2 hr1 hr2 hB1 hB2 hb1 hb2 x0 x1 x2 x3 hv1 HH
    go_wp2
    try clear x0 x1 x2 x3
    go_loopg [4, 5] D.nk (fun q b i wr => ∃ k : Nat, k ≤ D.nk ∧ q = D.nk - k ∧ i = .int .i64 k ∧ Below W0.heap.size W0 wr ∧ BR wr w.heap.size b (keysL D k))
    case atStart => exact ⟨0, Nat.zero_le _, rfl, rfl, HB.out, HR.out⟩
    case round =>
      clear HB HR
      obtain ⟨k, hk, rfl, rfl, hB, hr⟩ := hrel
      obtain ⟨x0, x1, x2, x3⟩ := HK0.out _ hB
      have hBw := HW0.out.trans (hB.mono HW0.out.size)
      by_cases hlt : k < D.nk
      · obtain ⟨b1, o1, rfl, hb1, y0⟩ := txv_at (HC.out.below hBw) hlt
        obtain ⟨hl, hby⟩ := keysL_ok HF.out (Nat.le_of_lt hlt)
        obtain ⟨g, c, rfl, hv⟩ := hr.view hby
        have hkz : (k : Int) < (D.nk : Int) := by omega
        have hP := putText_br g c _ (D.key k) wr hv (by omega) (by have := HF.out.key k hlt; omega)
        have HST : Hid (keysL D (k + 1) = keysL D k ++ oneT (D.key k)) := by show _ = _; simp [keysL, textsL, List.append_assoc]
        have HBk : Hid (Below W0.heap.size W0 wr) := hB
        obtain ⟨p0, hp0⟩ : ∃ x, Hid (D.key k = x) := ⟨_, rfl⟩
        obtain ⟨Q, hQ⟩ : ∃ Q, Hid (keysL D k = Q) := ⟨_, rfl⟩
        rw [hp0.out] at y0 HST hP
        rw [hQ.out] at hP HST ⊢
        clear hr hv hby hB
        go_wp2_with fail
        refine hP.mono ?_
        rintro e w3 ⟨v3, rfl, hr3, hb3⟩
        have HR3 : Hid (BR w3 w.heap.size v3 (keysL D (k + 1))) := by show BR _ _ _ _; rw [HST.out]; exact hr3.mono hBw.size
        have HB3 : Hid (Below W0.heap.size W0 w3) := HBk.out.trans (hb3.mono HBk.out.size)
        clear hP hr3 hb3 HST hBw
        go_wp2
        go_roundg (D.nk - (k + 1))
        case measure => omega
        case rel => exact ⟨k + 1, by omega, rfl, by go_num, HB3.out, HR3.out⟩
      · obtain rfl : k = D.nk := by omega
        have hkz : ¬ (D.nk : Int) < (D.nk : Int) := by omega
        have HB : Hid (Below W0.heap.size W0 wr) := hB
        have HR : Hid (BR wr w.heap.size u4 (keysL D D.nk)) := hr
        clear hB hr hBw
        obtain ⟨W9, hW9⟩ : ∃ W9, Hid (wr = W9) := ⟨_, rfl⟩
        rw [hW9.out] at HR HB x0 x1 x2 x3 ⊢
        go_wp2
        go_loopg [4, 6] 0 (fun q b i wx => q = 0 ∧ b = u4 ∧ i = .int .i64 0 ∧ wx = W9)
        case atStart => exact ⟨rfl, rfl, rfl, rfl⟩
        case round =>
          obtain ⟨rfl, hu4, rfl, hwx⟩ := hrel
          subst hu4
          rw [hwx]
          by_cases h0 : (0 : Int) < (D.nv : Int)
          · have HR0 : Hid (BR W9 w.heap.size u4 (kidsL D 0)) := by
              have := HR.out
              simp only [keysL] at this
              show BR _ _ _ _
              simpa [kidsL, numL] using this
            clear HR
            have HR := HR0
            clear HR0
            go_wp2
            try clear x0 x1 x2 x3
            go_loopg [4, 7] D.nd (fun q b i wr => ∃ k : Nat, k ≤ D.nd ∧ q = D.nd - k ∧ i = .int .i64 k ∧ Below W0.heap.size W0 wr ∧ BR wr w.heap.size b (kidsL D k))
            case atStart => exact ⟨0, Nat.zero_le _, rfl, rfl, HB.out, HR.out⟩
            case round =>
              clear HB HR
              obtain ⟨k, hk, rfl, rfl, hB, hr⟩ := hrel
              obtain ⟨x0, x1, x2, x3⟩ := HK0.out _ hB
              have hBw := HW0.out.trans (hB.mono HW0.out.size)
              by_cases hlt : k < D.nd
              · obtain ⟨b1, o1, rfl, hb1, y0⟩ := nuv_at (HI.out.below hBw) hlt
                obtain ⟨hl, hby⟩ := kidsL_ok HF.out (Nat.le_of_lt hlt)
                obtain ⟨g, c, rfl, hv⟩ := hr.view hby
                have hkz : (k : Int) < (D.nd : Int) := by omega
                have hP := putU_br g c _ (D.kid k) wr hv (by omega) (HKD.out k hlt).1 (HKD.out k hlt).2
                have HST : Hid (kidsL D (k + 1) = kidsL D k ++ groups (clampN (D.kid k))) := by show _ = _; simp [kidsL, numL, List.append_assoc]
                have HBk : Hid (Below W0.heap.size W0 wr) := hB
                obtain ⟨p0, hp0⟩ : ∃ x, Hid (D.kid k = x) := ⟨_, rfl⟩
                obtain ⟨Q, hQ⟩ : ∃ Q, Hid (kidsL D k = Q) := ⟨_, rfl⟩
                rw [hp0.out] at y0 HST hP
                rw [hQ.out] at hP HST ⊢
                clear hr hv hby hB
                go_wp2_with fail
                refine hP.mono ?_
                rintro e w3 ⟨v3, rfl, hr3, hb3⟩
                have HR3 : Hid (BR w3 w.heap.size v3 (kidsL D (k + 1))) := by show BR _ _ _ _; rw [HST.out]; exact hr3.mono hBw.size
                have HB3 : Hid (Below W0.heap.size W0 w3) := HBk.out.trans (hb3.mono HBk.out.size)
                clear hP hr3 hb3 HST hBw
                go_wp2
                go_roundg (D.nd - (k + 1))
                case measure => omega
                case rel => exact ⟨k + 1, by omega, rfl, by go_num, HB3.out, HR3.out⟩
              · obtain rfl : k = D.nd := by omega
                have hkz : ¬ (D.nd : Int) < (D.nd : Int) := by omega
                have HB : Hid (Below W0.heap.size W0 wr) := hB
                have HR : Hid (BR wr w.heap.size u4 (kidsL D D.nd)) := hr
                clear hB hr hBw
                go_wp2
                go_ret
                exact ⟨_, rfl, by rw [HE.out]; exact HR.out, HW0.out.trans (HB.out.mono HW0.out.size)⟩
          · have HR0 : Hid (BR W9 w.heap.size u4 (kidsL D 0)) := by
              have := HR.out
              simp only [keysL] at this
              show BR _ _ _ _
              simpa [kidsL, numL] using this
            clear HR
            have HR := HR0
            clear HR0
            go_wp2
            try clear x0 x1 x2 x3
            go_loopg [4, 7] D.nd (fun q b i wr => ∃ k : Nat, k ≤ D.nd ∧ q = D.nd - k ∧ i = .int .i64 k ∧ Below W0.heap.size W0 wr ∧ BR wr w.heap.size b (kidsL D k))
            case atStart => exact ⟨0, Nat.zero_le _, rfl, rfl, HB.out, HR.out⟩
            case round =>
              clear HB HR
              obtain ⟨k, hk, rfl, rfl, hB, hr⟩ := hrel
              obtain ⟨x0, x1, x2, x3⟩ := HK0.out _ hB
              have hBw := HW0.out.trans (hB.mono HW0.out.size)
              by_cases hlt : k < D.nd
              · obtain ⟨b1, o1, rfl, hb1, y0⟩ := nuv_at (HI.out.below hBw) hlt
                obtain ⟨hl, hby⟩ := kidsL_ok HF.out (Nat.le_of_lt hlt)
                obtain ⟨g, c, rfl, hv⟩ := hr.view hby
                have hkz : (k : Int) < (D.nd : Int) := by omega
                have hP := putU_br g c _ (D.kid k) wr hv (by omega) (HKD.out k hlt).1 (HKD.out k hlt).2
                have HST : Hid (kidsL D (k + 1) = kidsL D k ++ groups (clampN (D.kid k))) := by show _ = _; simp [kidsL, numL, List.append_assoc]
                have HBk : Hid (Below W0.heap.size W0 wr) := hB
                obtain ⟨p0, hp0⟩ : ∃ x, Hid (D.kid k = x) := ⟨_, rfl⟩
                obtain ⟨Q, hQ⟩ : ∃ Q, Hid (kidsL D k = Q) := ⟨_, rfl⟩
                rw [hp0.out] at y0 HST hP
                rw [hQ.out] at hP HST ⊢
                clear hr hv hby hB
                go_wp2_with fail
                refine hP.mono ?_
                rintro e w3 ⟨v3, rfl, hr3, hb3⟩
                have HR3 : Hid (BR w3 w.heap.size v3 (kidsL D (k + 1))) := by show BR _ _ _ _; rw [HST.out]; exact hr3.mono hBw.size
                have HB3 : Hid (Below W0.heap.size W0 w3) := HBk.out.trans (hb3.mono HBk.out.size)
                clear hP hr3 hb3 HST hBw
                go_wp2
                go_roundg (D.nd - (k + 1))
                case measure => omega
                case rel => exact ⟨k + 1, by omega, rfl, by go_num, HB3.out, HR3.out⟩
              · obtain rfl : k = D.nd := by omega
                have hkz : ¬ (D.nd : Int) < (D.nd : Int) := by omega
                have HB : Hid (Below W0.heap.size W0 wr) := hB
                have HR : Hid (BR wr w.heap.size u4 (kidsL D D.nd)) := hr
                clear hB hr hBw
                go_wp2
                go_ret
                exact ⟨_, rfl, by rw [HE.out]; exact HR.out, HW0.out.trans (HB.out.mono HW0.out.size)⟩

theorem l14Put_any (v : Value) (D : PNode) (w : World) (h : NdView w v D) (hf : NFine D) (hkd : ∀ i, i < D.nd → -9223372036854775808 ≤ D.kid i ∧ D.kid i ≤ 9223372036854775807) :
    Calls Try.prog 41 #[v] w fun e w' => ∃ u, e = .returned u ∧ BR w' w.heap.size u (bytesN D) ∧ Below w.heap.size w w' := by
  obtain ⟨ac, cc, ap, cp, ai, ci, rfl, hc, hp, hi⟩ := h.is
  cases hl : D.leaf with
  | true => exact l14Put_true D hl ac cc ap cp ai ci w hc hp hi hf hkd
  | false => exact l14Put_false D hl ac cc ap cp ai ci w hc hp hi hf hkd
end Go.Proofs.Ytkaficcnfkpkiaa

/-
  The model's SizeOf.
-/
namespace Go.Proofs.Ytkaficcnfkpkiaa
open Go.RowKit
set_option maxRecDepth 4000

set_option maxHeartbeats 1000000 in
theorem specSizeOf_any (v : Value) (D : PNode) (w : World) (h : NdView w v D) (hf : NFine D) :
    Calls Try.prog 14 #[v] w fun e w' => e = .returned (.int .i64 (sizeN D)) ∧ Below w.heap.size w w' := by
  obtain ⟨ac, cc, ap, cp, ai, ci, rfl, -, -, -⟩ := h.is
  have hB0 := (nbox_below (nbox_start w (.cells #[.bool D.leaf, .slice ac D.nk cc, .slice ap D.nv cp, .slice ai D.nd ci] 28))).1
  have hP := l14Put_any _ D _ (h.below hB0) hf hf.kid
  clear h
  go_enter Try.func14, Try.ntmps14
  go_wp2_with fail
  refine hP.mono ?_
  rintro e w1 ⟨u, rfl, ⟨g, c, rfl, -⟩, hb1⟩
  have HB : Hid (Below w.heap.size w w1) := hB0.trans (hb1.mono (by simp))
  clear hP hb1 hB0
  go_wp2
  go_ret
  exact ⟨rfl, HB.out⟩
end Go.Proofs.Ytkaficcnfkpkiaa

/-
  The law FnExactSizeOf, walked.
-/
namespace Go.Proofs.Ytkaficcnfkpkiaa
open Go.RowKit
set_option maxRecDepth 4000

set_option maxHeartbeats 4000000 in
theorem lawSizeOf (v : Value) (D : PNode) (w : World) (h : NdView w v D) (hm : NLim D)
    (hI : ∀ (W : World) (v' : Value), Below w.heap.size w W → NdView W v' D → NFine D → Calls Try.prog 15 #[v'] W fun e w' => e = .returned (.int .i64 (sizeN D)) ∧ Below W.heap.size W w') :
    Calls Try.prog 4 #[v] w fun e w' => e = .returned (.bool true) ∧ Below w.heap.size w w' := by
  have hv := h
  obtain ⟨ac, cc, ap, cp, ai, ci, rfl, -, -, -⟩ := h.is
  clear h
  have hB0 := nbox_start w (.cells #[.bool D.leaf, .slice ac D.nk cc, .slice ap D.nv cp, .slice ai D.nd ci] 25)
  obtain ⟨hBw0, -⟩ := nbox_below hB0
  have hZ := szNode_fine _ D 1048576 _ (hv.below hBw0) hm (by omega) (by omega)
  clear hm
  go_enter Try.func4, Try.ntmps4
  go_wp2_with fail
  refine hZ.mono ?_
  rintro e w1 ⟨L, rfl, hb1, hL⟩
  have hB1 := nbox_on hB0 hb1
  obtain ⟨hBw1, hs1⟩ := nbox_below hB1
  obtain ⟨x0, x1, x2, x3⟩ := nbox4 hB1
  clear hZ hb1 hB0 hBw0
  rcases hL with rfl | ⟨hL0, hL1, hf⟩
  · have HB : Hid (Below w.heap.size w w1) := hBw1
    clear hI hv hB1 hBw1
    go_wp2
    go_ret
    exact ⟨rfl, HB.out⟩
  have hLn : ¬ L < 0 := by omega
  have hT := toNode_any _ D w1 (hv.below hBw1) hf
  go_wp2_with fail
  refine hT.mono ?_
  rintro e w2 ⟨v2, rfl, hO2, hb2⟩
  have hB2 := nbox_on hB1 hb2
  obtain ⟨hBw2, hs2⟩ := nbox_below hB2
  have hP := specSizeOf_any v2 D w2 hO2.view hf
  obtain ⟨r, hr⟩ : ∃ r, Hid (sizeN D = r) := ⟨_, rfl⟩
  simp only [hr.out] at hP hI
  clear hT hb2 hB1 hBw1 hs1 hO2 x0 x1 x2 x3
  go_wp2_with fail
  refine hP.mono ?_
  rintro e w3 ⟨rfl, hb3⟩
  have hB3 := nbox_on hB2 hb3
  obtain ⟨hBw3, hs3⟩ := nbox_below hB3
  obtain ⟨x0, x1, x2, x3⟩ := nbox4 hB3
  have hT := toNode_any _ D w3 (hv.below hBw3) hf
  clear hP hb3 hB2 hBw2 hs2
  go_wp2_with fail
  refine hT.mono ?_
  rintro e w4 ⟨v4, rfl, hO4, hb4⟩
  have hB4 := nbox_on hB3 hb4
  obtain ⟨hBw4, hs4⟩ := nbox_below hB4
  have hD4 := hO4.view
  obtain ⟨gc, kc, gp, kp, gi, ki, rfl, -, -, -, -, -, -⟩ := hO4.is
  have hbA : Below w4.heap.size w4 (w4.alloc (.cells #[.bool D.leaf, .slice (some ⟨gc, 0, none⟩) D.nk kc, .slice (some ⟨gp, 0, none⟩) D.nv kp, .slice (some ⟨gi, 0, none⟩) D.nd ki] 28)) := (Below.refl _ _).alloc (Nat.le_refl _) _
  have hB5 := nbox_on hB4 hbA
  obtain ⟨hBw5, hs5⟩ := nbox_below hB5
  have hG := hI _ _ hBw5 (hD4.below hbA) hf
  have C5 := nbox_start w4 (.cells #[.bool D.leaf, .slice (some ⟨gc, 0, none⟩) D.nk kc, .slice (some ⟨gp, 0, none⟩) D.nv kp, .slice (some ⟨gi, 0, none⟩) D.nd ki] 28)
  clear hT hb4 hB3 hBw3 hs3 hO4 x0 x1 x2 x3 hI hB4 hBw4
  go_wp2_with fail
  refine hG.mono ?_
  rintro e w6 ⟨rfl, hb6⟩
  have hB6 := nbox_on hB5 hb6
  obtain ⟨hBw6, hs6⟩ := nbox_below hB6
  have C6 := nbox_on C5 hb6
  obtain ⟨hCw6, ht6⟩ := nbox_below C6
  have hD6 := hD4.below hCw6
  obtain ⟨x0, x1, x2, x3⟩ := nbox4 hB6
  obtain ⟨y0, y1, y2, y3⟩ := nbox4 C6
  have hE : ∀ W u, Below w6.heap.size w6 W → NdView W u D → Calls Try.prog 13 #[.agg #[.bool D.leaf, .slice (some ⟨gc, 0, none⟩) D.nk kc, .slice (some ⟨gp, 0, none⟩) D.nv kp, .slice (some ⟨gi, 0, none⟩) D.nd ki], u] W fun e w' => e = .returned (.bool true) ∧ Below W.heap.size W w' := fun W u hb hu => eqNode_same _ u D W (hD6.below hb) hu hf
  have hT : ∀ W, Below w6.heap.size w6 W → Calls Try.prog 11 #[.agg #[.bool D.leaf, .slice ac D.nk cc, .slice ap D.nv cp, .slice ai D.nd ci]] W fun e w' => ∃ v', e = .returned v' ∧ NdOwn w' W.heap.size v' D ∧ Below W.heap.size W w' := fun W hb => toNode_any _ D W (hv.below (hBw6.trans (hb.mono (by have := hBw6.size; exact this)))) hf
  have hq : (r != r) = false := bne_self_eq_false _
  obtain ⟨X, hX⟩ : ∃ X, Hid (w4.heap.size = X) := ⟨_, rfl⟩
  rw [hX.out] at y0 y1 y2 y3 ht6 ⊢
  have HWK : Hid (∀ W, Below w6.heap.size w6 W → (W.cell? ⟨w.heap.size, 0, none⟩ = some (.bool D.leaf) ∧ W.cell? ⟨w.heap.size, 1, none⟩ = some (.slice ac D.nk cc) ∧ W.cell? ⟨w.heap.size, 2, none⟩ = some (.slice ap D.nv cp) ∧ W.cell? ⟨w.heap.size, 3, none⟩ = some (.slice ai D.nd ci)) ∧ (W.cell? ⟨X, 0, none⟩ = some (.bool D.leaf) ∧ W.cell? ⟨X, 1, none⟩ = some (.slice (some ⟨gc, 0, none⟩) D.nk kc) ∧ W.cell? ⟨X, 2, none⟩ = some (.slice (some ⟨gp, 0, none⟩) D.nv kp) ∧ W.cell? ⟨X, 3, none⟩ = some (.slice (some ⟨gi, 0, none⟩) D.nd ki))) := by
    intro W hb
    refine ⟨⟨?_, ?_, ?_, ?_⟩, ?_, ?_, ?_, ?_⟩ <;> (rw [hb.cell (by first | exact hs6 | exact ht6)]; assumption)
  have HB6 : Hid (Below w.heap.size w w6) := hBw6
  clear hG hb6 hB5 hBw5 hs5 C5 C6 hCw6 hD6 hD4 hB6 hBw6 hbA hv hf hs4
  go_wp2_with fail
  go_region_held3 (fun WW => (WW.cell? ⟨w.heap.size, 0, none⟩ = some (.bool D.leaf) ∧ WW.cell? ⟨w.heap.size, 1, none⟩ = some (.slice ac D.nk cc) ∧ WW.cell? ⟨w.heap.size, 2, none⟩ = some (.slice ap D.nv cp) ∧ WW.cell? ⟨w.heap.size, 3, none⟩ = some (.slice ai D.nd ci)) ∧ (WW.cell? ⟨X, 0, none⟩ = some (.bool D.leaf) ∧ WW.cell? ⟨X, 1, none⟩ = some (.slice (some ⟨gc, 0, none⟩) D.nk kc) ∧ WW.cell? ⟨X, 2, none⟩ = some (.slice (some ⟨gp, 0, none⟩) D.nv kp) ∧ WW.cell? ⟨X, 3, none⟩ = some (.slice (some ⟨gi, 0, none⟩) D.nd ki))) (first | assumption | go_keep) (first
    | (go_at_call 11; refine (hT _ (by repeat (first | exact Below.refl _ _ | refine Below.drew ?_))).mono ?_; rintro e w7 ⟨v7, rfl, hO7, hB7⟩; have hb7 : Below w6.heap.size w6 w7 := Below.trans (by repeat (first | exact Below.refl _ _ | refine Below.drew ?_)) hB7; have hcells : (w7.cell? ⟨w.heap.size, 0, none⟩ = some (.bool D.leaf) ∧ w7.cell? ⟨w.heap.size, 1, none⟩ = some (.slice ac D.nk cc) ∧ w7.cell? ⟨w.heap.size, 2, none⟩ = some (.slice ap D.nv cp) ∧ w7.cell? ⟨w.heap.size, 3, none⟩ = some (.slice ai D.nd ci)) ∧ (w7.cell? ⟨X, 0, none⟩ = some (.bool D.leaf) ∧ w7.cell? ⟨X, 1, none⟩ = some (.slice (some ⟨gc, 0, none⟩) D.nk kc) ∧ w7.cell? ⟨X, 2, none⟩ = some (.slice (some ⟨gp, 0, none⟩) D.nv kp) ∧ w7.cell? ⟨X, 3, none⟩ = some (.slice (some ⟨gi, 0, none⟩) D.nd ki)) := HWK.out _ hb7)
    | (go_at_call 13; refine (hE _ _ (by repeat (first | exact hb7 | refine Below.drew ?_)) (by first | exact hO7.view | exact hO7.view.below (Below.refl _ _).drew)).mono ?_; rintro e w8 ⟨rfl, hB8⟩; have hb8 : Below w6.heap.size w6 w8 := Below.trans hb7 (Below.trans (by repeat (first | exact Below.refl _ _ | refine Below.drew ?_)) (hB8.mono (by have := hb7.size; exact this))); have hcells8 : (w8.cell? ⟨w.heap.size, 0, none⟩ = some (.bool D.leaf) ∧ w8.cell? ⟨w.heap.size, 1, none⟩ = some (.slice ac D.nk cc) ∧ w8.cell? ⟨w.heap.size, 2, none⟩ = some (.slice ap D.nv cp) ∧ w8.cell? ⟨w.heap.size, 3, none⟩ = some (.slice ai D.nd ci)) ∧ (w8.cell? ⟨X, 0, none⟩ = some (.bool D.leaf) ∧ w8.cell? ⟨X, 1, none⟩ = some (.slice (some ⟨gc, 0, none⟩) D.nk kc) ∧ w8.cell? ⟨X, 2, none⟩ = some (.slice (some ⟨gp, 0, none⟩) D.nv kp) ∧ w8.cell? ⟨X, 3, none⟩ = some (.slice (some ⟨gi, 0, none⟩) D.nd ki)) := HWK.out _ hb8))
  all_goals
    have HB : Hid (Below w.heap.size w w8) := HB6.out.trans (hb8.mono (by have := HB6.out.size; exact this))
    clear hb7 hb8 hB7 hB8 hcells hcells8 hT hE HWK HB6
    go_wp2
    go_ret
    exact ⟨rfl, by first | exact HB.out | exact HB.out.drew⟩
end Go.Proofs.Ytkaficcnfkpkiaa

/-
  The program's putBytes: both slices of bytes, one behind the other, in one new row that holds just them.
-/
namespace Go.Proofs.Ytkaficcnfkpkiaa
open Go.RowKit
set_option maxRecDepth 4000

theorem cells_of_any {w : World} {ao : Option Addr} {n cap : Nat} {f : Nat → Int} (h : View w ao n cap f) : ∀ ad, ao = some ad → ∀ j u, (bl (lof n f))[j]? = some u → w.cell? (ad.add j) = some u := by
  rintro ad rfl j u hu
  have hj : j < n := by
    by_cases hj : j < n
    · exact hj
    · rw [List.getElem?_eq_none (by rw [bl_len, lof_len]; omega)] at hu; cases hu
  obtain ⟨b', off', e, _, _⟩ := h.cells (by omega)
  simp only [Option.some.injEq] at e
  subst e
  exact cells_of_view h j u hu

theorem below_new {w w1 : World} (h : w.grownBy w1 none) : Below w.heap.size w w1 := (Below.refl _ _).grown h (Nat.le_refl _) (by intro k hk; cases hk)
theorem below_app {w w1 w2 : World} (h : w.grownBy w1 none) (h2 : w1.grownBy w2 (some w.heap.size)) : Below w.heap.size w w2 :=
  (below_new h).grown h2 h.size (by intro k hk; cases hk; exact Nat.le_refl _)

set_option maxHeartbeats 1000000 in
theorem putBytes_any (b off n cap : Nat) (f : Nat → Int) (ao : Option Addr) (m c : Nat) (g : Nat → Int) (w : World) (hv : View w (some ⟨b, off, none⟩) n cap f) (hg : View w ao m c g) (hno : ao = none → m = 0 ∧ c = 0) (hn : n + m ≤ 70368744177664) :
    Calls Try.prog 65 #[.slice (some ⟨b, off, none⟩) n cap, .slice ao m c] w fun e w' => e = .returned (.slice (some ⟨w.heap.size, 0, none⟩) (n + m) (n + m)) ∧ w'.ownsRow w.heap.size 5 1 (.slice (some ⟨w.heap.size, 0, none⟩) (n + m) (n + m)) (n + m) (bl (lof n f ++ lof m g)) ∧ Below w.heap.size w w' := by
  obtain ⟨i0, hi, hz0, hz1, hz2⟩ := info_parts Try.info5
  go_enter Try.func65, Try.ntmps65
  go_wp2_with (first | (at_make; go_must (refine wpList_make_own _ rfl (.const (.int .i64 0)) (.tmp 10) 33 rfl w.heap.size 5 i0 (.int .u8 0) 1 Try.underlying33 hi hz0 hz1 .i64 .i64 ((n : Int) + (m : Int)) (n + m) rfl rfl (by omega) (by rw [hz2]; omega) (by unfold maxLen; omega) (Nat.le_refl _) ?_); intro w1 hown1 hgr1) | (at_builtin; refine wpList_append_fits_any _ rfl (.tmp 12) (.tmp 13) 33 rfl w.heap.size 5 i0 1 Try.underlying33 hi hz1 w.heap.size 0 (n + m) [] rfl hown1 (some ⟨b, off, none⟩) n cap (bl (lof n f)) rfl (by rw [bl_len, lof_len]; omega) (by intro h; cases h) (cells_of_any (hv.below (below_new hgr1))) (bl_one _) (by omega) ?_; intro w2 hown2 hgr2; simp only [Nat.zero_add, List.nil_append] at hown2) | (at_builtin; refine wpList_append_fits_any _ rfl (.tmp 15) (.tmp 16) 33 rfl w.heap.size 5 i0 1 Try.underlying33 hi hz1 w.heap.size n (n + m) (bl (lof n f)) rfl hown2 ao m c (bl (lof m g)) rfl (by rw [bl_len, lof_len]; omega) hno (cells_of_any (hg.below (below_app hgr1 hgr2))) (bl_one _) (by omega) ?_; intro w3 hown3 hgr3))
  go_ret
  exact ⟨rfl, by rw [bl_append]; exact hown3, (below_app hgr1 hgr2).grown hgr3 (Nat.le_trans hgr1.size hgr2.size) (by intro k hk; cases hk; exact Nat.le_refl _)⟩
end Go.Proofs.Ytkaficcnfkpkiaa

/-
  The program's putBytes behind bytes that may be nil.
-/
namespace Go.Proofs.Ytkaficcnfkpkiaa
open Go.RowKit
set_option maxRecDepth 4000

set_option maxHeartbeats 1000000 in
theorem putBytes_opt (ai : Option Addr) (n cap : Nat) (f : Nat → Int) (ao : Option Addr) (m c : Nat) (g : Nat → Int) (w : World) (hv : View w ai n cap f) (hni : ai = none → n = 0 ∧ cap = 0) (hg : View w ao m c g) (hno : ao = none → m = 0 ∧ c = 0) (hn : n + m ≤ 70368744177664) :
    Calls Try.prog 65 #[.slice ai n cap, .slice ao m c] w fun e w' => e = .returned (.slice (some ⟨w.heap.size, 0, none⟩) (n + m) (n + m)) ∧ w'.ownsRow w.heap.size 5 1 (.slice (some ⟨w.heap.size, 0, none⟩) (n + m) (n + m)) (n + m) (bl (lof n f ++ lof m g)) ∧ Below w.heap.size w w' := by
  obtain ⟨i0, hi, hz0, hz1, hz2⟩ := info_parts Try.info5
  go_enter Try.func65, Try.ntmps65
  go_wp2_with (first | (at_make; go_must (refine wpList_make_own _ rfl (.const (.int .i64 0)) (.tmp 10) 33 rfl w.heap.size 5 i0 (.int .u8 0) 1 Try.underlying33 hi hz0 hz1 .i64 .i64 ((n : Int) + (m : Int)) (n + m) rfl rfl (by omega) (by rw [hz2]; omega) (by unfold maxLen; omega) (Nat.le_refl _) ?_); intro w1 hown1 hgr1) | (at_builtin; refine wpList_append_fits_any _ rfl (.tmp 12) (.tmp 13) 33 rfl w.heap.size 5 i0 1 Try.underlying33 hi hz1 w.heap.size 0 (n + m) [] rfl hown1 ai n cap (bl (lof n f)) rfl (by rw [bl_len, lof_len]; omega) hni (cells_of_any (hv.below (below_new hgr1))) (bl_one _) (by omega) ?_; intro w2 hown2 hgr2; simp only [Nat.zero_add, List.nil_append] at hown2) | (at_builtin; refine wpList_append_fits_any _ rfl (.tmp 15) (.tmp 16) 33 rfl w.heap.size 5 i0 1 Try.underlying33 hi hz1 w.heap.size n (n + m) (bl (lof n f)) rfl hown2 ao m c (bl (lof m g)) rfl (by rw [bl_len, lof_len]; omega) hno (cells_of_any (hg.below (below_app hgr1 hgr2))) (bl_one _) (by omega) ?_; intro w3 hown3 hgr3))
  go_ret
  exact ⟨rfl, by rw [bl_append]; exact hown3, (below_app hgr1 hgr2).grown hgr3 (Nat.le_trans hgr1.size hgr2.size) (by intro k hk; cases hk; exact Nat.le_refl _)⟩
end Go.Proofs.Ytkaficcnfkpkiaa

