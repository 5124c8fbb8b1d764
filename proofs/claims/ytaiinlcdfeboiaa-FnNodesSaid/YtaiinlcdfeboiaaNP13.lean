/-
  Together: NodePutO, DrawBend, DrawBendT, NodeBend
-/
import Derived.Test.YtaiinlcdfeboiaaNP11
import Derived.Test.YtaiinlcdfeboiaaNP12
import Derived.Test.YtaiinlcdfeboiaaNP4
import Derived.Test.YtaiinlcdfeboiaaNP1
import Derived.Deep.RegionWith
/-
  The model's l14Put and PutNode, their rows the call's own.
-/
namespace Go.Proofs.Ytaiinlcdfeboiaa
open Go.RowKit
set_option maxRecDepth 4000

set_option maxHeartbeats 1000000 in
theorem putText_own (b off n cap : Nat) (f : Nat → Int) (s : ByteArray) (w : World) (hv : View w (some ⟨b, off, none⟩) n cap f) (hn : n ≤ 35184372088832) (hs : s.size ≤ 35184372088832) :
    Calls Try.prog 77 #[.slice (some ⟨b, off, none⟩) n cap, .string s] w fun e w' => ∃ v, e = .returned v ∧ w'.ownsRow w.heap.size 5 1 v (n + (groups (clampN s.size)).length + s.size) (bl (lof n f ++ groups (clampN s.size) ++ sl s)) ∧ Below w.heap.size w w' := by
  obtain ⟨i0, hi, hz0, hz1, hz2⟩ := info_parts Try.info5
  have hgl := (groups_len (clampN s.size)).2
  have hg1 := (groups_len (clampN s.size)).1
  obtain ⟨gs, hgs⟩ : ∃ gs, Hid (groups (clampN s.size) = gs) := ⟨_, rfl⟩
  rw [hgs.out] at hgl hg1
  go_enter Try.func77, Try.ntmps77
  go_wp2_with fail
  refine (putU_spec b off n cap f (s.size : Int) w hv (by omega) (by omega) (by omega)).mono ?_
  rintro e w1 ⟨v, rfl, hown, hb1⟩
  rw [hgs.out] at hown
  go_wp2_with (at_builtin; go_must (refine Lib.wpList_append_own_string _ rfl (.tmp 8) (.tmp 9) 22 9 rfl w.heap.size 5 i0 Try.underlying22 Try.underlying9 hi hz0 hz1 hz2 v _ _ rfl hown s rfl (by unfold maxLen; omega) (by omega) hb1.size ?_); intro v2 w2 hown2 hgr2 _)
  have hb2 : Below w.heap.size w w2 := hb1.grown hgr2 hb1.size (fun k hk => (hown.lt k hk).1)
  go_ret
  rw [sl_cells, ← bl_append] at hown2
  rw [hgs.out]
  exact ⟨v2, rfl, hown2, hb2⟩

/-- Bytes of the call's own, by a list, as an append wants them. -/
def BRO (w : World) (B : Nat) (v : Value) (L : List Int) : Prop := BR w B v L ∧ w.ownsRow B 5 1 v L.length (bl L)
theorem BRO.mono {w : World} {B B' : Nat} {v : Value} {L : List Int} (h : BRO w B v L) (hB : B' ≤ B) : BRO w B' v L := ⟨h.1.mono hB, own_loK h.2 hB⟩
theorem BRO.view {w : World} {B : Nat} {v : Value} {L : List Int} (h : BRO w B v L) (hy : ∀ y ∈ L, 0 ≤ y ∧ y ≤ 255) : ∃ g c, v = .slice (some ⟨g, 0, none⟩) L.length c ∧ View w (some ⟨g, 0, none⟩) L.length c (fun i => L.getD i 0) := h.1.view hy
theorem bro_of {w : World} {B : Nat} {v : Value} {L : List Int} (h : w.ownsRow B 5 1 v L.length (bl L)) (h0 : 0 < L.length) : BRO w B v L := by
  obtain ⟨g, c, e, hg, hgc, hr⟩ := row_of_own h h0
  exact ⟨⟨g, c, e, hg, hgc, hr⟩, h⟩
theorem putU_bro (g c : Nat) (L : List Int) (x : Int) (w : World) (hv : View w (some ⟨g, 0, none⟩) L.length c (fun i => L.getD i 0)) (hn : L.length ≤ 70368744177664) (hx0 : -9223372036854775808 ≤ x) (hx1 : x ≤ 9223372036854775807) :
    Calls Try.prog 76 #[.slice (some ⟨g, 0, none⟩) L.length c, .int .i64 x] w fun e w' => ∃ v, e = .returned v ∧ BRO w' w.heap.size v (L ++ groups (clampN x)) ∧ Below w.heap.size w w' := by
  refine (putU_spec g 0 L.length c (fun i => L.getD i 0) x w hv hn hx0 hx1).mono ?_
  rintro e w1 ⟨v, rfl, hown, hb⟩
  rw [lof_self] at hown
  have hg := (groups_len (clampN x)).1
  exact ⟨v, rfl, bro_of (by rw [List.length_append]; exact hown) (by rw [List.length_append]; omega), hb⟩
theorem putText_bro (g c : Nat) (L : List Int) (s : ByteArray) (w : World) (hv : View w (some ⟨g, 0, none⟩) L.length c (fun i => L.getD i 0)) (hn : L.length ≤ 35184372088832) (hs : s.size ≤ 35184372088832) :
    Calls Try.prog 77 #[.slice (some ⟨g, 0, none⟩) L.length c, .string s] w fun e w' => ∃ v, e = .returned v ∧ BRO w' w.heap.size v (L ++ oneT s) ∧ Below w.heap.size w w' := by
  refine (putText_own g 0 L.length c (fun i => L.getD i 0) s w hv hn hs).mono ?_
  rintro e w1 ⟨v, rfl, hown, hb⟩
  have hl : (L ++ oneT s).length = L.length + (groups (clampN s.size)).length + s.size := by rw [List.length_append, oneT_len]; omega
  have hg := (groups_len (clampN s.size)).1
  refine ⟨v, rfl, bro_of ?_ (by omega), hb⟩
  rw [hl]
  have : lof L.length (fun i => L.getD i 0) ++ groups (clampN s.size) ++ sl s = L ++ oneT s := by unfold oneT; rw [lof_self, List.append_assoc]
  rw [this] at hown
  exact hown
theorem bro_nil (w : World) (B : Nat) (hB : B ≤ w.heap.size) : BRO (w.alloc (.cells #[] 5)) B (.slice (some ⟨w.heap.size, 0, none⟩) 0 0) [] := ⟨br_nil w B hB, own_loK (own_empty w _) hB⟩

set_option maxHeartbeats 8000000 in
theorem l14PutO_true (D : PNode) (hleaf : D.leaf = true) (ac : Option Addr) (cc : Nat) (ap : Option Addr) (cp : Nat) (ai : Option Addr) (ci : Nat) (w : World) (hc : TxV w ac D.nk cc D.key) (hp : TxV w ap D.nv cp D.val) (hi : NuV w ai D.nd ci D.kid) (hf : NFine D) (hkd : ∀ i, i < D.nd → -9223372036854775808 ≤ D.kid i ∧ D.kid i ≤ 9223372036854775807) :
    Calls Try.prog 45 #[.agg #[.bool true, .slice ac D.nk cc, .slice ap D.nv cp, .slice ai D.nd ci]] w fun e w' => ∃ u, e = .returned u ∧ BRO w' w.heap.size u (bytesN D) ∧ Below w.heap.size w w' := by
  have hnk := hf.nk
  have hnv := hf.nv
  have hnd := hf.nd
  have HF : Hid (NFine D) := hf
  have HKD : Hid (∀ i, i < D.nd → -9223372036854775808 ≤ D.kid i ∧ D.kid i ≤ 9223372036854775807) := hkd
  have HH : Hid (keysL D 0 = ([] ++ groups (clampN 1)) ++ groups (clampN D.nk)) := by show _ = _; simp [keysL, headL, hleaf, textsL]
  have HE : Hid (bytesN D = midL D D.nv) := by show _ = _; simp [bytesN, hleaf, midL]
  have HC : Hid (TxV w ac D.nk cc D.key) := hc
  have HP : Hid (TxV w ap D.nv cp D.val) := hp
  have HI : Hid (NuV w ai D.nd ci D.kid) := hi
  clear hf hkd hc hp hi hleaf
  have hB0 := nbox_start w (.cells #[.bool true, .slice ac D.nk cc, .slice ap D.nv cp, .slice ai D.nd ci] 27)
  have hBw0 := (nbox_below hB0).1
  obtain ⟨W0, hW0⟩ : ∃ W0, Hid ((w.alloc (.cells #[.bool true, .slice ac D.nk cc, .slice ap D.nv cp, .slice ai D.nd ci] 27)) = W0) := ⟨_, rfl⟩
  have HK0 : Hid (∀ W, Below W0.heap.size W0 W → (W.cell? ⟨w.heap.size, 0, none⟩ = some (.bool true) ∧ W.cell? ⟨w.heap.size, 1, none⟩ = some (.slice ac D.nk cc) ∧ W.cell? ⟨w.heap.size, 2, none⟩ = some (.slice ap D.nv cp) ∧ W.cell? ⟨w.heap.size, 3, none⟩ = some (.slice ai D.nd ci))) := by
    intro W hb
    rw [← hW0.out] at hb
    exact nbox4 (hb.mono (by simp))
  have HW0 : Hid (Below w.heap.size w W0) := by show Below _ _ _; rw [← hW0.out]; exact hBw0
  clear hBw0 hB0
  go_enter Try.func45, Try.ntmps45
  go_wp2_with fail
  rw [hW0.out]
  obtain ⟨x0, x1, x2, x3⟩ := HK0.out W0 (Below.refl _ _)
  go_region_held3 (fun WW => WW.cell? ⟨w.heap.size, 0, none⟩ = some (.bool true) ∧ WW.cell? ⟨w.heap.size, 1, none⟩ = some (.slice ac D.nk cc) ∧ WW.cell? ⟨w.heap.size, 2, none⟩ = some (.slice ap D.nv cp) ∧ WW.cell? ⟨w.heap.size, 3, none⟩ = some (.slice ai D.nd ci)) (first | assumption | go_keep) (first
    | (go_at_call_of 76 (D.nk); obtain ⟨g1, c1, rfl, hv1⟩ := hr1.view (fun y hy => groups_byte _ (clampN_bd _).1 (clampN_bd _).2 y (by simpa using hy)); refine (putU_bro g1 c1 _ (D.nk : Int) _ (by first | exact hv1 | exact hv1.drew) (by have := (groups_len (clampN 1)).2; simp; omega) (by omega) (by omega)).mono ?_; rintro e w2 ⟨v2, rfl, hr2, hB2⟩; have hb2 : Below W0.heap.size W0 w2 := hb1.trans ((Below.trans (by repeat (first | exact Below.refl _ _ | refine Below.drew ?_)) hB2).mono hb1.size); have hcells2 : w2.cell? ⟨w.heap.size, 0, none⟩ = some (.bool true) ∧ w2.cell? ⟨w.heap.size, 1, none⟩ = some (.slice ac D.nk cc) ∧ w2.cell? ⟨w.heap.size, 2, none⟩ = some (.slice ap D.nv cp) ∧ w2.cell? ⟨w.heap.size, 3, none⟩ = some (.slice ai D.nd ci) := HK0.out _ hb2)
    | (go_at_call 76; refine (putU_bro _ 0 [] 1 _ ⟨Nat.le_refl _, fun i hi => absurd hi (Nat.not_lt_zero _), fun h => absurd h (Nat.lt_irrefl _)⟩ (by simp) (by omega) (by omega)).mono ?_; rintro e w1 ⟨v1, rfl, hr1, hB1⟩; have hb1 : Below W0.heap.size W0 w1 := Below.trans (by repeat (first | exact Below.refl _ _ | refine Below.alloc ?_ (by simp) _ | refine Below.drew ?_)) (hB1.mono (by simp)); have hcells1 : w1.cell? ⟨w.heap.size, 0, none⟩ = some (.bool true) ∧ w1.cell? ⟨w.heap.size, 1, none⟩ = some (.slice ac D.nk cc) ∧ w1.cell? ⟨w.heap.size, 2, none⟩ = some (.slice ap D.nv cp) ∧ w1.cell? ⟨w.heap.size, 3, none⟩ = some (.slice ai D.nd ci) := HK0.out _ hb1))
  all_goals
    obtain ⟨W2, hW2⟩ : ∃ W2, Hid (w2 = W2) := ⟨_, rfl⟩
    have HR : Hid (BRO W2 w.heap.size v2 (keysL D 0)) := by
      show BRO _ _ _ _
      rw [HH.out, ← hW2.out]
      exact hr2.mono (Nat.le_trans HW0.out.size (by first | exact hb1.size | (have := hb1.size; simpa using this)))
    have HB : Hid (Below W0.heap.size W0 W2) := by show Below _ _ _; rw [← hW2.out]; exact hb2
    rw [hW2.out]
    clear hcells1 hcells2 hr1 hr2 hB1 hB2 hb1 hb2 x0 x1 x2 x3 hv1 HH
    go_wp2
    try clear x0 x1 x2 x3
    go_loopg [4, 5] D.nk (fun q b i wr => ∃ k : Nat, k ≤ D.nk ∧ q = D.nk - k ∧ i = .int .i64 k ∧ Below W0.heap.size W0 wr ∧ BRO wr w.heap.size b (keysL D k))
    case atStart => exact ⟨0, Nat.zero_le _, rfl, rfl, HB.out, HR.out⟩
    case round =>
      clear HB HR
      obtain ⟨k, hk, rfl, rfl, hB, hr⟩ := hrel
      obtain ⟨x0, x1, x2, x3⟩ := HK0.out _ hB
      have hBw := HW0.out.trans (hB.mono HW0.out.size)
      by_cases hlt : k < D.nk
      · obtain ⟨b1, o1, rfl, hb1, y0⟩ := txv_at (HC.out.below hBw) hlt
        obtain ⟨hl, hby⟩ := keysL_ok HF.out (Nat.le_of_lt hlt)
        obtain ⟨g, c, rfl, hv⟩ := hr.view hby
        have hkz : (k : Int) < (D.nk : Int) := by omega
        have hP := putText_bro g c _ (D.key k) wr hv (by omega) (by have := HF.out.key k hlt; omega)
        have HST : Hid (keysL D (k + 1) = keysL D k ++ oneT (D.key k)) := by show _ = _; simp [keysL, textsL, List.append_assoc]
        have HBk : Hid (Below W0.heap.size W0 wr) := hB
        obtain ⟨p0, hp0⟩ : ∃ x, Hid (D.key k = x) := ⟨_, rfl⟩
        obtain ⟨Q, hQ⟩ : ∃ Q, Hid (keysL D k = Q) := ⟨_, rfl⟩
        rw [hp0.out] at y0 HST hP
        rw [hQ.out] at hP HST ⊢
        clear hr hv hby hB
        go_wp2_with fail
        refine hP.mono ?_
        rintro e w3 ⟨v3, rfl, hr3, hb3⟩
        have HR3 : Hid (BRO w3 w.heap.size v3 (keysL D (k + 1))) := by show BRO _ _ _ _; rw [HST.out]; exact hr3.mono hBw.size
        have HB3 : Hid (Below W0.heap.size W0 w3) := HBk.out.trans (hb3.mono HBk.out.size)
        clear hP hr3 hb3 HST hBw
        go_wp2
        go_roundg (D.nk - (k + 1))
        case measure => omega
        case rel => exact ⟨k + 1, by omega, rfl, by go_num, HB3.out, HR3.out⟩
      · obtain rfl : k = D.nk := by omega
        have hkz : ¬ (D.nk : Int) < (D.nk : Int) := by omega
        have HB : Hid (Below W0.heap.size W0 wr) := hB
        have HR : Hid (BRO wr w.heap.size u4 (keysL D D.nk)) := hr
        clear hB hr hBw
        have HR0 : Hid (BRO wr w.heap.size u4 (midL D 0)) := by
          have := HR.out
          simp only [keysL] at this
          show BRO _ _ _ _
          simpa [midL, textsL] using this
        clear HR
        have HR := HR0
        clear HR0
        go_wp2
        try clear x0 x1 x2 x3
        go_loopg [4, 6] D.nv (fun q b i wr => ∃ k : Nat, k ≤ D.nv ∧ q = D.nv - k ∧ i = .int .i64 k ∧ Below W0.heap.size W0 wr ∧ BRO wr w.heap.size b (midL D k))
        case atStart => exact ⟨0, Nat.zero_le _, rfl, rfl, HB.out, HR.out⟩
        case round =>
          clear HB HR
          obtain ⟨k, hk, rfl, rfl, hB, hr⟩ := hrel
          obtain ⟨x0, x1, x2, x3⟩ := HK0.out _ hB
          have hBw := HW0.out.trans (hB.mono HW0.out.size)
          by_cases hlt : k < D.nv
          · obtain ⟨b1, o1, rfl, hb1, y0⟩ := txv_at (HP.out.below hBw) hlt
            obtain ⟨hl, hby⟩ := midL_ok HF.out (Nat.le_of_lt hlt)
            obtain ⟨g, c, rfl, hv⟩ := hr.view hby
            have hkz : (k : Int) < (D.nv : Int) := by omega
            have hP := putText_bro g c _ (D.val k) wr hv (by omega) (by have := HF.out.val k hlt; omega)
            have HST : Hid (midL D (k + 1) = midL D k ++ oneT (D.val k)) := by show _ = _; simp [midL, textsL, List.append_assoc]
            have HBk : Hid (Below W0.heap.size W0 wr) := hB
            obtain ⟨p0, hp0⟩ : ∃ x, Hid (D.val k = x) := ⟨_, rfl⟩
            obtain ⟨Q, hQ⟩ : ∃ Q, Hid (midL D k = Q) := ⟨_, rfl⟩
            rw [hp0.out] at y0 HST hP
            rw [hQ.out] at hP HST ⊢
            clear hr hv hby hB
            go_wp2_with fail
            refine hP.mono ?_
            rintro e w3 ⟨v3, rfl, hr3, hb3⟩
            have HR3 : Hid (BRO w3 w.heap.size v3 (midL D (k + 1))) := by show BRO _ _ _ _; rw [HST.out]; exact hr3.mono hBw.size
            have HB3 : Hid (Below W0.heap.size W0 w3) := HBk.out.trans (hb3.mono HBk.out.size)
            clear hP hr3 hb3 HST hBw
            go_wp2
            go_roundg (D.nv - (k + 1))
            case measure => omega
            case rel => exact ⟨k + 1, by omega, rfl, by go_num, HB3.out, HR3.out⟩
          · obtain rfl : k = D.nv := by omega
            have hkz : ¬ (D.nv : Int) < (D.nv : Int) := by omega
            have HB : Hid (Below W0.heap.size W0 wr) := hB
            have HR : Hid (BRO wr w.heap.size u4 (midL D D.nv)) := hr
            clear hB hr hBw
            obtain ⟨W9, hW9⟩ : ∃ W9, Hid (wr = W9) := ⟨_, rfl⟩
            rw [hW9.out] at HR HB x0 x1 x2 x3 ⊢
            go_wp2
            go_loopg [4, 7] 0 (fun q b i wx => q = 0 ∧ b = u4 ∧ i = .int .i64 0 ∧ wx = W9)
            case atStart => exact ⟨rfl, rfl, rfl, rfl⟩
            case round =>
              obtain ⟨rfl, hu4, rfl, hwx⟩ := hrel
              subst hu4
              rw [hwx]
              by_cases h0 : (0 : Int) < (D.nd : Int)
              · go_wp2
                go_ret
                exact ⟨_, rfl, by rw [HE.out]; exact HR.out, HW0.out.trans (HB.out.mono HW0.out.size)⟩
              · go_wp2
                go_ret
                exact ⟨_, rfl, by rw [HE.out]; exact HR.out, HW0.out.trans (HB.out.mono HW0.out.size)⟩
set_option maxHeartbeats 8000000 in
theorem l14PutO_false (D : PNode) (hleaf : D.leaf = false) (ac : Option Addr) (cc : Nat) (ap : Option Addr) (cp : Nat) (ai : Option Addr) (ci : Nat) (w : World) (hc : TxV w ac D.nk cc D.key) (hp : TxV w ap D.nv cp D.val) (hi : NuV w ai D.nd ci D.kid) (hf : NFine D) (hkd : ∀ i, i < D.nd → -9223372036854775808 ≤ D.kid i ∧ D.kid i ≤ 9223372036854775807) :
    Calls Try.prog 45 #[.agg #[.bool false, .slice ac D.nk cc, .slice ap D.nv cp, .slice ai D.nd ci]] w fun e w' => ∃ u, e = .returned u ∧ BRO w' w.heap.size u (bytesN D) ∧ Below w.heap.size w w' := by
  have hnk := hf.nk
  have hnv := hf.nv
  have hnd := hf.nd
  have HF : Hid (NFine D) := hf
  have HKD : Hid (∀ i, i < D.nd → -9223372036854775808 ≤ D.kid i ∧ D.kid i ≤ 9223372036854775807) := hkd
  have HH : Hid (keysL D 0 = ([] ++ groups (clampN 0)) ++ groups (clampN D.nk)) := by show _ = _; simp [keysL, headL, hleaf, textsL]
  have HE : Hid (bytesN D = kidsL D D.nd) := by show _ = _; simp [bytesN, hleaf, kidsL]
  have HC : Hid (TxV w ac D.nk cc D.key) := hc
  have HP : Hid (TxV w ap D.nv cp D.val) := hp
  have HI : Hid (NuV w ai D.nd ci D.kid) := hi
  clear hf hkd hc hp hi hleaf
  have hB0 := nbox_start w (.cells #[.bool false, .slice ac D.nk cc, .slice ap D.nv cp, .slice ai D.nd ci] 27)
  have hBw0 := (nbox_below hB0).1
  obtain ⟨W0, hW0⟩ : ∃ W0, Hid ((w.alloc (.cells #[.bool false, .slice ac D.nk cc, .slice ap D.nv cp, .slice ai D.nd ci] 27)) = W0) := ⟨_, rfl⟩
  have HK0 : Hid (∀ W, Below W0.heap.size W0 W → (W.cell? ⟨w.heap.size, 0, none⟩ = some (.bool false) ∧ W.cell? ⟨w.heap.size, 1, none⟩ = some (.slice ac D.nk cc) ∧ W.cell? ⟨w.heap.size, 2, none⟩ = some (.slice ap D.nv cp) ∧ W.cell? ⟨w.heap.size, 3, none⟩ = some (.slice ai D.nd ci))) := by
    intro W hb
    rw [← hW0.out] at hb
    exact nbox4 (hb.mono (by simp))
  have HW0 : Hid (Below w.heap.size w W0) := by show Below _ _ _; rw [← hW0.out]; exact hBw0
  clear hBw0 hB0
  go_enter Try.func45, Try.ntmps45
  go_wp2_with fail
  rw [hW0.out]
  obtain ⟨x0, x1, x2, x3⟩ := HK0.out W0 (Below.refl _ _)
  go_region_held3 (fun WW => WW.cell? ⟨w.heap.size, 0, none⟩ = some (.bool false) ∧ WW.cell? ⟨w.heap.size, 1, none⟩ = some (.slice ac D.nk cc) ∧ WW.cell? ⟨w.heap.size, 2, none⟩ = some (.slice ap D.nv cp) ∧ WW.cell? ⟨w.heap.size, 3, none⟩ = some (.slice ai D.nd ci)) (first | assumption | go_keep) (first
    | (go_at_call_of 76 (D.nk); obtain ⟨g1, c1, rfl, hv1⟩ := hr1.view (fun y hy => groups_byte _ (clampN_bd _).1 (clampN_bd _).2 y (by simpa using hy)); refine (putU_bro g1 c1 _ (D.nk : Int) _ (by first | exact hv1 | exact hv1.drew) (by have := (groups_len (clampN 0)).2; simp; omega) (by omega) (by omega)).mono ?_; rintro e w2 ⟨v2, rfl, hr2, hB2⟩; have hb2 : Below W0.heap.size W0 w2 := hb1.trans ((Below.trans (by repeat (first | exact Below.refl _ _ | refine Below.drew ?_)) hB2).mono hb1.size); have hcells2 : w2.cell? ⟨w.heap.size, 0, none⟩ = some (.bool false) ∧ w2.cell? ⟨w.heap.size, 1, none⟩ = some (.slice ac D.nk cc) ∧ w2.cell? ⟨w.heap.size, 2, none⟩ = some (.slice ap D.nv cp) ∧ w2.cell? ⟨w.heap.size, 3, none⟩ = some (.slice ai D.nd ci) := HK0.out _ hb2)
    | (go_at_call 76; refine (putU_bro _ 0 [] 0 _ ⟨Nat.le_refl _, fun i hi => absurd hi (Nat.not_lt_zero _), fun h => absurd h (Nat.lt_irrefl _)⟩ (by simp) (by omega) (by omega)).mono ?_; rintro e w1 ⟨v1, rfl, hr1, hB1⟩; have hb1 : Below W0.heap.size W0 w1 := Below.trans (by repeat (first | exact Below.refl _ _ | refine Below.alloc ?_ (by simp) _ | refine Below.drew ?_)) (hB1.mono (by simp)); have hcells1 : w1.cell? ⟨w.heap.size, 0, none⟩ = some (.bool false) ∧ w1.cell? ⟨w.heap.size, 1, none⟩ = some (.slice ac D.nk cc) ∧ w1.cell? ⟨w.heap.size, 2, none⟩ = some (.slice ap D.nv cp) ∧ w1.cell? ⟨w.heap.size, 3, none⟩ = some (.slice ai D.nd ci) := HK0.out _ hb1))
  all_goals
    obtain ⟨W2, hW2⟩ : ∃ W2, Hid (w2 = W2) := ⟨_, rfl⟩
    have HR : Hid (BRO W2 w.heap.size v2 (keysL D 0)) := by
      show BRO _ _ _ _
      rw [HH.out, ← hW2.out]
      exact hr2.mono (Nat.le_trans HW0.out.size (by first | exact hb1.size | (have := hb1.size; simpa using this)))
    have HB : Hid (Below W0.heap.size W0 W2) := by show Below _ _ _; rw [← hW2.out]; exact hb2
    rw [hW2.out]
    clear hcells1 hcells2 hr1 hr2 hB1 hB2 hb1 hb2 x0 x1 x2 x3 hv1 HH
    go_wp2
    try clear x0 x1 x2 x3
    go_loopg [4, 5] D.nk (fun q b i wr => ∃ k : Nat, k ≤ D.nk ∧ q = D.nk - k ∧ i = .int .i64 k ∧ Below W0.heap.size W0 wr ∧ BRO wr w.heap.size b (keysL D k))
    case atStart => exact ⟨0, Nat.zero_le _, rfl, rfl, HB.out, HR.out⟩
    case round =>
      clear HB HR
      obtain ⟨k, hk, rfl, rfl, hB, hr⟩ := hrel
      obtain ⟨x0, x1, x2, x3⟩ := HK0.out _ hB
      have hBw := HW0.out.trans (hB.mono HW0.out.size)
      by_cases hlt : k < D.nk
      · obtain ⟨b1, o1, rfl, hb1, y0⟩ := txv_at (HC.out.below hBw) hlt
        obtain ⟨hl, hby⟩ := keysL_ok HF.out (Nat.le_of_lt hlt)
        obtain ⟨g, c, rfl, hv⟩ := hr.view hby
        have hkz : (k : Int) < (D.nk : Int) := by omega
        have hP := putText_bro g c _ (D.key k) wr hv (by omega) (by have := HF.out.key k hlt; omega)
        have HST : Hid (keysL D (k + 1) = keysL D k ++ oneT (D.key k)) := by show _ = _; simp [keysL, textsL, List.append_assoc]
        have HBk : Hid (Below W0.heap.size W0 wr) := hB
        obtain ⟨p0, hp0⟩ : ∃ x, Hid (D.key k = x) := ⟨_, rfl⟩
        obtain ⟨Q, hQ⟩ : ∃ Q, Hid (keysL D k = Q) := ⟨_, rfl⟩
        rw [hp0.out] at y0 HST hP
        rw [hQ.out] at hP HST ⊢
        clear hr hv hby hB
        go_wp2_with fail
        refine hP.mono ?_
        rintro e w3 ⟨v3, rfl, hr3, hb3⟩
        have HR3 : Hid (BRO w3 w.heap.size v3 (keysL D (k + 1))) := by show BRO _ _ _ _; rw [HST.out]; exact hr3.mono hBw.size
        have HB3 : Hid (Below W0.heap.size W0 w3) := HBk.out.trans (hb3.mono HBk.out.size)
        clear hP hr3 hb3 HST hBw
        go_wp2
        go_roundg (D.nk - (k + 1))
        case measure => omega
        case rel => exact ⟨k + 1, by omega, rfl, by go_num, HB3.out, HR3.out⟩
      · obtain rfl : k = D.nk := by omega
        have hkz : ¬ (D.nk : Int) < (D.nk : Int) := by omega
        have HB : Hid (Below W0.heap.size W0 wr) := hB
        have HR : Hid (BRO wr w.heap.size u4 (keysL D D.nk)) := hr
        clear hB hr hBw
        obtain ⟨W9, hW9⟩ : ∃ W9, Hid (wr = W9) := ⟨_, rfl⟩
        rw [hW9.out] at HR HB x0 x1 x2 x3 ⊢
        go_wp2
        go_loopg [4, 6] 0 (fun q b i wx => q = 0 ∧ b = u4 ∧ i = .int .i64 0 ∧ wx = W9)
        case atStart => exact ⟨rfl, rfl, rfl, rfl⟩
        case round =>
          obtain ⟨rfl, hu4, rfl, hwx⟩ := hrel
          subst hu4
          rw [hwx]
          by_cases h0 : (0 : Int) < (D.nv : Int)
          · have HR0 : Hid (BRO W9 w.heap.size u4 (kidsL D 0)) := by
              have := HR.out
              simp only [keysL] at this
              show BRO _ _ _ _
              simpa [kidsL, numL] using this
            clear HR
            have HR := HR0
            clear HR0
            go_wp2
            try clear x0 x1 x2 x3
            go_loopg [4, 7] D.nd (fun q b i wr => ∃ k : Nat, k ≤ D.nd ∧ q = D.nd - k ∧ i = .int .i64 k ∧ Below W0.heap.size W0 wr ∧ BRO wr w.heap.size b (kidsL D k))
            case atStart => exact ⟨0, Nat.zero_le _, rfl, rfl, HB.out, HR.out⟩
            case round =>
              clear HB HR
              obtain ⟨k, hk, rfl, rfl, hB, hr⟩ := hrel
              obtain ⟨x0, x1, x2, x3⟩ := HK0.out _ hB
              have hBw := HW0.out.trans (hB.mono HW0.out.size)
              by_cases hlt : k < D.nd
              · obtain ⟨b1, o1, rfl, hb1, y0⟩ := nuv_at (HI.out.below hBw) hlt
                obtain ⟨hl, hby⟩ := kidsL_ok HF.out (Nat.le_of_lt hlt)
                obtain ⟨g, c, rfl, hv⟩ := hr.view hby
                have hkz : (k : Int) < (D.nd : Int) := by omega
                have hP := putU_bro g c _ (D.kid k) wr hv (by omega) (HKD.out k hlt).1 (HKD.out k hlt).2
                have HST : Hid (kidsL D (k + 1) = kidsL D k ++ groups (clampN (D.kid k))) := by show _ = _; simp [kidsL, numL, List.append_assoc]
                have HBk : Hid (Below W0.heap.size W0 wr) := hB
                obtain ⟨p0, hp0⟩ : ∃ x, Hid (D.kid k = x) := ⟨_, rfl⟩
                obtain ⟨Q, hQ⟩ : ∃ Q, Hid (kidsL D k = Q) := ⟨_, rfl⟩
                rw [hp0.out] at y0 HST hP
                rw [hQ.out] at hP HST ⊢
                clear hr hv hby hB
                go_wp2_with fail
                refine hP.mono ?_
                rintro e w3 ⟨v3, rfl, hr3, hb3⟩
                have HR3 : Hid (BRO w3 w.heap.size v3 (kidsL D (k + 1))) := by show BRO _ _ _ _; rw [HST.out]; exact hr3.mono hBw.size
                have HB3 : Hid (Below W0.heap.size W0 w3) := HBk.out.trans (hb3.mono HBk.out.size)
                clear hP hr3 hb3 HST hBw
                go_wp2
                go_roundg (D.nd - (k + 1))
                case measure => omega
                case rel => exact ⟨k + 1, by omega, rfl, by go_num, HB3.out, HR3.out⟩
              · obtain rfl : k = D.nd := by omega
                have hkz : ¬ (D.nd : Int) < (D.nd : Int) := by omega
                have HB : Hid (Below W0.heap.size W0 wr) := hB
                have HR : Hid (BRO wr w.heap.size u4 (kidsL D D.nd)) := hr
                clear hB hr hBw
                go_wp2
                go_ret
                exact ⟨_, rfl, by rw [HE.out]; exact HR.out, HW0.out.trans (HB.out.mono HW0.out.size)⟩
          · have HR0 : Hid (BRO W9 w.heap.size u4 (kidsL D 0)) := by
              have := HR.out
              simp only [keysL] at this
              show BRO _ _ _ _
              simpa [kidsL, numL] using this
            clear HR
            have HR := HR0
            clear HR0
            go_wp2
            try clear x0 x1 x2 x3
            go_loopg [4, 7] D.nd (fun q b i wr => ∃ k : Nat, k ≤ D.nd ∧ q = D.nd - k ∧ i = .int .i64 k ∧ Below W0.heap.size W0 wr ∧ BRO wr w.heap.size b (kidsL D k))
            case atStart => exact ⟨0, Nat.zero_le _, rfl, rfl, HB.out, HR.out⟩
            case round =>
              clear HB HR
              obtain ⟨k, hk, rfl, rfl, hB, hr⟩ := hrel
              obtain ⟨x0, x1, x2, x3⟩ := HK0.out _ hB
              have hBw := HW0.out.trans (hB.mono HW0.out.size)
              by_cases hlt : k < D.nd
              · obtain ⟨b1, o1, rfl, hb1, y0⟩ := nuv_at (HI.out.below hBw) hlt
                obtain ⟨hl, hby⟩ := kidsL_ok HF.out (Nat.le_of_lt hlt)
                obtain ⟨g, c, rfl, hv⟩ := hr.view hby
                have hkz : (k : Int) < (D.nd : Int) := by omega
                have hP := putU_bro g c _ (D.kid k) wr hv (by omega) (HKD.out k hlt).1 (HKD.out k hlt).2
                have HST : Hid (kidsL D (k + 1) = kidsL D k ++ groups (clampN (D.kid k))) := by show _ = _; simp [kidsL, numL, List.append_assoc]
                have HBk : Hid (Below W0.heap.size W0 wr) := hB
                obtain ⟨p0, hp0⟩ : ∃ x, Hid (D.kid k = x) := ⟨_, rfl⟩
                obtain ⟨Q, hQ⟩ : ∃ Q, Hid (kidsL D k = Q) := ⟨_, rfl⟩
                rw [hp0.out] at y0 HST hP
                rw [hQ.out] at hP HST ⊢
                clear hr hv hby hB
                go_wp2_with fail
                refine hP.mono ?_
                rintro e w3 ⟨v3, rfl, hr3, hb3⟩
                have HR3 : Hid (BRO w3 w.heap.size v3 (kidsL D (k + 1))) := by show BRO _ _ _ _; rw [HST.out]; exact hr3.mono hBw.size
                have HB3 : Hid (Below W0.heap.size W0 w3) := HBk.out.trans (hb3.mono HBk.out.size)
                clear hP hr3 hb3 HST hBw
                go_wp2
                go_roundg (D.nd - (k + 1))
                case measure => omega
                case rel => exact ⟨k + 1, by omega, rfl, by go_num, HB3.out, HR3.out⟩
              · obtain rfl : k = D.nd := by omega
                have hkz : ¬ (D.nd : Int) < (D.nd : Int) := by omega
                have HB : Hid (Below W0.heap.size W0 wr) := hB
                have HR : Hid (BRO wr w.heap.size u4 (kidsL D D.nd)) := hr
                clear hB hr hBw
                go_wp2
                go_ret
                exact ⟨_, rfl, by rw [HE.out]; exact HR.out, HW0.out.trans (HB.out.mono HW0.out.size)⟩

theorem l14PutO_any (v : Value) (D : PNode) (w : World) (h : NdView w v D) (hf : NFine D) (hkd : ∀ i, i < D.nd → -9223372036854775808 ≤ D.kid i ∧ D.kid i ≤ 9223372036854775807) :
    Calls Try.prog 45 #[v] w fun e w' => ∃ u, e = .returned u ∧ BRO w' w.heap.size u (bytesN D) ∧ Below w.heap.size w w' := by
  obtain ⟨ac, cc, ap, cp, ai, ci, rfl, hc, hp, hi⟩ := h.is
  cases hl : D.leaf with
  | true => exact l14PutO_true D hl ac cc ap cp ai ci w hc hp hi hf hkd
  | false => exact l14PutO_false D hl ac cc ap cp ai ci w hc hp hi hf hkd
set_option maxHeartbeats 2000000 in
theorem specPutNodeO_any (v : Value) (D : PNode) (w : World) (h : NdView w v D) (hf : NFine D) :
    Calls Try.prog 35 #[v] w fun e w' => ∃ u, e = .returned u ∧ BRO w' w.heap.size u (putS D) ∧ Below w.heap.size w w' := by
  obtain ⟨ac, cc, ap, cp, ai, ci, rfl, hc, hp, hi⟩ := h.is
  obtain ⟨W0, hW0⟩ : ∃ W0, Hid (w.alloc (.cells #[.bool D.leaf, .slice ac D.nk cc, .slice ap D.nv cp, .slice ai D.nd ci] 27) = W0) := ⟨_, rfl⟩
  have hb0 : Below w.heap.size w W0 := by rw [← hW0.out]; exact (Below.refl _ _).alloc (Nat.le_refl _) _
  have HX : Hid (∀ W, Below W0.heap.size W0 W → (W.cell? ⟨w.heap.size, 0, none⟩ = some (.bool D.leaf) ∧ W.cell? ⟨w.heap.size, 1, none⟩ = some (.slice ac D.nk cc) ∧ W.cell? ⟨w.heap.size, 2, none⟩ = some (.slice ap D.nv cp) ∧ W.cell? ⟨w.heap.size, 3, none⟩ = some (.slice ai D.nd ci))) := by
    intro W hb
    rw [← hW0.out] at hb
    exact nbox4 (hb.mono (by simp))
  have HBK : Hid (∀ W, Below W0.heap.size W0 W → Below w.heap.size w W) := fun W hb => hb0.trans (hb.mono hb0.size)
  have hN := specNodeOk_any _ D W0 (h.below hb0) hf
  have HPUT : Hid (∀ W : World, Below w.heap.size w W → Calls Try.prog 45 #[.agg #[.bool D.leaf, .slice ac D.nk cc, .slice ap D.nv cp, .slice ai D.nd ci]] W fun e w' => ∃ u, e = .returned u ∧ BRO w' W.heap.size u (bytesN D) ∧ Below W.heap.size W w') := fun W hb => l14PutO_any _ D W (h.below hb) hf hf.kid
  have HT : Hid (OkS D → putS D = bytesN D) := fun h => if_pos h
  have HF : Hid (¬ OkS D → putS D = []) := fun h => if_neg h
  obtain ⟨P, hP⟩ : ∃ P : Prop, Hid (OkS D = P) := ⟨_, rfl⟩
  simp only [hP.out] at hN HT HF
  obtain ⟨b0, hbv⟩ := hidN D.leaf
  obtain ⟨L, hL⟩ := hidN (putS D)
  obtain ⟨L1, hL1⟩ := hidN (bytesN D)
  simp only [hL.out, hL1.out, hbv.out] at HT HF HPUT HX hN ⊢
  simp only [hbv.out] at hW0
  clear hP hL hL1 h hf hc hp hi hbv
  obtain ⟨x0, x1, x2, x3⟩ := HX.out W0 (Below.refl _ _)
  have hbk0 := HBK.out W0 (Below.refl _ _)
  go_enter Try.func35, Try.ntmps35
  go_wp2_with (first | rw [hW0.out] | fail)
  refine hN.mono ?_
  rintro e w1 ⟨r, rfl, hr, hb1⟩
  have HR : Hid (r = true ↔ P) := hr
  have hbk := HBK.out w1 hb1
  clear hN hr x0 x1 x2 x3 hbk0 hW0 hb0
  cases r with
  | false =>
    have HN : Hid (L = []) := HF.out (fun h => by have := HR.out.2 h; cases this)
    have HB : Hid (BRO (w1.alloc (.cells #[] 5)) w.heap.size (.slice (some ⟨w1.heap.size, 0, none⟩) 0 0) L ∧ Below w.heap.size w (w1.alloc (.cells #[] 5))) := by rw [HN.out]; exact ⟨bro_nil w1 _ hbk.size, hbk.alloc hbk.size _⟩
    clear HN HR HT HF hbk hb1 HX HBK HPUT
    go_wp2
    go_ret
    exact ⟨_, rfl, HB.out.1, HB.out.2⟩
  | true =>
    have HN : Hid (L = L1) := HT.out (HR.out.1 rfl)
    obtain ⟨x0, x1, x2, x3⟩ := HX.out _ hb1
    have hP := HPUT.out w1 hbk
    clear HR HT HF HX HBK HPUT
    go_wp2_with fail
    refine hP.mono ?_
    rintro e w2 ⟨u, rfl, hr2, hb2⟩
    have HO : Hid (BRO w2 w.heap.size u L ∧ Below w.heap.size w w2) := ⟨by rw [HN.out]; exact hr2.mono hbk.size, hbk.trans (hb2.mono hbk.size)⟩
    clear hP hr2 hb2 hbk hb1 x0 x1 x2 x3 HN
    go_wp2
    go_ret
    exact ⟨_, rfl, HO.out.1, HO.out.2⟩

end Go.Proofs.Ytaiinlcdfeboiaa

/-
  Bytes that are bent, and a place in bytes, as far as a law leans on their draws.
-/
namespace Go.Proofs.Ytaiinlcdfeboiaa
open Go.RowKit
set_option maxRecDepth 4000

/-- Of what lies below B block g alone may have turned. -/
structure Kept (B g : Nat) (w w' : World) : Prop where
  os : w'.os = w.os
  tape : w'.tape = w.tape
  output : w'.output = w.output
  size : w.heap.size ≤ w'.heap.size
  block : ∀ k, k < B → k ≠ g → w'.heap[k]? = w.heap[k]?
theorem Kept.ofBut {B g : Nat} {w w' : World} (h : But g w w') (hB : B ≤ w.heap.size) : Kept B g w w' := ⟨h.os, h.tape, h.output, h.size, fun k hk hg => h.block k (by omega) hg⟩
theorem Kept.trans {B g : Nat} {a b c : World} (h : Kept B g a b) (k : Kept B g b c) : Kept B g a c :=
  ⟨k.os.trans h.os, k.tape.trans h.tape, k.output.trans h.output, Nat.le_trans h.size k.size, fun i hi hg => (k.block i hi hg).trans (h.block i hi hg)⟩
theorem Kept.below {B g A : Nat} {w w' : World} (h : Kept B g w w') (h1 : A ≤ g) (h2 : A ≤ B) : Below A w w' := ⟨h.os, h.tape, h.output, h.size, fun k hk => h.block k (by omega) (by omega)⟩
theorem Kept.setCell {B g b i : Nat} {w w' : World} (h : Kept B g w w') (hb : B ≤ b) (u : Value) : Kept B g w (w'.setCell ⟨b, i, none⟩ u) :=
  ⟨h.os, h.tape, h.output, by simpa using h.size, fun k hk hg => by rw [Below.heap_setCell _ _ _ _ (by show k ≠ b; omega)]; exact h.block k hk hg⟩

/-- Bytes of the call's own that are bent: some bytes, no more than one beyond. -/
structure Bent (w' : World) (B N : Nat) (e : Ending) (b c m : Nat) (F : Nat → Int) : Prop where
  ret : e = .returned (.slice (some ⟨b, 0, none⟩) m c)
  few : m ≤ N + 1
  new : B ≤ b
  view : View w' (some ⟨b, 0, none⟩) m c F

/-- The same, the row being known. -/
structure BentR (w' : World) (B N : Nat) (e : Ending) (b c m : Nat) (F : Nat → Int) : Prop where
  ret : e = .returned (.slice (some ⟨b, 0, none⟩) m c)
  few : m ≤ N + 1
  new : B ≤ b
  le : m ≤ c
  byte : ∀ i, i < m → 0 ≤ F i ∧ F i ≤ 255
  row : Row 5 w' b m F
theorem BentR.to {w' : World} {B N : Nat} {e : Ending} {b c m : Nat} {F : Nat → Int} (h : BentR w' B N e b c m F) : Bent w' B N e b c m F := ⟨h.ret, h.few, h.new, h.row.view h.le h.byte⟩

theorem Cur.kept {B : Nat} {w w' : World} {g : Nat} {ao : Option Addr} {n cap : Nat} {f : Nat → Int} (h : Cur w g ao n cap f) (hk : ∀ k, k < B → w'.heap[k]? = w.heap[k]?) (hs : w.heap.size ≤ w'.heap.size) (hg : g < B) (hc : ∀ a, ao = some a → 0 < n → a.block < B) : Cur w' g ao n cap f := by
  obtain ⟨i, k, hr, h0, hi⟩ := h.cells
  refine ⟨⟨i, k, hr.of_block (hk g hg), h0, hi⟩, ⟨h.view.le, h.view.byte, fun hn => ?_⟩, h.apart⟩
  obtain ⟨b', off, e, hlt, hcc⟩ := h.view.cells hn
  refine ⟨b', off, e, Nat.lt_of_lt_of_le hlt hs, fun j hj => ?_⟩
  rw [World.cell?_of_block (w := w) (hk b' (hc _ e hn))]
  exact hcc j hj

theorem getD_byte {l : List Int} (h : ∀ y ∈ l, 0 ≤ y ∧ y ≤ 255) (i : Nat) (hi : i < l.length) : 0 ≤ l.getD i 0 ∧ l.getD i 0 ≤ 255 := h _ (getD_mem hi)

set_option maxHeartbeats 2000000 in
theorem l1Bend_row (g : Nat) (ao : Option Addr) (n cap : Nat) (f : Nat → Int) (B : Nat) (v : Value) (N : Nat) (l : List Int) (w : World) (hn : n ≤ 1048576) (hN0 : 0 < N) (hN : N ≤ 1048576) (hC : Cur w g ao n cap f) (hown : w.ownsRow B 5 1 v N (bl l)) (hl : l.length = N) (hyb : ∀ y ∈ l, 0 ≤ y ∧ y ≤ 255) (hg : g < B) (hc : ∀ a, ao = some a → 0 < n → a.block < B) (hBw : B ≤ w.heap.size) :
    Calls Try.prog 34 #[.pointer (some ⟨g, 0, none⟩), v] w fun e w' => (∃ (b c m : Nat) (F : Nat → Int), BentR w' B N e b c m F) ∧ Cur w' g ao n cap f ∧ Kept B g w w' := by
  obtain ⟨i0, hi, hz0, hz1, hz2⟩ := info_parts Try.info5
  obtain ⟨b, c, rfl, hb, hbc, hrow⟩ := row_of_own hown hN0
  have HY : Hid (∀ i, i < N → 0 ≤ l.getD i 0 ∧ l.getD i 0 ≤ 255) := fun i hi => getD_byte hyb i (by omega)
  have HB : Hid (∀ y ∈ l, 0 ≤ y ∧ y ≤ 255) := hyb
  have HL : Hid (l.length = N) := hl
  have HC : Hid (∀ a, ao = some a → 0 < n → a.block < B) := hc
  clear hyb hl hc
  have e0 : ((N : Int) == 0) = false := by simp; omega
  have hblt := hrow.lt
  go_enter Try.func34, Try.ntmps34
  go_wp2_with fail
  refine (l1Below_any g ao n cap f 5 w hn (by omega) (by omega) hC).mono ?_
  rintro e w1 ⟨x, rfl, hx0, hx1, hC1, hO1⟩
  have hr1 := hO1.row hrow (by omega)
  have hK1 : Kept B g w w1 := Kept.ofBut (But.ofOnly hO1) hBw
  have hs1 : w.heap.size ≤ w1.heap.size := hK1.size
  have hown1 := hown.kept hO1.grown (Or.inr (fun e => by have := (hown.lt g e).1; omega))
  clear hC hrow hown hO1
  by_cases h0 : x = 0
  · subst h0
    clear hown1
    go_wp2_with fail
    refine (l1Below_any g ao n cap f (N : Int) w1 hn (by omega) (by omega) hC1).mono ?_
    rintro e w2 ⟨y, rfl, hy0, hy1, hC2, hO2⟩
    obtain ⟨j, rfl⟩ := Int.eq_ofNat_of_zero_le hy0
    have hr2 := hO2.row hr1 (by omega)
    have hK2 := hK1.trans (Kept.ofBut (But.ofOnly hO2) (by omega))
    have hs2 : w.heap.size ≤ w2.heap.size := hK2.size
    have hl2 := hr2.lt
    have hg2 := hC2.lt
    clear hC1 hO2 hK1 hr1
    have HZ : Hid _ := newInts w2 [0, 1, 2, 127, 128, 255] 3
    have hb4 : Below w2.heap.size w2 (w2.alloc (.cells #[.int .i64 0, .int .i64 1, .int .i64 2, .int .i64 127, .int .i64 128, .int .i64 255] 3)) := (Below.refl _ _).alloc (Nat.le_refl _) _
    go_wp2_with fail
    refine (l1Int_any g ao n cap f w2.heap.size 6 (fun i => [0, 1, 2, 127, 128, 255].getD i 0) _ hn (by omega) (by omega) HZ.out (by omega) (hC2.below hb4)).mono ?_
    rintro e w4 ⟨q, hq, rfl, hC4, hO4⟩
    have hmem : [(0 : Int), 1, 2, 127, 128, 255].getD q 0 ∈ [(0 : Int), 1, 2, 127, 128, 255] := getD_mem hq
    have hxb : 0 ≤ [(0 : Int), 1, 2, 127, 128, 255].getD q 0 ∧ [(0 : Int), 1, 2, 127, 128, 255].getD q 0 ≤ 255 := by
      simp only [List.mem_cons, List.not_mem_nil, or_false] at hmem
      omega
    clear hmem HZ
    generalize [(0 : Int), 1, 2, 127, 128, 255].getD q 0 = z at *
    obtain ⟨hz0', hz1'⟩ := hxb
    have hr4 := hO4.row (hr2.belowAll hb4) (by omega)
    have hK4 := hK2.trans ((Kept.ofBut (But.ofBelow hb4) (by omega)).trans (Kept.ofBut (But.ofOnly hO4) (by have := hb4.size; omega)))
    have hcj := hr4.cell (i := j) (by omega)
    have hfj := hr4.frozen j
    have HS : Hid (Row 5 (w4.setCell ⟨b, j, none⟩ (.int .u8 z)) b N (fun i => if i = j then z else l.getD i 0)) := hr4.set j z
    have HK : Hid (Kept B g w (w4.setCell ⟨b, j, none⟩ (.int .u8 z))) := hK4.setCell hb _
    have HC4 : Hid (Cur (w4.setCell ⟨b, j, none⟩ (.int .u8 z)) g ao n cap f) := hC4.kept (B := B) (fun k hk => Below.heap_setCell _ _ _ _ (by show k ≠ b; omega)) (by simp) hg HC.out
    have hw : IntKind.u8.wrap z = z := by rw [u8_wrap]; omega
    have hjz : (j : Int) < (N : Int) := by omega
    clear hr2 hr4 hK2 hK4 hC2 hC4 hb4 hO4
    go_wp2
    go_ret
    refine ⟨⟨b, c, N, _, rfl, by omega, hb, hbc, fun i hi => ?_, HS.out⟩, HC4.out, HK.out⟩
    have := HY.out i hi
    split <;> omega
  · by_cases h1 : x = 1
    · subst h1
      clear hr1
      go_wp2_with (at_builtin; go_must (refine wpList_append_own _ rfl (.tmp 25) (.tmp 26) 22 rfl B 5 i0 (.int .u8 0) 1 1 Try.underlying22 hi hz0 hz1 hz2 rfl (by decide) (.slice (some ⟨b, 0, none⟩) N c) _ _ rfl (hown1.alloc _) ⟨w1.heap.size, 0, none⟩ 1 1 [.int .u8 3] rfl rfl (cellNew _ _ _) (bl_one [3]) (by unfold maxLen; omega) (by omega) (by simp; omega) ?_); intro v2 w2 hown2 hgr2 hnil)
      have hb2 : Below w1.heap.size w1 (w1.alloc (.cells #[.int .u8 3] 5)) := (Below.refl _ _).alloc (Nat.le_refl _) _
      have hO2 : w2.ownsRow B 5 1 v2 (N + 1) (bl (l ++ [3])) := by rw [bl_append]; exact hown2
      obtain ⟨b2, c2, rfl, hbb, hbc2, hrow2⟩ := row_of_own hO2 (by omega)
      have hkk : ∀ k, k < B → w2.heap[k]? = w1.heap[k]? := fun k hk => by
        rw [hgr2.block k (by simp; omega) (fun e => by have := (hown1.lt k e.symm).1; omega), Below.heap_alloc _ _ _ (by omega)]
      have hss : w1.heap.size ≤ w2.heap.size := Nat.le_trans (by simp) hgr2.size
      have HK : Hid (Kept B g w w2) := hK1.trans ⟨hgr2.os, hgr2.tape, hgr2.output, hss, fun k hk _ => hkk k hk⟩
      have HC4 : Hid (Cur w2 g ao n cap f) := hC1.kept (B := B) hkk hss hg HC.out
      have HY2 : Hid (∀ i, i < N + 1 → 0 ≤ (l ++ [3]).getD i 0 ∧ (l ++ [3]).getD i 0 ≤ 255) := fun i hi => by
        refine getD_byte ?_ i (by rw [List.length_append, HL.out]; simpa using hi)
        intro y hy
        rcases List.mem_append.1 hy with hy | hy
        · exact HB.out y hy
        · simp at hy; omega
      clear hgr2 hnil hown1 hown2 hO2 hkk hb2 hC1 hK1
      go_wp2
      go_ret
      exact ⟨⟨b2, c2, N + 1, _, rfl, by omega, hbb, hbc2, HY2.out, hrow2⟩, HC4.out, HK.out⟩
    · by_cases h2 : x = 2
      · subst h2
        clear hown1
        go_wp2_with fail
        refine (l1Below_any g ao n cap f (N : Int) w1 hn (by omega) (by omega) hC1).mono ?_
        rintro e w2 ⟨y, rfl, hy0, hy1, hC2, hO2⟩
        obtain ⟨j, rfl⟩ := Int.eq_ofNat_of_zero_le hy0
        have hr2 := hO2.row hr1 (by omega)
        have HK : Hid (Kept B g w w2) := hK1.trans (Kept.ofBut (But.ofOnly hO2) (by omega))
        have HV : Hid (Row 5 w2 b j (fun i => l.getD i 0)) := by
          obtain ⟨cu, u1, u2, u3⟩ := hr2
          exact ⟨cu, u1, by omega, fun i hi => u3 i (by omega)⟩
        have hjc : (j : Int) ≤ (c : Int) := by omega
        clear hC1 hr1 hr2 hO2 hK1
        go_wp2
        go_ret
        exact ⟨⟨b, c, j, _, rfl, by omega, hb, by omega, fun i hi => HY.out i (by omega), HV.out⟩, hC2, HK.out⟩
      · have q0 : (x == 0) = false := by simpa using h0
        have q1 : (x == 1) = false := by simpa using h1
        have q2 : (x == 2) = false := by simpa using h2
        clear hown1
        go_wp2
        go_ret
        exact ⟨⟨b, c, N, _, rfl, by omega, hb, hbc, HY.out, hr1⟩, hC1, hK1⟩
theorem l1Bend_any (g : Nat) (ao : Option Addr) (n cap : Nat) (f : Nat → Int) (B : Nat) (v : Value) (N : Nat) (l : List Int) (w : World) (hn : n ≤ 1048576) (hN0 : 0 < N) (hN : N ≤ 1048576) (hC : Cur w g ao n cap f) (hown : w.ownsRow B 5 1 v N (bl l)) (hl : l.length = N) (hyb : ∀ y ∈ l, 0 ≤ y ∧ y ≤ 255) (hg : g < B) (hc : ∀ a, ao = some a → 0 < n → a.block < B) (hBw : B ≤ w.heap.size) :
    Calls Try.prog 34 #[.pointer (some ⟨g, 0, none⟩), v] w fun e w' => (∃ (b c m : Nat) (F : Nat → Int), Bent w' B N e b c m F) ∧ Cur w' g ao n cap f ∧ Kept B g w w' := by
  refine (l1Bend_row g ao n cap f B v N l w hn hN0 hN hC hown hl hyb hg hc hBw).mono ?_
  rintro e w' ⟨⟨b, c, m, F, h⟩, h1, h2⟩
  exact ⟨⟨b, c, m, F, h.to⟩, h1, h2⟩
end Go.Proofs.Ytaiinlcdfeboiaa

/-
  Bytes that are bent, and which of them turned.
-/
namespace Go.Proofs.Ytaiinlcdfeboiaa
open Go.RowKit
set_option maxRecDepth 4000

/-- At most one place turned, or it is cut, or one byte more. -/
def Turn (N : Nat) (l : List Int) (m : Nat) (F : Nat → Int) : Prop :=
  (∀ i, i < m → i < N → F i = l.getD i 0) ∨ (m = N ∧ ∃ j z, j < N ∧ (z = 0 ∨ z = 1 ∨ z = 2 ∨ z = 127 ∨ z = 128 ∨ z = 255) ∧ F j = z ∧ ∀ i, i ≠ j → F i = l.getD i 0)
theorem getD_app_left {l k : List Int} {N i : Nat} (h : l.length = N) (hi : i < N) : (l ++ k).getD i 0 = l.getD i 0 := by
  simp [List.getD, List.getElem?_append_left (show i < l.length by omega)]

set_option maxHeartbeats 2000000 in
theorem l1Bend_turn (g : Nat) (ao : Option Addr) (n cap : Nat) (f : Nat → Int) (B : Nat) (v : Value) (N : Nat) (l : List Int) (w : World) (hn : n ≤ 1048576) (hN0 : 0 < N) (hN : N ≤ 1048576) (hC : Cur w g ao n cap f) (hown : w.ownsRow B 5 1 v N (bl l)) (hl : l.length = N) (hyb : ∀ y ∈ l, 0 ≤ y ∧ y ≤ 255) (hg : g < B) (hc : ∀ a, ao = some a → 0 < n → a.block < B) (hBw : B ≤ w.heap.size) :
    Calls Try.prog 34 #[.pointer (some ⟨g, 0, none⟩), v] w fun e w' => (∃ (b c m : Nat) (F : Nat → Int), BentR w' B N e b c m F ∧ Turn N l m F) ∧ Cur w' g ao n cap f ∧ Kept B g w w' := by
  obtain ⟨i0, hi, hz0, hz1, hz2⟩ := info_parts Try.info5
  obtain ⟨b, c, rfl, hb, hbc, hrow⟩ := row_of_own hown hN0
  have HY : Hid (∀ i, i < N → 0 ≤ l.getD i 0 ∧ l.getD i 0 ≤ 255) := fun i hi => getD_byte hyb i (by omega)
  have HB : Hid (∀ y ∈ l, 0 ≤ y ∧ y ≤ 255) := hyb
  have HL : Hid (l.length = N) := hl
  have HC : Hid (∀ a, ao = some a → 0 < n → a.block < B) := hc
  clear hyb hl hc
  have e0 : ((N : Int) == 0) = false := by simp; omega
  have hblt := hrow.lt
  go_enter Try.func34, Try.ntmps34
  go_wp2_with fail
  refine (l1Below_any g ao n cap f 5 w hn (by omega) (by omega) hC).mono ?_
  rintro e w1 ⟨x, rfl, hx0, hx1, hC1, hO1⟩
  have hr1 := hO1.row hrow (by omega)
  have hK1 : Kept B g w w1 := Kept.ofBut (But.ofOnly hO1) hBw
  have hs1 : w.heap.size ≤ w1.heap.size := hK1.size
  have hown1 := hown.kept hO1.grown (Or.inr (fun e => by have := (hown.lt g e).1; omega))
  clear hC hrow hown hO1
  by_cases h0 : x = 0
  · subst h0
    clear hown1
    go_wp2_with fail
    refine (l1Below_any g ao n cap f (N : Int) w1 hn (by omega) (by omega) hC1).mono ?_
    rintro e w2 ⟨y, rfl, hy0, hy1, hC2, hO2⟩
    obtain ⟨j, rfl⟩ := Int.eq_ofNat_of_zero_le hy0
    have hr2 := hO2.row hr1 (by omega)
    have hK2 := hK1.trans (Kept.ofBut (But.ofOnly hO2) (by omega))
    have hs2 : w.heap.size ≤ w2.heap.size := hK2.size
    have hl2 := hr2.lt
    have hg2 := hC2.lt
    clear hC1 hO2 hK1 hr1
    have HZ : Hid _ := newInts w2 [0, 1, 2, 127, 128, 255] 3
    have hb4 : Below w2.heap.size w2 (w2.alloc (.cells #[.int .i64 0, .int .i64 1, .int .i64 2, .int .i64 127, .int .i64 128, .int .i64 255] 3)) := (Below.refl _ _).alloc (Nat.le_refl _) _
    go_wp2_with fail
    refine (l1Int_any g ao n cap f w2.heap.size 6 (fun i => [0, 1, 2, 127, 128, 255].getD i 0) _ hn (by omega) (by omega) HZ.out (by omega) (hC2.below hb4)).mono ?_
    rintro e w4 ⟨q, hq, rfl, hC4, hO4⟩
    have hmem : [(0 : Int), 1, 2, 127, 128, 255].getD q 0 ∈ [(0 : Int), 1, 2, 127, 128, 255] := getD_mem hq
    have hxb : 0 ≤ [(0 : Int), 1, 2, 127, 128, 255].getD q 0 ∧ [(0 : Int), 1, 2, 127, 128, 255].getD q 0 ≤ 255 := by
      simp only [List.mem_cons, List.not_mem_nil, or_false] at hmem
      omega
    have HMM : Hid (let z := [(0 : Int), 1, 2, 127, 128, 255].getD q 0; z = 0 ∨ z = 1 ∨ z = 2 ∨ z = 127 ∨ z = 128 ∨ z = 255) := by
      show _ ∨ _
      simpa only [List.mem_cons, List.not_mem_nil, or_false] using hmem
    dsimp only at HMM
    clear hmem HZ
    generalize [(0 : Int), 1, 2, 127, 128, 255].getD q 0 = z at *
    obtain ⟨hz0', hz1'⟩ := hxb
    have HTU : Hid (Turn N l N (fun i => if i = j then z else l.getD i 0)) := .inr ⟨rfl, j, z, by omega, HMM.out, if_pos rfl, fun i hi => if_neg hi⟩
    clear HMM
    have hr4 := hO4.row (hr2.belowAll hb4) (by omega)
    have hK4 := hK2.trans ((Kept.ofBut (But.ofBelow hb4) (by omega)).trans (Kept.ofBut (But.ofOnly hO4) (by have := hb4.size; omega)))
    have hcj := hr4.cell (i := j) (by omega)
    have hfj := hr4.frozen j
    have HS : Hid (Row 5 (w4.setCell ⟨b, j, none⟩ (.int .u8 z)) b N (fun i => if i = j then z else l.getD i 0)) := hr4.set j z
    have HK : Hid (Kept B g w (w4.setCell ⟨b, j, none⟩ (.int .u8 z))) := hK4.setCell hb _
    have HC4 : Hid (Cur (w4.setCell ⟨b, j, none⟩ (.int .u8 z)) g ao n cap f) := hC4.kept (B := B) (fun k hk => Below.heap_setCell _ _ _ _ (by show k ≠ b; omega)) (by simp) hg HC.out
    have hw : IntKind.u8.wrap z = z := by rw [u8_wrap]; omega
    have hjz : (j : Int) < (N : Int) := by omega
    clear hr2 hr4 hK2 hK4 hC2 hC4 hb4 hO4
    go_wp2
    go_ret
    refine ⟨⟨b, c, N, _, ⟨rfl, by omega, hb, hbc, fun i hi => ?_, HS.out⟩, HTU.out⟩, HC4.out, HK.out⟩
    have := HY.out i hi
    split <;> omega
  · by_cases h1 : x = 1
    · subst h1
      clear hr1
      go_wp2_with (at_builtin; go_must (refine wpList_append_own _ rfl (.tmp 25) (.tmp 26) 22 rfl B 5 i0 (.int .u8 0) 1 1 Try.underlying22 hi hz0 hz1 hz2 rfl (by decide) (.slice (some ⟨b, 0, none⟩) N c) _ _ rfl (hown1.alloc _) ⟨w1.heap.size, 0, none⟩ 1 1 [.int .u8 3] rfl rfl (cellNew _ _ _) (bl_one [3]) (by unfold maxLen; omega) (by omega) (by simp; omega) ?_); intro v2 w2 hown2 hgr2 hnil)
      have hb2 : Below w1.heap.size w1 (w1.alloc (.cells #[.int .u8 3] 5)) := (Below.refl _ _).alloc (Nat.le_refl _) _
      have hO2 : w2.ownsRow B 5 1 v2 (N + 1) (bl (l ++ [3])) := by rw [bl_append]; exact hown2
      obtain ⟨b2, c2, rfl, hbb, hbc2, hrow2⟩ := row_of_own hO2 (by omega)
      have hkk : ∀ k, k < B → w2.heap[k]? = w1.heap[k]? := fun k hk => by
        rw [hgr2.block k (by simp; omega) (fun e => by have := (hown1.lt k e.symm).1; omega), Below.heap_alloc _ _ _ (by omega)]
      have hss : w1.heap.size ≤ w2.heap.size := Nat.le_trans (by simp) hgr2.size
      have HK : Hid (Kept B g w w2) := hK1.trans ⟨hgr2.os, hgr2.tape, hgr2.output, hss, fun k hk _ => hkk k hk⟩
      have HC4 : Hid (Cur w2 g ao n cap f) := hC1.kept (B := B) hkk hss hg HC.out
      have HY2 : Hid (∀ i, i < N + 1 → 0 ≤ (l ++ [3]).getD i 0 ∧ (l ++ [3]).getD i 0 ≤ 255) := fun i hi => by
        refine getD_byte ?_ i (by rw [List.length_append, HL.out]; simpa using hi)
        intro y hy
        rcases List.mem_append.1 hy with hy | hy
        · exact HB.out y hy
        · simp at hy; omega
      clear hgr2 hnil hown1 hown2 hO2 hkk hb2 hC1 hK1
      go_wp2
      go_ret
      exact ⟨⟨b2, c2, N + 1, _, ⟨rfl, by omega, hbb, hbc2, HY2.out, hrow2⟩, .inl fun i _ hi => getD_app_left HL.out hi⟩, HC4.out, HK.out⟩
    · by_cases h2 : x = 2
      · subst h2
        clear hown1
        go_wp2_with fail
        refine (l1Below_any g ao n cap f (N : Int) w1 hn (by omega) (by omega) hC1).mono ?_
        rintro e w2 ⟨y, rfl, hy0, hy1, hC2, hO2⟩
        obtain ⟨j, rfl⟩ := Int.eq_ofNat_of_zero_le hy0
        have hr2 := hO2.row hr1 (by omega)
        have HK : Hid (Kept B g w w2) := hK1.trans (Kept.ofBut (But.ofOnly hO2) (by omega))
        have HV : Hid (Row 5 w2 b j (fun i => l.getD i 0)) := by
          obtain ⟨cu, u1, u2, u3⟩ := hr2
          exact ⟨cu, u1, by omega, fun i hi => u3 i (by omega)⟩
        have hjc : (j : Int) ≤ (c : Int) := by omega
        clear hC1 hr1 hr2 hO2 hK1
        go_wp2
        go_ret
        exact ⟨⟨b, c, j, _, ⟨rfl, by omega, hb, by omega, fun i hi => HY.out i (by omega), HV.out⟩, .inl fun _ _ _ => rfl⟩, hC2, HK.out⟩
      · have q0 : (x == 0) = false := by simpa using h0
        have q1 : (x == 1) = false := by simpa using h1
        have q2 : (x == 2) = false := by simpa using h2
        clear hown1
        go_wp2
        go_ret
        exact ⟨⟨b, c, N, _, ⟨rfl, by omega, hb, hbc, HY.out, hr1⟩, .inl fun _ _ _ => rfl⟩, hC1, hK1⟩
end Go.Proofs.Ytaiinlcdfeboiaa

/-
  A drawn node's bytes, bent, are never read as a node that is right by the program's words and has a long key: plainly.
-/
namespace Go.Proofs.Ytaiinlcdfeboiaa
open Go.RowKit
set_option maxRecDepth 4000

/-- Keys that stand there, short ones: their places, their lengths. -/
structure Keys (F : Nat → Int) (N : Nat) (S y : Nat → Nat) : Prop where
  zero : S 0 = 2
  step : ∀ j, j < N → S (j + 1) = S j + 1 + y j
  few : ∀ j, j < N → 1 ≤ y j ∧ y j ≤ 22
  len : ∀ j, j < N → F (S j) = (y j : Int)
  txt : ∀ j, j < N → ∀ z, z < y j → 45 ≤ F (S j + 1 + z) ∧ F (S j + 1 + z) ≤ 127
/-- Keys that are read. -/
structure Rd (F : Nat → Int) (M : Nat) (T x : Nat → Nat) : Prop where
  zero : T 0 = 2
  step : ∀ j, j < M → (x j < 128 ∧ F (T j) = (x j : Int) ∧ T (j + 1) = T j + 1 + x j) ∨ (128 ≤ F (T j) ∧ F (T j + 1) = 1 ∧ T (j + 1) = T j + 2 + x j)
theorem Keys.mono {F : Nat → Int} {N : Nat} {S y : Nat → Nat} (h : Keys F N S y) : ∀ k j, j + k ≤ N → S j + k ≤ S (j + k)
  | 0, j, _ => Nat.le_refl _
  | k + 1, j, hk => by
    have := h.mono k j (by omega)
    have := h.step (j + k) (by omega)
    rw [show j + (k + 1) = j + k + 1 by omega]
    omega
theorem Keys.le {F : Nat → Int} {N : Nat} {S y : Nat → Nat} (h : Keys F N S y) {i j : Nat} (hij : i ≤ j) (hj : j ≤ N) : S i + (j - i) ≤ S j := by
  have := h.mono (j - i) i (by omega)
  rw [show i + (j - i) = j by omega] at this
  exact this
theorem Keys.inj {F : Nat → Int} {N : Nat} {S y : Nat → Nat} (h : Keys F N S y) {i j : Nat} (hi : i ≤ N) (hj : j ≤ N) (e : S i = S j) : i = j := by
  rcases Nat.lt_trichotomy i j with hl | hl | hl
  · have := h.le (Nat.le_of_lt hl) hj; omega
  · exact hl
  · have := h.le (Nat.le_of_lt hl) hi; omega
theorem Rd.mono {F : Nat → Int} {M : Nat} {T x : Nat → Nat} (h : Rd F M T x) : ∀ k j, j + k ≤ M → T j + k ≤ T (j + k)
  | 0, j, _ => Nat.le_refl _
  | k + 1, j, hk => by
    have := h.mono k j (by omega)
    rw [show j + (k + 1) = j + k + 1 by omega]
    rcases h.step (j + k) (by omega) with ⟨-, -, e⟩ | ⟨-, -, e⟩ <;> omega
theorem Rd.le {F : Nat → Int} {M : Nat} {T x : Nat → Nat} (h : Rd F M T x) {i j : Nat} (hij : i ≤ j) (hj : j ≤ M) : T i + (j - i) ≤ T j := by
  have := h.mono (j - i) i (by omega)
  rw [show i + (j - i) = j by omega] at this
  exact this
/-- Where the lengths are as they were the keys are. -/
theorem follow {F F0 : Nat → Int} {N M : Nat} {S y T x : Nat → Nat} (hD : Keys F0 N S y) (hE : Rd F M T x) : ∀ k, k ≤ N → k ≤ M → (∀ i, i < k → S i < T M → F (S i) = (y i : Int)) → T k = S k ∧ ∀ i, i < k → x i = y i
  | 0, _, _, _ => ⟨by rw [hE.zero, hD.zero], fun i hi => absurd hi (Nat.not_lt_zero _)⟩
  | k + 1, h1, h2, h3 => by
    obtain ⟨e, hx⟩ := follow hD hE k (by omega) (by omega) (fun i hi => h3 i (by omega))
    have hlt := hE.le (i := k) (j := M) (by omega) (Nat.le_refl _)
    have hf := h3 k (by omega) (by omega)
    have hy := hD.few k (by omega)
    have hs := hD.step k (by omega)
    rcases hE.step k (by omega) with ⟨-, f1, e1⟩ | ⟨f1, -, -⟩
    · rw [e, hf] at f1
      have hxy : x k = y k := by omega
      refine ⟨by omega, fun i hi => ?_⟩
      by_cases e2 : i < k
      · exact hx i e2
      · obtain rfl : i = k := by omega
        exact hxy
    · rw [e, hf] at f1; omega
/-- A place within the keys is a key's beginning, or inside a key. -/
theorem locate {F : Nat → Int} {N : Nat} {S y : Nat → Nat} (h : Keys F N S y) : ∀ k j t, j + k = N → S j ≤ t → t ≤ S N → ∃ i, j ≤ i ∧ ((i ≤ N ∧ t = S i) ∨ (i < N ∧ S i < t ∧ t < S (i + 1)))
  | 0, j, t, hk, h1, h2 => by
    have : j = N := by omega
    subst this
    exact ⟨j, Nat.le_refl _, .inl ⟨Nat.le_refl _, by omega⟩⟩
  | k + 1, j, t, hk, h1, h2 => by
    by_cases e : t = S j
    · exact ⟨j, Nat.le_refl _, .inl ⟨by omega, e⟩⟩
    · by_cases e2 : t < S (j + 1)
      · exact ⟨j, Nat.le_refl _, .inr ⟨by omega, by omega, e2⟩⟩
      · obtain ⟨i, hi, hh⟩ := locate h k (j + 1) t (by omega) (by omega) h2
        exact ⟨i, by omega, hh⟩
/-- From an unbent key's beginning just as many keys are read as are left. -/
theorem from_start {F F0 : Nat → Int} {N M p : Nat} {S y T x : Nat → Nat} (hD : Keys F0 N S y) (hE : Rd F M T x) (hF : ∀ z, p < z → F z = F0 z) (hend : T M = S N) : ∀ k a j, a + k = M → j ≤ N → T a = S j → p < T a → k = N - j ∧ ∀ l, l < k → x (a + l) = y (j + l)
  | 0, a, j, hk, hj, ht, hp => by
    have : a = M := by omega
    subst this
    have := hD.inj hj (Nat.le_refl _) (by omega)
    exact ⟨by omega, fun l hl => absurd hl (Nat.not_lt_zero _)⟩
  | k + 1, a, j, hk, hj, ht, hp => by
    have hmo := hE.le (i := a) (j := M) (by omega) (Nat.le_refl _)
    by_cases e : j = N
    · subst e; omega
    · have hf := hF (T a) hp
      have hy := hD.few j (by omega)
      have hs := hD.step j (by omega)
      have hl := hD.len j (by omega)
      rw [ht] at hf
      rcases hE.step a (by omega) with ⟨-, f1, e1⟩ | ⟨f1, -, -⟩
      · rw [ht, hf, hl] at f1
        have hxy : x a = y j := by omega
        obtain ⟨h1, h2⟩ := from_start hD hE hF hend k (a + 1) (j + 1) (by omega) (by omega) (by omega) (by omega)
        refine ⟨by omega, fun l hl => ?_⟩
        rcases Nat.eq_zero_or_pos l with rfl | hlp
        · exact hxy
        · have := h2 (l - 1) (by omega)
          rw [show a + 1 + (l - 1) = a + l by omega, show j + 1 + (l - 1) = j + l by omega] at this
          exact this
      · rw [ht, hf, hl] at f1; omega
/-- From inside a key fewer are read than are left behind it. -/
theorem from_inside {F F0 : Nat → Int} {N M p : Nat} {S y T x : Nat → Nat} (hD : Keys F0 N S y) (hE : Rd F M T x) (hF : ∀ z, p < z → F z = F0 z) (hend : T M = S N) : ∀ k a j, a + k = M → j < N → S j < T a → T a < S (j + 1) → p < T a → k + 2 ≤ N - j
  | 0, a, j, hk, hj, h1, h2, hp => by
    have : a = M := by omega
    subst this
    have := hD.le (i := j + 1) (j := N) (by omega) (Nat.le_refl _)
    omega
  | k + 1, a, j, hk, hj, h1, h2, hp => by
    have hs := hD.step j hj
    have hy := hD.few j hj
    have ht := hD.txt j hj (T a - (S j + 1)) (by omega)
    rw [show S j + 1 + (T a - (S j + 1)) = T a by omega, ← hF (T a) hp] at ht
    rcases hE.step a (by omega) with ⟨-, f1, e1⟩ | ⟨f1, -, -⟩
    · have hmo := hE.le (i := a + 1) (j := M) (by omega) (Nat.le_refl _)
      obtain ⟨i, hi, hh⟩ := locate hD N 0 (T (a + 1)) (by omega) (by have := hD.zero; have := hE.zero; have := hE.le (i := 0) (j := a + 1) (by omega) (by omega); omega) (by omega)
      -- behind the next key but one
      have hj1 : j + 1 < N := by
        by_cases e : j + 1 < N
        · exact e
        · have : j + 1 = N := by omega
          rw [this] at hs; omega
      have hs1 := hD.step (j + 1) hj1
      have hy1 := hD.few (j + 1) hj1
      have hbig : S (j + 2) < T (a + 1) := by rw [show j + 2 = j + 1 + 1 by omega]; omega
      rcases hh with ⟨hiN, he⟩ | ⟨hiN, he1, he2⟩
      · have hi3 : j + 3 ≤ i := by
          by_cases e : j + 3 ≤ i
          · exact e
          · have := hD.le (i := i) (j := j + 2) (by omega) (by omega); omega
        have := (from_start hD hE hF hend k (a + 1) i (by omega) hiN he (by omega)).1
        omega
      · have hi2 : j + 2 ≤ i := by
          by_cases e : j + 2 ≤ i
          · exact e
          · have := hD.le (i := i + 1) (j := j + 2) (by omega) (by omega); omega
        have := from_inside hD hE hF hend k (a + 1) i (by omega) hiN he1 he2 (by omega)
        omega
    · omega
/-- A bent length is no length that could be read. -/
theorem bent_len {F F0 : Nat → Int} {N : Nat} {S y T x : Nat → Nat} (hD : Keys F0 N S y) (hE : Rd F N T x) {i : Nat} (hi : i < N) (hF : ∀ z, z ≠ S i → F z = F0 z) (hend : T N = S N) : ∀ j, j < N → x j ≤ 22 := by
  have hF2 : ∀ z, S i < z → F z = F0 z := fun z hz => hF z (by omega)
  obtain ⟨e, hx⟩ := follow hD hE i (by omega) (by omega) (fun l hl _ => by
    rw [hF (S l) (fun e => by have := hD.inj (by omega) (by omega) e; omega)]
    exact hD.len l (by omega))
  have hy := hD.few i hi
  have hs := hD.step i hi
  have hmo := hE.le (i := i + 1) (j := N) (by omega) (Nat.le_refl _)
  rcases hE.step i hi with ⟨-, f1, e1⟩ | ⟨-, f1, -⟩
  · obtain ⟨l, -, hh⟩ := locate hD N 0 (T (i + 1)) (by omega) (by have := hD.zero; have := hE.zero; have := hE.le (i := 0) (j := i + 1) (by omega) (by omega); omega) (by omega)
    rcases hh with ⟨hlN, he⟩ | ⟨hlN, he1, he2⟩
    · obtain ⟨h1, h2⟩ := from_start hD hE hF2 hend (N - (i + 1)) (i + 1) l (by omega) hlN he (by omega)
      have hli : l = i + 1 := by omega
      subst hli
      intro j hj
      rcases Nat.lt_trichotomy j i with hji | rfl | hji
      · rw [hx j hji]; exact (hD.few j (by omega)).2
      · omega
      · have := h2 (j - (i + 1)) (by omega)
        rw [show i + 1 + (j - (i + 1)) = j by omega] at this
        rw [this]; exact (hD.few j hj).2
    · have hil : i ≤ l := by
        by_cases e2 : i ≤ l
        · exact e2
        · have := hD.le (i := l + 1) (j := i) (by omega) (by omega); omega
      have := from_inside hD hE hF2 hend (N - (i + 1)) (i + 1) l (by omega) hlN he1 he2 (by omega)
      omega
  · have ht := hD.txt i hi 0 (by omega)
    rw [Nat.add_zero, ← hF (S i + 1) (by omega), ← e, f1] at ht
    omega
end Go.Proofs.Ytaiinlcdfeboiaa

