/-
  LawPages
-/
import Derived.Test.YtbdfaeeilbfbaaaPkP2
import Derived.Test.YtbdfaeeilbfbaaaPkP6
import Derived.Deep.RegionWith
/-
  The walk over the law FnPages.
-/
namespace Go.Proofs.Ytbdfaeeilbfbaaa
open Go.RowKit
set_option maxRecDepth 4000

theorem getPage_no {ao : Option Addr} {n cap : Nat} {f : Nat → Int} {w : World} (ha : 4 ≤ n → ∃ b, ao = some ⟨b, 0, none⟩) (hv : View w ao n cap f) (hn : n ≤ 1048576) (h : getPg n f = (0, strOfNums [], false)) :
    Calls Try.prog 31 #[.slice ao n cap] w fun e w' => ∃ g c, e = .returned (.tuple #[.int .i64 0, .slice (some ⟨g, 0, none⟩) 0 c, .bool false]) ∧ Below w.heap.size w w' := by
  refine (getPage_impl ao n cap f w ha hv hn).mono ?_
  rw [h]
  rintro e w' ⟨g, c, rfl, -, -, -, hb⟩
  exact ⟨g, c, by rw [str_size]; rfl, hb⟩

set_option maxHeartbeats 4000000 in
theorem lawPages (ao : Option Addr) (n cap : Nat) (f : Nat → Int) (w : World) (hv : View w ao n cap f) (hn63 : n ≤ 9223372036854775807) :
    Calls Try.prog 6 #[.slice ao n cap] w fun e w' => e = .returned (.bool true) ∧ Below w.heap.size w w' := by
  by_cases hbig : 1048576 < n
  · have hd : decide ((1048576 : Int) < (n : Int)) = true := by simp; omega
    go_enter Try.func6, Try.ntmps6
    go_wp2_with fail
    refine (big_any ao n cap w hn63).mono ?_
    rw [hd]
    rintro e _ ⟨rfl, rfl⟩
    go_wp2
    go_ret
    exact ⟨rfl, Below.refl _ _⟩
  have hd : decide ((1048576 : Int) < (n : Int)) = false := by simp; omega
  have hn : n ≤ 1048576 := by omega
  clear hbig
  go_enter Try.func6, Try.ntmps6
  go_wp2_with fail
  refine (big_any ao n cap w hn63).mono ?_
  rw [hd]
  rintro e _ ⟨rfl, rfl⟩
  clear hd
  go_wp2_with fail
  refine (drawPutPage_any ao n cap f w hn hv).mono ?_
  rintro e w1 ⟨k, b, c, m, F, rfl, hP⟩
  obtain ⟨hk0, hk1, hnew, hle, hfew, hbyte, hrow, hb1⟩ := hP
  have hlb := hrow.lt
  go_wp2_with fail
  refine (putPage_impl b 0 m c F k w1 (hrow.view hle hbyte) (by omega) (by omega) (by omega)).mono ?_
  rintro e w2 ⟨g, cg, rfl, hg, hgc, hpr, hb2⟩
  have hrow2 := hrow.belowAll hb2
  have HBY : Hid (∀ i, i < m → 0 ≤ F i ∧ F i ≤ 255) := hbyte
  have hss : (strOfNums (lof m F)).size = m := by rw [str_size, lof_len]
  have HSL : Hid (sl (strOfNums (lof m F)) = lof m F) := sl_strOfNums (lof_byteS hbyte)
  have hs1 := hb1.size
  replace hb2 := hb1.trans (hb2.mono hb1.size)
  clear hrow hbyte hb1
  obtain ⟨s, hs⟩ : ∃ s, Hid (strOfNums (lof m F) = s) := ⟨_, rfl⟩
  rw [hs.out] at hpr hgc hss HSL ⊢
  by_cases hkk : k = 1 ∨ k = 2
  case neg =>
    have hF : Hid (pageF k s = []) := by show _ = _; unfold pageF; rw [if_neg (fun h => hkk h.1)]
    rw [hF.out]
    clear hpr hgc
    have hk3 : k = 0 ∨ k = 3 := by omega
    rcases hk3 with rfl | rfl
    · go_wp2
      go_ret
      exact ⟨rfl, hb2⟩
    · go_wp2
      go_ret
      exact ⟨rfl, hb2⟩
  have hk1' : ¬ k < 1 := by omega
  have hk2' : ¬ 2 < k := by omega
  by_cases hm : m ≤ 240
  case neg =>
    have hF : Hid (pageF k s = []) := by show _ = _; unfold pageF; rw [if_neg (fun h => hm (by have := h.2; omega))]
    have hmz : (240 : Int) < (m : Int) := by omega
    rw [hF.out]
    clear hpr hgc
    go_wp2
    go_ret
    exact ⟨rfl, hb2⟩
  have hmz : ¬ (240 : Int) < (m : Int) := by omega
  have hpF : pageF k s = pageL k s := by unfold pageF; rw [if_pos ⟨hkk, by omega⟩]
  rw [hpF] at hpr hgc ⊢
  have hlen := pageL_len k s
  rw [innL_len] at hlen
  have h1 := groups_len k
  have h2 := groups_len s.size
  have HPB : Hid (∀ i, i < (pageL k s).length → 0 ≤ (pageL k s).getD i 0 ∧ (pageL k s).getD i 0 ≤ 255) := bytes_of_list (pageL_byte hkk (by omega))
  have HPUT : Hid (getPg (pageL k s).length (fun i => (pageL k s).getD i 0) = (k, s, true)) := getPg_put hkk (by omega) (fun i _ => rfl)
  have HCUT : Hid (∀ j, j < (pageL k s).length → getPg j (fun i => (pageL k s).getD i 0) = (0, strOfNums [], false)) := fun j hj => page_cut hkk (by omega) (fun i _ => rfl) hj
  have HTURN : Hid (∀ j v, j < (pageL k s).length → (0 ≤ v ∧ v ≤ 255) → v ≠ (pageL k s).getD j 0 → getPg (pageL k s).length (fun i => if i = j then v else (pageL k s).getD i 0) = (0, strOfNums [], false)) := fun j v hj hv hne => page_turned hkk (by omega) (fun i _ => rfl) hj hv hne
  obtain ⟨P, hP⟩ : ∃ P : Nat → Int, Hid ((fun i => (pageL k s).getD i 0) = P) := ⟨_, rfl⟩
  have hPi : ∀ i, (pageL k s).getD i 0 = P i := fun i => by rw [← hP.out]
  simp only [hPi] at HPB HPUT HCUT HTURN hpr
  obtain ⟨N, hN⟩ : ∃ N, Hid ((pageL k s).length = N) := ⟨_, rfl⟩
  rw [hN.out] at HPB HPUT HCUT HTURN hpr hgc hlen ⊢
  have hN0 : 6 ≤ N := by omega
  have hN1 : N ≤ 250 := by omega
  clear hpF hP hPi hN hlen h1 h2
  have hlg := hpr.lt
  have hG := getPage_impl (some ⟨g, 0, none⟩) N cg P w2 (fun _ => ⟨g, rfl⟩) (hpr.view hgc HPB.out) (by omega)
  rw [HPUT.out] at hG
  unfold PgTo at hG
  dsimp only at hG
  go_wp2_with fail
  refine hG.mono ?_
  rintro e w3 ⟨gx, cx, rfl, hgx, hcx, hrx, hb3⟩
  clear hG
  have hp3 := hpr.belowAll hb3
  have hr3 := hrow2.belowAll hb3
  have hs2 := hb2.size
  have hlx := hrx.lt
  replace hb3 := hb2.trans (hb3.mono hb2.size)
  clear hpr hrow2 hb2
  have hNz : ¬ (N : Int) = 0 := by omega
  have hNz' : ((N : Int) == 0) = false := beq_eq_false_iff_ne.2 hNz
  have hNz2 : ¬ (256 : Int) < (N : Int) := by omega
  obtain ⟨x2, hx2⟩ : ∃ x, Hid (atN n f 2 = x) := ⟨_, rfl⟩
  obtain ⟨x3, hx3⟩ : ∃ x, Hid (atN n f 3 = x) := ⟨_, rfl⟩
  obtain ⟨x4, hx4⟩ : ∃ x, Hid (atN n f 4 = x) := ⟨_, rfl⟩
  have hx2b : x2 ≤ 255 := by rw [← hx2.out]; exact atN_le n f 2 hv.byte
  have hx3b : x3 ≤ 255 := by rw [← hx3.out]; exact atN_le n f 3 hv.byte
  have hx4b : x4 ≤ 255 := by rw [← hx4.out]; exact atN_le n f 4 hv.byte
  obtain ⟨j2, hj2, hjm2⟩ : ∃ j : Nat, j < N ∧ (x2 : Int) % (N : Int) = (j : Int) := ⟨x2 % N, Nat.mod_lt _ (by omega), by push_cast; rfl⟩
  have hjz2 : (j2 : Int) ≤ (cg : Int) := by omega
  have hV3 : Hid (View w3 ao n cap f) := hv.below hb3
  go_wp2_with fail
  refine (at_val ao n cap f 2 _ x2 w3 hx2 hV3.out hn (by omega) rfl).mono ?_
  rintro e _ ⟨rfl, rfl⟩
  have hG := getPage_no (fun _ => ⟨g, rfl⟩) ((hp3.view hgc HPB.out).take (Nat.le_of_lt hj2)) (by omega) (HCUT.out j2 hj2)
  go_wp2_with fail
  refine hG.mono ?_
  rintro e w4 ⟨gy, cy, rfl, hb4⟩
  clear hG
  have hp4 := hp3.belowAll hb4
  have hr4 := hr3.belowAll hb4
  have hx5 := hrx.belowAll hb4
  have hs3 := hb3.size
  replace hb4 := hb3.trans (hb4.mono hb3.size)
  clear hp3 hr3 hrx hb3 hV3 hjm2 hx2 hx2b hjz2
  obtain ⟨j, hj, hjm⟩ : ∃ j : Nat, j < N ∧ (x3 : Int) % (N : Int) = (j : Int) := ⟨x3 % N, Nat.mod_lt _ (by omega), by push_cast; rfl⟩
  have hjz : (j : Int) < (N : Int) := by omega
  have hV4 : View w4.drew ao n cap f := (hv.below hb4).drew
  have hcj : w4.drew.cell? ⟨g, j, none⟩ = some (.int .u8 (P j)) := hp4.cell hj
  have hfj : w4.drew.frozen? ⟨g, j, none⟩ = false := hp4.frozen _
  have hcj' : w4.cell? ⟨g, j, none⟩ = some (.int .u8 (P j)) := hp4.cell hj
  have hfj' : w4.frozen? ⟨g, j, none⟩ = false := hp4.frozen _
  go_wp2_with fail
  go_region_with (first | (go_at_call_of 32 (Value.int IntKind.i64 3); refine (at_val ao n cap f 3 _ x3 _ hx3 ?_ hn (by omega) rfl).mono ?_; exact hV4; rintro e _ ⟨rfl, rfl⟩) | (go_at_call_of 32 (Value.int IntKind.i64 4); refine (at_val ao n cap f 4 _ x4 _ hx4 ?_ hn (by omega) rfl).mono ?_; exact hV4; rintro e _ ⟨rfl, rfl⟩))
  all_goals
    clear hjm hcj hfj hcj' hfj' hx3 hx3b hx4 hV4
    go_wp2_with fail
    have hbit := bit_turned (P j) (x4 % 8) (HPB.out j hj) (Nat.mod_lt _ (by decide))
    rw [small_pow x4]
    generalize bits .xor .u8 (P j) (2 ^ (x4 % 8)) = v at *
    have hr5 : Row 5 (w4.setCell ⟨g, j, none⟩ (.int .u8 v)).drew g N (fun i => if i = j then v else P i) := hp4.set j v
    have hO5 : Only g w4 (w4.setCell ⟨g, j, none⟩ (.int .u8 v)).drew := ((Only.refl _ _).setCell _).drew
    have hx6 := hO5.rowZ hx5 (by omega)
    have hw6 := hO5.row hr4 (by omega)
    have hb5 : Below w.heap.size w (w4.setCell ⟨g, j, none⟩ (.int .u8 v)).drew := hb4.trans (hO5.below (by omega))
    have HF : Hid (∀ i, i < N → 0 ≤ (if i = j then v else P i) ∧ (if i = j then v else P i) ≤ 255) := by
      intro i hi
      by_cases e : i = j
      · rw [if_pos e]; exact hbit.1
      · rw [if_neg e]; exact HPB.out i hi
    have hG := getPage_no (fun _ => ⟨g, rfl⟩) (hr5.view hgc HF.out) (by omega) (HTURN.out j v hj hbit.1 hbit.2)
    clear hp4 hr4 hO5 hx5 hb4 hbit hr5 HF
    refine hG.mono ?_
    clear hG
    generalize (w4.setCell ⟨g, j, none⟩ (.int .u8 v)).drew = w5 at *
    rintro e w6 ⟨gz, cz, rfl, hb6⟩
    have hx7 := hx6.belowAll hb6
    have hw7 := hw6.belowAll hb6
    replace hb6 := hb5.trans (hb6.mono hb5.size)
    clear hx6 hw6 hb5
    have hkq : (k == k) = true := beq_self_eq_true _
    have HXB : Hid (∀ i, i < m → 0 ≤ (sl s).getD i 0 ∧ (sl s).getD i 0 ≤ 255) := by
      have := bytes_of_list (sl_byte s)
      rw [sl_len, hss] at this
      exact this
    rw [hss] at hx7 hcx
    have hS := sameBytes_any (some ⟨gx, 0, none⟩) (some ⟨b, 0, none⟩) m m cx c (fun i => (sl s).getD i 0) F w6 (hx7.view hcx HXB.out) (hw7.view hle HBY.out) (by omega) (by omega)
    have hdd : decide (lof m (fun i => (sl s).getD i 0) = lof m F) = true := by
      rw [decide_eq_true_eq, HSL.out, lof_eq]
      intro i hi
      exact lof_get m F i hi
    rw [hdd] at hS
    go_wp2_with fail
    refine hS.mono ?_
    rintro e w7 ⟨rfl, hb7⟩
    replace hb7 := hb6.trans (hb7.mono hb6.size)
    clear hS hb6 hx7 hw7
    go_wp2
    go_ret
    exact ⟨rfl, hb7⟩
end Go.Proofs.Ytbdfaeeilbfbaaa

