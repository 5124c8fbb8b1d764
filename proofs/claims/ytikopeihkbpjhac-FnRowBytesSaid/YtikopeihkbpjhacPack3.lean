/-
  Together: PutVarSpec, GetVarSpec, PartBox, PartSpec, DrawL5, PView, PartRow, DrawPlan, VView, ValRow, ValGrow, DrawVals6, DrawNew, DrawView6
-/
import Derived.Test.YtikopeihkbpjhacPack2
import Derived.Test.YtikopeihkbpjhacPack1
import Derived.Deep.LoopGhost
import Derived.Deep.RegionHeld3
/-
  The model's l4Bytes and PutVar: what was there, and behind it the number's bytes, in memory of its own.
-/
namespace Go.Proofs.Ytikopeihkbpjhac
open Go.RowKit
set_option maxRecDepth 4000

theorem be_step (k : Nat) (n : Int) : lof (1 + k) (be (1 + k) n) = (n / 256 ^ k % 256) :: lof k (be k n) := by
  rw [lof_cons]
  unfold be dg
  rw [show 1 + k - 1 - 0 = k by omega]
  congr 2
  funext i
  rw [show 1 + k - 1 - (i + 1) = k - 1 - i by omega]

/-- k bytes of the number stand. -/
structure Bytes (t : TypeId) (w wr : World) (s : Int) (k g c : Nat) : Prop where
  low : 0 < k → 256 ^ (k - 1) ≤ s
  le : k ≤ c
  new : w.heap.size ≤ g
  row : Row t wr g k (be k s)
  below : Below w.heap.size w wr
theorem Bytes.view {t : TypeId} {w wr : World} {s : Int} {k g c : Nat} (h : Bytes t w wr s k g c) : View wr (some ⟨g, 0, none⟩) k c (be k s) := h.row.view h.le (fun i _ => be_bd _ _ i)

set_option maxHeartbeats 1000000 in
theorem l4Bytes_of (s : Int) (w : World) (hs0 : 0 ≤ s) (hs1 : s < 72057594037927936) :
    Calls Try.prog 144 #[.int .i64 s] w fun e w' => ∃ g c, e = .returned (.slice (some ⟨g, 0, none⟩) (cnt s) c) ∧ View w' (some ⟨g, 0, none⟩) (cnt s) c (be (cnt s) s) ∧ Below w.heap.size w w' := by
  obtain ⟨i0, hi, hz0, hz1, hz2⟩ := info_parts Try.info5
  have hB0 : Hid (Bytes 5 w (w.alloc (.cells #[] 5)) s 0 w.heap.size 0) :=
    ⟨fun h => absurd h (Nat.lt_irrefl _), Nat.le_refl _, Nat.le_refl _, Row.ofIs (World.rowIs_alloc w #[] 5 _ (fun j hj => absurd hj (Nat.not_lt_zero _))), (Below.refl _ _).alloc (Nat.le_refl _) _⟩
  go_enter Try.func144, Try.ntmps144
  go_wp2
  go_loopg [0, 3] (s.toNat + 1) (fun q a v wr => ∃ k g c : Nat, k ≤ 7 ∧ q = (s / 256 ^ k).toNat + 1 ∧ a = .int .i64 (s / 256 ^ k) ∧ v = .slice (some ⟨g, 0, none⟩) k c ∧ Bytes 5 w wr s k g c)
  case atStart => exact ⟨0, w.heap.size, 0, by omega, by simp, by simp, rfl, hB0.out⟩
  case round =>
    obtain ⟨k, g, c, hk, rfl, rfl, rfl, hB⟩ := hrel
    clear hB0
    have ha0 : 0 ≤ s / 256 ^ k := Int.ediv_nonneg hs0 (Int.le_of_lt (Int.pow_pos (by decide)))
    have ha1 : s / 256 ^ k ≤ s := Int.ediv_le_self _ hs0
    by_cases h0 : s / 256 ^ k = 0
    · have hlt : s < 256 ^ k := by
        have := Int.lt_mul_ediv_self_add (x := s) (k := 256 ^ k) (Int.pow_pos (by decide))
        rw [h0] at this
        simpa using this
      have hc : Hid (cnt s = k) := cnt_is s k hk hlt hB.low
      have hV := hB.view
      have hb := hB.below
      clear hB hlt ha0 ha1
      go_wp2
      go_ret
      exact ⟨g, c, by rw [hc.out]; rfl, by rw [hc.out]; exact hV, hb⟩
    · have hge : 256 ^ k ≤ s := by
        by_cases hh : 256 ^ k ≤ s
        · exact hh
        · exact absurd (Int.ediv_eq_zero_of_lt hs0 (by omega)) h0
      have hk6 : k < 7 := by
        by_cases hh : k < 7
        · exact hh
        · have := pow_mono (a := 7) (b := k) (by omega)
          have e : (256 : Int) ^ 7 = 72057594037927936 := by decide
          omega
      have HN : Hid (s / 256 ^ k / 256 = s / 256 ^ (1 + k)) := by show _ = _; rw [div_pow_succ, Nat.add_comm]
      have HL : Hid (lof (1 + k) (be (1 + k) s) = (s / 256 ^ k % 256) :: lof k (be k s)) := be_step k s
      have HG : Hid (256 ^ k ≤ s) := hge
      have hpos : 0 < s / 256 ^ k := by omega
      have hnew := hB.new
      have hb := hB.below
      have hsz := hb.size
      have hV : ∀ o, View (wr.alloc o) (some ⟨g, 0, none⟩) k c (be k s) := fun o => hB.view.below ((Below.refl _ _).alloc (Nat.le_refl _) _)
      clear hB h0 hge
      generalize s / 256 ^ k = a at *
      have hown0 := World.ownsRow_lit (base := w.heap.size) (e := 5) (size := 1) wr #[.int .u8 (a % 256)] 1 (by omega) (by unfold maxLen; omega) rfl
      have hcl := cells_of_view (hV (.cells #[.int .u8 (a % 256)] 5))
      go_wp2_with (at_builtin; go_must (refine wpList_append_own _ rfl (.tmp 9) (.tmp 10) 22 rfl w.heap.size 5 i0 (.int .u8 0) 1 1 Try.underlying22 hi hz0 hz1 hz2 rfl (by decide) (.slice (some ⟨wr.heap.size, 0, none⟩) 1 1) 1 [.int .u8 (a % 256)] rfl hown0 ⟨g, 0, none⟩ k c (bl (lof k (be k s))) rfl (by rw [bl_len, lof_len]; omega) hcl (bl_one _) (by unfold maxLen; omega) (by omega) (by simp; omega) ?_); intro v1 w1 hown1 hgr1 hnil)
      have hO : w1.ownsRow w.heap.size 5 1 v1 (1 + k) (bl ((a % 256) :: lof k (be k s))) := hown1
      obtain ⟨g1, c1, rfl, hg1, hc1, hr1⟩ := row_of_own hO (by omega)
      have hB1 : Hid (Bytes 5 w w1 s (1 + k) g1 c1) := by
        refine ⟨fun _ => by rw [Nat.add_sub_cancel_left]; exact HG.out, hc1, hg1, hr1.congr (fun i hi => ?_), ?_⟩
        · rw [← HL.out, lof_get (1 + k) _ i hi]
        · exact (hb.alloc hsz _).grown hgr1 (by simp; omega) (fun j hj => by simp only [Value.ownBlock, Option.some.injEq] at hj; omega)
      clear hown1 hO hgr1 hnil hr1 hown0 hcl hV hb
      go_wp2
      go_roundg ((a / 256).toNat + 1)
      case measure => omega
      case rel => exact ⟨1 + k, g1, c1, by omega, by rw [HN.out], by rw [HN.out], rfl, hB1.out⟩
theorem keptL_up (y : Int) (h : 0 ≤ y) : keptL y = (128 + (cnt y : Int)) :: lof (cnt y) (be (cnt y) y) := by
  have e : sizeV y = y := by unfold sizeV; rw [if_neg (by omega)]
  unfold keptL headV
  rw [e, if_neg (by omega)]
  congr 1
  unfold lof
  apply List.map_congr_left
  intro i _
  unfold tailV
  rw [e, if_neg (by omega)]
theorem keptL_down (y : Int) (h : y < 0) : keptL y = (127 - (cnt (-1 - y) : Int)) :: lof (cnt (-1 - y)) (flipF (be (cnt (-1 - y)) (-1 - y)) 0) := by
  have e : sizeV y = -1 - y := by unfold sizeV; rw [if_pos h]
  unfold keptL headV
  rw [e, if_pos h]
  congr 1
  unfold lof
  apply List.map_congr_left
  intro i _
  unfold tailV flipF
  rw [e, if_pos h, if_pos (by omega)]

theorem l4Bytes_any (s : Int) (k : Nat) (w : World) (hs0 : 0 ≤ s) (hs1 : s < 72057594037927936) (hk : cnt s = k) :
    Calls Try.prog 144 #[.int .i64 s] w fun e w' => ∃ g c, e = .returned (.slice (some ⟨g, 0, none⟩) k c) ∧ View w' (some ⟨g, 0, none⟩) k c (be k s) ∧ Below w.heap.size w w' := by
  subst hk
  exact l4Bytes_of s w hs0 hs1
theorem Below.grownAll {w w' : World} (h : Below w.heap.size w w') : w.grownBy w' none := ⟨h.os, h.tape, h.output, h.size, fun k hk _ => h.block k hk⟩

theorem own_below {w w' : World} {base : Nat} {t : TypeId} {v : Value} {n : Nat} {l : List Value} (h : w.ownsRow base t 1 v n l) (hb : Below w.heap.size w w') : w'.ownsRow base t 1 v n l := by
  refine h.kept (Below.grownAll hb) ?_
  cases hv : v.ownBlock with
  | none => exact Or.inl rfl
  | some k => exact Or.inr (fun e => by cases e)
theorem var_done {w w' : World} {B : Nat} {t : TypeId} {v : Value} {n k : Nat} {f F : Nat → Int} (z : Int) (h : w'.ownsRow B t 1 v (n + 1 + k) (bl (lof n f) ++ [.int .u8 z] ++ bl (lof k F))) (hs : w.heap.size ≤ B) :
    w'.ownsRow w.heap.size t 1 v (n + (z :: lof k F).length) (bl (lof n f ++ z :: lof k F)) := by
  have e1 : n + (z :: lof k F).length = n + 1 + k := by rw [List.length_cons, lof_len]; omega
  have e2 : bl (lof n f ++ z :: lof k F) = bl (lof n f) ++ [.int .u8 z] ++ bl (lof k F) := by
    rw [bl_append, List.append_assoc]
    rfl
  rw [e1, e2]
  obtain ⟨h1, h2⟩ := h
  refine ⟨h1, ?_⟩
  rcases h2 with h2 | ⟨g, cap, cur, rfl, hB, r⟩
  · exact Or.inl h2
  · exact Or.inr ⟨g, cap, cur, rfl, Nat.le_trans hs hB, r⟩

set_option maxHeartbeats 1000000 in
theorem putVar_own (b off n cap : Nat) (f : Nat → Int) (x : Int) (w : World) (hv : View w (some ⟨b, off, none⟩) n cap f) (hn : n ≤ 70368744170000) (hx0 : -9223372036854775808 ≤ x) (hx1 : x ≤ 9223372036854775807) :
    Calls Try.prog 126 #[.slice (some ⟨b, off, none⟩) n cap, .int .i64 x] w fun e w' => ∃ v, e = .returned v ∧ w'.ownsRow w.heap.size 5 1 v (n + (varL x).length) (bl (lof n f ++ varL x)) ∧ Below w.heap.size w w' := by
  obtain ⟨i0, hi, hz0, hz1, hz2⟩ := info_parts Try.info5
  have hcase : (1000000000000000 < x ∧ clampV x = 1000000000000000) ∨ (x < -1000000000000000 ∧ clampV x = -1000000000000000) ∨ (0 ≤ x ∧ x ≤ 1000000000000000 ∧ clampV x = x) ∨ (-1000000000000000 ≤ x ∧ x < 0 ∧ clampV x = x) := by
    unfold clampV; (repeat' split) <;> omega
  unfold varL
  rcases hcase with ⟨h1, hy⟩ | ⟨h1, hy⟩ | ⟨h1, h2, hy⟩ | ⟨h1, h2, hy⟩
  all_goals
    rw [hy]
    clear hy
  ·
    obtain ⟨k, hk⟩ : ∃ k, Hid (cnt (1000000000000000) = k) := ⟨_, rfl⟩
    have hk7 : k ≤ 7 := by rw [← hk.out]; exact cnt_le _
    have HK : Hid (keptL (1000000000000000) = (128 + (k : Int)) :: lof k (be k (1000000000000000))) := by
      have h := keptL_up (1000000000000000) (by omega)
      have e : cnt (1000000000000000) = k := hk.out
      rw [e] at h
      exact h
    go_enter Try.func126, Try.ntmps126
    go_wp2_with fail
    refine (l4Bytes_any (1000000000000000) k w (by omega) (by omega) hk.out).mono ?_
    rintro e w0 ⟨g, c, rfl, hV, hb⟩
    have hsz := hb.size
    have hown0 := World.ownsRow_lit (base := w0.heap.size) (e := 5) (size := 1) w0 #[] 0 (Nat.le_refl _) (Nat.zero_le _) rfl
    have hcl := cells_of_view ((hv.below hb).below ((Below.refl w0.heap.size w0).alloc (Nat.le_refl _) (.cells #[] 5)))
    go_wp2_with (first | (at_builtin; refine wpList_append_own _ rfl (.tmp 15) (.tmp 16) 22 rfl w0.heap.size 5 i0 (.int .u8 0) 1 1 Try.underlying22 hi hz0 hz1 hz2 rfl (by decide) (.slice (some ⟨w0.heap.size, 0, none⟩) 0 0) 0 [] rfl hown0 ⟨b, off, none⟩ n cap (bl (lof n f)) rfl (by rw [bl_len, lof_len]; omega) hcl (bl_one _) (by unfold maxLen; omega) (by omega) (by simp) ?_; intro v1 w1 hown1 hgr1 hnil1; simp only [Nat.zero_add, List.nil_append] at hown1; have hb1 : Below w0.heap.size w0 w1 := ((Below.refl _ _).alloc (Nat.le_refl _) _).grown hgr1 (by simp) (fun k hk => by simp only [Value.ownBlock, Option.some.injEq] at hk; omega); have hs1 := hb1.size; clear hown0 hcl hgr1 hnil1) | (at_builtin; refine wpList_append_own _ rfl (.tmp 17) (.tmp 22) 22 rfl w0.heap.size 5 i0 (.int .u8 0) 1 1 Try.underlying22 hi hz0 hz1 hz2 rfl (by decide) v1 _ _ rfl (hown1.alloc _) ⟨w1.heap.size, 0, none⟩ 1 1 [.int .u8 (128 + (k : Int))] rfl rfl (cellNew _ _ _) (bl_one [128 + (k : Int)]) (by unfold maxLen; omega) (by omega) (by simp; omega) ?_; intro v2 w2 hown2 hgr2 hnil2; have hb2 : Below w0.heap.size w0 w2 := (hb1.alloc hs1 _).grown hgr2 (by simp; omega) (fun k hk => (hown1.lt k hk).1); have hV2 := hV.below hb2; have hs2 := hb2.size; clear hgr2 hnil2 hb1 hown1) | (at_builtin; refine wpList_append_own _ rfl (.tmp 23) (.tmp 24) 22 rfl w0.heap.size 5 i0 (.int .u8 0) 1 1 Try.underlying22 hi hz0 hz1 hz2 rfl (by decide) v2 _ _ rfl hown2 ⟨g, 0, none⟩ k c (bl (lof k (be k (1000000000000000)))) rfl (by rw [bl_len, lof_len]; omega) (cells_of_view hV2) (bl_one _) (by unfold maxLen; omega) (by omega) (by omega) ?_; intro v4 w4 hown4 hgr4 hnil4; have hb4 : Below w0.heap.size w0 w4 := hb2.grown hgr4 hs2 (fun k hk => (hown2.lt k hk).1)))
    go_ret
    refine ⟨v4, rfl, ?_, hb.trans (hb4.mono hsz)⟩
    rw [HK.out]
    exact var_done _ hown4 hsz
  ·
    obtain ⟨k, hk⟩ : ∃ k, Hid (cnt (999999999999999) = k) := ⟨_, rfl⟩
    have hk7 : k ≤ 7 := by rw [← hk.out]; exact cnt_le _
    have HK : Hid (keptL (-1000000000000000) = (127 - (k : Int)) :: lof k (flipF (be k (999999999999999)) 0)) := by
      have h := keptL_down (-1000000000000000) (by omega)
      have e : cnt (-1 - (-1000000000000000)) = k := hk.out
      rw [e] at h
      exact h
    go_enter Try.func126, Try.ntmps126
    go_wp2_with fail
    refine (l4Bytes_any (999999999999999) k w (by omega) (by omega) hk.out).mono ?_
    rintro e w0 ⟨g, c, rfl, hV, hb⟩
    have hsz := hb.size
    have hown0 := World.ownsRow_lit (base := w0.heap.size) (e := 5) (size := 1) w0 #[] 0 (Nat.le_refl _) (Nat.zero_le _) rfl
    have hcl := cells_of_view ((hv.below hb).below ((Below.refl w0.heap.size w0).alloc (Nat.le_refl _) (.cells #[] 5)))
    go_wp2_with (first | (at_builtin; refine wpList_append_own _ rfl (.tmp 29) (.tmp 30) 22 rfl w0.heap.size 5 i0 (.int .u8 0) 1 1 Try.underlying22 hi hz0 hz1 hz2 rfl (by decide) (.slice (some ⟨w0.heap.size, 0, none⟩) 0 0) 0 [] rfl hown0 ⟨b, off, none⟩ n cap (bl (lof n f)) rfl (by rw [bl_len, lof_len]; omega) hcl (bl_one _) (by unfold maxLen; omega) (by omega) (by simp) ?_; intro v1 w1 hown1 hgr1 hnil1; simp only [Nat.zero_add, List.nil_append] at hown1; have hb1 : Below w0.heap.size w0 w1 := ((Below.refl _ _).alloc (Nat.le_refl _) _).grown hgr1 (by simp) (fun k hk => by simp only [Value.ownBlock, Option.some.injEq] at hk; omega); have hs1 := hb1.size; clear hown0 hcl hgr1 hnil1) | (at_builtin; refine wpList_append_own _ rfl (.tmp 31) (.tmp 36) 22 rfl w0.heap.size 5 i0 (.int .u8 0) 1 1 Try.underlying22 hi hz0 hz1 hz2 rfl (by decide) v1 _ _ rfl (hown1.alloc _) ⟨w1.heap.size, 0, none⟩ 1 1 [.int .u8 (127 - (k : Int))] rfl rfl (cellNew _ _ _) (bl_one [127 - (k : Int)]) (by unfold maxLen; omega) (by omega) (by simp; omega) ?_; intro v2 w2 hown2 hgr2 hnil2; have hb2 : Below w0.heap.size w0 w2 := (hb1.alloc hs1 _).grown hgr2 (by simp; omega) (fun k hk => (hown1.lt k hk).1); have hV2 := hV.below hb2; have hs2 := hb2.size; clear hgr2 hnil2 hb1 hown1))
    refine (flip_spec g 0 k c (be k (999999999999999)) 0 w2 hV2 (by omega)).mono ?_
    rintro e w3 ⟨g2, c2, rfl, hg2, hc2, hr3, hb3⟩
    have hown3 := own_below hown2 hb3
    have hV3 := hr3.view hc2 (flipF_byte 0 (fun i _ => be_bd _ _ i))
    replace hb3 := hb2.trans (hb3.mono hs2)
    have hs3 := hb3.size
    clear hown2 hb2 hV2 hr3
    go_wp2_with (at_builtin; refine wpList_append_own _ rfl (.tmp 37) (.tmp 39) 22 rfl w0.heap.size 5 i0 (.int .u8 0) 1 1 Try.underlying22 hi hz0 hz1 hz2 rfl (by decide) v2 _ _ rfl hown3 ⟨g2, 0, none⟩ k c2 (bl (lof k (flipF (be k (999999999999999)) 0))) rfl (by rw [bl_len, lof_len]; omega) (cells_of_view hV3) (bl_one _) (by unfold maxLen; omega) (by omega) (by omega) ?_; intro v4 w4 hown4 hgr4 hnil4; have hb4 : Below w0.heap.size w0 w4 := hb3.grown hgr4 hs3 (fun k hk => (hown3.lt k hk).1))
    go_ret
    refine ⟨v4, rfl, ?_, hb.trans (hb4.mono hsz)⟩
    rw [HK.out]
    exact var_done _ hown4 hsz
  ·
    obtain ⟨k, hk⟩ : ∃ k, Hid (cnt (x) = k) := ⟨_, rfl⟩
    have hk7 : k ≤ 7 := by rw [← hk.out]; exact cnt_le _
    have HK : Hid (keptL (x) = (128 + (k : Int)) :: lof k (be k (x))) := by
      have h := keptL_up (x) (by omega)
      have e : cnt (x) = k := hk.out
      rw [e] at h
      exact h
    go_enter Try.func126, Try.ntmps126
    go_wp2_with fail
    refine (l4Bytes_any (x) k w (by omega) (by omega) hk.out).mono ?_
    rintro e w0 ⟨g, c, rfl, hV, hb⟩
    have hsz := hb.size
    have hown0 := World.ownsRow_lit (base := w0.heap.size) (e := 5) (size := 1) w0 #[] 0 (Nat.le_refl _) (Nat.zero_le _) rfl
    have hcl := cells_of_view ((hv.below hb).below ((Below.refl w0.heap.size w0).alloc (Nat.le_refl _) (.cells #[] 5)))
    go_wp2_with (first | (at_builtin; refine wpList_append_own _ rfl (.tmp 15) (.tmp 16) 22 rfl w0.heap.size 5 i0 (.int .u8 0) 1 1 Try.underlying22 hi hz0 hz1 hz2 rfl (by decide) (.slice (some ⟨w0.heap.size, 0, none⟩) 0 0) 0 [] rfl hown0 ⟨b, off, none⟩ n cap (bl (lof n f)) rfl (by rw [bl_len, lof_len]; omega) hcl (bl_one _) (by unfold maxLen; omega) (by omega) (by simp) ?_; intro v1 w1 hown1 hgr1 hnil1; simp only [Nat.zero_add, List.nil_append] at hown1; have hb1 : Below w0.heap.size w0 w1 := ((Below.refl _ _).alloc (Nat.le_refl _) _).grown hgr1 (by simp) (fun k hk => by simp only [Value.ownBlock, Option.some.injEq] at hk; omega); have hs1 := hb1.size; clear hown0 hcl hgr1 hnil1) | (at_builtin; refine wpList_append_own _ rfl (.tmp 17) (.tmp 22) 22 rfl w0.heap.size 5 i0 (.int .u8 0) 1 1 Try.underlying22 hi hz0 hz1 hz2 rfl (by decide) v1 _ _ rfl (hown1.alloc _) ⟨w1.heap.size, 0, none⟩ 1 1 [.int .u8 (128 + (k : Int))] rfl rfl (cellNew _ _ _) (bl_one [128 + (k : Int)]) (by unfold maxLen; omega) (by omega) (by simp; omega) ?_; intro v2 w2 hown2 hgr2 hnil2; have hb2 : Below w0.heap.size w0 w2 := (hb1.alloc hs1 _).grown hgr2 (by simp; omega) (fun k hk => (hown1.lt k hk).1); have hV2 := hV.below hb2; have hs2 := hb2.size; clear hgr2 hnil2 hb1 hown1) | (at_builtin; refine wpList_append_own _ rfl (.tmp 23) (.tmp 24) 22 rfl w0.heap.size 5 i0 (.int .u8 0) 1 1 Try.underlying22 hi hz0 hz1 hz2 rfl (by decide) v2 _ _ rfl hown2 ⟨g, 0, none⟩ k c (bl (lof k (be k (x)))) rfl (by rw [bl_len, lof_len]; omega) (cells_of_view hV2) (bl_one _) (by unfold maxLen; omega) (by omega) (by omega) ?_; intro v4 w4 hown4 hgr4 hnil4; have hb4 : Below w0.heap.size w0 w4 := hb2.grown hgr4 hs2 (fun k hk => (hown2.lt k hk).1)))
    go_ret
    refine ⟨v4, rfl, ?_, hb.trans (hb4.mono hsz)⟩
    rw [HK.out]
    exact var_done _ hown4 hsz
  ·
    obtain ⟨k, hk⟩ : ∃ k, Hid (cnt (-1 - x) = k) := ⟨_, rfl⟩
    have hk7 : k ≤ 7 := by rw [← hk.out]; exact cnt_le _
    have HK : Hid (keptL (x) = (127 - (k : Int)) :: lof k (flipF (be k (-1 - x)) 0)) := by
      have h := keptL_down (x) (by omega)
      have e : cnt (-1 - (x)) = k := hk.out
      rw [e] at h
      exact h
    go_enter Try.func126, Try.ntmps126
    go_wp2_with fail
    refine (l4Bytes_any (-1 - x) k w (by omega) (by omega) hk.out).mono ?_
    rintro e w0 ⟨g, c, rfl, hV, hb⟩
    have hsz := hb.size
    have hown0 := World.ownsRow_lit (base := w0.heap.size) (e := 5) (size := 1) w0 #[] 0 (Nat.le_refl _) (Nat.zero_le _) rfl
    have hcl := cells_of_view ((hv.below hb).below ((Below.refl w0.heap.size w0).alloc (Nat.le_refl _) (.cells #[] 5)))
    go_wp2_with (first | (at_builtin; refine wpList_append_own _ rfl (.tmp 29) (.tmp 30) 22 rfl w0.heap.size 5 i0 (.int .u8 0) 1 1 Try.underlying22 hi hz0 hz1 hz2 rfl (by decide) (.slice (some ⟨w0.heap.size, 0, none⟩) 0 0) 0 [] rfl hown0 ⟨b, off, none⟩ n cap (bl (lof n f)) rfl (by rw [bl_len, lof_len]; omega) hcl (bl_one _) (by unfold maxLen; omega) (by omega) (by simp) ?_; intro v1 w1 hown1 hgr1 hnil1; simp only [Nat.zero_add, List.nil_append] at hown1; have hb1 : Below w0.heap.size w0 w1 := ((Below.refl _ _).alloc (Nat.le_refl _) _).grown hgr1 (by simp) (fun k hk => by simp only [Value.ownBlock, Option.some.injEq] at hk; omega); have hs1 := hb1.size; clear hown0 hcl hgr1 hnil1) | (at_builtin; refine wpList_append_own _ rfl (.tmp 31) (.tmp 36) 22 rfl w0.heap.size 5 i0 (.int .u8 0) 1 1 Try.underlying22 hi hz0 hz1 hz2 rfl (by decide) v1 _ _ rfl (hown1.alloc _) ⟨w1.heap.size, 0, none⟩ 1 1 [.int .u8 (127 - (k : Int))] rfl rfl (cellNew _ _ _) (bl_one [127 - (k : Int)]) (by unfold maxLen; omega) (by omega) (by simp; omega) ?_; intro v2 w2 hown2 hgr2 hnil2; have hb2 : Below w0.heap.size w0 w2 := (hb1.alloc hs1 _).grown hgr2 (by simp; omega) (fun k hk => (hown1.lt k hk).1); have hV2 := hV.below hb2; have hs2 := hb2.size; clear hgr2 hnil2 hb1 hown1))
    refine (flip_spec g 0 k c (be k (-1 - x)) 0 w2 hV2 (by omega)).mono ?_
    rintro e w3 ⟨g2, c2, rfl, hg2, hc2, hr3, hb3⟩
    have hown3 := own_below hown2 hb3
    have hV3 := hr3.view hc2 (flipF_byte 0 (fun i _ => be_bd _ _ i))
    replace hb3 := hb2.trans (hb3.mono hs2)
    have hs3 := hb3.size
    clear hown2 hb2 hV2 hr3
    go_wp2_with (at_builtin; refine wpList_append_own _ rfl (.tmp 37) (.tmp 39) 22 rfl w0.heap.size 5 i0 (.int .u8 0) 1 1 Try.underlying22 hi hz0 hz1 hz2 rfl (by decide) v2 _ _ rfl hown3 ⟨g2, 0, none⟩ k c2 (bl (lof k (flipF (be k (-1 - x)) 0))) rfl (by rw [bl_len, lof_len]; omega) (cells_of_view hV3) (bl_one _) (by unfold maxLen; omega) (by omega) (by omega) ?_; intro v4 w4 hown4 hgr4 hnil4; have hb4 : Below w0.heap.size w0 w4 := hb3.grown hgr4 hs3 (fun k hk => (hown3.lt k hk).1))
    go_ret
    refine ⟨v4, rfl, ?_, hb.trans (hb4.mono hsz)⟩
    rw [HK.out]
    exact var_done _ hown4 hsz
end Go.Proofs.Ytikopeihkbpjhac

/-
  The model's GetVar: it answers as the program's.
-/
namespace Go.Proofs.Ytikopeihkbpjhac
open Go.RowKit
set_option maxRecDepth 4000

theorem view_nil (w : World) (b : Nat) : View w (some ⟨b, 0, none⟩) 0 0 (fun _ => 0) := ⟨Nat.le_refl _, fun _ hi => absurd hi (Nat.not_lt_zero _), fun h => absurd h (Nat.lt_irrefl _)⟩

set_option maxHeartbeats 1000000 in
theorem l1In_any (x l m : Int) (w : World) :
    Calls Try.prog 78 #[.int .i64 x, .int .i64 l, .int .i64 m] w fun e w' => e = .returned (.bool (decide (l ≤ x) && decide (x ≤ m))) ∧ w = w' := by
  go_enter Try.func78, Try.ntmps78
  by_cases h : l ≤ x
  · have e1 : decide (l ≤ x) = true := by simpa using h
    go_wp2
    go_ret
    exact ⟨by simp [h], rfl⟩
  · have e1 : decide (l ≤ x) = false := by simpa using h
    go_wp2
    go_ret
    exact ⟨by simp, rfl⟩

theorem l1In_yes (x l m : Int) (w : World) (h1 : l ≤ x) (h2 : x ≤ m) :
    Calls Try.prog 78 #[.int .i64 x, .int .i64 l, .int .i64 m] w fun e w' => e = .returned (.bool true) ∧ w = w' := by
  have h := l1In_any x l m w
  rw [decide_eq_true h1, decide_eq_true h2] at h
  exact h
theorem l1In_no (x l m : Int) (w : World) (h1 : x < l ∨ m < x) :
    Calls Try.prog 78 #[.int .i64 x, .int .i64 l, .int .i64 m] w fun e w' => e = .returned (.bool false) ∧ w = w' := by
  have h := l1In_any x l m w
  have e : (decide (l ≤ x) && decide (x ≤ m)) = false := by
    rcases h1 with h1 | h1
    · rw [decide_eq_false (by omega), Bool.false_and]
    · rw [decide_eq_false (p := x ≤ m) (by omega), Bool.and_false]
  rw [e] at h
  exact h

/-- How many bytes the model puts of a number. -/
theorem putVar_many (b : Nat) (x : Int) (k : Nat) (w : World) (hk : Hid ((varL x).length = k + 1)) (hx0 : -9223372036854775808 ≤ x) (hx1 : x ≤ 9223372036854775807) :
    Calls Try.prog 126 #[.slice (some ⟨b, 0, none⟩) 0 0, .int .i64 x] w fun e w' => ∃ g c, e = .returned (.slice (some ⟨g, 0, none⟩) (k + 1) c) ∧ Below w.heap.size w w' := by
  refine (putVar_own b 0 0 0 (fun _ => 0) x w (view_nil w b) (by omega) hx0 hx1).mono ?_
  rintro e w' ⟨v, rfl, hown, hb⟩
  rw [Nat.zero_add, hk.out] at hown
  obtain ⟨g, c, rfl, hg, hc, hr⟩ := row_of_own hown (by omega)
  exact ⟨g, c, rfl, hb⟩

theorem sizeV_num (f : Nat → Int) (i : Nat) (h : 0 ≤ valF (hcnt (f i)) (digF f i)) : sizeV (numV f i) = valF (hcnt (f i)) (digF f i) := by
  unfold sizeV numV
  (repeat' split) <;> omega

set_option maxHeartbeats 1000000 in
theorem getVar_spec {a q : Int} {ok : Bool} (b off n cap : Nat) (f : Nat → Int) (p : Int) (w : World) (hg : Hid (getV n f p = (a, q, ok))) (hv : View w (some ⟨b, off, none⟩) n cap f) (hn : n ≤ 70368744177664) (hp1 : p ≤ 9223372036854775807) :
    Calls Try.prog 104 #[.slice (some ⟨b, off, none⟩) n cap, .int .i64 p] w fun e w' => e = .returned (.tuple #[.int .i64 a, .int .i64 q, .bool ok]) ∧ Below w.heap.size w w' := by
  by_cases hp : p < 0
  · have e := hg.out
    rw [getV_out n f p (Or.inl hp)] at e
    obtain ⟨rfl, rfl, rfl⟩ : 0 = a ∧ 0 = q ∧ false = ok := by simpa using e
    clear hg e
    go_enter Try.func104, Try.ntmps104
    go_wp2
    go_ret3
    exact ⟨rfl, Below.refl _ _⟩
  by_cases h4 : (n : Int) ≤ p
  · have e := hg.out
    rw [getV_out n f p (Or.inr h4)] at e
    obtain ⟨rfl, rfl, rfl⟩ : 0 = a ∧ 0 = q ∧ false = ok := by simpa using e
    clear hg e
    go_enter Try.func104, Try.ntmps104
    go_wp2
    go_ret3
    exact ⟨rfl, Below.refl _ _⟩
  obtain ⟨i, rfl⟩ := Int.eq_ofNat_of_zero_le (Int.not_lt.1 hp)
  have hin : i < n := by omega
  have hle := hv.le
  have hb0 := hv.byte i hin
  have hzi : (i : Int) < (n : Int) := by omega
  obtain ⟨b', off', e', hbl, hcs⟩ := hv.cells (by omega)
  cases e'
  have hci := hcs i hin
  clear hcs
  go_enter Try.func104, Try.ntmps104
  obtain ⟨c, hc⟩ : ∃ c, Hid (hcnt (f i) = c) := ⟨_, rfl⟩
  have hcz : (f i < 128 ∧ (c : Int) = 127 - f i) ∨ (128 ≤ f i ∧ (c : Int) = f i - 128) := by
    rw [← hc.out]; unfold hcnt; split
    · left; omega
    · right; omega
  go_wp2_with fail
  by_cases hf : 7 < c
  ·
    have e := hg.out
    rw [getV_few n f i hin (by rw [hc.out]; exact Or.inl hf)] at e
    obtain ⟨rfl, rfl, rfl⟩ : 0 = a ∧ 0 = q ∧ false = ok := by simpa using e
    clear hg e
    refine (l1In_no (f i) 120 135 w (by omega)).mono ?_
    rintro e _ ⟨rfl, rfl⟩
    clear hcz
    go_wp2
    go_ret3
    exact ⟨rfl, Below.refl _ _⟩
  refine (l1In_yes (f i) 120 135 w (by omega) (by omega)).mono ?_
  rintro e _ ⟨rfl, rfl⟩
  rcases hcz with ⟨hlow, hcz⟩ | ⟨hlow, hcz⟩
  ·
    have HD : Hid (turnF true (fun j => f (i + 1 + j)) = digF f i) := by show _ = _; unfold digF; rw [decide_eq_true (by omega)]
    have hzh : f i < 128 := by omega
    by_cases hfew : n < i + 1 + c
    ·
      have e := hg.out
      rw [getV_few n f i hin (by rw [hc.out]; exact Or.inr hfew)] at e
      obtain ⟨rfl, rfl, rfl⟩ : 0 = a ∧ 0 = q ∧ false = ok := by simpa using e
      clear hg e
      go_wp2_with fail
      refine (l4Read_no _ n cap _ _ true w (by omega) (by omega) (by omega) (Or.inr (by omega))).mono ?_
      rintro e _ ⟨rfl, rfl⟩
      go_wp2
      go_ret3
      exact ⟨rfl, Below.refl _ _⟩
    have hok : ¬ (7 < hcnt (f i) ∨ n < i + 1 + hcnt (f i)) := by rw [hc.out]; omega
    have hl4 := l4Read_any (some ⟨b, off, none⟩) n cap f (i + 1) c true w hv (by omega) (by omega) (by omega)
    rw [HD.out] at hl4
    have hvb := valF7 c (digF f i) (by omega) (by unfold digF; exact turnF_bd _ (fun j hj => hv.byte (i + 1 + j) (by omega)))
    have hx : numV f i = -1 - valF c (digF f i) := by unfold numV; rw [if_pos (by omega), hc.out]
    have hsz := sizeV_num f i (by rw [hc.out]; exact hvb.1)
    have hcv := cnt_valF c (digF f i) (by omega) (by unfold digF; exact turnF_bd _ (fun j hj => hv.byte (i + 1 + j) (by omega)))
    rw [hc.out] at hsz
    have HCV : Hid (cnt (valF c (digF f i)) = c ↔ ¬ (0 < c ∧ digF f i 0 = 0)) := hcv
    have HSZ : Hid (sizeV (numV f i) = valF c (digF f i)) := hsz
    clear hcv hsz HD
    generalize valF c (digF f i) = v at *
    rw [show ((i + 1 : Nat) : Int) = (i : Int) + 1 by omega] at hl4
    go_wp2_with fail
    rw [show -1 - (f i - 128) = (c : Int) by omega]
    refine hl4.mono ?_
    rintro e _ ⟨rfl, rfl⟩
    clear hl4
    by_cases hr : -1 - v < -1000000000000000 ∨ 1000000000000000 < -1 - v
    ·
      have e := hg.out
      rw [getV_bad n f i hin hok (by unfold badV; rw [hx]; exact Or.inr hr)] at e
      obtain ⟨rfl, rfl, rfl⟩ : 0 = a ∧ 0 = q ∧ false = ok := by simpa using e
      clear hg e
      go_wp2_with fail
      refine (l1In_no _ _ _ w hr).mono ?_
      rintro e _ ⟨rfl, rfl⟩
      go_wp2
      go_ret3
      exact ⟨rfl, Below.refl _ _⟩
    go_wp2_with fail
    refine (l1In_yes _ _ _ w (by omega) (by omega)).mono ?_
    rintro e _ ⟨rfl, rfl⟩
    go_wp2_with fail
    obtain ⟨k, hk⟩ : ∃ k, Hid (cnt v = k) := ⟨_, rfl⟩
    have HK : Hid ((varL (-1 - v)).length = k + 1) := by
      show _ = _
      have e1 : clampV (-1 - v) = -1 - v := by unfold clampV; rw [if_neg (by omega), if_neg (by omega)]
      have e2 := HSZ.out
      rw [hx] at e2
      unfold varL
      rw [keptL_len, e1, e2, hk.out]
    refine (putVar_many _ (-1 - v) k _ HK (by omega) (by omega)).mono ?_
    rintro e w1 ⟨g, cg, rfl, hb1⟩
    have hB : Below w.heap.size w w1 := ((Below.refl _ _).alloc (Nat.le_refl _) _).trans (hb1.mono (by simp))
    clear hb1 HK
    by_cases hkc : k = c
    · have hbad : ¬ badV f i := by
        unfold badV
        rw [hx, hc.out]
        have := HCV.out.1 (by rw [hk.out]; exact hkc)
        omega
      have e := hg.out
      rw [getV_is n f i hin hok hbad, hc.out, hx] at e
      simp only [Prod.mk.injEq] at e
      obtain ⟨rfl, rfl, rfl⟩ := e
      clear hg hbad HCV HSZ hx
      go_wp2_with fail
      go_ret3
      refine ⟨?_, hB⟩
      rw [hcz]
      rfl
    · have hbad : badV f i := by
        unfold badV
        rw [hc.out]
        by_cases h0 : 0 < c ∧ digF f i 0 = 0
        · exact Or.inl h0
        · exact absurd (HCV.out.2 h0) (by rw [hk.out]; exact hkc)
      have e := hg.out
      rw [getV_bad n f i hin hok hbad] at e
      obtain ⟨rfl, rfl, rfl⟩ : 0 = a ∧ 0 = q ∧ false = ok := by simpa using e
      clear hg e
      clear hbad HCV HSZ hx
      go_wp2_with fail
      go_ret3
      exact ⟨rfl, hB⟩
  ·
    have HD : Hid (turnF false (fun j => f (i + 1 + j)) = digF f i) := by show _ = _; unfold digF; rw [decide_eq_false (by omega)]
    have hzh : f i ≥ 128 := by omega
    have hdf : decide (f i - 128 < 0) = false := by simp; omega
    by_cases hfew : n < i + 1 + c
    ·
      have e := hg.out
      rw [getV_few n f i hin (by rw [hc.out]; exact Or.inr hfew)] at e
      obtain ⟨rfl, rfl, rfl⟩ : 0 = a ∧ 0 = q ∧ false = ok := by simpa using e
      clear hg e
      go_wp2_with fail
      refine (l4Read_no _ n cap _ _ false w (by omega) (by omega) (by omega) (Or.inr (by omega))).mono ?_
      rintro e _ ⟨rfl, rfl⟩
      go_wp2
      go_ret3
      exact ⟨rfl, Below.refl _ _⟩
    have hok : ¬ (7 < hcnt (f i) ∨ n < i + 1 + hcnt (f i)) := by rw [hc.out]; omega
    have hl4 := l4Read_any (some ⟨b, off, none⟩) n cap f (i + 1) c false w hv (by omega) (by omega) (by omega)
    rw [HD.out] at hl4
    have hvb := valF7 c (digF f i) (by omega) (by unfold digF; exact turnF_bd _ (fun j hj => hv.byte (i + 1 + j) (by omega)))
    have hx : numV f i = valF c (digF f i) := by unfold numV; rw [if_neg (by omega), hc.out]
    have hsz := sizeV_num f i (by rw [hc.out]; exact hvb.1)
    have hcv := cnt_valF c (digF f i) (by omega) (by unfold digF; exact turnF_bd _ (fun j hj => hv.byte (i + 1 + j) (by omega)))
    rw [hc.out] at hsz
    have HCV : Hid (cnt (valF c (digF f i)) = c ↔ ¬ (0 < c ∧ digF f i 0 = 0)) := hcv
    have HSZ : Hid (sizeV (numV f i) = valF c (digF f i)) := hsz
    clear hcv hsz HD
    generalize valF c (digF f i) = v at *
    rw [show ((i + 1 : Nat) : Int) = (i : Int) + 1 by omega] at hl4
    go_wp2_with fail
    rw [show f i - 128 = (c : Int) by omega]
    refine hl4.mono ?_
    rintro e _ ⟨rfl, rfl⟩
    clear hl4
    by_cases hr : v < -1000000000000000 ∨ 1000000000000000 < v
    ·
      have e := hg.out
      rw [getV_bad n f i hin hok (by unfold badV; rw [hx]; exact Or.inr hr)] at e
      obtain ⟨rfl, rfl, rfl⟩ : 0 = a ∧ 0 = q ∧ false = ok := by simpa using e
      clear hg e
      go_wp2_with fail
      refine (l1In_no _ _ _ w hr).mono ?_
      rintro e _ ⟨rfl, rfl⟩
      go_wp2
      go_ret3
      exact ⟨rfl, Below.refl _ _⟩
    go_wp2_with fail
    refine (l1In_yes _ _ _ w (by omega) (by omega)).mono ?_
    rintro e _ ⟨rfl, rfl⟩
    go_wp2_with fail
    obtain ⟨k, hk⟩ : ∃ k, Hid (cnt v = k) := ⟨_, rfl⟩
    have HK : Hid ((varL (v)).length = k + 1) := by
      show _ = _
      have e1 : clampV (v) = v := by unfold clampV; rw [if_neg (by omega), if_neg (by omega)]
      have e2 := HSZ.out
      rw [hx] at e2
      unfold varL
      rw [keptL_len, e1, e2, hk.out]
    refine (putVar_many _ (v) k _ HK (by omega) (by omega)).mono ?_
    rintro e w1 ⟨g, cg, rfl, hb1⟩
    have hB : Below w.heap.size w w1 := ((Below.refl _ _).alloc (Nat.le_refl _) _).trans (hb1.mono (by simp))
    clear hb1 HK
    by_cases hkc : k = c
    · have hbad : ¬ badV f i := by
        unfold badV
        rw [hx, hc.out]
        have := HCV.out.1 (by rw [hk.out]; exact hkc)
        omega
      have e := hg.out
      rw [getV_is n f i hin hok hbad, hc.out, hx] at e
      simp only [Prod.mk.injEq] at e
      obtain ⟨rfl, rfl, rfl⟩ := e
      clear hg hbad HCV HSZ hx
      go_wp2_with fail
      go_ret3
      refine ⟨?_, hB⟩
      rw [hcz]
      rfl
    · have hbad : badV f i := by
        unfold badV
        rw [hc.out]
        by_cases h0 : 0 < c ∧ digF f i 0 = 0
        · exact Or.inl h0
        · exact absurd (HCV.out.2 h0) (by rw [hk.out]; exact hkc)
      have e := hg.out
      rw [getV_bad n f i hin hok hbad] at e
      obtain ⟨rfl, rfl, rfl⟩ : 0 = a ∧ 0 = q ∧ false = ok := by simpa using e
      clear hg e
      clear hbad HCV HSZ hx
      go_wp2_with fail
      go_ret3
      exact ⟨rfl, hB⟩
end Go.Proofs.Ytikopeihkbpjhac

/-
  A part of a key in a variable of the call's own.
-/
namespace Go.Proofs.Ytikopeihkbpjhac
open Go.RowKit
set_option maxRecDepth 4000

/-- The four cells of a part. -/
def partC (c t : Int) (nul d : Bool) : Nat → Value
  | 0 => .int .i64 c
  | 1 => .int .i64 t
  | 2 => .bool nul
  | _ => .bool d

/-- A part in a variable of the call's own. -/
def PBox (w : World) (B : Nat) (c t : Int) (nul d : Bool) : Prop := w.rowIs B 25 4 (partC c t nul d)
section
variable {w w' : World} {B D i : Nat} {c t : Int} {nul d : Bool}
theorem PBox.new (w : World) (c t : Int) (nul d : Bool) : PBox (w.alloc (.cells #[.int .i64 c, .int .i64 t, .bool nul, .bool d] 25)) w.heap.size c t nul d :=
  World.rowIs_alloc w _ 25 (partC c t nul d) (fun j hj => by match j, hj with | 0, _ => rfl | 1, _ => rfl | 2, _ => rfl | 3, _ => rfl)
theorem PBox.cells (h : PBox w B c t nul d) : w.cell? ⟨B, 0, none⟩ = some (.int .i64 c) ∧ w.cell? ⟨B, 1, none⟩ = some (.int .i64 t) ∧ w.cell? ⟨B, 2, none⟩ = some (.bool nul) ∧ w.cell? ⟨B, 3, none⟩ = some (.bool d) :=
  ⟨h.cell (i := 0) (by decide), h.cell (i := 1) (by decide), h.cell (i := 2) (by decide), h.cell (i := 3) (by decide)⟩
theorem PBox.frozen (h : PBox w B c t nul d) : w.frozen? ⟨B, 0, none⟩ = false ∧ w.frozen? ⟨B, 1, none⟩ = false ∧ w.frozen? ⟨B, 2, none⟩ = false ∧ w.frozen? ⟨B, 3, none⟩ = false :=
  ⟨World.rowIs.frozen h 0, World.rowIs.frozen h 1, World.rowIs.frozen h 2, World.rowIs.frozen h 3⟩
theorem PBox.lt (h : PBox w B c t nul d) : B < w.heap.size := World.rowIs.lt h
theorem PBox.below (h : PBox w B c t nul d) (hb : Below w.heap.size w w') : PBox w' B c t nul d := h.of_block (hb.block B h.lt)
theorem PBox.other (h : PBox w B c t nul d) (hne : B ≠ D) (u : Value) : PBox (w.setCell ⟨D, i, none⟩ u) B c t nul d := h.of_block (Below.heap_setCell _ _ _ _ hne)
theorem PBox.drew (h : PBox w B c t nul d) : PBox w.drew B c t nul d := h
end
end Go.Proofs.Ytikopeihkbpjhac

/-
  The model's PartOk, Fits and LessPart come to the plain ones.
-/
namespace Go.Proofs.Ytikopeihkbpjhac
open Go.RowKit
set_option maxRecDepth 4000

def partAgg (c t : Int) (nul d : Bool) : Value := .agg #[.int .i64 c, .int .i64 t, .bool nul, .bool d]

set_option maxHeartbeats 1000000 in
theorem specPartOk_any (c t : Int) (nul d : Bool) (w : World) :
    Calls Try.prog 56 #[.agg #[.int .i64 c, .int .i64 t, .bool nul, .bool d]] w fun e w' => e = .returned (.bool (partOk c t)) ∧ Below w.heap.size w w' := by
  have hb0 : ∀ o, Below w.heap.size w (w.alloc o) := fun o => (Below.refl _ _).alloc (Nat.le_refl _) _
  by_cases h1 : 0 ≤ c ∧ c ≤ 9
  · by_cases h2 : 1 ≤ t ∧ t ≤ 4
    · have e : partOk c t = true := by unfold partOk; simp; omega
      rw [e]
      go_enter Try.func56, Try.ntmps56
      go_wp2_with fail
      refine (l1In_yes c 0 9 _ h1.1 h1.2).mono ?_
      rintro e _ ⟨rfl, rfl⟩
      go_wp2_with fail
      refine (l1In_yes t 1 4 _ h2.1 h2.2).mono ?_
      rintro e _ ⟨rfl, rfl⟩
      go_wp2
      go_ret
      exact ⟨rfl, hb0 _⟩
    · have e : partOk c t = false := by unfold partOk; simp; omega
      rw [e]
      go_enter Try.func56, Try.ntmps56
      go_wp2_with fail
      refine (l1In_yes c 0 9 _ h1.1 h1.2).mono ?_
      rintro e _ ⟨rfl, rfl⟩
      go_wp2_with fail
      refine (l1In_no t 1 4 _ (by omega)).mono ?_
      rintro e _ ⟨rfl, rfl⟩
      go_wp2
      go_ret
      exact ⟨rfl, hb0 _⟩
  · have e : partOk c t = false := by unfold partOk; simp; omega
    rw [e]
    go_enter Try.func56, Try.ntmps56
    go_wp2_with fail
    refine (l1In_no c 0 9 _ (by omega)).mono ?_
    rintro e _ ⟨rfl, rfl⟩
    go_wp2
    go_ret
    exact ⟨rfl, hb0 _⟩

set_option maxHeartbeats 1000000 in
theorem specFits_any (c t : Int) (nul d : Bool) (k n : Int) (s : ByteArray) (w : World) (hs : s.size ≤ 281474976710656) :
    Calls Try.prog 75 #[.agg #[.int .i64 c, .int .i64 t, .bool nul, .bool d], .agg #[.int .i64 k, .int .i64 n, .string s]] w fun e w' => e = .returned (.bool (fitsP t nul k n s)) ∧ Below w.heap.size w w' := by
  have hP := (PBox.new w c t nul d).below ((Below.refl _ _).alloc (Nat.le_refl _) (.cells #[.int .i64 k, .int .i64 n, .string s] 29))
  have hV := Box.new (w.alloc (.cells #[.int .i64 c, .int .i64 t, .bool nul, .bool d] 25)) k n s
  rw [show (w.alloc (.cells #[.int .i64 c, .int .i64 t, .bool nul, .bool d] 25)).heap.size = w.heap.size + 1 by simp] at hV
  have hb0 : Below w.heap.size w ((w.alloc (.cells #[.int .i64 c, .int .i64 t, .bool nul, .bool d] 25)).alloc (.cells #[.int .i64 k, .int .i64 n, .string s] 29)) := ((Below.refl _ _).alloc (Nat.le_refl _) _).alloc (by simp) _
  cases ho : okF k n s with
  | false =>
    have hr : fitsP t nul k n s = false := by unfold fitsP; rw [ho]; rfl
    rw [hr]
    clear hr
    go_enter Try.func75, Try.ntmps75
    go_wp2_with fail
    refine (specValOk_any k n s _ hs).mono ?_
    rw [ho]
    rintro e w1 ⟨rfl, hb1⟩
    obtain ⟨p0, p1, p2, p3⟩ := (hP.below hb1).cells
    obtain ⟨v0, v1, v2⟩ := (hV.below hb1).cells
    have hB : Below w.heap.size w w1 := hb0.trans (hb1.mono hb0.size)
    clear hP hV hb0 hb1 ho
    go_wp2
    go_ret
    exact ⟨rfl, hB⟩
  | true =>
    by_cases k0 : k = 0
    · subst k0
      have hr : fitsP t nul 0 n s = nul := by unfold fitsP; rw [ho]; simp
      rw [hr]
      clear hr
      by_cases ht : t = 0
      · subst ht
        have q0 : ((0 : Int) == 0) = true := by simp
        have q1 : ((0 : Int) != 0) = false := by simp
        go_enter Try.func75, Try.ntmps75
        go_wp2_with fail
        refine (specValOk_any 0 n s _ hs).mono ?_
        rw [ho]
        rintro e w1 ⟨rfl, hb1⟩
        obtain ⟨p0, p1, p2, p3⟩ := (hP.below hb1).cells
        obtain ⟨v0, v1, v2⟩ := (hV.below hb1).cells
        have hB : Below w.heap.size w w1 := hb0.trans (hb1.mono hb0.size)
        clear hP hV hb0 hb1 ho
        go_wp2
        go_ret
        exact ⟨rfl, hB⟩
      · have q0 : ((0 : Int) == t) = false := by simp; omega
        have q1 : ((0 : Int) == 0) = true := by simp
        clear ht
        go_enter Try.func75, Try.ntmps75
        go_wp2_with fail
        refine (specValOk_any 0 n s _ hs).mono ?_
        rw [ho]
        rintro e w1 ⟨rfl, hb1⟩
        obtain ⟨p0, p1, p2, p3⟩ := (hP.below hb1).cells
        obtain ⟨v0, v1, v2⟩ := (hV.below hb1).cells
        have hB : Below w.heap.size w w1 := hb0.trans (hb1.mono hb0.size)
        clear hP hV hb0 hb1 ho
        go_wp2
        go_ret
        exact ⟨rfl, hB⟩
    · have q2 : (k == 0) = false := by simpa using k0
      have q3 : (k != 0) = true := by simpa using k0
      by_cases kt : k = t
      · subst kt
        have hr : fitsP k nul k n s = true := by unfold fitsP; rw [ho]; simp [k0]
        rw [hr]
        have q4 : (k == k) = true := by simp
        clear hr k0
        go_enter Try.func75, Try.ntmps75
        go_wp2_with fail
        refine (specValOk_any k n s _ hs).mono ?_
        rw [ho]
        rintro e w1 ⟨rfl, hb1⟩
        obtain ⟨p0, p1, p2, p3⟩ := (hP.below hb1).cells
        obtain ⟨v0, v1, v2⟩ := (hV.below hb1).cells
        have hB : Below w.heap.size w w1 := hb0.trans (hb1.mono hb0.size)
        clear hP hV hb0 hb1 ho
        go_wp2
        go_ret
        exact ⟨rfl, hB⟩
      · have hr : fitsP t nul k n s = false := by unfold fitsP; rw [ho]; simp [k0, kt]
        rw [hr]
        have q4 : (k == t) = false := by simpa using kt
        clear hr k0 kt
        go_enter Try.func75, Try.ntmps75
        go_wp2_with fail
        refine (specValOk_any k n s _ hs).mono ?_
        rw [ho]
        rintro e w1 ⟨rfl, hb1⟩
        obtain ⟨p0, p1, p2, p3⟩ := (hP.below hb1).cells
        obtain ⟨v0, v1, v2⟩ := (hV.below hb1).cells
        have hB : Below w.heap.size w w1 := hb0.trans (hb1.mono hb0.size)
        clear hP hV hb0 hb1 ho
        go_wp2
        go_ret
        exact ⟨rfl, hB⟩
end Go.Proofs.Ytikopeihkbpjhac

/-
  The draws of parts, as far as a law leans on them.
-/
namespace Go.Proofs.Ytikopeihkbpjhac
open Go.RowKit
set_option maxRecDepth 4000

theorem PBox.but {w w' : World} {B g : Nat} {c t : Int} {nul d : Bool} (h : PBox w B c t nul d) (hb : But g w w') (hne : B ≠ g) : PBox w' B c t nul d := h.of_block (hb.block B h.lt hne)
theorem PBox.put {w : World} {B : Nat} {c t : Int} {nul d : Bool} (h : PBox w B c t nul d) (c' t' : Int) (nul' d' : Bool) : PBox ((((w.setCell ⟨B, 0, none⟩ (.int .i64 c')).setCell ⟨B, 1, none⟩ (.int .i64 t')).setCell ⟨B, 2, none⟩ (.bool nul')).setCell ⟨B, 3, none⟩ (.bool d')) B c' t' nul' d' :=
  (World.rowIs.set (World.rowIs.set (World.rowIs.set (World.rowIs.set h 0 (.int .i64 c')) 1 (.int .i64 t')) 2 (.bool nul')) 3 (.bool d')).congr (fun j hj => by match j, hj with | 0, _ => rfl | 1, _ => rfl | 2, _ => rfl | 3, _ => rfl)
theorem PBox.set0 {w : World} {B : Nat} {c t : Int} {nul d : Bool} (h : PBox w B c t nul d) (x : Int) : PBox (w.setCell ⟨B, 0, none⟩ (.int .i64 x)) B x t nul d :=
  (World.rowIs.set h 0 _).congr (fun j hj => by match j, hj with | 0, _ => rfl | 1, _ => rfl | 2, _ => rfl | 3, _ => rfl)
theorem PBox.set1 {w : World} {B : Nat} {c t : Int} {nul d : Bool} (h : PBox w B c t nul d) (x : Int) : PBox (w.setCell ⟨B, 1, none⟩ (.int .i64 x)) B c x nul d :=
  (World.rowIs.set h 1 _).congr (fun j hj => by match j, hj with | 0, _ => rfl | 1, _ => rfl | 2, _ => rfl | 3, _ => rfl)

/-- Some part, and the cursor behind its draw. -/
structure DrewP (w : World) (g : Nat) (ao : Option Addr) (n cap : Nat) (f : Nat → Int) (c t : Int) (w' : World) : Prop where
  c64 : I64 c
  t64 : I64 t
  cur : Cur w' g ao n cap f
  but : But g w w'
theorem DrewP.put {w w' : World} {g : Nat} {ao : Option Addr} {n cap : Nat} {f : Nat → Int} {c t : Int} (u v : Value) (hc : I64 c) (ht : I64 t) (hC : Cur w' g ao n cap f) (hB : But g w w') (hg : g < w.heap.size) (ha : ∀ a, ao = some a → 0 < n → a.block < w.heap.size) :
    DrewP w g ao n cap f c t ((((w'.setCell ⟨w.heap.size, 0, none⟩ (.int .i64 c)).setCell ⟨w.heap.size, 1, none⟩ (.int .i64 t)).setCell ⟨w.heap.size, 2, none⟩ u).setCell ⟨w.heap.size, 3, none⟩ v) := by
  have q : ∀ a, ao = some a → 0 < n → a.block ≠ w.heap.size := fun a h1 h0 => by have := ha a h1 h0; omega
  exact ⟨hc, ht, (((hC.setNew _ (by omega) q).setNew _ (by omega) q).setNew _ (by omega) q).setNew _ (by omega) q,
    (((hB.setNew (Nat.le_refl _) _).setNew (Nat.le_refl _) _).setNew (Nat.le_refl _) _).setNew (Nat.le_refl _) _⟩

set_option maxHeartbeats 2000000 in
theorem l5Draw_any (g : Nat) (ao : Option Addr) (n cap : Nat) (f : Nat → Int) (c : Int) (w : World) (hn : n ≤ 1048576) (hc : I64 c) (hC : Cur w g ao n cap f) :
    Calls Try.prog 89 #[.pointer (some ⟨g, 0, none⟩), .int .i64 c] w fun e w' => ∃ (t : Int) (nul d : Bool), e = .returned (.agg #[.int .i64 c, .int .i64 t, .bool nul, .bool d]) ∧ DrewP w g ao n cap f c t w' := by
  have hg := hC.lt
  have HC : Hid (∀ a, ao = some a → 0 < n → a.block < w.heap.size) := hC.code
  have Hc : Hid (I64 c) := hc
  have hb0 : Below w.heap.size w (w.alloc (.cells #[.int .i64 0, .int .i64 0, .bool false, .bool false] 25)) := (Below.refl _ _).alloc (Nat.le_refl _) _
  have hP0 := PBox.new w 0 0 false false
  have hC0 := hC.below hb0
  have hB0 : But g w (w.alloc (.cells #[.int .i64 0, .int .i64 0, .bool false, .bool false] 25)) := But.ofBelow hb0
  clear hb0 hC hc
  go_enter Try.func89, Try.ntmps89
  go_wp2_with fail
  refine (l1Below_any g ao n cap f 4 _ hn (by omega) (by omega) hC0).mono ?_
  rintro e w1 ⟨y, rfl, hy0, hy1, hC1, hO1⟩
  have hP1 := hP0.but (But.ofOnly hO1) (by omega)
  have hB1 := hB0.trans (But.ofOnly hO1)
  clear hO1 hP0 hB0 hC0
  go_wp2_with fail
  refine (l1Once_any g ao n cap f 2 w1 hn (by omega) (by omega) hC1).mono ?_
  rintro e w2 ⟨nul, rfl, hC2, hO2⟩
  have hP2 := hP1.but (But.ofOnly hO2) (by omega)
  have hB2 := hB1.trans (But.ofOnly hO2)
  clear hO2 hP1 hB1 hC1
  go_wp2_with fail
  refine (l1Once_any g ao n cap f 2 w2 hn (by omega) (by omega) hC2).mono ?_
  rintro e w3 ⟨d, rfl, hC3, hO3⟩
  have hP3 := hP2.but (But.ofOnly hO3) (by omega)
  have hB3 := hB2.trans (But.ofOnly hO3)
  clear hO3 hP2 hB2 hC2
  obtain ⟨p0, p1, p2, p3⟩ := hP3.cells
  obtain ⟨f0, f1, f2, f3⟩ := hP3.frozen
  obtain ⟨g0, g1, g2, g3⟩ := (hP3.put c (1 + y) nul d).cells
  have HD : Hid (DrewP w g ao n cap f c (1 + y) _) := DrewP.put (.bool nul) (.bool d) Hc.out (by unfold I64; omega) hC3 hB3 hg HC.out
  clear hP3 hB3 hC3
  go_wp2
  exact bodyPost_ret (v := .agg #[.int .i64 c, .int .i64 (1 + y), .bool nul, .bool d]) (by simp [results, Try.results89, go_sem, g0, g1, g2, g3]) rfl ⟨1 + y, nul, d, rfl, HD.out⟩

set_option maxHeartbeats 2000000 in
theorem l5Any_any (g : Nat) (ao : Option Addr) (n cap : Nat) (f : Nat → Int) (w : World) (hn : n ≤ 1048576) (hC : Cur w g ao n cap f) :
    Calls Try.prog 47 #[.pointer (some ⟨g, 0, none⟩)] w fun e w' => ∃ (c t : Int) (nul d : Bool), e = .returned (.agg #[.int .i64 c, .int .i64 t, .bool nul, .bool d]) ∧ DrewP w g ao n cap f c t w' := by
  have hg := hC.lt
  have HC : Hid (∀ a, ao = some a → 0 < n → a.block < w.heap.size) := hC.code
  have hb0 : Below w.heap.size w (w.alloc (.cells #[.int .i64 0, .int .i64 0, .bool false, .bool false] 25)) := (Below.refl _ _).alloc (Nat.le_refl _) _
  have hR0 := PBox.new w 0 0 false false
  have hC0 := hC.below hb0
  have hB0 : But g w (w.alloc (.cells #[.int .i64 0, .int .i64 0, .bool false, .bool false] 25)) := But.ofBelow hb0
  clear hb0 hC
  go_enter Try.func47, Try.ntmps47
  go_wp2_with fail
  refine (l1Below_any g ao n cap f 3 _ hn (by omega) (by omega) hC0).mono ?_
  rintro e w1 ⟨y, rfl, hy0, hy1, hC1, hO1⟩
  have hR1 := hR0.but (But.ofOnly hO1) (by omega)
  have hB1 := hB0.trans (But.ofOnly hO1)
  clear hO1 hR0 hB0 hC0
  go_wp2_with fail
  refine (l5Draw_any g ao n cap f y w1 hn (by unfold I64; omega) hC1).mono ?_
  rintro e w2 ⟨t, nul, d, rfl, hD⟩
  have hR2 := hR1.but hD.but (by omega)
  have hB2 := hB1.trans hD.but
  have hC2 := hD.cur
  have Ht : Hid (I64 t) := hD.t64
  have hlt2 : w.heap.size < w2.heap.size := hR2.lt
  clear hD hR1 hB1 hC1
  have hb3 : Below w2.heap.size w2 (w2.alloc (.cells #[.int .i64 y, .int .i64 t, .bool nul, .bool d] 25)) := (Below.refl _ _).alloc (Nat.le_refl _) _
  have hP3 := PBox.new w2 y t nul d
  have hR3 := hR2.below hb3
  have hC3 := hC2.below hb3
  have hB3 := hB2.trans (But.ofBelow (g := g) hb3)
  clear hb3 hR2 hB2 hC2
  go_wp2_with fail
  refine (l1Below_any g ao n cap f 12 _ hn (by omega) (by omega) hC3).mono ?_
  rintro e w4 ⟨z, rfl, hz0, hz1, hC4, hO4⟩
  have hR4 := hR3.but (But.ofOnly hO4) (by omega)
  have hP4 := hP3.but (But.ofOnly hO4) (by have := hC3.lt; simp at this; omega)
  have hB4 := hB3.trans (But.ofOnly hO4)
  have hg4 := hC4.lt
  clear hO4 hR3 hB3 hC3 hP3
  by_cases e0 : z = 0
  · subst e0
    have HL : Hid (∀ u ∈ [-1, 9, 10], I64 u) := by
      intro u hu
      simp only [List.mem_cons, List.not_mem_nil, or_false] at hu
      unfold I64
      omega
    go_wp2_with fail
    refine (l1Int_of g ao n cap f [-1, 9, 10] w4.heap.size w4 rfl hn (by simp) (by simp) HL.out hC4).mono ?_
    rintro e w5 ⟨x, rfl, hx, hC5, hB5⟩
    have HX : Hid (I64 x) := hx
    have hP5 := hP4.but hB5 (by omega)
    have hR5 := hR4.but hB5 (by omega)
    have hB6 := hB4.trans hB5
    clear HL hx hB5 hB4 hC4 hP4 hR4
    have hR6 := hR5.other (D := w2.heap.size) (i := 0) (by omega) (.int .i64 x)
    obtain ⟨c0, c1, c2, c3⟩ := hP5.cells
    obtain ⟨f0, f1, f2, f3⟩ := hP5.frozen
    obtain ⟨s0, s1, s2, s3⟩ := (hP5.set0 x).cells
    obtain ⟨d0, d1, d2, d3⟩ := hR6.cells
    obtain ⟨r0, r1, r2, r3⟩ := hR5.frozen
    obtain ⟨p0, p1, p2, p3⟩ := hR5.cells
    obtain ⟨g0, g1, g2, g3⟩ := (hR6.put x t nul d).cells
    have HD : Hid (DrewP w g ao n cap f x t _) := DrewP.put (.bool nul) (.bool d) HX.out Ht.out (hC5.setNew (B := w2.heap.size) (i := 0) (.int .i64 x) (by omega) (fun a ha h0 => by have := HC.out a ha h0; omega)) (hB6.setNew (Nat.le_of_lt hlt2) _) hg HC.out
    clear hC5 hB6 hP5 hR5 hR6
    go_wp2
    exact bodyPost_ret (v := .agg #[.int .i64 x, .int .i64 t, .bool nul, .bool d]) (by simp [results, Try.results47, go_sem, g0, g1, g2, g3]) rfl ⟨x, t, nul, d, rfl, HD.out⟩
  by_cases e1 : z = 1
  · subst e1
    go_wp2_with fail
    refine (l1Below_any g ao n cap f 6 w4 hn (by omega) (by omega) hC4).mono ?_
    rintro e w5 ⟨x, rfl, hx0, hx1, hC5, hO5⟩
    have hB5 : But g w4 w5 := But.ofOnly hO5
    have hP5 := hP4.but hB5 (by omega)
    have hR5 := hR4.but hB5 (by omega)
    have hB6 := hB4.trans hB5
    clear hO5 hB5 hB4 hC4 hP4 hR4
    have hR6 := hR5.other (D := w2.heap.size) (i := 1) (by omega) (.int .i64 x)
    obtain ⟨c0, c1, c2, c3⟩ := hP5.cells
    obtain ⟨f0, f1, f2, f3⟩ := hP5.frozen
    obtain ⟨s0, s1, s2, s3⟩ := (hP5.set1 x).cells
    obtain ⟨d0, d1, d2, d3⟩ := hR6.cells
    obtain ⟨r0, r1, r2, r3⟩ := hR5.frozen
    obtain ⟨p0, p1, p2, p3⟩ := hR5.cells
    obtain ⟨g0, g1, g2, g3⟩ := (hR6.put y x nul d).cells
    have HD : Hid (DrewP w g ao n cap f y x _) := DrewP.put (.bool nul) (.bool d) (by unfold I64; omega) (by unfold I64; omega) (hC5.setNew (B := w2.heap.size) (i := 1) (.int .i64 x) (by omega) (fun a ha h0 => by have := HC.out a ha h0; omega)) (hB6.setNew (Nat.le_of_lt hlt2) _) hg HC.out
    clear hC5 hB6 hP5 hR5 hR6
    go_wp2
    exact bodyPost_ret (v := .agg #[.int .i64 y, .int .i64 x, .bool nul, .bool d]) (by simp [results, Try.results47, go_sem, g0, g1, g2, g3]) rfl ⟨y, x, nul, d, rfl, HD.out⟩
  have q0 : (z == 0) = false := by simpa using e0
  have q1 : (z == 1) = false := by simpa using e1
  obtain ⟨c0, c1, c2, c3⟩ := hP4.cells
  obtain ⟨r0, r1, r2, r3⟩ := hR4.frozen
  obtain ⟨p0, p1, p2, p3⟩ := hR4.cells
  obtain ⟨g0, g1, g2, g3⟩ := (hR4.put y t nul d).cells
  have HD : Hid (DrewP w g ao n cap f y t _) := DrewP.put (.bool nul) (.bool d) (by unfold I64; omega) Ht.out hC4 hB4 hg HC.out
  clear hC4 hB4 hP4 hR4 e0 e1
  go_wp2
  exact bodyPost_ret (v := .agg #[.int .i64 y, .int .i64 t, .bool nul, .bool d]) (by simp [results, Try.results47, go_sem, g0, g1, g2, g3]) rfl ⟨y, t, nul, d, rfl, HD.out⟩
end Go.Proofs.Ytikopeihkbpjhac

/-
  A slice of parts that reads, by functions of the index, and how that is carried from one world to the next.
-/
namespace Go.Proofs.Ytikopeihkbpjhac
open Go.RowKit
set_option maxRecDepth 4000

/-- The slice value '.slice ao n cap' reads, in the world w, as n parts. -/
structure PView (w : World) (ao : Option Addr) (n cap : Nat) (fc ft : Nat → Int) (fu fd : Nat → Bool) : Prop where
  le : n ≤ cap
  cells : 0 < n → ∃ b off, ao = some ⟨b, off, none⟩ ∧ b < w.heap.size ∧ ∀ i, i < n → w.cell? ⟨b, off + i * 4, none⟩ = some (.int .i64 (fc i)) ∧ w.cell? ⟨b, off + i * 4 + 1, none⟩ = some (.int .i64 (ft i)) ∧ w.cell? ⟨b, off + i * 4 + 2, none⟩ = some (.bool (fu i)) ∧ w.cell? ⟨b, off + i * 4 + 3, none⟩ = some (.bool (fd i))

theorem PView.below {w w' : World} {ao : Option Addr} {n cap : Nat} {fc ft : Nat → Int} {fu fd : Nat → Bool} (h : PView w ao n cap fc ft fu fd) (hb : Below w.heap.size w w') : PView w' ao n cap fc ft fu fd := by
  refine ⟨h.le, fun hn => ?_⟩
  obtain ⟨b, off, e, hlt, hc⟩ := h.cells hn
  refine ⟨b, off, e, Nat.lt_of_lt_of_le hlt hb.size, fun i hi => ?_⟩
  rw [hb.cell (p := ⟨b, off + i * 4, none⟩) hlt, hb.cell (p := ⟨b, off + i * 4 + 1, none⟩) hlt, hb.cell (p := ⟨b, off + i * 4 + 2, none⟩) hlt, hb.cell (p := ⟨b, off + i * 4 + 3, none⟩) hlt]
  exact hc i hi
end Go.Proofs.Ytikopeihkbpjhac

/-
  Rows of parts of the call's own, that grow by one part at a time.
-/
namespace Go.Proofs.Ytikopeihkbpjhac
open Go.RowKit
set_option maxRecDepth 4000

/-- The cells of the first k parts. -/
def rowP (gc gt : Nat → Int) (gu gd : Nat → Bool) : Nat → List Value
  | 0 => []
  | k + 1 => rowP gc gt gu gd k ++ [.int .i64 (gc k), .int .i64 (gt k), .bool (gu k), .bool (gd k)]
theorem rowP_len (gc gt : Nat → Int) (gu gd : Nat → Bool) : ∀ k, (rowP gc gt gu gd k).length = k * 4
  | 0 => rfl
  | k + 1 => by rw [rowP, List.length_append, rowP_len gc gt gu gd k]; simp; omega
theorem rowP_get (gc gt : Nat → Int) (gu gd : Nat → Bool) : ∀ k i, i < k → (rowP gc gt gu gd k)[i * 4]? = some (.int .i64 (gc i)) ∧ (rowP gc gt gu gd k)[i * 4 + 1]? = some (.int .i64 (gt i)) ∧ (rowP gc gt gu gd k)[i * 4 + 2]? = some (.bool (gu i)) ∧ (rowP gc gt gu gd k)[i * 4 + 3]? = some (.bool (gd i))
  | k + 1, i, hi => by
    have hl := rowP_len gc gt gu gd k
    by_cases e : i < k
    · obtain ⟨h1, h2, h3, h4⟩ := rowP_get gc gt gu gd k i e
      rw [rowP, List.getElem?_append_left (by omega), List.getElem?_append_left (by omega), List.getElem?_append_left (by omega), List.getElem?_append_left (by omega)]
      exact ⟨h1, h2, h3, h4⟩
    · obtain rfl : i = k := by omega
      rw [rowP, List.getElem?_append_right (by omega), List.getElem?_append_right (by omega), List.getElem?_append_right (by omega), List.getElem?_append_right (by omega), hl]
      simp [show i * 4 + 1 - i * 4 = 1 by omega, show i * 4 + 2 - i * 4 = 2 by omega, show i * 4 + 3 - i * 4 = 3 by omega]
theorem rowP_congr {gc gt : Nat → Int} {gu gd : Nat → Bool} {hc ht : Nat → Int} {hu hd : Nat → Bool} : ∀ {k : Nat}, (∀ i, i < k → gc i = hc i ∧ gt i = ht i ∧ gu i = hu i ∧ gd i = hd i) → rowP gc gt gu gd k = rowP hc ht hu hd k
  | 0, _ => rfl
  | k + 1, e => by
    obtain ⟨h1, h2, h3, h4⟩ := e k (by omega)
    rw [rowP, rowP, rowP_congr (fun i hi => e i (by omega)), h1, h2, h3, h4]

/-- A row of parts of the call's own reads. -/
theorem pview_of_own {w : World} {base : Nat} {v : Value} {N : Nat} {gc gt : Nat → Int} {gu gd : Nat → Bool} (h : w.ownsRow base 25 4 v N (rowP gc gt gu gd N)) : ∃ a c, v = .slice a N c ∧ PView w a N c gc gt gu gd ∧ (v ≠ .slice none 0 0 → ∃ g, a = some ⟨g, 0, none⟩ ∧ base ≤ g) := by
  obtain ⟨hl, h⟩ := h
  rcases h with ⟨rfl, h0⟩ | ⟨g, c, cur, rfl, hb, hg, hnc, _, hcs, ht⟩
  · have hN : N = 0 := by have := h0; have := rowP_len gc gt gu gd N; omega
    subst hN
    exact ⟨none, 0, rfl, ⟨Nat.le_refl _, fun hn => absurd hn (Nat.lt_irrefl _)⟩, fun hne => absurd rfl hne⟩
  · refine ⟨_, c, rfl, ⟨hnc, fun hn => ⟨g, 0, rfl, ?_, fun i hi => ?_⟩⟩, fun _ => ⟨g, rfl, hb⟩⟩
    · exact (Array.getElem?_eq_some_iff.1 hg).1
    · have key : ∀ j x, j < N * 4 → (rowP gc gt gu gd N)[j]? = some x → w.cell? ⟨g, 0 + j, none⟩ = some x := by
        intro j x hj hx
        rw [← ht, List.getElem?_take, if_pos hj] at hx
        simp only [World.cell?, hg, Nat.zero_add]
        simpa using hx
      obtain ⟨h1, h2, h3, h4⟩ := rowP_get gc gt gu gd N i hi
      have k0 := key _ _ (by omega) h1
      have k1 := key _ _ (by omega) h2
      have k2 := key _ _ (by omega) h3
      have k3 := key _ _ (by omega) h4
      simp only [Nat.zero_add] at k0 k1 k2 k3 ⊢
      exact ⟨k0, k1, k2, k3⟩
end Go.Proofs.Ytikopeihkbpjhac

/-
  The draw of a plan that is right.
-/
namespace Go.Proofs.Ytikopeihkbpjhac
open Go.RowKit
set_option maxRecDepth 4000

set_option maxHeartbeats 2000000 in
theorem l5Draw_fit (g : Nat) (ao : Option Addr) (n cap : Nat) (f : Nat → Int) (c : Int) (w : World) (hn : n ≤ 1048576) (hc : I64 c) (hC : Cur w g ao n cap f) :
    Calls Try.prog 89 #[.pointer (some ⟨g, 0, none⟩), .int .i64 c] w fun e w' => ∃ (t : Int) (nul d : Bool), e = .returned (.agg #[.int .i64 c, .int .i64 t, .bool nul, .bool d]) ∧ (1 ≤ t ∧ t ≤ 4) ∧ DrewP w g ao n cap f c t w' := by
  have hg := hC.lt
  have HC : Hid (∀ a, ao = some a → 0 < n → a.block < w.heap.size) := hC.code
  have Hc : Hid (I64 c) := hc
  have hb0 : Below w.heap.size w (w.alloc (.cells #[.int .i64 0, .int .i64 0, .bool false, .bool false] 25)) := (Below.refl _ _).alloc (Nat.le_refl _) _
  have hP0 := PBox.new w 0 0 false false
  have hC0 := hC.below hb0
  have hB0 : But g w (w.alloc (.cells #[.int .i64 0, .int .i64 0, .bool false, .bool false] 25)) := But.ofBelow hb0
  clear hb0 hC hc
  go_enter Try.func89, Try.ntmps89
  go_wp2_with fail
  refine (l1Below_any g ao n cap f 4 _ hn (by omega) (by omega) hC0).mono ?_
  rintro e w1 ⟨y, rfl, hy0, hy1, hC1, hO1⟩
  have hP1 := hP0.but (But.ofOnly hO1) (by omega)
  have hB1 := hB0.trans (But.ofOnly hO1)
  clear hO1 hP0 hB0 hC0
  go_wp2_with fail
  refine (l1Once_any g ao n cap f 2 w1 hn (by omega) (by omega) hC1).mono ?_
  rintro e w2 ⟨nul, rfl, hC2, hO2⟩
  have hP2 := hP1.but (But.ofOnly hO2) (by omega)
  have hB2 := hB1.trans (But.ofOnly hO2)
  clear hO2 hP1 hB1 hC1
  go_wp2_with fail
  refine (l1Once_any g ao n cap f 2 w2 hn (by omega) (by omega) hC2).mono ?_
  rintro e w3 ⟨d, rfl, hC3, hO3⟩
  have hP3 := hP2.but (But.ofOnly hO3) (by omega)
  have hB3 := hB2.trans (But.ofOnly hO3)
  clear hO3 hP2 hB2 hC2
  obtain ⟨p0, p1, p2, p3⟩ := hP3.cells
  obtain ⟨f0, f1, f2, f3⟩ := hP3.frozen
  obtain ⟨g0, g1, g2, g3⟩ := (hP3.put c (1 + y) nul d).cells
  have HD : Hid (DrewP w g ao n cap f c (1 + y) _) := DrewP.put (.bool nul) (.bool d) Hc.out (by unfold I64; omega) hC3 hB3 hg HC.out
  clear hP3 hB3 hC3
  go_wp2
  exact bodyPost_ret (v := .agg #[.int .i64 c, .int .i64 (1 + y), .bool nul, .bool d]) (by simp [results, Try.results89, go_sem, g0, g1, g2, g3]) rfl ⟨1 + y, nul, d, rfl, by omega, HD.out⟩

theorem infoPart4 : ∃ i, Try.prog.info? 25 = some i ∧ i.zero = some (.agg #[.int .i64 0, .int .i64 0, .bool false, .bool false]) ∧ i.size = 4 ∧ i.bytes = 24 := by
  have h : (Try.prog.info? 25).map (fun i => (i.zero, i.size, i.bytes)) = some (some (.agg #[.int .i64 0, .int .i64 0, .bool false, .bool false]), 4, 24) := by kernel_rfl
  obtain ⟨i, hi, hz⟩ := Option.map_eq_some_iff.1 h
  simp only [Prod.mk.injEq] at hz
  exact ⟨i, hi, hz.1, hz.2.1, hz.2.2⟩
/-- The cells of a new row of one part. -/
theorem cells_part (W : World) (c t : Int) (nul d : Bool) : ∀ j u, [Value.int .i64 c, .int .i64 t, .bool nul, .bool d][j]? = some u → (W.alloc (.cells #[.int .i64 c, .int .i64 t, .bool nul, .bool d] 25)).cell? ((⟨W.heap.size, 0, none⟩ : Addr).add j) = some u := by
  intro j u h
  obtain ⟨c0, c1, c2, c3⟩ := (PBox.new W c t nul d).cells
  have ea : ∀ j, (⟨W.heap.size, 0, none⟩ : Addr).add j = ⟨W.heap.size, 0 + j, none⟩ := fun j => by unfold Addr.add; split <;> simp_all
  match j, h with
  | 0, h => cases h; rw [ea]; exact c0
  | 1, h => cases h; rw [ea]; exact c1
  | 2, h => cases h; rw [ea]; exact c2
  | 3, h => cases h; rw [ea]; exact c3
  | j + 4, h => simp at h
theorem one_part (c t : Int) (nul d : Bool) : ∀ u ∈ [Value.int .i64 c, .int .i64 t, .bool nul, .bool d], u.oneCell' = true := by
  intro u hu
  simp at hu
  rcases hu with rfl | rfl | rfl | rfl <;> rfl

/-- A plan that was drawn: m parts that are right, in a row of the call's own. -/
structure DrewPlan (w : World) (g : Nat) (ao : Option Addr) (n cap : Nat) (f : Nat → Int) (v : Value) (m : Nat) (gc gt : Nat → Int) (gu gd : Nat → Bool) (w' : World) : Prop where
  ok : ∀ i, i < m → (0 ≤ gc i ∧ gc i ≤ 3) ∧ (1 ≤ gt i ∧ gt i ≤ 4)
  some : v ≠ .slice none 0 0
  own : w'.ownsRow w.heap.size 25 4 v m (rowP gc gt gu gd m)
  cur : Cur w' g ao n cap f
  but : But g w w'

set_option maxHeartbeats 4000000 in
theorem l6Plan_any (g : Nat) (ao : Option Addr) (n cap : Nat) (f : Nat → Int) (w : World) (hn : n ≤ 1048576) (hC : Cur w g ao n cap f) :
    Calls Try.prog 65 #[.pointer (some ⟨g, 0, none⟩)] w fun e w' => ∃ (v : Value) (m : Nat) (gc gt : Nat → Int) (gu gd : Nat → Bool), e = .returned v ∧ 1 ≤ m ∧ m ≤ 3 ∧ DrewPlan w g ao n cap f v m gc gt gu gd w' := by
  obtain ⟨i0, hi, hz0, hz1, hz2⟩ := infoPart4
  have hown0 := World.ownsRow_lit (base := w.heap.size) (e := 25) (size := 4) w #[] 0 (Nat.le_refl _) (Nat.zero_le _) rfl
  have hb0 : Below w.heap.size w (w.alloc (.cells #[] 25)) := (Below.refl _ _).alloc (Nat.le_refl _) _
  have hgl := hC.lt
  have HC : Hid (∀ a, ao = some a → 0 < n → a.block < w.heap.size) := hC.code
  have hC0 := hC.below hb0
  clear hC
  go_enter Try.func65, Try.ntmps65
  go_wp2_with fail
  refine (l1Below_any g ao n cap f 3 _ hn (by omega) (by omega) hC0).mono ?_
  rintro e w1 ⟨x, rfl, hx0, hx1, hC1, hO1⟩
  have hown1 := hown0.kept hO1.grown (Or.inr (fun e => by have := (hown0.lt g e).1; omega))
  have hB1 : But g w w1 := (But.ofBelow hb0).trans (But.ofOnly hO1)
  obtain ⟨M, rfl⟩ : ∃ M : Nat, x = M := ⟨x.toNat, by omega⟩
  have hD1 : DrewPlan w g ao n cap f (.slice (some ⟨w.heap.size, 0, none⟩) 0 0) 0 (fun _ => 0) (fun _ => 0) (fun _ => false) (fun _ => false) w1 := ⟨fun i hi => absurd hi (Nat.not_lt_zero _), by simp, hown1, hC1, hB1⟩
  clear hown0 hb0 hC0 hO1 hown1 hC1 hB1
  go_wp2
  go_loopg [3, 4] (1 + M) (fun q v i wr => ∃ (k m : Nat) (gc gt : Nat → Int) (gu gd : Nat → Bool), k + m = 1 + M ∧ k = q ∧ i = .int .i64 k ∧ DrewPlan w g ao n cap f v m gc gt gu gd wr)
  case atStart => exact ⟨1 + M, 0, _, _, _, _, by omega, rfl, by go_num, hD1⟩
  case round =>
    obtain ⟨k, m, gc, gt, gu, gd, hkm, hq, rfl, hD⟩ := hrel
    subst hq
    have hown := hD.own
    have HD : Hid (DrewPlan w g ao n cap f u3 m gc gt gu gd wr) := hD
    have hCr := hD.cur
    clear hD hD1
    by_cases hlt : 0 < k
    · have hkz : (0 : Int) < (k : Int) := by omega
      go_wp2_with fail
      refine (l1Below_any g ao n cap f 4 wr hn (by omega) (by omega) hCr).mono ?_
      rintro e w2 ⟨c, rfl, hc0, hc1, hC2, hO2⟩
      go_wp2_with fail
      refine (l5Draw_fit g ao n cap f c w2 hn (by unfold I64; omega) hC2).mono ?_
      rintro e w3 ⟨t, nul, d, rfl, ht, hP⟩
      have hBw3 : But g wr w3 := (But.ofOnly hO2).trans hP.but
      have hown3 := hown.kept hBw3.grown (Or.inr (fun e => by have := (hown.lt g e).1; omega))
      have hC3 := hP.cur
      have hB3 : But g w w3 := HD.out.but.trans hBw3
      have hs3 : w.heap.size ≤ w3.heap.size := hB3.size
      have hcl := cells_part w3 c t nul d
      have Ht : Hid (1 ≤ t ∧ t ≤ 4) := ht
      clear hO2 hC2 hP hCr hBw3 ht
      go_wp2_with (at_builtin; refine wpList_append_own _ rfl (.tmp 13) (.tmp 18) 38 rfl w.heap.size 25 i0 (.agg #[.int .i64 0, .int .i64 0, .bool false, .bool false]) 4 24 Try.underlying38 hi hz0 hz1 hz2 rfl (by decide) u3 _ _ rfl (hown3.alloc _) ⟨w3.heap.size, 0, none⟩ 1 1 [.int .i64 c, .int .i64 t, .bool nul, .bool d] rfl rfl hcl (one_part _ _ _ _) (by unfold maxLen; omega) (by omega) (by simp; omega) ?_; intro v4 w4 hown4 hgr4 hnil4)
      have hb4 : Below w3.heap.size w3 (w3.alloc (.cells #[.int .i64 c, .int .i64 t, .bool nul, .bool d] 25)) := (Below.refl _ _).alloc (Nat.le_refl _) _
      have hB4 : But g w w4 := by
        refine ⟨hgr4.os.trans hB3.os, hgr4.tape.trans hB3.tape, hgr4.output.trans hB3.output, Nat.le_trans hs3 (Nat.le_trans (by simp) hgr4.size), fun j hj hg => ?_⟩
        rw [hgr4.block j (by simp; omega) (fun e => by have := (hown.lt j e.symm).1; omega), Below.heap_alloc _ _ _ (by omega)]
        exact hB3.block j hj hg
      have hC4 : Cur w4 g ao n cap f := (hC3.below hb4).grown hgr4 (fun e => by have := (hown.lt g e).1; omega) (fun a ha h0 e => by have := (hown.lt _ e).1; have := HC.out a ha h0; omega)
      have HD4 : Hid (DrewPlan w g ao n cap f v4 (m + 1) (fun i => if i = m then c else gc i) (fun i => if i = m then t else gt i) (fun i => if i = m then nul else gu i) (fun i => if i = m then d else gd i) w4) := by
        refine ⟨fun i hi => ?_, fun e => HD.out.some (hnil4.1 e).1, ?_, hC4, hB4⟩
        · by_cases e : i = m
          · have := Ht.out
            rw [if_pos e, if_pos e]; omega
          · rw [if_neg e, if_neg e]; exact HD.out.ok i (by omega)
        · rw [rowP, if_pos rfl, if_pos rfl, if_pos rfl, if_pos rfl, rowP_congr (hc := gc) (ht := gt) (hu := gu) (hd := gd) (fun i hi => by rw [if_neg (by omega), if_neg (by omega), if_neg (by omega), if_neg (by omega)]; exact ⟨rfl, rfl, rfl, rfl⟩)]
          exact hown4
      clear hown hown3 hown4 hgr4 hnil4 hcl hC4 hB4 hb4 hB3 hC3 HD
      go_wp2
      go_roundg (k - 1)
      case measure => omega
      case rel => exact ⟨k - 1, m + 1, _, _, _, _, by omega, rfl, by go_num, HD4.out⟩
    · have hkz : ¬ (0 : Int) < (k : Int) := by omega
      clear hown hCr
      go_wp2
      go_ret
      exact ⟨_, rfl, m, by omega, by omega, gc, gt, gu, gd, HD.out⟩
end Go.Proofs.Ytikopeihkbpjhac

/-
  A slice of values that reads, by a function of the index, and how that is carried from one world to the next.
-/
namespace Go.Proofs.Ytikopeihkbpjhac
open Go.RowKit
set_option maxRecDepth 4000

/-- The slice value '.slice ao n cap' reads, in the world w, as the n values f 0 up to f (n - 1). -/
structure VView (w : World) (ao : Option Addr) (n cap : Nat) (fk fn : Nat → Int) (fs : Nat → ByteArray) : Prop where
  le : n ≤ cap
  cells : 0 < n → ∃ b off, ao = some ⟨b, off, none⟩ ∧ b < w.heap.size ∧ ∀ i, i < n → w.cell? ⟨b, off + i * 3, none⟩ = some (.int .i64 (fk i)) ∧ w.cell? ⟨b, off + i * 3 + 1, none⟩ = some (.int .i64 (fn i)) ∧ w.cell? ⟨b, off + i * 3 + 2, none⟩ = some (.string (fs i))

theorem VView.below {w w' : World} {ao : Option Addr} {n cap : Nat} {fk fn : Nat → Int} {fs : Nat → ByteArray} (h : VView w ao n cap fk fn fs) (hb : Below w.heap.size w w') : VView w' ao n cap fk fn fs := by
  refine ⟨h.le, fun hn => ?_⟩
  obtain ⟨b, off, e, hlt, hc⟩ := h.cells hn
  refine ⟨b, off, e, Nat.lt_of_lt_of_le hlt hb.size, fun i hi => ?_⟩
  rw [hb.cell (p := ⟨b, off + i * 3, none⟩) hlt, hb.cell (p := ⟨b, off + i * 3 + 1, none⟩) hlt, hb.cell (p := ⟨b, off + i * 3 + 2, none⟩) hlt]
  exact hc i hi

end Go.Proofs.Ytikopeihkbpjhac

/-
  Rows of values of the call's own, that grow by one value at a time.
-/
namespace Go.Proofs.Ytikopeihkbpjhac
open Go.RowKit
set_option maxRecDepth 4000

/-- The cells of the first k values. -/
def rowC (gk gn : Nat → Int) (gs : Nat → ByteArray) : Nat → List Value
  | 0 => []
  | k + 1 => rowC gk gn gs k ++ [.int .i64 (gk k), .int .i64 (gn k), .string (gs k)]
theorem rowC_len (gk gn : Nat → Int) (gs : Nat → ByteArray) : ∀ k, (rowC gk gn gs k).length = k * 3
  | 0 => rfl
  | k + 1 => by rw [rowC, List.length_append, rowC_len gk gn gs k]; simp; omega
theorem rowC_get (gk gn : Nat → Int) (gs : Nat → ByteArray) : ∀ k i, i < k → (rowC gk gn gs k)[i * 3]? = some (.int .i64 (gk i)) ∧ (rowC gk gn gs k)[i * 3 + 1]? = some (.int .i64 (gn i)) ∧ (rowC gk gn gs k)[i * 3 + 2]? = some (.string (gs i))
  | k + 1, i, hi => by
    have hl := rowC_len gk gn gs k
    by_cases e : i < k
    · obtain ⟨h1, h2, h3⟩ := rowC_get gk gn gs k i e
      rw [rowC, List.getElem?_append_left (by omega), List.getElem?_append_left (by omega), List.getElem?_append_left (by omega)]
      exact ⟨h1, h2, h3⟩
    · obtain rfl : i = k := by omega
      rw [rowC, List.getElem?_append_right (by omega), List.getElem?_append_right (by omega), List.getElem?_append_right (by omega), hl]
      simp [show i * 3 + 1 - i * 3 = 1 by omega, show i * 3 + 2 - i * 3 = 2 by omega]
theorem rowC_congr {gk gn : Nat → Int} {gs : Nat → ByteArray} {hk hn : Nat → Int} {hs : Nat → ByteArray} : ∀ {k : Nat}, (∀ i, i < k → gk i = hk i ∧ gn i = hn i ∧ gs i = hs i) → rowC gk gn gs k = rowC hk hn hs k
  | 0, _ => rfl
  | k + 1, e => by
    obtain ⟨h1, h2, h3⟩ := e k (by omega)
    rw [rowC, rowC, rowC_congr (fun i hi => e i (by omega)), h1, h2, h3]

/-- A row of values of the call's own reads. -/
theorem vview_of_own {w : World} {base : Nat} {v : Value} {N : Nat} {gk gn : Nat → Int} {gs : Nat → ByteArray} (h : w.ownsRow base 29 3 v N (rowC gk gn gs N)) : ∃ a c, v = .slice a N c ∧ VView w a N c gk gn gs ∧ (v ≠ .slice none 0 0 → ∃ g, a = some ⟨g, 0, none⟩ ∧ base ≤ g) := by
  obtain ⟨hl, h⟩ := h
  rcases h with ⟨rfl, h0⟩ | ⟨g, c, cur, rfl, hb, hg, hnc, _, hcs, ht⟩
  · have hN : N = 0 := by have := h0; have := rowC_len gk gn gs N; omega
    subst hN
    exact ⟨none, 0, rfl, ⟨Nat.le_refl _, fun hn => absurd hn (Nat.lt_irrefl _)⟩, fun hne => absurd rfl hne⟩
  · refine ⟨_, c, rfl, ⟨hnc, fun hn => ⟨g, 0, rfl, ?_, fun i hi => ?_⟩⟩, fun _ => ⟨g, rfl, hb⟩⟩
    · exact (Array.getElem?_eq_some_iff.1 hg).1
    · have key : ∀ j x, j < N * 3 → (rowC gk gn gs N)[j]? = some x → w.cell? ⟨g, 0 + j, none⟩ = some x := by
        intro j x hj hx
        rw [← ht, List.getElem?_take, if_pos hj] at hx
        simp only [World.cell?, hg, Nat.zero_add]
        simpa using hx
      obtain ⟨h1, h2, h3⟩ := rowC_get gk gn gs N i hi
      have k0 := key _ _ (by omega) h1
      have k1 := key _ _ (by omega) h2
      have k2 := key _ _ (by omega) h3
      simp only [Nat.zero_add] at k0 k1 k2 ⊢
      exact ⟨k0, k1, k2⟩
end Go.Proofs.Ytikopeihkbpjhac

/-
  A row of values grows by one value.
-/

namespace Go.Proofs.Ytikopeihkbpjhac
open Go.RowKit
set_option maxRecDepth 4000

theorem infoVal3 : ∃ i, Try.prog.info? 29 = some i ∧ i.zero = some (.agg #[.int .i64 0, .int .i64 0, .string ⟨#[]⟩]) ∧ i.size = 3 ∧ i.bytes = 32 := by
  have h : (Try.prog.info? 29).map (fun i => (i.zero, i.size, i.bytes)) = some (some (.agg #[.int .i64 0, .int .i64 0, .string ⟨#[]⟩]), 3, 32) := by kernel_rfl
  obtain ⟨i, hi, hz⟩ := Option.map_eq_some_iff.1 h
  simp only [Prod.mk.injEq] at hz
  exact ⟨i, hi, hz.1, hz.2.1, hz.2.2⟩

/-- The cells of a new row of one value. -/
theorem cells_one (W : World) (k n : Int) (s : ByteArray) : ∀ j u, [Value.int .i64 k, .int .i64 n, .string s][j]? = some u → (W.alloc (.cells #[.int .i64 k, .int .i64 n, .string s] 29)).cell? ((⟨W.heap.size, 0, none⟩ : Addr).add j) = some u := by
  intro j u h
  obtain ⟨c0, c1, c2⟩ := (Box.new W k n s).cells
  have ea : ∀ j, (⟨W.heap.size, 0, none⟩ : Addr).add j = ⟨W.heap.size, 0 + j, none⟩ := fun j => by unfold Addr.add; split <;> simp_all
  match j, h with
  | 0, h => cases h; rw [ea]; exact c0
  | 1, h => cases h; rw [ea]; exact c1
  | 2, h => cases h; rw [ea]; exact c2
  | j + 3, h => simp at h
theorem one_cells (k n : Int) (s : ByteArray) : ∀ u ∈ [Value.int .i64 k, .int .i64 n, .string s], u.oneCell' = true := by
  intro u hu
  simp at hu
  rcases hu with rfl | rfl | rfl <;> rfl

theorem own_below3 {w w' : World} {base : Nat} {t : TypeId} {v : Value} {n : Nat} {l : List Value} (h : w.ownsRow base t 3 v n l) (hb : Below w.heap.size w w') : w'.ownsRow base t 3 v n l := by
  refine h.kept (row := none) ⟨hb.os, hb.tape, hb.output, hb.size, fun k hk _ => hb.block k hk⟩ ?_
  cases hv : v.ownBlock with
  | none => exact Or.inl rfl
  | some k => exact Or.inr (fun e => by cases e)
/-- The value of a part's column. -/
def pickK (fc : Nat → Int) (m : Nat) (f : Nat → Int) (i : Nat) : Int := if 0 ≤ fc i ∧ fc i < m then f (fc i).toNat else 0
def pickS (fc : Nat → Int) (m : Nat) (f : Nat → ByteArray) (i : Nat) : ByteArray := if 0 ≤ fc i ∧ fc i < m then f (fc i).toNat else ⟨#[]⟩
end Go.Proofs.Ytikopeihkbpjhac

/-
  The draw of values for a plan: each fits its part.
-/
namespace Go.Proofs.Ytikopeihkbpjhac
open Go.RowKit
set_option maxRecDepth 4000

theorem l2Of_all (g : Nat) (ao : Option Addr) (n cap : Nat) (f : Nat → Int) (t : Int) (nul : Bool) (w : World) (hn : n ≤ 1048576) (ht : 1 ≤ t ∧ t ≤ 4) (hC : Cur w g ao n cap f) :
    Calls Try.prog 94 #[.pointer (some ⟨g, 0, none⟩), .int .i64 t, .bool nul] w fun e w' => ∃ (k m : Int) (s : ByteArray), e = .returned (.agg #[.int .i64 k, .int .i64 m, .string s]) ∧ DrewV w g ao n cap f k m s w' ∧ fitsP t nul k m s = true := by
  cases nul with
  | true => exact l2Of_fit g ao n cap f t w hn ht.1 ht.2 hC
  | false => exact l2Of_fitNo g ao n cap f t w hn ht.1 ht.2 hC

/-- Values that were drawn: m of them, each fits its part, in a row of the call's own. -/
structure DrewVals (w : World) (g : Nat) (ao : Option Addr) (n cap : Nat) (f : Nat → Int) (gt : Nat → Int) (gu : Nat → Bool) (v : Value) (m : Nat) (gk gn : Nat → Int) (gs : Nat → ByteArray) (w' : World) : Prop where
  fit : ∀ i, i < m → fitsP (gt i) (gu i) (gk i) (gn i) (gs i) = true
  some : v ≠ .slice none 0 0
  own : w'.ownsRow w.heap.size 29 3 v m (rowC gk gn gs m)
  cur : Cur w' g ao n cap f
  but : But g w w'

set_option linter.unusedSimpArgs false in
set_option maxHeartbeats 4000000 in
theorem l6Vals_any (g : Nat) (ao : Option Addr) (n cap : Nat) (f : Nat → Int) (a : Option Addr) (m cp : Nat) (gc gt : Nat → Int) (gu gd : Nat → Bool) (N : Nat) (w : World) (hn : n ≤ 1048576) (hC : Cur w g ao n cap f) (h : PView w a m cp gc gt gu gd) (hag : ∀ A, a = some A → A.block ≠ g) (ht : ∀ i, i < m → 1 ≤ gt i ∧ gt i ≤ 4) (hN : N ≤ m) (hm : m ≤ 1000) :
    Calls Try.prog 66 #[.pointer (some ⟨g, 0, none⟩), .slice a m cp, .int .i64 N] w fun e w' => ∃ (v : Value) (gk gn : Nat → Int) (gs : Nat → ByteArray), e = .returned v ∧ DrewVals w g ao n cap f gt gu v N gk gn gs w' := by
  obtain ⟨i0, hi, hz0, hz1, hz2⟩ := infoVal3
  have hown0 := World.ownsRow_lit (base := w.heap.size) (e := 29) (size := 3) w #[] 0 (Nat.le_refl _) (Nat.zero_le _) rfl
  have hb0 : Below w.heap.size w (w.alloc (.cells #[] 29)) := (Below.refl _ _).alloc (Nat.le_refl _) _
  have hgl := hC.lt
  have HC : Hid (∀ a, ao = some a → 0 < n → a.block < w.heap.size) := hC.code
  have hD0 : DrewVals w g ao n cap f gt gu (.slice (some ⟨w.heap.size, 0, none⟩) 0 0) 0 (fun _ => 0) (fun _ => 0) (fun _ => ⟨#[]⟩) (w.alloc (.cells #[] 29)) := ⟨fun i hi => absurd hi (Nat.not_lt_zero _), by simp, hown0, hC.below hb0, But.ofBelow hb0⟩
  clear hown0 hb0 hC
  go_enter Try.func66, Try.ntmps66
  go_wp2
  go_loopg [7, 8] N (fun q v i wr => ∃ (k : Nat) (gk gn : Nat → Int) (gs : Nat → ByteArray), k ≤ N ∧ q = N - k ∧ i = .int .i64 k ∧ DrewVals w g ao n cap f gt gu v k gk gn gs wr)
  case atStart => exact ⟨0, _, _, _, Nat.zero_le _, rfl, rfl, hD0⟩
  case round =>
    obtain ⟨k, gk, gn, gs, hk, rfl, rfl, hD⟩ := hrel
    have hown := hD.own
    have HD : Hid (DrewVals w g ao n cap f gt gu u7 k gk gn gs wr) := hD
    have hCr := hD.cur
    clear hD hD0
    by_cases hlt : k < N
    · have hkz : (k : Int) < (N : Int) := by omega
      have hkm : (k : Int) < (m : Int) := by omega
      obtain ⟨b1, o1, rfl, hb1, hd1⟩ := h.cells (by omega)
      obtain ⟨-, y1, y2, -⟩ := hd1 k (by omega)
      have hbg : b1 ≠ g := hag _ rfl
      have x1 : wr.cell? ⟨b1, o1 + k * 4 + 1, none⟩ = some (.int .i64 (gt k)) := by rw [World.cell?_of_block (w := w) (HD.out.but.block b1 hb1 hbg)]; exact y1
      have x2 : wr.cell? ⟨b1, o1 + k * 4 + 2, none⟩ = some (.bool (gu k)) := by rw [World.cell?_of_block (w := w) (HD.out.but.block b1 hb1 hbg)]; exact y2
      have htk := ht k (by omega)
      obtain ⟨t, hteq⟩ : ∃ t, Hid (gt k = t) := ⟨_, rfl⟩
      obtain ⟨nul, hueq⟩ : ∃ u, Hid (gu k = u) := ⟨_, rfl⟩
      rw [hteq.out] at x1 htk
      rw [hueq.out] at x2
      clear hd1 y1 y2 h hag ht
      have hbwr : b1 < wr.heap.size := Nat.lt_of_lt_of_le hb1 HD.out.but.size
      have hCd : Cur wr.drew g ao n cap f := hCr.below ((Below.refl _ _).drew)
      go_wp2_with fail
      refine wp_region_held_drew (S := fun W => W.cell? ⟨b1, o1 + k * 4 + 1, none⟩ = some (.int .i64 t) ∧ W.cell? ⟨b1, o1 + k * 4 + 2, none⟩ = some (.bool nul)) (by kernel_rfl) (⟨x1, x2⟩) (fun hHeld => ?_)
      refine' wpAnyH_take (i := 0) (v := _) rfl (by kernel_rfl) (by kernel_rfl) (by kernel_rfl) (fun _ _ _ h => h) (Or.inl ⟨by kernel_rfl, ?ha0⟩) (by assumption) ?ra0
      case ha0 => intro W hW; obtain ⟨d1, d2⟩ := hW; go_simp; all_goals with_reducible rfl
      change wpAnyH _ _ _ _ _ _ _ (Act.put _ (some 21) _) _
      simp only [Act.put, List.setIfInBounds_toArray, List.set_cons_zero, List.set_cons_succ]
      refine' wpAnyH_take (i := 1) (v := _) rfl (by kernel_rfl) (by kernel_rfl) (by kernel_rfl) (fun _ _ _ h => h) (Or.inl ⟨by kernel_rfl, ?ha1⟩) (by assumption) ?ra1
      case ha1 => intro W hW; obtain ⟨d1, d2⟩ := hW; go_simp; all_goals with_reducible rfl
      change wpAnyH _ _ _ _ _ _ _ (Act.put _ (some 22) _) _
      simp only [Act.put, List.setIfInBounds_toArray, List.set_cons_zero, List.set_cons_succ]
      refine' wpAnyH_take (i := 2) (v := _) rfl (by kernel_rfl) (by kernel_rfl) (by kernel_rfl) (fun _ _ _ h => h) (Or.inl ⟨by kernel_rfl, ?ha2⟩) (by assumption) ?ra2
      case ha2 => intro W hW; obtain ⟨d1, d2⟩ := hW; go_simp; all_goals with_reducible rfl
      change wpAnyH _ _ _ _ _ _ _ (Act.put _ (some 23) _) _
      simp only [Act.put, List.setIfInBounds_toArray, List.set_cons_zero, List.set_cons_succ]
      refine' wpAnyH_take (i := 3) (v := _) rfl (by kernel_rfl) (by kernel_rfl) (by kernel_rfl) (fun _ _ _ h => h) (Or.inl ⟨by kernel_rfl, ?ha3⟩) (by assumption) ?ra3
      case ha3 => intro W hW; obtain ⟨d1, d2⟩ := hW; go_simp; all_goals with_reducible rfl
      change wpAnyH _ _ _ _ _ _ _ (Act.put _ (some 24) _) _
      simp only [Act.put, List.setIfInBounds_toArray, List.set_cons_zero, List.set_cons_succ]
      refine' wpAnyH_take (i := 4) (v := _) rfl (by kernel_rfl) (by kernel_rfl) (by kernel_rfl) (fun _ _ _ h => h) (Or.inl ⟨by kernel_rfl, ?ha4⟩) (by assumption) ?ra4
      case ha4 => intro W hW; obtain ⟨d1, d2⟩ := hW; go_simp; all_goals with_reducible rfl
      change wpAnyH _ _ _ _ _ _ _ (Act.put _ (some 25) _) _
      simp only [Act.put, List.setIfInBounds_toArray, List.set_cons_zero, List.set_cons_succ]
      refine' wpAnyH_take (i := 5) (v := _) rfl (by kernel_rfl) (by kernel_rfl) (by kernel_rfl) (fun _ _ _ h => h) (Or.inl ⟨by kernel_rfl, ?ha5⟩) (by assumption) ?ra5
      case ha5 => intro W hW; obtain ⟨d1, d2⟩ := hW; go_simp; all_goals with_reducible rfl
      change wpAnyH _ _ _ _ _ _ _ (Act.put _ (some 26) _) _
      simp only [Act.put, List.setIfInBounds_toArray, List.set_cons_zero, List.set_cons_succ]
      refine' wpAnyH_take (i := 6) (v := _) rfl (by kernel_rfl) (by kernel_rfl) (by kernel_rfl) (fun _ _ _ h => h) (Or.inl ⟨by kernel_rfl, ?ha6⟩) (by assumption) ?ra6
      case ha6 => intro W hW; obtain ⟨d1, d2⟩ := hW; go_simp; all_goals with_reducible rfl
      change wpAnyH _ _ _ _ _ _ _ (Act.put _ (some 27) _) _
      simp only [Act.put, List.setIfInBounds_toArray, List.set_cons_zero, List.set_cons_succ]
      refine' wpAnyH_take (i := 7) (v := _) rfl (by kernel_rfl) (by kernel_rfl) (by kernel_rfl) (fun _ _ _ h => h) (Or.inl ⟨by kernel_rfl, ?ha7⟩) (by assumption) ?ra7
      case ha7 => intro W hW; obtain ⟨d1, d2⟩ := hW; go_simp; all_goals with_reducible rfl
      change wpAnyH _ _ _ _ _ _ _ (Act.put _ (some 28) _) _
      simp only [Act.put, List.setIfInBounds_toArray, List.set_cons_zero, List.set_cons_succ]
      refine' wpAnyH_take (i := 8) (v := _) rfl (by kernel_rfl) (by kernel_rfl) (by kernel_rfl) (fun _ _ _ h => h) (Or.inl ⟨by kernel_rfl, ?ha8⟩) (by assumption) ?ra8
      case ha8 => intro W hW; obtain ⟨d1, d2⟩ := hW; go_simp; all_goals with_reducible rfl
      change wpAnyH _ _ _ _ _ _ _ (Act.put _ (some 29) _) _
      simp only [Act.put, List.setIfInBounds_toArray, List.set_cons_zero, List.set_cons_succ]
      refine' wpAnyH_take (i := 9) (v := _) rfl (by kernel_rfl) (by kernel_rfl) (by kernel_rfl) (fun _ _ _ h => h) (Or.inl ⟨by kernel_rfl, ?ha9⟩) (by assumption) ?ra9
      case ha9 => intro W hW; obtain ⟨d1, d2⟩ := hW; go_simp; all_goals with_reducible rfl
      change wpAnyH _ _ _ _ _ _ _ (Act.put _ (some 30) _) _
      simp only [Act.put, List.setIfInBounds_toArray, List.set_cons_zero, List.set_cons_succ]
      refine' wpAnyH_take (i := 10) (v := _) rfl (by kernel_rfl) (by kernel_rfl) (by kernel_rfl) (fun _ _ _ h => h) (Or.inl ⟨by kernel_rfl, ?ha10⟩) (by assumption) ?ra10
      case ha10 => intro W hW; obtain ⟨d1, d2⟩ := hW; go_simp; all_goals with_reducible rfl
      change wpAnyH _ _ _ _ _ _ _ (Act.put _ (some 31) _) _
      simp only [Act.put, List.setIfInBounds_toArray, List.set_cons_zero, List.set_cons_succ]
      refine' wpAnyH_take (i := 11) (v := _) rfl (by kernel_rfl) (by kernel_rfl) (by kernel_rfl) (fun _ _ _ h => h) (Or.inl ⟨by kernel_rfl, ?ha11⟩) (by assumption) ?ra11
      case ha11 => intro W hW; obtain ⟨d1, d2⟩ := hW; go_simp; all_goals with_reducible rfl
      change wpAnyH _ _ _ _ _ _ _ (Act.put _ (some 32) _) _
      simp only [Act.put, List.setIfInBounds_toArray, List.set_cons_zero, List.set_cons_succ]
      refine wpAnyH_ready (rs := [12]) (by kernel_rfl) (by simp) ?_
      refine AllReadyH.cons rfl (fun KK hK => ?_) AllReadyH.nil
      go_simp
      refine (l2Of_all g ao n cap f t nul _ hn htk hCd).mono ?_
      rintro e w3 ⟨kk, y, s, rfl, hV, hfit⟩
      have hBw3 : But g wr w3 := (But.ofBelow ((Below.refl _ _).drew)).trans hV.but
      have x13 : w3.cell? ⟨b1, o1 + k * 4 + 1, none⟩ = some (.int .i64 t) := by rw [World.cell?_of_block (w := wr) (hBw3.block b1 hbwr hbg)]; exact x1
      have x23 : w3.cell? ⟨b1, o1 + k * 4 + 2, none⟩ = some (.bool nul) := by rw [World.cell?_of_block (w := wr) (hBw3.block b1 hbwr hbg)]; exact x2
      have hown3 := hown.kept hBw3.grown (Or.inr (fun e => by have := (hown.lt g e).1; omega))
      have hC3 := hV.cur
      have hB3 : But g w w3 := HD.out.but.trans hBw3
      have hs3 : w.heap.size ≤ w3.heap.size := hB3.size
      have hb13 : b1 < w3.heap.size := by omega
      have Hf : Hid (fitsP t nul kk y s = true) := hfit
      clear hfit hV hCr hCd
      go_wp2_with fail
      refine hK.out _ _ ⟨x13, x23⟩ (fun hHeld => ?_)
      clear hK KK
      try simp only [Act.put, List.setIfInBounds_toArray, List.set_cons_zero, List.set_cons_succ]
      refine wpAnyH_ready (rs := [13]) (by kernel_rfl) (by simp) ?_
      refine AllReadyH.cons rfl (fun KK hK => ?_) AllReadyH.nil
      go_simp
      have hb4 : Below w3.heap.size w3 (w3.alloc (.cells #[.int .i64 kk, .int .i64 y, .string s] 29)) := (Below.refl _ _).alloc (Nat.le_refl _) _
      refine hK.out _ _ ⟨by rw [hb4.cell hb13]; exact x13, by rw [hb4.cell hb13]; exact x23⟩ (fun hHeld => ?_)
      clear hK KK
      try simp only [Act.put, List.setIfInBounds_toArray, List.set_cons_zero, List.set_cons_succ]
      refine wpAnyH_ready (rs := [14]) (by kernel_rfl) (by simp) ?_
      refine AllReadyH.cons rfl (fun KK hK => ?_) AllReadyH.nil
      rw [if_pos (by kernel_rfl)]
      refine wp_append_own _ (.tmp 21) (.tmp 34) 39 rfl w.heap.size 29 i0 (.agg #[.int .i64 0, .int .i64 0, .string ⟨#[]⟩]) 3 32 Try.underlying39 hi hz0 hz1 hz2 rfl (by decide) u7 _ _ rfl (hown3.alloc _) ⟨w3.heap.size, 0, none⟩ 1 1 [.int .i64 kk, .int .i64 y, .string s] rfl rfl (cells_one w3 kk y s) (one_cells _ _ _) (by unfold maxLen; omega) (by omega) (by simp; omega) ?_
      intro v4 w4 hown4 hgr4 hnil4
      have hb14 : b1 < (w3.alloc (.cells #[.int .i64 kk, .int .i64 y, .string s] 29)).heap.size := by simp; omega
      have hbo : some b1 ≠ u7.ownBlock := fun e => by have := (hown.lt b1 e.symm).1; omega
      refine hK.out _ _ ⟨by rw [World.cell?_of_block (w := w3.alloc (.cells #[.int .i64 kk, .int .i64 y, .string s] 29)) (hgr4.block b1 hb14 hbo), hb4.cell hb13]; exact x13, by rw [World.cell?_of_block (w := w3.alloc (.cells #[.int .i64 kk, .int .i64 y, .string s] 29)) (hgr4.block b1 hb14 hbo), hb4.cell hb13]; exact x23⟩ (fun hHeld => ?_)
      clear hK KK
      change wpAnyH _ _ _ _ _ _ _ (Act.put _ (some 35) _) _
      try simp only [Act.put, List.setIfInBounds_toArray, List.set_cons_zero, List.set_cons_succ]
      refine' wpAnyH_take (i := 15) (v := _) rfl (by kernel_rfl) (by kernel_rfl) (by kernel_rfl) (fun _ _ _ h => h) (Or.inl ⟨by kernel_rfl, ?ha15⟩) (by assumption) ?ra15
      case ha15 => intro W hW; obtain ⟨d1, d2⟩ := hW; go_simp; all_goals with_reducible rfl
      change wpAnyH _ _ _ _ _ _ _ (Act.put _ (some 7) _) _
      simp only [Act.put, List.setIfInBounds_toArray, List.set_cons_zero, List.set_cons_succ]
      refine wpAnyH_done (by kernel_rfl) ?_ _
      have hB4 : But g w w4 := by
        refine ⟨hgr4.os.trans hB3.os, hgr4.tape.trans hB3.tape, hgr4.output.trans hB3.output, Nat.le_trans hs3 (Nat.le_trans (by simp) hgr4.size), fun j hj hg => ?_⟩
        rw [hgr4.block j (by simp; omega) (fun e => by have := (hown.lt j e.symm).1; omega), Below.heap_alloc _ _ _ (by omega)]
        exact hB3.block j hj hg
      have hC4 : Cur w4 g ao n cap f := (hC3.below hb4).grown hgr4 (fun e => by have := (hown.lt g e).1; omega) (fun a ha h0 e => by have := (hown.lt _ e).1; have := HC.out a ha h0; omega)
      have HD4 : Hid (DrewVals w g ao n cap f gt gu v4 (k + 1) (fun i => if i = k then kk else gk i) (fun i => if i = k then y else gn i) (fun i => if i = k then s else gs i) w4) := by
        refine ⟨fun i hi => ?_, fun e => HD.out.some (hnil4.1 e).1, ?_, hC4, hB4⟩
        · by_cases e : i = k
          · subst e
            rw [if_pos rfl, if_pos rfl, if_pos rfl, hteq.out, hueq.out]; exact Hf.out
          · rw [if_neg e, if_neg e, if_neg e]; exact HD.out.fit i (by omega)
        · rw [rowC, if_pos rfl, if_pos rfl, if_pos rfl, rowC_congr (hk := gk) (hn := gn) (hs := gs) (fun i hi => by rw [if_neg (by omega), if_neg (by omega), if_neg (by omega)]; exact ⟨rfl, rfl, rfl⟩)]
          exact hown4
      clear hown hown3 hown4 hgr4 hnil4 hC4 hB4 hb4 hB3 hC3 HD x1 x2 x13 x23 hHeld
      go_wp2
      go_roundg (N - (k + 1))
      case measure => omega
      case rel => exact ⟨k + 1, _, _, _, by omega, rfl, by go_num, HD4.out⟩
    · have hkz : ¬ (k : Int) < (N : Int) := by omega
      obtain rfl : k = N := by omega
      clear hown hCr
      go_wp2
      go_ret
      exact ⟨_, rfl, gk, gn, gs, HD.out⟩
end Go.Proofs.Ytikopeihkbpjhac

/-
  A new cursor, at an address that is named.
-/
namespace Go.Proofs.Ytikopeihkbpjhac
open Go.RowKit
set_option maxRecDepth 4000

theorem l1New_at (A : Nat) (ao : Option Addr) (n cap : Nat) (f : Nat → Int) (w : World) (hA : A = w.heap.size) (hn : n ≤ 1048576) (hv : View w ao n cap f) :
    Calls Try.prog 46 #[.slice ao n cap] w fun e w' => e = .returned (.pointer (some ⟨A, 0, none⟩)) ∧ Cur w' A ao n cap f ∧ Below w.heap.size w w' := by
  subst hA
  exact l1New_any ao n cap f w hn hv
end Go.Proofs.Ytikopeihkbpjhac

/-
  Parts and values that read, behind a draw.
-/
namespace Go.Proofs.Ytikopeihkbpjhac
open Go.RowKit
set_option maxRecDepth 4000

theorem PView.but {w w' : World} {g : Nat} {a : Option Addr} {n cap : Nat} {fc ft : Nat → Int} {fu fd : Nat → Bool} (h : PView w a n cap fc ft fu fd) (hb : But g w w') (hne : ∀ A, a = some A → A.block ≠ g) : PView w' a n cap fc ft fu fd := by
  refine ⟨h.le, fun hn => ?_⟩
  obtain ⟨b, off, e, hlt, hc⟩ := h.cells hn
  refine ⟨b, off, e, Nat.lt_of_lt_of_le hlt hb.size, fun i hi => ?_⟩
  have hk := hb.block b hlt (hne _ e)
  have ec : ∀ j, w'.cell? ⟨b, j, none⟩ = w.cell? ⟨b, j, none⟩ := fun j => World.cell?_of_block hk
  rw [ec, ec, ec, ec]
  exact hc i hi
theorem VView.but {w w' : World} {g : Nat} {a : Option Addr} {n cap : Nat} {fk fn : Nat → Int} {fs : Nat → ByteArray} (h : VView w a n cap fk fn fs) (hb : But g w w') (hne : ∀ A, a = some A → A.block ≠ g) : VView w' a n cap fk fn fs := by
  refine ⟨h.le, fun hn => ?_⟩
  obtain ⟨b, off, e, hlt, hc⟩ := h.cells hn
  refine ⟨b, off, e, Nat.lt_of_lt_of_le hlt hb.size, fun i hi => ?_⟩
  have hk := hb.block b hlt (hne _ e)
  have ec : ∀ j, w'.cell? ⟨b, j, none⟩ = w.cell? ⟨b, j, none⟩ := fun j => World.cell?_of_block hk
  rw [ec, ec, ec]
  exact hc i hi
end Go.Proofs.Ytikopeihkbpjhac

