/-
  Together: PutVarSpec, PutEscSpec
-/
import Derived.Test.YtjoimkfpenbkmabGreatDoorFlipWalks
import Derived.Test.YtjoimkfpenbkmabGreatDoorPackK10
import Derived.Test.YtjoimkfpenbkmabGreatDoorPackK1
import Derived.Test.YtjoimkfpenbkmabGreatDoorPackK11
import Derived.WalkSpells
/-
  The model's l4Bytes and PutVar: what was there, and behind it the number's bytes, in memory of its own.
-/
namespace Go.Proofs.YtjoimkfpenbkmabGreatDoor
open Go.RowKit
set_option maxRecDepth 4000

theorem be_step (k : Nat) (n : Int) : lof (1 + k) (be (1 + k) n) = (n / 256 ^ k % 256) :: lof k (be k n) := by
  rw [lof_cons]
  unfold be dg
  rw [show 1 + k - 1 - 0 = k by omega]
  congr 2
  funext i
  rw [show 1 + k - 1 - (i + 1) = k - 1 - i by omega]

/-- k bytes of the number stand. -/
structure Bytes (t : TypeId) (w wr : World) (s : Int) (k g c : Nat) : Prop where
  low : 0 < k → 256 ^ (k - 1) ≤ s
  le : k ≤ c
  new : w.heap.size ≤ g
  row : Row t wr g k (be k s)
  below : Below w.heap.size w wr
theorem Bytes.view {t : TypeId} {w wr : World} {s : Int} {k g c : Nat} (h : Bytes t w wr s k g c) : View wr (some ⟨g, 0, none⟩) k c (be k s) := h.row.view h.le (fun i _ => be_bd _ _ i)

set_option maxHeartbeats 1000000 in
theorem l4Bytes_of (s : Int) (w : World) (hs0 : 0 ≤ s) (hs1 : s < 72057594037927936) :
    Calls Tryz.prog 101 #[.int .i64 s] w fun e w' => ∃ g c, e = .returned (.slice (some ⟨g, 0, none⟩) (cnt s) c) ∧ View w' (some ⟨g, 0, none⟩) (cnt s) c (be (cnt s) s) ∧ Below w.heap.size w w' := by
  obtain ⟨i0, hi, hz0, hz1, hz2⟩ := info_parts Tryz.info5
  have hB0 : Hid (Bytes 5 w (w.alloc (.cells #[] 5)) s 0 w.heap.size 0) :=
    ⟨fun h => absurd h (Nat.lt_irrefl _), Nat.le_refl _, Nat.le_refl _, Row.ofIs (World.rowIs_alloc w #[] 5 _ (fun j hj => absurd hj (Nat.not_lt_zero _))), (Below.refl _ _).alloc (Nat.le_refl _) _⟩
  go_enter Tryz.func101, Tryz.ntmps101
  go_wp2
  go_loopg [0, 3] (s.toNat + 1) (fun q a v wr => ∃ k g c : Nat, k ≤ 7 ∧ q = (s / 256 ^ k).toNat + 1 ∧ a = .int .i64 (s / 256 ^ k) ∧ v = .slice (some ⟨g, 0, none⟩) k c ∧ Bytes 5 w wr s k g c)
  case atStart => exact ⟨0, w.heap.size, 0, by omega, by simp, by simp, rfl, hB0.out⟩
  case round =>
    obtain ⟨k, g, c, hk, rfl, rfl, rfl, hB⟩ := hrel
    clear hB0
    have ha0 : 0 ≤ s / 256 ^ k := Int.ediv_nonneg hs0 (Int.le_of_lt (Int.pow_pos (by decide)))
    have ha1 : s / 256 ^ k ≤ s := Int.ediv_le_self _ hs0
    by_cases h0 : s / 256 ^ k = 0
    · have hlt : s < 256 ^ k := by
        have := Int.lt_mul_ediv_self_add (x := s) (k := 256 ^ k) (Int.pow_pos (by decide))
        rw [h0] at this
        simpa using this
      have hc : Hid (cnt s = k) := cnt_is s k hk hlt hB.low
      have hV := hB.view
      have hb := hB.below
      clear hB hlt ha0 ha1
      go_wp2
      go_ret
      exact ⟨g, c, by rw [hc.out]; rfl, by rw [hc.out]; exact hV, hb⟩
    · have hge : 256 ^ k ≤ s := by
        by_cases hh : 256 ^ k ≤ s
        · exact hh
        · exact absurd (Int.ediv_eq_zero_of_lt hs0 (by omega)) h0
      have hk6 : k < 7 := by
        by_cases hh : k < 7
        · exact hh
        · have := pow_mono (a := 7) (b := k) (by omega)
          have e : (256 : Int) ^ 7 = 72057594037927936 := by decide
          omega
      have HN : Hid (s / 256 ^ k / 256 = s / 256 ^ (1 + k)) := by show _ = _; rw [div_pow_succ, Nat.add_comm]
      have HL : Hid (lof (1 + k) (be (1 + k) s) = (s / 256 ^ k % 256) :: lof k (be k s)) := be_step k s
      have HG : Hid (256 ^ k ≤ s) := hge
      have hpos : 0 < s / 256 ^ k := by omega
      have hnew := hB.new
      have hb := hB.below
      have hsz := hb.size
      have hV : ∀ o, View (wr.alloc o) (some ⟨g, 0, none⟩) k c (be k s) := fun o => hB.view.below ((Below.refl _ _).alloc (Nat.le_refl _) _)
      clear hB h0 hge
      generalize s / 256 ^ k = a at *
      have hown0 := World.ownsRow_lit (base := w.heap.size) (e := 5) (size := 1) wr #[.int .u8 (a % 256)] 1 (by omega) (by unfold maxLen; omega) rfl
      have hcl := cells_of_view (hV (.cells #[.int .u8 (a % 256)] 5))
      go_wp2_with (at_builtin; go_must (refine wpList_append_own _ rfl (.tmp 9) (.tmp 10) 26 rfl w.heap.size 5 i0 (.int .u8 0) 1 1 Tryz.underlying26 hi hz0 hz1 hz2 rfl (by decide) (.slice (some ⟨wr.heap.size, 0, none⟩) 1 1) 1 [.int .u8 (a % 256)] rfl hown0 ⟨g, 0, none⟩ k c (bl (lof k (be k s))) rfl (by rw [bl_len, lof_len]; omega) hcl (bl_one _) (by unfold maxLen; omega) (by omega) (by simp; omega) ?_); intro v1 w1 hown1 hgr1 hnil)
      have hO : w1.ownsRow w.heap.size 5 1 v1 (1 + k) (bl ((a % 256) :: lof k (be k s))) := hown1
      obtain ⟨g1, c1, rfl, hg1, hc1, hr1⟩ := row_of_own hO (by omega)
      have hB1 : Hid (Bytes 5 w w1 s (1 + k) g1 c1) := by
        refine ⟨fun _ => by rw [Nat.add_sub_cancel_left]; exact HG.out, hc1, hg1, hr1.congr (fun i hi => ?_), ?_⟩
        · rw [← HL.out, lof_get (1 + k) _ i hi]
        · exact (hb.alloc hsz _).grown hgr1 (by simp; omega) (fun j hj => by simp only [Value.ownBlock, Option.some.injEq] at hj; omega)
      clear hown1 hO hgr1 hnil hr1 hown0 hcl hV hb
      go_wp2
      go_roundg ((a / 256).toNat + 1)
      case measure => omega
      case rel => exact ⟨1 + k, g1, c1, by omega, by rw [HN.out], by rw [HN.out], rfl, hB1.out⟩
theorem keptL_up (y : Int) (h : 0 ≤ y) : keptL y = (128 + (cnt y : Int)) :: lof (cnt y) (be (cnt y) y) := by
  have e : sizeV y = y := by unfold sizeV; rw [if_neg (by omega)]
  unfold keptL headV
  rw [e, if_neg (by omega)]
  congr 1
  unfold lof
  apply List.map_congr_left
  intro i _
  unfold tailV
  rw [e, if_neg (by omega)]
theorem keptL_down (y : Int) (h : y < 0) : keptL y = (127 - (cnt (-1 - y) : Int)) :: lof (cnt (-1 - y)) (flipF (be (cnt (-1 - y)) (-1 - y)) 0) := by
  have e : sizeV y = -1 - y := by unfold sizeV; rw [if_pos h]
  unfold keptL headV
  rw [e, if_pos h]
  congr 1
  unfold lof
  apply List.map_congr_left
  intro i _
  unfold tailV flipF
  rw [e, if_pos h, if_pos (by omega)]

theorem l4Bytes_any (s : Int) (k : Nat) (w : World) (hs0 : 0 ≤ s) (hs1 : s < 72057594037927936) (hk : cnt s = k) :
    Calls Tryz.prog 101 #[.int .i64 s] w fun e w' => ∃ g c, e = .returned (.slice (some ⟨g, 0, none⟩) k c) ∧ View w' (some ⟨g, 0, none⟩) k c (be k s) ∧ Below w.heap.size w w' := by
  subst hk
  exact l4Bytes_of s w hs0 hs1
theorem Below.grownAll {w w' : World} (h : Below w.heap.size w w') : w.grownBy w' none := ⟨h.os, h.tape, h.output, h.size, fun k hk _ => h.block k hk⟩

theorem own_below {w w' : World} {base : Nat} {t : TypeId} {v : Value} {n : Nat} {l : List Value} (h : w.ownsRow base t 1 v n l) (hb : Below w.heap.size w w') : w'.ownsRow base t 1 v n l := by
  refine h.kept (Below.grownAll hb) ?_
  cases hv : v.ownBlock with
  | none => exact Or.inl rfl
  | some k => exact Or.inr (fun e => by cases e)
theorem var_done {w w' : World} {B : Nat} {t : TypeId} {v : Value} {n k : Nat} {f F : Nat → Int} (z : Int) (h : w'.ownsRow B t 1 v (n + 1 + k) (bl (lof n f) ++ [.int .u8 z] ++ bl (lof k F))) (hs : w.heap.size ≤ B) :
    w'.ownsRow w.heap.size t 1 v (n + (z :: lof k F).length) (bl (lof n f ++ z :: lof k F)) := by
  have e1 : n + (z :: lof k F).length = n + 1 + k := by rw [List.length_cons, lof_len]; omega
  have e2 : bl (lof n f ++ z :: lof k F) = bl (lof n f) ++ [.int .u8 z] ++ bl (lof k F) := by
    rw [bl_append, List.append_assoc]
    rfl
  rw [e1, e2]
  obtain ⟨h1, h2⟩ := h
  refine ⟨h1, ?_⟩
  rcases h2 with h2 | ⟨g, cap, cur, rfl, hB, r⟩
  · exact Or.inl h2
  · exact Or.inr ⟨g, cap, cur, rfl, Nat.le_trans hs hB, r⟩

set_option maxHeartbeats 1000000 in
theorem putVar_own (b off n cap : Nat) (f : Nat → Int) (x : Int) (w : World) (hv : View w (some ⟨b, off, none⟩) n cap f) (hn : n ≤ 70368744170000) (hx0 : -9223372036854775808 ≤ x) (hx1 : x ≤ 9223372036854775807) :
    Calls Tryz.prog 70 #[.slice (some ⟨b, off, none⟩) n cap, .int .i64 x] w fun e w' => ∃ v, e = .returned v ∧ w'.ownsRow w.heap.size 5 1 v (n + (varL x).length) (bl (lof n f ++ varL x)) ∧ Below w.heap.size w w' := by
  obtain ⟨i0, hi, hz0, hz1, hz2⟩ := info_parts Tryz.info5
  have hcase : (1000000000000000 < x ∧ clampV x = 1000000000000000) ∨ (x < -1000000000000000 ∧ clampV x = -1000000000000000) ∨ (0 ≤ x ∧ x ≤ 1000000000000000 ∧ clampV x = x) ∨ (-1000000000000000 ≤ x ∧ x < 0 ∧ clampV x = x) := by
    unfold clampV; (repeat' split) <;> omega
  unfold varL
  rcases hcase with ⟨h1, hy⟩ | ⟨h1, hy⟩ | ⟨h1, h2, hy⟩ | ⟨h1, h2, hy⟩
  all_goals
    rw [hy]
    clear hy
  ·
    obtain ⟨k, hk⟩ : ∃ k, Hid (cnt (1000000000000000) = k) := ⟨_, rfl⟩
    have hk7 : k ≤ 7 := by rw [← hk.out]; exact cnt_le _
    have HK : Hid (keptL (1000000000000000) = (128 + (k : Int)) :: lof k (be k (1000000000000000))) := by
      have h := keptL_up (1000000000000000) (by omega)
      have e : cnt (1000000000000000) = k := hk.out
      rw [e] at h
      exact h
    go_enter Tryz.func70, Tryz.ntmps70
    go_wp2_with fail
    refine (l4Bytes_any (1000000000000000) k w (by omega) (by omega) hk.out).mono ?_
    rintro e w0 ⟨g, c, rfl, hV, hb⟩
    have hsz := hb.size
    have hown0 := World.ownsRow_lit (base := w0.heap.size) (e := 5) (size := 1) w0 #[] 0 (Nat.le_refl _) (Nat.zero_le _) rfl
    have hcl := cells_of_view ((hv.below hb).below ((Below.refl w0.heap.size w0).alloc (Nat.le_refl _) (.cells #[] 5)))
    go_wp2_with (first | (at_builtin; refine wpList_append_own _ rfl (.tmp 15) (.tmp 16) 26 rfl w0.heap.size 5 i0 (.int .u8 0) 1 1 Tryz.underlying26 hi hz0 hz1 hz2 rfl (by decide) (.slice (some ⟨w0.heap.size, 0, none⟩) 0 0) 0 [] rfl hown0 ⟨b, off, none⟩ n cap (bl (lof n f)) rfl (by rw [bl_len, lof_len]; omega) hcl (bl_one _) (by unfold maxLen; omega) (by omega) (by simp) ?_; intro v1 w1 hown1 hgr1 hnil1; simp only [Nat.zero_add, List.nil_append] at hown1; have hb1 : Below w0.heap.size w0 w1 := ((Below.refl _ _).alloc (Nat.le_refl _) _).grown hgr1 (by simp) (fun k hk => by simp only [Value.ownBlock, Option.some.injEq] at hk; omega); have hs1 := hb1.size; clear hown0 hcl hgr1 hnil1) | (at_builtin; refine wpList_append_own _ rfl (.tmp 17) (.tmp 22) 26 rfl w0.heap.size 5 i0 (.int .u8 0) 1 1 Tryz.underlying26 hi hz0 hz1 hz2 rfl (by decide) v1 _ _ rfl (hown1.alloc _) ⟨w1.heap.size, 0, none⟩ 1 1 [.int .u8 (128 + (k : Int))] rfl rfl (cellNew _ _ _) (bl_one [128 + (k : Int)]) (by unfold maxLen; omega) (by omega) (by simp; omega) ?_; intro v2 w2 hown2 hgr2 hnil2; have hb2 : Below w0.heap.size w0 w2 := (hb1.alloc hs1 _).grown hgr2 (by simp; omega) (fun k hk => (hown1.lt k hk).1); have hV2 := hV.below hb2; have hs2 := hb2.size; clear hgr2 hnil2 hb1 hown1) | (at_builtin; refine wpList_append_own _ rfl (.tmp 23) (.tmp 24) 26 rfl w0.heap.size 5 i0 (.int .u8 0) 1 1 Tryz.underlying26 hi hz0 hz1 hz2 rfl (by decide) v2 _ _ rfl hown2 ⟨g, 0, none⟩ k c (bl (lof k (be k (1000000000000000)))) rfl (by rw [bl_len, lof_len]; omega) (cells_of_view hV2) (bl_one _) (by unfold maxLen; omega) (by omega) (by omega) ?_; intro v4 w4 hown4 hgr4 hnil4; have hb4 : Below w0.heap.size w0 w4 := hb2.grown hgr4 hs2 (fun k hk => (hown2.lt k hk).1)))
    go_ret
    refine ⟨v4, rfl, ?_, hb.trans (hb4.mono hsz)⟩
    rw [HK.out]
    exact var_done _ hown4 hsz
  ·
    obtain ⟨k, hk⟩ : ∃ k, Hid (cnt (999999999999999) = k) := ⟨_, rfl⟩
    have hk7 : k ≤ 7 := by rw [← hk.out]; exact cnt_le _
    have HK : Hid (keptL (-1000000000000000) = (127 - (k : Int)) :: lof k (flipF (be k (999999999999999)) 0)) := by
      have h := keptL_down (-1000000000000000) (by omega)
      have e : cnt (-1 - (-1000000000000000)) = k := hk.out
      rw [e] at h
      exact h
    go_enter Tryz.func70, Tryz.ntmps70
    go_wp2_with fail
    refine (l4Bytes_any (999999999999999) k w (by omega) (by omega) hk.out).mono ?_
    rintro e w0 ⟨g, c, rfl, hV, hb⟩
    have hsz := hb.size
    have hown0 := World.ownsRow_lit (base := w0.heap.size) (e := 5) (size := 1) w0 #[] 0 (Nat.le_refl _) (Nat.zero_le _) rfl
    have hcl := cells_of_view ((hv.below hb).below ((Below.refl w0.heap.size w0).alloc (Nat.le_refl _) (.cells #[] 5)))
    go_wp2_with (first | (at_builtin; refine wpList_append_own _ rfl (.tmp 29) (.tmp 30) 26 rfl w0.heap.size 5 i0 (.int .u8 0) 1 1 Tryz.underlying26 hi hz0 hz1 hz2 rfl (by decide) (.slice (some ⟨w0.heap.size, 0, none⟩) 0 0) 0 [] rfl hown0 ⟨b, off, none⟩ n cap (bl (lof n f)) rfl (by rw [bl_len, lof_len]; omega) hcl (bl_one _) (by unfold maxLen; omega) (by omega) (by simp) ?_; intro v1 w1 hown1 hgr1 hnil1; simp only [Nat.zero_add, List.nil_append] at hown1; have hb1 : Below w0.heap.size w0 w1 := ((Below.refl _ _).alloc (Nat.le_refl _) _).grown hgr1 (by simp) (fun k hk => by simp only [Value.ownBlock, Option.some.injEq] at hk; omega); have hs1 := hb1.size; clear hown0 hcl hgr1 hnil1) | (at_builtin; refine wpList_append_own _ rfl (.tmp 31) (.tmp 36) 26 rfl w0.heap.size 5 i0 (.int .u8 0) 1 1 Tryz.underlying26 hi hz0 hz1 hz2 rfl (by decide) v1 _ _ rfl (hown1.alloc _) ⟨w1.heap.size, 0, none⟩ 1 1 [.int .u8 (127 - (k : Int))] rfl rfl (cellNew _ _ _) (bl_one [127 - (k : Int)]) (by unfold maxLen; omega) (by omega) (by simp; omega) ?_; intro v2 w2 hown2 hgr2 hnil2; have hb2 : Below w0.heap.size w0 w2 := (hb1.alloc hs1 _).grown hgr2 (by simp; omega) (fun k hk => (hown1.lt k hk).1); have hV2 := hV.below hb2; have hs2 := hb2.size; clear hgr2 hnil2 hb1 hown1))
    refine (flip_spec g 0 k c (be k (999999999999999)) 0 w2 hV2 (by omega)).mono ?_
    rintro e w3 ⟨g2, c2, rfl, hg2, hc2, hr3, hb3⟩
    have hown3 := own_below hown2 hb3
    have hV3 := hr3.view hc2 (flipF_byte 0 (fun i _ => be_bd _ _ i))
    replace hb3 := hb2.trans (hb3.mono hs2)
    have hs3 := hb3.size
    clear hown2 hb2 hV2 hr3
    go_wp2_with (at_builtin; refine wpList_append_own _ rfl (.tmp 37) (.tmp 39) 26 rfl w0.heap.size 5 i0 (.int .u8 0) 1 1 Tryz.underlying26 hi hz0 hz1 hz2 rfl (by decide) v2 _ _ rfl hown3 ⟨g2, 0, none⟩ k c2 (bl (lof k (flipF (be k (999999999999999)) 0))) rfl (by rw [bl_len, lof_len]; omega) (cells_of_view hV3) (bl_one _) (by unfold maxLen; omega) (by omega) (by omega) ?_; intro v4 w4 hown4 hgr4 hnil4; have hb4 : Below w0.heap.size w0 w4 := hb3.grown hgr4 hs3 (fun k hk => (hown3.lt k hk).1))
    go_ret
    refine ⟨v4, rfl, ?_, hb.trans (hb4.mono hsz)⟩
    rw [HK.out]
    exact var_done _ hown4 hsz
  ·
    obtain ⟨k, hk⟩ : ∃ k, Hid (cnt (x) = k) := ⟨_, rfl⟩
    have hk7 : k ≤ 7 := by rw [← hk.out]; exact cnt_le _
    have HK : Hid (keptL (x) = (128 + (k : Int)) :: lof k (be k (x))) := by
      have h := keptL_up (x) (by omega)
      have e : cnt (x) = k := hk.out
      rw [e] at h
      exact h
    go_enter Tryz.func70, Tryz.ntmps70
    go_wp2_with fail
    refine (l4Bytes_any (x) k w (by omega) (by omega) hk.out).mono ?_
    rintro e w0 ⟨g, c, rfl, hV, hb⟩
    have hsz := hb.size
    have hown0 := World.ownsRow_lit (base := w0.heap.size) (e := 5) (size := 1) w0 #[] 0 (Nat.le_refl _) (Nat.zero_le _) rfl
    have hcl := cells_of_view ((hv.below hb).below ((Below.refl w0.heap.size w0).alloc (Nat.le_refl _) (.cells #[] 5)))
    go_wp2_with (first | (at_builtin; refine wpList_append_own _ rfl (.tmp 15) (.tmp 16) 26 rfl w0.heap.size 5 i0 (.int .u8 0) 1 1 Tryz.underlying26 hi hz0 hz1 hz2 rfl (by decide) (.slice (some ⟨w0.heap.size, 0, none⟩) 0 0) 0 [] rfl hown0 ⟨b, off, none⟩ n cap (bl (lof n f)) rfl (by rw [bl_len, lof_len]; omega) hcl (bl_one _) (by unfold maxLen; omega) (by omega) (by simp) ?_; intro v1 w1 hown1 hgr1 hnil1; simp only [Nat.zero_add, List.nil_append] at hown1; have hb1 : Below w0.heap.size w0 w1 := ((Below.refl _ _).alloc (Nat.le_refl _) _).grown hgr1 (by simp) (fun k hk => by simp only [Value.ownBlock, Option.some.injEq] at hk; omega); have hs1 := hb1.size; clear hown0 hcl hgr1 hnil1) | (at_builtin; refine wpList_append_own _ rfl (.tmp 17) (.tmp 22) 26 rfl w0.heap.size 5 i0 (.int .u8 0) 1 1 Tryz.underlying26 hi hz0 hz1 hz2 rfl (by decide) v1 _ _ rfl (hown1.alloc _) ⟨w1.heap.size, 0, none⟩ 1 1 [.int .u8 (128 + (k : Int))] rfl rfl (cellNew _ _ _) (bl_one [128 + (k : Int)]) (by unfold maxLen; omega) (by omega) (by simp; omega) ?_; intro v2 w2 hown2 hgr2 hnil2; have hb2 : Below w0.heap.size w0 w2 := (hb1.alloc hs1 _).grown hgr2 (by simp; omega) (fun k hk => (hown1.lt k hk).1); have hV2 := hV.below hb2; have hs2 := hb2.size; clear hgr2 hnil2 hb1 hown1) | (at_builtin; refine wpList_append_own _ rfl (.tmp 23) (.tmp 24) 26 rfl w0.heap.size 5 i0 (.int .u8 0) 1 1 Tryz.underlying26 hi hz0 hz1 hz2 rfl (by decide) v2 _ _ rfl hown2 ⟨g, 0, none⟩ k c (bl (lof k (be k (x)))) rfl (by rw [bl_len, lof_len]; omega) (cells_of_view hV2) (bl_one _) (by unfold maxLen; omega) (by omega) (by omega) ?_; intro v4 w4 hown4 hgr4 hnil4; have hb4 : Below w0.heap.size w0 w4 := hb2.grown hgr4 hs2 (fun k hk => (hown2.lt k hk).1)))
    go_ret
    refine ⟨v4, rfl, ?_, hb.trans (hb4.mono hsz)⟩
    rw [HK.out]
    exact var_done _ hown4 hsz
  ·
    obtain ⟨k, hk⟩ : ∃ k, Hid (cnt (-1 - x) = k) := ⟨_, rfl⟩
    have hk7 : k ≤ 7 := by rw [← hk.out]; exact cnt_le _
    have HK : Hid (keptL (x) = (127 - (k : Int)) :: lof k (flipF (be k (-1 - x)) 0)) := by
      have h := keptL_down (x) (by omega)
      have e : cnt (-1 - (x)) = k := hk.out
      rw [e] at h
      exact h
    go_enter Tryz.func70, Tryz.ntmps70
    go_wp2_with fail
    refine (l4Bytes_any (-1 - x) k w (by omega) (by omega) hk.out).mono ?_
    rintro e w0 ⟨g, c, rfl, hV, hb⟩
    have hsz := hb.size
    have hown0 := World.ownsRow_lit (base := w0.heap.size) (e := 5) (size := 1) w0 #[] 0 (Nat.le_refl _) (Nat.zero_le _) rfl
    have hcl := cells_of_view ((hv.below hb).below ((Below.refl w0.heap.size w0).alloc (Nat.le_refl _) (.cells #[] 5)))
    go_wp2_with (first | (at_builtin; refine wpList_append_own _ rfl (.tmp 29) (.tmp 30) 26 rfl w0.heap.size 5 i0 (.int .u8 0) 1 1 Tryz.underlying26 hi hz0 hz1 hz2 rfl (by decide) (.slice (some ⟨w0.heap.size, 0, none⟩) 0 0) 0 [] rfl hown0 ⟨b, off, none⟩ n cap (bl (lof n f)) rfl (by rw [bl_len, lof_len]; omega) hcl (bl_one _) (by unfold maxLen; omega) (by omega) (by simp) ?_; intro v1 w1 hown1 hgr1 hnil1; simp only [Nat.zero_add, List.nil_append] at hown1; have hb1 : Below w0.heap.size w0 w1 := ((Below.refl _ _).alloc (Nat.le_refl _) _).grown hgr1 (by simp) (fun k hk => by simp only [Value.ownBlock, Option.some.injEq] at hk; omega); have hs1 := hb1.size; clear hown0 hcl hgr1 hnil1) | (at_builtin; refine wpList_append_own _ rfl (.tmp 31) (.tmp 36) 26 rfl w0.heap.size 5 i0 (.int .u8 0) 1 1 Tryz.underlying26 hi hz0 hz1 hz2 rfl (by decide) v1 _ _ rfl (hown1.alloc _) ⟨w1.heap.size, 0, none⟩ 1 1 [.int .u8 (127 - (k : Int))] rfl rfl (cellNew _ _ _) (bl_one [127 - (k : Int)]) (by unfold maxLen; omega) (by omega) (by simp; omega) ?_; intro v2 w2 hown2 hgr2 hnil2; have hb2 : Below w0.heap.size w0 w2 := (hb1.alloc hs1 _).grown hgr2 (by simp; omega) (fun k hk => (hown1.lt k hk).1); have hV2 := hV.below hb2; have hs2 := hb2.size; clear hgr2 hnil2 hb1 hown1))
    refine (flip_spec g 0 k c (be k (-1 - x)) 0 w2 hV2 (by omega)).mono ?_
    rintro e w3 ⟨g2, c2, rfl, hg2, hc2, hr3, hb3⟩
    have hown3 := own_below hown2 hb3
    have hV3 := hr3.view hc2 (flipF_byte 0 (fun i _ => be_bd _ _ i))
    replace hb3 := hb2.trans (hb3.mono hs2)
    have hs3 := hb3.size
    clear hown2 hb2 hV2 hr3
    go_wp2_with (at_builtin; refine wpList_append_own _ rfl (.tmp 37) (.tmp 39) 26 rfl w0.heap.size 5 i0 (.int .u8 0) 1 1 Tryz.underlying26 hi hz0 hz1 hz2 rfl (by decide) v2 _ _ rfl hown3 ⟨g2, 0, none⟩ k c2 (bl (lof k (flipF (be k (-1 - x)) 0))) rfl (by rw [bl_len, lof_len]; omega) (cells_of_view hV3) (bl_one _) (by unfold maxLen; omega) (by omega) (by omega) ?_; intro v4 w4 hown4 hgr4 hnil4; have hb4 : Below w0.heap.size w0 w4 := hb3.grown hgr4 hs3 (fun k hk => (hown3.lt k hk).1))
    go_ret
    refine ⟨v4, rfl, ?_, hb.trans (hb4.mono hsz)⟩
    rw [HK.out]
    exact var_done _ hown4 hsz
end Go.Proofs.YtjoimkfpenbkmabGreatDoor

/-
  The model's PutEsc: what was there, and behind it the text as it is put, in memory of its own.
-/
namespace Go.Proofs.YtjoimkfpenbkmabGreatDoor
open Go.RowKit
set_option maxRecDepth 4000

theorem sl_take (s : ByteArray) (k : Nat) (h : k < s.size) : (sl s).take (k + 1) = (sl s).take k ++ [(s[k].toNat : Int)] := by
  have hd : k < (sl s).length := by rw [sl_len]; exact h
  rw [List.take_succ_eq_append_getElem hd]
  simp [sl]
  rfl
theorem sl_all (s : ByteArray) : (sl s).take s.size = sl s := by rw [← sl_len]; exact List.take_length
theorem escK_len (s : ByteArray) (k : Nat) (h : k ≤ s.size) : (escL ((sl s).take k)).length ≤ 2 * k := by
  have := (escL_len ((sl s).take k)).2
  rw [List.length_take, sl_len] at this
  omega

/-- Two new cells. -/
theorem cellsTwo (w : World) (x y : Value) (t : TypeId) : ∀ j u, [x, y][j]? = some u → (w.alloc (.cells #[x, y] t)).cell? ((⟨w.heap.size, 0, none⟩ : Addr).add j) = some u := by
  intro j u hj
  match j, hj with
  | 0, hj => simp at hj; subst hj; simp [Addr.add]
  | 1, hj => simp at hj; subst hj; simp [Addr.add]
  | (j + 2), hj => simp at hj

set_option maxHeartbeats 1000000 in
theorem putEsc_own (b off n cap : Nat) (f : Nat → Int) (s : ByteArray) (w : World) (hv : View w (some ⟨b, off, none⟩) n cap f) (hn : n ≤ 17592186044416) (hs : s.size ≤ 17592186044416) :
    Calls Tryz.prog 132 #[.slice (some ⟨b, off, none⟩) n cap, .string s] w fun e w' => ∃ v, e = .returned v ∧ w'.ownsRow w.heap.size 5 1 v (n + escN s) (bl (escT n f s)) ∧ Below w.heap.size w w' := by
  obtain ⟨i0, hi, hz0, hz1, hz2⟩ := info_parts Tryz.info5
  have hown0 := World.ownsRow_lit (base := w.heap.size) (e := 5) (size := 1) w #[] 0 (Nat.le_refl _) (Nat.zero_le _) rfl
  have hb0 : Below w.heap.size w (w.alloc (.cells #[] 5)) := (Below.refl _ _).alloc (Nat.le_refl _) _
  have hcl := cells_of_view (hv.below hb0)
  have hsz : (w.alloc (.cells #[] 5)).heap.size = w.heap.size + 1 := by simp
  go_enter Tryz.func132, Tryz.ntmps132
  go_wp2_with (at_builtin; go_must (refine wpList_append_own _ rfl (.tmp 7) (.tmp 8) 26 rfl w.heap.size 5 i0 (.int .u8 0) 1 1 Tryz.underlying26 hi hz0 hz1 hz2 rfl (by decide) (.slice (some ⟨w.heap.size, 0, none⟩) 0 0) 0 [] rfl hown0 ⟨b, off, none⟩ n cap (bl (lof n f)) rfl (by rw [bl_len, lof_len]; omega) hcl (bl_one _) (by unfold maxLen; omega) (by omega) (by rw [hsz]; omega) ?_); intro v1 w1 hown1 hgr1 _)
  have hb1 : Below w.heap.size w w1 := hb0.grown hgr1 (by simp) (fun k hk => by simp only [Value.ownBlock, Option.some.injEq] at hk; omega)
  clear hown0 hcl hsz hgr1 hb0 hv
  simp only [Nat.zero_add, List.nil_append] at hown1
  go_loopg [5, 6] s.size (fun g v i wr => ∃ (k : Nat) (l : List Int), k ≤ s.size ∧ g = s.size - k ∧ i = .int .i64 k ∧ l = escL ((sl s).take k) ∧ wr.ownsRow w.heap.size 5 1 v (n + l.length) (bl (lof n f ++ l)) ∧ Below w.heap.size w wr)
  case atStart => exact ⟨0, [], Nat.zero_le _, rfl, rfl, by simp [escL], by rw [List.append_nil]; exact hown1, hb1⟩
  case round =>
    obtain ⟨k, l, hk, rfl, rfl, hl, hown, hB⟩ := hrel
    clear hown1 hb1
    have hlen : l.length ≤ 2 * k := by rw [hl]; exact escK_len s k hk
    have HL : Hid (l = escL ((sl s).take k)) := hl
    clear hl
    by_cases hlt : k < s.size
    · have hkz : (k : Int) < (s.size : Int) := by omega
      have hub : (s[k].toNat : Int) ≤ 255 := by have := s[k].toNat_lt; omega
      have HS : Hid (escL ((sl s).take (k + 1)) = l ++ esc1 (s[k].toNat : Int)) := by
        show _ = _
        rw [sl_take s k hlt, escL_append, escL_one, HL.out]
      by_cases h0 : (s[k].toNat : Int) = 0
      · have hq : ((s[k].toNat : Int) == 0) = true := by simpa using h0
        have HE : Hid (esc1 (s[k].toNat : Int) = [0] ++ [255]) := by show _ = _; unfold esc1; rw [if_pos h0]; rfl
        go_wp2_with (first | (at_builtin; refine wpList_append_own _ rfl (.tmp 16) (.tmp 20) 26 rfl w.heap.size 5 i0 (.int .u8 0) 1 1 Tryz.underlying26 hi hz0 hz1 hz2 rfl (by decide) u5 _ _ rfl (hown.alloc _) ⟨wr.heap.size, 0, none⟩ 1 1 [.int .u8 0] rfl rfl (cellNew _ _ _) (bl_one [0]) (by unfold maxLen; omega) (by omega) (by have := hB.size; simp; omega) ?_; intro v2 w2 hown2 hgr2 _) | (at_builtin; refine wpList_append_own _ rfl (.tmp 26) (.tmp 27) 26 rfl w.heap.size 5 i0 (.int .u8 0) 1 1 Tryz.underlying26 hi hz0 hz1 hz2 rfl (by decide) v2 _ _ rfl (hown2.alloc _) ⟨w2.heap.size, 0, none⟩ 1 1 [.int .u8 255] rfl rfl (cellNew _ _ _) (bl_one [255]) (by unfold maxLen; omega) (by omega) (by have := hB.size; have := hgr2.size; simp at *; omega) ?_; intro v3 w3 hown3 hgr3 _))
        have hB2 : Below w.heap.size w w2 := (hB.alloc hB.size _).grown hgr2 (by have := hB.size; simp; omega) (fun k hk => (hown.lt k hk).1)
        have hB3 : Below w.heap.size w w3 := (hB2.alloc hB2.size _).grown hgr3 (by have := hB2.size; simp; omega) (fun k hk => (hown2.lt k hk).1)
        have hO3 : w3.ownsRow w.heap.size 5 1 v3 (n + (l ++ esc1 (s[k].toNat : Int)).length) (bl (lof n f ++ (l ++ esc1 (s[k].toNat : Int)))) := by
          rw [HE.out, ← List.append_assoc l, List.length_append, List.length_append, ← List.append_assoc, ← List.append_assoc, bl_append, bl_append]
          rw [show n + (l.length + [(0 : Int)].length + [(255 : Int)].length) = n + l.length + 1 + 1 by simp; omega]
          exact hown3
        clear hgr2 hgr3 hown hown2 hown3 hB
        go_wp2
        go_roundg (s.size - (k + 1))
        case measure => omega
        case rel => exact ⟨k + 1, _, by omega, rfl, by go_num, HS.out.symm, hO3, hB3⟩
      · have hq : ((s[k].toNat : Int) == 0) = false := by simpa using h0
        have HE : Hid (esc1 (s[k].toNat : Int) = [(s[k].toNat : Int)]) := by show _ = _; unfold esc1; rw [if_neg h0]
        go_wp2_with (at_builtin; go_must (refine wpList_append_own _ rfl (.tmp 16) (.tmp 20) 26 rfl w.heap.size 5 i0 (.int .u8 0) 1 1 Tryz.underlying26 hi hz0 hz1 hz2 rfl (by decide) u5 _ _ rfl (hown.alloc _) ⟨wr.heap.size, 0, none⟩ 1 1 [.int .u8 (s[k].toNat : Int)] rfl rfl (cellNew _ _ _) (bl_one [(s[k].toNat : Int)]) (by unfold maxLen; omega) (by omega) (by have := hB.size; simp; omega) ?_); intro v2 w2 hown2 hgr2 _)
        have hB2 : Below w.heap.size w w2 := (hB.alloc hB.size _).grown hgr2 (by have := hB.size; simp; omega) (fun k hk => (hown.lt k hk).1)
        have hO2 : w2.ownsRow w.heap.size 5 1 v2 (n + (l ++ esc1 (s[k].toNat : Int)).length) (bl (lof n f ++ (l ++ esc1 (s[k].toNat : Int)))) := by
          rw [HE.out, List.length_append, ← List.append_assoc, bl_append]
          exact hown2
        clear hgr2 hown hown2 hB
        go_wp2
        go_roundg (s.size - (k + 1))
        case measure => omega
        case rel => exact ⟨k + 1, _, by omega, rfl, by go_num, HS.out.symm, hO2, hB2⟩
    · obtain rfl : k = s.size := by omega
      go_wp2_with (at_builtin; go_must (refine wpList_append_own _ rfl (.tmp 29) (.tmp 30) 26 rfl w.heap.size 5 i0 (.int .u8 0) 1 1 Tryz.underlying26 hi hz0 hz1 hz2 rfl (by decide) u5 _ _ rfl (hown.alloc _) ⟨wr.heap.size, 0, none⟩ 2 2 [.int .u8 0, .int .u8 1] rfl rfl (cellsTwo _ _ _ _) (bl_one [0, 1]) (by unfold maxLen; omega) (by omega) (by have := hB.size; simp; omega) ?_); intro v2 w2 hown2 hgr2 _)
      have hB2 : Below w.heap.size w w2 := (hB.alloc hB.size _).grown hgr2 (by have := hB.size; simp; omega) (fun k hk => (hown.lt k hk).1)
      go_ret
      have hL := HL.out
      rw [sl_all] at hL
      have e1 : escN s = l.length + 2 := by rw [hL]; rfl
      have e2 : escT n f s = lof n f ++ (l ++ [0, 1]) := by rw [hL]; rfl
      have hown3 : w2.ownsRow w.heap.size 5 1 v2 (n + escN s) (bl (escT n f s)) := by
        rw [e1, e2, ← List.append_assoc, bl_append]
        exact hown2
      exact ⟨v2, rfl, hown3, hB2⟩

theorem putEsc_spec (b off n cap : Nat) (f : Nat → Int) (s : ByteArray) (w : World) (hv : View w (some ⟨b, off, none⟩) n cap f) (hn : n ≤ 17592186044416) (hs : s.size ≤ 17592186044416) :
    Calls Tryz.prog 132 #[.slice (some ⟨b, off, none⟩) n cap, .string s] w fun e w' => ∃ g c, e = .returned (.slice (some ⟨g, 0, none⟩) (n + escN s) c) ∧ w.heap.size ≤ g ∧ n + escN s ≤ c ∧ Row 5 w' g (n + escN s) (fun i => (escT n f s).getD i 0) ∧ Below w.heap.size w w' := by
  refine (putEsc_own b off n cap f s w hv hn hs).mono ?_
  rintro e w' ⟨v, rfl, hown, hB⟩
  obtain ⟨g, c, rfl, hg, hgc, hrow⟩ := row_of_own hown (by unfold escN; omega)
  exact ⟨g, c, rfl, hg, hgc, hrow, hB⟩
end Go.Proofs.YtjoimkfpenbkmabGreatDoor

