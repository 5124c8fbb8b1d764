/-
  Together: PutVarSpec, PartPutSpec, RowCOwn
-/
import Derived.Test.YtkakkjnbhklfpaaGreatDoorPackR2
import Derived.Test.YtkakkjnbhklfpaaGreatDoorPackR1
import Derived.Test.YtkakkjnbhklfpaaGreatDoorPackR20
import Derived.Test.YtkakkjnbhklfpaaGreatDoorPackR12
import Derived.Deep.RegionHeld3
/-
  The model's l4Bytes and PutVar: what was there, and behind it the number's bytes, in memory of its own.
-/
namespace Go.Proofs.YtkakkjnbhklfpaaGreatDoor
open Go.RowKit
set_option maxRecDepth 4000

theorem be_step (k : Nat) (n : Int) : lof (1 + k) (be (1 + k) n) = (n / 256 ^ k % 256) :: lof k (be k n) := by
  rw [lof_cons]
  unfold be dg
  rw [show 1 + k - 1 - 0 = k by omega]
  congr 2
  funext i
  rw [show 1 + k - 1 - (i + 1) = k - 1 - i by omega]

/-- k bytes of the number stand. -/
structure Bytes (t : TypeId) (w wr : World) (s : Int) (k g c : Nat) : Prop where
  low : 0 < k → 256 ^ (k - 1) ≤ s
  le : k ≤ c
  new : w.heap.size ≤ g
  row : Row t wr g k (be k s)
  below : Below w.heap.size w wr
theorem Bytes.view {t : TypeId} {w wr : World} {s : Int} {k g c : Nat} (h : Bytes t w wr s k g c) : View wr (some ⟨g, 0, none⟩) k c (be k s) := h.row.view h.le (fun i _ => be_bd _ _ i)

set_option maxHeartbeats 1000000 in
theorem l4Bytes_of (s : Int) (w : World) (hs0 : 0 ≤ s) (hs1 : s < 72057594037927936) :
    Calls Tryz.prog 118 #[.int .i64 s] w fun e w' => ∃ g c, e = .returned (.slice (some ⟨g, 0, none⟩) (cnt s) c) ∧ View w' (some ⟨g, 0, none⟩) (cnt s) c (be (cnt s) s) ∧ Below w.heap.size w w' := by
  obtain ⟨i0, hi, hz0, hz1, hz2⟩ := info_parts Tryz.info5
  have hB0 : Hid (Bytes 5 w (w.alloc (.cells #[] 5)) s 0 w.heap.size 0) :=
    ⟨fun h => absurd h (Nat.lt_irrefl _), Nat.le_refl _, Nat.le_refl _, Row.ofIs (World.rowIs_alloc w #[] 5 _ (fun j hj => absurd hj (Nat.not_lt_zero _))), (Below.refl _ _).alloc (Nat.le_refl _) _⟩
  go_enter Tryz.func118, Tryz.ntmps118
  go_wp2
  go_loopg [0, 3] (s.toNat + 1) (fun q a v wr => ∃ k g c : Nat, k ≤ 7 ∧ q = (s / 256 ^ k).toNat + 1 ∧ a = .int .i64 (s / 256 ^ k) ∧ v = .slice (some ⟨g, 0, none⟩) k c ∧ Bytes 5 w wr s k g c)
  case atStart => exact ⟨0, w.heap.size, 0, by omega, by simp, by simp, rfl, hB0.out⟩
  case round =>
    obtain ⟨k, g, c, hk, rfl, rfl, rfl, hB⟩ := hrel
    clear hB0
    have ha0 : 0 ≤ s / 256 ^ k := Int.ediv_nonneg hs0 (Int.le_of_lt (Int.pow_pos (by decide)))
    have ha1 : s / 256 ^ k ≤ s := Int.ediv_le_self _ hs0
    by_cases h0 : s / 256 ^ k = 0
    · have hlt : s < 256 ^ k := by
        have := Int.lt_mul_ediv_self_add (x := s) (k := 256 ^ k) (Int.pow_pos (by decide))
        rw [h0] at this
        simpa using this
      have hc : Hid (cnt s = k) := cnt_is s k hk hlt hB.low
      have hV := hB.view
      have hb := hB.below
      clear hB hlt ha0 ha1
      go_wp2
      go_ret
      exact ⟨g, c, by rw [hc.out]; rfl, by rw [hc.out]; exact hV, hb⟩
    · have hge : 256 ^ k ≤ s := by
        by_cases hh : 256 ^ k ≤ s
        · exact hh
        · exact absurd (Int.ediv_eq_zero_of_lt hs0 (by omega)) h0
      have hk6 : k < 7 := by
        by_cases hh : k < 7
        · exact hh
        · have := pow_mono (a := 7) (b := k) (by omega)
          have e : (256 : Int) ^ 7 = 72057594037927936 := by decide
          omega
      have HN : Hid (s / 256 ^ k / 256 = s / 256 ^ (1 + k)) := by show _ = _; rw [div_pow_succ, Nat.add_comm]
      have HL : Hid (lof (1 + k) (be (1 + k) s) = (s / 256 ^ k % 256) :: lof k (be k s)) := be_step k s
      have HG : Hid (256 ^ k ≤ s) := hge
      have hpos : 0 < s / 256 ^ k := by omega
      have hnew := hB.new
      have hb := hB.below
      have hsz := hb.size
      have hV : ∀ o, View (wr.alloc o) (some ⟨g, 0, none⟩) k c (be k s) := fun o => hB.view.below ((Below.refl _ _).alloc (Nat.le_refl _) _)
      clear hB h0 hge
      generalize s / 256 ^ k = a at *
      have hown0 := World.ownsRow_lit (base := w.heap.size) (e := 5) (size := 1) wr #[.int .u8 (a % 256)] 1 (by omega) (by unfold maxLen; omega) rfl
      have hcl := cells_of_view (hV (.cells #[.int .u8 (a % 256)] 5))
      go_wp2_with (at_builtin; go_must (refine wpList_append_own _ rfl (.tmp 9) (.tmp 10) 22 rfl w.heap.size 5 i0 (.int .u8 0) 1 1 Tryz.underlying22 hi hz0 hz1 hz2 rfl (by decide) (.slice (some ⟨wr.heap.size, 0, none⟩) 1 1) 1 [.int .u8 (a % 256)] rfl hown0 ⟨g, 0, none⟩ k c (bl (lof k (be k s))) rfl (by rw [bl_len, lof_len]; omega) hcl (bl_one _) (by unfold maxLen; omega) (by omega) (by simp; omega) ?_); intro v1 w1 hown1 hgr1 hnil)
      have hO : w1.ownsRow w.heap.size 5 1 v1 (1 + k) (bl ((a % 256) :: lof k (be k s))) := hown1
      obtain ⟨g1, c1, rfl, hg1, hc1, hr1⟩ := row_of_own hO (by omega)
      have hB1 : Hid (Bytes 5 w w1 s (1 + k) g1 c1) := by
        refine ⟨fun _ => by rw [Nat.add_sub_cancel_left]; exact HG.out, hc1, hg1, hr1.congr (fun i hi => ?_), ?_⟩
        · rw [← HL.out, lof_get (1 + k) _ i hi]
        · exact (hb.alloc hsz _).grown hgr1 (by simp; omega) (fun j hj => by simp only [Value.ownBlock, Option.some.injEq] at hj; omega)
      clear hown1 hO hgr1 hnil hr1 hown0 hcl hV hb
      go_wp2
      go_roundg ((a / 256).toNat + 1)
      case measure => omega
      case rel => exact ⟨1 + k, g1, c1, by omega, by rw [HN.out], by rw [HN.out], rfl, hB1.out⟩
theorem keptL_up (y : Int) (h : 0 ≤ y) : keptL y = (128 + (cnt y : Int)) :: lof (cnt y) (be (cnt y) y) := by
  have e : sizeV y = y := by unfold sizeV; rw [if_neg (by omega)]
  unfold keptL headV
  rw [e, if_neg (by omega)]
  congr 1
  unfold lof
  apply List.map_congr_left
  intro i _
  unfold tailV
  rw [e, if_neg (by omega)]
theorem keptL_down (y : Int) (h : y < 0) : keptL y = (127 - (cnt (-1 - y) : Int)) :: lof (cnt (-1 - y)) (flipF (be (cnt (-1 - y)) (-1 - y)) 0) := by
  have e : sizeV y = -1 - y := by unfold sizeV; rw [if_pos h]
  unfold keptL headV
  rw [e, if_pos h]
  congr 1
  unfold lof
  apply List.map_congr_left
  intro i _
  unfold tailV flipF
  rw [e, if_pos h, if_pos (by omega)]

theorem l4Bytes_any (s : Int) (k : Nat) (w : World) (hs0 : 0 ≤ s) (hs1 : s < 72057594037927936) (hk : cnt s = k) :
    Calls Tryz.prog 118 #[.int .i64 s] w fun e w' => ∃ g c, e = .returned (.slice (some ⟨g, 0, none⟩) k c) ∧ View w' (some ⟨g, 0, none⟩) k c (be k s) ∧ Below w.heap.size w w' := by
  subst hk
  exact l4Bytes_of s w hs0 hs1
theorem Below.grownAll {w w' : World} (h : Below w.heap.size w w') : w.grownBy w' none := ⟨h.os, h.tape, h.output, h.size, fun k hk _ => h.block k hk⟩

theorem own_below {w w' : World} {base : Nat} {t : TypeId} {v : Value} {n : Nat} {l : List Value} (h : w.ownsRow base t 1 v n l) (hb : Below w.heap.size w w') : w'.ownsRow base t 1 v n l := by
  refine h.kept (Below.grownAll hb) ?_
  cases hv : v.ownBlock with
  | none => exact Or.inl rfl
  | some k => exact Or.inr (fun e => by cases e)
theorem var_done {w w' : World} {B : Nat} {t : TypeId} {v : Value} {n k : Nat} {f F : Nat → Int} (z : Int) (h : w'.ownsRow B t 1 v (n + 1 + k) (bl (lof n f) ++ [.int .u8 z] ++ bl (lof k F))) (hs : w.heap.size ≤ B) :
    w'.ownsRow w.heap.size t 1 v (n + (z :: lof k F).length) (bl (lof n f ++ z :: lof k F)) := by
  have e1 : n + (z :: lof k F).length = n + 1 + k := by rw [List.length_cons, lof_len]; omega
  have e2 : bl (lof n f ++ z :: lof k F) = bl (lof n f) ++ [.int .u8 z] ++ bl (lof k F) := by
    rw [bl_append, List.append_assoc]
    rfl
  rw [e1, e2]
  obtain ⟨h1, h2⟩ := h
  refine ⟨h1, ?_⟩
  rcases h2 with h2 | ⟨g, cap, cur, rfl, hB, r⟩
  · exact Or.inl h2
  · exact Or.inr ⟨g, cap, cur, rfl, Nat.le_trans hs hB, r⟩

set_option maxHeartbeats 1000000 in
theorem putVar_own (b off n cap : Nat) (f : Nat → Int) (x : Int) (w : World) (hv : View w (some ⟨b, off, none⟩) n cap f) (hn : n ≤ 70368744170000) (hx0 : -9223372036854775808 ≤ x) (hx1 : x ≤ 9223372036854775807) :
    Calls Tryz.prog 79 #[.slice (some ⟨b, off, none⟩) n cap, .int .i64 x] w fun e w' => ∃ v, e = .returned v ∧ w'.ownsRow w.heap.size 5 1 v (n + (varL x).length) (bl (lof n f ++ varL x)) ∧ Below w.heap.size w w' := by
  obtain ⟨i0, hi, hz0, hz1, hz2⟩ := info_parts Tryz.info5
  have hcase : (1000000000000000 < x ∧ clampV x = 1000000000000000) ∨ (x < -1000000000000000 ∧ clampV x = -1000000000000000) ∨ (0 ≤ x ∧ x ≤ 1000000000000000 ∧ clampV x = x) ∨ (-1000000000000000 ≤ x ∧ x < 0 ∧ clampV x = x) := by
    unfold clampV; (repeat' split) <;> omega
  unfold varL
  rcases hcase with ⟨h1, hy⟩ | ⟨h1, hy⟩ | ⟨h1, h2, hy⟩ | ⟨h1, h2, hy⟩
  all_goals
    rw [hy]
    clear hy
  ·
    obtain ⟨k, hk⟩ : ∃ k, Hid (cnt (1000000000000000) = k) := ⟨_, rfl⟩
    have hk7 : k ≤ 7 := by rw [← hk.out]; exact cnt_le _
    have HK : Hid (keptL (1000000000000000) = (128 + (k : Int)) :: lof k (be k (1000000000000000))) := by
      have h := keptL_up (1000000000000000) (by omega)
      have e : cnt (1000000000000000) = k := hk.out
      rw [e] at h
      exact h
    go_enter Tryz.func79, Tryz.ntmps79
    go_wp2_with fail
    refine (l4Bytes_any (1000000000000000) k w (by omega) (by omega) hk.out).mono ?_
    rintro e w0 ⟨g, c, rfl, hV, hb⟩
    have hsz := hb.size
    have hown0 := World.ownsRow_lit (base := w0.heap.size) (e := 5) (size := 1) w0 #[] 0 (Nat.le_refl _) (Nat.zero_le _) rfl
    have hcl := cells_of_view ((hv.below hb).below ((Below.refl w0.heap.size w0).alloc (Nat.le_refl _) (.cells #[] 5)))
    go_wp2_with (first | (at_builtin; refine wpList_append_own _ rfl (.tmp 15) (.tmp 16) 22 rfl w0.heap.size 5 i0 (.int .u8 0) 1 1 Tryz.underlying22 hi hz0 hz1 hz2 rfl (by decide) (.slice (some ⟨w0.heap.size, 0, none⟩) 0 0) 0 [] rfl hown0 ⟨b, off, none⟩ n cap (bl (lof n f)) rfl (by rw [bl_len, lof_len]; omega) hcl (bl_one _) (by unfold maxLen; omega) (by omega) (by simp) ?_; intro v1 w1 hown1 hgr1 hnil1; simp only [Nat.zero_add, List.nil_append] at hown1; have hb1 : Below w0.heap.size w0 w1 := ((Below.refl _ _).alloc (Nat.le_refl _) _).grown hgr1 (by simp) (fun k hk => by simp only [Value.ownBlock, Option.some.injEq] at hk; omega); have hs1 := hb1.size; clear hown0 hcl hgr1 hnil1) | (at_builtin; refine wpList_append_own _ rfl (.tmp 17) (.tmp 22) 22 rfl w0.heap.size 5 i0 (.int .u8 0) 1 1 Tryz.underlying22 hi hz0 hz1 hz2 rfl (by decide) v1 _ _ rfl (hown1.alloc _) ⟨w1.heap.size, 0, none⟩ 1 1 [.int .u8 (128 + (k : Int))] rfl rfl (cellNew _ _ _) (bl_one [128 + (k : Int)]) (by unfold maxLen; omega) (by omega) (by simp; omega) ?_; intro v2 w2 hown2 hgr2 hnil2; have hb2 : Below w0.heap.size w0 w2 := (hb1.alloc hs1 _).grown hgr2 (by simp; omega) (fun k hk => (hown1.lt k hk).1); have hV2 := hV.below hb2; have hs2 := hb2.size; clear hgr2 hnil2 hb1 hown1) | (at_builtin; refine wpList_append_own _ rfl (.tmp 23) (.tmp 24) 22 rfl w0.heap.size 5 i0 (.int .u8 0) 1 1 Tryz.underlying22 hi hz0 hz1 hz2 rfl (by decide) v2 _ _ rfl hown2 ⟨g, 0, none⟩ k c (bl (lof k (be k (1000000000000000)))) rfl (by rw [bl_len, lof_len]; omega) (cells_of_view hV2) (bl_one _) (by unfold maxLen; omega) (by omega) (by omega) ?_; intro v4 w4 hown4 hgr4 hnil4; have hb4 : Below w0.heap.size w0 w4 := hb2.grown hgr4 hs2 (fun k hk => (hown2.lt k hk).1)))
    go_ret
    refine ⟨v4, rfl, ?_, hb.trans (hb4.mono hsz)⟩
    rw [HK.out]
    exact var_done _ hown4 hsz
  ·
    obtain ⟨k, hk⟩ : ∃ k, Hid (cnt (999999999999999) = k) := ⟨_, rfl⟩
    have hk7 : k ≤ 7 := by rw [← hk.out]; exact cnt_le _
    have HK : Hid (keptL (-1000000000000000) = (127 - (k : Int)) :: lof k (flipF (be k (999999999999999)) 0)) := by
      have h := keptL_down (-1000000000000000) (by omega)
      have e : cnt (-1 - (-1000000000000000)) = k := hk.out
      rw [e] at h
      exact h
    go_enter Tryz.func79, Tryz.ntmps79
    go_wp2_with fail
    refine (l4Bytes_any (999999999999999) k w (by omega) (by omega) hk.out).mono ?_
    rintro e w0 ⟨g, c, rfl, hV, hb⟩
    have hsz := hb.size
    have hown0 := World.ownsRow_lit (base := w0.heap.size) (e := 5) (size := 1) w0 #[] 0 (Nat.le_refl _) (Nat.zero_le _) rfl
    have hcl := cells_of_view ((hv.below hb).below ((Below.refl w0.heap.size w0).alloc (Nat.le_refl _) (.cells #[] 5)))
    go_wp2_with (first | (at_builtin; refine wpList_append_own _ rfl (.tmp 29) (.tmp 30) 22 rfl w0.heap.size 5 i0 (.int .u8 0) 1 1 Tryz.underlying22 hi hz0 hz1 hz2 rfl (by decide) (.slice (some ⟨w0.heap.size, 0, none⟩) 0 0) 0 [] rfl hown0 ⟨b, off, none⟩ n cap (bl (lof n f)) rfl (by rw [bl_len, lof_len]; omega) hcl (bl_one _) (by unfold maxLen; omega) (by omega) (by simp) ?_; intro v1 w1 hown1 hgr1 hnil1; simp only [Nat.zero_add, List.nil_append] at hown1; have hb1 : Below w0.heap.size w0 w1 := ((Below.refl _ _).alloc (Nat.le_refl _) _).grown hgr1 (by simp) (fun k hk => by simp only [Value.ownBlock, Option.some.injEq] at hk; omega); have hs1 := hb1.size; clear hown0 hcl hgr1 hnil1) | (at_builtin; refine wpList_append_own _ rfl (.tmp 31) (.tmp 36) 22 rfl w0.heap.size 5 i0 (.int .u8 0) 1 1 Tryz.underlying22 hi hz0 hz1 hz2 rfl (by decide) v1 _ _ rfl (hown1.alloc _) ⟨w1.heap.size, 0, none⟩ 1 1 [.int .u8 (127 - (k : Int))] rfl rfl (cellNew _ _ _) (bl_one [127 - (k : Int)]) (by unfold maxLen; omega) (by omega) (by simp; omega) ?_; intro v2 w2 hown2 hgr2 hnil2; have hb2 : Below w0.heap.size w0 w2 := (hb1.alloc hs1 _).grown hgr2 (by simp; omega) (fun k hk => (hown1.lt k hk).1); have hV2 := hV.below hb2; have hs2 := hb2.size; clear hgr2 hnil2 hb1 hown1))
    refine (flip_spec g 0 k c (be k (999999999999999)) 0 w2 hV2 (by omega)).mono ?_
    rintro e w3 ⟨g2, c2, rfl, hg2, hc2, hr3, hb3⟩
    have hown3 := own_below hown2 hb3
    have hV3 := hr3.view hc2 (flipF_byte 0 (fun i _ => be_bd _ _ i))
    replace hb3 := hb2.trans (hb3.mono hs2)
    have hs3 := hb3.size
    clear hown2 hb2 hV2 hr3
    go_wp2_with (at_builtin; refine wpList_append_own _ rfl (.tmp 37) (.tmp 39) 22 rfl w0.heap.size 5 i0 (.int .u8 0) 1 1 Tryz.underlying22 hi hz0 hz1 hz2 rfl (by decide) v2 _ _ rfl hown3 ⟨g2, 0, none⟩ k c2 (bl (lof k (flipF (be k (999999999999999)) 0))) rfl (by rw [bl_len, lof_len]; omega) (cells_of_view hV3) (bl_one _) (by unfold maxLen; omega) (by omega) (by omega) ?_; intro v4 w4 hown4 hgr4 hnil4; have hb4 : Below w0.heap.size w0 w4 := hb3.grown hgr4 hs3 (fun k hk => (hown3.lt k hk).1))
    go_ret
    refine ⟨v4, rfl, ?_, hb.trans (hb4.mono hsz)⟩
    rw [HK.out]
    exact var_done _ hown4 hsz
  ·
    obtain ⟨k, hk⟩ : ∃ k, Hid (cnt (x) = k) := ⟨_, rfl⟩
    have hk7 : k ≤ 7 := by rw [← hk.out]; exact cnt_le _
    have HK : Hid (keptL (x) = (128 + (k : Int)) :: lof k (be k (x))) := by
      have h := keptL_up (x) (by omega)
      have e : cnt (x) = k := hk.out
      rw [e] at h
      exact h
    go_enter Tryz.func79, Tryz.ntmps79
    go_wp2_with fail
    refine (l4Bytes_any (x) k w (by omega) (by omega) hk.out).mono ?_
    rintro e w0 ⟨g, c, rfl, hV, hb⟩
    have hsz := hb.size
    have hown0 := World.ownsRow_lit (base := w0.heap.size) (e := 5) (size := 1) w0 #[] 0 (Nat.le_refl _) (Nat.zero_le _) rfl
    have hcl := cells_of_view ((hv.below hb).below ((Below.refl w0.heap.size w0).alloc (Nat.le_refl _) (.cells #[] 5)))
    go_wp2_with (first | (at_builtin; refine wpList_append_own _ rfl (.tmp 15) (.tmp 16) 22 rfl w0.heap.size 5 i0 (.int .u8 0) 1 1 Tryz.underlying22 hi hz0 hz1 hz2 rfl (by decide) (.slice (some ⟨w0.heap.size, 0, none⟩) 0 0) 0 [] rfl hown0 ⟨b, off, none⟩ n cap (bl (lof n f)) rfl (by rw [bl_len, lof_len]; omega) hcl (bl_one _) (by unfold maxLen; omega) (by omega) (by simp) ?_; intro v1 w1 hown1 hgr1 hnil1; simp only [Nat.zero_add, List.nil_append] at hown1; have hb1 : Below w0.heap.size w0 w1 := ((Below.refl _ _).alloc (Nat.le_refl _) _).grown hgr1 (by simp) (fun k hk => by simp only [Value.ownBlock, Option.some.injEq] at hk; omega); have hs1 := hb1.size; clear hown0 hcl hgr1 hnil1) | (at_builtin; refine wpList_append_own _ rfl (.tmp 17) (.tmp 22) 22 rfl w0.heap.size 5 i0 (.int .u8 0) 1 1 Tryz.underlying22 hi hz0 hz1 hz2 rfl (by decide) v1 _ _ rfl (hown1.alloc _) ⟨w1.heap.size, 0, none⟩ 1 1 [.int .u8 (128 + (k : Int))] rfl rfl (cellNew _ _ _) (bl_one [128 + (k : Int)]) (by unfold maxLen; omega) (by omega) (by simp; omega) ?_; intro v2 w2 hown2 hgr2 hnil2; have hb2 : Below w0.heap.size w0 w2 := (hb1.alloc hs1 _).grown hgr2 (by simp; omega) (fun k hk => (hown1.lt k hk).1); have hV2 := hV.below hb2; have hs2 := hb2.size; clear hgr2 hnil2 hb1 hown1) | (at_builtin; refine wpList_append_own _ rfl (.tmp 23) (.tmp 24) 22 rfl w0.heap.size 5 i0 (.int .u8 0) 1 1 Tryz.underlying22 hi hz0 hz1 hz2 rfl (by decide) v2 _ _ rfl hown2 ⟨g, 0, none⟩ k c (bl (lof k (be k (x)))) rfl (by rw [bl_len, lof_len]; omega) (cells_of_view hV2) (bl_one _) (by unfold maxLen; omega) (by omega) (by omega) ?_; intro v4 w4 hown4 hgr4 hnil4; have hb4 : Below w0.heap.size w0 w4 := hb2.grown hgr4 hs2 (fun k hk => (hown2.lt k hk).1)))
    go_ret
    refine ⟨v4, rfl, ?_, hb.trans (hb4.mono hsz)⟩
    rw [HK.out]
    exact var_done _ hown4 hsz
  ·
    obtain ⟨k, hk⟩ : ∃ k, Hid (cnt (-1 - x) = k) := ⟨_, rfl⟩
    have hk7 : k ≤ 7 := by rw [← hk.out]; exact cnt_le _
    have HK : Hid (keptL (x) = (127 - (k : Int)) :: lof k (flipF (be k (-1 - x)) 0)) := by
      have h := keptL_down (x) (by omega)
      have e : cnt (-1 - (x)) = k := hk.out
      rw [e] at h
      exact h
    go_enter Tryz.func79, Tryz.ntmps79
    go_wp2_with fail
    refine (l4Bytes_any (-1 - x) k w (by omega) (by omega) hk.out).mono ?_
    rintro e w0 ⟨g, c, rfl, hV, hb⟩
    have hsz := hb.size
    have hown0 := World.ownsRow_lit (base := w0.heap.size) (e := 5) (size := 1) w0 #[] 0 (Nat.le_refl _) (Nat.zero_le _) rfl
    have hcl := cells_of_view ((hv.below hb).below ((Below.refl w0.heap.size w0).alloc (Nat.le_refl _) (.cells #[] 5)))
    go_wp2_with (first | (at_builtin; refine wpList_append_own _ rfl (.tmp 29) (.tmp 30) 22 rfl w0.heap.size 5 i0 (.int .u8 0) 1 1 Tryz.underlying22 hi hz0 hz1 hz2 rfl (by decide) (.slice (some ⟨w0.heap.size, 0, none⟩) 0 0) 0 [] rfl hown0 ⟨b, off, none⟩ n cap (bl (lof n f)) rfl (by rw [bl_len, lof_len]; omega) hcl (bl_one _) (by unfold maxLen; omega) (by omega) (by simp) ?_; intro v1 w1 hown1 hgr1 hnil1; simp only [Nat.zero_add, List.nil_append] at hown1; have hb1 : Below w0.heap.size w0 w1 := ((Below.refl _ _).alloc (Nat.le_refl _) _).grown hgr1 (by simp) (fun k hk => by simp only [Value.ownBlock, Option.some.injEq] at hk; omega); have hs1 := hb1.size; clear hown0 hcl hgr1 hnil1) | (at_builtin; refine wpList_append_own _ rfl (.tmp 31) (.tmp 36) 22 rfl w0.heap.size 5 i0 (.int .u8 0) 1 1 Tryz.underlying22 hi hz0 hz1 hz2 rfl (by decide) v1 _ _ rfl (hown1.alloc _) ⟨w1.heap.size, 0, none⟩ 1 1 [.int .u8 (127 - (k : Int))] rfl rfl (cellNew _ _ _) (bl_one [127 - (k : Int)]) (by unfold maxLen; omega) (by omega) (by simp; omega) ?_; intro v2 w2 hown2 hgr2 hnil2; have hb2 : Below w0.heap.size w0 w2 := (hb1.alloc hs1 _).grown hgr2 (by simp; omega) (fun k hk => (hown1.lt k hk).1); have hV2 := hV.below hb2; have hs2 := hb2.size; clear hgr2 hnil2 hb1 hown1))
    refine (flip_spec g 0 k c (be k (-1 - x)) 0 w2 hV2 (by omega)).mono ?_
    rintro e w3 ⟨g2, c2, rfl, hg2, hc2, hr3, hb3⟩
    have hown3 := own_below hown2 hb3
    have hV3 := hr3.view hc2 (flipF_byte 0 (fun i _ => be_bd _ _ i))
    replace hb3 := hb2.trans (hb3.mono hs2)
    have hs3 := hb3.size
    clear hown2 hb2 hV2 hr3
    go_wp2_with (at_builtin; refine wpList_append_own _ rfl (.tmp 37) (.tmp 39) 22 rfl w0.heap.size 5 i0 (.int .u8 0) 1 1 Tryz.underlying22 hi hz0 hz1 hz2 rfl (by decide) v2 _ _ rfl hown3 ⟨g2, 0, none⟩ k c2 (bl (lof k (flipF (be k (-1 - x)) 0))) rfl (by rw [bl_len, lof_len]; omega) (cells_of_view hV3) (bl_one _) (by unfold maxLen; omega) (by omega) (by omega) ?_; intro v4 w4 hown4 hgr4 hnil4; have hb4 : Below w0.heap.size w0 w4 := hb3.grown hgr4 hs3 (fun k hk => (hown3.lt k hk).1))
    go_ret
    refine ⟨v4, rfl, ?_, hb.trans (hb4.mono hsz)⟩
    rw [HK.out]
    exact var_done _ hown4 hsz
end Go.Proofs.YtkakkjnbhklfpaaGreatDoor

/-
  The model's PutPart: what was there, and behind it the bytes of what fits, in memory of its own.
-/
namespace Go.Proofs.YtkakkjnbhklfpaaGreatDoor
open Go.RowKit
set_option maxRecDepth 4000

/-- A new row without bytes. -/
theorem own_nil (W : World) (A B : Nat) (hA : A = W.heap.size) (hB : B ≤ A) : (W.alloc (.cells #[] 5)).ownsRow B 5 1 (.slice (some ⟨A, 0, none⟩) 0 0) 0 [] := by
  subst hA
  exact World.ownsRow_lit W #[] 0 hB (Nat.zero_le _) rfl
/-- A new row of one byte. -/
theorem cell_nil (W : World) (A : Nat) (z : Value) (t : TypeId) (hA : A = W.heap.size) : ∀ j u, [z][j]? = some u → (W.alloc (.cells #[z] t)).cell? ((⟨A, 0, none⟩ : Addr).add j) = some u := by
  subst hA
  exact cellNew W z t
theorem cells_kept {W W' : World} {A : Nat} {z : Value} {row : Option Nat} (h : ∀ j u, [z][j]? = some u → W.cell? ((⟨A, 0, none⟩ : Addr).add j) = some u) (hg : W.grownBy W' row) (hA : A < W.heap.size) (hne : row ≠ some A) : ∀ j u, [z][j]? = some u → W'.cell? ((⟨A, 0, none⟩ : Addr).add j) = some u := by
  intro j u hj
  rw [← h j u hj]
  apply World.cell?_of_block
  show W'.heap[((⟨A, 0, none⟩ : Addr).add j).block]? = _
  have : ((⟨A, 0, none⟩ : Addr).add j).block = A := by unfold Addr.add; split <;> rfl
  rw [this]
  exact hg.block A hA hne.symm
theorem cells_alloc {W : World} {A : Nat} {z : Value} (h : ∀ j u, [z][j]? = some u → W.cell? ((⟨A, 0, none⟩ : Addr).add j) = some u) (hA : A < W.heap.size) (o : Obj) : ∀ j u, [z][j]? = some u → (W.alloc o).cell? ((⟨A, 0, none⟩ : Addr).add j) = some u := by
  intro j u hj
  rw [← h j u hj]
  apply World.cell?_of_block
  show (W.alloc o).heap[((⟨A, 0, none⟩ : Addr).add j).block]? = _
  have : ((⟨A, 0, none⟩ : Addr).add j).block = A := by unfold Addr.add; split <;> rfl
  rw [this]
  exact Below.heap_alloc _ _ _ hA
theorem cellD (W : World) (A : Nat) (z : Value) (t : TypeId) (hA : A = W.heap.size) : ∀ j u, [z][j]? = some u → (W.alloc (.cells #[z] t)).drew.cell? ((⟨A, 0, none⟩ : Addr).add j) = some u := cell_nil W A z t hA
theorem cellDD (W : World) (A : Nat) (z : Value) (t : TypeId) (hA : A = W.heap.size) (o : Obj) : ∀ j u, [z][j]? = some u → ((W.alloc (.cells #[z] t)).alloc o).drew.cell? ((⟨A, 0, none⟩ : Addr).add j) = some u := cells_alloc (cell_nil W A z t hA) (by simp; omega) o
theorem Box.grown {W W' : World} {B : Nat} {k n : Int} {s : ByteArray} {row : Option Nat} (h : Box W B k n s) (hg : W.grownBy W' row) (hne : row ≠ some B) : Box W' B k n s := h.of_block (hg.block B h.lt hne.symm)
theorem own_down {W : World} {B D : Nat} {t : TypeId} {v : Value} {N : Nat} {l : List Value} (h : W.ownsRow B t 1 v N l) (hD : D ≤ B) : W.ownsRow D t 1 v N l := by
  obtain ⟨h1, h2⟩ := h
  refine ⟨h1, ?_⟩
  rcases h2 with h2 | ⟨g, cap, cur, rfl, hB, r⟩
  · exact Or.inl h2
  · exact Or.inr ⟨g, cap, cur, rfl, Nat.le_trans hD hB, r⟩
theorem one_more {W : World} {B : Nat} {t : TypeId} {v : Value} {n : Nat} {f : Nat → Int} {z : Int} (h : W.ownsRow B t 1 v (0 + n + 1) ([] ++ bl (lof n f) ++ [.int .u8 z])) : W.ownsRow B t 1 v (n + 1) (bl (lof n f ++ [z])) := by
  rw [Nat.zero_add, List.nil_append] at h
  rw [bl_append]
  exact h

set_option linter.unusedSimpArgs false in
set_option maxHeartbeats 2000000 in
theorem l5Value_own (b off n cap : Nat) (f : Nat → Int) (k x : Int) (s : ByteArray) (w : World) (hv : View w (some ⟨b, off, none⟩) n cap f) (hn : n ≤ 17592186000000) (hx : -9223372036854775808 ≤ x ∧ x ≤ 9223372036854775807) (hs : s.size ≤ 1000) :
    Calls Tryz.prog 150 #[.slice (some ⟨b, off, none⟩) n cap, .agg #[.int .i64 k, .int .i64 x, .string s]] w fun e w' => ∃ v, e = .returned v ∧ w'.ownsRow w.heap.size 5 1 v (n + (valL k x s).length) (bl (lof n f ++ valL k x s)) ∧ Below w.heap.size w w' := by
  obtain ⟨i0, hi, hz0, hz1, hz2⟩ := info_parts Tryz.info5
  have hb0 : Below w.heap.size w (w.alloc (.cells #[.int .i64 k, .int .i64 x, .string s] 58)) := (Below.refl _ _).alloc (Nat.le_refl _) _
  have hV := Box.new w k x s
  have hsz : (w.alloc (.cells #[.int .i64 k, .int .i64 x, .string s] 58)).heap.size = w.heap.size + 1 := by simp
  have hv1 := hv.below hb0
  by_cases k1 : k = 1
  · subst k1
    have e : valL 1 x s = fixL x := rfl
    rw [e, fixL_len]
    go_enter Tryz.func150, Tryz.ntmps150
    go_wp2_with fail
    refine (putFix_own b off n cap f x _ hv1 (by omega) hx.1 hx.2).mono ?_
    rintro e w1 ⟨v, rfl, hown, hb1⟩
    have HO : Hid _ := own_down hown (by rw [hsz]; omega : w.heap.size ≤ _)
    have HB : Hid (Below w.heap.size w w1) := hb0.trans (hb1.mono (by rw [hsz]; omega))
    clear hown hb1 hv1 hV hb0
    go_wp2
    go_ret
    exact ⟨v, rfl, HO.out, HB.out⟩
  by_cases k2 : k = 2
  · subst k2
    have e : valL 2 x s = varL x := rfl
    rw [e]
    go_enter Tryz.func150, Tryz.ntmps150
    go_wp2_with fail
    refine (putVar_own b off n cap f x _ hv1 (by omega) hx.1 hx.2).mono ?_
    rintro e w1 ⟨v, rfl, hown, hb1⟩
    have HO : Hid _ := own_down hown (by rw [hsz]; omega : w.heap.size ≤ _)
    have HB : Hid (Below w.heap.size w w1) := hb0.trans (hb1.mono (by rw [hsz]; omega))
    clear hown hb1 hv1 hV hb0
    go_wp2
    go_ret
    exact ⟨v, rfl, HO.out, HB.out⟩
  by_cases k3 : k = 3
  · subst k3
    have e : valL 3 x s = escL (sl s) ++ [0, 1] := rfl
    have hE : (escL (sl s) ++ [0, 1]).length = escN s := by simp [escN]
    rw [e, hE]
    go_enter Tryz.func150, Tryz.ntmps150
    go_wp2_with fail
    refine (putEsc_own b off n cap f s _ hv1 (by omega) (by omega)).mono ?_
    rintro e w1 ⟨v, rfl, hown, hb1⟩
    have HO : Hid _ := own_down hown (by rw [hsz]; omega : w.heap.size ≤ _)
    have HB : Hid (Below w.heap.size w w1) := hb0.trans (hb1.mono (by rw [hsz]; omega))
    clear hown hb1 hv1 hV hb0
    go_wp2
    go_ret
    exact ⟨v, rfl, HO.out, HB.out⟩
  have e : valL k x s = [x % 256] := by unfold valL; rw [if_neg k1, if_neg k2, if_neg k3]
  rw [e]
  have q1 : (k == 1) = false := by simpa using k1
  have q2 : (k == 2) = false := by simpa using k2
  have q3 : (k == 3) = false := by simpa using k3
  have hw : IntKind.u8.wrap x = x % 256 := u8_wrap x
  clear k1 k2 k3 e
  go_enter Tryz.func150, Tryz.ntmps150
  go_wp2_with fail
  refine wp_region_held_drew (S := fun W => Box W w.heap.size k x s) (by kernel_rfl) hV.drew (fun hHeld => ?_)
  refine' wpAnyH_take (i := 1) (v := _) rfl (by kernel_rfl) (by kernel_rfl) (by kernel_rfl) (fun _ _ _ h => h) (Or.inl ⟨by kernel_rfl, ?h1⟩) (by assumption) ?r1
  case h1 => intro W hW; go_simp; all_goals with_reducible rfl
  change wpAnyH _ _ _ _ _ _ _ (Act.put _ (some 26) _) _
  simp only [Act.put, List.setIfInBounds_toArray, List.set_cons_zero, List.set_cons_succ]
  refine' wpAnyH_take (i := 3) (v := _) rfl (by kernel_rfl) (by kernel_rfl) (by kernel_rfl) (fun _ _ _ h => h) (Or.inl ⟨by kernel_rfl, ?h3⟩) (by assumption) ?r3
  case h3 => intro W hW; go_simp; all_goals with_reducible rfl
  change wpAnyH _ _ _ _ _ _ _ (Act.put _ (some 28) _) _
  simp only [Act.put, List.setIfInBounds_toArray, List.set_cons_zero, List.set_cons_succ]
  refine' wpAnyH_take (i := 4) (v := _) rfl (by kernel_rfl) (by kernel_rfl) (by kernel_rfl) (fun _ _ _ h => h) (Or.inl ⟨by kernel_rfl, ?h4⟩) (by assumption) ?r4
  case h4 => intro W hW; obtain ⟨c0, c1, c2⟩ := Box.cells hW; go_simp; all_goals with_reducible rfl
  change wpAnyH _ _ _ _ _ _ _ (Act.put _ (some 29) _) _
  simp only [Act.put, List.setIfInBounds_toArray, List.set_cons_zero, List.set_cons_succ]
  refine' wpAnyH_take (i := 5) (v := _) rfl (by kernel_rfl) (by kernel_rfl) (by kernel_rfl) (fun _ _ _ h => h) (Or.inl ⟨by kernel_rfl, ?h5⟩) (by assumption) ?r5
  case h5 => intro W hW; go_simp; all_goals with_reducible rfl
  change wpAnyH _ _ _ _ _ _ _ (Act.put _ (some 30) _) _
  simp only [Act.put, List.setIfInBounds_toArray, List.set_cons_zero, List.set_cons_succ]
  refine wpAnyH_ready (rs := [0, 6]) (by kernel_rfl) (by simp) ?_
  refine AllReadyH.cons rfl (fun KK hK => ?_) (AllReadyH.cons rfl (fun KK hK => ?_) AllReadyH.nil)
  ·
    go_simp
    refine hK.out _ _ (hHeld.below ((Below.refl _ _).alloc (Nat.le_refl _) _)) (fun hHeld => ?_)
    clear hK KK
    try simp only [Act.put, List.setIfInBounds_toArray, List.set_cons_zero, List.set_cons_succ]
    refine wpAnyH_ready (rs := [2, 6]) (by kernel_rfl) (by simp) ?_
    refine AllReadyH.cons rfl (fun KK hK => ?_) (AllReadyH.cons rfl (fun KK hK => ?_) AllReadyH.nil)
    ·
      rw [if_pos (by kernel_rfl)]
      have hbw := (hb0.drew).alloc (by simp) (.cells #[] 5)
      refine wp_append_own _ (.tmp 25) (.tmp 26) 22 rfl (w.heap.size + 1) 5 i0 (.int .u8 0) 1 1 Tryz.underlying22 hi hz0 hz1 hz2 rfl (by decide) (.slice (some ⟨w.heap.size + 1, 0, none⟩) 0 0) 0 [] rfl (own_nil _ (w.heap.size + 1) _ (by simp) (by omega)) ⟨b, off, none⟩ n cap (bl (lof n f)) rfl (by rw [bl_len, lof_len]; omega) (cells_of_view (hv.below hbw)) (bl_one _) (by unfold maxLen; omega) (by omega) (by simp) ?_
      intro v1 w1 hown1 hgr1 hnil1
      have hb1 : Below w.heap.size w w1 := hbw.grown hgr1 hbw.size (fun k hk => by simp only [Value.ownBlock, Option.some.injEq] at hk; omega)
      have hs1 : w.heap.size + 1 ≤ w1.heap.size := by have := hgr1.size; simp at this; omega
      refine hK.out _ _ (hHeld.grown hgr1 (by simp only [Value.ownBlock, ne_eq, Option.some.injEq]; omega)) (fun hHeld => ?_)
      clear hK KK
      change wpAnyH _ _ _ _ _ _ _ (Act.put _ (some 27) _) _
      try simp only [Act.put, List.setIfInBounds_toArray, List.set_cons_zero, List.set_cons_succ]
      refine wpAnyH_ready (rs := [6]) (by kernel_rfl) (by simp) ?_
      refine AllReadyH.cons rfl (fun KK hK => ?_) AllReadyH.nil
      go_simp
      refine hK.out _ _ (hHeld.below ((Below.refl _ _).alloc (Nat.le_refl _) _)) (fun hHeld => ?_)
      clear hK KK
      try simp only [Act.put, List.setIfInBounds_toArray, List.set_cons_zero, List.set_cons_succ]
      refine wpAnyH_ready (rs := [7]) (by kernel_rfl) (by simp) ?_
      refine AllReadyH.cons rfl (fun KK hK => ?_) AllReadyH.nil
      rw [if_pos (by kernel_rfl)]
      refine wp_append_own _ (.tmp 27) (.tmp 31) 22 rfl (w.heap.size + 1) 5 i0 (.int .u8 0) 1 1 Tryz.underlying22 hi hz0 hz1 hz2 rfl (by decide) v1 _ _ rfl (hown1.alloc _) ⟨w1.heap.size, 0, none⟩ 1 1 [.int .u8 (x % 256)] rfl rfl (cellNew _ _ _) (bl_one [x % 256]) (by unfold maxLen; omega) (by omega) (by first | omega | (simp; omega)) ?_
      intro v2 w2 hown2 hgr2 hnil2
      have hB2 : Below w.heap.size w w2 := (hb1.alloc hb1.size _).grown hgr2 (by have := hb1.size; simp; omega) (fun k hk => by have := (hown1.lt k hk).1; omega)
      have hO2 := own_down (one_more hown2) (Nat.le_succ w.heap.size)
      refine hK.out _ _ (hHeld.grown hgr2 (fun e => by have := (hown1.lt _ e).1; omega)) (fun hHeld => ?_)
      clear hK KK
      change wpAnyH _ _ _ _ _ _ _ (Act.put _ (some 32) _) _
      try simp only [Act.put, List.setIfInBounds_toArray, List.set_cons_zero, List.set_cons_succ]
      refine' wpAnyH_take (i := 8) (v := _) rfl (by kernel_rfl) (by kernel_rfl) (by kernel_rfl) (fun _ _ _ h => h) (Or.inl ⟨by kernel_rfl, ?hlastA⟩) (by assumption) ?rlastA
      case hlastA => intro W hW; go_simp; all_goals with_reducible rfl
      change wpAnyH _ _ _ _ _ _ _ (Act.put _ (some 4) _) _
      simp only [Act.put, List.setIfInBounds_toArray, List.set_cons_zero, List.set_cons_succ]
      refine wpAnyH_done (by kernel_rfl) ?_ _
      go_wp2
      go_ret
      exact ⟨v2, rfl, hO2, hB2⟩
    ·
      go_simp
      refine hK.out _ _ (hHeld.below ((Below.refl _ _).alloc (Nat.le_refl _) _)) (fun hHeld => ?_)
      clear hK KK
      try simp only [Act.put, List.setIfInBounds_toArray, List.set_cons_zero, List.set_cons_succ]
      refine wpAnyH_ready (rs := [2]) (by kernel_rfl) (by simp) ?_
      refine AllReadyH.cons rfl (fun KK hK => ?_) AllReadyH.nil
      rw [if_pos (by kernel_rfl)]
      have hbw := ((hb0.drew).alloc (by simp) (.cells #[] 5)).alloc (by simp; omega) (.cells #[.int .u8 (x % 256)] 5)
      refine wp_append_own _ (.tmp 25) (.tmp 26) 22 rfl (w.heap.size + 1) 5 i0 (.int .u8 0) 1 1 Tryz.underlying22 hi hz0 hz1 hz2 rfl (by decide) (.slice (some ⟨w.heap.size + 1, 0, none⟩) 0 0) 0 [] rfl ((own_nil _ (w.heap.size + 1) _ (by simp) (by omega)).alloc _) ⟨b, off, none⟩ n cap (bl (lof n f)) rfl (by rw [bl_len, lof_len]; omega) (cells_of_view (hv.below hbw)) (bl_one _) (by unfold maxLen; omega) (by omega) (by simp) ?_
      intro v1 w1 hown1 hgr1 hnil1
      have hb1 : Below w.heap.size w w1 := hbw.grown hgr1 hbw.size (fun k hk => by simp only [Value.ownBlock, Option.some.injEq] at hk; omega)
      have hs1 : w.heap.size + 1 ≤ w1.heap.size := by have := hgr1.size; simp at this; omega
      refine hK.out _ _ (hHeld.grown hgr1 (by simp only [Value.ownBlock, ne_eq, Option.some.injEq]; omega)) (fun hHeld => ?_)
      clear hK KK
      change wpAnyH _ _ _ _ _ _ _ (Act.put _ (some 27) _) _
      try simp only [Act.put, List.setIfInBounds_toArray, List.set_cons_zero, List.set_cons_succ]
      refine wpAnyH_ready (rs := [7]) (by kernel_rfl) (by simp) ?_
      refine AllReadyH.cons rfl (fun KK hK => ?_) AllReadyH.nil
      rw [if_pos (by kernel_rfl)]
      refine wp_append_own _ (.tmp 27) (.tmp 31) 22 rfl (w.heap.size + 1) 5 i0 (.int .u8 0) 1 1 Tryz.underlying22 hi hz0 hz1 hz2 rfl (by decide) v1 _ _ rfl (hown1) ⟨w.heap.size + 2, 0, none⟩ 1 1 [.int .u8 (x % 256)] rfl rfl (cells_kept (cellD _ (w.heap.size + 2) _ _ (by simp)) hgr1 (by simp) (by simp [Value.ownBlock])) (bl_one [x % 256]) (by unfold maxLen; omega) (by omega) (by first | omega | (simp; omega)) ?_
      intro v2 w2 hown2 hgr2 hnil2
      have hB2 : Below w.heap.size w w2 := hb1.grown hgr2 hb1.size (fun k hk => by have := (hown1.lt k hk).1; omega)
      have hO2 := own_down (one_more hown2) (Nat.le_succ w.heap.size)
      refine hK.out _ _ (hHeld.grown hgr2 (fun e => by have := (hown1.lt _ e).1; omega)) (fun hHeld => ?_)
      clear hK KK
      change wpAnyH _ _ _ _ _ _ _ (Act.put _ (some 32) _) _
      try simp only [Act.put, List.setIfInBounds_toArray, List.set_cons_zero, List.set_cons_succ]
      refine' wpAnyH_take (i := 8) (v := _) rfl (by kernel_rfl) (by kernel_rfl) (by kernel_rfl) (fun _ _ _ h => h) (Or.inl ⟨by kernel_rfl, ?hlastB⟩) (by assumption) ?rlastB
      case hlastB => intro W hW; go_simp; all_goals with_reducible rfl
      change wpAnyH _ _ _ _ _ _ _ (Act.put _ (some 4) _) _
      simp only [Act.put, List.setIfInBounds_toArray, List.set_cons_zero, List.set_cons_succ]
      refine wpAnyH_done (by kernel_rfl) ?_ _
      go_wp2
      go_ret
      exact ⟨v2, rfl, hO2, hB2⟩
  ·
    go_simp
    refine hK.out _ _ (hHeld.below ((Below.refl _ _).alloc (Nat.le_refl _) _)) (fun hHeld => ?_)
    clear hK KK
    try simp only [Act.put, List.setIfInBounds_toArray, List.set_cons_zero, List.set_cons_succ]
    refine wpAnyH_ready (rs := [0]) (by kernel_rfl) (by simp) ?_
    refine AllReadyH.cons rfl (fun KK hK => ?_) AllReadyH.nil
    go_simp
    refine hK.out _ _ (hHeld.below ((Below.refl _ _).alloc (Nat.le_refl _) _)) (fun hHeld => ?_)
    clear hK KK
    try simp only [Act.put, List.setIfInBounds_toArray, List.set_cons_zero, List.set_cons_succ]
    refine wpAnyH_ready (rs := [2]) (by kernel_rfl) (by simp) ?_
    refine AllReadyH.cons rfl (fun KK hK => ?_) AllReadyH.nil
    rw [if_pos (by kernel_rfl)]
    have hbw := ((hb0.drew).alloc (by simp) (.cells #[.int .u8 (x % 256)] 5)).alloc (by simp; omega) (.cells #[] 5)
    refine wp_append_own _ (.tmp 25) (.tmp 26) 22 rfl (w.heap.size + 1) 5 i0 (.int .u8 0) 1 1 Tryz.underlying22 hi hz0 hz1 hz2 rfl (by decide) (.slice (some ⟨w.heap.size + 2, 0, none⟩) 0 0) 0 [] rfl (own_nil _ (w.heap.size + 2) _ (by simp) (by omega)) ⟨b, off, none⟩ n cap (bl (lof n f)) rfl (by rw [bl_len, lof_len]; omega) (cells_of_view (hv.below hbw)) (bl_one _) (by unfold maxLen; omega) (by omega) (by simp) ?_
    intro v1 w1 hown1 hgr1 hnil1
    have hb1 : Below w.heap.size w w1 := hbw.grown hgr1 hbw.size (fun k hk => by simp only [Value.ownBlock, Option.some.injEq] at hk; omega)
    have hs1 : w.heap.size + 1 ≤ w1.heap.size := by have := hgr1.size; simp at this; omega
    refine hK.out _ _ (hHeld.grown hgr1 (by simp only [Value.ownBlock, ne_eq, Option.some.injEq]; omega)) (fun hHeld => ?_)
    clear hK KK
    change wpAnyH _ _ _ _ _ _ _ (Act.put _ (some 27) _) _
    try simp only [Act.put, List.setIfInBounds_toArray, List.set_cons_zero, List.set_cons_succ]
    refine wpAnyH_ready (rs := [7]) (by kernel_rfl) (by simp) ?_
    refine AllReadyH.cons rfl (fun KK hK => ?_) AllReadyH.nil
    rw [if_pos (by kernel_rfl)]
    refine wp_append_own _ (.tmp 27) (.tmp 31) 22 rfl (w.heap.size + 1) 5 i0 (.int .u8 0) 1 1 Tryz.underlying22 hi hz0 hz1 hz2 rfl (by decide) v1 _ _ rfl (hown1) ⟨w.heap.size + 1, 0, none⟩ 1 1 [.int .u8 (x % 256)] rfl rfl (cells_kept (cellDD _ (w.heap.size + 1) _ _ (by simp) _) hgr1 (by simp) (by simp [Value.ownBlock])) (bl_one [x % 256]) (by unfold maxLen; omega) (by omega) (by first | omega | (simp; omega)) ?_
    intro v2 w2 hown2 hgr2 hnil2
    have hB2 : Below w.heap.size w w2 := hb1.grown hgr2 hb1.size (fun k hk => by have := (hown1.lt k hk).1; omega)
    have hO2 := own_down (one_more hown2) (Nat.le_succ w.heap.size)
    refine hK.out _ _ (hHeld.grown hgr2 (fun e => by have := (hown1.lt _ e).1; omega)) (fun hHeld => ?_)
    clear hK KK
    change wpAnyH _ _ _ _ _ _ _ (Act.put _ (some 32) _) _
    try simp only [Act.put, List.setIfInBounds_toArray, List.set_cons_zero, List.set_cons_succ]
    refine' wpAnyH_take (i := 8) (v := _) rfl (by kernel_rfl) (by kernel_rfl) (by kernel_rfl) (fun _ _ _ h => h) (Or.inl ⟨by kernel_rfl, ?hlastC⟩) (by assumption) ?rlastC
    case hlastC => intro W hW; go_simp; all_goals with_reducible rfl
    change wpAnyH _ _ _ _ _ _ _ (Act.put _ (some 4) _) _
    simp only [Act.put, List.setIfInBounds_toArray, List.set_cons_zero, List.set_cons_succ]
    refine wpAnyH_done (by kernel_rfl) ?_ _
    go_wp2
    go_ret
    exact ⟨v2, rfl, hO2, hB2⟩
end Go.Proofs.YtkakkjnbhklfpaaGreatDoor

/-
  A row of bytes of the call's own, its room with it.
-/
namespace Go.Proofs.YtkakkjnbhklfpaaGreatDoor
open Go.RowKit
set_option maxRecDepth 4000

/-- Block b is a row of bytes of the call's own, none frozen, with room for c of them; the first n are f 0 up to f (n - 1). -/
def RowC (t : TypeId) (w : World) (b n c : Nat) (f : Nat → Int) : Prop :=
  ∃ cur : Array Value, w.heap[b]? = some (.cells cur t (0, 0)) ∧ cur.size = c ∧ n ≤ c ∧ c ≤ maxLen ∧ ∀ i, i < n → cur[i]? = some (.int .u8 (f i))
namespace RowC
variable {t : TypeId} {w w' : World} {b n c : Nat} {f g : Nat → Int}
theorem row (h : RowC t w b n c f) : Row t w b n f := by
  obtain ⟨cur, h1, h2, h3, _, h5⟩ := h
  exact ⟨cur, h1, by omega, h5⟩
theorem congr (h : RowC t w b n c f) (e : ∀ i, i < n → f i = g i) : RowC t w b n c g := by
  obtain ⟨cur, h1, h2, h3, h4, h5⟩ := h
  exact ⟨cur, h1, h2, h3, h4, fun i hi => by rw [h5 i hi, e i hi]⟩
theorem of_block (h : RowC t w b n c f) (e : w'.heap[b]? = w.heap[b]?) : RowC t w' b n c f := by
  obtain ⟨cur, h1, r⟩ := h
  exact ⟨cur, e.trans h1, r⟩
theorem set (h : RowC t w b n c f) (i : Nat) (x : Int) : RowC t (w.setCell ⟨b, i, none⟩ (.int .u8 x)) b n c (fun j => if j = i then x else f j) := by
  obtain ⟨cur, hb, hs, hn, hm, hc⟩ := h
  refine ⟨cur.setIfInBounds i (.int .u8 x), ?_, by simpa using hs, hn, hm, fun j hj => ?_⟩
  · simp [World.setCell, Array.getElem?_modify, hb]
  · rw [Array.getElem?_setIfInBounds]
    by_cases e : j = i
    · subst e
      have : j < cur.size := by omega
      simp [this]
    · rw [if_neg (fun h => e h.symm)]
      show cur[j]? = some (.int .u8 (if j = i then x else f j))
      rw [if_neg e]
      exact hc j hj
theorem own (h : RowC t w b n c f) {base : Nat} (hb : base ≤ b) : w.ownsRow base t 1 (.slice (some ⟨b, 0, none⟩) n c) n (bl (lof n f)) := by
  obtain ⟨cur, h1, h2, h3, h4, h5⟩ := h
  refine ⟨by rw [bl_len, lof_len]; omega, Or.inr ⟨b, c, cur, rfl, hb, h1, h3, h4, by omega, ?_⟩⟩
  apply List.ext_getElem?
  intro i
  rw [Nat.mul_one, List.getElem?_take]
  by_cases hi : i < n
  · rw [if_pos hi, Array.getElem?_toList, h5 i hi]
    simp [bl, lof, hi]
  · rw [if_neg hi, List.getElem?_eq_none (by rw [bl_len, lof_len]; omega)]
theorem ofOwn {base : Nat} {v : Value} {l : List Int} (h : w.ownsRow base t 1 v n (bl l)) (hv : v ≠ .slice none 0 0) : ∃ b c, v = .slice (some ⟨b, 0, none⟩) n c ∧ base ≤ b ∧ RowC t w b n c (fun i => l.getD i 0) := by
  obtain ⟨hl, h⟩ := h
  rcases h with ⟨h0, _⟩ | ⟨g, c, cur, rfl, hb, hg, hnc, hcm, hcs, ht⟩
  · exact absurd h0 hv
  · refine ⟨g, c, rfl, hb, cur, hg, by omega, hnc, hcm, fun i hi => ?_⟩
    have e : (bl l)[i]? = some (.int .u8 (l.getD i 0)) := by
      have : i < l.length := by rw [bl_len] at hl; omega
      simp [bl, this]
    rw [← ht, List.getElem?_take, if_pos (by omega)] at e
    simpa using e
end RowC
end Go.Proofs.YtkakkjnbhklfpaaGreatDoor

