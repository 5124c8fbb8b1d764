/-
  Together: PutVarSpec, GetVarSpec, ValBox, PartBox, PartSpec, KeySpec, RowOkSpec, EncTo, EncMore, PutSpec, PutTextSpec, CrcBits, CrcSpec, SumSpec, OkFKinds
-/
import Derived.Test.YtikopeihkbpjhasPack2
import Derived.Test.YtikopeihkbpjhasPack1
import Derived.Deep.LoopGhost
import Derived.Deep.RegionHeld3
import Derived.WalkSpells
/-
  The model's l4Bytes and PutVar: what was there, and behind it the number's bytes, in memory of its own.
-/
namespace Go.Proofs.Ytikopeihkbpjhas
open Go.RowKit
set_option maxRecDepth 4000

theorem be_step (k : Nat) (n : Int) : lof (1 + k) (be (1 + k) n) = (n / 256 ^ k % 256) :: lof k (be k n) := by
  rw [lof_cons]
  unfold be dg
  rw [show 1 + k - 1 - 0 = k by omega]
  congr 2
  funext i
  rw [show 1 + k - 1 - (i + 1) = k - 1 - i by omega]

/-- k bytes of the number stand. -/
structure Bytes (t : TypeId) (w wr : World) (s : Int) (k g c : Nat) : Prop where
  low : 0 < k → 256 ^ (k - 1) ≤ s
  le : k ≤ c
  new : w.heap.size ≤ g
  row : Row t wr g k (be k s)
  below : Below w.heap.size w wr
theorem Bytes.view {t : TypeId} {w wr : World} {s : Int} {k g c : Nat} (h : Bytes t w wr s k g c) : View wr (some ⟨g, 0, none⟩) k c (be k s) := h.row.view h.le (fun i _ => be_bd _ _ i)

set_option maxHeartbeats 1000000 in
theorem l4Bytes_of (s : Int) (w : World) (hs0 : 0 ≤ s) (hs1 : s < 72057594037927936) :
    Calls Try.prog 54 #[.int .i64 s] w fun e w' => ∃ g c, e = .returned (.slice (some ⟨g, 0, none⟩) (cnt s) c) ∧ View w' (some ⟨g, 0, none⟩) (cnt s) c (be (cnt s) s) ∧ Below w.heap.size w w' := by
  obtain ⟨i0, hi, hz0, hz1, hz2⟩ := info_parts Try.info5
  have hB0 : Hid (Bytes 5 w (w.alloc (.cells #[] 5)) s 0 w.heap.size 0) :=
    ⟨fun h => absurd h (Nat.lt_irrefl _), Nat.le_refl _, Nat.le_refl _, Row.ofIs (World.rowIs_alloc w #[] 5 _ (fun j hj => absurd hj (Nat.not_lt_zero _))), (Below.refl _ _).alloc (Nat.le_refl _) _⟩
  go_enter Try.func54, Try.ntmps54
  go_wp2
  go_loopg [0, 3] (s.toNat + 1) (fun q a v wr => ∃ k g c : Nat, k ≤ 7 ∧ q = (s / 256 ^ k).toNat + 1 ∧ a = .int .i64 (s / 256 ^ k) ∧ v = .slice (some ⟨g, 0, none⟩) k c ∧ Bytes 5 w wr s k g c)
  case atStart => exact ⟨0, w.heap.size, 0, by omega, by simp, by simp, rfl, hB0.out⟩
  case round =>
    obtain ⟨k, g, c, hk, rfl, rfl, rfl, hB⟩ := hrel
    clear hB0
    have ha0 : 0 ≤ s / 256 ^ k := Int.ediv_nonneg hs0 (Int.le_of_lt (Int.pow_pos (by decide)))
    have ha1 : s / 256 ^ k ≤ s := Int.ediv_le_self _ hs0
    by_cases h0 : s / 256 ^ k = 0
    · have hlt : s < 256 ^ k := by
        have := Int.lt_mul_ediv_self_add (x := s) (k := 256 ^ k) (Int.pow_pos (by decide))
        rw [h0] at this
        simpa using this
      have hc : Hid (cnt s = k) := cnt_is s k hk hlt hB.low
      have hV := hB.view
      have hb := hB.below
      clear hB hlt ha0 ha1
      go_wp2
      go_ret
      exact ⟨g, c, by rw [hc.out]; rfl, by rw [hc.out]; exact hV, hb⟩
    · have hge : 256 ^ k ≤ s := by
        by_cases hh : 256 ^ k ≤ s
        · exact hh
        · exact absurd (Int.ediv_eq_zero_of_lt hs0 (by omega)) h0
      have hk6 : k < 7 := by
        by_cases hh : k < 7
        · exact hh
        · have := pow_mono (a := 7) (b := k) (by omega)
          have e : (256 : Int) ^ 7 = 72057594037927936 := by decide
          omega
      have HN : Hid (s / 256 ^ k / 256 = s / 256 ^ (1 + k)) := by show _ = _; rw [div_pow_succ, Nat.add_comm]
      have HL : Hid (lof (1 + k) (be (1 + k) s) = (s / 256 ^ k % 256) :: lof k (be k s)) := be_step k s
      have HG : Hid (256 ^ k ≤ s) := hge
      have hpos : 0 < s / 256 ^ k := by omega
      have hnew := hB.new
      have hb := hB.below
      have hsz := hb.size
      have hV : ∀ o, View (wr.alloc o) (some ⟨g, 0, none⟩) k c (be k s) := fun o => hB.view.below ((Below.refl _ _).alloc (Nat.le_refl _) _)
      clear hB h0 hge
      generalize s / 256 ^ k = a at *
      have hown0 := World.ownsRow_lit (base := w.heap.size) (e := 5) (size := 1) wr #[.int .u8 (a % 256)] 1 (by omega) (by unfold maxLen; omega) rfl
      have hcl := cells_of_view (hV (.cells #[.int .u8 (a % 256)] 5))
      go_wp2_with (at_builtin; go_must (refine wpList_append_own _ rfl (.tmp 9) (.tmp 10) 34 rfl w.heap.size 5 i0 (.int .u8 0) 1 1 Try.underlying34 hi hz0 hz1 hz2 rfl (by decide) (.slice (some ⟨wr.heap.size, 0, none⟩) 1 1) 1 [.int .u8 (a % 256)] rfl hown0 ⟨g, 0, none⟩ k c (bl (lof k (be k s))) rfl (by rw [bl_len, lof_len]; omega) hcl (bl_one _) (by unfold maxLen; omega) (by omega) (by simp; omega) ?_); intro v1 w1 hown1 hgr1 hnil)
      have hO : w1.ownsRow w.heap.size 5 1 v1 (1 + k) (bl ((a % 256) :: lof k (be k s))) := hown1
      obtain ⟨g1, c1, rfl, hg1, hc1, hr1⟩ := row_of_own hO (by omega)
      have hB1 : Hid (Bytes 5 w w1 s (1 + k) g1 c1) := by
        refine ⟨fun _ => by rw [Nat.add_sub_cancel_left]; exact HG.out, hc1, hg1, hr1.congr (fun i hi => ?_), ?_⟩
        · rw [← HL.out, lof_get (1 + k) _ i hi]
        · exact (hb.alloc hsz _).grown hgr1 (by simp; omega) (fun j hj => by simp only [Value.ownBlock, Option.some.injEq] at hj; omega)
      clear hown1 hO hgr1 hnil hr1 hown0 hcl hV hb
      go_wp2
      go_roundg ((a / 256).toNat + 1)
      case measure => omega
      case rel => exact ⟨1 + k, g1, c1, by omega, by rw [HN.out], by rw [HN.out], rfl, hB1.out⟩
theorem keptL_up (y : Int) (h : 0 ≤ y) : keptL y = (128 + (cnt y : Int)) :: lof (cnt y) (be (cnt y) y) := by
  have e : sizeV y = y := by unfold sizeV; rw [if_neg (by omega)]
  unfold keptL headV
  rw [e, if_neg (by omega)]
  congr 1
  unfold lof
  apply List.map_congr_left
  intro i _
  unfold tailV
  rw [e, if_neg (by omega)]
theorem keptL_down (y : Int) (h : y < 0) : keptL y = (127 - (cnt (-1 - y) : Int)) :: lof (cnt (-1 - y)) (flipF (be (cnt (-1 - y)) (-1 - y)) 0) := by
  have e : sizeV y = -1 - y := by unfold sizeV; rw [if_pos h]
  unfold keptL headV
  rw [e, if_pos h]
  congr 1
  unfold lof
  apply List.map_congr_left
  intro i _
  unfold tailV flipF
  rw [e, if_pos h, if_pos (by omega)]

theorem l4Bytes_any (s : Int) (k : Nat) (w : World) (hs0 : 0 ≤ s) (hs1 : s < 72057594037927936) (hk : cnt s = k) :
    Calls Try.prog 54 #[.int .i64 s] w fun e w' => ∃ g c, e = .returned (.slice (some ⟨g, 0, none⟩) k c) ∧ View w' (some ⟨g, 0, none⟩) k c (be k s) ∧ Below w.heap.size w w' := by
  subst hk
  exact l4Bytes_of s w hs0 hs1
theorem Below.grownAll {w w' : World} (h : Below w.heap.size w w') : w.grownBy w' none := ⟨h.os, h.tape, h.output, h.size, fun k hk _ => h.block k hk⟩

theorem own_below {w w' : World} {base : Nat} {t : TypeId} {v : Value} {n : Nat} {l : List Value} (h : w.ownsRow base t 1 v n l) (hb : Below w.heap.size w w') : w'.ownsRow base t 1 v n l := by
  refine h.kept (Below.grownAll hb) ?_
  cases hv : v.ownBlock with
  | none => exact Or.inl rfl
  | some k => exact Or.inr (fun e => by cases e)
theorem var_done {w w' : World} {B : Nat} {t : TypeId} {v : Value} {n k : Nat} {f F : Nat → Int} (z : Int) (h : w'.ownsRow B t 1 v (n + 1 + k) (bl (lof n f) ++ [.int .u8 z] ++ bl (lof k F))) (hs : w.heap.size ≤ B) :
    w'.ownsRow w.heap.size t 1 v (n + (z :: lof k F).length) (bl (lof n f ++ z :: lof k F)) := by
  have e1 : n + (z :: lof k F).length = n + 1 + k := by rw [List.length_cons, lof_len]; omega
  have e2 : bl (lof n f ++ z :: lof k F) = bl (lof n f) ++ [.int .u8 z] ++ bl (lof k F) := by
    rw [bl_append, List.append_assoc]
    rfl
  rw [e1, e2]
  obtain ⟨h1, h2⟩ := h
  refine ⟨h1, ?_⟩
  rcases h2 with h2 | ⟨g, cap, cur, rfl, hB, r⟩
  · exact Or.inl h2
  · exact Or.inr ⟨g, cap, cur, rfl, Nat.le_trans hs hB, r⟩

set_option maxHeartbeats 1000000 in
theorem putVar_own (b off n cap : Nat) (f : Nat → Int) (x : Int) (w : World) (hv : View w (some ⟨b, off, none⟩) n cap f) (hn : n ≤ 70368744170000) (hx0 : -9223372036854775808 ≤ x) (hx1 : x ≤ 9223372036854775807) :
    Calls Try.prog 35 #[.slice (some ⟨b, off, none⟩) n cap, .int .i64 x] w fun e w' => ∃ v, e = .returned v ∧ w'.ownsRow w.heap.size 5 1 v (n + (varL x).length) (bl (lof n f ++ varL x)) ∧ Below w.heap.size w w' := by
  obtain ⟨i0, hi, hz0, hz1, hz2⟩ := info_parts Try.info5
  have hcase : (1000000000000000 < x ∧ clampV x = 1000000000000000) ∨ (x < -1000000000000000 ∧ clampV x = -1000000000000000) ∨ (0 ≤ x ∧ x ≤ 1000000000000000 ∧ clampV x = x) ∨ (-1000000000000000 ≤ x ∧ x < 0 ∧ clampV x = x) := by
    unfold clampV; (repeat' split) <;> omega
  unfold varL
  rcases hcase with ⟨h1, hy⟩ | ⟨h1, hy⟩ | ⟨h1, h2, hy⟩ | ⟨h1, h2, hy⟩
  all_goals
    rw [hy]
    clear hy
  ·
    obtain ⟨k, hk⟩ : ∃ k, Hid (cnt (1000000000000000) = k) := ⟨_, rfl⟩
    have hk7 : k ≤ 7 := by rw [← hk.out]; exact cnt_le _
    have HK : Hid (keptL (1000000000000000) = (128 + (k : Int)) :: lof k (be k (1000000000000000))) := by
      have h := keptL_up (1000000000000000) (by omega)
      have e : cnt (1000000000000000) = k := hk.out
      rw [e] at h
      exact h
    go_enter Try.func35, Try.ntmps35
    go_wp2_with fail
    refine (l4Bytes_any (1000000000000000) k w (by omega) (by omega) hk.out).mono ?_
    rintro e w0 ⟨g, c, rfl, hV, hb⟩
    have hsz := hb.size
    have hown0 := World.ownsRow_lit (base := w0.heap.size) (e := 5) (size := 1) w0 #[] 0 (Nat.le_refl _) (Nat.zero_le _) rfl
    have hcl := cells_of_view ((hv.below hb).below ((Below.refl w0.heap.size w0).alloc (Nat.le_refl _) (.cells #[] 5)))
    go_wp2_with (first | (at_builtin; refine wpList_append_own _ rfl (.tmp 15) (.tmp 16) 34 rfl w0.heap.size 5 i0 (.int .u8 0) 1 1 Try.underlying34 hi hz0 hz1 hz2 rfl (by decide) (.slice (some ⟨w0.heap.size, 0, none⟩) 0 0) 0 [] rfl hown0 ⟨b, off, none⟩ n cap (bl (lof n f)) rfl (by rw [bl_len, lof_len]; omega) hcl (bl_one _) (by unfold maxLen; omega) (by omega) (by simp) ?_; intro v1 w1 hown1 hgr1 hnil1; simp only [Nat.zero_add, List.nil_append] at hown1; have hb1 : Below w0.heap.size w0 w1 := ((Below.refl _ _).alloc (Nat.le_refl _) _).grown hgr1 (by simp) (fun k hk => by simp only [Value.ownBlock, Option.some.injEq] at hk; omega); have hs1 := hb1.size; clear hown0 hcl hgr1 hnil1) | (at_builtin; refine wpList_append_own _ rfl (.tmp 17) (.tmp 22) 34 rfl w0.heap.size 5 i0 (.int .u8 0) 1 1 Try.underlying34 hi hz0 hz1 hz2 rfl (by decide) v1 _ _ rfl (hown1.alloc _) ⟨w1.heap.size, 0, none⟩ 1 1 [.int .u8 (128 + (k : Int))] rfl rfl (cellNew _ _ _) (bl_one [128 + (k : Int)]) (by unfold maxLen; omega) (by omega) (by simp; omega) ?_; intro v2 w2 hown2 hgr2 hnil2; have hb2 : Below w0.heap.size w0 w2 := (hb1.alloc hs1 _).grown hgr2 (by simp; omega) (fun k hk => (hown1.lt k hk).1); have hV2 := hV.below hb2; have hs2 := hb2.size; clear hgr2 hnil2 hb1 hown1) | (at_builtin; refine wpList_append_own _ rfl (.tmp 23) (.tmp 24) 34 rfl w0.heap.size 5 i0 (.int .u8 0) 1 1 Try.underlying34 hi hz0 hz1 hz2 rfl (by decide) v2 _ _ rfl hown2 ⟨g, 0, none⟩ k c (bl (lof k (be k (1000000000000000)))) rfl (by rw [bl_len, lof_len]; omega) (cells_of_view hV2) (bl_one _) (by unfold maxLen; omega) (by omega) (by omega) ?_; intro v4 w4 hown4 hgr4 hnil4; have hb4 : Below w0.heap.size w0 w4 := hb2.grown hgr4 hs2 (fun k hk => (hown2.lt k hk).1)))
    go_ret
    refine ⟨v4, rfl, ?_, hb.trans (hb4.mono hsz)⟩
    rw [HK.out]
    exact var_done _ hown4 hsz
  ·
    obtain ⟨k, hk⟩ : ∃ k, Hid (cnt (999999999999999) = k) := ⟨_, rfl⟩
    have hk7 : k ≤ 7 := by rw [← hk.out]; exact cnt_le _
    have HK : Hid (keptL (-1000000000000000) = (127 - (k : Int)) :: lof k (flipF (be k (999999999999999)) 0)) := by
      have h := keptL_down (-1000000000000000) (by omega)
      have e : cnt (-1 - (-1000000000000000)) = k := hk.out
      rw [e] at h
      exact h
    go_enter Try.func35, Try.ntmps35
    go_wp2_with fail
    refine (l4Bytes_any (999999999999999) k w (by omega) (by omega) hk.out).mono ?_
    rintro e w0 ⟨g, c, rfl, hV, hb⟩
    have hsz := hb.size
    have hown0 := World.ownsRow_lit (base := w0.heap.size) (e := 5) (size := 1) w0 #[] 0 (Nat.le_refl _) (Nat.zero_le _) rfl
    have hcl := cells_of_view ((hv.below hb).below ((Below.refl w0.heap.size w0).alloc (Nat.le_refl _) (.cells #[] 5)))
    go_wp2_with (first | (at_builtin; refine wpList_append_own _ rfl (.tmp 29) (.tmp 30) 34 rfl w0.heap.size 5 i0 (.int .u8 0) 1 1 Try.underlying34 hi hz0 hz1 hz2 rfl (by decide) (.slice (some ⟨w0.heap.size, 0, none⟩) 0 0) 0 [] rfl hown0 ⟨b, off, none⟩ n cap (bl (lof n f)) rfl (by rw [bl_len, lof_len]; omega) hcl (bl_one _) (by unfold maxLen; omega) (by omega) (by simp) ?_; intro v1 w1 hown1 hgr1 hnil1; simp only [Nat.zero_add, List.nil_append] at hown1; have hb1 : Below w0.heap.size w0 w1 := ((Below.refl _ _).alloc (Nat.le_refl _) _).grown hgr1 (by simp) (fun k hk => by simp only [Value.ownBlock, Option.some.injEq] at hk; omega); have hs1 := hb1.size; clear hown0 hcl hgr1 hnil1) | (at_builtin; refine wpList_append_own _ rfl (.tmp 31) (.tmp 36) 34 rfl w0.heap.size 5 i0 (.int .u8 0) 1 1 Try.underlying34 hi hz0 hz1 hz2 rfl (by decide) v1 _ _ rfl (hown1.alloc _) ⟨w1.heap.size, 0, none⟩ 1 1 [.int .u8 (127 - (k : Int))] rfl rfl (cellNew _ _ _) (bl_one [127 - (k : Int)]) (by unfold maxLen; omega) (by omega) (by simp; omega) ?_; intro v2 w2 hown2 hgr2 hnil2; have hb2 : Below w0.heap.size w0 w2 := (hb1.alloc hs1 _).grown hgr2 (by simp; omega) (fun k hk => (hown1.lt k hk).1); have hV2 := hV.below hb2; have hs2 := hb2.size; clear hgr2 hnil2 hb1 hown1))
    refine (flip_spec g 0 k c (be k (999999999999999)) 0 w2 hV2 (by omega)).mono ?_
    rintro e w3 ⟨g2, c2, rfl, hg2, hc2, hr3, hb3⟩
    have hown3 := own_below hown2 hb3
    have hV3 := hr3.view hc2 (flipF_byte 0 (fun i _ => be_bd _ _ i))
    replace hb3 := hb2.trans (hb3.mono hs2)
    have hs3 := hb3.size
    clear hown2 hb2 hV2 hr3
    go_wp2_with (at_builtin; refine wpList_append_own _ rfl (.tmp 37) (.tmp 39) 34 rfl w0.heap.size 5 i0 (.int .u8 0) 1 1 Try.underlying34 hi hz0 hz1 hz2 rfl (by decide) v2 _ _ rfl hown3 ⟨g2, 0, none⟩ k c2 (bl (lof k (flipF (be k (999999999999999)) 0))) rfl (by rw [bl_len, lof_len]; omega) (cells_of_view hV3) (bl_one _) (by unfold maxLen; omega) (by omega) (by omega) ?_; intro v4 w4 hown4 hgr4 hnil4; have hb4 : Below w0.heap.size w0 w4 := hb3.grown hgr4 hs3 (fun k hk => (hown3.lt k hk).1))
    go_ret
    refine ⟨v4, rfl, ?_, hb.trans (hb4.mono hsz)⟩
    rw [HK.out]
    exact var_done _ hown4 hsz
  ·
    obtain ⟨k, hk⟩ : ∃ k, Hid (cnt (x) = k) := ⟨_, rfl⟩
    have hk7 : k ≤ 7 := by rw [← hk.out]; exact cnt_le _
    have HK : Hid (keptL (x) = (128 + (k : Int)) :: lof k (be k (x))) := by
      have h := keptL_up (x) (by omega)
      have e : cnt (x) = k := hk.out
      rw [e] at h
      exact h
    go_enter Try.func35, Try.ntmps35
    go_wp2_with fail
    refine (l4Bytes_any (x) k w (by omega) (by omega) hk.out).mono ?_
    rintro e w0 ⟨g, c, rfl, hV, hb⟩
    have hsz := hb.size
    have hown0 := World.ownsRow_lit (base := w0.heap.size) (e := 5) (size := 1) w0 #[] 0 (Nat.le_refl _) (Nat.zero_le _) rfl
    have hcl := cells_of_view ((hv.below hb).below ((Below.refl w0.heap.size w0).alloc (Nat.le_refl _) (.cells #[] 5)))
    go_wp2_with (first | (at_builtin; refine wpList_append_own _ rfl (.tmp 15) (.tmp 16) 34 rfl w0.heap.size 5 i0 (.int .u8 0) 1 1 Try.underlying34 hi hz0 hz1 hz2 rfl (by decide) (.slice (some ⟨w0.heap.size, 0, none⟩) 0 0) 0 [] rfl hown0 ⟨b, off, none⟩ n cap (bl (lof n f)) rfl (by rw [bl_len, lof_len]; omega) hcl (bl_one _) (by unfold maxLen; omega) (by omega) (by simp) ?_; intro v1 w1 hown1 hgr1 hnil1; simp only [Nat.zero_add, List.nil_append] at hown1; have hb1 : Below w0.heap.size w0 w1 := ((Below.refl _ _).alloc (Nat.le_refl _) _).grown hgr1 (by simp) (fun k hk => by simp only [Value.ownBlock, Option.some.injEq] at hk; omega); have hs1 := hb1.size; clear hown0 hcl hgr1 hnil1) | (at_builtin; refine wpList_append_own _ rfl (.tmp 17) (.tmp 22) 34 rfl w0.heap.size 5 i0 (.int .u8 0) 1 1 Try.underlying34 hi hz0 hz1 hz2 rfl (by decide) v1 _ _ rfl (hown1.alloc _) ⟨w1.heap.size, 0, none⟩ 1 1 [.int .u8 (128 + (k : Int))] rfl rfl (cellNew _ _ _) (bl_one [128 + (k : Int)]) (by unfold maxLen; omega) (by omega) (by simp; omega) ?_; intro v2 w2 hown2 hgr2 hnil2; have hb2 : Below w0.heap.size w0 w2 := (hb1.alloc hs1 _).grown hgr2 (by simp; omega) (fun k hk => (hown1.lt k hk).1); have hV2 := hV.below hb2; have hs2 := hb2.size; clear hgr2 hnil2 hb1 hown1) | (at_builtin; refine wpList_append_own _ rfl (.tmp 23) (.tmp 24) 34 rfl w0.heap.size 5 i0 (.int .u8 0) 1 1 Try.underlying34 hi hz0 hz1 hz2 rfl (by decide) v2 _ _ rfl hown2 ⟨g, 0, none⟩ k c (bl (lof k (be k (x)))) rfl (by rw [bl_len, lof_len]; omega) (cells_of_view hV2) (bl_one _) (by unfold maxLen; omega) (by omega) (by omega) ?_; intro v4 w4 hown4 hgr4 hnil4; have hb4 : Below w0.heap.size w0 w4 := hb2.grown hgr4 hs2 (fun k hk => (hown2.lt k hk).1)))
    go_ret
    refine ⟨v4, rfl, ?_, hb.trans (hb4.mono hsz)⟩
    rw [HK.out]
    exact var_done _ hown4 hsz
  ·
    obtain ⟨k, hk⟩ : ∃ k, Hid (cnt (-1 - x) = k) := ⟨_, rfl⟩
    have hk7 : k ≤ 7 := by rw [← hk.out]; exact cnt_le _
    have HK : Hid (keptL (x) = (127 - (k : Int)) :: lof k (flipF (be k (-1 - x)) 0)) := by
      have h := keptL_down (x) (by omega)
      have e : cnt (-1 - (x)) = k := hk.out
      rw [e] at h
      exact h
    go_enter Try.func35, Try.ntmps35
    go_wp2_with fail
    refine (l4Bytes_any (-1 - x) k w (by omega) (by omega) hk.out).mono ?_
    rintro e w0 ⟨g, c, rfl, hV, hb⟩
    have hsz := hb.size
    have hown0 := World.ownsRow_lit (base := w0.heap.size) (e := 5) (size := 1) w0 #[] 0 (Nat.le_refl _) (Nat.zero_le _) rfl
    have hcl := cells_of_view ((hv.below hb).below ((Below.refl w0.heap.size w0).alloc (Nat.le_refl _) (.cells #[] 5)))
    go_wp2_with (first | (at_builtin; refine wpList_append_own _ rfl (.tmp 29) (.tmp 30) 34 rfl w0.heap.size 5 i0 (.int .u8 0) 1 1 Try.underlying34 hi hz0 hz1 hz2 rfl (by decide) (.slice (some ⟨w0.heap.size, 0, none⟩) 0 0) 0 [] rfl hown0 ⟨b, off, none⟩ n cap (bl (lof n f)) rfl (by rw [bl_len, lof_len]; omega) hcl (bl_one _) (by unfold maxLen; omega) (by omega) (by simp) ?_; intro v1 w1 hown1 hgr1 hnil1; simp only [Nat.zero_add, List.nil_append] at hown1; have hb1 : Below w0.heap.size w0 w1 := ((Below.refl _ _).alloc (Nat.le_refl _) _).grown hgr1 (by simp) (fun k hk => by simp only [Value.ownBlock, Option.some.injEq] at hk; omega); have hs1 := hb1.size; clear hown0 hcl hgr1 hnil1) | (at_builtin; refine wpList_append_own _ rfl (.tmp 31) (.tmp 36) 34 rfl w0.heap.size 5 i0 (.int .u8 0) 1 1 Try.underlying34 hi hz0 hz1 hz2 rfl (by decide) v1 _ _ rfl (hown1.alloc _) ⟨w1.heap.size, 0, none⟩ 1 1 [.int .u8 (127 - (k : Int))] rfl rfl (cellNew _ _ _) (bl_one [127 - (k : Int)]) (by unfold maxLen; omega) (by omega) (by simp; omega) ?_; intro v2 w2 hown2 hgr2 hnil2; have hb2 : Below w0.heap.size w0 w2 := (hb1.alloc hs1 _).grown hgr2 (by simp; omega) (fun k hk => (hown1.lt k hk).1); have hV2 := hV.below hb2; have hs2 := hb2.size; clear hgr2 hnil2 hb1 hown1))
    refine (flip_spec g 0 k c (be k (-1 - x)) 0 w2 hV2 (by omega)).mono ?_
    rintro e w3 ⟨g2, c2, rfl, hg2, hc2, hr3, hb3⟩
    have hown3 := own_below hown2 hb3
    have hV3 := hr3.view hc2 (flipF_byte 0 (fun i _ => be_bd _ _ i))
    replace hb3 := hb2.trans (hb3.mono hs2)
    have hs3 := hb3.size
    clear hown2 hb2 hV2 hr3
    go_wp2_with (at_builtin; refine wpList_append_own _ rfl (.tmp 37) (.tmp 39) 34 rfl w0.heap.size 5 i0 (.int .u8 0) 1 1 Try.underlying34 hi hz0 hz1 hz2 rfl (by decide) v2 _ _ rfl hown3 ⟨g2, 0, none⟩ k c2 (bl (lof k (flipF (be k (-1 - x)) 0))) rfl (by rw [bl_len, lof_len]; omega) (cells_of_view hV3) (bl_one _) (by unfold maxLen; omega) (by omega) (by omega) ?_; intro v4 w4 hown4 hgr4 hnil4; have hb4 : Below w0.heap.size w0 w4 := hb3.grown hgr4 hs3 (fun k hk => (hown3.lt k hk).1))
    go_ret
    refine ⟨v4, rfl, ?_, hb.trans (hb4.mono hsz)⟩
    rw [HK.out]
    exact var_done _ hown4 hsz
end Go.Proofs.Ytikopeihkbpjhas

/-
  The model's GetVar: it answers as the program's.
-/
namespace Go.Proofs.Ytikopeihkbpjhas
open Go.RowKit
set_option maxRecDepth 4000

theorem view_nil (w : World) (b : Nat) : View w (some ⟨b, 0, none⟩) 0 0 (fun _ => 0) := ⟨Nat.le_refl _, fun _ hi => absurd hi (Nat.not_lt_zero _), fun h => absurd h (Nat.lt_irrefl _)⟩

set_option maxHeartbeats 1000000 in
theorem l1In_any (x l m : Int) (w : World) :
    Calls Try.prog 68 #[.int .i64 x, .int .i64 l, .int .i64 m] w fun e w' => e = .returned (.bool (decide (l ≤ x) && decide (x ≤ m))) ∧ w = w' := by
  go_enter Try.func68, Try.ntmps68
  by_cases h : l ≤ x
  · have e1 : decide (l ≤ x) = true := by simpa using h
    go_wp2
    go_ret
    exact ⟨by simp [h], rfl⟩
  · have e1 : decide (l ≤ x) = false := by simpa using h
    go_wp2
    go_ret
    exact ⟨by simp, rfl⟩

theorem l1In_yes (x l m : Int) (w : World) (h1 : l ≤ x) (h2 : x ≤ m) :
    Calls Try.prog 68 #[.int .i64 x, .int .i64 l, .int .i64 m] w fun e w' => e = .returned (.bool true) ∧ w = w' := by
  have h := l1In_any x l m w
  rw [decide_eq_true h1, decide_eq_true h2] at h
  exact h
theorem l1In_no (x l m : Int) (w : World) (h1 : x < l ∨ m < x) :
    Calls Try.prog 68 #[.int .i64 x, .int .i64 l, .int .i64 m] w fun e w' => e = .returned (.bool false) ∧ w = w' := by
  have h := l1In_any x l m w
  have e : (decide (l ≤ x) && decide (x ≤ m)) = false := by
    rcases h1 with h1 | h1
    · rw [decide_eq_false (by omega), Bool.false_and]
    · rw [decide_eq_false (p := x ≤ m) (by omega), Bool.and_false]
  rw [e] at h
  exact h

/-- How many bytes the model puts of a number. -/
theorem putVar_many (b : Nat) (x : Int) (k : Nat) (w : World) (hk : Hid ((varL x).length = k + 1)) (hx0 : -9223372036854775808 ≤ x) (hx1 : x ≤ 9223372036854775807) :
    Calls Try.prog 35 #[.slice (some ⟨b, 0, none⟩) 0 0, .int .i64 x] w fun e w' => ∃ g c, e = .returned (.slice (some ⟨g, 0, none⟩) (k + 1) c) ∧ Below w.heap.size w w' := by
  refine (putVar_own b 0 0 0 (fun _ => 0) x w (view_nil w b) (by omega) hx0 hx1).mono ?_
  rintro e w' ⟨v, rfl, hown, hb⟩
  rw [Nat.zero_add, hk.out] at hown
  obtain ⟨g, c, rfl, hg, hc, hr⟩ := row_of_own hown (by omega)
  exact ⟨g, c, rfl, hb⟩

theorem sizeV_num (f : Nat → Int) (i : Nat) (h : 0 ≤ valF (hcnt (f i)) (digF f i)) : sizeV (numV f i) = valF (hcnt (f i)) (digF f i) := by
  unfold sizeV numV
  (repeat' split) <;> omega

set_option maxHeartbeats 1000000 in
theorem getVar_spec {a q : Int} {ok : Bool} (b off n cap : Nat) (f : Nat → Int) (p : Int) (w : World) (hg : Hid (getV n f p = (a, q, ok))) (hv : View w (some ⟨b, off, none⟩) n cap f) (hn : n ≤ 70368744177664) (hp1 : p ≤ 9223372036854775807) :
    Calls Try.prog 62 #[.slice (some ⟨b, off, none⟩) n cap, .int .i64 p] w fun e w' => e = .returned (.tuple #[.int .i64 a, .int .i64 q, .bool ok]) ∧ Below w.heap.size w w' := by
  by_cases hp : p < 0
  · have e := hg.out
    rw [getV_out n f p (Or.inl hp)] at e
    obtain ⟨rfl, rfl, rfl⟩ : 0 = a ∧ 0 = q ∧ false = ok := by simpa using e
    clear hg e
    go_enter Try.func62, Try.ntmps62
    go_wp2
    go_ret3
    exact ⟨rfl, Below.refl _ _⟩
  by_cases h4 : (n : Int) ≤ p
  · have e := hg.out
    rw [getV_out n f p (Or.inr h4)] at e
    obtain ⟨rfl, rfl, rfl⟩ : 0 = a ∧ 0 = q ∧ false = ok := by simpa using e
    clear hg e
    go_enter Try.func62, Try.ntmps62
    go_wp2
    go_ret3
    exact ⟨rfl, Below.refl _ _⟩
  obtain ⟨i, rfl⟩ := Int.eq_ofNat_of_zero_le (Int.not_lt.1 hp)
  have hin : i < n := by omega
  have hle := hv.le
  have hb0 := hv.byte i hin
  have hzi : (i : Int) < (n : Int) := by omega
  obtain ⟨b', off', e', hbl, hcs⟩ := hv.cells (by omega)
  cases e'
  have hci := hcs i hin
  clear hcs
  go_enter Try.func62, Try.ntmps62
  obtain ⟨c, hc⟩ : ∃ c, Hid (hcnt (f i) = c) := ⟨_, rfl⟩
  have hcz : (f i < 128 ∧ (c : Int) = 127 - f i) ∨ (128 ≤ f i ∧ (c : Int) = f i - 128) := by
    rw [← hc.out]; unfold hcnt; split
    · left; omega
    · right; omega
  go_wp2_with fail
  by_cases hf : 7 < c
  ·
    have e := hg.out
    rw [getV_few n f i hin (by rw [hc.out]; exact Or.inl hf)] at e
    obtain ⟨rfl, rfl, rfl⟩ : 0 = a ∧ 0 = q ∧ false = ok := by simpa using e
    clear hg e
    refine (l1In_no (f i) 120 135 w (by omega)).mono ?_
    rintro e _ ⟨rfl, rfl⟩
    clear hcz
    go_wp2
    go_ret3
    exact ⟨rfl, Below.refl _ _⟩
  refine (l1In_yes (f i) 120 135 w (by omega) (by omega)).mono ?_
  rintro e _ ⟨rfl, rfl⟩
  rcases hcz with ⟨hlow, hcz⟩ | ⟨hlow, hcz⟩
  ·
    have HD : Hid (turnF true (fun j => f (i + 1 + j)) = digF f i) := by show _ = _; unfold digF; rw [decide_eq_true (by omega)]
    have hzh : f i < 128 := by omega
    by_cases hfew : n < i + 1 + c
    ·
      have e := hg.out
      rw [getV_few n f i hin (by rw [hc.out]; exact Or.inr hfew)] at e
      obtain ⟨rfl, rfl, rfl⟩ : 0 = a ∧ 0 = q ∧ false = ok := by simpa using e
      clear hg e
      go_wp2_with fail
      refine (l4Read_no _ n cap _ _ true w (by omega) (by omega) (by omega) (Or.inr (by omega))).mono ?_
      rintro e _ ⟨rfl, rfl⟩
      go_wp2
      go_ret3
      exact ⟨rfl, Below.refl _ _⟩
    have hok : ¬ (7 < hcnt (f i) ∨ n < i + 1 + hcnt (f i)) := by rw [hc.out]; omega
    have hl4 := l4Read_any (some ⟨b, off, none⟩) n cap f (i + 1) c true w hv (by omega) (by omega) (by omega)
    rw [HD.out] at hl4
    have hvb := valF7 c (digF f i) (by omega) (by unfold digF; exact turnF_bd _ (fun j hj => hv.byte (i + 1 + j) (by omega)))
    have hx : numV f i = -1 - valF c (digF f i) := by unfold numV; rw [if_pos (by omega), hc.out]
    have hsz := sizeV_num f i (by rw [hc.out]; exact hvb.1)
    have hcv := cnt_valF c (digF f i) (by omega) (by unfold digF; exact turnF_bd _ (fun j hj => hv.byte (i + 1 + j) (by omega)))
    rw [hc.out] at hsz
    have HCV : Hid (cnt (valF c (digF f i)) = c ↔ ¬ (0 < c ∧ digF f i 0 = 0)) := hcv
    have HSZ : Hid (sizeV (numV f i) = valF c (digF f i)) := hsz
    clear hcv hsz HD
    generalize valF c (digF f i) = v at *
    rw [show ((i + 1 : Nat) : Int) = (i : Int) + 1 by omega] at hl4
    go_wp2_with fail
    rw [show -1 - (f i - 128) = (c : Int) by omega]
    refine hl4.mono ?_
    rintro e _ ⟨rfl, rfl⟩
    clear hl4
    by_cases hr : -1 - v < -1000000000000000 ∨ 1000000000000000 < -1 - v
    ·
      have e := hg.out
      rw [getV_bad n f i hin hok (by unfold badV; rw [hx]; exact Or.inr hr)] at e
      obtain ⟨rfl, rfl, rfl⟩ : 0 = a ∧ 0 = q ∧ false = ok := by simpa using e
      clear hg e
      go_wp2_with fail
      refine (l1In_no _ _ _ w hr).mono ?_
      rintro e _ ⟨rfl, rfl⟩
      go_wp2
      go_ret3
      exact ⟨rfl, Below.refl _ _⟩
    go_wp2_with fail
    refine (l1In_yes _ _ _ w (by omega) (by omega)).mono ?_
    rintro e _ ⟨rfl, rfl⟩
    go_wp2_with fail
    obtain ⟨k, hk⟩ : ∃ k, Hid (cnt v = k) := ⟨_, rfl⟩
    have HK : Hid ((varL (-1 - v)).length = k + 1) := by
      show _ = _
      have e1 : clampV (-1 - v) = -1 - v := by unfold clampV; rw [if_neg (by omega), if_neg (by omega)]
      have e2 := HSZ.out
      rw [hx] at e2
      unfold varL
      rw [keptL_len, e1, e2, hk.out]
    refine (putVar_many _ (-1 - v) k _ HK (by omega) (by omega)).mono ?_
    rintro e w1 ⟨g, cg, rfl, hb1⟩
    have hB : Below w.heap.size w w1 := ((Below.refl _ _).alloc (Nat.le_refl _) _).trans (hb1.mono (by simp))
    clear hb1 HK
    by_cases hkc : k = c
    · have hbad : ¬ badV f i := by
        unfold badV
        rw [hx, hc.out]
        have := HCV.out.1 (by rw [hk.out]; exact hkc)
        omega
      have e := hg.out
      rw [getV_is n f i hin hok hbad, hc.out, hx] at e
      simp only [Prod.mk.injEq] at e
      obtain ⟨rfl, rfl, rfl⟩ := e
      clear hg hbad HCV HSZ hx
      go_wp2_with fail
      go_ret3
      refine ⟨?_, hB⟩
      rw [hcz]
      rfl
    · have hbad : badV f i := by
        unfold badV
        rw [hc.out]
        by_cases h0 : 0 < c ∧ digF f i 0 = 0
        · exact Or.inl h0
        · exact absurd (HCV.out.2 h0) (by rw [hk.out]; exact hkc)
      have e := hg.out
      rw [getV_bad n f i hin hok hbad] at e
      obtain ⟨rfl, rfl, rfl⟩ : 0 = a ∧ 0 = q ∧ false = ok := by simpa using e
      clear hg e
      clear hbad HCV HSZ hx
      go_wp2_with fail
      go_ret3
      exact ⟨rfl, hB⟩
  ·
    have HD : Hid (turnF false (fun j => f (i + 1 + j)) = digF f i) := by show _ = _; unfold digF; rw [decide_eq_false (by omega)]
    have hzh : f i ≥ 128 := by omega
    have hdf : decide (f i - 128 < 0) = false := by simp; omega
    by_cases hfew : n < i + 1 + c
    ·
      have e := hg.out
      rw [getV_few n f i hin (by rw [hc.out]; exact Or.inr hfew)] at e
      obtain ⟨rfl, rfl, rfl⟩ : 0 = a ∧ 0 = q ∧ false = ok := by simpa using e
      clear hg e
      go_wp2_with fail
      refine (l4Read_no _ n cap _ _ false w (by omega) (by omega) (by omega) (Or.inr (by omega))).mono ?_
      rintro e _ ⟨rfl, rfl⟩
      go_wp2
      go_ret3
      exact ⟨rfl, Below.refl _ _⟩
    have hok : ¬ (7 < hcnt (f i) ∨ n < i + 1 + hcnt (f i)) := by rw [hc.out]; omega
    have hl4 := l4Read_any (some ⟨b, off, none⟩) n cap f (i + 1) c false w hv (by omega) (by omega) (by omega)
    rw [HD.out] at hl4
    have hvb := valF7 c (digF f i) (by omega) (by unfold digF; exact turnF_bd _ (fun j hj => hv.byte (i + 1 + j) (by omega)))
    have hx : numV f i = valF c (digF f i) := by unfold numV; rw [if_neg (by omega), hc.out]
    have hsz := sizeV_num f i (by rw [hc.out]; exact hvb.1)
    have hcv := cnt_valF c (digF f i) (by omega) (by unfold digF; exact turnF_bd _ (fun j hj => hv.byte (i + 1 + j) (by omega)))
    rw [hc.out] at hsz
    have HCV : Hid (cnt (valF c (digF f i)) = c ↔ ¬ (0 < c ∧ digF f i 0 = 0)) := hcv
    have HSZ : Hid (sizeV (numV f i) = valF c (digF f i)) := hsz
    clear hcv hsz HD
    generalize valF c (digF f i) = v at *
    rw [show ((i + 1 : Nat) : Int) = (i : Int) + 1 by omega] at hl4
    go_wp2_with fail
    rw [show f i - 128 = (c : Int) by omega]
    refine hl4.mono ?_
    rintro e _ ⟨rfl, rfl⟩
    clear hl4
    by_cases hr : v < -1000000000000000 ∨ 1000000000000000 < v
    ·
      have e := hg.out
      rw [getV_bad n f i hin hok (by unfold badV; rw [hx]; exact Or.inr hr)] at e
      obtain ⟨rfl, rfl, rfl⟩ : 0 = a ∧ 0 = q ∧ false = ok := by simpa using e
      clear hg e
      go_wp2_with fail
      refine (l1In_no _ _ _ w hr).mono ?_
      rintro e _ ⟨rfl, rfl⟩
      go_wp2
      go_ret3
      exact ⟨rfl, Below.refl _ _⟩
    go_wp2_with fail
    refine (l1In_yes _ _ _ w (by omega) (by omega)).mono ?_
    rintro e _ ⟨rfl, rfl⟩
    go_wp2_with fail
    obtain ⟨k, hk⟩ : ∃ k, Hid (cnt v = k) := ⟨_, rfl⟩
    have HK : Hid ((varL (v)).length = k + 1) := by
      show _ = _
      have e1 : clampV (v) = v := by unfold clampV; rw [if_neg (by omega), if_neg (by omega)]
      have e2 := HSZ.out
      rw [hx] at e2
      unfold varL
      rw [keptL_len, e1, e2, hk.out]
    refine (putVar_many _ (v) k _ HK (by omega) (by omega)).mono ?_
    rintro e w1 ⟨g, cg, rfl, hb1⟩
    have hB : Below w.heap.size w w1 := ((Below.refl _ _).alloc (Nat.le_refl _) _).trans (hb1.mono (by simp))
    clear hb1 HK
    by_cases hkc : k = c
    · have hbad : ¬ badV f i := by
        unfold badV
        rw [hx, hc.out]
        have := HCV.out.1 (by rw [hk.out]; exact hkc)
        omega
      have e := hg.out
      rw [getV_is n f i hin hok hbad, hc.out, hx] at e
      simp only [Prod.mk.injEq] at e
      obtain ⟨rfl, rfl, rfl⟩ := e
      clear hg hbad HCV HSZ hx
      go_wp2_with fail
      go_ret3
      refine ⟨?_, hB⟩
      rw [hcz]
      rfl
    · have hbad : badV f i := by
        unfold badV
        rw [hc.out]
        by_cases h0 : 0 < c ∧ digF f i 0 = 0
        · exact Or.inl h0
        · exact absurd (HCV.out.2 h0) (by rw [hk.out]; exact hkc)
      have e := hg.out
      rw [getV_bad n f i hin hok hbad] at e
      obtain ⟨rfl, rfl, rfl⟩ : 0 = a ∧ 0 = q ∧ false = ok := by simpa using e
      clear hg e
      clear hbad HCV HSZ hx
      go_wp2_with fail
      go_ret3
      exact ⟨rfl, hB⟩
end Go.Proofs.Ytikopeihkbpjhas

/-
  A value in a variable of the call's own.
-/
namespace Go.Proofs.Ytikopeihkbpjhas
open Go.RowKit
set_option maxRecDepth 4000

/-- The three cells of a value. -/
def valC (k n : Int) (s : ByteArray) : Nat → Value
  | 0 => .int .i64 k
  | 1 => .int .i64 n
  | _ => .string s

/-- A value in a variable of the call's own. -/
def Box (w : World) (B : Nat) (k n : Int) (s : ByteArray) : Prop := w.rowIs B 52 3 (valC k n s)
theorem Box.new (w : World) (k n : Int) (s : ByteArray) : Box (w.alloc (.cells #[.int .i64 k, .int .i64 n, .string s] 52)) w.heap.size k n s :=
  World.rowIs_alloc w _ 52 (valC k n s) (fun j hj => by match j, hj with | 0, _ => rfl | 1, _ => rfl | 2, _ => rfl)
theorem Box.cells {w : World} {B : Nat} {k n : Int} {s : ByteArray} (h : Box w B k n s) : w.cell? ⟨B, 0, none⟩ = some (.int .i64 k) ∧ w.cell? ⟨B, 1, none⟩ = some (.int .i64 n) ∧ w.cell? ⟨B, 2, none⟩ = some (.string s) :=
  ⟨h.cell (i := 0) (by decide), h.cell (i := 1) (by decide), h.cell (i := 2) (by decide)⟩
theorem Box.frozen {w : World} {B : Nat} {k n : Int} {s : ByteArray} (h : Box w B k n s) : w.frozen? ⟨B, 0, none⟩ = false ∧ w.frozen? ⟨B, 1, none⟩ = false ∧ w.frozen? ⟨B, 2, none⟩ = false :=
  ⟨World.rowIs.frozen h 0, World.rowIs.frozen h 1, World.rowIs.frozen h 2⟩
theorem Box.lt {w : World} {B : Nat} {k n : Int} {s : ByteArray} (h : Box w B k n s) : B < w.heap.size := World.rowIs.lt h
theorem Box.below {w w' : World} {B : Nat} {k n : Int} {s : ByteArray} (h : Box w B k n s) (hb : Below w.heap.size w w') : Box w' B k n s := h.of_block (hb.block B h.lt)
theorem Box.set0 {w : World} {B : Nat} {k n : Int} {s : ByteArray} (h : Box w B k n s) (x : Int) : Box (w.setCell ⟨B, 0, none⟩ (.int .i64 x)) B x n s :=
  (World.rowIs.set h 0 _).congr (fun j hj => by match j, hj with | 0, _ => rfl | 1, _ => rfl | 2, _ => rfl)
theorem Box.set1 {w : World} {B : Nat} {k n : Int} {s : ByteArray} (h : Box w B k n s) (x : Int) : Box (w.setCell ⟨B, 1, none⟩ (.int .i64 x)) B k x s :=
  (World.rowIs.set h 1 _).congr (fun j hj => by match j, hj with | 0, _ => rfl | 1, _ => rfl | 2, _ => rfl)
theorem Box.set2 {w : World} {B : Nat} {k n : Int} {s : ByteArray} (h : Box w B k n s) (t : ByteArray) : Box (w.setCell ⟨B, 2, none⟩ (.string t)) B k n t :=
  (World.rowIs.set h 2 _).congr (fun j hj => by match j, hj with | 0, _ => rfl | 1, _ => rfl | 2, _ => rfl)
theorem Box.put {w : World} {B : Nat} {k n : Int} {s : ByteArray} (h : Box w B k n s) (k' n' : Int) (s' : ByteArray) : Box (((w.setCell ⟨B, 0, none⟩ (.int .i64 k')).setCell ⟨B, 1, none⟩ (.int .i64 n')).setCell ⟨B, 2, none⟩ (.string s')) B k' n' s' :=
  ((h.set0 k').set1 n').set2 s'
theorem Box.other {w : World} {B D i : Nat} {k n : Int} {s : ByteArray} (h : Box w B k n s) (hne : B ≠ D) (u : Value) : Box (w.setCell ⟨D, i, none⟩ u) B k n s := h.of_block (Below.heap_setCell _ _ _ _ hne)
theorem Box.drew {w : World} {B : Nat} {k n : Int} {s : ByteArray} (h : Box w B k n s) : Box w.drew B k n s := h
/-- The result's variable and the value's, behind what was there. -/
theorem boxes2 (w : World) (t : Int) : Box ((w.alloc (.cells #[.int .i64 0, .int .i64 0, .string ⟨#[]⟩] 52)).alloc (.cells #[.int .i64 t, .int .i64 0, .string ⟨#[]⟩] 52)) w.heap.size 0 0 ⟨#[]⟩ ∧ Box ((w.alloc (.cells #[.int .i64 0, .int .i64 0, .string ⟨#[]⟩] 52)).alloc (.cells #[.int .i64 t, .int .i64 0, .string ⟨#[]⟩] 52)) (w.heap.size + 1) t 0 ⟨#[]⟩ ∧
    Below w.heap.size w ((w.alloc (.cells #[.int .i64 0, .int .i64 0, .string ⟨#[]⟩] 52)).alloc (.cells #[.int .i64 t, .int .i64 0, .string ⟨#[]⟩] 52)) := by
  have h2 := Box.new (w.alloc (.cells #[.int .i64 0, .int .i64 0, .string ⟨#[]⟩] 52)) t 0 ⟨#[]⟩
  rw [show (w.alloc (.cells #[.int .i64 0, .int .i64 0, .string ⟨#[]⟩] 52)).heap.size = w.heap.size + 1 by simp] at h2
  exact ⟨(Box.new w 0 0 ⟨#[]⟩).below ((Below.refl _ _).alloc (Nat.le_refl _) _), h2, ((Below.refl _ _).alloc (Nat.le_refl _) _).alloc (by simp) _⟩
end Go.Proofs.Ytikopeihkbpjhas

/-
  A part of a key in a variable of the call's own.
-/
namespace Go.Proofs.Ytikopeihkbpjhas
open Go.RowKit
set_option maxRecDepth 4000

/-- The four cells of a part. -/
def partC (c t : Int) (nul d : Bool) : Nat → Value
  | 0 => .int .i64 c
  | 1 => .int .i64 t
  | 2 => .bool nul
  | _ => .bool d

/-- A part in a variable of the call's own. -/
def PBox (w : World) (B : Nat) (c t : Int) (nul d : Bool) : Prop := w.rowIs B 49 4 (partC c t nul d)
section
variable {w w' : World} {B D i : Nat} {c t : Int} {nul d : Bool}
theorem PBox.new (w : World) (c t : Int) (nul d : Bool) : PBox (w.alloc (.cells #[.int .i64 c, .int .i64 t, .bool nul, .bool d] 49)) w.heap.size c t nul d :=
  World.rowIs_alloc w _ 49 (partC c t nul d) (fun j hj => by match j, hj with | 0, _ => rfl | 1, _ => rfl | 2, _ => rfl | 3, _ => rfl)
theorem PBox.cells (h : PBox w B c t nul d) : w.cell? ⟨B, 0, none⟩ = some (.int .i64 c) ∧ w.cell? ⟨B, 1, none⟩ = some (.int .i64 t) ∧ w.cell? ⟨B, 2, none⟩ = some (.bool nul) ∧ w.cell? ⟨B, 3, none⟩ = some (.bool d) :=
  ⟨h.cell (i := 0) (by decide), h.cell (i := 1) (by decide), h.cell (i := 2) (by decide), h.cell (i := 3) (by decide)⟩
theorem PBox.frozen (h : PBox w B c t nul d) : w.frozen? ⟨B, 0, none⟩ = false ∧ w.frozen? ⟨B, 1, none⟩ = false ∧ w.frozen? ⟨B, 2, none⟩ = false ∧ w.frozen? ⟨B, 3, none⟩ = false :=
  ⟨World.rowIs.frozen h 0, World.rowIs.frozen h 1, World.rowIs.frozen h 2, World.rowIs.frozen h 3⟩
theorem PBox.lt (h : PBox w B c t nul d) : B < w.heap.size := World.rowIs.lt h
theorem PBox.below (h : PBox w B c t nul d) (hb : Below w.heap.size w w') : PBox w' B c t nul d := h.of_block (hb.block B h.lt)
theorem PBox.other (h : PBox w B c t nul d) (hne : B ≠ D) (u : Value) : PBox (w.setCell ⟨D, i, none⟩ u) B c t nul d := h.of_block (Below.heap_setCell _ _ _ _ hne)
theorem PBox.drew (h : PBox w B c t nul d) : PBox w.drew B c t nul d := h
end
end Go.Proofs.Ytikopeihkbpjhas

/-
  The model's PartOk, Fits and LessPart come to the plain ones.
-/
namespace Go.Proofs.Ytikopeihkbpjhas
open Go.RowKit
set_option maxRecDepth 4000

def partAgg (c t : Int) (nul d : Bool) : Value := .agg #[.int .i64 c, .int .i64 t, .bool nul, .bool d]

set_option maxHeartbeats 1000000 in
theorem specPartOk_any (c t : Int) (nul d : Bool) (w : World) :
    Calls Try.prog 49 #[.agg #[.int .i64 c, .int .i64 t, .bool nul, .bool d]] w fun e w' => e = .returned (.bool (partOk c t)) ∧ Below w.heap.size w w' := by
  have hb0 : ∀ o, Below w.heap.size w (w.alloc o) := fun o => (Below.refl _ _).alloc (Nat.le_refl _) _
  by_cases h1 : 0 ≤ c ∧ c ≤ 9
  · by_cases h2 : 1 ≤ t ∧ t ≤ 4
    · have e : partOk c t = true := by unfold partOk; simp; omega
      rw [e]
      go_enter Try.func49, Try.ntmps49
      go_wp2_with fail
      refine (l1In_yes c 0 9 _ h1.1 h1.2).mono ?_
      rintro e _ ⟨rfl, rfl⟩
      go_wp2_with fail
      refine (l1In_yes t 1 4 _ h2.1 h2.2).mono ?_
      rintro e _ ⟨rfl, rfl⟩
      go_wp2
      go_ret
      exact ⟨rfl, hb0 _⟩
    · have e : partOk c t = false := by unfold partOk; simp; omega
      rw [e]
      go_enter Try.func49, Try.ntmps49
      go_wp2_with fail
      refine (l1In_yes c 0 9 _ h1.1 h1.2).mono ?_
      rintro e _ ⟨rfl, rfl⟩
      go_wp2_with fail
      refine (l1In_no t 1 4 _ (by omega)).mono ?_
      rintro e _ ⟨rfl, rfl⟩
      go_wp2
      go_ret
      exact ⟨rfl, hb0 _⟩
  · have e : partOk c t = false := by unfold partOk; simp; omega
    rw [e]
    go_enter Try.func49, Try.ntmps49
    go_wp2_with fail
    refine (l1In_no c 0 9 _ (by omega)).mono ?_
    rintro e _ ⟨rfl, rfl⟩
    go_wp2
    go_ret
    exact ⟨rfl, hb0 _⟩

set_option maxHeartbeats 1000000 in
theorem specFits_any (c t : Int) (nul d : Bool) (k n : Int) (s : ByteArray) (w : World) (hs : s.size ≤ 281474976710656) :
    Calls Try.prog 50 #[.agg #[.int .i64 c, .int .i64 t, .bool nul, .bool d], .agg #[.int .i64 k, .int .i64 n, .string s]] w fun e w' => e = .returned (.bool (fitsP t nul k n s)) ∧ Below w.heap.size w w' := by
  have hP := (PBox.new w c t nul d).below ((Below.refl _ _).alloc (Nat.le_refl _) (.cells #[.int .i64 k, .int .i64 n, .string s] 52))
  have hV := Box.new (w.alloc (.cells #[.int .i64 c, .int .i64 t, .bool nul, .bool d] 49)) k n s
  rw [show (w.alloc (.cells #[.int .i64 c, .int .i64 t, .bool nul, .bool d] 49)).heap.size = w.heap.size + 1 by simp] at hV
  have hb0 : Below w.heap.size w ((w.alloc (.cells #[.int .i64 c, .int .i64 t, .bool nul, .bool d] 49)).alloc (.cells #[.int .i64 k, .int .i64 n, .string s] 52)) := ((Below.refl _ _).alloc (Nat.le_refl _) _).alloc (by simp) _
  cases ho : okF k n s with
  | false =>
    have hr : fitsP t nul k n s = false := by unfold fitsP; rw [ho]; rfl
    rw [hr]
    clear hr
    go_enter Try.func50, Try.ntmps50
    go_wp2_with fail
    refine (specValOk_any k n s _ hs).mono ?_
    rw [ho]
    rintro e w1 ⟨rfl, hb1⟩
    obtain ⟨p0, p1, p2, p3⟩ := (hP.below hb1).cells
    obtain ⟨v0, v1, v2⟩ := (hV.below hb1).cells
    have hB : Below w.heap.size w w1 := hb0.trans (hb1.mono hb0.size)
    clear hP hV hb0 hb1 ho
    go_wp2
    go_ret
    exact ⟨rfl, hB⟩
  | true =>
    by_cases k0 : k = 0
    · subst k0
      have hr : fitsP t nul 0 n s = nul := by unfold fitsP; rw [ho]; simp
      rw [hr]
      clear hr
      by_cases ht : t = 0
      · subst ht
        have q0 : ((0 : Int) == 0) = true := by simp
        have q1 : ((0 : Int) != 0) = false := by simp
        go_enter Try.func50, Try.ntmps50
        go_wp2_with fail
        refine (specValOk_any 0 n s _ hs).mono ?_
        rw [ho]
        rintro e w1 ⟨rfl, hb1⟩
        obtain ⟨p0, p1, p2, p3⟩ := (hP.below hb1).cells
        obtain ⟨v0, v1, v2⟩ := (hV.below hb1).cells
        have hB : Below w.heap.size w w1 := hb0.trans (hb1.mono hb0.size)
        clear hP hV hb0 hb1 ho
        go_wp2
        go_ret
        exact ⟨rfl, hB⟩
      · have q0 : ((0 : Int) == t) = false := by simp; omega
        have q1 : ((0 : Int) == 0) = true := by simp
        clear ht
        go_enter Try.func50, Try.ntmps50
        go_wp2_with fail
        refine (specValOk_any 0 n s _ hs).mono ?_
        rw [ho]
        rintro e w1 ⟨rfl, hb1⟩
        obtain ⟨p0, p1, p2, p3⟩ := (hP.below hb1).cells
        obtain ⟨v0, v1, v2⟩ := (hV.below hb1).cells
        have hB : Below w.heap.size w w1 := hb0.trans (hb1.mono hb0.size)
        clear hP hV hb0 hb1 ho
        go_wp2
        go_ret
        exact ⟨rfl, hB⟩
    · have q2 : (k == 0) = false := by simpa using k0
      have q3 : (k != 0) = true := by simpa using k0
      by_cases kt : k = t
      · subst kt
        have hr : fitsP k nul k n s = true := by unfold fitsP; rw [ho]; simp [k0]
        rw [hr]
        have q4 : (k == k) = true := by simp
        clear hr k0
        go_enter Try.func50, Try.ntmps50
        go_wp2_with fail
        refine (specValOk_any k n s _ hs).mono ?_
        rw [ho]
        rintro e w1 ⟨rfl, hb1⟩
        obtain ⟨p0, p1, p2, p3⟩ := (hP.below hb1).cells
        obtain ⟨v0, v1, v2⟩ := (hV.below hb1).cells
        have hB : Below w.heap.size w w1 := hb0.trans (hb1.mono hb0.size)
        clear hP hV hb0 hb1 ho
        go_wp2
        go_ret
        exact ⟨rfl, hB⟩
      · have hr : fitsP t nul k n s = false := by unfold fitsP; rw [ho]; simp [k0, kt]
        rw [hr]
        have q4 : (k == t) = false := by simpa using kt
        clear hr k0 kt
        go_enter Try.func50, Try.ntmps50
        go_wp2_with fail
        refine (specValOk_any k n s _ hs).mono ?_
        rw [ho]
        rintro e w1 ⟨rfl, hb1⟩
        obtain ⟨p0, p1, p2, p3⟩ := (hP.below hb1).cells
        obtain ⟨v0, v1, v2⟩ := (hV.below hb1).cells
        have hB : Below w.heap.size w w1 := hb0.trans (hb1.mono hb0.size)
        clear hP hV hb0 hb1 ho
        go_wp2
        go_ret
        exact ⟨rfl, hB⟩
end Go.Proofs.Ytikopeihkbpjhas

/-
  The model's PlanOk and FitsAll come to the plain ones.
-/
namespace Go.Proofs.Ytikopeihkbpjhas
open Go.RowKit
set_option maxRecDepth 4000

set_option maxHeartbeats 2000000 in
theorem specPlanOk_any (a : Option Addr) (n cap : Nat) (fc ft : Nat → Int) (fu fd : Nat → Bool) (w : World) (h : PView w a n cap fc ft fu fd) (hn : n ≤ 1048576) :
    Calls Try.prog 26 #[.slice a n cap] w fun e w' => e = .returned (.bool (planOk n fc ft)) ∧ Below w.heap.size w w' := by
  go_enter Try.func26, Try.ntmps26
  go_wp2
  go_loopg [3] n (fun q i wr => ∃ k : Nat, k ≤ n ∧ q = n - k ∧ i = .int .i64 k ∧ Below w.heap.size w wr ∧ ∀ j, j < k → partOk (fc j) (ft j) = true)
  case atStart => exact ⟨0, Nat.zero_le _, rfl, rfl, Below.refl _ _, fun j hj => absurd hj (Nat.not_lt_zero _)⟩
  case round =>
    obtain ⟨k, hk, rfl, rfl, hB, hall⟩ := hrel
    have HA : Hid (∀ j, j < k → partOk (fc j) (ft j) = true) := hall
    clear hall
    by_cases hlt : k < n
    · obtain ⟨b1, o1, rfl, hb1, hd1⟩ := (h.below hB).cells (by omega)
      obtain ⟨x0, x1, x2, x3⟩ := hd1 k hlt
      have hkz : (k : Int) < (n : Int) := by omega
      clear hd1 h
      go_wp2_with fail
      clear x0 x1 x2 x3
      refine (specPartOk_any (fc k) (ft k) (fu k) (fd k) _).mono ?_
      cases ho : partOk (fc k) (ft k) with
      | true =>
        rintro e w2 ⟨rfl, hB2⟩
        have hB3 := hB.trans (hB2.mono hB.size)
        clear hB2
        have HN : Hid (∀ j, j < k + 1 → partOk (fc j) (ft j) = true) := by
          intro j hj
          by_cases e : j < k
          · exact HA.out j e
          · obtain rfl : j = k := by omega
            exact ho
        clear ho HA
        go_wp2
        go_roundg (n - (k + 1))
        case measure => omega
        case rel => exact ⟨k + 1, by omega, rfl, by go_num, hB3, HN.out⟩
      | false =>
        rintro e w2 ⟨rfl, hB2⟩
        have hB3 := hB.trans (hB2.mono hB.size)
        have HF : Hid (planOk n fc ft = false) := by show _ = _; unfold planOk; rw [allUpto_no hlt ho]; rfl
        clear hB2 ho HA
        go_wp2
        go_ret
        exact ⟨by rw [HF.out]; rfl, hB3⟩
    · have hkn : k = n := by omega
      have hkz : ¬ (k : Int) < (n : Int) := by omega
      by_cases h6 : n ≤ 6
      · have hz : (n : Int) ≤ 6 := by omega
        have HT : Hid (planOk n fc ft = true) := planOk_iff.2 ⟨fun i hi => HA.out i (by omega), h6⟩
        clear HA
        go_wp2
        go_ret
        exact ⟨by rw [HT.out]; rfl, hB⟩
      · have hz : ¬ (n : Int) ≤ 6 := by omega
        have HT : Hid (planOk n fc ft = false) := by show _ = _; unfold planOk; simp [h6]
        clear HA
        go_wp2
        go_ret
        exact ⟨by rw [HT.out]; rfl, hB⟩

set_option maxHeartbeats 2000000 in
theorem specFitsAll_any (a : Option Addr) (n cap : Nat) (fc ft : Nat → Int) (fu fd : Nat → Bool) (a2 : Option Addr) (m cap2 : Nat) (fk fn : Nat → Int) (fs : Nat → ByteArray) (w : World) (h : PView w a n cap fc ft fu fd) (h2 : VView w a2 m cap2 fk fn fs) (hn : n ≤ 1048576) (hm : m ≤ 1048576) (hs : ∀ i, i < m → (fs i).size ≤ 1048576) :
    Calls Try.prog 27 #[.slice a n cap, .slice a2 m cap2] w fun e w' => e = .returned (.bool (fitsAll n m ft fu fk fn fs)) ∧ Below w.heap.size w w' := by
  by_cases hmn : n < m
  · have hz : (n : Int) < (m : Int) := by omega
    have e : fitsAll n m ft fu fk fn fs = false := by unfold fitsAll; simp; omega
    rw [e]
    go_enter Try.func27, Try.ntmps27
    go_wp2
    go_ret
    exact ⟨rfl, Below.refl _ _⟩
  have hz0 : ¬ (n : Int) < (m : Int) := by omega
  go_enter Try.func27, Try.ntmps27
  go_wp2
  go_loopg [5] m (fun q i wr => ∃ k : Nat, k ≤ m ∧ q = m - k ∧ i = .int .i64 k ∧ Below w.heap.size w wr ∧ ∀ j, j < k → fitsP (ft j) (fu j) (fk j) (fn j) (fs j) = true)
  case atStart => exact ⟨0, Nat.zero_le _, rfl, rfl, Below.refl _ _, fun j hj => absurd hj (Nat.not_lt_zero _)⟩
  case round =>
    obtain ⟨k, hk, rfl, rfl, hB, hall⟩ := hrel
    have HA : Hid (∀ j, j < k → fitsP (ft j) (fu j) (fk j) (fn j) (fs j) = true) := hall
    clear hall
    by_cases hlt : k < m
    · have hlt2 : k < n := by omega
      obtain ⟨b1, o1, rfl, hb1, hd1⟩ := (h.below hB).cells (by omega)
      obtain ⟨b2, o2, rfl, hb2, hd2⟩ := (h2.below hB).cells (by omega)
      obtain ⟨x0, x1, x2, x3⟩ := hd1 k (by omega)
      obtain ⟨y0, y1, y2⟩ := hd2 k hlt
      have hkz : (k : Int) < (m : Int) := by omega
      have hkn : (k : Int) < (n : Int) := by omega
      have hsz := hs k hlt
      obtain ⟨o, ho⟩ : ∃ o, Hid (fitsP (ft k) (fu k) (fk k) (fn k) (fs k) = o) := ⟨_, rfl⟩
      have hF := fun W => specFits_any (fc k) (ft k) (fu k) (fd k) (fk k) (fn k) (fs k) W (by omega)
      rw [ho.out] at hF
      have HO : Hid (o = false → fitsAll n m ft fu fk fn fs = false) := by
        intro e
        have := ho.out
        rw [e] at this
        unfold fitsAll
        rw [allUpto_no (p := fun i => fitsP (ft i) (fu i) (fk i) (fn i) (fs i)) hlt this, Bool.and_false]
      have HN : Hid (o = true → ∀ j, j < k + 1 → fitsP (ft j) (fu j) (fk j) (fn j) (fs j) = true) := by
        intro e j hj
        by_cases ej : j < k
        · exact HA.out j ej
        · obtain rfl : j = k := by omega
          rw [ho.out, e]
      clear hd1 hd2 h h2 ho HA hsz
      obtain ⟨p0, hp0⟩ : ∃ p, Hid (fc k = p) := ⟨_, rfl⟩
      obtain ⟨p1, hp1⟩ : ∃ p, Hid (ft k = p) := ⟨_, rfl⟩
      obtain ⟨p2, hp2⟩ : ∃ p, Hid (fu k = p) := ⟨_, rfl⟩
      obtain ⟨p3, hp3⟩ : ∃ p, Hid (fd k = p) := ⟨_, rfl⟩
      obtain ⟨q0, hq0⟩ : ∃ p, Hid (fk k = p) := ⟨_, rfl⟩
      obtain ⟨q1, hq1⟩ : ∃ p, Hid (fn k = p) := ⟨_, rfl⟩
      obtain ⟨q2, hq2⟩ : ∃ p, Hid (fs k = p) := ⟨_, rfl⟩
      rw [hp0.out] at x0 hF
      rw [hp1.out] at x1 hF
      rw [hp2.out] at x2 hF
      rw [hp3.out] at x3 hF
      rw [hq0.out] at y0 hF
      rw [hq1.out] at y1 hF
      rw [hq2.out] at y2 hF
      go_wp2_with fail
      refine wp_region_held_drew (S := fun W => (W.cell? ⟨b1, o1 + k * 4, none⟩ = some (.int .i64 p0) ∧ W.cell? ⟨b1, o1 + k * 4 + 1, none⟩ = some (.int .i64 p1) ∧ W.cell? ⟨b1, o1 + k * 4 + 2, none⟩ = some (.bool p2) ∧ W.cell? ⟨b1, o1 + k * 4 + 3, none⟩ = some (.bool p3)) ∧ (W.cell? ⟨b2, o2 + k * 3, none⟩ = some (.int .i64 q0) ∧ W.cell? ⟨b2, o2 + k * 3 + 1, none⟩ = some (.int .i64 q1) ∧ W.cell? ⟨b2, o2 + k * 3 + 2, none⟩ = some (.string q2))) (by kernel_rfl) (⟨⟨x0, x1, x2, x3⟩, y0, y1, y2⟩) (fun hHeld => ?_)
      refine' wpAnyH_take (i := 0) (v := _) rfl (by kernel_rfl) (by kernel_rfl) (by kernel_rfl) (fun _ _ _ h => h) (Or.inl ⟨by kernel_rfl, ?ha0⟩) (by assumption) ?ra0
      case ha0 => intro W hW; obtain ⟨⟨d0, d1, d2, d3⟩, g0, g1, g2⟩ := hW; go_simp; all_goals with_reducible rfl
      change wpAnyH _ _ _ _ _ _ _ (Act.put _ (some 17) _) _
      simp only [Act.put, List.setIfInBounds_toArray, List.set_cons_zero, List.set_cons_succ]
      refine' wpAnyH_take (i := 1) (v := _) rfl (by kernel_rfl) (by kernel_rfl) (by kernel_rfl) (fun _ _ _ h => h) (Or.inl ⟨by kernel_rfl, ?ha1⟩) (by assumption) ?ra1
      case ha1 => intro W hW; obtain ⟨⟨d0, d1, d2, d3⟩, g0, g1, g2⟩ := hW; go_simp; all_goals with_reducible rfl
      change wpAnyH _ _ _ _ _ _ _ (Act.put _ (some 18) _) _
      simp only [Act.put, List.setIfInBounds_toArray, List.set_cons_zero, List.set_cons_succ]
      refine' wpAnyH_take (i := 2) (v := _) rfl (by kernel_rfl) (by kernel_rfl) (by kernel_rfl) (fun _ _ _ h => h) (Or.inl ⟨by kernel_rfl, ?ha2⟩) (by assumption) ?ra2
      case ha2 => intro W hW; obtain ⟨⟨d0, d1, d2, d3⟩, g0, g1, g2⟩ := hW; go_simp; all_goals with_reducible rfl
      change wpAnyH _ _ _ _ _ _ _ (Act.put _ (some 19) _) _
      simp only [Act.put, List.setIfInBounds_toArray, List.set_cons_zero, List.set_cons_succ]
      refine' wpAnyH_take (i := 3) (v := _) rfl (by kernel_rfl) (by kernel_rfl) (by kernel_rfl) (fun _ _ _ h => h) (Or.inl ⟨by kernel_rfl, ?ha3⟩) (by assumption) ?ra3
      case ha3 => intro W hW; obtain ⟨⟨d0, d1, d2, d3⟩, g0, g1, g2⟩ := hW; go_simp; all_goals with_reducible rfl
      change wpAnyH _ _ _ _ _ _ _ (Act.put _ (some 20) _) _
      simp only [Act.put, List.setIfInBounds_toArray, List.set_cons_zero, List.set_cons_succ]
      refine' wpAnyH_take (i := 4) (v := _) rfl (by kernel_rfl) (by kernel_rfl) (by kernel_rfl) (fun _ _ _ h => h) (Or.inl ⟨by kernel_rfl, ?ha4⟩) (by assumption) ?ra4
      case ha4 => intro W hW; obtain ⟨⟨d0, d1, d2, d3⟩, g0, g1, g2⟩ := hW; go_simp; all_goals with_reducible rfl
      change wpAnyH _ _ _ _ _ _ _ (Act.put _ (some 21) _) _
      simp only [Act.put, List.setIfInBounds_toArray, List.set_cons_zero, List.set_cons_succ]
      refine' wpAnyH_take (i := 5) (v := _) rfl (by kernel_rfl) (by kernel_rfl) (by kernel_rfl) (fun _ _ _ h => h) (Or.inl ⟨by kernel_rfl, ?ha5⟩) (by assumption) ?ra5
      case ha5 => intro W hW; obtain ⟨⟨d0, d1, d2, d3⟩, g0, g1, g2⟩ := hW; go_simp; all_goals with_reducible rfl
      change wpAnyH _ _ _ _ _ _ _ (Act.put _ (some 22) _) _
      simp only [Act.put, List.setIfInBounds_toArray, List.set_cons_zero, List.set_cons_succ]
      refine' wpAnyH_take (i := 6) (v := _) rfl (by kernel_rfl) (by kernel_rfl) (by kernel_rfl) (fun _ _ _ h => h) (Or.inl ⟨by kernel_rfl, ?ha6⟩) (by assumption) ?ra6
      case ha6 => intro W hW; obtain ⟨⟨d0, d1, d2, d3⟩, g0, g1, g2⟩ := hW; go_simp; all_goals with_reducible rfl
      change wpAnyH _ _ _ _ _ _ _ (Act.put _ (some 23) _) _
      simp only [Act.put, List.setIfInBounds_toArray, List.set_cons_zero, List.set_cons_succ]
      refine' wpAnyH_take (i := 7) (v := _) rfl (by kernel_rfl) (by kernel_rfl) (by kernel_rfl) (fun _ _ _ h => h) (Or.inl ⟨by kernel_rfl, ?ha7⟩) (by assumption) ?ra7
      case ha7 => intro W hW; obtain ⟨⟨d0, d1, d2, d3⟩, g0, g1, g2⟩ := hW; go_simp; all_goals with_reducible rfl
      change wpAnyH _ _ _ _ _ _ _ (Act.put _ (some 24) _) _
      simp only [Act.put, List.setIfInBounds_toArray, List.set_cons_zero, List.set_cons_succ]
      refine wpAnyH_ready (rs := [8]) (by kernel_rfl) (by simp) ?_
      refine AllReadyH.cons rfl (fun KK hK => ?_) AllReadyH.nil
      go_simp
      refine (hF _).mono ?_
      rintro e w2 ⟨rfl, hB2⟩
      go_wp2_with fail
      refine hK.out _ _ ⟨⟨by rw [hB2.cell hb1]; exact x0, by rw [hB2.cell hb1]; exact x1, by rw [hB2.cell hb1]; exact x2, by rw [hB2.cell hb1]; exact x3⟩, by rw [hB2.cell hb2]; exact y0, by rw [hB2.cell hb2]; exact y1, by rw [hB2.cell hb2]; exact y2⟩ (fun hHeld => ?_)
      clear hK KK
      try simp only [Act.put, List.setIfInBounds_toArray, List.set_cons_zero, List.set_cons_succ]
      refine' wpAnyH_take (i := 9) (v := _) rfl (by kernel_rfl) (by kernel_rfl) (by kernel_rfl) (fun _ _ _ h => h) (Or.inl ⟨by kernel_rfl, ?ha9⟩) (by assumption) ?ra9
      case ha9 => intro W hW; obtain ⟨⟨d0, d1, d2, d3⟩, g0, g1, g2⟩ := hW; go_simp; all_goals with_reducible rfl
      change wpAnyH _ _ _ _ _ _ _ (Act.put _ (some 26) _) _
      simp only [Act.put, List.setIfInBounds_toArray, List.set_cons_zero, List.set_cons_succ]
      refine wpAnyH_done (by kernel_rfl) ?_ _
      have hB3 : Hid (Below w.heap.size w w2) := hB.trans (Below.trans (Below.drew (Below.refl _ _)) (hB2.mono (by have := hB.size; exact this)))
      clear hHeld x0 x1 x2 x3 y0 y1 y2 hF
      cases o with
      | true =>
        go_wp2
        go_roundg (m - (k + 1))
        case measure => omega
        case rel => exact ⟨k + 1, by omega, rfl, by go_num, hB3.out, HN.out (by simp)⟩
      | false =>
        go_wp2
        go_ret
        exact ⟨by rw [HO.out (by simp)]; rfl, hB3.out⟩
    · have hkz : ¬ (k : Int) < (m : Int) := by omega
      have HT : Hid (fitsAll n m ft fu fk fn fs = true) := fitsAll_iff.2 ⟨by omega, fun i hi => HA.out i (by omega)⟩
      clear HA
      go_wp2
      go_ret
      exact ⟨by rw [HT.out]; rfl, hB⟩
end Go.Proofs.Ytikopeihkbpjhas

/-
  The model's RowOk comes to the plain one.
-/
namespace Go.Proofs.Ytikopeihkbpjhas
open Go.RowKit
set_option maxRecDepth 4000

set_option maxHeartbeats 2000000 in
theorem specRowOk_any (a : Option Addr) (n cap : Nat) (fc ft : Nat → Int) (fu fd : Nat → Bool) (a2 : Option Addr) (m cap2 : Nat) (fk fn : Nat → Int) (fs : Nat → ByteArray) (w : World) (h : PView w a n cap fc ft fu fd) (h2 : VView w a2 m cap2 fk fn fs) (hn : n ≤ 1048576) (hm : m ≤ 1048576) (hs : ∀ i, i < m → (fs i).size ≤ 1048576) :
    Calls Try.prog 8 #[.slice a n cap, .slice a2 m cap2] w fun e w' => e = .returned (.bool (rowOk n fc ft fu m fk fn fs)) ∧ Below w.heap.size w w' := by
  have hF := fun W (hb : Below w.heap.size w W) => specFitsAll_any a n cap fc ft fu fd a2 m cap2 fk fn fs W (h.below hb) (h2.below hb) hn hm hs
  go_enter Try.func8, Try.ntmps8
  go_wp2_with fail
  refine (specPlanOk_any a n cap fc ft fu fd w h hn).mono ?_
  clear h h2
  cases hpk : planOk n fc ft with
  | false =>
    have HR : Hid (rowOk n fc ft fu m fk fn fs = false) := by show _ = _; unfold rowOk; rw [hpk]; rfl
    rintro e w1 ⟨rfl, hb⟩
    clear hF
    go_wp2
    go_ret
    exact ⟨by rw [HR.out]; rfl, hb⟩
  | true =>
    rintro e w1 ⟨rfl, hb⟩
    replace hF := hF w1 hb
    by_cases hmn : m = n
    · have hmz : (m : Int) = (n : Int) := by omega
      obtain ⟨o, ho⟩ : ∃ o, Hid (fitsAll n m ft fu fk fn fs = o) := ⟨_, rfl⟩
      have HR : Hid (rowOk n fc ft fu m fk fn fs = o) := by show _ = _; unfold rowOk; rw [hpk, decide_eq_true hmn, ho.out]; rfl
      rw [ho.out] at hF
      subst hmn
      go_wp2_with fail
      refine hF.mono ?_
      rintro e w2 ⟨rfl, hb2⟩
      have hB := hb.trans (hb2.mono hb.size)
      clear hF hb hb2
      go_wp2
      go_ret
      exact ⟨by rw [HR.out]; rfl, hB⟩
    · have hmz : ¬ (m : Int) = (n : Int) := by omega
      have HR : Hid (rowOk n fc ft fu m fk fn fs = false) := by show _ = _; unfold rowOk; rw [hpk, decide_eq_false hmn]; rfl
      clear hF
      go_wp2
      go_ret
      exact ⟨by rw [HR.out]; rfl, hb⟩
end Go.Proofs.Ytikopeihkbpjhas

/-
  Bytes that were put behind one another, in a row of the call's own.
-/
namespace Go.Proofs.Ytikopeihkbpjhas
open Go.RowKit
set_option maxRecDepth 4000

theorem Row.none (w : World) (t : TypeId) (f : Nat → Int) : Row t (w.alloc (.cells #[] t)) w.heap.size 0 f :=
  Row.ofIs (World.rowIs_alloc w #[] t (fun i => .int .u8 (f i)) (fun _ hj => absurd hj (Nat.not_lt_zero _)))

/-- The first k values are put. -/
structure EncTo (w wr : World) (g cg : Nat) (L : List Int) : Prop where
  row : Row 5 wr g L.length (fun i => L.getD i 0)
  new : w.heap.size ≤ g
  le : L.length ≤ cg
  below : Below w.heap.size w wr
end Go.Proofs.Ytikopeihkbpjhas

/-
  What putting behind bytes comes to.
-/
namespace Go.Proofs.Ytikopeihkbpjhas
open Go.RowKit
set_option maxRecDepth 4000

theorem EncTo.byte {w wr : World} {g cg : Nat} {L : List Int} (h : EncTo w wr g cg L) (hb : ∀ y ∈ L, 0 ≤ y ∧ y ≤ 255) : View wr (some ⟨g, 0, none⟩) L.length cg (fun i => L.getD i 0) :=
  h.row.view h.le (fun i hi => by
    have e : L.getD i 0 = L[i] := by simp [List.getD, List.getElem?_eq_getElem hi]
    show 0 ≤ L.getD i 0 ∧ L.getD i 0 ≤ 255
    rw [e]; exact hb _ (List.getElem_mem hi))
/-- What putting behind L comes to. -/
def EncMore (w W : World) (L : List Int) (e : Ending) (w' : World) : Prop := ∃ g c, e = .returned (.slice (some ⟨g, 0, none⟩) L.length c) ∧ EncTo w w' g c L ∧ Below W.heap.size W w'
theorem own_base {w : World} {base base' : Nat} {t : TypeId} {size : Nat} {v : Value} {n : Nat} {l : List Value} (h : w.ownsRow base t size v n l) (hb : base' ≤ base) : w.ownsRow base' t size v n l := by
  obtain ⟨hl, h⟩ := h
  rcases h with h | ⟨g, c, cur, e, hg, r⟩
  · exact ⟨hl, .inl h⟩
  · exact ⟨hl, .inr ⟨g, c, cur, e, Nat.le_trans hb hg, r⟩⟩
end Go.Proofs.Ytikopeihkbpjhas

/-
  The model's PutU: what was there, and behind it the number's groups, in memory of its own.
-/
namespace Go.Proofs.Ytikopeihkbpjhas
open Go.RowKit
set_option maxRecDepth 4000

set_option maxHeartbeats 1000000 in
theorem putU_spec (b off n cap : Nat) (f : Nat → Int) (x : Int) (w : World) (hv : View w (some ⟨b, off, none⟩) n cap f) (hn : n ≤ 70368744177664) (hx0 : -9223372036854775808 ≤ x) (hx1 : x ≤ 9223372036854775807) :
    Calls Try.prog 34 #[.slice (some ⟨b, off, none⟩) n cap, .int .i64 x] w fun e w' => ∃ v, e = .returned v ∧ w'.ownsRow w.heap.size 5 1 v (n + (groups (clampN x)).length) (bl (lof n f ++ groups (clampN x))) ∧ Below w.heap.size w w' := by
  obtain ⟨i0, hi, hz0, hz1, hz2⟩ := info_parts Try.info5
  have hown0 := World.ownsRow_lit (base := w.heap.size) (e := 5) (size := 1) w #[] 0 (Nat.le_refl _) (Nat.zero_le _) rfl
  have hb0 : Below w.heap.size w (w.alloc (.cells #[] 5)) := (Below.refl _ _).alloc (Nat.le_refl _) _
  have hcl := cells_of_view (hv.below hb0)
  have hsz : (w.alloc (.cells #[] 5)).heap.size = w.heap.size + 1 := by simp
  go_enter Try.func34, Try.ntmps34
  go_wp2_with (at_builtin; go_must (refine wpList_append_own _ rfl (.tmp 6) (.tmp 7) 34 rfl w.heap.size 5 i0 (.int .u8 0) 1 1 Try.underlying34 hi hz0 hz1 hz2 rfl (by decide) (.slice (some ⟨w.heap.size, 0, none⟩) 0 0) 0 [] rfl hown0 ⟨b, off, none⟩ n cap (bl (lof n f)) rfl (by rw [bl_len, lof_len]; omega) hcl (bl_one _) (by unfold maxLen; omega) (by omega) (by rw [hsz]; omega) ?_); intro v1 w1 hown1 hgr1 _)
  all_goals
    have hb1 : Below w.heap.size w w1 := hb0.grown hgr1 (by simp) (fun k hk => by simp only [Value.ownBlock, Option.some.injEq] at hk; omega)
    clear hown0 hcl hsz hgr1 hb0 hv
    simp only [Nat.zero_add, List.nil_append] at hown1
    go_loopg [1, 5] (clampN x).toNat (fun g s v wr => ∃ (y : Int) (ys : List Int), s = .int .i64 y ∧ 0 ≤ y ∧ y ≤ 1000000 ∧ g = y.toNat ∧ groups (clampN x) = ys ++ groups y ∧ wr.ownsRow w.heap.size 5 1 v (n + ys.length) (bl (lof n f ++ ys)) ∧ Below w.heap.size w wr)
    case atStart => exact ⟨clampN x, [], congrArg (Value.int .i64) (by unfold clampN; split <;> (try split) <;> omega), (clampN_bd x).1, (clampN_bd x).2, rfl, rfl, by rw [List.append_nil]; exact hown1, hb1⟩
    case round =>
      obtain ⟨y, ys, rfl, hy0, hy1, rfl, hgr, hown, hB⟩ := hrel
      clear hown1 hb1
      have HG : Hid (groups (clampN x) = ys ++ groups y) := hgr
      have hlen : n + ys.length ≤ n + 3 := by have := groups_len (clampN x); rw [hgr] at this; simp at this; have := groups_len y; omega
      clear hgr
      have hA : ∀ z : Int, bits .and .i64 z 127 = z % 128 := i64_and127
      have hq : bits .or .i64 (y % 128) 128 = y % 128 + 128 := i64_or_add 7 _ _ (by omega) (by show _ < (128 : Int); omega) (by omega) (by decide) (by omega) (by decide)
      by_cases hlt : y < 128
      · go_wp2_with (at_builtin; go_must (refine wpList_append_own _ rfl (.tmp 24) (.tmp 27) 34 rfl w.heap.size 5 i0 (.int .u8 0) 1 1 Try.underlying34 hi hz0 hz1 hz2 rfl (by decide) u5 _ _ rfl (hown.alloc _) ⟨wr.heap.size, 0, none⟩ 1 1 [.int .u8 y] rfl rfl (cellNew _ _ _) (bl_one [y]) (by unfold maxLen; omega) (by omega) (by have := hB.size; simp; omega) ?_); intro v2 w2 hown2 hgr2 _)
        go_ret
        refine ⟨v2, rfl, ?_, ?_⟩
        · rw [HG.out, groups_last y hlt, List.length_append, ← List.append_assoc, bl_append]
          rw [Nat.add_assoc] at hown2
          exact hown2
        · exact (hB.alloc hB.size _).grown hgr2 (by have := hB.size; simp; omega) (fun k hk => (hown.lt k hk).1)
      · have hS : y / 128 < y := by omega
        have hG2 : Hid (groups (clampN x) = (ys ++ [y % 128 + 128]) ++ groups (y / 128)) := by
          have := HG.out
          rw [groups_step y (by omega) hy1] at this
          rw [List.append_assoc]; exact this
        go_wp2_with (at_builtin; go_must (refine wpList_append_own _ rfl (.tmp 15) (.tmp 20) 34 rfl w.heap.size 5 i0 (.int .u8 0) 1 1 Try.underlying34 hi hz0 hz1 hz2 rfl (by decide) u5 _ _ rfl (hown.alloc _) ⟨wr.heap.size, 0, none⟩ 1 1 [.int .u8 (y % 128 + 128)] rfl rfl (cellNew _ _ _) (bl_one [y % 128 + 128]) (by unfold maxLen; omega) (by omega) (by have := hB.size; simp; omega) ?_); intro v2 w2 hown2 hgr2 _)
        have hB2 : Below w.heap.size w w2 := (hB.alloc hB.size _).grown hgr2 (by have := hB.size; simp; omega) (fun k hk => (hown.lt k hk).1)
        have hO2 : w2.ownsRow w.heap.size 5 1 v2 (n + (ys ++ [y % 128 + 128]).length) (bl (lof n f ++ (ys ++ [y % 128 + 128]))) := by
          rw [List.length_append, ← List.append_assoc, bl_append]
          rw [Nat.add_assoc] at hown2
          exact hown2
        clear hgr2 hown hown2 hB
        go_wp2
        go_roundg ((y / 128).toNat)
        case measure => omega
        case rel => exact ⟨y / 128, ys ++ [y % 128 + 128], rfl, by omega, by omega, rfl, hG2.out, hO2, hB2⟩
end Go.Proofs.Ytikopeihkbpjhas

/-
  The model's PutText: what was there, the number of the text's bytes, and these, in memory of its own.
-/
namespace Go.Proofs.Ytikopeihkbpjhas
open Go.RowKit
set_option maxRecDepth 4000

set_option maxHeartbeats 1000000 in
theorem putText_spec (b off n cap : Nat) (f : Nat → Int) (s : ByteArray) (w : World) (hv : View w (some ⟨b, off, none⟩) n cap f) (hn : n ≤ 35184372088832) (hs : s.size ≤ 35184372088832) :
    Calls Try.prog 36 #[.slice (some ⟨b, off, none⟩) n cap, .string s] w fun e w' => ∃ g c, e = .returned (.slice (some ⟨g, 0, none⟩) (n + (groups (clampN s.size)).length + s.size) c) ∧ w.heap.size ≤ g ∧ n + (groups (clampN s.size)).length + s.size ≤ c ∧ Row 5 w' g (n + (groups (clampN s.size)).length + s.size) (fun i => (textL n f s).getD i 0) ∧ Below w.heap.size w w' := by
  obtain ⟨i0, hi, hz0, hz1, hz2⟩ := info_parts Try.info5
  have hgl := (groups_len (clampN s.size)).2
  have hg1 := (groups_len (clampN s.size)).1
  obtain ⟨gs, hgs⟩ : ∃ gs, Hid (groups (clampN s.size) = gs) := ⟨_, rfl⟩
  rw [hgs.out] at hgl hg1
  go_enter Try.func36, Try.ntmps36
  go_wp2_with fail
  refine (putU_spec b off n cap f (s.size : Int) w hv (by omega) (by omega) (by omega)).mono ?_
  rintro e w1 ⟨v, rfl, hown, hb1⟩
  rw [hgs.out] at hown
  go_wp2_with (at_builtin; go_must (refine Lib.wpList_append_own_string _ rfl (.tmp 8) (.tmp 9) 34 9 rfl w.heap.size 5 i0 Try.underlying34 Try.underlying9 hi hz0 hz1 hz2 v _ _ rfl hown s rfl (by unfold maxLen; omega) (by omega) hb1.size ?_); intro v2 w2 hown2 hgr2 _)
  have hb2 : Below w.heap.size w w2 := hb1.grown hgr2 hb1.size (fun k hk => (hown.lt k hk).1)
  go_ret
  rw [sl_cells, ← bl_append] at hown2
  obtain ⟨g, c, hv2, hg, hgc, hrow⟩ := row_of_own hown2 (by omega)
  unfold textL
  rw [hgs.out, hv2]
  exact ⟨g, c, rfl, hg, hgc, hrow, hb2⟩

end Go.Proofs.Ytikopeihkbpjhas

/-
  Plain facts on the sum, in the forms in which the walks meet them.
-/
namespace Go.Proofs.Ytikopeihkbpjhas
open Go.RowKit
set_option maxRecDepth 4000

theorem u32_one (y : Nat) (h : y < 4294967296) : bits .and .u32 (y : Int) 1 = ((y % 2 : Nat) : Int) := by
  have := u32_and_nat y 1 h (by decide)
  rw [nat_mask1] at this; exact this
theorem u32_turn (y : Nat) (h : y < 4294967296) : bits .xor .u32 ((y : Int) / 2) 2197175160 = ((y / 2 ^^^ 2197175160 : Nat) : Int) := by
  have := u32_xor_nat (y / 2) 2197175160 (by omega) (by decide)
  rw [← this]; rfl
theorem i64_turn (y : Nat) (h : y < 4294967296) : bits .xor .i64 ((y : Int) / 2) 2197175160 = ((y / 2 ^^^ 2197175160 : Nat) : Int) := by
  have := i64_xor_nat (y / 2) 2197175160 (by omega) (by decide)
  rw [← this]; rfl
theorem i64_last (y : Nat) (h : y < 4294967296) : bits .xor .i64 (y : Int) 4294967295 = ((y ^^^ 4294967295 : Nat) : Int) := i64_xor_nat y 4294967295 (by omega) (by decide)
theorem u32_last (y : Nat) (h : y < 4294967296) : bits .xor .u32 IntKind.u32.max (y : Int) = ((y ^^^ 4294967295 : Nat) : Int) := by
  have e : IntKind.u32.max = ((4294967295 : Nat) : Int) := by simp [IntKind.max, IntKind.signed, IntKind.bits]
  rw [Nat.xor_comm, e]; exact u32_xor_nat 4294967295 y (by decide) h
theorem i64_in (y : Nat) (b : Int) (h : y < 4294967296) (h0 : 0 ≤ b ∧ b ≤ 255) : bits .xor .i64 (y : Int) b = ((y ^^^ b.toNat : Nat) : Int) := by
  obtain ⟨c, rfl⟩ := Int.eq_ofNat_of_zero_le h0.1
  rw [Int.toNat_natCast]; exact i64_xor_nat y c (by omega) (by omega)
theorem u32_in (y : Nat) (b : Int) (h : y < 4294967296) (h0 : 0 ≤ b ∧ b ≤ 255) : bits .xor .u32 (y : Int) b = ((y ^^^ b.toNat : Nat) : Int) := by
  obtain ⟨c, rfl⟩ := Int.eq_ofNat_of_zero_le h0.1
  rw [Int.toNat_natCast]; exact u32_xor_nat y c (by omega) (by omega)
theorem crcBit_odd (y : Nat) (h : y % 2 = 1) : crcBit y = y / 2 ^^^ 2197175160 := by unfold crcBit; rw [if_pos h]
theorem crcBit_even (y : Nat) (h : ¬ y % 2 = 1) : crcBit y = y / 2 := by unfold crcBit; rw [if_neg h]

theorem retInt {k : IntKind} {a b : Int} (h : a = b) : Ending.returned (.int k a) = .returned (.int k b) := by rw [h]

end Go.Proofs.Ytikopeihkbpjhas

/-
  The model's Crc comes to the plain sum, at every slice of bytes that reads.
-/
namespace Go.Proofs.Ytikopeihkbpjhas
open Go.RowKit
set_option maxRecDepth 4000

set_option maxHeartbeats 1000000 in
theorem crc_spec (ao : Option Addr) (n cap : Nat) (f : Nat → Int) (w : World) (hv : View w ao n cap f) (hn : n ≤ 281474976710656) :
    Calls Try.prog 56 #[.slice ao n cap] w fun e w' => e = .returned (.int .i64 ((crc n f : Nat) : Int)) ∧ w = w' := by
  go_enter Try.func56, Try.ntmps56
  go_wp2
  go_loopg [3, 4] n (fun g s i wr => w = wr ∧ ∃ k y : Nat, k ≤ n ∧ g = n - k ∧ s = .int .i64 (y : Int) ∧ i = .int .i64 k ∧ y < 4294967296 ∧ y = crcTo f k)
  case atStart => exact ⟨rfl, 0, 4294967295, by omega, rfl, rfl, rfl, by decide, rfl⟩
  case round =>
    obtain ⟨rfl, k, y, hk, rfl, rfl, rfl, hy, hyk⟩ := hrel
    have HY : Hid (y = crcTo f k) := hyk
    clear hyk
    by_cases hlt : k < n
    · obtain ⟨b, off, rfl, hb, hc⟩ := hv.cells (by omega)
      have hkz : (k : Int) < (n : Int) := by omega
      have hc1 := hc k hlt
      have hbk := hv.byte k hlt
      have q1 := i64_in y (f k) hy hbk
      have hlt2 := xorByte_lt hy hbk
      obtain ⟨hbk0, hbk1⟩ := hbk
      clear hc
      go_wp2
      clear q1 hc1
      go_loopg [3, 5] 8 (fun g s i wi => w = wi ∧ ∃ j z : Nat, j ≤ 8 ∧ g = 8 - j ∧ s = .int .i64 (z : Int) ∧ i = .int .i64 j ∧ z < 4294967296 ∧ z = crcBits j (y ^^^ (f k).toNat))
      case atStart => exact ⟨rfl, 0, y ^^^ (f k).toNat, by omega, rfl, rfl, rfl, hlt2, rfl⟩
      case round =>
        obtain ⟨rfl, j, z, hj, rfl, rfl, rfl, hz, hzj⟩ := hrel
        have HZ : Hid (z = crcBits j (y ^^^ (f k).toNat)) := hzj
        clear hzj
        by_cases hj8 : j < 8
        · have hjz : (j : Int) < 8 := by omega
          by_cases hodd : z % 2 = 1
          · have q1 : bits .and .i64 (z : Int) 1 = 1 := by rw [i64_and1 z (by omega), hodd]; rfl
            have q2 := i64_turn z hz
            have HO : Hid (z % 2 = 1) := hodd
            clear hodd
            go_wp2
            go_roundg (8 - (j + 1))
            case measure => omega
            case rel => exact ⟨rfl, j + 1, z / 2 ^^^ 2197175160, by omega, rfl, rfl, by go_num, Nat.xor_lt_two_pow (n := 32) (by omega) (by decide), by rw [← crcBit_odd z HO.out, HZ.out]; rfl⟩
          · have q1 : bits .and .i64 (z : Int) 1 = 0 := by rw [i64_and1 z (by omega), show z % 2 = 0 by omega]; rfl
            have HO : Hid (¬ z % 2 = 1) := hodd
            clear hodd
            go_wp2
            go_roundg (8 - (j + 1))
            case measure => omega
            case rel => exact ⟨rfl, j + 1, z / 2, by omega, rfl, by go_num, by go_num, by omega, by rw [← crcBit_even z HO.out, HZ.out]; rfl⟩
        · obtain rfl : j = 8 := by omega
          go_wp2
          go_roundg (n - (k + 1))
          case measure => omega
          case rel => exact ⟨rfl, k + 1, z, by omega, rfl, rfl, by go_num, hz, by rw [HZ.out, HY.out]; rfl⟩
    · obtain rfl : k = n := by omega
      have q1 := i64_last y hy
      go_wp2
      go_ret
      exact ⟨retInt (congrArg (fun z : Nat => ((z ^^^ 4294967295 : Nat) : Int)) HY.out), rfl⟩

theorem crc_spec' {c : Nat} (ao : Option Addr) (n cap : Nat) (f : Nat → Int) (w : World) (hg : Hid (crc n f = c)) (hv : View w ao n cap f) (hn : n ≤ 281474976710656) :
    Calls Try.prog 56 #[.slice ao n cap] w fun e w' => e = .returned (.int .i64 (c : Int)) ∧ w = w' := by
  have h := crc_spec ao n cap f w hv hn
  rw [hg.out] at h; exact h

end Go.Proofs.Ytikopeihkbpjhas

/-
  The model's PutSum: what was there, and behind it the four bytes of its sum, in memory of its own.
-/
namespace Go.Proofs.Ytikopeihkbpjhas
open Go.RowKit
set_option maxRecDepth 4000

set_option maxHeartbeats 1000000 in
theorem putSum_own (b off n cap : Nat) (f : Nat → Int) (w : World) (hv : View w (some ⟨b, off, none⟩) n cap f) (hn : n ≤ 35184372088832) :
    Calls Try.prog 37 #[.slice (some ⟨b, off, none⟩) n cap] w fun e w' => ∃ v, e = .returned v ∧ w'.ownsRow w.heap.size 5 1 v (n + 4) (bl (lof n f ++ sumL (crc n f))) ∧ Below w.heap.size w w' := by
  obtain ⟨i0, hi, hz0, hz1, hz2⟩ := info_parts Try.info5
  have hlt := crc_lt hv.byte
  obtain ⟨c, hc⟩ : ∃ c, Hid (crc n f = c) := ⟨_, rfl⟩
  rw [hc.out] at hlt
  have hcz : (c : Int) < 4294967296 := by omega
  have hw : ∀ x : Int, IntKind.u8.wrap x = x % 256 := u8_wrap
  have hown0 := World.ownsRow_lit (base := w.heap.size) (e := 5) (size := 1) w #[] 0 (Nat.le_refl _) (Nat.zero_le _) rfl
  have hb0 : Below w.heap.size w (w.alloc (.cells #[] 5)) := (Below.refl _ _).alloc (Nat.le_refl _) _
  have hcl := cells_of_view (hv.below hb0)
  have hsz : (w.alloc (.cells #[] 5)).heap.size = w.heap.size + 1 := by simp
  go_enter Try.func37, Try.ntmps37
  go_wp2_with fail
  refine (crc_spec' _ n cap f w hc hv (by omega)).mono ?_
  rintro e _ ⟨rfl, rfl⟩
  go_wp2_with (first | (at_builtin; refine wpList_append_own _ rfl (.tmp 6) (.tmp 7) 34 rfl w.heap.size 5 i0 (.int .u8 0) 1 1 Try.underlying34 hi hz0 hz1 hz2 rfl (by decide) (.slice (some ⟨w.heap.size, 0, none⟩) 0 0) 0 [] rfl hown0 ⟨b, off, none⟩ n cap (bl (lof n f)) rfl (by rw [bl_len, lof_len]; omega) hcl (bl_one _) (by unfold maxLen; omega) (by omega) (by rw [hsz]; omega) ?_; intro v1 w1 hown1 hgr1 _; simp only [Nat.zero_add, List.nil_append] at hown1) | (at_builtin; refine wpList_append_own _ rfl (.tmp 8) (.tmp 20) 34 rfl w.heap.size 5 i0 (.int .u8 0) 1 1 Try.underlying34 hi hz0 hz1 hz2 rfl (by decide) v1 n (bl (lof n f)) rfl (hown1.alloc _) ⟨w1.heap.size, 0, none⟩ 4 4 (bl (sumL c)) rfl rfl (cellNews w1 (bl (sumL c)) 5) (bl_one _) (by unfold maxLen; omega) (by omega) (by have := hgr1.size; simp at this; simp; omega) ?_; intro v2 w2 hown2 hgr2 _))
  have hb1 : Below w.heap.size w w1 := hb0.grown hgr1 (by simp) (fun k hk => by simp only [Value.ownBlock, Option.some.injEq] at hk; omega)
  have hb2 : Below w.heap.size w w2 := (hb1.alloc hb1.size _).grown hgr2 (by have := hb1.size; simp; omega) (fun k hk => (hown1.lt k hk).1)
  go_ret
  rw [hc.out]
  rw [← bl_append] at hown2
  exact ⟨v2, rfl, hown2, hb2⟩
theorem putSum_spec (b off n cap : Nat) (f : Nat → Int) (w : World) (hv : View w (some ⟨b, off, none⟩) n cap f) (hn : n ≤ 35184372088832) :
    Calls Try.prog 37 #[.slice (some ⟨b, off, none⟩) n cap] w fun e w' => ∃ g c, e = .returned (.slice (some ⟨g, 0, none⟩) (n + 4) c) ∧ w.heap.size ≤ g ∧ n + 4 ≤ c ∧ Row 5 w' g (n + 4) (fun i => (lof n f ++ sumL (crc n f)).getD i 0) ∧ Below w.heap.size w w' := by
  refine (putSum_own b off n cap f w hv hn).mono ?_
  rintro e w' ⟨v, rfl, hown, hb⟩
  obtain ⟨g, c', rfl, hg, hgc, hrow⟩ := row_of_own hown (by omega)
  exact ⟨g, c', rfl, hg, hgc, hrow, hb⟩
end Go.Proofs.Ytikopeihkbpjhas

/-
  Right values, kind by kind.
-/
namespace Go.Proofs.Ytikopeihkbpjhas
open Go.RowKit
set_option maxRecDepth 4000

theorem okF_kinds {k n : Int} {s : ByteArray} (h : okF k n s = true) : (k = 0 ∧ n = 0 ∧ s = noBytes) ∨ (k = 1 ∧ (-2147483648 ≤ n ∧ n ≤ 2147483647) ∧ s = noBytes) ∨ (k = 2 ∧ (-1000000000000000 ≤ n ∧ n ≤ 1000000000000000) ∧ s = noBytes) ∨ (k = 3 ∧ n = 0 ∧ s.size ≤ 30) ∨ (k = 4 ∧ (0 ≤ n ∧ n ≤ 1) ∧ s = noBytes) := by
  by_cases h0 : k = 0
  · subst h0; rw [okF_spec0] at h; simp at h; exact .inl ⟨rfl, h⟩
  by_cases h1 : k = 1
  · subst h1; rw [okF_spec1] at h; simp at h; exact .inr (.inl ⟨rfl, h⟩)
  by_cases h2 : k = 2
  · subst h2; rw [okF_spec2] at h; simp at h; exact .inr (.inr (.inl ⟨rfl, h⟩))
  by_cases h3 : k = 3
  · subst h3; rw [okF_spec3] at h; simp at h; exact .inr (.inr (.inr (.inl ⟨rfl, h.2, h.1⟩)))
  by_cases h4 : k = 4
  · subst h4; rw [okF_spec4] at h; simp at h; exact .inr (.inr (.inr (.inr ⟨rfl, h⟩)))
  · rw [okF_specX n s h0 h1 h2 h3 h4] at h; cases h
end Go.Proofs.Ytikopeihkbpjhas

