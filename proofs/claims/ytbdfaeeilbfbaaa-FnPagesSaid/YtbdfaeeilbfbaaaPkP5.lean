/-
  Together: Equal, GetSum, GetSumSpec, GetWalks, GetTextImpl, GetSpec, GetTextSpec
-/
import Derived.Test.YtbdfaeeilbfbaaaPkP1
import Derived.Test.YtbdfaeeilbfbaaaPkP3
import Derived.Test.YtbdfaeeilbfbaaaPkP4
import Derived.Test.YtbdfaeeilbfbaaaPkP2
/-
  bytes.Equal at two slices of bytes that read.
-/
namespace Go.Proofs.Ytbdfaeeilbfbaaa
open Go.RowKit
set_option maxRecDepth 4000

set_option maxHeartbeats 400000 in
theorem equal_any (b1 o1 n c1 : Nat) (f : Nat → Int) (b2 o2 m c2 : Nat) (g : Nat → Int) (w : World) (h1 : View w (some ⟨b1, o1, none⟩) n c1 f) (h2 : View w (some ⟨b2, o2, none⟩) m c2 g) :
    Calls Try.prog 73 #[.slice (some ⟨b1, o1, none⟩) n c1, .slice (some ⟨b2, o2, none⟩) m c2] w fun e w' => e = .returned (.bool ((strOfNums (lof n f)).toList == (strOfNums (lof m g)).toList)) ∧ w = w' := by
  have q1 := conv_view h1
  have q2 := conv_view h2
  go_enter Try.func73, Try.ntmps73
  go_wp2
  go_ret
  exact ⟨rfl, rfl⟩
end Go.Proofs.Ytbdfaeeilbfbaaa

/-
  The program's GetSum and the model's: both answer what stands ahead of the last four bytes, and true, just where these are its sum; else nothing and false.
-/
namespace Go.Proofs.Ytbdfaeeilbfbaaa
open Go.RowKit
set_option maxRecDepth 4000

set_option maxHeartbeats 1000000 in
theorem getSum_impl_few (n : Nat) (f : Nat → Int) (hn : n < 4) : Gives 70 n f 0 false := by
  intro b cap w hv
  have hz : (n : Int) - 4 < 0 := by omega
  go_enter Try.func70, Try.ntmps70
  go_wp2
  go_ret2
  exact ⟨_, _, rfl, Nat.le_refl _, Nat.le_refl _, noRow _ _ _, (Below.refl _ _).alloc (Nat.le_refl _) _⟩

set_option maxHeartbeats 1000000 in
theorem getSum_impl_yes (m : Nat) (f : Nat → Int) (hn : m + 4 ≤ 1048576) (hf : ∀ i, i < m + 4 → 0 ≤ f i ∧ f i ≤ 255) (hs : last4 m f = (crc m f : Int)) : Gives 70 (m + 4) f m true := by
  intro b cap w hv
  have hz : (0 : Int) ≤ (m : Int) := by omega
  have hcl : (m : Int) ≤ (cap : Int) := by have := hv.le; omega
  have HQ : Hid (((strOfNums (lof (m + 4) (fun i => (lof m f ++ sumL (crc m f)).getD i 0))).toList == (strOfNums (lof (m + 4) f)).toList) = true) := by
    show _ = true
    have e : lof (m + 4) (fun i => (lof m f ++ sumL (crc m f)).getD i 0) = lof m f ++ sumL (crc m f) := by
      have := lof_self (lof m f ++ sumL (crc m f))
      rw [List.length_append, lof_len, sumL_len] at this
      exact this
    rw [e, (sum_iff hf (crc_lt (fun i hi => hf i (by omega)))).2 hs]
    simp
  have HP : Hid (∀ i, i < m + 4 → 0 ≤ (lof m f ++ sumL (crc m f)).getD i 0 ∧ (lof m f ++ sumL (crc m f)).getD i 0 ≤ 255) := put_byte m f _ (fun i hi => hf i (by omega)) (sumL_byte _)
  clear hs hf
  go_enter Try.func70, Try.ntmps70
  go_wp2_with fail
  refine (putSum_impl b 0 m cap f w (hv.take (by omega)) (by omega)).mono ?_
  rintro e w1 ⟨g, c, rfl, hg, hgc, hr, hb1⟩
  go_wp2_with fail
  refine (equal_any g 0 (m + 4) c _ b 0 (m + 4) cap f w1 (hr.view hgc HP.out) (hv.below hb1)).mono ?_
  rintro e _ ⟨he, rfl⟩
  rw [HQ.out] at he
  subst he
  clear hr HP HQ
  go_wp2_with fail
  refine (putBytes_any b 0 m cap f none 0 0 (fun _ => 0) w1 ((hv.below hb1).take (by omega)) (noView _ _) (fun _ => ⟨rfl, rfl⟩) (by omega)).mono ?_
  rintro e w2 ⟨rfl, hown, hb2⟩
  rw [show lof 0 (fun _ => 0) = [] from rfl, List.append_nil, Nat.add_zero] at hown
  have hrow : Row 5 w2 w1.heap.size m f := (row_of_owned hown).congr (fun i hi => lof_get m f i hi)
  go_wp2
  go_ret2
  exact ⟨_, _, rfl, hb1.size, Nat.le_refl _, hrow, hb1.trans (hb2.mono hb1.size)⟩

set_option maxHeartbeats 1000000 in
theorem getSum_impl_no (m : Nat) (f : Nat → Int) (hn : m + 4 ≤ 1048576) (hf : ∀ i, i < m + 4 → 0 ≤ f i ∧ f i ≤ 255) (hs : last4 m f ≠ (crc m f : Int)) : Gives 70 (m + 4) f 0 false := by
  intro b cap w hv
  have hz : (0 : Int) ≤ (m : Int) := by omega
  have hcl : (m : Int) ≤ (cap : Int) := by have := hv.le; omega
  have HQ : Hid (((strOfNums (lof (m + 4) (fun i => (lof m f ++ sumL (crc m f)).getD i 0))).toList == (strOfNums (lof (m + 4) f)).toList) = false) := by
    show _ = false
    have e : lof (m + 4) (fun i => (lof m f ++ sumL (crc m f)).getD i 0) = lof m f ++ sumL (crc m f) := by
      have := lof_self (lof m f ++ sumL (crc m f))
      rw [List.length_append, lof_len, sumL_len] at this
      exact this
    rw [e, beq_eq_false_iff_ne]
    intro h
    refine hs ((sum_iff hf (crc_lt (fun i hi => hf i (by omega)))).1 (strOfNums_inj ?_ (lof_byteS hf) ?_))
    · intro y hy
      rcases List.mem_append.1 hy with hy | hy
      · exact lof_byteS (fun i hi => hf i (by omega)) y hy
      · exact sumL_byte _ y hy
    · rw [ByteArray.toList_eq, ByteArray.toList_eq] at h; exact ByteArray.ext (Array.ext' h)
  have HP : Hid (∀ i, i < m + 4 → 0 ≤ (lof m f ++ sumL (crc m f)).getD i 0 ∧ (lof m f ++ sumL (crc m f)).getD i 0 ≤ 255) := put_byte m f _ (fun i hi => hf i (by omega)) (sumL_byte _)
  clear hs hf
  go_enter Try.func70, Try.ntmps70
  go_wp2_with fail
  refine (putSum_impl b 0 m cap f w (hv.take (by omega)) (by omega)).mono ?_
  rintro e w1 ⟨g, c, rfl, hg, hgc, hr, hb1⟩
  go_wp2_with fail
  refine (equal_any g 0 (m + 4) c _ b 0 (m + 4) cap f w1 (hr.view hgc HP.out) (hv.below hb1)).mono ?_
  rintro e _ ⟨he, rfl⟩
  rw [HQ.out] at he
  subst he
  clear hr HP HQ
  go_wp2
  go_ret2
  exact ⟨_, _, rfl, hb1.size, Nat.le_refl _, noRow _ _ _, hb1.alloc hb1.size _⟩
end Go.Proofs.Ytbdfaeeilbfbaaa

/-
  The model's GetSum: it answers as the program's.
-/
namespace Go.Proofs.Ytbdfaeeilbfbaaa
open Go.RowKit
set_option maxRecDepth 4000

theorem i64_add_or (x y : Int) (h0 : 0 ≤ x) (h1 : x ≤ 16777215) (h2 : 0 ≤ y) (h3 : y ≤ 255) : bits .or .i64 (x * 256) y = x * 256 + y := by
  have e : bits .or .i64 (x * 256) y = bits .or .i64 y (x * 256) := by simp only [bits, BitVec.or_comm]
  rw [e, i64_or_add 8 y (x * 256) h2 (by show _ < (256 : Int); omega) (by omega) (by show _ % (256 : Int) = 0; omega) (by omega) (by decide)]
  omega

set_option maxHeartbeats 1000000 in
theorem getSum_spec_few (n : Nat) (f : Nat → Int) (hn : n < 4) : Gives 76 n f 0 false := by
  intro b cap w hv
  have hz : (n : Int) - 4 < 0 := by omega
  go_enter Try.func76, Try.ntmps76
  go_wp2
  go_ret2
  exact ⟨_, _, rfl, Nat.le_refl _, Nat.le_refl _, noRow _ _ _, (Below.refl _ _).alloc (Nat.le_refl _) _⟩

set_option maxRecDepth 100000 in
set_option maxHeartbeats 2000000 in
theorem getSum_spec_all (m : Nat) (f : Nat → Int) (hn : m + 4 ≤ 1048576) (hf : ∀ i, i < m + 4 → 0 ≤ f i ∧ f i ≤ 255) (N : Nat) (B : Bool) (hs : (last4 m f = (crc m f : Int) ∧ N = m ∧ B = true) ∨ (last4 m f ≠ (crc m f : Int) ∧ N = 0 ∧ B = false)) : Gives 76 (m + 4) f N B := by
  intro b cap w hv
  obtain ⟨i0, hi, hz0, hz1, hz2⟩ := info_parts Try.info5
  have hz : (0 : Int) ≤ (m : Int) := by omega
  have hcl : (m : Int) ≤ (cap : Int) := by have := hv.le; omega
  obtain ⟨b', off', e, hb, hc⟩ := hv.cells (by omega)
  simp only [Option.some.injEq, Addr.mk.injEq, and_true] at e
  obtain ⟨rfl, rfl⟩ := e
  have hc0 := hc m (by omega)
  have hc1 := hc (m + 1) (by omega)
  have hc2 := hc (m + 2) (by omega)
  have hc3 := hc (m + 3) (by omega)
  rw [Nat.zero_add] at hc0 hc1 hc2 hc3
  obtain ⟨b00, b01⟩ := hf m (by omega)
  obtain ⟨b10, b11⟩ := hf (m + 1) (by omega)
  obtain ⟨b20, b21⟩ := hf (m + 2) (by omega)
  obtain ⟨b30, b31⟩ := hf (m + 3) (by omega)
  have q0 : bits .or .i64 0 (f m) = f m := by have := i64_add_or 0 (f m) (by omega) (by omega) b00 b01; simpa using this
  have q1 := i64_add_or (f m) (f (m + 1)) b00 (by omega) b10 b11
  have q2 := i64_add_or (f m * 256 + f (m + 1)) (f (m + 2)) (by omega) (by omega) b20 b21
  have q3 := i64_add_or ((f m * 256 + f (m + 1)) * 256 + f (m + 2)) (f (m + 3)) (by omega) (by omega) b30 b31
  obtain ⟨c, hcc⟩ : ∃ c, Hid (crc m f = c) := ⟨_, rfl⟩
  rw [hcc.out] at hs
  unfold last4 at hs
  have hown0 := World.ownsRow_lit (base := w.heap.size) (e := 5) (size := 1) w #[] 0 (Nat.le_refl _) (Nat.zero_le _) rfl
  have hb0 : Below w.heap.size w (w.alloc (.cells #[] 5)) := (Below.refl _ _).alloc (Nat.le_refl _) _
  have hclc := cells_of_view ((hv.take (m := m) (by omega)).below hb0)
  have hsz : (w.alloc (.cells #[] 5)).heap.size = w.heap.size + 1 := by simp
  clear hc hf
  rcases hs with ⟨hs, rfl, rfl⟩ | ⟨hs, rfl, rfl⟩
  · have hne : (((f N * 256 + f (N + 1)) * 256 + f (N + 2)) * 256 + f (N + 3) != (c : Int)) = false := by simp [hs]
    have HS : Hid (((f N * 256 + f (N + 1)) * 256 + f (N + 2)) * 256 + f (N + 3) = (c : Int)) := hs
    clear hs
    go_enter Try.func76, Try.ntmps76
    go_wp2
    refine wp_loop_rounds 5 ?_
    rw [rounds_succ]
    go_wp2
    rw [rounds_succ]
    go_wp2
    rw [rounds_succ]
    go_wp2
    rw [rounds_succ]
    go_wp2
    rw [rounds_succ]
    go_wp2_with fail
    refine (crc_spec' _ N cap f w hcc (hv.take (by omega)) (by omega)).mono ?_
    rintro e _ ⟨rfl, rfl⟩
    go_wp2_with (at_builtin; go_must (refine wpList_append_own _ rfl (.tmp 35) (.tmp 38) 22 rfl w.heap.size 5 i0 (.int .u8 0) 1 1 Try.underlying22 hi hz0 hz1 hz2 rfl (by decide) (.slice (some ⟨w.heap.size, 0, none⟩) 0 0) 0 [] rfl hown0 ⟨b, 0, none⟩ N cap (bl (lof N f)) rfl (by rw [bl_len, lof_len]; omega) hclc (bl_one _) (by unfold maxLen; omega) (by omega) (by rw [hsz]; omega) ?_); intro v1 w1 hown1 hgr1 hnil)
    have hb1 : Below w.heap.size w w1 := hb0.grown hgr1 (by simp) (fun k hk => by simp only [Value.ownBlock, Option.some.injEq] at hk; omega)
    rw [Nat.zero_add, List.nil_append] at hown1
    obtain ⟨g, c', hv1, hg, hgc, hrow⟩ := row_of_own' hown1 (fun h => by have := hnil.1 h; simp at this)
    go_ret2
    rw [hv1]
    exact ⟨g, c', rfl, hg, hgc, hrow.congr (fun i hi => lof_get N f i hi), hb1⟩
  · have hne : (((f m * 256 + f (m + 1)) * 256 + f (m + 2)) * 256 + f (m + 3) != (c : Int)) = true := by simp [hs]
    clear hs
    go_enter Try.func76, Try.ntmps76
    go_wp2
    refine wp_loop_rounds 5 ?_
    rw [rounds_succ]
    go_wp2
    rw [rounds_succ]
    go_wp2
    rw [rounds_succ]
    go_wp2
    rw [rounds_succ]
    go_wp2
    rw [rounds_succ]
    go_wp2_with fail
    refine (crc_spec' _ m cap f w hcc (hv.take (by omega)) (by omega)).mono ?_
    rintro e _ ⟨rfl, rfl⟩
    go_wp2
    go_ret2
    exact ⟨_, _, rfl, Nat.le_refl _, Nat.le_refl _, noRow _ _ _, (Below.refl _ _).alloc (Nat.le_refl _) _⟩
end Go.Proofs.Ytbdfaeeilbfbaaa

/-
  The program's GetU and the model's come to the same plain function, at every slice of bytes that reads and at every place.
-/
namespace Go.Proofs.Ytbdfaeeilbfbaaa
open Go.RowKit
set_option maxRecDepth 4000

theorem ret3 {a b a' b' : Int} {c c' : Bool} (h1 : a = a') (h2 : b = b') (h3 : c = c') :
    Ending.returned (.tuple #[.int .i64 a, .int .i64 b, .bool c]) = .returned (.tuple #[.int .i64 a', .int .i64 b', .bool c']) := by rw [h1, h2, h3]

def getRet (r : Int × Int × Bool) : Ending := .returned (.tuple #[.int .i64 r.1, .int .i64 r.2.1, .bool r.2.2])

set_option maxHeartbeats 1000000 in
theorem getU_impl (ao : Option Addr) (n cap : Nat) (f : Nat → Int) (p : Int) (w : World) (hv : View w ao n cap f) (hn : n ≤ 281474976710656) (hp1 : p ≤ 9223372036854775807) :
    Calls Try.prog 71 #[.slice ao n cap, .int .i64 p] w fun e w' => e = getRet (getU n f p) ∧ w' = w := by
  by_cases hp : p < 0
  · rw [getU_neg n f p hp]
    go_enter Try.func71, Try.ntmps71
    go_wp2
    go_ret3
    exact ⟨rfl, rfl⟩
  obtain ⟨i, rfl⟩ := Int.eq_ofNat_of_zero_le (Int.not_lt.1 hp)
  by_cases h0 : i < n
  case neg =>
    rw [getU_past n f i (by omega)]
    have hge : (n : Int) ≤ (i : Int) := by omega
    go_enter Try.func71, Try.ntmps71
    go_wp2
    refine wp_loop_rounds 1 ?_
    rw [rounds_succ]
    go_wp2
    go_ret3
    exact ⟨rfl, rfl⟩
  obtain ⟨b, off, rfl, hb, hc⟩ := hv.cells (by omega)
  have hb0 := hv.byte i h0
  have hc0 := hc i h0
  have hz0 : (i : Int) < (n : Int) := by omega
  by_cases h1 : f i < 128
  · rw [getU_1 n f i h0 h1]
    clear hc hv
    go_enter Try.func71, Try.ntmps71
    go_wp2
    refine wp_loop_rounds 1 ?_
    rw [rounds_succ]
    go_wp2
    all_goals
      go_ret3
      exact ⟨ret3 (by first | rfl | (dsimp only; omega)) (by first | rfl | (dsimp only; omega)) rfl, rfl⟩
  by_cases h2 : i + 1 < n
  case neg =>
    rw [getU_2end n f i h0 (by omega) (by omega)]
    clear hc hv
    go_enter Try.func71, Try.ntmps71
    go_wp2
    refine wp_loop_rounds 2 ?_
    rw [rounds_succ]
    go_wp2
    all_goals
      rw [rounds_succ]
      go_wp2
    all_goals
      go_ret3
      exact ⟨ret3 (by first | rfl | (dsimp only; omega)) (by first | rfl | (dsimp only; omega)) rfl, rfl⟩
  have hb1 := hv.byte (i + 1) h2
  have hc1 := hc (i + 1) h2
  have hz1 : (i : Int) + 1 < (n : Int) := by omega
  by_cases h3 : f (i + 1) < 128
  case pos =>
    by_cases h4 : f (i + 1) = 0
    case pos =>
      rw [getU_2zero n f i h2 (by omega) h4]
      clear hc hv
      go_enter Try.func71, Try.ntmps71
      go_wp2
      refine wp_loop_rounds 2 ?_
      rw [rounds_succ]
      go_wp2
      all_goals
        rw [rounds_succ]
        go_wp2
      all_goals
        go_ret3
        exact ⟨ret3 (by first | rfl | (dsimp only; omega)) (by first | rfl | (dsimp only; omega)) rfl, rfl⟩
    case neg =>
      rw [getU_2 n f i h2 (by omega) h3 h4]
      clear hc hv
      go_enter Try.func71, Try.ntmps71
      go_wp2
      refine wp_loop_rounds 2 ?_
      rw [rounds_succ]
      go_wp2
      all_goals
        rw [rounds_succ]
        go_wp2
      all_goals
        go_ret3
        exact ⟨ret3 (by first | rfl | (dsimp only; omega)) (by first | rfl | (dsimp only; omega)) rfl, rfl⟩
  by_cases h5 : i + 2 < n
  case neg =>
    rw [getU_3end n f i h2 (by omega) (by omega) (by omega)]
    clear hc hv
    go_enter Try.func71, Try.ntmps71
    go_wp2
    refine wp_loop_rounds 3 ?_
    rw [rounds_succ]
    go_wp2
    all_goals
      rw [rounds_succ]
      go_wp2
    all_goals
      rw [rounds_succ]
      go_wp2
    all_goals
      go_ret3
      exact ⟨ret3 (by first | rfl | (dsimp only; omega)) (by first | rfl | (dsimp only; omega)) rfl, rfl⟩
  have hb2 := hv.byte (i + 2) h5
  have hc2 := hc (i + 2) h5
  have hz2 : (i : Int) + 2 < (n : Int) := by omega
  by_cases h6 : f (i + 2) < 128
  case neg =>
    rw [getU_long n f i h5 (by omega) (by omega) (by omega)]
    clear hc hv
    go_enter Try.func71, Try.ntmps71
    go_wp2
    refine wp_loop_rounds 4 ?_
    rw [rounds_succ]
    go_wp2
    all_goals
      rw [rounds_succ]
      go_wp2
    all_goals
      rw [rounds_succ]
      go_wp2
    all_goals
      rw [rounds_succ]
      go_wp2
    all_goals
      go_ret3
      exact ⟨ret3 (by first | rfl | (dsimp only; omega)) (by first | rfl | (dsimp only; omega)) rfl, rfl⟩
  by_cases h7 : f (i + 2) = 0 ∨ 1000000 < f i - 128 + (f (i + 1) - 128) * 128 + f (i + 2) * 16384
  case pos =>
    rw [getU_3no n f i h5 (by omega) (by omega) h6 h7]
    clear hc hv
    go_enter Try.func71, Try.ntmps71
    go_wp2
    refine wp_loop_rounds 3 ?_
    rw [rounds_succ]
    go_wp2
    all_goals
      rw [rounds_succ]
      go_wp2
    all_goals
      rw [rounds_succ]
      go_wp2
    all_goals
      go_ret3
      exact ⟨ret3 (by first | rfl | (dsimp only; omega)) (by first | rfl | (dsimp only; omega)) rfl, rfl⟩
  case neg =>
    rw [getU_3 n f i h5 (by omega) (by omega) h6 h7]
    clear hc hv
    go_enter Try.func71, Try.ntmps71
    go_wp2
    refine wp_loop_rounds 3 ?_
    rw [rounds_succ]
    go_wp2
    all_goals
      rw [rounds_succ]
      go_wp2
    all_goals
      rw [rounds_succ]
      go_wp2
    all_goals
      go_ret3
      exact ⟨ret3 (by first | rfl | (dsimp only; omega)) (by first | rfl | (dsimp only; omega)) rfl, rfl⟩
end Go.Proofs.Ytbdfaeeilbfbaaa

/-
  The program's GetText: the bytes behind a number that says how many they are, as a text.
-/
namespace Go.Proofs.Ytbdfaeeilbfbaaa
open Go.RowKit
set_option maxRecDepth 4000

theorem getU_impl' {a b : Int} {c : Bool} (ao : Option Addr) (n cap : Nat) (f : Nat → Int) (p : Int) (w : World) (hg : Hid (getU n f p = (a, b, c))) (hv : View w ao n cap f) (hn : n ≤ 281474976710656) (hp1 : p ≤ 9223372036854775807) :
    Calls Try.prog 71 #[.slice ao n cap, .int .i64 p] w fun e w' => e = .returned (.tuple #[.int .i64 a, .int .i64 b, .bool c]) ∧ w = w' := by
  refine (getU_impl ao n cap f p w hv hn hp1).mono ?_
  rintro e w' ⟨he, hw⟩
  rw [hg.out] at he
  exact ⟨he, hw.symm⟩

set_option maxHeartbeats 1000000 in
theorem getText_impl (b off n cap : Nat) (f : Nat → Int) (p : Int) (w : World) (s : ByteArray) (q : Int) (ok : Bool) (hg : Hid (getText n f p = (s, q, ok))) (hv : View w (some ⟨b, off, none⟩) n cap f) (hn : n ≤ 281474976710656) (hp1 : p ≤ 9223372036854775807) :
    Calls Try.prog 72 #[.slice (some ⟨b, off, none⟩) n cap, .int .i64 p] w fun e w' => e = .returned (.tuple #[.string s, .int .i64 q, .bool ok]) ∧ w = w' := by
  obtain ⟨a, r, c, hu⟩ : ∃ a r c, Hid (getU n f p = (a, r, c)) := ⟨_, _, _, rfl⟩
  have hbd : c = true → 0 ≤ a ∧ a ≤ 1000000 ∧ 0 ≤ r ∧ r ≤ n := by rintro rfl; exact getU_bd hv.byte hu.out
  have hT : getText n f p = if c = true ∧ a ≤ n - r then (strOfNums (lof a.toNat (fun i => f (r.toNat + i))), r + a, true) else (strOfNums [], 0, false) := by unfold getText; rw [hu.out]
  rw [hg.out] at hT
  cases c with
  | false =>
    rw [if_neg (by simp)] at hT
    cases hT
    clear hbd
    go_enter Try.func72, Try.ntmps72
    go_wp2_with fail
    refine (getU_impl' _ n cap f p w hu hv hn hp1).mono ?_
    rintro e _ ⟨rfl, rfl⟩
    go_wp2
    go_ret3
    exact ⟨rfl, rfl⟩
  | true =>
    obtain ⟨h0, h1, h2, h3⟩ := hbd rfl
    obtain ⟨a, rfl⟩ := Int.eq_ofNat_of_zero_le h0
    obtain ⟨r, rfl⟩ := Int.eq_ofNat_of_zero_le h2
    clear hbd
    by_cases hl : (a : Int) ≤ n - r
    · rw [if_pos ⟨rfl, hl⟩, Int.toNat_natCast, Int.toNat_natCast] at hT
      simp only [Prod.mk.injEq] at hT
      obtain ⟨rfl, rfl, rfl⟩ := hT
      have hle := hv.le
      have hcap : (r : Int) + a ≤ cap := by omega
      by_cases hrc : r < cap
      · have hrz : (r : Int) < cap := by omega
        have q1 : (convert 22 9 (.slice (some ⟨b, off + r, none⟩) a (cap - r))).run Try.prog w = .ok (.string (strOfNums (lof a (fun i => f (r + i))))) w := conv_view (hv.cut (by omega))
        go_enter Try.func72, Try.ntmps72
        go_wp2_with fail
        refine (getU_impl' _ n cap f p w hu hv hn hp1).mono ?_
        rintro e _ ⟨rfl, rfl⟩
        go_wp2
        go_ret3
        exact ⟨rfl, rfl⟩
      · obtain rfl : r = cap := by omega
        obtain rfl : a = 0 := by omega
        have hrz : ¬ (r : Int) < r := by omega
        have q2 : (convert 22 9 (.slice (some ⟨b, off, none⟩) 0 0)).run Try.prog w = .ok (.string (strOfNums (lof 0 f))) w := conv_view ⟨Nat.le_refl _, fun _ h => absurd h (Nat.not_lt_zero _), fun h => absurd h (Nat.lt_irrefl _)⟩
        go_enter Try.func72, Try.ntmps72
        go_wp2_with fail
        refine (getU_impl' _ n r f p w hu hv hn hp1).mono ?_
        rintro e _ ⟨rfl, rfl⟩
        go_wp2
        go_ret3
        exact ⟨retT rfl (by omega) rfl, rfl⟩
    · rw [if_neg (by simp [hl])] at hT
      cases hT
      have hl2 : (n : Int) - r < a := by omega
      go_enter Try.func72, Try.ntmps72
      go_wp2_with fail
      refine (getU_impl' _ n cap f p w hu hv hn hp1).mono ?_
      rintro e _ ⟨rfl, rfl⟩
      go_wp2
      go_ret3
      exact ⟨rfl, rfl⟩

end Go.Proofs.Ytbdfaeeilbfbaaa

/-
  The model's GetU comes to the same plain function as the program, at every slice of bytes that reads and at every place.
-/
namespace Go.Proofs.Ytbdfaeeilbfbaaa
open Go.RowKit
set_option maxRecDepth 4000

set_option maxHeartbeats 1000000 in
theorem getU_spec (ao : Option Addr) (n cap : Nat) (f : Nat → Int) (p : Int) (w : World) (hv : View w ao n cap f) (hn : n ≤ 281474976710656) (hp1 : p ≤ 9223372036854775807) :
    Calls Try.prog 77 #[.slice ao n cap, .int .i64 p] w fun e w' => e = getRet (getU n f p) ∧ w' = w := by
  by_cases hp : p < 0
  · rw [getU_neg n f p hp]
    go_enter Try.func77, Try.ntmps77
    go_wp2
    refine wp_loop_rounds 1 ?_
    rw [rounds_succ]
    go_wp2
    go_ret3
    exact ⟨rfl, rfl⟩
  obtain ⟨i, rfl⟩ := Int.eq_ofNat_of_zero_le (Int.not_lt.1 hp)
  by_cases h0 : i < n
  case neg =>
    rw [getU_past n f i (by omega)]
    have hge : (n : Int) ≤ (i : Int) := by omega
    go_enter Try.func77, Try.ntmps77
    go_wp2
    refine wp_loop_rounds 1 ?_
    rw [rounds_succ]
    go_wp2
    go_ret3
    exact ⟨rfl, rfl⟩
  obtain ⟨b, off, rfl, hb, hc⟩ := hv.cells (by omega)
  have hb0 := hv.byte i h0
  have hc0 := hc i h0
  have hz0 : (i : Int) < (n : Int) := by omega
  have hA : ∀ x : Int, bits .and .i64 x 127 = x % 128 := i64_and127
  have q0 : bits .or .i64 0 (f i % 128) = f i % 128 := by
    rw [i64_or_add 0 0 (f i % 128) (by omega) (by decide) (by omega) (by simp [Int.emod_one]) (by omega) (by decide)]; omega
  by_cases h1 : f i < 128
  · rw [getU_1 n f i h0 h1]
    clear hc hv
    go_enter Try.func77, Try.ntmps77
    go_wp2
    refine wp_loop_rounds 1 ?_
    rw [rounds_succ]
    go_wp2
    all_goals
      go_ret3
      exact ⟨ret3 (by first | rfl | (dsimp only; omega)) (by first | rfl | (dsimp only; omega)) rfl, rfl⟩
  by_cases h2 : i + 1 < n
  case neg =>
    rw [getU_2end n f i h0 (by omega) (by omega)]
    clear hc hv
    go_enter Try.func77, Try.ntmps77
    go_wp2
    refine wp_loop_rounds 2 ?_
    rw [rounds_succ]
    go_wp2
    all_goals
      rw [rounds_succ]
      go_wp2
    all_goals
      go_ret3
      exact ⟨ret3 (by first | rfl | (dsimp only; omega)) (by first | rfl | (dsimp only; omega)) rfl, rfl⟩
  have hb1 := hv.byte (i + 1) h2
  have hc1 := hc (i + 1) h2
  have hz1 : (i : Int) + 1 < (n : Int) := by omega
  have q1 : bits .or .i64 (f i % 128) (f (i + 1) % 128 * 128) = f i % 128 + f (i + 1) % 128 * 128 :=
    i64_or_add 7 _ _ (by omega) (by show _ < (128 : Int); omega) (by omega) (by show _ % (128 : Int) = 0; omega) (by omega) (by decide)
  by_cases h3 : f (i + 1) < 128
  case pos =>
    by_cases h4 : f (i + 1) = 0
    case pos =>
      rw [getU_2zero n f i h2 (by omega) h4]
      clear hc hv
      go_enter Try.func77, Try.ntmps77
      go_wp2
      refine wp_loop_rounds 2 ?_
      rw [rounds_succ]
      go_wp2
      all_goals
        rw [rounds_succ]
        go_wp2
      all_goals
        go_ret3
        exact ⟨ret3 (by first | rfl | (dsimp only; omega)) (by first | rfl | (dsimp only; omega)) rfl, rfl⟩
    case neg =>
      rw [getU_2 n f i h2 (by omega) h3 h4]
      clear hc hv
      have hq1 : (f (i + 1) == 0) = false := beq_eq_false_iff_ne.2 h4
      go_enter Try.func77, Try.ntmps77
      go_wp2
      refine wp_loop_rounds 2 ?_
      rw [rounds_succ]
      go_wp2
      all_goals
        rw [rounds_succ]
        go_wp2
      all_goals
        go_ret3
        exact ⟨ret3 (by first | rfl | (dsimp only; omega)) (by first | rfl | (dsimp only; omega)) rfl, rfl⟩
  by_cases h5 : i + 2 < n
  case neg =>
    rw [getU_3end n f i h2 (by omega) (by omega) (by omega)]
    clear hc hv
    go_enter Try.func77, Try.ntmps77
    go_wp2
    refine wp_loop_rounds 3 ?_
    rw [rounds_succ]
    go_wp2
    all_goals
      rw [rounds_succ]
      go_wp2
    all_goals
      rw [rounds_succ]
      go_wp2
    all_goals
      go_ret3
      exact ⟨ret3 (by first | rfl | (dsimp only; omega)) (by first | rfl | (dsimp only; omega)) rfl, rfl⟩
  have hb2 := hv.byte (i + 2) h5
  have hc2 := hc (i + 2) h5
  have hz2 : (i : Int) + 2 < (n : Int) := by omega
  have q2 : bits .or .i64 (f i % 128 + f (i + 1) % 128 * 128) (f (i + 2) % 128 * 16384) = f i % 128 + f (i + 1) % 128 * 128 + f (i + 2) % 128 * 16384 :=
    i64_or_add 14 _ _ (by omega) (by show _ < (16384 : Int); omega) (by omega) (by show _ % (16384 : Int) = 0; omega) (by omega) (by decide)
  by_cases h6 : f (i + 2) < 128
  case neg =>
    rw [getU_long n f i h5 (by omega) (by omega) (by omega)]
    clear hc hv
    go_enter Try.func77, Try.ntmps77
    go_wp2
    refine wp_loop_rounds 4 ?_
    rw [rounds_succ]
    go_wp2
    all_goals
      rw [rounds_succ]
      go_wp2
    all_goals
      rw [rounds_succ]
      go_wp2
    all_goals
      rw [rounds_succ]
      go_wp2
    all_goals
      go_ret3
      exact ⟨ret3 (by first | rfl | (dsimp only; omega)) (by first | rfl | (dsimp only; omega)) rfl, rfl⟩
  by_cases h7 : f (i + 2) = 0 ∨ 1000000 < f i - 128 + (f (i + 1) - 128) * 128 + f (i + 2) * 16384
  case pos =>
    rw [getU_3no n f i h5 (by omega) (by omega) h6 h7]
    clear hc hv
    go_enter Try.func77, Try.ntmps77
    go_wp2
    refine wp_loop_rounds 3 ?_
    rw [rounds_succ]
    go_wp2
    all_goals
      rw [rounds_succ]
      go_wp2
    all_goals
      rw [rounds_succ]
      go_wp2
    all_goals
      go_ret3
      exact ⟨ret3 (by first | rfl | (dsimp only; omega)) (by first | rfl | (dsimp only; omega)) rfl, rfl⟩
  case neg =>
    rw [getU_3 n f i h5 (by omega) (by omega) h6 h7]
    clear hc hv
    have hq2 : (f (i + 2) == 0) = false := beq_eq_false_iff_ne.2 (fun e => h7 (Or.inl e))
    go_enter Try.func77, Try.ntmps77
    go_wp2
    refine wp_loop_rounds 3 ?_
    rw [rounds_succ]
    go_wp2
    all_goals
      rw [rounds_succ]
      go_wp2
    all_goals
      rw [rounds_succ]
      go_wp2
    all_goals
      go_ret3
      exact ⟨ret3 (by first | rfl | (dsimp only; omega)) (by first | rfl | (dsimp only; omega)) rfl, rfl⟩
end Go.Proofs.Ytbdfaeeilbfbaaa

/-
  The model's GetText: the bytes behind a number that says how many they are, as a text.
-/
namespace Go.Proofs.Ytbdfaeeilbfbaaa
open Go.RowKit
set_option maxRecDepth 4000

theorem getU_spec' {a b : Int} {c : Bool} (ao : Option Addr) (n cap : Nat) (f : Nat → Int) (p : Int) (w : World) (hg : Hid (getU n f p = (a, b, c))) (hv : View w ao n cap f) (hn : n ≤ 281474976710656) (hp1 : p ≤ 9223372036854775807) :
    Calls Try.prog 77 #[.slice ao n cap, .int .i64 p] w fun e w' => e = .returned (.tuple #[.int .i64 a, .int .i64 b, .bool c]) ∧ w = w' := by
  refine (getU_spec ao n cap f p w hv hn hp1).mono ?_
  rintro e w' ⟨he, hw⟩
  rw [hg.out] at he
  exact ⟨he, hw.symm⟩
set_option maxHeartbeats 1000000 in
theorem getText_spec (b off n cap : Nat) (f : Nat → Int) (p : Int) (w : World) (s : ByteArray) (q : Int) (ok : Bool) (hg : Hid (getText n f p = (s, q, ok))) (hv : View w (some ⟨b, off, none⟩) n cap f) (hn : n ≤ 281474976710656) (hp1 : p ≤ 9223372036854775807) :
    Calls Try.prog 78 #[.slice (some ⟨b, off, none⟩) n cap, .int .i64 p] w fun e w' => e = .returned (.tuple #[.string s, .int .i64 q, .bool ok]) ∧ w = w' := by
  obtain ⟨a, r, c, hu⟩ : ∃ a r c, Hid (getU n f p = (a, r, c)) := ⟨_, _, _, rfl⟩
  have hbd : c = true → 0 ≤ a ∧ a ≤ 1000000 ∧ 0 ≤ r ∧ r ≤ n := by rintro rfl; exact getU_bd hv.byte hu.out
  have hT : getText n f p = if c = true ∧ a ≤ n - r then (strOfNums (lof a.toNat (fun i => f (r.toNat + i))), r + a, true) else (strOfNums [], 0, false) := by unfold getText; rw [hu.out]
  rw [hg.out] at hT
  cases c with
  | false =>
    rw [if_neg (by simp)] at hT
    cases hT
    clear hbd
    go_enter Try.func78, Try.ntmps78
    go_wp2_with fail
    refine (getU_spec' _ n cap f p w hu hv hn hp1).mono ?_
    rintro e _ ⟨rfl, rfl⟩
    go_wp2
    go_ret3
    exact ⟨rfl, rfl⟩
  | true =>
    obtain ⟨h0, h1, h2, h3⟩ := hbd rfl
    obtain ⟨a, rfl⟩ := Int.eq_ofNat_of_zero_le h0
    obtain ⟨r, rfl⟩ := Int.eq_ofNat_of_zero_le h2
    clear hbd
    by_cases hl : (a : Int) ≤ n - r
    · rw [if_pos ⟨rfl, hl⟩, Int.toNat_natCast, Int.toNat_natCast] at hT
      simp only [Prod.mk.injEq] at hT
      obtain ⟨rfl, rfl, rfl⟩ := hT
      have hle := hv.le
      have hcap : (r : Int) + a ≤ cap := by omega
      by_cases hrc : r < cap
      · have hrz : (r : Int) < cap := by omega
        have q1 : (convert 22 9 (.slice (some ⟨b, off + r, none⟩) a (cap - r))).run Try.prog w = .ok (.string (strOfNums (lof a (fun i => f (r + i))))) w := conv_view (hv.cut (by omega))
        go_enter Try.func78, Try.ntmps78
        go_wp2_with fail
        refine (getU_spec' _ n cap f p w hu hv hn hp1).mono ?_
        rintro e _ ⟨rfl, rfl⟩
        go_wp2
        go_ret3
        exact ⟨rfl, rfl⟩
      · obtain rfl : r = cap := by omega
        obtain rfl : a = 0 := by omega
        have hrz : ¬ (r : Int) < r := by omega
        have q2 : (convert 22 9 (.slice (some ⟨b, off, none⟩) 0 0)).run Try.prog w = .ok (.string (strOfNums (lof 0 f))) w := conv_view ⟨Nat.le_refl _, fun _ h => absurd h (Nat.not_lt_zero _), fun h => absurd h (Nat.lt_irrefl _)⟩
        go_enter Try.func78, Try.ntmps78
        go_wp2_with fail
        refine (getU_spec' _ n r f p w hu hv hn hp1).mono ?_
        rintro e _ ⟨rfl, rfl⟩
        go_wp2
        go_ret3
        exact ⟨retT rfl (by omega) rfl, rfl⟩
    · rw [if_neg (by simp [hl])] at hT
      cases hT
      have hl2 : (n : Int) - r < a := by omega
      go_enter Try.func78, Try.ntmps78
      go_wp2_with fail
      refine (getU_spec' _ n cap f p w hu hv hn hp1).mono ?_
      rintro e _ ⟨rfl, rfl⟩
      go_wp2
      go_ret3
      exact ⟨rfl, rfl⟩
end Go.Proofs.Ytbdfaeeilbfbaaa

