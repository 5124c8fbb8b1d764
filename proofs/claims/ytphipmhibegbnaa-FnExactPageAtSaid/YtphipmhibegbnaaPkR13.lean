/-
  Together: GetWalks, GetTextImpl, GetSpec, GetTextSpec
-/
import Derived.Test.YtphipmhibegbnaaPkR1
import Derived.Test.YtphipmhibegbnaaPkR10
/-
  The program's GetU and the model's come to the same plain function, at every slice of bytes that reads and at every place.
-/
namespace Go.Proofs.Ytphipmhibegbnaa
open Go.RowKit
set_option maxRecDepth 4000

theorem ret3 {a b a' b' : Int} {c c' : Bool} (h1 : a = a') (h2 : b = b') (h3 : c = c') :
    Ending.returned (.tuple #[.int .i64 a, .int .i64 b, .bool c]) = .returned (.tuple #[.int .i64 a', .int .i64 b', .bool c']) := by rw [h1, h2, h3]

def getRet (r : Int × Int × Bool) : Ending := .returned (.tuple #[.int .i64 r.1, .int .i64 r.2.1, .bool r.2.2])

set_option maxHeartbeats 1000000 in
theorem getU_impl (ao : Option Addr) (n cap : Nat) (f : Nat → Int) (p : Int) (w : World) (hv : View w ao n cap f) (hn : n ≤ 281474976710656) (hp1 : p ≤ 9223372036854775807) :
    Calls Try.prog 72 #[.slice ao n cap, .int .i64 p] w fun e w' => e = getRet (getU n f p) ∧ w' = w := by
  by_cases hp : p < 0
  · rw [getU_neg n f p hp]
    go_enter Try.func72, Try.ntmps72
    go_wp2
    go_ret3
    exact ⟨rfl, rfl⟩
  obtain ⟨i, rfl⟩ := Int.eq_ofNat_of_zero_le (Int.not_lt.1 hp)
  by_cases h0 : i < n
  case neg =>
    rw [getU_past n f i (by omega)]
    have hge : (n : Int) ≤ (i : Int) := by omega
    go_enter Try.func72, Try.ntmps72
    go_wp2
    refine wp_loop_rounds 1 ?_
    rw [rounds_succ]
    go_wp2
    go_ret3
    exact ⟨rfl, rfl⟩
  obtain ⟨b, off, rfl, hb, hc⟩ := hv.cells (by omega)
  have hb0 := hv.byte i h0
  have hc0 := hc i h0
  have hz0 : (i : Int) < (n : Int) := by omega
  by_cases h1 : f i < 128
  · rw [getU_1 n f i h0 h1]
    clear hc hv
    go_enter Try.func72, Try.ntmps72
    go_wp2
    refine wp_loop_rounds 1 ?_
    rw [rounds_succ]
    go_wp2
    all_goals
      go_ret3
      exact ⟨ret3 (by first | rfl | (dsimp only; omega)) (by first | rfl | (dsimp only; omega)) rfl, rfl⟩
  by_cases h2 : i + 1 < n
  case neg =>
    rw [getU_2end n f i h0 (by omega) (by omega)]
    clear hc hv
    go_enter Try.func72, Try.ntmps72
    go_wp2
    refine wp_loop_rounds 2 ?_
    rw [rounds_succ]
    go_wp2
    all_goals
      rw [rounds_succ]
      go_wp2
    all_goals
      go_ret3
      exact ⟨ret3 (by first | rfl | (dsimp only; omega)) (by first | rfl | (dsimp only; omega)) rfl, rfl⟩
  have hb1 := hv.byte (i + 1) h2
  have hc1 := hc (i + 1) h2
  have hz1 : (i : Int) + 1 < (n : Int) := by omega
  by_cases h3 : f (i + 1) < 128
  case pos =>
    by_cases h4 : f (i + 1) = 0
    case pos =>
      rw [getU_2zero n f i h2 (by omega) h4]
      clear hc hv
      go_enter Try.func72, Try.ntmps72
      go_wp2
      refine wp_loop_rounds 2 ?_
      rw [rounds_succ]
      go_wp2
      all_goals
        rw [rounds_succ]
        go_wp2
      all_goals
        go_ret3
        exact ⟨ret3 (by first | rfl | (dsimp only; omega)) (by first | rfl | (dsimp only; omega)) rfl, rfl⟩
    case neg =>
      rw [getU_2 n f i h2 (by omega) h3 h4]
      clear hc hv
      go_enter Try.func72, Try.ntmps72
      go_wp2
      refine wp_loop_rounds 2 ?_
      rw [rounds_succ]
      go_wp2
      all_goals
        rw [rounds_succ]
        go_wp2
      all_goals
        go_ret3
        exact ⟨ret3 (by first | rfl | (dsimp only; omega)) (by first | rfl | (dsimp only; omega)) rfl, rfl⟩
  by_cases h5 : i + 2 < n
  case neg =>
    rw [getU_3end n f i h2 (by omega) (by omega) (by omega)]
    clear hc hv
    go_enter Try.func72, Try.ntmps72
    go_wp2
    refine wp_loop_rounds 3 ?_
    rw [rounds_succ]
    go_wp2
    all_goals
      rw [rounds_succ]
      go_wp2
    all_goals
      rw [rounds_succ]
      go_wp2
    all_goals
      go_ret3
      exact ⟨ret3 (by first | rfl | (dsimp only; omega)) (by first | rfl | (dsimp only; omega)) rfl, rfl⟩
  have hb2 := hv.byte (i + 2) h5
  have hc2 := hc (i + 2) h5
  have hz2 : (i : Int) + 2 < (n : Int) := by omega
  by_cases h6 : f (i + 2) < 128
  case neg =>
    rw [getU_long n f i h5 (by omega) (by omega) (by omega)]
    clear hc hv
    go_enter Try.func72, Try.ntmps72
    go_wp2
    refine wp_loop_rounds 4 ?_
    rw [rounds_succ]
    go_wp2
    all_goals
      rw [rounds_succ]
      go_wp2
    all_goals
      rw [rounds_succ]
      go_wp2
    all_goals
      rw [rounds_succ]
      go_wp2
    all_goals
      go_ret3
      exact ⟨ret3 (by first | rfl | (dsimp only; omega)) (by first | rfl | (dsimp only; omega)) rfl, rfl⟩
  by_cases h7 : f (i + 2) = 0 ∨ 1000000 < f i - 128 + (f (i + 1) - 128) * 128 + f (i + 2) * 16384
  case pos =>
    rw [getU_3no n f i h5 (by omega) (by omega) h6 h7]
    clear hc hv
    go_enter Try.func72, Try.ntmps72
    go_wp2
    refine wp_loop_rounds 3 ?_
    rw [rounds_succ]
    go_wp2
    all_goals
      rw [rounds_succ]
      go_wp2
    all_goals
      rw [rounds_succ]
      go_wp2
    all_goals
      go_ret3
      exact ⟨ret3 (by first | rfl | (dsimp only; omega)) (by first | rfl | (dsimp only; omega)) rfl, rfl⟩
  case neg =>
    rw [getU_3 n f i h5 (by omega) (by omega) h6 h7]
    clear hc hv
    go_enter Try.func72, Try.ntmps72
    go_wp2
    refine wp_loop_rounds 3 ?_
    rw [rounds_succ]
    go_wp2
    all_goals
      rw [rounds_succ]
      go_wp2
    all_goals
      rw [rounds_succ]
      go_wp2
    all_goals
      go_ret3
      exact ⟨ret3 (by first | rfl | (dsimp only; omega)) (by first | rfl | (dsimp only; omega)) rfl, rfl⟩
end Go.Proofs.Ytphipmhibegbnaa

/-
  The program's GetText: the bytes behind a number that says how many they are, as a text.
-/
namespace Go.Proofs.Ytphipmhibegbnaa
open Go.RowKit
set_option maxRecDepth 4000

theorem getU_impl' {a b : Int} {c : Bool} (ao : Option Addr) (n cap : Nat) (f : Nat → Int) (p : Int) (w : World) (hg : Hid (getU n f p = (a, b, c))) (hv : View w ao n cap f) (hn : n ≤ 281474976710656) (hp1 : p ≤ 9223372036854775807) :
    Calls Try.prog 72 #[.slice ao n cap, .int .i64 p] w fun e w' => e = .returned (.tuple #[.int .i64 a, .int .i64 b, .bool c]) ∧ w = w' := by
  refine (getU_impl ao n cap f p w hv hn hp1).mono ?_
  rintro e w' ⟨he, hw⟩
  rw [hg.out] at he
  exact ⟨he, hw.symm⟩

set_option maxHeartbeats 1000000 in
theorem getText_impl (b off n cap : Nat) (f : Nat → Int) (p : Int) (w : World) (s : ByteArray) (q : Int) (ok : Bool) (hg : Hid (getText n f p = (s, q, ok))) (hv : View w (some ⟨b, off, none⟩) n cap f) (hn : n ≤ 281474976710656) (hp1 : p ≤ 9223372036854775807) :
    Calls Try.prog 73 #[.slice (some ⟨b, off, none⟩) n cap, .int .i64 p] w fun e w' => e = .returned (.tuple #[.string s, .int .i64 q, .bool ok]) ∧ w = w' := by
  obtain ⟨a, r, c, hu⟩ : ∃ a r c, Hid (getU n f p = (a, r, c)) := ⟨_, _, _, rfl⟩
  have hbd : c = true → 0 ≤ a ∧ a ≤ 1000000 ∧ 0 ≤ r ∧ r ≤ n := by rintro rfl; exact getU_bd hv.byte hu.out
  have hT : getText n f p = if c = true ∧ a ≤ n - r then (strOfNums (lof a.toNat (fun i => f (r.toNat + i))), r + a, true) else (strOfNums [], 0, false) := by unfold getText; rw [hu.out]
  rw [hg.out] at hT
  cases c with
  | false =>
    rw [if_neg (by simp)] at hT
    cases hT
    clear hbd
    go_enter Try.func73, Try.ntmps73
    go_wp2_with fail
    refine (getU_impl' _ n cap f p w hu hv hn hp1).mono ?_
    rintro e _ ⟨rfl, rfl⟩
    go_wp2
    go_ret3
    exact ⟨rfl, rfl⟩
  | true =>
    obtain ⟨h0, h1, h2, h3⟩ := hbd rfl
    obtain ⟨a, rfl⟩ := Int.eq_ofNat_of_zero_le h0
    obtain ⟨r, rfl⟩ := Int.eq_ofNat_of_zero_le h2
    clear hbd
    by_cases hl : (a : Int) ≤ n - r
    · rw [if_pos ⟨rfl, hl⟩, Int.toNat_natCast, Int.toNat_natCast] at hT
      simp only [Prod.mk.injEq] at hT
      obtain ⟨rfl, rfl, rfl⟩ := hT
      have hle := hv.le
      have hcap : (r : Int) + a ≤ cap := by omega
      by_cases hrc : r < cap
      · have hrz : (r : Int) < cap := by omega
        have q1 : (convert 28 9 (.slice (some ⟨b, off + r, none⟩) a (cap - r))).run Try.prog w = .ok (.string (strOfNums (lof a (fun i => f (r + i))))) w := conv_view (hv.cut (by omega))
        go_enter Try.func73, Try.ntmps73
        go_wp2_with fail
        refine (getU_impl' _ n cap f p w hu hv hn hp1).mono ?_
        rintro e _ ⟨rfl, rfl⟩
        go_wp2
        go_ret3
        exact ⟨rfl, rfl⟩
      · obtain rfl : r = cap := by omega
        obtain rfl : a = 0 := by omega
        have hrz : ¬ (r : Int) < r := by omega
        have q2 : (convert 28 9 (.slice (some ⟨b, off, none⟩) 0 0)).run Try.prog w = .ok (.string (strOfNums (lof 0 f))) w := conv_view ⟨Nat.le_refl _, fun _ h => absurd h (Nat.not_lt_zero _), fun h => absurd h (Nat.lt_irrefl _)⟩
        go_enter Try.func73, Try.ntmps73
        go_wp2_with fail
        refine (getU_impl' _ n r f p w hu hv hn hp1).mono ?_
        rintro e _ ⟨rfl, rfl⟩
        go_wp2
        go_ret3
        exact ⟨retT rfl (by omega) rfl, rfl⟩
    · rw [if_neg (by simp [hl])] at hT
      cases hT
      have hl2 : (n : Int) - r < a := by omega
      go_enter Try.func73, Try.ntmps73
      go_wp2_with fail
      refine (getU_impl' _ n cap f p w hu hv hn hp1).mono ?_
      rintro e _ ⟨rfl, rfl⟩
      go_wp2
      go_ret3
      exact ⟨rfl, rfl⟩

end Go.Proofs.Ytphipmhibegbnaa

/-
  The model's GetU comes to the same plain function as the program, at every slice of bytes that reads and at every place.
-/
namespace Go.Proofs.Ytphipmhibegbnaa
open Go.RowKit
set_option maxRecDepth 4000

set_option maxHeartbeats 1000000 in
theorem getU_spec (ao : Option Addr) (n cap : Nat) (f : Nat → Int) (p : Int) (w : World) (hv : View w ao n cap f) (hn : n ≤ 281474976710656) (hp1 : p ≤ 9223372036854775807) :
    Calls Try.prog 69 #[.slice ao n cap, .int .i64 p] w fun e w' => e = getRet (getU n f p) ∧ w' = w := by
  by_cases hp : p < 0
  · rw [getU_neg n f p hp]
    go_enter Try.func69, Try.ntmps69
    go_wp2
    refine wp_loop_rounds 1 ?_
    rw [rounds_succ]
    go_wp2
    go_ret3
    exact ⟨rfl, rfl⟩
  obtain ⟨i, rfl⟩ := Int.eq_ofNat_of_zero_le (Int.not_lt.1 hp)
  by_cases h0 : i < n
  case neg =>
    rw [getU_past n f i (by omega)]
    have hge : (n : Int) ≤ (i : Int) := by omega
    go_enter Try.func69, Try.ntmps69
    go_wp2
    refine wp_loop_rounds 1 ?_
    rw [rounds_succ]
    go_wp2
    go_ret3
    exact ⟨rfl, rfl⟩
  obtain ⟨b, off, rfl, hb, hc⟩ := hv.cells (by omega)
  have hb0 := hv.byte i h0
  have hc0 := hc i h0
  have hz0 : (i : Int) < (n : Int) := by omega
  have hA : ∀ x : Int, bits .and .i64 x 127 = x % 128 := i64_and127
  have q0 : bits .or .i64 0 (f i % 128) = f i % 128 := by
    rw [i64_or_add 0 0 (f i % 128) (by omega) (by decide) (by omega) (by simp [Int.emod_one]) (by omega) (by decide)]; omega
  by_cases h1 : f i < 128
  · rw [getU_1 n f i h0 h1]
    clear hc hv
    go_enter Try.func69, Try.ntmps69
    go_wp2
    refine wp_loop_rounds 1 ?_
    rw [rounds_succ]
    go_wp2
    all_goals
      go_ret3
      exact ⟨ret3 (by first | rfl | (dsimp only; omega)) (by first | rfl | (dsimp only; omega)) rfl, rfl⟩
  by_cases h2 : i + 1 < n
  case neg =>
    rw [getU_2end n f i h0 (by omega) (by omega)]
    clear hc hv
    go_enter Try.func69, Try.ntmps69
    go_wp2
    refine wp_loop_rounds 2 ?_
    rw [rounds_succ]
    go_wp2
    all_goals
      rw [rounds_succ]
      go_wp2
    all_goals
      go_ret3
      exact ⟨ret3 (by first | rfl | (dsimp only; omega)) (by first | rfl | (dsimp only; omega)) rfl, rfl⟩
  have hb1 := hv.byte (i + 1) h2
  have hc1 := hc (i + 1) h2
  have hz1 : (i : Int) + 1 < (n : Int) := by omega
  have q1 : bits .or .i64 (f i % 128) (f (i + 1) % 128 * 128) = f i % 128 + f (i + 1) % 128 * 128 :=
    i64_or_add 7 _ _ (by omega) (by show _ < (128 : Int); omega) (by omega) (by show _ % (128 : Int) = 0; omega) (by omega) (by decide)
  by_cases h3 : f (i + 1) < 128
  case pos =>
    by_cases h4 : f (i + 1) = 0
    case pos =>
      rw [getU_2zero n f i h2 (by omega) h4]
      clear hc hv
      go_enter Try.func69, Try.ntmps69
      go_wp2
      refine wp_loop_rounds 2 ?_
      rw [rounds_succ]
      go_wp2
      all_goals
        rw [rounds_succ]
        go_wp2
      all_goals
        go_ret3
        exact ⟨ret3 (by first | rfl | (dsimp only; omega)) (by first | rfl | (dsimp only; omega)) rfl, rfl⟩
    case neg =>
      rw [getU_2 n f i h2 (by omega) h3 h4]
      clear hc hv
      have hq1 : (f (i + 1) == 0) = false := beq_eq_false_iff_ne.2 h4
      go_enter Try.func69, Try.ntmps69
      go_wp2
      refine wp_loop_rounds 2 ?_
      rw [rounds_succ]
      go_wp2
      all_goals
        rw [rounds_succ]
        go_wp2
      all_goals
        go_ret3
        exact ⟨ret3 (by first | rfl | (dsimp only; omega)) (by first | rfl | (dsimp only; omega)) rfl, rfl⟩
  by_cases h5 : i + 2 < n
  case neg =>
    rw [getU_3end n f i h2 (by omega) (by omega) (by omega)]
    clear hc hv
    go_enter Try.func69, Try.ntmps69
    go_wp2
    refine wp_loop_rounds 3 ?_
    rw [rounds_succ]
    go_wp2
    all_goals
      rw [rounds_succ]
      go_wp2
    all_goals
      rw [rounds_succ]
      go_wp2
    all_goals
      go_ret3
      exact ⟨ret3 (by first | rfl | (dsimp only; omega)) (by first | rfl | (dsimp only; omega)) rfl, rfl⟩
  have hb2 := hv.byte (i + 2) h5
  have hc2 := hc (i + 2) h5
  have hz2 : (i : Int) + 2 < (n : Int) := by omega
  have q2 : bits .or .i64 (f i % 128 + f (i + 1) % 128 * 128) (f (i + 2) % 128 * 16384) = f i % 128 + f (i + 1) % 128 * 128 + f (i + 2) % 128 * 16384 :=
    i64_or_add 14 _ _ (by omega) (by show _ < (16384 : Int); omega) (by omega) (by show _ % (16384 : Int) = 0; omega) (by omega) (by decide)
  by_cases h6 : f (i + 2) < 128
  case neg =>
    rw [getU_long n f i h5 (by omega) (by omega) (by omega)]
    clear hc hv
    go_enter Try.func69, Try.ntmps69
    go_wp2
    refine wp_loop_rounds 4 ?_
    rw [rounds_succ]
    go_wp2
    all_goals
      rw [rounds_succ]
      go_wp2
    all_goals
      rw [rounds_succ]
      go_wp2
    all_goals
      rw [rounds_succ]
      go_wp2
    all_goals
      go_ret3
      exact ⟨ret3 (by first | rfl | (dsimp only; omega)) (by first | rfl | (dsimp only; omega)) rfl, rfl⟩
  by_cases h7 : f (i + 2) = 0 ∨ 1000000 < f i - 128 + (f (i + 1) - 128) * 128 + f (i + 2) * 16384
  case pos =>
    rw [getU_3no n f i h5 (by omega) (by omega) h6 h7]
    clear hc hv
    go_enter Try.func69, Try.ntmps69
    go_wp2
    refine wp_loop_rounds 3 ?_
    rw [rounds_succ]
    go_wp2
    all_goals
      rw [rounds_succ]
      go_wp2
    all_goals
      rw [rounds_succ]
      go_wp2
    all_goals
      go_ret3
      exact ⟨ret3 (by first | rfl | (dsimp only; omega)) (by first | rfl | (dsimp only; omega)) rfl, rfl⟩
  case neg =>
    rw [getU_3 n f i h5 (by omega) (by omega) h6 h7]
    clear hc hv
    have hq2 : (f (i + 2) == 0) = false := beq_eq_false_iff_ne.2 (fun e => h7 (Or.inl e))
    go_enter Try.func69, Try.ntmps69
    go_wp2
    refine wp_loop_rounds 3 ?_
    rw [rounds_succ]
    go_wp2
    all_goals
      rw [rounds_succ]
      go_wp2
    all_goals
      rw [rounds_succ]
      go_wp2
    all_goals
      go_ret3
      exact ⟨ret3 (by first | rfl | (dsimp only; omega)) (by first | rfl | (dsimp only; omega)) rfl, rfl⟩
end Go.Proofs.Ytphipmhibegbnaa

/-
  The model's GetText: the bytes behind a number that says how many they are, as a text.
-/
namespace Go.Proofs.Ytphipmhibegbnaa
open Go.RowKit
set_option maxRecDepth 4000

theorem getU_spec' {a b : Int} {c : Bool} (ao : Option Addr) (n cap : Nat) (f : Nat → Int) (p : Int) (w : World) (hg : Hid (getU n f p = (a, b, c))) (hv : View w ao n cap f) (hn : n ≤ 281474976710656) (hp1 : p ≤ 9223372036854775807) :
    Calls Try.prog 69 #[.slice ao n cap, .int .i64 p] w fun e w' => e = .returned (.tuple #[.int .i64 a, .int .i64 b, .bool c]) ∧ w = w' := by
  refine (getU_spec ao n cap f p w hv hn hp1).mono ?_
  rintro e w' ⟨he, hw⟩
  rw [hg.out] at he
  exact ⟨he, hw.symm⟩
set_option maxHeartbeats 1000000 in
theorem getText_spec (b off n cap : Nat) (f : Nat → Int) (p : Int) (w : World) (s : ByteArray) (q : Int) (ok : Bool) (hg : Hid (getText n f p = (s, q, ok))) (hv : View w (some ⟨b, off, none⟩) n cap f) (hn : n ≤ 281474976710656) (hp1 : p ≤ 9223372036854775807) :
    Calls Try.prog 70 #[.slice (some ⟨b, off, none⟩) n cap, .int .i64 p] w fun e w' => e = .returned (.tuple #[.string s, .int .i64 q, .bool ok]) ∧ w = w' := by
  obtain ⟨a, r, c, hu⟩ : ∃ a r c, Hid (getU n f p = (a, r, c)) := ⟨_, _, _, rfl⟩
  have hbd : c = true → 0 ≤ a ∧ a ≤ 1000000 ∧ 0 ≤ r ∧ r ≤ n := by rintro rfl; exact getU_bd hv.byte hu.out
  have hT : getText n f p = if c = true ∧ a ≤ n - r then (strOfNums (lof a.toNat (fun i => f (r.toNat + i))), r + a, true) else (strOfNums [], 0, false) := by unfold getText; rw [hu.out]
  rw [hg.out] at hT
  cases c with
  | false =>
    rw [if_neg (by simp)] at hT
    cases hT
    clear hbd
    go_enter Try.func70, Try.ntmps70
    go_wp2_with fail
    refine (getU_spec' _ n cap f p w hu hv hn hp1).mono ?_
    rintro e _ ⟨rfl, rfl⟩
    go_wp2
    go_ret3
    exact ⟨rfl, rfl⟩
  | true =>
    obtain ⟨h0, h1, h2, h3⟩ := hbd rfl
    obtain ⟨a, rfl⟩ := Int.eq_ofNat_of_zero_le h0
    obtain ⟨r, rfl⟩ := Int.eq_ofNat_of_zero_le h2
    clear hbd
    by_cases hl : (a : Int) ≤ n - r
    · rw [if_pos ⟨rfl, hl⟩, Int.toNat_natCast, Int.toNat_natCast] at hT
      simp only [Prod.mk.injEq] at hT
      obtain ⟨rfl, rfl, rfl⟩ := hT
      have hle := hv.le
      have hcap : (r : Int) + a ≤ cap := by omega
      by_cases hrc : r < cap
      · have hrz : (r : Int) < cap := by omega
        have q1 : (convert 28 9 (.slice (some ⟨b, off + r, none⟩) a (cap - r))).run Try.prog w = .ok (.string (strOfNums (lof a (fun i => f (r + i))))) w := conv_view (hv.cut (by omega))
        go_enter Try.func70, Try.ntmps70
        go_wp2_with fail
        refine (getU_spec' _ n cap f p w hu hv hn hp1).mono ?_
        rintro e _ ⟨rfl, rfl⟩
        go_wp2
        go_ret3
        exact ⟨rfl, rfl⟩
      · obtain rfl : r = cap := by omega
        obtain rfl : a = 0 := by omega
        have hrz : ¬ (r : Int) < r := by omega
        have q2 : (convert 28 9 (.slice (some ⟨b, off, none⟩) 0 0)).run Try.prog w = .ok (.string (strOfNums (lof 0 f))) w := conv_view ⟨Nat.le_refl _, fun _ h => absurd h (Nat.not_lt_zero _), fun h => absurd h (Nat.lt_irrefl _)⟩
        go_enter Try.func70, Try.ntmps70
        go_wp2_with fail
        refine (getU_spec' _ n r f p w hu hv hn hp1).mono ?_
        rintro e _ ⟨rfl, rfl⟩
        go_wp2
        go_ret3
        exact ⟨retT rfl (by omega) rfl, rfl⟩
    · rw [if_neg (by simp [hl])] at hT
      cases hT
      have hl2 : (n : Int) - r < a := by omega
      go_enter Try.func70, Try.ntmps70
      go_wp2_with fail
      refine (getU_spec' _ n cap f p w hu hv hn hp1).mono ?_
      rintro e _ ⟨rfl, rfl⟩
      go_wp2
      go_ret3
      exact ⟨rfl, rfl⟩
end Go.Proofs.Ytphipmhibegbnaa

