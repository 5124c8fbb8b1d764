/-
  The program's GetText: the bytes behind a number that says how many they are, as a text.
-/
import Derived.Test.YtjkoipdcpkkkeanGetWalks
import Derived.Test.YtjkoipdcpkkkeanGetTextPlain
namespace Go.Proofs.Ytjkoipdcpkkkean
open Go.RowKit

theorem getU_impl' {a b : Int} {c : Bool} (ao : Option Addr) (n cap : Nat) (f : Nat → Int) (p : Int) (w : World) (hg : Hid (getU n f p = (a, b, c))) (hv : View w ao n cap f) (hn : n ≤ 281474976710656) (hp1 : p ≤ 9223372036854775807) :
    Calls Try.prog 26 #[.slice ao n cap, .int .i64 p] w fun e w' => e = .returned (.tuple #[.int .i64 a, .int .i64 b, .bool c]) ∧ w = w' := by
  refine (getU_impl ao n cap f p w hv hn hp1).mono ?_
  rintro e w' ⟨he, hw⟩
  rw [hg.out] at he
  exact ⟨he, hw.symm⟩

set_option maxHeartbeats 1000000 in
theorem getText_impl (b off n cap : Nat) (f : Nat → Int) (p : Int) (w : World) (s : ByteArray) (q : Int) (ok : Bool) (hg : Hid (getText n f p = (s, q, ok))) (hv : View w (some ⟨b, off, none⟩) n cap f) (hn : n ≤ 281474976710656) (hp1 : p ≤ 9223372036854775807) :
    Calls Try.prog 15 #[.slice (some ⟨b, off, none⟩) n cap, .int .i64 p] w fun e w' => e = .returned (.tuple #[.string s, .int .i64 q, .bool ok]) ∧ w = w' := by
  obtain ⟨a, r, c, hu⟩ : ∃ a r c, Hid (getU n f p = (a, r, c)) := ⟨_, _, _, rfl⟩
  have hbd : c = true → 0 ≤ a ∧ a ≤ 1000000 ∧ 0 ≤ r ∧ r ≤ n := by rintro rfl; exact getU_bd hv.byte hu.out
  have hT : getText n f p = if c = true ∧ a ≤ n - r then (strOfNums (lof a.toNat (fun i => f (r.toNat + i))), r + a, true) else (strOfNums [], 0, false) := by unfold getText; rw [hu.out]
  rw [hg.out] at hT
  cases c with
  | false =>
    rw [if_neg (by simp)] at hT
    cases hT
    clear hbd
    go_enter Try.func15, Try.ntmps15
    go_wp2_with fail
    refine (getU_impl' _ n cap f p w hu hv hn hp1).mono ?_
    rintro e _ ⟨rfl, rfl⟩
    go_wp2
    go_ret3
    exact ⟨rfl, rfl⟩
  | true =>
    obtain ⟨h0, h1, h2, h3⟩ := hbd rfl
    obtain ⟨a, rfl⟩ := Int.eq_ofNat_of_zero_le h0
    obtain ⟨r, rfl⟩ := Int.eq_ofNat_of_zero_le h2
    clear hbd
    by_cases hl : (a : Int) ≤ n - r
    · rw [if_pos ⟨rfl, hl⟩, Int.toNat_natCast, Int.toNat_natCast] at hT
      simp only [Prod.mk.injEq] at hT
      obtain ⟨rfl, rfl, rfl⟩ := hT
      have hle := hv.le
      have hcap : (r : Int) + a ≤ cap := by omega
      by_cases hrc : r < cap
      · have hrz : (r : Int) < cap := by omega
        have q1 : (convert 22 9 (.slice (some ⟨b, off + r, none⟩) a (cap - r))).run Try.prog w = .ok (.string (strOfNums (lof a (fun i => f (r + i))))) w := conv_view (hv.cut (by omega))
        go_enter Try.func15, Try.ntmps15
        go_wp2_with fail
        refine (getU_impl' _ n cap f p w hu hv hn hp1).mono ?_
        rintro e _ ⟨rfl, rfl⟩
        go_wp2
        go_ret3
        exact ⟨rfl, rfl⟩
      · obtain rfl : r = cap := by omega
        obtain rfl : a = 0 := by omega
        have hrz : ¬ (r : Int) < r := by omega
        have q2 : (convert 22 9 (.slice (some ⟨b, off, none⟩) 0 0)).run Try.prog w = .ok (.string (strOfNums (lof 0 f))) w := conv_view ⟨Nat.le_refl _, fun _ h => absurd h (Nat.not_lt_zero _), fun h => absurd h (Nat.lt_irrefl _)⟩
        go_enter Try.func15, Try.ntmps15
        go_wp2_with fail
        refine (getU_impl' _ n r f p w hu hv hn hp1).mono ?_
        rintro e _ ⟨rfl, rfl⟩
        go_wp2
        go_ret3
        exact ⟨retT rfl (by omega) rfl, rfl⟩
    · rw [if_neg (by simp [hl])] at hT
      cases hT
      have hl2 : (n : Int) - r < a := by omega
      go_enter Try.func15, Try.ntmps15
      go_wp2_with fail
      refine (getU_impl' _ n cap f p w hu hv hn hp1).mono ?_
      rintro e _ ⟨rfl, rfl⟩
      go_wp2
      go_ret3
      exact ⟨rfl, rfl⟩

end Go.Proofs.Ytjkoipdcpkkkean
