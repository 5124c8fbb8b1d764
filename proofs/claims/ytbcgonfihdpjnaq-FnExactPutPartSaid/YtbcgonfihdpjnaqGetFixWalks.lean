/-
  GetFix, the program's and the model's: four bytes as a number, at every slice of bytes that reads and at every place.
-/
import Derived.Test.YtbcgonfihdpjnaqNumRead
import Derived.Test.YtbcgonfihdpjnaqParts
namespace Go.Proofs.Ytbcgonfihdpjnaq
open Go.RowKit
set_option maxRecDepth 4000

def getF (n : Nat) (f : Nat → Int) (p : Int) : Int × Int × Bool := if p < 0 ∨ (n : Int) - p < 4 then (0, 0, false) else (valF 4 (fun i => f (p.toNat + i)) - 2147483648, p + 4, true)
theorem getF_no (n : Nat) (f : Nat → Int) (p : Int) (h : p < 0 ∨ (n : Int) - p < 4) : getF n f p = (0, 0, false) := by unfold getF; rw [if_pos h]
theorem getF_is (n : Nat) (f : Nat → Int) (p : Nat) (h : p + 4 ≤ n) : getF n f (p : Int) = (valF 4 (fun i => f (p + i)) - 2147483648, (p : Int) + 4, true) := by
  unfold getF; rw [if_neg (by omega), Int.toNat_natCast]
theorem valF4_bd (f : Nat → Int) (h : ∀ i, i < 4 → 0 ≤ f i ∧ f i ≤ 255) : 0 ≤ valF 4 f ∧ valF 4 f ≤ 4294967295 := by
  have h1 := valF_bd 4 f h
  have e : (256 : Int) ^ 4 = 4294967296 := by decide
  omega

set_option maxHeartbeats 1000000 in
theorem getFix_impl {a q : Int} {ok : Bool} (b off n cap : Nat) (f : Nat → Int) (p : Int) (w : World) (hg : Hid (getF n f p = (a, q, ok))) (hv : View w (some ⟨b, off, none⟩) n cap f) (hn : n ≤ 281474976710656) (hp1 : p ≤ 9223372036854775807) :
    Calls Try.prog 63 #[.slice (some ⟨b, off, none⟩) n cap, .int .i64 p] w fun e w' => e = .returned (.tuple #[.int .i64 a, .int .i64 q, .bool ok]) ∧ w = w' := by
  by_cases hp : p < 0
  · have e := hg.out
    rw [getF_no n f p (Or.inl hp)] at e
    obtain ⟨rfl, rfl, rfl⟩ : 0 = a ∧ 0 = q ∧ false = ok := by simpa using e
    clear hg e
    go_enter Try.func63, Try.ntmps63
    go_wp2
    go_ret3
    exact ⟨rfl, rfl⟩
  by_cases h4 : (n : Int) - p < 4
  · have e := hg.out
    rw [getF_no n f p (Or.inr h4)] at e
    obtain ⟨rfl, rfl, rfl⟩ : 0 = a ∧ 0 = q ∧ false = ok := by simpa using e
    clear hg e
    go_enter Try.func63, Try.ntmps63
    go_wp2
    go_ret3
    exact ⟨rfl, rfl⟩
  obtain ⟨i, rfl⟩ := Int.eq_ofNat_of_zero_le (Int.not_lt.1 hp)
  have e := hg.out
  rw [getF_is n f i (by omega)] at e
  simp only [Prod.mk.injEq] at e
  obtain ⟨ea, rfl, rfl⟩ := e
  have hle := hv.le
  have hV := hv.part (k := i) (m := 4) (by omega) 4 (by omega)
  have hbd := valF4_bd (fun j => f (i + j)) hV.byte
  have hz1 : (i : Int) + 4 ≤ (n : Int) := by omega
  have hz2 : (i : Int) + 4 ≤ (cap : Int) := by omega
  clear hg hv
  go_enter Try.func63, Try.ntmps63
  go_wp2_with fail
  refine (numberOf_any _ 4 4 _ w hV (by omega)).mono ?_
  rintro e _ ⟨rfl, rfl⟩
  clear hV
  generalize valF 4 (fun j => f (i + j)) = x at *
  subst ea
  go_wp2
  go_ret3
  exact ⟨rfl, rfl⟩

set_option maxHeartbeats 1000000 in
theorem getFix_spec {a q : Int} {ok : Bool} (b off n cap : Nat) (f : Nat → Int) (p : Int) (w : World) (hg : Hid (getF n f p = (a, q, ok))) (hv : View w (some ⟨b, off, none⟩) n cap f) (hn : n ≤ 281474976710656) (hp1 : p ≤ 9223372036854775807) :
    Calls Try.prog 56 #[.slice (some ⟨b, off, none⟩) n cap, .int .i64 p] w fun e w' => e = .returned (.tuple #[.int .i64 a, .int .i64 q, .bool ok]) ∧ w = w' := by
  by_cases h4 : p < 0 ∨ (n : Int) - p < 4
  · have e := hg.out
    rw [getF_no n f p h4] at e
    obtain ⟨rfl, rfl, rfl⟩ : 0 = a ∧ 0 = q ∧ false = ok := by simpa using e
    clear hg e
    go_enter Try.func56, Try.ntmps56
    go_wp2_with fail
    refine (l4Read_no _ n cap p 4 false w hp1 (by omega) (by omega) h4).mono ?_
    rintro e _ ⟨rfl, rfl⟩
    go_wp2
    go_ret3
    exact ⟨rfl, rfl⟩
  obtain ⟨i, rfl⟩ := Int.eq_ofNat_of_zero_le (a := p) (by omega)
  have e := hg.out
  rw [getF_is n f i (by omega)] at e
  simp only [Prod.mk.injEq] at e
  obtain ⟨ea, rfl, rfl⟩ := e
  have hbd := valF4_bd (turnF false (fun j => f (i + j))) (turnF_bd false (fun j hj => hv.byte (i + j) (by omega)))
  have hz1 : (i : Int) + 4 ≤ (n : Int) := by omega
  have ht : valF 4 (turnF false (fun j => f (i + j))) = valF 4 (fun j => f (i + j)) := rfl
  clear hg h4
  go_enter Try.func56, Try.ntmps56
  go_wp2_with fail
  refine (l4Read_any _ n cap f i 4 false w hv hn (by omega) (by omega)).mono ?_
  rintro e _ ⟨rfl, rfl⟩
  rw [ht] at hbd ⊢
  clear hv ht
  generalize valF 4 (fun j => f (i + j)) = x at *
  subst ea
  go_wp2
  go_ret3
  exact ⟨rfl, rfl⟩
end Go.Proofs.Ytbcgonfihdpjnaq
