/-
  What the law's own helper at comes to: a byte of the code, or a number in its stead.
-/
import Derived.Test.YtfgigbgfkkmaiabInfo
namespace Go.Proofs.Ytfgigbgfkkmaiab
open Go.RowKit

/-- The code's byte at a small place, or a number in its stead. -/
def atN (n : Nat) (f : Nat → Int) (i : Nat) : Nat := if i < n then (f i).toNat else (i * 31 + n * 7) % 256
theorem atN_le (n : Nat) (f : Nat → Int) (i : Nat) (hf : ∀ i, i < n → 0 ≤ f i ∧ f i ≤ 255) : atN n f i ≤ 255 := by
  unfold atN
  split
  · have := hf i (by assumption); omega
  · omega
theorem at_val (ao : Option Addr) (n cap : Nat) (f : Nat → Int) (i : Nat) (z : Int) (x : Nat) (w : World) (hx : Hid (atN n f i = x)) (hv : View w ao n cap f) (hn : n ≤ 1048576) (hi : i ≤ 64) (hz : z = (i : Int)) :
    Calls Try.prog 26 #[.slice ao n cap, .int .i64 z] w fun e w' => e = .returned (.int .i64 (x : Int)) ∧ w = w' := by
  subst hz
  by_cases hlt : i < n
  · have hx' : (f i).toNat = x := by have := hx.out; unfold atN at this; rw [if_pos hlt] at this; exact this
    clear hx
    obtain ⟨b, off, rfl, hb, hc⟩ := hv.cells (by omega)
    have hz : (i : Int) < (n : Int) := by omega
    have hc1 := hc i hlt
    have hbi := hv.byte i hlt
    rw [show f i = (x : Int) by omega] at hc1
    have hxb : x ≤ 255 := by omega
    clear hc hx' hbi
    go_enter Try.func26, Try.ntmps26
    go_wp2
    go_ret
    exact ⟨rfl, rfl⟩
  · have hx' : (i * 31 + n * 7) % 256 = x := by have := hx.out; unfold atN at this; rw [if_neg hlt] at this; exact this
    have HX : Hid ((i * 31 + n * 7) % 256 = x) := hx'
    clear hx hx'
    have hz : (n : Int) ≤ (i : Int) := by omega
    go_enter Try.func26, Try.ntmps26
    go_wp2
    go_ret
    have hE : ((i : Int) * 31 + (n : Int) * 7) % 256 = (x : Int) := by have := HX.out; omega
    rw [hE]
    exact ⟨rfl, rfl⟩
end Go.Proofs.Ytfgigbgfkkmaiab
