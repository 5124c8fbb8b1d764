/-
  math/bits.Len, as far as the program leans on it: of how many bits a number is follows how many bytes it has.
-/
import Derived.Test.YtbcgonfihdpjnaqShelf
import Derived.Test.YtbcgonfihdpjnaqInfo
import Derived.Test.YtbcgonfihdpjnaqNumPlain
namespace Go.Proofs.Ytbcgonfihdpjnaq
open Go.RowKit
set_option maxRecDepth 4000

theorem bitLen_byte (x : Nat) (h0 : 0 < x) (h1 : x < 256) : 1 ≤ Lib.bitLen x ∧ Lib.bitLen x ≤ 8 := by
  refine ⟨?_, Lib.bitLen_le8 ⟨x, h1⟩⟩
  rw [Lib.bitLen_half x (by omega) (by omega)]
  omega
theorem cnt_bits (x : Nat) (h : x < 72057594037927936) : (Lib.bitLen x + 7) / 8 = cnt (x : Int) ∧ Lib.bitLen x ≤ 56 := by
  unfold cnt
  by_cases h0 : x = 0
  · subst h0; exact ⟨rfl, by decide⟩
  rw [if_neg (by omega)]
  by_cases h1 : x < 256
  · rw [if_pos (by omega)]
    have := bitLen_byte x (by omega) h1
    omega
  rw [if_neg (by omega)]
  by_cases h2 : x < 65536
  · rw [if_pos (by omega), Lib.bitLen_shift8 x (by omega) (by omega)]
    have := bitLen_byte (x / 256) (by omega) (by omega)
    omega
  rw [if_neg (by omega)]
  by_cases h3 : x < 16777216
  · rw [if_pos (by omega), Lib.bitLen_shift16 x (by omega) (by omega)]
    have := bitLen_byte (x / 65536) (by omega) (by omega)
    omega
  rw [if_neg (by omega)]
  by_cases h4 : x < 4294967296
  · rw [if_pos (by omega), Lib.bitLen_shift24 x (by omega) (by omega)]
    have := bitLen_byte (x / 16777216) (by omega) (by omega)
    omega
  rw [if_neg (by omega)]
  by_cases h5 : x < 1099511627776
  · rw [if_pos (by omega), Lib.bitLen_shift32 x (by omega) (by omega)]
    have := bitLen_byte (x / 4294967296) (by omega) (by omega)
    omega
  rw [if_neg (by omega)]
  by_cases h6 : x < 281474976710656
  · rw [if_pos (by omega), Lib.bitLen_shift40 x (by omega) (by omega)]
    have := bitLen_byte (x / 1099511627776) (by omega) (by omega)
    omega
  rw [if_neg (by omega)]
  rw [Lib.bitLen_shift48 x (by omega) (by omega)]
  have := bitLen_byte (x / 281474976710656) (by omega) (by omega)
  omega

theorem bitsLen_any (x : Int) (w : World) (h0 : 0 ≤ x) (h1 : x < 72057594037927936) :
    Calls Try.prog 72 #[.int .u64 x] w fun e w' => ∃ L : Nat, e = .returned (.int .i64 (L : Int)) ∧ L ≤ 56 ∧ Hid ((L + 7) / 8 = cnt x) ∧ w = w' := by
  refine (Try.bits_Len x w h0 (by omega)).mono ?_
  rintro e w' ⟨rfl, rfl⟩
  have h := cnt_bits x.toNat (by omega)
  rw [Int.toNat_of_nonneg h0] at h
  exact ⟨_, rfl, h.2, h.1, rfl⟩
end Go.Proofs.Ytbcgonfihdpjnaq
