/-
  The program's Crc and the model's come to the same plain sum, at every slice of bytes that reads.
-/
import Derived.Test.YtjkoipdcpkkkeanSlices
import Derived.Test.YtjkoipdcpkkkeanCrcPlain
namespace Go.Proofs.Ytjkoipdcpkkkean
open Go.RowKit

theorem u32_one (y : Nat) (h : y < 4294967296) : bits .and .u32 (y : Int) 1 = ((y % 2 : Nat) : Int) := by
  have := u32_and_nat y 1 h (by decide)
  rw [nat_mask1] at this; exact this
theorem u32_turn (y : Nat) (h : y < 4294967296) : bits .xor .u32 ((y : Int) / 2) 2197175160 = ((y / 2 ^^^ 2197175160 : Nat) : Int) := by
  have := u32_xor_nat (y / 2) 2197175160 (by omega) (by decide)
  rw [← this]; rfl
theorem i64_turn (y : Nat) (h : y < 4294967296) : bits .xor .i64 ((y : Int) / 2) 2197175160 = ((y / 2 ^^^ 2197175160 : Nat) : Int) := by
  have := i64_xor_nat (y / 2) 2197175160 (by omega) (by decide)
  rw [← this]; rfl
theorem i64_last (y : Nat) (h : y < 4294967296) : bits .xor .i64 (y : Int) 4294967295 = ((y ^^^ 4294967295 : Nat) : Int) := i64_xor_nat y 4294967295 (by omega) (by decide)
theorem u32_last (y : Nat) (h : y < 4294967296) : bits .xor .u32 IntKind.u32.max (y : Int) = ((y ^^^ 4294967295 : Nat) : Int) := by
  have e : IntKind.u32.max = ((4294967295 : Nat) : Int) := by simp [IntKind.max, IntKind.signed, IntKind.bits]
  rw [Nat.xor_comm, e]; exact u32_xor_nat 4294967295 y (by decide) h
theorem i64_in (y : Nat) (b : Int) (h : y < 4294967296) (h0 : 0 ≤ b ∧ b ≤ 255) : bits .xor .i64 (y : Int) b = ((y ^^^ b.toNat : Nat) : Int) := by
  obtain ⟨c, rfl⟩ := Int.eq_ofNat_of_zero_le h0.1
  rw [Int.toNat_natCast]; exact i64_xor_nat y c (by omega) (by omega)
theorem u32_in (y : Nat) (b : Int) (h : y < 4294967296) (h0 : 0 ≤ b ∧ b ≤ 255) : bits .xor .u32 (y : Int) b = ((y ^^^ b.toNat : Nat) : Int) := by
  obtain ⟨c, rfl⟩ := Int.eq_ofNat_of_zero_le h0.1
  rw [Int.toNat_natCast]; exact u32_xor_nat y c (by omega) (by omega)
theorem crcBit_odd (y : Nat) (h : y % 2 = 1) : crcBit y = y / 2 ^^^ 2197175160 := by unfold crcBit; rw [if_pos h]
theorem crcBit_even (y : Nat) (h : ¬ y % 2 = 1) : crcBit y = y / 2 := by unfold crcBit; rw [if_neg h]

theorem retInt {k : IntKind} {a b : Int} (h : a = b) : Ending.returned (.int k a) = .returned (.int k b) := by rw [h]

set_option maxHeartbeats 1000000 in
theorem crcStep_any (x : Nat) (w : World) (hx : x < 4294967296) :
    Calls Try.prog 27 #[.int .u32 (x : Int)] w fun e w' => e = .returned (.int .u32 ((crcBits 8 x : Nat) : Int)) ∧ w = w' := by
  go_enter Try.func27, Try.ntmps27
  go_wp2
  go_loopg [0, 4] 8 (fun g s i wr => w = wr ∧ ∃ k y : Nat, k ≤ 8 ∧ g = 8 - k ∧ s = .int .u32 (y : Int) ∧ i = .int .i64 k ∧ y < 4294967296 ∧ y = crcBits k x)
  case atStart => exact ⟨rfl, 0, x, by omega, rfl, rfl, rfl, hx, rfl⟩
  case round =>
    obtain ⟨rfl, k, y, hk, rfl, rfl, rfl, hy, hyk⟩ := hrel
    have HY : Hid (y = crcBits k x) := hyk
    clear hyk
    by_cases hlt : k < 8
    · have hkz : (k : Int) < 8 := by omega
      by_cases hodd : y % 2 = 1
      · have q1 : bits .and .u32 (y : Int) 1 = 1 := by rw [u32_one y hy, hodd]; rfl
        have q2 := u32_turn y hy
        have HO : Hid (y % 2 = 1) := hodd
        clear hodd
        go_wp2
        go_roundg (8 - (k + 1))
        case measure => omega
        case rel => exact ⟨rfl, k + 1, y / 2 ^^^ 2197175160, by omega, rfl, rfl, by go_num, Nat.xor_lt_two_pow (n := 32) (by omega) (by decide), by rw [← crcBit_odd y HO.out, HY.out]; rfl⟩
      · have q1 : bits .and .u32 (y : Int) 1 = 0 := by rw [u32_one y hy, show y % 2 = 0 by omega]; rfl
        have HO : Hid (¬ y % 2 = 1) := hodd
        clear hodd
        go_wp2
        go_roundg (8 - (k + 1))
        case measure => omega
        case rel => exact ⟨rfl, k + 1, y / 2, by omega, rfl, by go_num, by go_num, by omega, by rw [← crcBit_even y HO.out, HY.out]; rfl⟩
    · obtain rfl : k = 8 := by omega
      go_wp2
      go_ret
      exact ⟨retInt (congrArg Int.ofNat HY.out), rfl⟩

set_option maxHeartbeats 1000000 in
theorem crc_impl (ao : Option Addr) (n cap : Nat) (f : Nat → Int) (w : World) (hv : View w ao n cap f) (hn : n ≤ 281474976710656) :
    Calls Try.prog 17 #[.slice ao n cap] w fun e w' => e = .returned (.int .i64 ((crc n f : Nat) : Int)) ∧ w = w' := by
  go_enter Try.func17, Try.ntmps17
  go_wp2
  go_loopg [3, 8] n (fun g s i wr => w = wr ∧ ∃ k y : Nat, k ≤ n ∧ g = n - k ∧ s = .int .u32 (y : Int) ∧ i = .int .i64 k ∧ y < 4294967296 ∧ y = crcTo f k)
  case atStart => exact ⟨rfl, 0, 4294967295, by omega, rfl, rfl, rfl, by decide, rfl⟩
  case round =>
    obtain ⟨rfl, k, y, hk, rfl, rfl, rfl, hy, hyk⟩ := hrel
    have HY : Hid (y = crcTo f k) := hyk
    clear hyk
    by_cases hlt : k < n
    · obtain ⟨b, off, rfl, hb, hc⟩ := hv.cells (by omega)
      have hkz : (k : Int) < (n : Int) := by omega
      have hc1 := hc k hlt
      have hbk := hv.byte k hlt
      have q1 := u32_in y (f k) hy hbk
      have hlt2 := xorByte_lt hy hbk
      obtain ⟨hbk0, hbk1⟩ := hbk
      clear hc
      go_wp2_with fail
      refine (crcStep_any _ _ hlt2).mono ?_
      rintro e _ ⟨rfl, rfl⟩
      go_wp2
      go_roundg (n - (k + 1))
      case measure => omega
      case rel => exact ⟨rfl, k + 1, crcBits 8 (y ^^^ (f k).toNat), by omega, rfl, rfl, by go_num, crcBits_lt hlt2, by rw [HY.out]; rfl⟩
    · obtain rfl : k = n := by omega
      have q1 := u32_last y hy
      have q2 : y ^^^ 4294967295 < 4294967296 := Nat.xor_lt_two_pow (n := 32) hy (by decide)
      have q3 : wrap64 ((y ^^^ 4294967295 : Nat) : Int) = ((y ^^^ 4294967295 : Nat) : Int) := by
        generalize y ^^^ 4294967295 = z at q2
        exact IntWalk.wrap64_in _ ⟨by omega, by omega⟩
      go_wp2
      go_ret
      exact ⟨retInt (congrArg (fun z : Nat => ((z ^^^ 4294967295 : Nat) : Int)) HY.out), rfl⟩

set_option maxHeartbeats 1000000 in
theorem crc_spec (ao : Option Addr) (n cap : Nat) (f : Nat → Int) (w : World) (hv : View w ao n cap f) (hn : n ≤ 281474976710656) :
    Calls Try.prog 16 #[.slice ao n cap] w fun e w' => e = .returned (.int .i64 ((crc n f : Nat) : Int)) ∧ w = w' := by
  go_enter Try.func16, Try.ntmps16
  go_wp2
  go_loopg [3, 4] n (fun g s i wr => w = wr ∧ ∃ k y : Nat, k ≤ n ∧ g = n - k ∧ s = .int .i64 (y : Int) ∧ i = .int .i64 k ∧ y < 4294967296 ∧ y = crcTo f k)
  case atStart => exact ⟨rfl, 0, 4294967295, by omega, rfl, rfl, rfl, by decide, rfl⟩
  case round =>
    obtain ⟨rfl, k, y, hk, rfl, rfl, rfl, hy, hyk⟩ := hrel
    have HY : Hid (y = crcTo f k) := hyk
    clear hyk
    by_cases hlt : k < n
    · obtain ⟨b, off, rfl, hb, hc⟩ := hv.cells (by omega)
      have hkz : (k : Int) < (n : Int) := by omega
      have hc1 := hc k hlt
      have hbk := hv.byte k hlt
      have q1 := i64_in y (f k) hy hbk
      have hlt2 := xorByte_lt hy hbk
      obtain ⟨hbk0, hbk1⟩ := hbk
      clear hc
      go_wp2
      clear q1 hc1
      go_loopg [3, 5] 8 (fun g s i wi => w = wi ∧ ∃ j z : Nat, j ≤ 8 ∧ g = 8 - j ∧ s = .int .i64 (z : Int) ∧ i = .int .i64 j ∧ z < 4294967296 ∧ z = crcBits j (y ^^^ (f k).toNat))
      case atStart => exact ⟨rfl, 0, y ^^^ (f k).toNat, by omega, rfl, rfl, rfl, hlt2, rfl⟩
      case round =>
        obtain ⟨rfl, j, z, hj, rfl, rfl, rfl, hz, hzj⟩ := hrel
        have HZ : Hid (z = crcBits j (y ^^^ (f k).toNat)) := hzj
        clear hzj
        by_cases hj8 : j < 8
        · have hjz : (j : Int) < 8 := by omega
          by_cases hodd : z % 2 = 1
          · have q1 : bits .and .i64 (z : Int) 1 = 1 := by rw [i64_and1 z (by omega), hodd]; rfl
            have q2 := i64_turn z hz
            have HO : Hid (z % 2 = 1) := hodd
            clear hodd
            go_wp2
            go_roundg (8 - (j + 1))
            case measure => omega
            case rel => exact ⟨rfl, j + 1, z / 2 ^^^ 2197175160, by omega, rfl, rfl, by go_num, Nat.xor_lt_two_pow (n := 32) (by omega) (by decide), by rw [← crcBit_odd z HO.out, HZ.out]; rfl⟩
          · have q1 : bits .and .i64 (z : Int) 1 = 0 := by rw [i64_and1 z (by omega), show z % 2 = 0 by omega]; rfl
            have HO : Hid (¬ z % 2 = 1) := hodd
            clear hodd
            go_wp2
            go_roundg (8 - (j + 1))
            case measure => omega
            case rel => exact ⟨rfl, j + 1, z / 2, by omega, rfl, by go_num, by go_num, by omega, by rw [← crcBit_even z HO.out, HZ.out]; rfl⟩
        · obtain rfl : j = 8 := by omega
          go_wp2
          go_roundg (n - (k + 1))
          case measure => omega
          case rel => exact ⟨rfl, k + 1, z, by omega, rfl, rfl, by go_num, hz, by rw [HZ.out, HY.out]; rfl⟩
    · obtain rfl : k = n := by omega
      have q1 := i64_last y hy
      go_wp2
      go_ret
      exact ⟨retInt (congrArg (fun z : Nat => ((z ^^^ 4294967295 : Nat) : Int)) HY.out), rfl⟩
end Go.Proofs.Ytjkoipdcpkkkean
