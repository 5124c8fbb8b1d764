/-
  The model's Crc comes to the plain sum, at every slice of bytes that reads.
-/
import Derived.Test.YtjkoipdcpkkkeanInfo
import Derived.Test.YtjkoipdcpkkkeanCrcBits
namespace Go.Proofs.Ytjkoipdcpkkkean
open Go.RowKit

set_option maxHeartbeats 1000000 in
theorem crc_spec (ao : Option Addr) (n cap : Nat) (f : Nat → Int) (w : World) (hv : View w ao n cap f) (hn : n ≤ 281474976710656) :
    Calls Try.prog 16 #[.slice ao n cap] w fun e w' => e = .returned (.int .i64 ((crc n f : Nat) : Int)) ∧ w = w' := by
  go_enter Try.func16, Try.ntmps16
  go_wp2
  go_loopg [3, 4] n (fun g s i wr => w = wr ∧ ∃ k y : Nat, k ≤ n ∧ g = n - k ∧ s = .int .i64 (y : Int) ∧ i = .int .i64 k ∧ y < 4294967296 ∧ y = crcTo f k)
  case atStart => exact ⟨rfl, 0, 4294967295, by omega, rfl, rfl, rfl, by decide, rfl⟩
  case round =>
    obtain ⟨rfl, k, y, hk, rfl, rfl, rfl, hy, hyk⟩ := hrel
    have HY : Hid (y = crcTo f k) := hyk
    clear hyk
    by_cases hlt : k < n
    · obtain ⟨b, off, rfl, hb, hc⟩ := hv.cells (by omega)
      have hkz : (k : Int) < (n : Int) := by omega
      have hc1 := hc k hlt
      have hbk := hv.byte k hlt
      have q1 := i64_in y (f k) hy hbk
      have hlt2 := xorByte_lt hy hbk
      obtain ⟨hbk0, hbk1⟩ := hbk
      clear hc
      go_wp2
      clear q1 hc1
      go_loopg [3, 5] 8 (fun g s i wi => w = wi ∧ ∃ j z : Nat, j ≤ 8 ∧ g = 8 - j ∧ s = .int .i64 (z : Int) ∧ i = .int .i64 j ∧ z < 4294967296 ∧ z = crcBits j (y ^^^ (f k).toNat))
      case atStart => exact ⟨rfl, 0, y ^^^ (f k).toNat, by omega, rfl, rfl, rfl, hlt2, rfl⟩
      case round =>
        obtain ⟨rfl, j, z, hj, rfl, rfl, rfl, hz, hzj⟩ := hrel
        have HZ : Hid (z = crcBits j (y ^^^ (f k).toNat)) := hzj
        clear hzj
        by_cases hj8 : j < 8
        · have hjz : (j : Int) < 8 := by omega
          by_cases hodd : z % 2 = 1
          · have q1 : bits .and .i64 (z : Int) 1 = 1 := by rw [i64_and1 z (by omega), hodd]; rfl
            have q2 := i64_turn z hz
            have HO : Hid (z % 2 = 1) := hodd
            clear hodd
            go_wp2
            go_roundg (8 - (j + 1))
            case measure => omega
            case rel => exact ⟨rfl, j + 1, z / 2 ^^^ 2197175160, by omega, rfl, rfl, by go_num, Nat.xor_lt_two_pow (n := 32) (by omega) (by decide), by rw [← crcBit_odd z HO.out, HZ.out]; rfl⟩
          · have q1 : bits .and .i64 (z : Int) 1 = 0 := by rw [i64_and1 z (by omega), show z % 2 = 0 by omega]; rfl
            have HO : Hid (¬ z % 2 = 1) := hodd
            clear hodd
            go_wp2
            go_roundg (8 - (j + 1))
            case measure => omega
            case rel => exact ⟨rfl, j + 1, z / 2, by omega, rfl, by go_num, by go_num, by omega, by rw [← crcBit_even z HO.out, HZ.out]; rfl⟩
        · obtain rfl : j = 8 := by omega
          go_wp2
          go_roundg (n - (k + 1))
          case measure => omega
          case rel => exact ⟨rfl, k + 1, z, by omega, rfl, rfl, by go_num, hz, by rw [HZ.out, HY.out]; rfl⟩
    · obtain rfl : k = n := by omega
      have q1 := i64_last y hy
      go_wp2
      go_ret
      exact ⟨retInt (congrArg (fun z : Nat => ((z ^^^ 4294967295 : Nat) : Int)) HY.out), rfl⟩

theorem crc_spec' {c : Nat} (ao : Option Addr) (n cap : Nat) (f : Nat → Int) (w : World) (hg : Hid (crc n f = c)) (hv : View w ao n cap f) (hn : n ≤ 281474976710656) :
    Calls Try.prog 16 #[.slice ao n cap] w fun e w' => e = .returned (.int .i64 (c : Int)) ∧ w = w' := by
  have h := crc_spec ao n cap f w hv hn
  rw [hg.out] at h; exact h

end Go.Proofs.Ytjkoipdcpkkkean
