/-
  The program's numberOf and the model's l4Read: bytes as a number, the highest first.
-/
import Derived.Test.YtbcgonfihdpjnaqInfo
import Derived.Test.YtbcgonfihdpjnaqGetVarPlain
import Derived.Test.YtbcgonfihdpjnaqFlipPlain
namespace Go.Proofs.Ytbcgonfihdpjnaq
open Go.RowKit
set_option maxRecDepth 4000

theorem or_low (x y : Int) (h0 : 0 ≤ x) (h1 : x < 36028797018963968) (h2 : 0 ≤ y) (h3 : y ≤ 255) : bits .or .i64 (x * 256) y = x * 256 + y := by
  have e : bits .or .i64 (x * 256) y = bits .or .i64 y (x * 256) := by
    show IntKind.i64.wrap ((BitVec.ofInt 64 (x * 256) ||| BitVec.ofInt 64 y).toNat : Nat) = IntKind.i64.wrap ((BitVec.ofInt 64 y ||| BitVec.ofInt 64 (x * 256)).toNat : Nat)
    rw [BitVec.or_comm]
  rw [e, i64_or_add 8 y (x * 256) h2 (by show _ < (256 : Int); omega) (by omega) (by show _ % (256 : Int) = 0; omega) (by omega) (by decide)]
  omega

theorem valF_step (k : Nat) (f : Nat → Int) : valF (k + 1) f = valF k f * 256 + f k := rfl
/-- As many bytes as there may be are a number that an int has. -/
theorem valF_lim (k : Nat) (f : Nat → Int) (hk : k ≤ 6) (h : ∀ i, i < k → 0 ≤ f i ∧ f i ≤ 255) : 0 ≤ valF k f ∧ valF k f < 281474976710656 := by
  have h1 := valF_bd k f h
  have h2 : (256 : Int) ^ k ≤ 256 ^ 6 := pow_mono hk
  have e : (256 : Int) ^ 6 = 281474976710656 := by decide
  omega

set_option maxHeartbeats 1000000 in
theorem numberOf_any (ao : Option Addr) (k c : Nat) (f : Nat → Int) (w : World) (hv : View w ao k c f) (hk : k ≤ 7) :
    Calls Try.prog 31 #[.slice ao k c] w fun e w' => e = .returned (.int .i64 (valF k f)) ∧ w = w' := by
  go_enter Try.func31, Try.ntmps31
  go_wp2
  go_loopg [3, 8] k (fun q s i wr => w = wr ∧ ∃ j : Nat, j ≤ k ∧ q = k - j ∧ s = .int .i64 (valF j f) ∧ i = .int .i64 j)
  case atStart => exact ⟨rfl, 0, Nat.zero_le _, rfl, rfl, rfl⟩
  case round =>
    obtain ⟨rfl, j, hj, rfl, rfl, rfl⟩ := hrel
    by_cases hlt : j < k
    · have hb := hv.byte j hlt
      obtain ⟨b, off, rfl, hbl, hc⟩ := hv.cells (by omega)
      have hcj := hc j hlt
      have hl := valF_lim j f (by omega) (fun i hi => hv.byte i (by omega))
      have HE : Hid (valF (j + 1) f = valF j f * 256 + f j) := rfl
      have hq := or_low (valF j f) (f j) hl.1 (by omega) hb.1 hb.2
      have hjz : (j : Int) < (k : Int) := by omega
      clear hc hv
      generalize valF j f = x at *
      go_wp2
      go_roundg (k - (j + 1))
      case measure => omega
      case rel => exact ⟨rfl, j + 1, by omega, rfl, by rw [HE.out], by go_num⟩
    · obtain rfl : j = k := by omega
      clear hv
      go_wp2
      go_ret
      exact ⟨rfl, rfl⟩

set_option maxHeartbeats 1000000 in
theorem l4Read_any (ao : Option Addr) (n c : Nat) (f : Nat → Int) (p k : Nat) (t : Bool) (w : World) (hv : View w ao n c f) (hn : n ≤ 281474976710656) (hk : k ≤ 7) (hp : p + k ≤ n) :
    Calls Try.prog 27 #[.slice ao n c, .int .i64 (p : Int), .int .i64 (k : Int), .bool t] w fun e w' => e = .returned (.tuple #[.int .i64 (valF k (turnF t (fun i => f (p + i)))), .bool true]) ∧ w = w' := by
  have hpz : (p : Int) + (k : Int) ≤ (n : Int) := by omega
  have q1 : decide ((p : Int) < 0) = false := by simp
  have q2 : decide (n < p) = false := by simp; omega
  have q3 : decide ((n : Int) - (p : Int) < (k : Int)) = false := by simp; omega
  go_enter Try.func27, Try.ntmps27
  go_wp2
  go_loopg [10, 11] k (fun q s i wr => w = wr ∧ ∃ j : Nat, j ≤ k ∧ q = k - j ∧ s = .int .i64 (valF j (turnF t (fun i => f (p + i)))) ∧ i = .int .i64 j)
  case atStart => exact ⟨rfl, 0, Nat.zero_le _, rfl, rfl, rfl⟩
  case round =>
    obtain ⟨rfl, j, hj, rfl, rfl, rfl⟩ := hrel
    by_cases hlt : j < k
    · have hb := hv.byte (p + j) (by omega)
      obtain ⟨b, off, rfl, hbl, hc⟩ := hv.cells (by omega)
      have hcj := hc (p + j) (by omega)
      have hl := valF_lim j (turnF t (fun i => f (p + i))) (by omega) (turnF_bd t (fun i hi => hv.byte (p + i) (by omega)))
      have hjz : (j : Int) < (k : Int) := by omega
      have HE : Hid (valF (j + 1) (turnF t (fun i => f (p + i))) = valF j (turnF t (fun i => f (p + i))) * 256 + turnF t (fun i => f (p + i)) j) := rfl
      clear hc hv
      cases t
      · have hq := or_low (valF j (turnF false (fun i => f (p + i)))) (f (p + j)) hl.1 (by omega) hb.1 hb.2
        have HT : Hid (turnF false (fun i => f (p + i)) j = f (p + j)) := rfl
        rw [HT.out] at HE
        generalize valF j (turnF false (fun i => f (p + i))) = x at *
        go_wp2
        go_roundg (k - (j + 1))
        case measure => omega
        case rel => exact ⟨rfl, j + 1, by omega, rfl, by rw [HE.out], by go_num⟩
      · have hx : bits .xor .u8 IntKind.u8.max (f (p + j)) = 255 - f (p + j) := u8_not _ hb.1 hb.2
        have HT : Hid (turnF true (fun i => f (p + i)) j = 255 - f (p + j)) := rfl
        have hyb : 0 ≤ 255 - f (p + j) ∧ 255 - f (p + j) ≤ 255 := by omega
        rw [HT.out] at HE
        generalize 255 - f (p + j) = y at *
        obtain ⟨hy0, hy1⟩ := hyb
        have hq := or_low (valF j (turnF true (fun i => f (p + i)))) y hl.1 (by omega) hy0 hy1
        generalize valF j (turnF true (fun i => f (p + i))) = x at *
        go_wp2
        go_roundg (k - (j + 1))
        case measure => omega
        case rel => exact ⟨rfl, j + 1, by omega, rfl, by rw [HE.out, show wrap64 y = y by unfold wrap64; omega, hq], by go_num⟩
    · obtain rfl : j = k := by omega
      clear hv
      go_wp2
      go_ret2
      exact ⟨rfl, rfl⟩

set_option maxHeartbeats 1000000 in
theorem l4Read_no (ao : Option Addr) (n c : Nat) (p k : Int) (t : Bool) (w : World) (hp1 : p ≤ 9223372036854775807) (hk : 0 ≤ k) (hk7 : k ≤ 7) (hp : p < 0 ∨ (n : Int) - p < k) :
    Calls Try.prog 27 #[.slice ao n c, .int .i64 p, .int .i64 k, .bool t] w fun e w' => e = .returned (.tuple #[.int .i64 0, .bool false]) ∧ w = w' := by
  go_enter Try.func27, Try.ntmps27
  by_cases h1 : p < 0
  · clear hp
    go_wp2
    go_ret2
    exact ⟨rfl, rfl⟩
  · have h2 : (n : Int) - p < k := by omega
    clear hp
    by_cases h3 : (n : Int) < p
    · go_wp2
      go_ret2
      exact ⟨rfl, rfl⟩
    · go_wp2
      go_ret2
      exact ⟨rfl, rfl⟩
end Go.Proofs.Ytbcgonfihdpjnaq
