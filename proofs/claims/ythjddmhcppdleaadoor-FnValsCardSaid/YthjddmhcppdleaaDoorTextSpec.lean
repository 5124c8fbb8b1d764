/-
  The model's texts: a number's digits, and whether a text may be seen on a line.
-/
import Derived.Test.YthjddmhcppdleaaDoorValOkSpec
import Derived.Test.YthjddmhcppdleaaDoorValSeen
import Derived.Laws.BytesArg
import Derived.Deep.RegionWith
namespace Go.Proofs.YthjddmhcppdleaaDoor
open Go.RowKit Go.Lib

theorem bytes_app (l r : List UInt8) : bytesOf (l ++ r) = bytesOf l ++ bytesOf r :=
  ByteArray.ext (by simp [bytesOf])

theorem bytes_size (l : List UInt8) : (bytesOf l).size = l.length := by simp [bytesOf, ByteArray.size]

def oneByte (c : Int) : ByteArray := strOfNums [c]

theorem conv_one (W : World) (N : Nat) (c : Int) (h : W.cell? ⟨N, 0, none⟩ = some (.int .u8 c)) : (convert 22 9 (.slice (some ⟨N, 0, none⟩) 1 1)).run Tryd.prog W = .ok (.string (oneByte c)) W := by
  refine run_convert_bytes_arg W 22 5 Tryd.underlying22 Tryd.underlying5 N 0 1 1 [c] rfl ?_ 9 Tryd.underlying9
  intro i hi
  obtain rfl : i = 0 := by omega
  simpa using h

theorem wrap_i64 {x : Int} (h0 : -9223372036854775808 ≤ x) (h1 : x ≤ 9223372036854775807) : IntKind.i64.wrap x = x := by
  rw [IntKind.wrap_i64]; omega
theorem wrap_u8 {x : Int} (h0 : 0 ≤ x) (h1 : x ≤ 255) : IntKind.u8.wrap x = x := by
  rw [IntKind.wrap_u8]; omega

theorem oneByte_digit (d : Nat) : oneByte (48 + (d : Int)) = ⟨#[UInt8.ofNat (48 + d)]⟩ := by
  unfold oneByte strOfNums
  congr

set_option maxHeartbeats 800000 in
theorem l2Num_nat (u : Nat) : ∀ (w : World), u < 10000000000000000 →
    Calls Tryd.prog 24 #[.int .i64 (u : Int)] w fun e w' => e = .returned (.string (bytesOf (decDigits u))) ∧ Below w.heap.size w w' := by
  induction u using Nat.strongRecOn with
  | _ u ih =>
    intro w hu
    have h0 : ¬ (u : Int) < 0 := by omega
    by_cases h10 : u < 10
    · have hz : (u : Int) < 10 := by omega
      have hcv := fun W h => conv_one W w.heap.size (48 + (u : Int)) h
      go_enter Tryd.func24, Tryd.ntmps24
      go_wp2
      go_ret
      refine ⟨?_, (Below.refl _ _).alloc (Nat.le_refl _) _⟩
      rw [decDigits_one h10]
      exact congrArg (fun b => Ending.returned (.string b)) (oneByte_digit u)
    · have hz : ¬ (u : Int) < 10 := by omega
      have hq : Int.tdiv (u : Int) 10 = ((u / 10 : Nat) : Int) := by rw [Int.tdiv_eq_ediv_of_nonneg (by omega)]; omega
      have hr : Int.tmod (u : Int) 10 = ((u % 10 : Nat) : Int) := by rw [Int.tmod_eq_emod_of_nonneg (by omega)]; omega
      have hI := fun W => ih (u / 10) (by omega) W (by omega)
      have hlen : (bytesOf (decDigits (u / 10))).size ≤ 16 := by
        have := digits_len (u := u / 10) (by omega)
        simpa [bytesOf, ByteArray.size] using this
      have h9 : ((u % 10 : Nat) : Int) ≤ 9 := by omega
      have h8 : ((u / 10 : Nat) : Int) ≤ 1000000000000000 := by omega
      have hw1 : IntKind.i64.wrap ((u / 10 : Nat) : Int) = ((u / 10 : Nat) : Int) := wrap_i64 (by omega) (by omega)
      have hw2 : IntKind.i64.wrap (48 + ((u % 10 : Nat) : Int)) = 48 + ((u % 10 : Nat) : Int) := wrap_i64 (by omega) (by omega)
      have hw3 : IntKind.u8.wrap (48 + ((u % 10 : Nat) : Int)) = 48 + ((u % 10 : Nat) : Int) := wrap_u8 (by omega) (by omega)
      have hfin : bytesOf (decDigits u) = bytesOf (decDigits (u / 10)) ++ oneByte (48 + ((u % 10 : Nat) : Int)) := by
        rw [oneByte_digit, decDigits, dif_neg h10]
        exact bytes_app _ _
      have hone : (oneByte (48 + ((u % 10 : Nat) : Int))).size = 1 := rfl
      have hcv := fun W N h => conv_one W N (48 + ((u % 10 : Nat) : Int)) h
      rw [hfin]
      clear hfin ih
      generalize bytesOf (decDigits (u / 10)) = r at *
      generalize u % 10 = d at *
      generalize u / 10 = q at *
      go_enter Tryd.func24, Tryd.ntmps24
      go_wp2_with fail
      go_region_with (first | (go_at_call 24; refine (hI _).mono ?_; rintro e w1 ⟨rfl, hB⟩; try (have hk : w1.cell? ⟨w.heap.size, 0, none⟩ = some (.int .u8 (48 + (d : Int))) := by (rw [hB.cell (by simp)]; simp [go_sem]))))
      all_goals
        have hb0 : Hid (Below w.heap.size w w1) := Below.trans (by repeat (first | exact Below.refl _ _ | refine Below.alloc ?_ (by simp <;> omega) _ | refine Below.drew ?_)) (hB.mono (by simp))
        go_wp2
        go_ret
        exact ⟨rfl, by first | exact hb0.out | exact hb0.out.alloc hb0.out.size _⟩

set_option maxHeartbeats 800000 in
theorem l2Num_any (n : Int) (w : World) (h0 : -10000000000000000 < n) (h1 : n < 10000000000000000) :
    Calls Tryd.prog 24 #[.int .i64 n] w fun e w' => e = .returned (.string (bytesOf (itoa n))) ∧ Below w.heap.size w w' := by
  by_cases hn : n < 0
  · rw [itoa_min hn]
    have hI := fun W => l2Num_nat n.natAbs W (by omega)
    have e1 : ((n.natAbs : Nat) : Int) = -n := by omega
    rw [e1] at hI
    have hlen : (bytesOf (decDigits n.natAbs)).size ≤ 16 := by rw [bytes_size]; exact digits_len (by omega)
    have e2 : bytesOf (45 :: decDigits n.natAbs) = ⟨#[45]⟩ ++ bytesOf (decDigits n.natAbs) := bytes_app [45] _
    rw [e2]
    clear e1 e2
    generalize bytesOf (decDigits n.natAbs) = r at *
    go_enter Tryd.func24, Tryd.ntmps24
    go_wp2_with (first | (go_at_call 24; refine (hI _).mono ?_; rintro e w1 ⟨rfl, hB⟩))
    go_ret
    exact ⟨rfl, hB⟩
  · have := l2Num_nat n.toNat w (by omega)
    have e1 : ((n.toNat : Nat) : Int) = n := by omega
    rw [e1] at this
    rw [itoa_pos (by omega)]
    exact this

set_option maxHeartbeats 1000000 in
theorem l2Plain_any (s : ByteArray) (w : World) (hs : s.size ≤ 281474976710656) :
    Calls Tryd.prog 23 #[.string s] w fun e w' => e = .returned (.bool (plainL s.data.toList)) ∧ w' = w := by
  go_enter Tryd.func23, Tryd.ntmps23
  go_wp2
  go_loopg [3] s.size (fun g i wr => ∃ k : Nat, k ≤ s.size ∧ g = s.size - k ∧ i = .int .i64 k ∧ wr = w ∧ ∀ x, x < k → ∃ h : x < s.data.size, seenB s.data[x] = true)
  case atStart => exact ⟨0, Nat.zero_le _, rfl, rfl, rfl, fun x hx => absurd hx (Nat.not_lt_zero _)⟩
  case round =>
    obtain ⟨k, hk, rfl, rfl, rfl, hS⟩ := hrel
    by_cases hlt : k < s.size
    · have hkz : (k : Int) < (s.size : Int) := by omega
      have hub : (s[k].toNat : Int) ≤ 255 := by have := s[k].toNat_lt; omega
      by_cases hb : (((s[k].toNat : Int) < 32 ∨ (126 : Int) < (s[k].toNat : Int)) ∨ ((s[k].toNat : Int) == 39) = true)
      · have hq : Hid (plainL s.data.toList = false) := plain_bad hlt (seen_not hb)
        clear hS hs
        rcases hb with (hb | hb) | hb
        · have hb1 : ¬ (32 : Int) ≤ (s[k].toNat : Int) := by omega
          go_wp2
          go_ret
          exact ⟨by rw [hq.out]; rfl, rfl⟩
        · have hb1 : (32 : Int) ≤ (s[k].toNat : Int) := by omega
          have hb2 : ¬ (s[k].toNat : Int) ≤ 126 := by omega
          go_wp2
          go_ret
          exact ⟨by rw [hq.out]; rfl, rfl⟩
        · have hb1 : (32 : Int) ≤ (s[k].toNat : Int) := by simp at hb; omega
          have hb2 : (s[k].toNat : Int) ≤ 126 := by simp at hb; omega
          go_wp2
          go_ret
          exact ⟨by rw [hq.out]; rfl, rfl⟩
      · have hgood := hb
        rw [not_or, not_or] at hgood
        obtain ⟨⟨g1, g2⟩, g3⟩ := hgood
        have hsn : Hid (seenB s[k] = true) := seen_of (by omega) (by omega) (by simpa using g3)
        have g3 : ((s[k].toNat : Int) == 39) = false := by simpa using g3
        have g1 : (32 : Int) ≤ (s[k].toNat : Int) := by omega
        have g2 : (s[k].toNat : Int) ≤ 126 := by omega
        clear hb
        go_wp2
        go_roundg (s.size - (k + 1))
        case measure => omega
        case rel => exact ⟨k + 1, by omega, rfl, by go_num, rfl, fun x hx => by
          by_cases e : x = k
          · subst e; exact ⟨hlt, hsn.out⟩
          · exact hS x (by omega)⟩
    · have hkn : k = s.size := by omega
      have hq : Hid (plainL s.data.toList = true) := plain_good (fun x hx => hS x (by omega))
      go_wp2
      go_ret
      exact ⟨by rw [hq.out]; rfl, rfl⟩
end Go.Proofs.YthjddmhcppdleaaDoor
