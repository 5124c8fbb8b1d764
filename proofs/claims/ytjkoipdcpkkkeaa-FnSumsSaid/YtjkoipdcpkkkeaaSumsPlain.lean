/-
  Bytes behind which their sum stands, plainly: they are right; with one byte turned they are not.
-/
import Derived.Test.YtjkoipdcpkkkeaaGetSum
namespace Go.Proofs.Ytjkoipdcpkkkeaa
open Go.RowKit

theorem sum_turned {m j : Nat} {F : Nat → Int} {v : Int} (hF : ∀ i, i < m + 4 → 0 ≤ F i ∧ F i ≤ 255) (hg : last4 m F = (crc m F : Int)) (hj : j < m + 4) (hv : 0 ≤ v ∧ v ≤ 255) (hne : v ≠ F j) :
    last4 m (fun i => if i = j then v else F i) ≠ (crc m (fun i => if i = j then v else F i) : Int) := by
  by_cases h : j < m
  · have hc : crc m (fun i => if i = j then v else F i) ≠ crc m F := by
      refine crc_parts (j := j) (fun i hi => ?_) (fun i hi => hF i (by omega)) h ?_ (fun i hi hij => ?_)
      · by_cases e : i = j
        · simp only [e, if_true]; exact hv
        · simp only [e, if_false]; exact hF i (by omega)
      · simp only [if_true]; exact hne
      · simp only [hij, if_false]
    have hl : last4 m (fun i => if i = j then v else F i) = last4 m F := by
      unfold last4
      dsimp only
      rw [if_neg (by omega), if_neg (by omega), if_neg (by omega), if_neg (by omega)]
    rw [hl, hg]
    intro e
    exact hc (by omega)
  · have hc : crc m (fun i => if i = j then v else F i) = crc m F := crc_congr (fun i hi => by rw [if_neg (by omega)])
    rw [hc, ← hg]
    have h0 := hF m (by omega)
    have h1 := hF (m + 1) (by omega)
    have h2 := hF (m + 2) (by omega)
    have h3 := hF (m + 3) (by omega)
    unfold last4
    dsimp only
    rcases (show j = m ∨ j = m + 1 ∨ j = m + 2 ∨ j = m + 3 by omega) with rfl | rfl | rfl | rfl
    · rw [if_pos rfl, if_neg (by omega), if_neg (by omega), if_neg (by omega)]; omega
    · rw [if_neg (by omega), if_pos rfl, if_neg (by omega), if_neg (by omega)]; omega
    · rw [if_neg (by omega), if_neg (by omega), if_pos rfl, if_neg (by omega)]; omega
    · rw [if_neg (by omega), if_neg (by omega), if_neg (by omega), if_pos rfl]; omega

/-- What PutSum lays is right. -/
theorem sum_put (m : Nat) (f : Nat → Int) (hf : ∀ i, i < m → 0 ≤ f i ∧ f i ≤ 255) : last4 m (fun i => (lof m f ++ sumL (crc m f)).getD i 0) = (crc m (fun i => (lof m f ++ sumL (crc m f)).getD i 0) : Int) := by
  have hl : ∀ i, i < m → (lof m f ++ sumL (crc m f)).getD i 0 = f i := by
    intro i hi
    rw [← lof_get m f i hi, List.getD_eq_getElem?_getD, List.getD_eq_getElem?_getD, List.getElem?_append_left (by rw [lof_len]; exact hi)]
  have hr : ∀ i, (lof m f ++ sumL (crc m f)).getD (m + i) 0 = (sumL (crc m f)).getD i 0 := by
    intro i
    rw [List.getD_eq_getElem?_getD, List.getD_eq_getElem?_getD, List.getElem?_append_right (by rw [lof_len]; omega), lof_len]
    congr 2
    omega
  have hc : crc m (fun i => (lof m f ++ sumL (crc m f)).getD i 0) = crc m f := crc_congr hl
  rw [hc]
  have hlt := crc_lt hf
  have r0 := hr 0
  have r1 := hr 1
  have r2 := hr 2
  have r3 := hr 3
  unfold last4
  dsimp only
  rw [Nat.add_zero] at r0
  rw [r0, r1, r2, r3]
  generalize crc m f = c at hlt
  show ((((c : Int) / 16777216 % 256) * 256 + (c : Int) / 65536 % 256) * 256 + (c : Int) / 256 % 256) * 256 + (c : Int) % 256 = (c : Int)
  omega

/-- A byte with one bit turned is another byte. -/
theorem bit_turned (x : Int) (k : Nat) (h : 0 ≤ x ∧ x ≤ 255) (hk : k < 8) : (0 ≤ bits .xor .u8 x (2 ^ k) ∧ bits .xor .u8 x (2 ^ k) ≤ 255) ∧ bits .xor .u8 x (2 ^ k) ≠ x := by
  obtain ⟨n, rfl⟩ := Int.eq_ofNat_of_zero_le h.1
  have hn : n < 256 := by omega
  have hp : 2 ^ k < 256 := Nat.lt_of_lt_of_le (Nat.pow_lt_pow_right (by decide) hk) (by decide)
  have e : bits .xor .u8 (n : Int) (2 ^ k) = ((n ^^^ 2 ^ k : Nat) : Int) := by
    have := u8_xor_nat n (2 ^ k) hn hp
    rw [← this]
    simp
  rw [e]
  have hlt : n ^^^ 2 ^ k < 256 := Nat.xor_lt_two_pow (n := 8) hn hp
  refine ⟨by omega, fun h => ?_⟩
  have h' : n ^^^ 2 ^ k = n := by omega
  have h2 := congrArg (fun z => z.testBit k) h'
  simp only [Nat.testBit_xor, Nat.testBit_two_pow_self, Bool.xor_true] at h2
  cases hb : n.testBit k <;> simp [hb] at h2

theorem small_pow (x : Nat) : (2 : Int) ^ min (x % 8) 8 % 256 = 2 ^ (x % 8) := by
  have hk : x % 8 < 8 := Nat.mod_lt _ (by decide)
  rw [Nat.min_eq_left (by omega)]
  rcases (show x % 8 = 0 ∨ x % 8 = 1 ∨ x % 8 = 2 ∨ x % 8 = 3 ∨ x % 8 = 4 ∨ x % 8 = 5 ∨ x % 8 = 6 ∨ x % 8 = 7 by omega) with h | h | h | h | h | h | h | h <;> rw [h] <;> rfl
end Go.Proofs.Ytjkoipdcpkkkeaa
