/-
  A text between quotes, as the program makes it.
-/
import Derived.Test.YthjddmhcppdleaaDoorValInner
import Derived.Test.YthjddmhcppdleaaDoorValSeen
namespace Go.Proofs.YthjddmhcppdleaaDoor
open Go.RowKit

set_option maxHeartbeats 1000000 in
theorem quoted_any (s : ByteArray) (w : World) (hs : s.size ≤ 281474976710656) :
    Calls Tryd.prog 29 #[.string s] w fun e w' => e = .returned (.string (bytesOf (quotedL s))) ∧ w' = w := by
  go_enter Tryd.func29, Tryd.ntmps29
  go_wp2
  go_loopg [3, 6] s.size (fun g j i wr => ∃ k : Nat, k ≤ s.size ∧ g = s.size - k ∧ i = .int .i64 k ∧ wr = w ∧ ∀ x, x < k → ∃ h : x < s.data.size, seenB s.data[x] = true)
  case atStart => exact ⟨0, Nat.zero_le _, rfl, rfl, rfl, fun x hx => absurd hx (Nat.not_lt_zero _)⟩
  case round =>
    obtain ⟨k, hk, rfl, rfl, rfl, hS⟩ := hrel
    by_cases hlt : k < s.size
    · have hkz : (k : Int) < (s.size : Int) := by omega
      by_cases hb : (((s[k].toNat : Int) < 32 ∨ (126 : Int) < (s[k].toNat : Int)) ∨ ((s[k].toNat : Int) == 39) = true)
      · have hq : Hid (quotedL s = []) := quoted_bad hlt (seen_not hb)
        clear hS hs
        rcases hb with (hb | hb) | hb
        · go_wp2
          go_ret
          exact ⟨by rw [hq.out]; rfl, rfl⟩
        · have hb1 : ¬ (s[k].toNat : Int) < 32 := by omega
          go_wp2
          go_ret
          exact ⟨by rw [hq.out]; rfl, rfl⟩
        · have hb1 : ¬ (s[k].toNat : Int) < 32 := by simp at hb; omega
          have hb2 : ¬ (126 : Int) < (s[k].toNat : Int) := by simp at hb; omega
          go_wp2
          go_ret
          exact ⟨by rw [hq.out]; rfl, rfl⟩
      · have hgood := hb
        rw [not_or, not_or] at hgood
        obtain ⟨⟨g1, g2⟩, g3⟩ := hgood
        have hsn : Hid (seenB s[k] = true) := seen_of (by omega) (by omega) (by simpa using g3)
        have g3 : ((s[k].toNat : Int) == 39) = false := by simpa using g3
        clear hb
        go_wp2
        go_roundg (s.size - (k + 1))
        case measure => omega
        case rel => exact ⟨k + 1, by omega, rfl, by go_num, rfl, fun x hx => by
          by_cases e : x = k
          · subst e; exact ⟨hlt, hsn.out⟩
          · exact hS x (by omega)⟩
    · have hkn : k = s.size := by omega
      have hq : Hid (quotedL s = 39 :: (s.data.toList ++ [39])) := quoted_good (fun x hx => hS x (by omega))
      go_wp2
      go_ret
      refine ⟨by rw [hq.out]; rfl, rfl⟩
end Go.Proofs.YthjddmhcppdleaaDoor
