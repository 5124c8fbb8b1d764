/-
  How much a row of values holds, as the law counts it.
-/
import Derived.Test.YtamfibkgnbjiiaoVals
import Derived.Test.YtamfibkgnbjiiaoValHelp
namespace Go.Proofs.Ytamfibkgnbjiiao
open Go.RowKit

set_option maxHeartbeats 2000000 in
theorem szValS_any (a : Option Addr) (n cap : Nat) (fk fn : Nat → Int) (fs : Nat → ByteArray) (left : Int) (w : World) (h : VView w a n cap fk fn fs) (hn : n ≤ maxLen) (hz : ∀ i, i < n → (fs i).size ≤ maxLen) (h0 : 0 ≤ left) (hl : left ≤ 1048576) :
    Calls Try.prog 12 #[.slice a n cap, .int .i64 left] w fun e w' => ∃ L : Int, e = .returned (.int .i64 L) ∧ Below w.heap.size w w' ∧ (L = -1 ∨ (0 ≤ L ∧ L ≤ left - n)) := by
  have hn' : (n : Int) ≤ 9223372036854775807 := by unfold maxLen at hn; omega
  by_cases hb : left - (n : Int) < 0
  · go_enter Try.func12, Try.ntmps12
    go_wp2
    go_ret
    exact ⟨_, rfl, Below.refl _ _, .inl rfl⟩
  go_enter Try.func12, Try.ntmps12
  go_wp2
  go_loopg [1, 5] n (fun q l i wr => ∃ (k : Nat) (L : Int), k ≤ n ∧ q = n - k ∧ l = .int .i64 L ∧ i = .int .i64 k ∧ Below w.heap.size w wr ∧ 0 ≤ L ∧ L ≤ left - n)
  case atStart => exact ⟨0, left - n, Nat.zero_le _, rfl, rfl, rfl, Below.refl _ _, by omega, by omega⟩
  case round =>
    obtain ⟨k, L, hk, rfl, rfl, rfl, hB, hL0, hL1⟩ := hrel
    by_cases hlt : k < n
    · obtain ⟨b1, o1, rfl, hb1, hc1⟩ := (h.below hB).cells (by omega)
      obtain ⟨x0, x1, x2⟩ := hc1 k hlt
      have hkz : (k : Int) < (n : Int) := by omega
      have hzk := hz k hlt
      have hLm : L ≤ 1048576 := by omega
      clear hc1 h hz
      generalize fk k = p0 at *
      generalize fn k = p1 at *
      generalize fs k = p2 at *
      by_cases hc : (p2.size : Int) ≤ L
      · have hV := fun W => szVal_small p0 p1 p2 L W hc hLm
        have hnn : ¬ L - (p2.size : Int) < 0 := by omega
        go_wp2_with fail
        refine (hV _).mono ?_
        rintro e w2 ⟨rfl, hB2⟩
        have hB3 := hB.trans (hB2.mono hB.size)
        clear hB2 hV
        go_wp2
        go_roundg (n - (k + 1))
        case measure => omega
        case rel => exact ⟨k + 1, L - p2.size, by omega, rfl, rfl, by go_num, hB3, by omega, by omega⟩
      · have hV := fun W => szVal_big p0 p1 p2 L W (by omega) hL0 hzk
        go_wp2_with fail
        refine (hV _).mono ?_
        rintro e w2 ⟨rfl, hB2⟩
        have hB3 := hB.trans (hB2.mono hB.size)
        clear hB2 hV
        go_wp2
        go_ret
        exact ⟨_, rfl, hB3, .inl rfl⟩
    · have hkz : ¬ (k : Int) < (n : Int) := by omega
      go_wp2
      go_ret
      exact ⟨_, rfl, hB, .inr ⟨hL0, hL1⟩⟩
end Go.Proofs.Ytamfibkgnbjiiao
