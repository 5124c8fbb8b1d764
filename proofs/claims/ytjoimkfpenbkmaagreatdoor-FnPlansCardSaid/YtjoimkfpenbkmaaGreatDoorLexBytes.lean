/-
  LexBytes
-/
import Derived.Test.YtjoimkfpenbkmaaGreatDoorPackP1
import Derived.Test.YtjoimkfpenbkmaaGreatDoorShelf
/-
  What the program asks of one byte; a text cloned.
-/
namespace Go.Proofs.YtjoimkfpenbkmaaGreatDoor
open Go.RowKit
set_option maxRecDepth 4000

set_option maxHeartbeats 1000000 in
theorem isBlank_any (c : Int) (w : World) : Calls Tryz.prog 216 #[.int .u8 c] w fun e w' => e = .returned (.bool (blank c)) ∧ w = w' := by
  have HB : Hid (blank c = (c == 32 || c == 9 || c == 10 || c == 13)) := by show _ = _; unfold blank; rw [Bool.eq_iff_iff]; simp [or_assoc]
  go_enter Tryz.func216, Tryz.ntmps216
  go_wp2
  all_goals
    go_ret
    exact ⟨by rw [HB.out]; simp [*], rfl⟩
set_option maxHeartbeats 1000000 in
theorem isMark_any (c : Int) (w : World) : Calls Tryz.prog 218 #[.int .u8 c] w fun e w' => e = .returned (.bool (markC c)) ∧ w = w' := by
  have HB : Hid (markC c = (c == 123 || c == 125 || c == 44 || c == 59)) := by show _ = _; unfold markC; rw [Bool.eq_iff_iff]; simp [or_assoc]
  go_enter Tryz.func218, Tryz.ntmps218
  go_wp2
  all_goals
    go_ret
    exact ⟨by rw [HB.out]; simp [*], rfl⟩
set_option maxHeartbeats 1000000 in
theorem isLetter_any (c : Int) (w : World) (h0 : 0 ≤ c) (h1 : c ≤ 255) : Calls Tryz.prog 217 #[.int .u8 c] w fun e w' => e = .returned (.bool (small c)) ∧ w = w' := by
  have HB : Hid (small c = (decide (97 ≤ c) && decide (c ≤ 122))) := by show _ = _; unfold small; simp
  by_cases h : 97 ≤ c
  · go_enter Tryz.func217, Tryz.ntmps217
    go_wp2
    go_ret
    exact ⟨by rw [HB.out]; simp [h], rfl⟩
  · go_enter Tryz.func217, Tryz.ntmps217
    go_wp2
    go_ret
    exact ⟨by rw [HB.out]; simp; omega, rfl⟩
set_option maxHeartbeats 1000000 in
theorem isDigit_any (c : Int) (w : World) (h0 : 0 ≤ c) (h1 : c ≤ 255) : Calls Tryz.prog 219 #[.int .u8 c] w fun e w' => e = .returned (.bool (digit c)) ∧ w = w' := by
  have HB : Hid (digit c = (decide (48 ≤ c) && decide (c ≤ 57))) := by show _ = _; unfold digit; simp
  by_cases h : 48 ≤ c
  · go_enter Tryz.func219, Tryz.ntmps219
    go_wp2
    go_ret
    exact ⟨by rw [HB.out]; simp [h], rfl⟩
  · go_enter Tryz.func219, Tryz.ntmps219
    go_wp2
    go_ret
    exact ⟨by rw [HB.out]; simp; omega, rfl⟩
theorem strClone_tok (s : ByteArray) (w : World) (hs : s.size ≤ 281474976710656) :
    Calls Tryz.prog 148 #[.string s] w fun e w' => e = .returned (.string s) ∧ Below w.heap.size w w' := by
  go_enter Tryz.func148, Tryz.ntmps148
  go_wp2_with (go_at_call 181; refine (Tryz.stringslite_Clone s _ hs).mono ?_; rintro e w2 ⟨rfl, hB⟩)
  go_ret
  exact ⟨rfl, hB⟩
end Go.Proofs.YtjoimkfpenbkmaaGreatDoor

