/-
  The program's PutU: what was there, and behind it the number's groups, in memory of its own.
-/
import Derived.Test.YtjkoipdcpkkkeaaPutNums
namespace Go.Proofs.Ytjkoipdcpkkkeaa
open Go.RowKit

set_option maxHeartbeats 1000000 in
theorem putU_impl (b off n cap : Nat) (f : Nat → Int) (x : Int) (w : World) (hv : View w (some ⟨b, off, none⟩) n cap f) (hn : n ≤ 35184372088832) (hx0 : -9223372036854775808 ≤ x) (hx1 : x ≤ 9223372036854775807) :
    Calls Try.prog 7 #[.slice (some ⟨b, off, none⟩) n cap, .int .i64 x] w fun e w' => ∃ g c, e = .returned (.slice (some ⟨g, 0, none⟩) (n + (groups (clampN x)).length) c) ∧ w.heap.size ≤ g ∧ n + (groups (clampN x)).length ≤ c ∧ Row 5 w' g (n + (groups (clampN x)).length) (fun i => (lof n f ++ groups (clampN x)).getD i 0) ∧ Below w.heap.size w w' := by
  go_enter Try.func7, Try.ntmps7
  go_wp2_with fail
  have hb1 : Below w.heap.size w (w.alloc (.cells #[.int .i64 x] 3)) := (Below.refl _ _).alloc (Nat.le_refl _) _
  refine (putNums_one b off n cap f x w.heap.size _ (hv.below hb1) hn hx0 hx1 (by simp)).mono ?_
  rintro e w2 ⟨g, c, rfl, hg, hgc, hrow, hb2⟩
  go_wp2
  go_ret
  exact ⟨g, c, rfl, by simp at hg; omega, hgc, hrow, hb1.trans (hb2.mono (by simp))⟩
end Go.Proofs.Ytjkoipdcpkkkeaa
