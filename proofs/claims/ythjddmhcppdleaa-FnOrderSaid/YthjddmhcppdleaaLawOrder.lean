/-
  The walk over the law FnOrder: it answers true and writes nothing that was there, at every code that reads.
-/
import Derived.Test.YthjddmhcppdleaaDrawRow
import Derived.Test.YthjddmhcppdleaaOrderPlain
import Derived.Test.YthjddmhcppdleaaRowImpl
import Derived.Test.YthjddmhcppdleaaSameVals
import Derived.Test.YthjddmhcppdleaaBig
namespace Go.Proofs.Ythjddmhcppdleaa
open Go.RowKit

set_option maxHeartbeats 4000000 in
theorem lawOrder (ao : Option Addr) (n cap : Nat) (f : Nat → Int) (w : World) (hv : View w ao n cap f) (hn63 : n ≤ 9223372036854775807) :
    Calls Try.prog 5 #[.slice ao n cap] w fun e w' => e = .returned (.bool true) ∧ Below w.heap.size w w' := by
  by_cases hbig : 1048576 < n
  · have hd : decide ((1048576 : Int) < (n : Int)) = true := by simp; omega
    go_enter Try.func5, Try.ntmps5
    go_wp2_with fail
    refine (big_any ao n cap w hn63).mono ?_
    rw [hd]
    rintro e _ ⟨rfl, rfl⟩
    go_wp2
    go_ret
    exact ⟨rfl, Below.refl _ _⟩
  have hd : decide ((1048576 : Int) < (n : Int)) = false := by simp; omega
  have hn : n ≤ 1048576 := by omega
  clear hbig
  go_enter Try.func5, Try.ntmps5
  go_wp2_with fail
  refine (big_any ao n cap w hn63).mono ?_
  rw [hd]
  rintro e _ ⟨rfl, rfl⟩
  clear hd
  go_wp2_with fail
  refine (drawLessVal_any ao n cap f w hn hv).mono ?_
  rintro e w1 ⟨⟨k, m, s, k', m', s', rfl⟩, hb1⟩
  have hT1 := Two.start w1 42 k m s k' m' s'
  have hB1 : Below w.heap.size w ((w1.alloc (.cells #[.int .i64 k, .int .i64 m, .string s] 42)).alloc (.cells #[.int .i64 k', .int .i64 m', .string s'] 42)) := (hb1.alloc hb1.size _).alloc (by have := hb1.size; simp; omega) _
  clear hb1
  go_wp2_with fail
  refine (drawSameRow_any ao n cap f _ hn (hv.below hB1)).mono ?_
  rintro e w2 ⟨⟨b1, c1, b2, c2, fk, fn, fs, gk, gn, gs, rfl, hU, hV⟩, hb2⟩
  have hT2 := hT1.step hb2
  have hB2 := hB1.trans (hb2.mono hB1.size)
  clear hT1 hB1 hb2 hv
  obtain ⟨z, hz⟩ : ∃ z, Hid (rowEq 2 2 fk fn fs gk gn gs = z) := ⟨_, rfl⟩
  have q := eqVal_run k m s k' m' s'
  have hL := fun W => lessVal_impl k m s k' m' s' W
  have hL2 := fun W => lessVal_impl k' m' s' k m s W
  have hS := fun W => sameVal_impl k m s k' m' s' W
  rcases order3 k m s k' m' s' with ⟨o1, o2, o3⟩ | ⟨o1, o2, o3⟩ | ⟨o1, o2, o3⟩
  all_goals
    rw [o1] at hL
    rw [o2] at hL2
    rw [o3] at hS q
    clear o1 o2 o3
    obtain ⟨⟨a0, a1, a2⟩, b0, b1', b2'⟩ := hT2.cells
    go_wp2_with fail
    refine (hL _).mono ?_
    rintro e w3 ⟨rfl, hb3⟩
    have hT3 := hT2.step hb3
    have hU3 := hU.below hb3
    have hV3 := hV.below hb3
    have hB3 := hB2.trans (hb3.mono hB2.size)
    clear hT2 hb3 hB2 hL a0 a1 a2 b0 b1' b2' hU hV
    obtain ⟨⟨a0, a1, a2⟩, b0, b1', b2'⟩ := hT3.cells
    go_wp2_with fail
    refine (hL2 _).mono ?_
    rintro e w4 ⟨rfl, hb4⟩
    have hT4 := hT3.step hb4
    have hU4 := hU3.below hb4
    have hV4 := hV3.below hb4
    have hB4 := hB3.trans (hb4.mono hB3.size)
    clear hT3 hb4 hB3 hL2 a0 a1 a2 b0 b1' b2' hU3 hV3
    obtain ⟨⟨a0, a1, a2⟩, b0, b1', b2'⟩ := hT4.cells
    go_wp2_with fail
    refine (hS _).mono ?_
    rintro e w5 ⟨rfl, hb5⟩
    have hT5 := hT4.step hb5
    have hU5 := hU4.below hb5
    have hV5 := hV4.below hb5
    have hB5 := hB4.trans (hb5.mono hB4.size)
    clear hT4 hb5 hB4 hS a0 a1 a2 b0 b1' b2' hU4 hV4
    obtain ⟨⟨a0, a1, a2⟩, b0, b1', b2'⟩ := hT5.cells
    go_wp2_with fail
    refine (sameRow_impl _ _ 2 2 c1 c2 fk fn fs gk gn gs w5 hU5 hV5 (by omega) (by omega)).mono ?_
    rw [hz.out]
    rintro e w6 ⟨rfl, hb6⟩
    have hU6 := hU5.below hb6
    have hV6 := hV5.below hb6
    have hB6 := hB5.trans (hb6.mono hB5.size)
    clear hT5 hb6 hB5 hU5 hV5 a0 a1 a2 b0 b1' b2' q
    go_wp2_with fail
    refine (sameVals_any _ _ 2 2 c1 c2 fk fn fs gk gn gs w6 hU6 hV6 (by omega) (by omega)).mono ?_
    rw [hz.out]
    rintro e w7 ⟨rfl, hb7⟩
    have hB7 := hB6.trans (hb7.mono hB6.size)
    clear hb7 hB6 hU6 hV6 hz
    go_wp2
    go_ret
    exact ⟨rfl, hB7⟩
end Go.Proofs.Ythjddmhcppdleaa
