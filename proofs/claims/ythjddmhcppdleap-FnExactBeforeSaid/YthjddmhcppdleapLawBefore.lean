/-
  The model's Before, and the walk over the law FnExactBefore: it answers true and writes nothing that was there, at every two slices of bytes that read.
-/
import Derived.Test.YthjddmhcppdleapBefore
import Derived.Test.YthjddmhcppdleapSlices
namespace Go.Proofs.Ythjddmhcppdleap
open Go.RowKit

theorem before_spec (b1 o1 n c1 : Nat) (f : Nat → Int) (b2 o2 m c2 : Nat) (g : Nat → Int) (w : World) (h1 : View w (some ⟨b1, o1, none⟩) n c1 f) (h2 : View w (some ⟨b2, o2, none⟩) m c2 g) :
    Calls Try.prog 14 #[.slice (some ⟨b1, o1, none⟩) n c1, .slice (some ⟨b2, o2, none⟩) m c2] w fun e w' => e = .returned (.bool (ahead (lof n f) (lof m g))) ∧ w = w' := by
  have q1 := conv_view h1
  have q2 := conv_view h2
  go_enter Try.func14, Try.ntmps14
  go_wp2
  go_ret
  exact ⟨rfl, rfl⟩

set_option maxHeartbeats 1000000 in
theorem lawBefore (a1 : Option Addr) (n c1 : Nat) (f : Nat → Int) (a2 : Option Addr) (m c2 : Nat) (g : Nat → Int) (w : World) (hv : View w a1 n c1 f) (hu : View w a2 m c2 g) :
    Calls Try.prog 5 #[.slice a1 n c1, .slice a2 m c2] w fun e w' => e = .returned (.bool true) ∧ Below w.heap.size w w' := by
  by_cases hbig : 1048576 < n
  · have hz : (1048576 : Int) < (n : Int) := by omega
    go_enter Try.func5, Try.ntmps5
    go_wp2
    go_ret
    exact ⟨rfl, Below.refl _ _⟩
  have hz : (n : Int) ≤ 1048576 := by omega
  by_cases hbig2 : 1048576 < m
  · have hz : (1048576 : Int) < (m : Int) := by omega
    go_enter Try.func5, Try.ntmps5
    go_wp2
    go_ret
    exact ⟨rfl, Below.refl _ _⟩
  have hz2 : (m : Int) ≤ 1048576 := by omega
  obtain ⟨x, hx⟩ : ∃ x, Hid (ahead (lof n f) (lof m g) = x) := ⟨_, rfl⟩
  go_enter Try.func5, Try.ntmps5
  go_wp2_with fail
  refine (toByteS_any a1 n c1 f w hv (by omega)).mono ?_
  rintro e w1 ⟨rfl, hr1, hb1, -⟩
  have hk1 := hr1.lt
  go_wp2_with fail
  refine (toByteS_any a2 m c2 g w1 (hu.below hb1) (by omega)).mono ?_
  rintro e w2 ⟨rfl, hr2, hb2, -⟩
  have hr12 := rowBelow hr1 hb2 hk1
  replace hb2 := hb1.trans (hb2.mono hb1.size)
  clear hr1 hb1 hk1
  go_wp2_with fail
  refine (before_spec _ 0 n n f _ 0 m m g w2 (View.ofRow hr12 (Nat.le_refl _) (Nat.le_refl _) hv.byte) (View.ofRow hr2 (Nat.le_refl _) (Nat.le_refl _) hu.byte)).mono ?_
  rw [hx.out]
  rintro e _ ⟨rfl, rfl⟩
  clear hr12 hr2
  go_wp2_with fail
  refine (toByteS_any a1 n c1 f w2 (hv.below hb2) (by omega)).mono ?_
  rintro e w3 ⟨rfl, hr3, hb3, -⟩
  replace hb3 := hb2.trans (hb3.mono hb2.size)
  clear hb2
  go_wp2_with fail
  refine (toByteS_any a2 m c2 g w3 (hu.below hb3) (by omega)).mono ?_
  rintro e w4 ⟨rfl, hr4, hb4, -⟩
  have hr34 := rowBelow hr3 hb4 hr3.lt
  replace hb4 := hb3.trans (hb4.mono hb3.size)
  clear hb3 hr3
  go_wp2_with fail
  refine (before_impl _ 0 n n f _ 0 m m g w4 (View.ofRow hr34 (Nat.le_refl _) (Nat.le_refl _) hv.byte) (View.ofRow hr4 (Nat.le_refl _) (Nat.le_refl _) hu.byte)).mono ?_
  rw [hx.out]
  rintro e _ ⟨rfl, rfl⟩
  clear hx
  go_wp2_with fail
  refine (toByteS_any a1 n c1 f w4 (hv.below hb4) (by omega)).mono ?_
  rintro e w5 ⟨rfl, hr5, hb5, -⟩
  have hr35 := rowBelow hr34 hb5 hr34.lt
  have hr45 := rowBelow hr4 hb5 hr4.lt
  replace hb5 := hb4.trans (hb5.mono hb4.size)
  clear hb4 hr34 hr4
  go_wp2_with fail
  refine (eqByteS_same _ _ n n n f f w5 (View.ofRow hr35 (Nat.le_refl _) (Nat.le_refl _) hv.byte) (View.ofRow hr5 (Nat.le_refl _) (Nat.le_refl _) hv.byte) (by omega) (fun _ _ => rfl)).mono ?_
  rintro e w6 ⟨rfl, hb6⟩
  have hr46 := rowBelow hr45 hb6 hr45.lt
  replace hb6 := hb5.trans (hb6.mono hb5.size)
  clear hb5 hr5 hr35 hr45
  go_wp2_with fail
  refine (toByteS_any a2 m c2 g w6 (hu.below hb6) (by omega)).mono ?_
  rintro e w7 ⟨rfl, hr7, hb7, -⟩
  have hr47 := rowBelow hr46 hb7 hr46.lt
  replace hb7 := hb6.trans (hb7.mono hb6.size)
  clear hb6 hr46
  go_wp2_with fail
  refine (eqByteS_same _ _ m m m g g w7 (View.ofRow hr47 (Nat.le_refl _) (Nat.le_refl _) hu.byte) (View.ofRow hr7 (Nat.le_refl _) (Nat.le_refl _) hu.byte) (by omega) (fun _ _ => rfl)).mono ?_
  rintro e w8 ⟨rfl, hb8⟩
  replace hb8 := hb7.trans (hb8.mono hb7.size)
  clear hb7 hr7 hr47
  go_wp2
  go_ret
  exact ⟨rfl, hb8⟩
end Go.Proofs.Ythjddmhcppdleap
