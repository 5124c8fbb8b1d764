/-
  The draws of bytes that may be a number in order, and of a place, as far as a law leans on them.
-/
import Derived.Test.YtfgigbgfkkmaiabDrawBend
import Derived.Test.YtfgigbgfkkmaiabDrawNum
import Derived.Test.YtfgigbgfkkmaiabGetVarSpec
import Derived.Test.YtfgigbgfkkmaiabPutFixSpec
namespace Go.Proofs.Ytfgigbgfkkmaiab
open Go.RowKit

set_option maxHeartbeats 2000000 in
theorem drawGetFix_any (ao : Option Addr) (n cap : Nat) (f : Nat → Int) (w : World) (hn : n ≤ 1048576) (hv : View w ao n cap f) :
    Calls Try.prog 31 #[.slice ao n cap] w fun e w' => (∃ (b c m : Nat) (F : Nat → Int) (x : Int), e = .returned (.tuple #[.slice (some ⟨b, 0, none⟩) m c, .int .i64 x]) ∧ m ≤ 20 ∧ -1 ≤ x ∧ x ≤ 9223372036854775807 ∧ View w' (some ⟨b, 0, none⟩) m c F) ∧ Below w.heap.size w w' := by
  go_enter Try.func31, Try.ntmps31
  go_wp2_with fail
  refine (l1New_any ao n cap f w hn hv).mono ?_
  rintro e w1 ⟨rfl, hC1, hb1⟩
  have hl1 := hC1.lt
  have hs1 := hb1.size
  have HC : Hid (∀ a, ao = some a → 0 < n → a.block < w1.heap.size) := hC1.code
  have hb2 : Below w1.heap.size w1 (w1.alloc (.cells #[] 5)) := (Below.refl _ _).alloc (Nat.le_refl _) _
  go_wp2_with fail
  refine (l1Num_any w.heap.size ao n cap f _ hn (hC1.below hb2)).mono ?_
  rintro e w3 ⟨z, rfl, hz, hC3, hB3⟩
  have HZ : Hid (I64 z) := hz
  have hB13 : But w.heap.size w1 w3 := (But.ofBelow hb2).trans hB3
  clear hC1 hb2 hB3 hz
  have hs3 : w1.heap.size ≤ w3.heap.size := hB13.size
  go_wp2_with fail
  refine (putFix_own w1.heap.size 0 0 0 (fun _ => 0) z w3 (view_nil _ _) (by omega) HZ.out.1 HZ.out.2).mono ?_
  rintro e w4 ⟨v, rfl, hown, hb4⟩
  rw [Nat.zero_add, show lof 0 (fun _ => (0 : Int)) = [] from rfl, List.nil_append] at hown
  obtain ⟨N, l, hN0, hN8, HL, HY, hown⟩ : ∃ (N : Nat) (l : List Int), 0 < N ∧ N ≤ 8 ∧ Hid (l.length = N) ∧ Hid (∀ y ∈ l, 0 ≤ y ∧ y ≤ 255) ∧ w4.ownsRow w3.heap.size 5 1 v N (bl l) := ⟨_, _, by omega, by omega, fixL_len z, fixL_byte z, hown⟩
  have hC4 := hC3.below hb4
  have hK4 : Kept w3.heap.size w.heap.size w3 w4 := ⟨hb4.os, hb4.tape, hb4.output, hb4.size, fun k hk _ => hb4.block k hk⟩
  have hs4 := hb4.size
  clear hC3 hb4 HZ
  go_wp2_with fail
  refine (l1Bend_any w.heap.size ao n cap f w3.heap.size v N l w4 hn hN0 (by omega) hC4 hown HL.out HY.out (by omega) (fun a ha h0 => by have := HC.out a ha h0; omega) hs4).mono ?_
  rintro e w5 ⟨⟨b, c, m, F, hD⟩, hC5, hK5⟩
  obtain ⟨rfl, hm, hbn, hV⟩ := hD
  have hK35 := hK4.trans hK5
  have hs5 := hK5.size
  clear hown HL HY hC4 hK4 hK5
  go_wp2_with fail
  refine (l1At_any w.heap.size ao n cap f (some ⟨b, 0, none⟩) m c w5 hn (by omega) hC5).mono ?_
  rintro e w6 ⟨x, rfl, hx0, hx1, -, hB6⟩
  have HV : Hid (View w6 (some ⟨b, 0, none⟩) m c F) := hB6.view hV (fun a ha _ => by cases ha; show b ≠ w.heap.size; omega)
  have HB : Hid (Below w.heap.size w w6) := hb1.trans ((hB13.below (Nat.le_refl _) (by omega)).trans ((hK35.below (Nat.le_refl _) (by omega)).trans (hB6.below (Nat.le_refl _) (by omega))))
  clear hV hB13 hK35 hB6 hC5
  go_wp2
  go_ret2
  exact ⟨⟨b, c, m, F, x, rfl, by omega, hx0, hx1, HV.out⟩, HB.out⟩

set_option maxHeartbeats 2000000 in
theorem drawGetVar_any (ao : Option Addr) (n cap : Nat) (f : Nat → Int) (w : World) (hn : n ≤ 1048576) (hv : View w ao n cap f) :
    Calls Try.prog 29 #[.slice ao n cap] w fun e w' => (∃ (b c m : Nat) (F : Nat → Int) (x : Int), e = .returned (.tuple #[.slice (some ⟨b, 0, none⟩) m c, .int .i64 x]) ∧ m ≤ 20 ∧ -1 ≤ x ∧ x ≤ 9223372036854775807 ∧ View w' (some ⟨b, 0, none⟩) m c F) ∧ Below w.heap.size w w' := by
  go_enter Try.func29, Try.ntmps29
  go_wp2_with fail
  refine (l1New_any ao n cap f w hn hv).mono ?_
  rintro e w1 ⟨rfl, hC1, hb1⟩
  have hl1 := hC1.lt
  have hs1 := hb1.size
  have HC : Hid (∀ a, ao = some a → 0 < n → a.block < w1.heap.size) := hC1.code
  have hb2 : Below w1.heap.size w1 (w1.alloc (.cells #[] 5)) := (Below.refl _ _).alloc (Nat.le_refl _) _
  go_wp2_with fail
  refine (l1Num_any w.heap.size ao n cap f _ hn (hC1.below hb2)).mono ?_
  rintro e w3 ⟨z, rfl, hz, hC3, hB3⟩
  have HZ : Hid (I64 z) := hz
  have hB13 : But w.heap.size w1 w3 := (But.ofBelow hb2).trans hB3
  clear hC1 hb2 hB3 hz
  have hs3 : w1.heap.size ≤ w3.heap.size := hB13.size
  go_wp2_with fail
  refine (putVar_own w1.heap.size 0 0 0 (fun _ => 0) z w3 (view_nil _ _) (by omega) HZ.out.1 HZ.out.2).mono ?_
  rintro e w4 ⟨v, rfl, hown, hb4⟩
  rw [Nat.zero_add, show lof 0 (fun _ => (0 : Int)) = [] from rfl, List.nil_append] at hown
  obtain ⟨N, l, hN0, hN8, HL, HY, hown⟩ : ∃ (N : Nat) (l : List Int), 0 < N ∧ N ≤ 8 ∧ Hid (l.length = N) ∧ Hid (∀ y ∈ l, 0 ≤ y ∧ y ≤ 255) ∧ w4.ownsRow w3.heap.size 5 1 v N (bl l) := ⟨_, _, (varL_len z).1, (varL_len z).2, rfl, varL_byte z, hown⟩
  have hC4 := hC3.below hb4
  have hK4 : Kept w3.heap.size w.heap.size w3 w4 := ⟨hb4.os, hb4.tape, hb4.output, hb4.size, fun k hk _ => hb4.block k hk⟩
  have hs4 := hb4.size
  clear hC3 hb4 HZ
  go_wp2_with fail
  refine (l1Bend_any w.heap.size ao n cap f w3.heap.size v N l w4 hn hN0 (by omega) hC4 hown HL.out HY.out (by omega) (fun a ha h0 => by have := HC.out a ha h0; omega) hs4).mono ?_
  rintro e w5 ⟨⟨b, c, m, F, hD⟩, hC5, hK5⟩
  obtain ⟨rfl, hm, hbn, hV⟩ := hD
  have hK35 := hK4.trans hK5
  have hs5 := hK5.size
  clear hown HL HY hC4 hK4 hK5
  go_wp2_with fail
  refine (l1At_any w.heap.size ao n cap f (some ⟨b, 0, none⟩) m c w5 hn (by omega) hC5).mono ?_
  rintro e w6 ⟨x, rfl, hx0, hx1, -, hB6⟩
  have HV : Hid (View w6 (some ⟨b, 0, none⟩) m c F) := hB6.view hV (fun a ha _ => by cases ha; show b ≠ w.heap.size; omega)
  have HB : Hid (Below w.heap.size w w6) := hb1.trans ((hB13.below (Nat.le_refl _) (by omega)).trans ((hK35.below (Nat.le_refl _) (by omega)).trans (hB6.below (Nat.le_refl _) (by omega))))
  clear hV hB13 hK35 hB6 hC5
  go_wp2
  go_ret2
  exact ⟨⟨b, c, m, F, x, rfl, by omega, hx0, hx1, HV.out⟩, HB.out⟩

end Go.Proofs.Ytfgigbgfkkmaiab
