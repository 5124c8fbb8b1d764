/-
  The draws of layer 3, as far as a law leans on them.
-/
import Derived.Test.YthjddmhcppdleabDrawStr
namespace Go.Proofs.Ythjddmhcppdleab
open Go.RowKit

set_option maxHeartbeats 1000000 in
theorem drawPutEsc_any (ao : Option Addr) (n cap : Nat) (f : Nat → Int) (w : World) (hn : n ≤ 1048576) (hv : View w ao n cap f) :
    Calls Try.prog 6 #[.slice ao n cap] w fun e w' => (∃ (b c m : Nat) (l : List Int) (s : ByteArray), e = .returned (.tuple #[.slice (some ⟨b, 0, none⟩) m c, .string s]) ∧ s.size ≤ 4 ∧ Own9 w w' m b c l) ∧ Below w.heap.size w w' := by
  go_enter Try.func6, Try.ntmps6
  go_wp2_with fail
  refine (l1New_any ao n cap f w hn hv).mono ?_
  rintro e w1 ⟨rfl, hC1, hb1⟩
  go_wp2_with fail
  refine (l1Some_any w.heap.size ao n cap f w1 hn hC1).mono ?_
  rintro e w2 ⟨⟨b, c, m, l, hD⟩, hC2, hB2⟩
  obtain ⟨rfl, h1, h2, h3, h4, h5, h6⟩ := hD
  have hl1 := hC1.lt
  have hs1 := hb1.size
  clear hC1
  go_wp2_with fail
  refine (l2Text_any w.heap.size ao n cap f w2 hn hC2).mono ?_
  rintro e w3 ⟨s, rfl, hs, hC3, hB3⟩
  have h7 := hB3.row h5 (by omega)
  have HB : Hid (Below w.heap.size w w3) := hb1.trans ((hB2.trans hB3).below (Nat.le_refl _) hs1)
  have HO : Hid (Own9 w w3 m b c l) := ⟨h1, h2, by omega, h4, h7, h6⟩
  clear hB2 hB3 hC2 hC3 h5 h7 h1 h2
  go_wp2
  go_ret2
  exact ⟨⟨b, c, m, l, s, rfl, hs, HO.out⟩, HB.out⟩

set_option maxHeartbeats 2000000 in
theorem drawFlip_any (ao : Option Addr) (n cap : Nat) (f : Nat → Int) (w : World) (hn : n ≤ 1048576) (hv : View w ao n cap f) :
    Calls Try.prog 14 #[.slice ao n cap] w fun e w' => (∃ (b c m : Nat) (l : List Int) (x : Int), e = .returned (.tuple #[.slice (some ⟨b, 0, none⟩) m c, .int .i64 x]) ∧ -9223372036854775808 ≤ x ∧ x ≤ 9223372036854775807 ∧ Own9 w w' m b c l) ∧ Below w.heap.size w w' := by
  go_enter Try.func14, Try.ntmps14
  go_wp2_with fail
  refine (l1New_any ao n cap f w hn hv).mono ?_
  rintro e w1 ⟨rfl, hC1, hb1⟩
  go_wp2_with fail
  refine (l1Some_any w.heap.size ao n cap f w1 hn hC1).mono ?_
  rintro e w2 ⟨⟨b, c, m, l, hD⟩, hC2, hB2⟩
  obtain ⟨rfl, h1, h2, h3, h4, h5, h6⟩ := hD
  have hl1 := hC1.lt
  have hs1 := hb1.size
  have hl2 := hC2.lt
  have hlb := h5.lt
  clear hC1
  have HZ : Hid _ := newInts w2 [0, 1, 2, 9, -1, -9223372036854775808, 9223372036854775807] 3
  have hb4 : Below w2.heap.size w2 (w2.alloc (.cells #[.int .i64 0, .int .i64 1, .int .i64 2, .int .i64 9, .int .i64 (-1), .int .i64 (-9223372036854775808), .int .i64 9223372036854775807] 3)) := (Below.refl _ _).alloc (Nat.le_refl _) _
  have HL : Hid (l.length = m) := h1
  have HY : Hid (∀ y ∈ l, 0 ≤ y ∧ y ≤ 255) := h2
  clear h1 h2
  go_wp2_with fail
  refine (l1Int_any w.heap.size ao n cap f w2.heap.size 7 (fun i => [0, 1, 2, 9, -1, -9223372036854775808, 9223372036854775807].getD i 0) _ hn (by omega) (by omega) HZ.out (by omega) (hC2.below hb4)).mono ?_
  rintro e w4 ⟨j, hj, rfl, hC4, hO4⟩
  have hmem : [(0 : Int), 1, 2, 9, -1, -9223372036854775808, 9223372036854775807].getD j 0 ∈ [(0 : Int), 1, 2, 9, -1, -9223372036854775808, 9223372036854775807] := getD_mem hj
  have hxb : -9223372036854775808 ≤ [(0 : Int), 1, 2, 9, -1, -9223372036854775808, 9223372036854775807].getD j 0 ∧ [(0 : Int), 1, 2, 9, -1, -9223372036854775808, 9223372036854775807].getD j 0 ≤ 9223372036854775807 := by
    simp only [List.mem_cons, List.not_mem_nil, or_false] at hmem
    omega
  clear hmem HZ
  generalize [(0 : Int), 1, 2, 9, -1, -9223372036854775808, 9223372036854775807].getD j 0 = x at *
  obtain ⟨hx0, hx1⟩ := hxb
  have hB4 : But w.heap.size w1 w4 := hB2.trans ((But.ofBelow hb4).trans (But.ofOnly hO4))
  have h8 := hO4.row (h5.belowAll hb4) (by omega)
  have hfin : Below w.heap.size w w4 := hb1.trans (hB4.below (Nat.le_refl _) hs1)
  clear hO4 hb4 hC4 hC2 h5 hB4 hB2
  go_wp2
  go_ret2
  exact ⟨⟨b, c, m, l, x, rfl, hx0, hx1, HL.out, HY.out, by omega, h4, h8, h6⟩, hfin⟩
end Go.Proofs.Ythjddmhcppdleab
