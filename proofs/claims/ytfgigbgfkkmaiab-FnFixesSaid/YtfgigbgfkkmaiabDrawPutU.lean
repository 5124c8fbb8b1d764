/-
  The draw of bytes and of a number of layer 1, as far as a law leans on it.
-/
import Derived.Test.YtfgigbgfkkmaiabDrawCore
namespace Go.Proofs.Ytfgigbgfkkmaiab
open Go.RowKit

set_option maxHeartbeats 2000000 in
theorem drawPutU_any (ao : Option Addr) (n cap : Nat) (f : Nat → Int) (w : World) (hn : n ≤ 1048576) (hv : View w ao n cap f) :
    Calls Try.prog 22 #[.slice ao n cap] w fun e w' => (∃ (b c m : Nat) (l : List Int) (x : Int), e = .returned (.tuple #[.slice (some ⟨b, 0, none⟩) m c, .int .i64 x]) ∧ -9223372036854775808 ≤ x ∧ x ≤ 9223372036854775807 ∧ Own9 w w' m b c l) ∧ Below w.heap.size w w' := by
  go_enter Try.func22, Try.ntmps22
  go_wp2_with fail
  refine (l1New_any ao n cap f w hn hv).mono ?_
  rintro e w1 ⟨rfl, hC1, hb1⟩
  go_wp2_with fail
  refine (l1Some_any w.heap.size ao n cap f w1 hn hC1).mono ?_
  rintro e w2 ⟨⟨b, c, m, l, hD⟩, hC2, hB2⟩
  obtain ⟨rfl, h1, h2, h3, h4, h5, h6⟩ := hD
  have hlb := h5.lt
  have hgl := hC2.lt
  have HL : Hid (l.length = m) := h1
  have HY : Hid (∀ y ∈ l, 0 ≤ y ∧ y ≤ 255) := h2
  have hs1 := hb1.size
  have hl1 := hC1.lt
  clear h1 h2 hC1
  go_wp2_with fail
  refine (l1Below_any w.heap.size ao n cap f 100000 w2 hn (by omega) (by omega) hC2).mono ?_
  rintro e w3 ⟨y, rfl, hy0, hy1, hC3, hO3⟩
  have h7 := hO3.row h5 (by omega)
  have hs3 := hO3.size
  have hB3 := hB2.trans (But.ofOnly hO3)
  have hl3 := hC3.lt
  clear h5 hO3 hB2 hC2
  have HS : Hid (w3.heap.size = w2.heap.size) := hs3
  clear hs3
  have hz := newInts w3 [0, 1, 127, 128, 16383, 16384, 1000000, 1000001, -1, 9223372036854775807, y] 3
  have HZ : Hid _ := hz
  clear hz
  have hb4 : Below w3.heap.size w3 (w3.alloc (.cells #[.int .i64 0, .int .i64 1, .int .i64 127, .int .i64 128, .int .i64 16383, .int .i64 16384, .int .i64 1000000, .int .i64 1000001, .int .i64 (-1), .int .i64 9223372036854775807, .int .i64 y] 3)) := (Below.refl _ _).alloc (Nat.le_refl _) _
  go_wp2_with fail
  refine (l1Int_any w.heap.size ao n cap f w3.heap.size 11 (fun i => [0, 1, 127, 128, 16383, 16384, 1000000, 1000001, -1, 9223372036854775807, y].getD i 0) _ hn (by omega) (by omega) HZ.out (by omega) (hC3.below hb4)).mono ?_
  rintro e w4 ⟨j, hj, rfl, hC4, hO4⟩
  have hmem : [(0 : Int), 1, 127, 128, 16383, 16384, 1000000, 1000001, -1, 9223372036854775807, y].getD j 0 ∈ [(0 : Int), 1, 127, 128, 16383, 16384, 1000000, 1000001, -1, 9223372036854775807, y] := getD_mem hj
  have hxb : -9223372036854775808 ≤ [(0 : Int), 1, 127, 128, 16383, 16384, 1000000, 1000001, -1, 9223372036854775807, y].getD j 0 ∧ [(0 : Int), 1, 127, 128, 16383, 16384, 1000000, 1000001, -1, 9223372036854775807, y].getD j 0 ≤ 9223372036854775807 := by
    simp only [List.mem_cons, List.not_mem_nil, or_false] at hmem
    omega
  clear hmem HZ
  generalize [(0 : Int), 1, 127, 128, 16383, 16384, 1000000, 1000001, -1, 9223372036854775807, y].getD j 0 = x at *
  obtain ⟨hx0, hx1⟩ := hxb
  have hB4 : But w.heap.size w1 w4 := hB3.trans ((But.ofBelow hb4).trans (But.ofOnly hO4))
  have h8 := hO4.row (h7.belowAll hb4) (by omega)
  have hfin : Below w.heap.size w w4 := hb1.trans (hB4.below (Nat.le_refl _) hs1)
  clear hO4 hb4 hB3 hC3 hC4 h7 hB4
  go_wp2
  go_ret2
  exact ⟨⟨b, c, m, l, x, rfl, hx0, hx1, HL.out, HY.out, by omega, h4, h8, h6⟩, hfin⟩
end Go.Proofs.Ytfgigbgfkkmaiab
