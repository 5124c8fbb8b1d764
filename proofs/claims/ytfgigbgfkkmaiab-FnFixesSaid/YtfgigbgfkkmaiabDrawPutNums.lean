/-
  The draws of bytes and a number of layer 4, as far as a law leans on them.
-/
import Derived.Test.YtfgigbgfkkmaiabDrawCore
import Derived.Test.YtfgigbgfkkmaiabDrawNum
namespace Go.Proofs.Ytfgigbgfkkmaiab
open Go.RowKit

set_option maxHeartbeats 2000000 in
theorem drawPutFix_any (ao : Option Addr) (n cap : Nat) (f : Nat → Int) (w : World) (hn : n ≤ 1048576) (hv : View w ao n cap f) :
    Calls Try.prog 21 #[.slice ao n cap] w fun e w' => (∃ (b c m : Nat) (l : List Int) (x : Int), e = .returned (.tuple #[.slice (some ⟨b, 0, none⟩) m c, .int .i64 x]) ∧ I64 x ∧ Own9 w w' m b c l) ∧ Below w.heap.size w w' := by
  go_enter Try.func21, Try.ntmps21
  go_wp2_with fail
  refine (l1New_any ao n cap f w hn hv).mono ?_
  rintro e w1 ⟨rfl, hC1, hb1⟩
  go_wp2_with fail
  refine (l1Some_any w.heap.size ao n cap f w1 hn hC1).mono ?_
  rintro e w2 ⟨⟨b, c, m, l, hD⟩, hC2, hB2⟩
  obtain ⟨rfl, h1, h2, h3, h4, h5, h6⟩ := hD
  have hlb := h5.lt
  have HL : Hid (l.length = m) := h1
  have HY : Hid (∀ y ∈ l, 0 ≤ y ∧ y ≤ 255) := h2
  have hs1 := hb1.size
  have hl1 := hC1.lt
  clear h1 h2 hC1
  go_wp2_with fail
  refine (l1Num_any w.heap.size ao n cap f w2 hn hC2).mono ?_
  rintro e w3 ⟨x, rfl, hx, -, hB3⟩
  have HX : Hid (I64 x) := hx
  have HR : Hid (Row 5 w3 b m (fun i => l.getD i 0)) := h5.of_block (hB3.block b hlb (by omega))
  have HB : Hid (Below w.heap.size w w3) := hb1.trans ((hB2.trans hB3).below (Nat.le_refl _) hs1)
  clear h5 hB2 hB3 hC2 hx
  go_wp2
  go_ret2
  exact ⟨⟨b, c, m, l, x, rfl, HX.out, HL.out, HY.out, by omega, h4, HR.out, h6⟩, HB.out⟩

set_option maxHeartbeats 2000000 in
theorem drawPutVar_any (ao : Option Addr) (n cap : Nat) (f : Nat → Int) (w : World) (hn : n ≤ 1048576) (hv : View w ao n cap f) :
    Calls Try.prog 25 #[.slice ao n cap] w fun e w' => (∃ (b c m : Nat) (l : List Int) (x : Int), e = .returned (.tuple #[.slice (some ⟨b, 0, none⟩) m c, .int .i64 x]) ∧ I64 x ∧ Own9 w w' m b c l) ∧ Below w.heap.size w w' := by
  go_enter Try.func25, Try.ntmps25
  go_wp2_with fail
  refine (l1New_any ao n cap f w hn hv).mono ?_
  rintro e w1 ⟨rfl, hC1, hb1⟩
  go_wp2_with fail
  refine (l1Some_any w.heap.size ao n cap f w1 hn hC1).mono ?_
  rintro e w2 ⟨⟨b, c, m, l, hD⟩, hC2, hB2⟩
  obtain ⟨rfl, h1, h2, h3, h4, h5, h6⟩ := hD
  have hlb := h5.lt
  have HL : Hid (l.length = m) := h1
  have HY : Hid (∀ y ∈ l, 0 ≤ y ∧ y ≤ 255) := h2
  have hs1 := hb1.size
  have hl1 := hC1.lt
  clear h1 h2 hC1
  go_wp2_with fail
  refine (l1Num_any w.heap.size ao n cap f w2 hn hC2).mono ?_
  rintro e w3 ⟨x, rfl, hx, -, hB3⟩
  have HX : Hid (I64 x) := hx
  have HR : Hid (Row 5 w3 b m (fun i => l.getD i 0)) := h5.of_block (hB3.block b hlb (by omega))
  have HB : Hid (Below w.heap.size w w3) := hb1.trans ((hB2.trans hB3).below (Nat.le_refl _) hs1)
  clear h5 hB2 hB3 hC2 hx
  go_wp2
  go_ret2
  exact ⟨⟨b, c, m, l, x, rfl, HX.out, HL.out, HY.out, by omega, h4, HR.out, h6⟩, HB.out⟩

end Go.Proofs.Ytfgigbgfkkmaiab
