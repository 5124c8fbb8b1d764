/-
  The draw of a text of layer 1, as far as a law leans on it.
-/
import Derived.Test.YthjddmhcppdleabDrawCore
namespace Go.Proofs.Ythjddmhcppdleab
open Go.RowKit

set_option maxHeartbeats 2000000 in
theorem drawPutText_any (ao : Option Addr) (n cap : Nat) (f : Nat → Int) (w : World) (hn : n ≤ 1048576) (hv : View w ao n cap f) :
    Calls Try.prog 7 #[.slice ao n cap] w fun e w' => (∃ (b c m : Nat) (l : List Int) (k : List Int), e = .returned (.tuple #[.slice (some ⟨b, 0, none⟩) m c, .string (strOfNums k)]) ∧ k.length ≤ 9 ∧ (∀ y ∈ k, 0 ≤ y ∧ y ≤ 255) ∧ Own9 w w' m b c l) ∧ Below w.heap.size w w' := by
  go_enter Try.func7, Try.ntmps7
  go_wp2_with fail
  refine (l1New_any ao n cap f w hn hv).mono ?_
  rintro e w1 ⟨rfl, hC1, hb1⟩
  go_wp2_with fail
  go_region_with (go_at_call 19; refine (l1Some_any w.heap.size ao n cap f _ hn ?_).mono ?_; (repeat (first | assumption | refine Cur.drew ?_)); rintro e wn ⟨⟨b, c, m, l, hD⟩, hC2, hB2⟩; obtain ⟨rfl, h1, h2, h3, h4, h5, h6⟩ := hD; have hq := conv_drawn h1 h2 h4 h5)
  rename_i wa ba ca ma la hCa hBa a1 a2 a3 a4 a5 a6 hqa
  have hs1 : w.heap.size < w1.heap.size := hC1.lt
  have hsa : w1.heap.size ≤ wa.heap.size := hBa.size
  have ha3 : w1.heap.size ≤ ba := a3
  have hrow := hB2.row a5 (by omega)
  have hfin : Below w.heap.size w wn := hb1.trans (((Below.refl _ w1).drew.trans (hBa.below (Nat.le_refl _) (by exact Nat.le_of_lt hs1))).trans (hB2.below (Nat.le_refl _) (by omega)))
  have hO : Own9 w wn ma ba ca la := ⟨a1, a2, by omega, a4, hrow, a6⟩
  have HK : Hid (l.length ≤ 9 ∧ ∀ y ∈ l, 0 ≤ y ∧ y ≤ 255) := ⟨by omega, h2⟩
  clear hq hqa h1 h2 h3 h4 h5 h6 a1 a2 a3 a4 a5 a6 hrow hB2 hC2 hCa hBa hC1
  go_wp2
  go_ret2
  exact ⟨⟨ba, ca, ma, la, l, rfl, HK.out.1, HK.out.2, hO⟩, hfin⟩
end Go.Proofs.Ythjddmhcppdleab
