/-
  The draw of a number near an edge, as far as a law leans on it.
-/
import Derived.Test.YtfgigbgfkkmaiabDrawList
namespace Go.Proofs.Ytfgigbgfkkmaiab
open Go.RowKit

/-- An int of 64 bits. -/
def I64 (x : Int) : Prop := -9223372036854775808 ≤ x ∧ x ≤ 9223372036854775807

/-- One of a list of numbers that is laid anew. -/
theorem l1Int_of (g : Nat) (ao : Option Addr) (n cap : Nat) (f : Nat → Int) (l : List Int) (A : Nat) (w : World) (hA : A = w.heap.size) (hn : n ≤ 1048576) (h0 : 0 < l.length) (h1 : l.length ≤ 1000) (hl : ∀ y ∈ l, I64 y) (hC : Cur w g ao n cap f) :
    Calls Try.prog 41 #[.pointer (some ⟨g, 0, none⟩), .slice (some ⟨A, 0, none⟩) l.length l.length] (w.alloc (.cells (l.map (Value.int .i64)).toArray 3)) fun e w' => ∃ x : Int, e = .returned (.int .i64 x) ∧ I64 x ∧ Cur w' g ao n cap f ∧ But g w w' := by
  subst hA
  have hb : Below w.heap.size w (w.alloc (.cells (l.map (Value.int .i64)).toArray 3)) := (Below.refl _ _).alloc (Nat.le_refl _) _
  have hg := hC.lt
  refine (l1Int_any g ao n cap f w.heap.size l.length (fun i => l.getD i 0) _ hn h0 (by omega) (newInts w l 3) (by omega) (hC.below hb)).mono ?_
  rintro e w' ⟨j, hj, rfl, hC2, hO2⟩
  exact ⟨_, rfl, hl _ (getD_mem hj), hC2, (But.ofBelow hb).trans (But.ofOnly hO2)⟩

set_option maxHeartbeats 1000000 in
theorem l1Num_any (g : Nat) (ao : Option Addr) (n cap : Nat) (f : Nat → Int) (w : World) (hn : n ≤ 1048576) (hC : Cur w g ao n cap f) :
    Calls Try.prog 42 #[.pointer (some ⟨g, 0, none⟩)] w fun e w' => ∃ x : Int, e = .returned (.int .i64 x) ∧ I64 x ∧ Cur w' g ao n cap f ∧ But g w w' := by
  go_enter Try.func42, Try.ntmps42
  go_wp2_with fail
  refine (l1Below_any g ao n cap f 100000 w hn (by omega) (by omega) hC).mono ?_
  rintro e w1 ⟨y, rfl, hy0, hy1, hC1, hO1⟩
  clear hC
  go_wp2_with fail
  refine (l1Below_any g ao n cap f 100000 w1 hn (by omega) (by omega) hC1).mono ?_
  rintro e w2 ⟨z, rfl, hz0, hz1, hC2, hO2⟩
  have HB : Hid (But g w w2) := (But.ofOnly hO1).trans (But.ofOnly hO2)
  have HL : Hid (∀ u ∈ [0, 1, -1, 63, 127, 128, 255, 256, 65535, 65536, 2147483647, -2147483648, 2147483648, -2147483649, 1000000000000000, -1000000000000000, 1000000000000001, 9223372036854775807, -9223372036854775808, y, -z], I64 u) := by
    intro u hu
    simp only [List.mem_cons, List.not_mem_nil, or_false] at hu
    unfold I64
    omega
  clear hO1 hO2 hC1
  go_wp2_with fail
  refine (l1Int_of g ao n cap f [0, 1, -1, 63, 127, 128, 255, 256, 65535, 65536, 2147483647, -2147483648, 2147483648, -2147483649, 1000000000000000, -1000000000000000, 1000000000000001, 9223372036854775807, -9223372036854775808, y, -z] _ w2 rfl hn (by simp) (by simp) HL.out hC2).mono ?_
  rintro e w3 ⟨x, rfl, hx, hC3, hB3⟩
  have HX : Hid (I64 x) := hx
  clear HL hx
  go_wp2
  go_ret
  exact ⟨x, rfl, HX.out, hC3, HB.out.trans hB3⟩

end Go.Proofs.Ytfgigbgfkkmaiab
