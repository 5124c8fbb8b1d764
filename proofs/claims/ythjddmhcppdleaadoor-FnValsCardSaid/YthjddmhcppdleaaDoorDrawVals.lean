/-
  The draws of a value and of a text that may be a value's, as far as a law leans on them.
-/
import Derived.Test.YthjddmhcppdleaaDoorDrawAny
import Derived.Test.YthjddmhcppdleaaDoorTextModel
import Derived.Test.YthjddmhcppdleaaDoorValsPlain
namespace Go.Proofs.YthjddmhcppdleaaDoor
open Go.RowKit

theorem newAt (A : Nat) (ao : Option Addr) (n cap : Nat) (f : Nat → Int) (w : World) (hA : A = w.heap.size) (hn : n ≤ 1048576) (hv : View w ao n cap f) :
    Calls Tryd.prog 13 #[.slice ao n cap] w fun e w' => e = .returned (.pointer (some ⟨A, 0, none⟩)) ∧ Cur w' A ao n cap f ∧ Below w.heap.size w w' := by
  subst hA
  exact l1New_any ao n cap f w hn hv

set_option maxHeartbeats 2000000 in
theorem drawValText_any (ao : Option Addr) (n cap : Nat) (f : Nat → Int) (w : World) (hn : n ≤ 1048576) (hv : View w ao n cap f) :
    Calls Tryd.prog 5 #[.slice ao n cap] w fun e w' => (∃ (k m : Int) (s : ByteArray), e = .returned (.agg #[.int .i64 k, .int .i64 m, .string s]) ∧ s.size ≤ 40) ∧ Below w.heap.size w w' := by
  have hb0 : Below w.heap.size w (w.alloc (.cells #[.int .i64 0, .int .i64 0, .string ⟨#[]⟩] 25)) := (Below.refl _ _).alloc (Nat.le_refl _) _
  have hR0 := Box.new w 0 0 ⟨#[]⟩
  obtain ⟨A, hA⟩ : ∃ A, A = (w.alloc (.cells #[.int .i64 0, .int .i64 0, .string ⟨#[]⟩] 25)).heap.size := ⟨_, rfl⟩
  have hPA : w.heap.size < A := by rw [hA]; simp
  go_enter Tryd.func5, Tryd.ntmps5
  go_wp2_with fail
  refine (newAt A ao n cap f _ hA hn (hv.below hb0)).mono ?_
  rintro e w1 ⟨rfl, hC1, hb1⟩
  have hR1 := hR0.below hb1
  have hB1 : Below w.heap.size w w1 := hb0.trans (hb1.mono hb0.size)
  clear hb0 hb1 hR0 hA
  go_wp2_with fail
  refine (l2Any_any A ao n cap f w1 hn hC1).mono ?_
  rintro e w2 ⟨k, m, s, rfl, hD⟩
  have hR2 := hR1.but hD.but (by omega)
  have hB2 : Below w.heap.size w w2 := hB1.trans (hD.but.below (by omega) hB1.size)
  have hs := hD.few
  obtain ⟨c0, c1, c2⟩ := hR2.cells
  obtain ⟨f0, f1, f2⟩ := hR2.frozen
  have hgs := stored3 (.int .i64 k) (.int .i64 m) (.string s) c0 c1 c2
  have HB : Hid (Below w.heap.size w (((w2.setCell ⟨w.heap.size, 0, none⟩ (.int .i64 k)).setCell ⟨w.heap.size, 1, none⟩ (.int .i64 m)).setCell ⟨w.heap.size, 2, none⟩ (.string s))) := ((hB2.setCell (Nat.le_refl _) _).setCell (Nat.le_refl _) _).setCell (Nat.le_refl _) _
  clear hC1 hB1 hR1 hD hR2 hB2
  go_wp2
  exact bodyPost_ret (v := .agg #[_, _, _]) (by simp [results, Tryd.results5, go_sem, hgs]) rfl ⟨⟨k, m, s, rfl, hs⟩, HB.out⟩

def oddTexts : List ByteArray := [⟨#[]⟩, ⟨#[105]⟩, ⟨#[105, 48, 49]⟩, ⟨#[105, 45, 48]⟩, ⟨#[110, 49, 48, 48, 48, 48, 48, 48, 48, 48, 48, 48, 48, 48, 48, 48, 49]⟩, ⟨#[105, 50, 49, 52, 55, 52, 56, 51, 54, 52, 56]⟩, ⟨#[39]⟩, ⟨#[39, 39]⟩, ⟨#[39, 97, 39, 98, 39]⟩, ⟨#[121, 101, 115, 115]⟩, ⟨#[120, 49]⟩, ⟨#[110, 45, 53]⟩, ⟨#[105, 43, 49]⟩, ⟨#[110, 57, 57, 57, 57, 57, 57, 57, 57, 57, 57, 57, 57, 57, 57, 57, 57, 57]⟩]
theorem oddTexts_few : ∀ u ∈ oddTexts, u.size ≤ 40 := by decide

set_option maxHeartbeats 2000000 in
theorem drawParseVal_any (ao : Option Addr) (n cap : Nat) (f : Nat → Int) (w : World) (hn : n ≤ 1048576) (hv : View w ao n cap f) :
    Calls Tryd.prog 8 #[.slice ao n cap] w fun e w' => (∃ (t : ByteArray), e = .returned (.string t) ∧ t.size ≤ 80) ∧ Below w.heap.size w w' := by
  go_enter Tryd.func8, Tryd.ntmps8
  go_wp2_with fail
  refine (l1New_any ao n cap f w hn hv).mono ?_
  rintro e w1 ⟨rfl, hC1, hb1⟩
  have hs1 := hb1.size
  go_wp2_with fail
  refine (l2Any_any w.heap.size ao n cap f w1 hn hC1).mono ?_
  rintro e w2 ⟨k, m, s, rfl, hD⟩
  have hs := hD.few
  have hC2 := hD.cur
  have hB2 := hD.but
  clear hD hC1
  go_wp2_with fail
  refine (specValText_any k m s w2 (by omega)).mono ?_
  rintro e w3 ⟨rfl, hb3⟩
  have hC3 := hC2.below hb3
  have hB3 : But w.heap.size w1 w3 := hB2.trans (But.ofBelow hb3)
  have hz : (bytesOf (textF k m s)).size ≤ 40 := by rw [bytesOf_size]; exact textF_len k m s
  generalize bytesOf (textF k m s) = z at *
  clear hC2 hB2 hb3 hs
  go_wp2_with fail
  refine (l1Below_any w.heap.size ao n cap f 4 w3 hn (by omega) (by omega) hC3).mono ?_
  rintro e w4 ⟨x, rfl, hx0, hx1, hC4, hO4⟩
  have hB4 := hB3.trans (But.ofOnly hO4)
  clear hC3 hB3 hO4
  by_cases h0 : x = 0
  · subst h0
    go_wp2_with fail
    refine (l1Str_of w.heap.size ao n cap f oddTexts w4.heap.size w4 rfl hn (by decide) (by decide) oddTexts_few hC4).mono ?_
    rintro e w5 ⟨t, rfl, ht, -, hB5⟩
    have HB : Hid (Below w.heap.size w w5) := hb1.trans ((hB4.trans hB5).below (Nat.le_refl _) hs1)
    clear hC4 hB4 hB5 hb1
    go_wp2
    go_ret
    exact ⟨⟨t, rfl, by omega⟩, HB.out⟩
  by_cases h1 : x = 1
  · subst h1
    have HL : Hid (∀ u ∈ [(⟨#[48]⟩ : ByteArray), ⟨#[39]⟩, ⟨#[32]⟩], u.size ≤ 40) := by
      intro u hu
      simp only [List.mem_cons, List.not_mem_nil, or_false] at hu
      rcases hu with rfl | rfl | rfl <;> decide
    go_wp2_with fail
    refine (l1Str_of w.heap.size ao n cap f [(⟨#[48]⟩ : ByteArray), ⟨#[39]⟩, ⟨#[32]⟩] w4.heap.size w4 rfl hn (by decide) (by decide) HL.out hC4).mono ?_
    rintro e w5 ⟨t, rfl, ht, -, hB5⟩
    have HB : Hid (Below w.heap.size w w5) := hb1.trans ((hB4.trans hB5).below (Nat.le_refl _) hs1)
    have hzt : (z ++ t).size ≤ 80 := by rw [ByteArray.size_append]; omega
    clear hC4 hB4 hB5 hb1 HL
    go_wp2
    go_ret
    exact ⟨⟨z ++ t, rfl, hzt⟩, HB.out⟩
  · have q0 : (x == 0) = false := by simpa using h0
    have q1 : (x == 1) = false := by simpa using h1
    have HB : Hid (Below w.heap.size w w4) := hb1.trans (hB4.below (Nat.le_refl _) hs1)
    clear hC4 hB4 hb1
    go_wp2
    go_ret
    exact ⟨⟨z, rfl, by omega⟩, HB.out⟩
end Go.Proofs.YthjddmhcppdleaaDoor
