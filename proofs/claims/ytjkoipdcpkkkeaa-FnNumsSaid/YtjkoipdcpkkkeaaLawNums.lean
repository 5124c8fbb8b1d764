/-
  The walk over the law FnNums: it answers true and writes nothing that was there, at every code that reads.
-/
import Derived.Test.YtjkoipdcpkkkeaaDrawSome
import Derived.Test.YtjkoipdcpkkkeaaNumsPlain
import Derived.Test.YtjkoipdcpkkkeaaGetTextImpl
import Derived.Test.YtjkoipdcpkkkeaaPutTextImpl
import Derived.Test.YtjkoipdcpkkkeaaPutImpl
import Derived.Test.YtjkoipdcpkkkeaaBig
namespace Go.Proofs.Ytjkoipdcpkkkeaa
open Go.RowKit

/-- A number that is put behind drawn bytes, and what is read there. -/
theorem putU_back (w0 : World) (b m c : Nat) (l : List Int) (x y : Int) (w : World) (hO : Own9 w0 w m b c l) (hx0 : -9223372036854775808 ≤ x) (hx1 : x ≤ 9223372036854775807) (hy : clampN x = y) :
    Calls Try.prog 7 #[.slice (some ⟨b, 0, none⟩) m c, .int .i64 x] w fun e w' => ∃ (g cg N : Nat) (F : Nat → Int), e = .returned (.slice (some ⟨g, 0, none⟩) (N + 1) cg) ∧ N ≤ 12 ∧ N + 1 ≤ cg ∧ View w' (some ⟨g, 0, none⟩) (N + 1) cg F ∧ Hid (getU (N + 1) F (m : Int) = (y, (N : Int) + 1, true)) ∧ Hid (getU N F (m : Int) = (0, 0, false)) ∧ Below w.heap.size w w' := by
  have hm9 := hO.few
  refine (putU_impl b 0 m c _ x w hO.view (by omega) hx0 hx1).mono ?_
  rintro e w2 ⟨g, cg, rfl, hg, hgc, hrow, hb2⟩
  have hyb := clampN_bd x
  rw [hy] at hrow hgc hyb ⊢
  have hgl := groups_len y
  have hlf : lof m (fun i => l.getD i 0) = l := by have := lof_self l; rw [hO.len] at this; exact this
  rw [hlf] at hrow
  have hF : ∀ i, i < (groups y).length → (l ++ groups y).getD (m + i) 0 = (groups y).getD i 0 := by
    intro i _
    have := getD_right l (groups y) i
    rw [hO.len] at this
    exact this
  obtain ⟨N, hN⟩ : ∃ N, m + (groups y).length = N + 1 := ⟨m + (groups y).length - 1, by omega⟩
  have h1 := getU_put m (N + 1) (fun i => (l ++ groups y).getD i 0) y hyb.1 hyb.2 hF (by omega)
  have h2 := getU_cutoff m N (fun i => (l ++ groups y).getD i 0) y hyb.1 hF hN
  rw [hN] at hrow hgc ⊢
  refine ⟨g, cg, N, fun i => (l ++ groups y).getD i 0, rfl, by omega, hgc, hrow.view hgc ?_, ?_, h2, hb2⟩
  · intro i hi
    refine (List.forall_mem_append.2 ⟨hO.byte, groups_byte y hyb.1 hyb.2⟩) _ (getD_mem ?_)
    rw [List.length_append, hO.len]; omega
  · show getU (N + 1) _ (m : Int) = _
    rw [h1]
    simp only [Prod.mk.injEq, true_and, and_true]
    omega

/-- A text that is put behind drawn bytes, and what is read there. -/
theorem putText_back (w0 : World) (b m c : Nat) (l : List Int) (k : List Int) (w : World) (hO : Own9 w0 w m b c l) (hk : k.length ≤ 9) :
    Calls Try.prog 10 #[.slice (some ⟨b, 0, none⟩) m c, .string (strOfNums k)] w fun e w' => ∃ (g cg N : Nat) (F : Nat → Int), e = .returned (.slice (some ⟨g, 0, none⟩) N cg) ∧ N ≤ 30 ∧ N ≤ cg ∧ View w' (some ⟨g, 0, none⟩) N cg F ∧ Hid (getText N F (m : Int) = (strOfNums k, (N : Int), true)) ∧ Below w.heap.size w w' := by
  have hm9 := hO.few
  have hs : (strOfNums k).size = k.length := strOfNums_size k
  have hgl := groups_len (clampN (strOfNums k).size)
  refine (putText_impl b 0 m c _ (strOfNums k) w hO.view (by omega) (by omega)).mono ?_
  rintro e w2 ⟨g, cg, rfl, hg, hgc, hrow, hb2⟩
  have ht := getText_put m (fun i => l.getD i 0) (strOfNums k) (by omega)
  refine ⟨g, cg, _, _, rfl, by omega, hgc, hrow.view hgc ?_, ht, hb2⟩
  intro i hi
  refine ?_
  have hb : ∀ y ∈ textL m (fun i => l.getD i 0) (strOfNums k), 0 ≤ y ∧ y ≤ 255 := by
    intro y hy
    unfold textL at hy
    rcases List.mem_append.1 hy with hy | hy
    · rcases List.mem_append.1 hy with hy | hy
      · simp only [lof, List.mem_map, List.mem_range] at hy
        obtain ⟨j, hj, rfl⟩ := hy
        exact hO.bytes j hj
      · exact groups_byte _ (clampN_bd _).1 (clampN_bd _).2 y hy
    · exact sl_byte _ y hy
  exact hb _ (getD_mem (by rw [textL_len]; exact hi))

set_option maxHeartbeats 2000000 in
theorem lawNums (ao : Option Addr) (n cap : Nat) (f : Nat → Int) (w : World) (hv : View w ao n cap f) (hn63 : n ≤ 9223372036854775807) :
    Calls Try.prog 3 #[.slice ao n cap] w fun e w' => e = .returned (.bool true) ∧ Below w.heap.size w w' := by
  by_cases hbig : 1048576 < n
  · have hd : decide ((1048576 : Int) < (n : Int)) = true := by simp; omega
    go_enter Try.func3, Try.ntmps3
    go_wp2_with fail
    refine (big_any ao n cap w hn63).mono ?_
    rw [hd]
    rintro e _ ⟨rfl, rfl⟩
    go_wp2
    go_ret
    exact ⟨rfl, Below.refl _ _⟩
  have hd : decide ((1048576 : Int) < (n : Int)) = false := by simp; omega
  have hn : n ≤ 1048576 := by omega
  clear hbig
  go_enter Try.func3, Try.ntmps3
  go_wp2_with fail
  refine (big_any ao n cap w hn63).mono ?_
  rw [hd]
  rintro e _ ⟨rfl, rfl⟩
  clear hd
  go_wp2_with fail
  refine (drawPutU_any ao n cap f w hn hv).mono ?_
  rintro e w1 ⟨⟨b, c, m, l, x, rfl, hx0, hx1, hO1⟩, hb1⟩
  have hm9 := hO1.few
  obtain ⟨y, hy, hyy⟩ : ∃ y, Hid (clampN x = y) ∧ ((x < 0 ∧ y = 0) ∨ (1000000 < x ∧ y = 1000000) ∨ (0 ≤ x ∧ x ≤ 1000000 ∧ y = x)) := by
    refine ⟨clampN x, rfl, ?_⟩
    unfold clampN
    split
    · left; omega
    · split
      · right; left; omega
      · right; right; omega
  go_wp2_with fail
  refine (putU_back w b m c l x y w1 hO1 hx0 hx1 hy.out).mono ?_
  rintro e w2 ⟨g, cg, N, F, rfl, hN12, hNc, hV, hG1, hG2, hb2⟩
  replace hb2 := hb1.trans (hb2.mono hb1.size)
  clear hO1 hb1 hy
  have hcz : (N : Int) ≤ (cg : Int) := by omega
  go_wp2_with fail
  refine (getU_impl' _ (N + 1) cg F m w2 hG1 hV (by omega) (by omega)).mono ?_
  rintro e _ ⟨rfl, rfl⟩
  have hV2 : View w2 (some ⟨g, 0, none⟩) N cg F := hV.take (by omega)
  clear hV hG1
  rcases hyy with ⟨hx, rfl⟩ | ⟨hx, rfl⟩ | ⟨hxa, hxb, rfl⟩
  all_goals
    go_wp2_with fail
    refine (getU_impl' _ N cg F m w2 hG2 hV2 (by omega) (by omega)).mono ?_
    rintro e _ ⟨rfl, rfl⟩
    clear hV2 hG2
    go_wp2_with fail
    refine (drawPutText_any ao n cap f w2 hn (hv.below hb2)).mono ?_
    rintro e w3 ⟨⟨b3, c3, m3, l3, k3, rfl, hk3, hy3, hO3⟩, hb3⟩
    have hm3 := hO3.few
    replace hb3 := hb2.trans (hb3.mono hb2.size)
    clear hb2 hy3
    go_wp2_with fail
    refine (putText_back w2 b3 m3 c3 l3 k3 w3 hO3 hk3).mono ?_
    rintro e w4 ⟨g4, cg4, N4, F4, rfl, hN4, hNc4, hV4, hG4, hb4⟩
    replace hb4 := hb3.trans (hb4.mono hb3.size)
    clear hb3 hO3
    go_wp2_with fail
    refine (getText_impl g4 0 N4 cg4 F4 m3 w4 _ _ _ hG4 hV4 (by omega) (by omega)).mono ?_
    rintro e _ ⟨rfl, rfl⟩
    clear hV4 hG4
    go_wp2
    go_ret
    exact ⟨rfl, hb4⟩
end Go.Proofs.Ytjkoipdcpkkkeaa
