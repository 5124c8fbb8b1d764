/-
  The walk over the law FnFixes: it answers true and writes nothing that was there, at every code that reads.
-/
import Derived.Test.YtfgigbgfkkmaiabDrawPutNums
import Derived.Test.YtfgigbgfkkmaiabDrawPutU
import Derived.Test.YtfgigbgfkkmaiabNumBack
import Derived.Test.YtfgigbgfkkmaiabPutFixImpl
import Derived.Test.YtfgigbgfkkmaiabBig
namespace Go.Proofs.Ytfgigbgfkkmaiab
open Go.RowKit

theorem view_empty (w : World) (b : Nat) : View w (some ⟨b, 0, none⟩) 0 0 (fun _ => 0) := ⟨Nat.le_refl _, fun _ hi => absurd hi (Nat.not_lt_zero _), fun h => absurd h (Nat.lt_irrefl _)⟩

/-- A number that is put behind drawn bytes, and what is read there. -/
theorem putFix_back (w0 : World) (b m c : Nat) (l : List Int) (x y : Int) (w : World) (hO : Own9 w0 w m b c l) (hx : I64 x) (hy : clampF x = y) :
    Calls Try.prog 23 #[.slice (some ⟨b, 0, none⟩) m c, .int .i64 x] w fun e w' => ∃ (g cg N : Nat) (F : Nat → Int), e = .returned (.slice (some ⟨g, 0, none⟩) N cg) ∧ N ≤ 30 ∧ N ≤ cg ∧ View w' (some ⟨g, 0, none⟩) N cg F ∧ Hid (getF N F (m : Int) = (y, (N : Int), true)) ∧ Below w.heap.size w w' := by
  have hm9 := hO.few
  refine (putFix_impl b 0 m c _ x w hO.view (by omega) hx.1 hx.2).mono ?_
  rintro e w2 ⟨g, cg, rfl, hg, hgc, hrow, hb2⟩
  have hlf : lof m (fun i => l.getD i 0) = l := by have := lof_self l; rw [hO.len] at this; exact this
  rw [hlf] at hrow
  refine ⟨g, cg, m + 4, _, rfl, by omega, hgc, hrow.view hgc ?_, ?_, hb2⟩
  · intro i hi
    refine (List.forall_mem_append.2 ⟨hO.byte, fixL_byte x⟩) _ (getD_in ?_)
    rw [List.length_append, hO.len, fixL_len]; omega
  · show getF (m + 4) _ (m : Int) = _
    rw [getF_put l m x hO.len, hy]
    simp only [Prod.mk.injEq, true_and, and_true]
    omega

/-- A number that is put behind nothing. -/
theorem putFix_new (b : Nat) (x y : Int) (w : World) (hx : I64 x) (hy : clampF x = y) :
    Calls Try.prog 23 #[.slice (some ⟨b, 0, none⟩) 0 0, .int .i64 x] w fun e w' => ∃ (g cg : Nat) (F : Nat → Int), e = .returned (.slice (some ⟨g, 0, none⟩) 4 cg) ∧ 4 ≤ cg ∧ View w' (some ⟨g, 0, none⟩) 4 cg F ∧ Hid (getF 4 F 0 = (y, 4, true)) ∧ Hid (lof 4 F = fixL x) ∧ Below w.heap.size w w' := by
  refine (putFix_impl b 0 0 0 (fun _ => 0) x w (view_empty w b) (by omega) hx.1 hx.2).mono ?_
  rintro e w2 ⟨g, cg, rfl, hg, hgc, hrow, hb2⟩
  refine ⟨g, cg, fun i => (fixL x).getD i 0, rfl, hgc, hrow.view hgc ?_, ?_, ?_, hb2⟩
  · intro i hi
    exact fixL_byte x _ (getD_in (by rw [fixL_len]; exact hi))
  · show getF 4 _ 0 = _
    have := getF_put [] 0 x rfl
    rw [hy] at this
    exact this
  · show lof 4 _ = _
    have := lof_self (fixL x)
    rw [fixL_len] at this
    exact this

set_option maxHeartbeats 2000000 in
theorem lawFixes (ao : Option Addr) (n cap : Nat) (f : Nat → Int) (w : World) (hv : View w ao n cap f) (hn63 : n ≤ 9223372036854775807) :
    Calls Try.prog 5 #[.slice ao n cap] w fun e w' => e = .returned (.bool true) ∧ Below w.heap.size w w' := by
  by_cases hbig : 1048576 < n
  · have hd : decide ((1048576 : Int) < (n : Int)) = true := by simp; omega
    go_enter Try.func5, Try.ntmps5
    go_wp2_with fail
    refine (big_any ao n cap w hn63).mono ?_
    rw [hd]
    rintro e _ ⟨rfl, rfl⟩
    go_wp2
    go_ret
    exact ⟨rfl, Below.refl _ _⟩
  have hd : decide ((1048576 : Int) < (n : Int)) = false := by simp; omega
  have hn : n ≤ 1048576 := by omega
  clear hbig
  go_enter Try.func5, Try.ntmps5
  go_wp2_with fail
  refine (big_any ao n cap w hn63).mono ?_
  rw [hd]
  rintro e _ ⟨rfl, rfl⟩
  clear hd
  go_wp2_with fail
  refine (drawPutFix_any ao n cap f w hn hv).mono ?_
  rintro e w1 ⟨⟨b, c, m, l, x, rfl, hx, hO1⟩, hb1⟩
  have hm9 := hO1.few
  have HX : Hid (I64 x) := hx
  clear hx
  go_wp2_with fail
  refine (drawPutU_any ao n cap f w1 hn (hv.below hb1)).mono ?_
  rintro e w2 ⟨⟨b3, c3, m3, l3, k, rfl, hk0, hk1, -⟩, hb2⟩
  have HK : Hid (I64 k) := ⟨hk0, hk1⟩
  have hO2 : Own9 w w2 m b c l := ⟨hO1.len, hO1.byte, hO1.new, hO1.le, hO1.row.belowAll hb2, hO1.few⟩
  replace hb2 := hb1.trans (hb2.mono hb1.size)
  clear hO1 hb1 hk0 hk1
  obtain ⟨y, HY, hyy⟩ : ∃ y, Hid (clampF x = y) ∧ ((x < -2147483648 ∧ y = -2147483648) ∨ (2147483647 < x ∧ y = 2147483647) ∨ (-2147483648 ≤ x ∧ x ≤ 2147483647 ∧ y = x)) := by
    refine ⟨clampF x, rfl, ?_⟩
    unfold clampF
    split
    · left; omega
    · split
      · right; left; omega
      · right; right; omega
  obtain ⟨z, HZ⟩ : ∃ z, Hid (clampF k = z) := ⟨_, rfl⟩
  have hyb : -2147483648 ≤ y ∧ y ≤ 2147483647 := by rw [← HY.out]; exact clampF_bd x
  go_wp2_with fail
  refine (putFix_back w b m c l x y w2 hO2 HX.out HY.out).mono ?_
  rintro e w3 ⟨g, cg, N, F, rfl, hN, hNc, hV, hG, hb3⟩
  replace hb3 := hb2.trans (hb3.mono hb2.size)
  clear hO2 hb2
  go_wp2_with fail
  refine (getFix_impl g 0 N cg F (m : Int) w3 hG hV (by omega) (by omega)).mono ?_
  rintro e _ ⟨rfl, rfl⟩
  clear hV hG
  have hb4 : Below w.heap.size w (w3.alloc (.cells #[] 5)) := hb3.alloc hb3.size _
  go_wp2_with fail
  refine (putFix_new _ y y _ ⟨by omega, by omega⟩ (clampF_self y hyb)).mono ?_
  rintro e w5 ⟨gu, cu, Fu, rfl, hcu, hVu, -, hLu, hb5⟩
  replace hb5 := hb4.trans (hb5.mono hb4.size)
  clear hb4 hb3
  have hb6 : Below w.heap.size w (w5.alloc (.cells #[] 5)) := hb5.alloc hb5.size _
  have hVu6 : View (w5.alloc (.cells #[] 5)) (some ⟨gu, 0, none⟩) 4 cu Fu := hVu.below ((Below.refl _ _).alloc (Nat.le_refl _) _)
  go_wp2_with fail
  refine (putFix_new _ k z _ HK.out HZ.out).mono ?_
  rintro e w7 ⟨gw, cw, Fw, rfl, hcw, hVw, hGw, hLw, hb7⟩
  replace hVu := hVu6.below hb7
  replace hb7 := hb6.trans (hb7.mono hb6.size)
  clear hb6 hb5 hVu6
  have HA : Hid (ahead (lof 4 Fu) (lof 4 Fw) = decide (y < z)) := by show _ = _; rw [hLu.out, hLw.out, fix_ahead, HZ.out, clampF_self y hyb]
  go_wp2_with fail
  refine (getFix_impl gw 0 4 cw Fw 0 w7 hGw hVw (by omega) (by omega)).mono ?_
  rintro e _ ⟨rfl, rfl⟩
  clear hGw hLu hLw HX HK HY HZ
  have e2 : ((N : Int) == (N : Int)) = true := by simp
  rcases hyy with ⟨h1, rfl⟩ | ⟨h1, rfl⟩ | ⟨h1, h2, rfl⟩
  · have q1 : (x != -2147483648) = true := by simp; omega
    go_wp2_with fail
    refine (before_impl gu 0 4 cu Fu gw 0 4 cw Fw _ hVu hVw).mono ?_
    rw [HA.out]
    rintro e _ ⟨rfl, rfl⟩
    clear HA hVu hVw
    go_wp2
    go_ret
    exact ⟨rfl, hb7⟩
  · have q1 : (x != 2147483647) = true := by simp; omega
    go_wp2_with fail
    refine (before_impl gu 0 4 cu Fu gw 0 4 cw Fw _ hVu hVw).mono ?_
    rw [HA.out]
    rintro e _ ⟨rfl, rfl⟩
    clear HA hVu hVw
    go_wp2
    go_ret
    exact ⟨rfl, hb7⟩
  · have q1 : decide (2147483647 < y) = false := by simp; omega
    have q2 : decide (y < -2147483648) = false := by simp; omega
    go_wp2_with fail
    refine (before_impl gu 0 4 cu Fu gw 0 4 cw Fw _ hVu hVw).mono ?_
    rw [HA.out]
    rintro e _ ⟨rfl, rfl⟩
    clear HA hVu hVw
    go_wp2
    go_ret
    exact ⟨rfl, hb7⟩
end Go.Proofs.Ytfgigbgfkkmaiab
