/-
  The walk over the law FnVars: it answers true and writes nothing that was there, at every code that reads.
-/
import Derived.Test.YtfgigbgfkkmaiabDrawPutNums
import Derived.Test.YtfgigbgfkkmaiabDrawPutU
import Derived.Test.YtfgigbgfkkmaiabNumBack
import Derived.Test.YtfgigbgfkkmaiabPutVarImpl
import Derived.Test.YtfgigbgfkkmaiabGetVarImpl
import Derived.Test.YtfgigbgfkkmaiabSame
import Derived.Test.YtfgigbgfkkmaiabAt
import Derived.Test.YtfgigbgfkkmaiabBig
namespace Go.Proofs.Ytfgigbgfkkmaiab
open Go.RowKit

theorem view_empty (w : World) (b : Nat) : View w (some ⟨b, 0, none⟩) 0 0 (fun _ => 0) := ⟨Nat.le_refl _, fun _ hi => absurd hi (Nat.not_lt_zero _), fun h => absurd h (Nat.lt_irrefl _)⟩

/-- A number that is put behind drawn bytes, and what is read there. -/
theorem putVar_back (w0 : World) (b m c : Nat) (l : List Int) (x y : Int) (w : World) (hO : Own9 w0 w m b c l) (hx : I64 x) (hy : clampV x = y) :
    Calls Try.prog 27 #[.slice (some ⟨b, 0, none⟩) m c, .int .i64 x] w fun e w' => ∃ (g cg N : Nat) (F : Nat → Int), e = .returned (.slice (some ⟨g, 0, none⟩) N cg) ∧ N ≤ 30 ∧ N ≤ cg ∧ View w' (some ⟨g, 0, none⟩) N cg F ∧ Hid (getV N F (m : Int) = (y, (N : Int), true)) ∧ Below w.heap.size w w' := by
  have hm9 := hO.few
  have hvl := varL_len x
  refine (putVar_impl b 0 m c _ x w hO.view (by omega) hx.1 hx.2).mono ?_
  rintro e w2 ⟨g, cg, rfl, hg, hgc, hrow, hb2⟩
  have hlf : lof m (fun i => l.getD i 0) = l := by have := lof_self l; rw [hO.len] at this; exact this
  rw [hlf] at hrow
  refine ⟨g, cg, m + (varL x).length, _, rfl, by omega, hgc, hrow.view hgc ?_, ?_, hb2⟩
  · intro i hi
    refine (List.forall_mem_append.2 ⟨hO.byte, varL_byte x⟩) _ (getD_in ?_)
    rw [List.length_append, hO.len]; omega
  · show getV (m + (varL x).length) _ (m : Int) = _
    rw [getV_put l m x hO.len, hy]
    simp only [Prod.mk.injEq, true_and, and_true]
    omega

/-- A number that is put behind nothing. -/
theorem putVar_new (b : Nat) (x y : Int) (w : World) (hx : I64 x) (hy : clampV x = y) :
    Calls Try.prog 27 #[.slice (some ⟨b, 0, none⟩) 0 0, .int .i64 x] w fun e w' => ∃ (g cg N : Nat) (F : Nat → Int), e = .returned (.slice (some ⟨g, 0, none⟩) N cg) ∧ N ≤ 8 ∧ N ≤ cg ∧ View w' (some ⟨g, 0, none⟩) N cg F ∧ Hid (getV N F 0 = (y, (N : Int), true)) ∧ Hid (lof N F = keptL y) ∧ Below w.heap.size w w' := by
  have hvl := varL_len x
  refine (putVar_impl b 0 0 0 (fun _ => 0) x w (view_empty w b) (by omega) hx.1 hx.2).mono ?_
  rintro e w2 ⟨g, cg, rfl, hg, hgc, hrow, hb2⟩
  rw [Nat.zero_add] at hgc hrow ⊢
  refine ⟨g, cg, (varL x).length, fun i => (varL x).getD i 0, rfl, hvl.2, hgc, hrow.view hgc ?_, ?_, ?_, hb2⟩
  · intro i hi
    exact varL_byte x _ (getD_in hi)
  · show getV _ _ 0 = _
    have := getV_put [] 0 x rfl
    rw [hy, Nat.zero_add] at this
    simpa using this
  · show lof _ _ = _
    rw [lof_self, ← hy]
    rfl

/-- Of numbers that are unlike neither begins with the other. -/
theorem var_begins {N M : Nat} {F G : Nat → Int} {x y : Int} (hx : -1000000000000000 ≤ x ∧ x ≤ 1000000000000000) (hy : -1000000000000000 ≤ y ∧ y ≤ 1000000000000000) (h1 : Hid (lof N F = keptL x)) (h2 : Hid (lof M G = keptL y)) (hne : x ≠ y) : decide (M ≤ N ∧ lof M F = lof M G) = false := by
  rw [decide_eq_false_iff_not]
  rintro ⟨hle, he⟩
  apply hne
  have e : lof N F = lof M F ++ (lof N F).drop M := by
    have := List.take_append_drop M (lof N F)
    have e2 : (lof N F).take M = lof M F := by
      unfold lof
      rw [← List.map_take, List.take_range, Nat.min_eq_left hle]
    rw [e2] at this
    exact this.symm
  rw [he, h1.out, h2.out] at e
  exact kept_prefix hx hy e

set_option maxHeartbeats 2000000 in
theorem lawVars (ao : Option Addr) (n cap : Nat) (f : Nat → Int) (w : World) (hv : View w ao n cap f) (hn63 : n ≤ 9223372036854775807) :
    Calls Try.prog 6 #[.slice ao n cap] w fun e w' => e = .returned (.bool true) ∧ Below w.heap.size w w' := by
  by_cases hbig : 1048576 < n
  · have hd : decide ((1048576 : Int) < (n : Int)) = true := by simp; omega
    go_enter Try.func6, Try.ntmps6
    go_wp2_with fail
    refine (big_any ao n cap w hn63).mono ?_
    rw [hd]
    rintro e _ ⟨rfl, rfl⟩
    go_wp2
    go_ret
    exact ⟨rfl, Below.refl _ _⟩
  have hd : decide ((1048576 : Int) < (n : Int)) = false := by simp; omega
  have hn : n ≤ 1048576 := by omega
  clear hbig
  go_enter Try.func6, Try.ntmps6
  go_wp2_with fail
  refine (big_any ao n cap w hn63).mono ?_
  rw [hd]
  rintro e _ ⟨rfl, rfl⟩
  clear hd
  go_wp2_with fail
  refine (drawPutVar_any ao n cap f w hn hv).mono ?_
  rintro e w1 ⟨⟨b, c, m, l, x, rfl, hx, hO1⟩, hb1⟩
  have hm9 := hO1.few
  have HX : Hid (I64 x) := hx
  clear hx
  go_wp2_with fail
  refine (drawPutU_any ao n cap f w1 hn (hv.below hb1)).mono ?_
  rintro e w2 ⟨⟨b3, c3, m3, l3, k, rfl, hk0, hk1, -⟩, hb2⟩
  have HK : Hid (I64 k) := ⟨hk0, hk1⟩
  have hO2 : Own9 w w2 m b c l := ⟨hO1.len, hO1.byte, hO1.new, hO1.le, hO1.row.belowAll hb2, hO1.few⟩
  replace hb2 := hb1.trans (hb2.mono hb1.size)
  clear hO1 hb1 hk0 hk1
  obtain ⟨x4, hx4⟩ : ∃ x, Hid (atN n f 4 = x) := ⟨_, rfl⟩
  obtain ⟨x5, hx5⟩ : ∃ x, Hid (atN n f 5 = x) := ⟨_, rfl⟩
  have hx4b : x4 ≤ 255 := by rw [← hx4.out]; exact atN_le n f 4 hv.byte
  have hx5b : x5 ≤ 255 := by rw [← hx5.out]; exact atN_le n f 5 hv.byte
  have hv2 := hv.below hb2
  obtain ⟨P, hP⟩ : ∃ P : Int, (x4 : Int) * (x5 : Int) = P := ⟨_, rfl⟩
  have hPb : 0 ≤ P ∧ P ≤ 65025 := by
    rw [← hP]
    have h1 : x4 * x5 ≤ 255 * 255 := Nat.mul_le_mul hx4b hx5b
    have h2 : ((x4 * x5 : Nat) : Int) = (x4 : Int) * (x5 : Int) := by simp
    omega
  go_wp2_with fail
  refine (at_val ao n cap f 4 4 x4 w2 hx4 hv2 hn (by omega) rfl).mono ?_
  rintro e _ ⟨rfl, rfl⟩
  go_wp2_with fail
  refine (at_val ao n cap f 5 5 x5 w2 hx5 hv2 hn (by omega) rfl).mono ?_
  rintro e _ ⟨rfl, rfl⟩
  clear hv2
  have hJ : I64 (wrap64 (k - P)) := by unfold I64 wrap64; omega
  go_wp2_with fail
  generalize wrap64 (k - P) = j at *
  have HJ : Hid (I64 j) := hJ
  clear hJ hP hPb hx4 hx5 hx4b hx5b HK
  obtain ⟨y, HY, hyy⟩ : ∃ y, Hid (clampV x = y) ∧ ((x < -1000000000000000 ∧ y = -1000000000000000) ∨ (1000000000000000 < x ∧ y = 1000000000000000) ∨ (-1000000000000000 ≤ x ∧ x ≤ 1000000000000000 ∧ y = x)) := by
    refine ⟨clampV x, rfl, ?_⟩
    unfold clampV
    split
    · left; omega
    · split
      · right; left; omega
      · right; right; omega
  obtain ⟨z, HZ⟩ : ∃ z, Hid (clampV j = z) := ⟨_, rfl⟩
  have hyb : -1000000000000000 ≤ y ∧ y ≤ 1000000000000000 := by rw [← HY.out]; exact clampV_bd x
  have HYB : Hid (-1000000000000000 ≤ y ∧ y ≤ 1000000000000000) := hyb
  have HZB : Hid (-1000000000000000 ≤ z ∧ z ≤ 1000000000000000) := by rw [← HZ.out]; exact clampV_bd j
  refine (putVar_back w b m c l x y w2 hO2 HX.out HY.out).mono ?_
  rintro e w3 ⟨g, cg, N, F, rfl, hN, hNc, hV, hG, hb3⟩
  replace hb3 := hb2.trans (hb3.mono hb2.size)
  clear hO2 hb2
  go_wp2_with fail
  refine (getVar_impl g 0 N cg F (m : Int) w3 hG hV (by omega) (by omega)).mono ?_
  rintro e w4 ⟨rfl, hb4⟩
  replace hb4 := hb3.trans (hb4.mono hb3.size)
  clear hV hG hb3
  have hb5 : Below w.heap.size w (w4.alloc (.cells #[] 5)) := hb4.alloc hb4.size _
  go_wp2_with fail
  refine (putVar_new _ y y _ ⟨by omega, by omega⟩ (clampV_self y hyb)).mono ?_
  rintro e w6 ⟨gu, cu, U, Fu, rfl, hU8, hcu, hVu, -, hLu, hb6⟩
  replace hb6 := hb5.trans (hb6.mono hb5.size)
  clear hb5 hb4
  have hb7 : Below w.heap.size w (w6.alloc (.cells #[] 5)) := hb6.alloc hb6.size _
  have hVu7 : View (w6.alloc (.cells #[] 5)) (some ⟨gu, 0, none⟩) U cu Fu := hVu.below ((Below.refl _ _).alloc (Nat.le_refl _) _)
  go_wp2_with fail
  refine (putVar_new _ j z _ HJ.out HZ.out).mono ?_
  rintro e w8 ⟨gw, cw, M, Fw, rfl, hM8, hcw, hVw, hGw, hLw, hb8⟩
  replace hVu := hVu7.below hb8
  replace hb8 := hb7.trans (hb8.mono hb7.size)
  clear hb7 hb6 hVu7
  have HA : Hid (ahead (lof U Fu) (lof M Fw) = decide (y < z)) := by show _ = _; rw [hLu.out, hLw.out]; exact kept_ahead HYB.out HZB.out
  go_wp2_with fail
  refine (getVar_impl gw 0 M cw Fw 0 w8 hGw hVw (by omega) (by omega)).mono ?_
  rintro e w9 ⟨rfl, hb9⟩
  replace hVu := hVu.below hb9
  replace hVw := hVw.below hb9
  replace hb9 := hb8.trans (hb9.mono hb8.size)
  clear hGw hb8 HX HJ HY HZ
  have e2 : ((N : Int) != (N : Int)) = false := by simp
  rcases hyy with ⟨h1, rfl⟩ | ⟨h1, rfl⟩ | ⟨h1, h2, rfl⟩
  · have q1 : (x == -1000000000000000) = false := by simp; omega
    have q2 : decide (-1000000000000000 ≤ x) = false := by simp; omega
    by_cases hyz : -1000000000000000 = z
    · subst hyz
      have q7 : (-1000000000000000 == -1000000000000000) = true := by simp
      go_wp2_with fail
      refine (before_impl gu 0 U cu Fu gw 0 M cw Fw w9 hVu hVw).mono ?_
      rw [HA.out]
      rintro e _ ⟨rfl, rfl⟩
      clear HA hLu hLw hVu hVw
      go_wp2
      go_ret
      exact ⟨rfl, hb9⟩
    · have q7 : (-1000000000000000 == z) = false := by simpa using hyz
      have HB1 : Hid (decide (M ≤ U ∧ lof M Fu = lof M Fw) = false) := var_begins HYB.out HZB.out hLu hLw hyz
      have HB2 : Hid (decide (U ≤ M ∧ lof U Fw = lof U Fu) = false) := var_begins HZB.out HYB.out hLw hLu (fun h => hyz h.symm)
      clear hyz hLu hLw
      go_wp2_with fail
      refine (before_impl gu 0 U cu Fu gw 0 M cw Fw w9 hVu hVw).mono ?_
      rw [HA.out]
      rintro e _ ⟨rfl, rfl⟩
      clear HA
      go_wp2_with fail
      refine (begins_any gu 0 U cu (some ⟨gw, 0, none⟩) M cw Fu Fw w9 hVu hVw (by omega)).mono ?_
      rw [HB1.out]
      rintro e w10 ⟨rfl, hb10⟩
      replace hVu := hVu.below hb10
      replace hVw := hVw.below hb10
      replace hb10 := hb9.trans (hb10.mono hb9.size)
      clear hb9 HB1
      go_wp2_with fail
      refine (begins_any gw 0 M cw (some ⟨gu, 0, none⟩) U cu Fw Fu w10 hVw hVu (by omega)).mono ?_
      rw [HB2.out]
      rintro e w11 ⟨rfl, hb11⟩
      replace hb11 := hb10.trans (hb11.mono hb10.size)
      clear hb10 HB2 hVu hVw
      go_wp2
      go_ret
      exact ⟨rfl, hb11⟩
  · have q1 : (x == 1000000000000000) = false := by simp; omega
    have q2 : decide (x ≤ 1000000000000000) = false := by simp; omega
    have q3 : decide (-1000000000000000 ≤ x) = true := by simp; omega
    by_cases hyz : 1000000000000000 = z
    · subst hyz
      have q7 : (1000000000000000 == 1000000000000000) = true := by simp
      go_wp2_with fail
      refine (before_impl gu 0 U cu Fu gw 0 M cw Fw w9 hVu hVw).mono ?_
      rw [HA.out]
      rintro e _ ⟨rfl, rfl⟩
      clear HA hLu hLw hVu hVw
      go_wp2
      go_ret
      exact ⟨rfl, hb9⟩
    · have q7 : (1000000000000000 == z) = false := by simpa using hyz
      have HB1 : Hid (decide (M ≤ U ∧ lof M Fu = lof M Fw) = false) := var_begins HYB.out HZB.out hLu hLw hyz
      have HB2 : Hid (decide (U ≤ M ∧ lof U Fw = lof U Fu) = false) := var_begins HZB.out HYB.out hLw hLu (fun h => hyz h.symm)
      clear hyz hLu hLw
      go_wp2_with fail
      refine (before_impl gu 0 U cu Fu gw 0 M cw Fw w9 hVu hVw).mono ?_
      rw [HA.out]
      rintro e _ ⟨rfl, rfl⟩
      clear HA
      go_wp2_with fail
      refine (begins_any gu 0 U cu (some ⟨gw, 0, none⟩) M cw Fu Fw w9 hVu hVw (by omega)).mono ?_
      rw [HB1.out]
      rintro e w10 ⟨rfl, hb10⟩
      replace hVu := hVu.below hb10
      replace hVw := hVw.below hb10
      replace hb10 := hb9.trans (hb10.mono hb9.size)
      clear hb9 HB1
      go_wp2_with fail
      refine (begins_any gw 0 M cw (some ⟨gu, 0, none⟩) U cu Fw Fu w10 hVw hVu (by omega)).mono ?_
      rw [HB2.out]
      rintro e w11 ⟨rfl, hb11⟩
      replace hb11 := hb10.trans (hb11.mono hb10.size)
      clear hb10 HB2 hVu hVw
      go_wp2
      go_ret
      exact ⟨rfl, hb11⟩
  · have q1 : (y == y) = true := by simp
    have q2 : decide (-1000000000000000 ≤ y) = true := by simp; omega
    have q3 : decide (y ≤ 1000000000000000) = true := by simp; omega
    by_cases hyz : y = z
    · subst hyz
      have q7 : (y == y) = true := by simp
      go_wp2_with fail
      refine (before_impl gu 0 U cu Fu gw 0 M cw Fw w9 hVu hVw).mono ?_
      rw [HA.out]
      rintro e _ ⟨rfl, rfl⟩
      clear HA hLu hLw hVu hVw
      go_wp2
      go_ret
      exact ⟨rfl, hb9⟩
    · have q7 : (y == z) = false := by simpa using hyz
      have HB1 : Hid (decide (M ≤ U ∧ lof M Fu = lof M Fw) = false) := var_begins HYB.out HZB.out hLu hLw hyz
      have HB2 : Hid (decide (U ≤ M ∧ lof U Fw = lof U Fu) = false) := var_begins HZB.out HYB.out hLw hLu (fun h => hyz h.symm)
      clear hyz hLu hLw
      go_wp2_with fail
      refine (before_impl gu 0 U cu Fu gw 0 M cw Fw w9 hVu hVw).mono ?_
      rw [HA.out]
      rintro e _ ⟨rfl, rfl⟩
      clear HA
      go_wp2_with fail
      refine (begins_any gu 0 U cu (some ⟨gw, 0, none⟩) M cw Fu Fw w9 hVu hVw (by omega)).mono ?_
      rw [HB1.out]
      rintro e w10 ⟨rfl, hb10⟩
      replace hVu := hVu.below hb10
      replace hVw := hVw.below hb10
      replace hb10 := hb9.trans (hb10.mono hb9.size)
      clear hb9 HB1
      go_wp2_with fail
      refine (begins_any gw 0 M cw (some ⟨gu, 0, none⟩) U cu Fw Fu w10 hVw hVu (by omega)).mono ?_
      rw [HB2.out]
      rintro e w11 ⟨rfl, hb11⟩
      replace hb11 := hb10.trans (hb11.mono hb10.size)
      clear hb10 HB2 hVu hVw
      go_wp2
      go_ret
      exact ⟨rfl, hb11⟩
end Go.Proofs.Ytfgigbgfkkmaiab
