/-
  The walk over the law FnEscs: it answers true and writes nothing that was there, at every code that reads.
-/
import Derived.Test.YthjddmhcppdleabDrawEsc
import Derived.Test.YthjddmhcppdleabDrawPutText
import Derived.Test.YthjddmhcppdleabEscOrder
import Derived.Test.YthjddmhcppdleabGetEscImpl
import Derived.Test.YthjddmhcppdleabPutEscImpl
import Derived.Test.YthjddmhcppdleabSame
import Derived.Test.YthjddmhcppdleabBig
namespace Go.Proofs.Ythjddmhcppdleab
open Go.RowKit

/-- A text that is put behind drawn bytes, and what is read there. -/
theorem putEsc_back (w0 : World) (b m c : Nat) (l : List Int) (s : ByteArray) (w : World) (hO : Own9 w0 w m b c l) (hs : s.size ≤ 4) :
    Calls Try.prog 8 #[.slice (some ⟨b, 0, none⟩) m c, .string s] w fun e w' => ∃ (g cg N : Nat) (F : Nat → Int), e = .returned (.slice (some ⟨g, 0, none⟩) N cg) ∧ N ≤ 30 ∧ N ≤ cg ∧ View w' (some ⟨g, 0, none⟩) N cg F ∧ Hid (getE N F (m : Int) = (s, (N : Int), true)) ∧ Below w.heap.size w w' := by
  have hm9 := hO.few
  have hE := escN_le s
  refine (putEsc_impl b 0 m c _ s w hO.view (by omega) (by omega)).mono ?_
  rintro e w2 ⟨g, cg, rfl, hg, hgc, hrow, hb2⟩
  exact ⟨g, cg, _, _, rfl, by omega, hgc, hrow.view hgc (escT_at m _ s hO.bytes), getE_putE m _ s, hb2⟩

theorem View.empty (w : World) (b : Nat) : View w (some ⟨b, 0, none⟩) 0 0 (fun _ => 0) := ⟨Nat.le_refl _, fun _ hi => absurd hi (Nat.not_lt_zero _), fun h => absurd h (Nat.lt_irrefl _)⟩

/-- A text that is put behind nothing. -/
theorem putEsc_new (b : Nat) (s : ByteArray) (w : World) (hs : s.size ≤ 9) :
    Calls Try.prog 8 #[.slice (some ⟨b, 0, none⟩) 0 0, .string s] w fun e w' => ∃ (g cg N : Nat) (F : Nat → Int), e = .returned (.slice (some ⟨g, 0, none⟩) N cg) ∧ N ≤ 30 ∧ N ≤ cg ∧ View w' (some ⟨g, 0, none⟩) N cg F ∧ Hid (lof N F = escL (sl s) ++ [0, 1]) ∧ Below w.heap.size w w' := by
  have hE := escN_le s
  refine (putEsc_impl b 0 0 0 _ s w (View.empty w b) (by omega) (by omega)).mono ?_
  rintro e w2 ⟨g, cg, rfl, hg, hgc, hrow, hb2⟩
  refine ⟨g, cg, _, _, rfl, by omega, hgc, hrow.view hgc (escT_at 0 _ s (fun i hi => absurd hi (Nat.not_lt_zero _))), ?_, hb2⟩
  show _ = _
  have := lof_self (escT 0 (fun _ => 0) s)
  rw [escT_len] at this
  rw [this]
  rfl

/-- Of texts that are unlike neither begins with the other. -/
theorem esc_begins {N M : Nat} {F G : Nat → Int} {s t : ByteArray} (h1 : Hid (lof N F = escL (sl s) ++ [0, 1])) (h2 : Hid (lof M G = escL (sl t) ++ [0, 1])) (hne : s ≠ t) : decide (M ≤ N ∧ lof M F = lof M G) = false := by
  rw [decide_eq_false_iff_not]
  rintro ⟨hle, he⟩
  apply hne
  apply sl_inj
  have e : lof N F = lof M F ++ (lof N F).drop M := by
    have := List.take_append_drop M (lof N F)
    have e2 : (lof N F).take M = lof M F := by
      unfold lof
      rw [← List.map_take, List.take_range, Nat.min_eq_left hle]
    rw [e2] at this
    exact this.symm
  rw [he, h1.out, h2.out] at e
  exact esc_prefix e

set_option maxHeartbeats 2000000 in
theorem lawEscs (ao : Option Addr) (n cap : Nat) (f : Nat → Int) (w : World) (hv : View w ao n cap f) (hn63 : n ≤ 9223372036854775807) :
    Calls Try.prog 3 #[.slice ao n cap] w fun e w' => e = .returned (.bool true) ∧ Below w.heap.size w w' := by
  by_cases hbig : 1048576 < n
  · have hd : decide ((1048576 : Int) < (n : Int)) = true := by simp; omega
    go_enter Try.func3, Try.ntmps3
    go_wp2_with fail
    refine (big_any ao n cap w hn63).mono ?_
    rw [hd]
    rintro e _ ⟨rfl, rfl⟩
    go_wp2
    go_ret
    exact ⟨rfl, Below.refl _ _⟩
  have hd : decide ((1048576 : Int) < (n : Int)) = false := by simp; omega
  have hn : n ≤ 1048576 := by omega
  clear hbig
  go_enter Try.func3, Try.ntmps3
  go_wp2_with fail
  refine (big_any ao n cap w hn63).mono ?_
  rw [hd]
  rintro e _ ⟨rfl, rfl⟩
  clear hd
  go_wp2_with fail
  refine (drawPutEsc_any ao n cap f w hn hv).mono ?_
  rintro e w1 ⟨⟨b, c, m, l, s, rfl, hs, hO1⟩, hb1⟩
  have hm9 := hO1.few
  go_wp2_with fail
  refine (drawPutText_any ao n cap f w1 hn (hv.below hb1)).mono ?_
  rintro e w2 ⟨⟨b3, c3, m3, l3, k3, rfl, hk3, -, -⟩, hb2⟩
  have hO2 : Own9 w w2 m b c l := ⟨hO1.len, hO1.byte, hO1.new, hO1.le, hO1.row.belowAll hb2, hO1.few⟩
  replace hb2 := hb1.trans (hb2.mono hb1.size)
  obtain ⟨t, ht⟩ : ∃ t, strOfNums k3 = t := ⟨_, rfl⟩
  have hts : t.size ≤ 9 := by rw [← ht, strOfNums_size]; exact hk3
  rw [ht]
  clear hO1 hb1 ht hk3
  go_wp2_with fail
  refine (putEsc_back w b m c l s w2 hO2 hs).mono ?_
  rintro e w3 ⟨g, cg, N, F, rfl, hN, hNc, hV, hG, hb3⟩
  replace hb3 := hb2.trans (hb3.mono hb2.size)
  clear hO2 hb2
  go_wp2_with fail
  refine (getEsc_impl _ N cg F (m : Int) w3 _ _ _ hG hV (by omega) (by omega)).mono ?_
  rintro e w4 ⟨rfl, hb4⟩
  replace hb4 := hb3.trans (hb4.mono hb3.size)
  clear hb3 hV hG
  go_wp2_with fail
  have hb5 : Below w.heap.size w (w4.alloc (.cells #[] 5)) := hb4.alloc hb4.size _
  refine (putEsc_new _ s _ (by omega)).mono ?_
  rintro e w6 ⟨gu, cu, U, Fu, rfl, hU, hUc, hVu, hLu, hb6⟩
  replace hb6 := hb5.trans (hb6.mono hb5.size)
  clear hb5 hb4
  go_wp2_with fail
  have hb7 : Below w.heap.size w (w6.alloc (.cells #[] 5)) := hb6.alloc hb6.size _
  have hVu7 : View (w6.alloc (.cells #[] 5)) (some ⟨gu, 0, none⟩) U cu Fu := hVu.below ((Below.refl _ _).alloc (Nat.le_refl _) _)
  refine (putEsc_new _ t _ hts).mono ?_
  rintro e w8 ⟨gw, cw, M, Fw, rfl, hM, hMc, hVw, hLw, hb8⟩
  replace hVu := hVu7.below hb8
  replace hb8 := hb7.trans (hb8.mono hb7.size)
  clear hb7 hb6 hVu7
  have HA : Hid (ahead (lof U Fu) (lof M Fw) = Op.bytesLess s.toList t.toList) := by show _ = _; rw [hLu.out, hLw.out]; exact esc_ahead s t
  obtain ⟨x, hx⟩ : ∃ x, Op.bytesLess s.toList t.toList = x := ⟨_, rfl⟩
  rw [hx] at HA
  have e1 : (s.toList != s.toList) = false := by simp
  have e2 : ((N : Int) != (N : Int)) = false := by simp
  by_cases hst : s = t
  · subst hst
    have e3 : (s.toList == s.toList) = true := by simp
    go_wp2_with fail
    refine (before_impl gu 0 U cu Fu gw 0 M cw Fw w8 hVu hVw).mono ?_
    rw [HA.out]
    rintro e _ ⟨rfl, rfl⟩
    clear HA hLu hLw hVu hVw
    go_wp2
    go_ret
    exact ⟨rfl, hb8⟩
  · have e3 : (s.toList == t.toList) = false := by
      simp only [beq_eq_false_iff_ne, ne_eq]
      intro h
      apply hst
      rw [ByteArray.toList_eq, ByteArray.toList_eq] at h
      exact ByteArray.ext (Array.toList_inj.1 h)
    have HB1 : Hid (decide (M ≤ U ∧ lof M Fu = lof M Fw) = false) := esc_begins hLu hLw hst
    have HB2 : Hid (decide (U ≤ M ∧ lof U Fw = lof U Fu) = false) := esc_begins hLw hLu (fun h => hst h.symm)
    clear hst hLu hLw
    go_wp2_with fail
    refine (before_impl gu 0 U cu Fu gw 0 M cw Fw w8 hVu hVw).mono ?_
    rw [HA.out]
    rintro e _ ⟨rfl, rfl⟩
    clear HA
    go_wp2_with fail
    refine (begins_any gu 0 U cu (some ⟨gw, 0, none⟩) M cw Fu Fw w8 hVu hVw (by omega)).mono ?_
    rw [HB1.out]
    rintro e w9 ⟨rfl, hb9⟩
    replace hVu := hVu.below hb9
    replace hVw := hVw.below hb9
    replace hb9 := hb8.trans (hb9.mono hb8.size)
    clear hb8 HB1
    go_wp2_with fail
    refine (begins_any gw 0 M cw (some ⟨gu, 0, none⟩) U cu Fw Fu w9 hVw hVu (by omega)).mono ?_
    rw [HB2.out]
    rintro e w10 ⟨rfl, hb10⟩
    replace hb10 := hb9.trans (hb10.mono hb9.size)
    clear hb9 HB2 hVu hVw
    go_wp2
    go_ret
    exact ⟨rfl, hb10⟩
end Go.Proofs.Ythjddmhcppdleab
