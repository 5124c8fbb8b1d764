/-
  Together: RowReader, EncTo, EncMore, PutNums, PutOpt, SetDigits
-/
import Derived.Test.YtikopeihkbpjhasPack4
import Derived.Test.YtikopeihkbpjhasPack2
import Derived.RangeFuncNested
import Derived.Test.YtikopeihkbpjhasPack1
/-
  The program's rowReader: a closure that reads one value more at each call.
-/
namespace Go.Proofs.Ytikopeihkbpjhas
open Go.RowKit
set_option maxRecDepth 4000

theorem But.setCell {g : Nat} {w w' : World} {p : Addr} (h : But g w w') (hp : w.heap.size ≤ p.block ∨ p.block = g) (u : Value) : But g w (w'.setCell p u) :=
  ⟨h.os, h.tape, h.output, by simpa using h.size, fun k hk hg => by
    rw [Below.heap_setCell _ _ _ _ (by rcases hp with hp | hp <;> omega)]
    exact h.block k hk hg⟩
theorem Boxed.otherC {W : World} {B B' i : Nat} {t : TypeId} {v : Value} (h : Boxed W B t v) (hne : B ≠ B') (u : Value) : Boxed (W.setCell ⟨B', i, none⟩ u) B t v := (Below.heap_setCell _ _ _ _ hne).trans h
/-- What the closure comes to: a value and whether it was there; its place alone has turned. -/
def ReadsI (Ba : Nat) (W : World) (g : Got) (e : Ending) (w' : World) : Prop :=
  e = .returned (.tuple #[.agg #[.int .i64 g.k, .int .i64 g.n, .string g.s], .bool g.ok]) ∧ But Ba W w' ∧ (g.ok = true → Boxed w' Ba 3 (.int .i64 g.q))

set_option linter.unusedSimpArgs false in
set_option maxHeartbeats 4000000 in
theorem rowReader1_any (Bb Ba gx M cx : Nat) (F : Nat → Int) (p : Int) (w : World) (hx : Boxed w Bb 34 (.slice (some ⟨gx, 0, none⟩) M cx)) (ha : Boxed w Ba 3 (.int .i64 p)) (hv : View w (some ⟨gx, 0, none⟩) M cx F) (hM : M ≤ 1048576) (hp0 : 0 ≤ p) (hp1 : p ≤ 1048576) :
    Calls Try.prog 64 #[.pointer (some ⟨Bb, 0, none⟩), .pointer (some ⟨Ba, 0, none⟩)] w (ReadsI Ba w (getRI M F p)) := by
  obtain ⟨a, q1, ok, hu⟩ : ∃ a q1 ok, Hid (getU M F p = (a, q1, ok)) := ⟨_, _, _, rfl⟩
  have hb1 : Below w.heap.size w (w.alloc (.cells #[.int .i64 0, .int .i64 0, .string ⟨#[]⟩] 52)) := (Below.refl _ _).alloc (Nat.le_refl _) _
  have hR := Box.new w 0 0 ⟨#[]⟩
  have hv1 := hv.below hb1
  have hx1 := hx.alloc (.cells #[.int .i64 0, .int .i64 0, .string ⟨#[]⟩] 52)
  have ha1 := ha.alloc (.cells #[.int .i64 0, .int .i64 0, .string ⟨#[]⟩] 52)
  have hBaw : Ba < w.heap.size := ha.lt
  have hBbw : Bb < w.heap.size := hx.lt
  have hbyte := hv.byte
  obtain ⟨R, hRw⟩ : ∃ R, Hid (w.heap.size = R) := ⟨_, rfl⟩
  have hBaR : Ba < R := by rw [← hRw.out]; exact hBaw
  obtain ⟨W1, hW1⟩ : ∃ W1, Hid (w.alloc (.cells #[.int .i64 0, .int .i64 0, .string ⟨#[]⟩] 52) = W1) := ⟨_, rfl⟩
  rw [hW1.out] at hR hv1 hb1 hx1 ha1
  have hU := getU_impl' _ M cx F p W1 hu hv1 (by omega) (by omega)
  rw [hRw.out] at hR
  have HB1 : Hid (But Ba w W1) := But.ofBelow hb1
  clear hv hx ha hb1
  have cx1 := hx1.cell
  have ca1 := ha1.cell
  go_enter Try.func64, Try.ntmps64
  go_wp2_with (rw [hW1.out, hRw.out])
  refine hU.mono ?_
  rintro e _ ⟨rfl, rfl⟩
  clear hU
  cases ok with
  | false =>
    have HG : Hid (getRI M F p = ⟨0, 0, noBytes, p, false⟩) := by show _ = _; unfold getRI; rw [hu.out]; rfl
    obtain ⟨g0, g1, g2⟩ := hR.cells
    obtain ⟨y0, y1, y2⟩ := hR.frozen
    have hgs := stored3 (.int .i64 0) (.int .i64 0) (.string ⟨#[]⟩) g0 g1 g2
    have HBf : Hid (But Ba w (((W1.setCell ⟨R, 0, none⟩ (.int .i64 0)).setCell ⟨R, 1, none⟩ (.int .i64 0)).setCell ⟨R, 2, none⟩ (.string ⟨#[]⟩))) := ((HB1.out.setCell (p := ⟨R, 0, none⟩) (.inl (by rw [← hRw.out]; exact Nat.le_refl _)) _).setCell (p := ⟨R, 1, none⟩) (.inl (by rw [← hRw.out]; exact Nat.le_refl _)) _).setCell (p := ⟨R, 2, none⟩) (.inl (by rw [← hRw.out]; exact Nat.le_refl _)) _
    clear hR hv1 hx1 ha1 hu
    go_wp2
    exact bodyPost_ret (v := .tuple #[.agg #[.int .i64 0, .int .i64 0, .string ⟨#[]⟩], .bool false]) (by simp [results, Try.results64, go_sem, hgs]) rfl (by rw [HG.out]; exact ⟨rfl, HBf.out, fun h => by cases h⟩)
  | true =>
    have hbd := getU_bd hbyte hu.out
    have hb2 : Below W1.heap.size W1 (W1.alloc (.cells #[.int .i64 a, .int .i64 0, .string ⟨#[]⟩] 52)) := (Below.refl _ _).alloc (Nat.le_refl _) _
    have hV := Box.new W1 a 0 ⟨#[]⟩
    have hR2 := hR.below hb2
    have hv2 := hv1.below hb2
    have hx2 := hx1.alloc (.cells #[.int .i64 a, .int .i64 0, .string ⟨#[]⟩] 52)
    have ha2 := ha1.alloc (.cells #[.int .i64 a, .int .i64 0, .string ⟨#[]⟩] 52)
    have hlR : R < W1.heap.size := hR.lt
    have HB2 : Hid (But Ba w (W1.alloc (.cells #[.int .i64 a, .int .i64 0, .string ⟨#[]⟩] 52))) := HB1.out.trans (But.ofBelow hb2)
    obtain ⟨W2, hW2⟩ : ∃ W2, Hid (W1.alloc (.cells #[.int .i64 a, .int .i64 0, .string ⟨#[]⟩] 52) = W2) := ⟨_, rfl⟩
    obtain ⟨A, hA⟩ : ∃ A, Hid (W1.heap.size = A) := ⟨_, rfl⟩
    rw [hW2.out] at hV hR2 hv2 hx2 ha2 HB2
    rw [hA.out] at hV
    have hRA : R < A := by rw [← hA.out]; exact hlR
    have HwR : Hid (w.heap.size ≤ R) := by rw [← hRw.out]; exact Nat.le_refl _
    have HwA : Hid (w.heap.size ≤ A) := by show _ ≤ _; rw [hRw.out]; omega
    have hq1 : q1 ≤ 9223372036854775807 := by omega
    have hG : Hid (getRI M F p = (if a = 1 ∨ a = 2 then ⟨a, (getV M F q1).1, noBytes, (getV M F q1).2.1, (getV M F q1).2.2⟩
      else if a = 3 then ⟨3, 0, (getText M F q1).1, (getText M F q1).2.1, (getText M F q1).2.2⟩
      else if a = 4 then ⟨4, (getB M F q1).1, noBytes, (getB M F q1).2.1, (getB M F q1).2.2⟩
      else ⟨a, 0, noBytes, q1, true⟩)) := by show _ = _; unfold getRI; rw [hu.out]; rfl
    clear hu hb2 hR hv1 hx1 ha1 cx1 ca1 hlR
    have cx2 := hx2.cell
    have ca2 := ha2.cell
    have fa2 := ha2.frozen
    have n1 : A ≠ R := by omega
    have n2 : Ba ≠ A := by omega
    have n3 : Ba ≠ R := by omega
    have n4 : A ≠ Ba := by omega
    have n5 : R ≠ Ba := by omega
    have n6 : R ≠ A := by omega
    obtain ⟨z0, z1, z2⟩ := hV.cells
    obtain ⟨y0, y1, y2⟩ := hV.frozen
    obtain ⟨r0, r1, r2⟩ := hR2.cells
    obtain ⟨s0, s1, s2⟩ := hR2.frozen
    by_cases c1 : a = 1 ∨ a = 2
    · obtain ⟨v, q2, o2, hgv⟩ : ∃ v q2 o2, Hid (getV M F q1 = (v, q2, o2)) := ⟨_, _, _, rfl⟩
      have HG : Hid (getRI M F p = ⟨a, v, noBytes, q2, o2⟩) := by show _ = _; rw [hG.out, if_pos c1, hgv.out]
      have hC := getVar_impl gx 0 M cx F q1 W2 hgv hv2 (by omega) hq1
      clear hG hgv
      rcases c1 with rfl | rfl
      · go_wp2_with (rw [hW2.out, hA.out])
        refine hC.mono ?_
        rintro e w3 ⟨rfl, hb3⟩
        have hV3 := hV.below hb3
        have hR3 := hR2.below hb3
        have ha3 := (hb3.block Ba ha2.lt).trans ha2
        have HB3 : Hid (But Ba w w3) := HB2.out.trans (But.ofBelow hb3)
        clear hC z0 z1 z2 y0 y1 y2 r0 r1 r2 s0 s1 s2 cx2 ca2 fa2
        obtain ⟨z0, z1, z2⟩ := hV3.cells
        obtain ⟨y0, y1, y2⟩ := hV3.frozen
        have hV4 := hV3.set1 v
        have hR4 : Box (w3.setCell ⟨A, 1, none⟩ (.int .i64 v)) R 0 0 ⟨#[]⟩ := hR3.other n6 (.int .i64 v)
        have ha4 : Boxed (w3.setCell ⟨A, 1, none⟩ (.int .i64 v)) Ba 3 (.int .i64 p) := Boxed.otherC ha3 n2 (.int .i64 v)
        have HB4 : Hid (But Ba w (w3.setCell ⟨A, 1, none⟩ (.int .i64 v))) := HB3.out.setCell (p := ⟨A, 1, none⟩) (.inl HwA.out) _
        obtain ⟨W4, hW4⟩ : ∃ W4, Hid ((w3.setCell ⟨A, 1, none⟩ (.int .i64 v)) = W4) := ⟨_, rfl⟩
        rw [hW4.out] at hV4 hR4 ha4 HB4
        have ca3 := Boxed.cell ha4
        have fa3 := Boxed.frozen ha4
        have hV5 : Box (W4.setCell ⟨Ba, 0, none⟩ (.int .i64 q2)) A 1 v ⟨#[]⟩ := hV4.other n4 (.int .i64 q2)
        have hR5 : Box (W4.setCell ⟨Ba, 0, none⟩ (.int .i64 q2)) R 0 0 ⟨#[]⟩ := hR4.other n5 (.int .i64 q2)
        have ha5 : Boxed (W4.setCell ⟨Ba, 0, none⟩ (.int .i64 q2)) Ba 3 (.int .i64 q2) := Boxed.set (.int .i64 q2) ha4
        have HB5 : Hid (But Ba w (W4.setCell ⟨Ba, 0, none⟩ (.int .i64 q2))) := HB4.out.setCell (p := ⟨Ba, 0, none⟩) (.inr rfl) _
        obtain ⟨W5, hW5⟩ : ∃ W5, Hid ((W4.setCell ⟨Ba, 0, none⟩ (.int .i64 q2)) = W5) := ⟨_, rfl⟩
        rw [hW5.out] at hV5 hR5 ha5 HB5
        obtain ⟨x0, x1, x2⟩ := hV5.cells
        obtain ⟨s0, s1, s2⟩ := hR5.frozen
        obtain ⟨g0, g1, g2⟩ := hR5.cells
        have hgs := stored3 (.int .i64 1) (.int .i64 v) (.string ⟨#[]⟩) g0 g1 g2
        have HBf : Hid (But Ba w (((W5.setCell ⟨R, 0, none⟩ (.int .i64 1)).setCell ⟨R, 1, none⟩ (.int .i64 v)).setCell ⟨R, 2, none⟩ (.string ⟨#[]⟩))) := ((HB5.out.setCell (p := ⟨R, 0, none⟩) (.inl HwR.out) _).setCell (p := ⟨R, 1, none⟩) (.inl HwR.out) _).setCell (p := ⟨R, 2, none⟩) (.inl HwR.out) _
        have HAf : Hid (Boxed (((W5.setCell ⟨R, 0, none⟩ (.int .i64 1)).setCell ⟨R, 1, none⟩ (.int .i64 v)).setCell ⟨R, 2, none⟩ (.string ⟨#[]⟩)) Ba 3 (.int .i64 q2)) := Boxed.otherC (Boxed.otherC (Boxed.otherC ha5 n3 _) n3 _) n3 _
        clear hV4 hR4 ha4 hV5 hR5 ha5 hV3 hR3 ha3 hv2 hx2 hbyte hBaw hBbw hRA hBaR hbd hV hR2 ha2 hb3
        go_wp2_with (first | rw [hW4.out] | rw [hW5.out])
        exact bodyPost_ret (v := .tuple #[.agg #[.int .i64 1, .int .i64 v, .string ⟨#[]⟩], .bool o2]) (by simp [results, Try.results64, go_sem, hgs]) rfl (by rw [HG.out]; exact ⟨rfl, HBf.out, fun _ => HAf.out⟩)
      · go_wp2_with (rw [hW2.out, hA.out])
        refine hC.mono ?_
        rintro e w3 ⟨rfl, hb3⟩
        have hV3 := hV.below hb3
        have hR3 := hR2.below hb3
        have ha3 := (hb3.block Ba ha2.lt).trans ha2
        have HB3 : Hid (But Ba w w3) := HB2.out.trans (But.ofBelow hb3)
        clear hC z0 z1 z2 y0 y1 y2 r0 r1 r2 s0 s1 s2 cx2 ca2 fa2
        obtain ⟨z0, z1, z2⟩ := hV3.cells
        obtain ⟨y0, y1, y2⟩ := hV3.frozen
        have hV4 := hV3.set1 v
        have hR4 : Box (w3.setCell ⟨A, 1, none⟩ (.int .i64 v)) R 0 0 ⟨#[]⟩ := hR3.other n6 (.int .i64 v)
        have ha4 : Boxed (w3.setCell ⟨A, 1, none⟩ (.int .i64 v)) Ba 3 (.int .i64 p) := Boxed.otherC ha3 n2 (.int .i64 v)
        have HB4 : Hid (But Ba w (w3.setCell ⟨A, 1, none⟩ (.int .i64 v))) := HB3.out.setCell (p := ⟨A, 1, none⟩) (.inl HwA.out) _
        obtain ⟨W4, hW4⟩ : ∃ W4, Hid ((w3.setCell ⟨A, 1, none⟩ (.int .i64 v)) = W4) := ⟨_, rfl⟩
        rw [hW4.out] at hV4 hR4 ha4 HB4
        have ca3 := Boxed.cell ha4
        have fa3 := Boxed.frozen ha4
        have hV5 : Box (W4.setCell ⟨Ba, 0, none⟩ (.int .i64 q2)) A 2 v ⟨#[]⟩ := hV4.other n4 (.int .i64 q2)
        have hR5 : Box (W4.setCell ⟨Ba, 0, none⟩ (.int .i64 q2)) R 0 0 ⟨#[]⟩ := hR4.other n5 (.int .i64 q2)
        have ha5 : Boxed (W4.setCell ⟨Ba, 0, none⟩ (.int .i64 q2)) Ba 3 (.int .i64 q2) := Boxed.set (.int .i64 q2) ha4
        have HB5 : Hid (But Ba w (W4.setCell ⟨Ba, 0, none⟩ (.int .i64 q2))) := HB4.out.setCell (p := ⟨Ba, 0, none⟩) (.inr rfl) _
        obtain ⟨W5, hW5⟩ : ∃ W5, Hid ((W4.setCell ⟨Ba, 0, none⟩ (.int .i64 q2)) = W5) := ⟨_, rfl⟩
        rw [hW5.out] at hV5 hR5 ha5 HB5
        obtain ⟨x0, x1, x2⟩ := hV5.cells
        obtain ⟨s0, s1, s2⟩ := hR5.frozen
        obtain ⟨g0, g1, g2⟩ := hR5.cells
        have hgs := stored3 (.int .i64 2) (.int .i64 v) (.string ⟨#[]⟩) g0 g1 g2
        have HBf : Hid (But Ba w (((W5.setCell ⟨R, 0, none⟩ (.int .i64 2)).setCell ⟨R, 1, none⟩ (.int .i64 v)).setCell ⟨R, 2, none⟩ (.string ⟨#[]⟩))) := ((HB5.out.setCell (p := ⟨R, 0, none⟩) (.inl HwR.out) _).setCell (p := ⟨R, 1, none⟩) (.inl HwR.out) _).setCell (p := ⟨R, 2, none⟩) (.inl HwR.out) _
        have HAf : Hid (Boxed (((W5.setCell ⟨R, 0, none⟩ (.int .i64 2)).setCell ⟨R, 1, none⟩ (.int .i64 v)).setCell ⟨R, 2, none⟩ (.string ⟨#[]⟩)) Ba 3 (.int .i64 q2)) := Boxed.otherC (Boxed.otherC (Boxed.otherC ha5 n3 _) n3 _) n3 _
        clear hV4 hR4 ha4 hV5 hR5 ha5 hV3 hR3 ha3 hv2 hx2 hbyte hBaw hBbw hRA hBaR hbd hV hR2 ha2 hb3
        go_wp2_with (first | rw [hW4.out] | rw [hW5.out])
        exact bodyPost_ret (v := .tuple #[.agg #[.int .i64 2, .int .i64 v, .string ⟨#[]⟩], .bool o2]) (by simp [results, Try.results64, go_sem, hgs]) rfl (by rw [HG.out]; exact ⟨rfl, HBf.out, fun _ => HAf.out⟩)
    by_cases c2 : a = 3
    · obtain ⟨v, q2, o2, hgv⟩ : ∃ v q2 o2, Hid (getText M F q1 = (v, q2, o2)) := ⟨_, _, _, rfl⟩
      have HG : Hid (getRI M F p = ⟨3, 0, v, q2, o2⟩) := by show _ = _; rw [hG.out, if_neg c1, if_pos c2, hgv.out]
      have hC : Calls Try.prog 66 #[.slice (some ⟨gx, 0, none⟩) M cx, .int .i64 q1] W2 fun e w' => e = .returned (.tuple #[.string v, .int .i64 q2, .bool o2]) ∧ Below W2.heap.size W2 w' := (getText_impl gx 0 M cx F q1 W2 v q2 o2 hgv hv2 (by omega) hq1).mono (fun e w' h => ⟨h.1, by rw [← h.2]; exact Below.refl _ _⟩)
      clear hG hgv c1
      subst c2
      go_wp2_with (rw [hW2.out, hA.out])
      refine hC.mono ?_
      rintro e w3 ⟨rfl, hb3⟩
      have hV3 := hV.below hb3
      have hR3 := hR2.below hb3
      have ha3 := (hb3.block Ba ha2.lt).trans ha2
      have HB3 : Hid (But Ba w w3) := HB2.out.trans (But.ofBelow hb3)
      clear hC z0 z1 z2 y0 y1 y2 r0 r1 r2 s0 s1 s2 cx2 ca2 fa2
      obtain ⟨z0, z1, z2⟩ := hV3.cells
      obtain ⟨y0, y1, y2⟩ := hV3.frozen
      have hV4 := hV3.set2 v
      have hR4 : Box (w3.setCell ⟨A, 2, none⟩ (.string v)) R 0 0 ⟨#[]⟩ := hR3.other n6 (.string v)
      have ha4 : Boxed (w3.setCell ⟨A, 2, none⟩ (.string v)) Ba 3 (.int .i64 p) := Boxed.otherC ha3 n2 (.string v)
      have HB4 : Hid (But Ba w (w3.setCell ⟨A, 2, none⟩ (.string v))) := HB3.out.setCell (p := ⟨A, 2, none⟩) (.inl HwA.out) _
      obtain ⟨W4, hW4⟩ : ∃ W4, Hid ((w3.setCell ⟨A, 2, none⟩ (.string v)) = W4) := ⟨_, rfl⟩
      rw [hW4.out] at hV4 hR4 ha4 HB4
      have ca3 := Boxed.cell ha4
      have fa3 := Boxed.frozen ha4
      have hV5 : Box (W4.setCell ⟨Ba, 0, none⟩ (.int .i64 q2)) A 3 0 v := hV4.other n4 (.int .i64 q2)
      have hR5 : Box (W4.setCell ⟨Ba, 0, none⟩ (.int .i64 q2)) R 0 0 ⟨#[]⟩ := hR4.other n5 (.int .i64 q2)
      have ha5 : Boxed (W4.setCell ⟨Ba, 0, none⟩ (.int .i64 q2)) Ba 3 (.int .i64 q2) := Boxed.set (.int .i64 q2) ha4
      have HB5 : Hid (But Ba w (W4.setCell ⟨Ba, 0, none⟩ (.int .i64 q2))) := HB4.out.setCell (p := ⟨Ba, 0, none⟩) (.inr rfl) _
      obtain ⟨W5, hW5⟩ : ∃ W5, Hid ((W4.setCell ⟨Ba, 0, none⟩ (.int .i64 q2)) = W5) := ⟨_, rfl⟩
      rw [hW5.out] at hV5 hR5 ha5 HB5
      obtain ⟨x0, x1, x2⟩ := hV5.cells
      obtain ⟨s0, s1, s2⟩ := hR5.frozen
      obtain ⟨g0, g1, g2⟩ := hR5.cells
      have hgs := stored3 (.int .i64 3) (.int .i64 0) (.string v) g0 g1 g2
      have HBf : Hid (But Ba w (((W5.setCell ⟨R, 0, none⟩ (.int .i64 3)).setCell ⟨R, 1, none⟩ (.int .i64 0)).setCell ⟨R, 2, none⟩ (.string v))) := ((HB5.out.setCell (p := ⟨R, 0, none⟩) (.inl HwR.out) _).setCell (p := ⟨R, 1, none⟩) (.inl HwR.out) _).setCell (p := ⟨R, 2, none⟩) (.inl HwR.out) _
      have HAf : Hid (Boxed (((W5.setCell ⟨R, 0, none⟩ (.int .i64 3)).setCell ⟨R, 1, none⟩ (.int .i64 0)).setCell ⟨R, 2, none⟩ (.string v)) Ba 3 (.int .i64 q2)) := Boxed.otherC (Boxed.otherC (Boxed.otherC ha5 n3 _) n3 _) n3 _
      clear hV4 hR4 ha4 hV5 hR5 ha5 hV3 hR3 ha3 hv2 hx2 hbyte hBaw hBbw hRA hBaR hbd hV hR2 ha2 hb3
      go_wp2_with (first | rw [hW4.out] | rw [hW5.out])
      exact bodyPost_ret (v := .tuple #[.agg #[.int .i64 3, .int .i64 0, .string v], .bool o2]) (by simp [results, Try.results64, go_sem, hgs]) rfl (by rw [HG.out]; exact ⟨rfl, HBf.out, fun _ => HAf.out⟩)
    by_cases c3 : a = 4
    · obtain ⟨v, q2, o2, hgv⟩ : ∃ v q2 o2, Hid (getB M F q1 = (v, q2, o2)) := ⟨_, _, _, rfl⟩
      have HG : Hid (getRI M F p = ⟨4, v, noBytes, q2, o2⟩) := by show _ = _; rw [hG.out, if_neg c1, if_neg c2, if_pos c3, hgv.out]
      have hC := getBit_any gx 0 M cx F q1 W2 hgv hv2 (by omega) hq1
      clear hG hgv c1 c2
      subst c3
      go_wp2_with (rw [hW2.out, hA.out])
      refine hC.mono ?_
      rintro e w3 ⟨rfl, hb3⟩
      have hV3 := hV.below hb3
      have hR3 := hR2.below hb3
      have ha3 := (hb3.block Ba ha2.lt).trans ha2
      have HB3 : Hid (But Ba w w3) := HB2.out.trans (But.ofBelow hb3)
      clear hC z0 z1 z2 y0 y1 y2 r0 r1 r2 s0 s1 s2 cx2 ca2 fa2
      obtain ⟨z0, z1, z2⟩ := hV3.cells
      obtain ⟨y0, y1, y2⟩ := hV3.frozen
      have hV4 := hV3.set1 v
      have hR4 : Box (w3.setCell ⟨A, 1, none⟩ (.int .i64 v)) R 0 0 ⟨#[]⟩ := hR3.other n6 (.int .i64 v)
      have ha4 : Boxed (w3.setCell ⟨A, 1, none⟩ (.int .i64 v)) Ba 3 (.int .i64 p) := Boxed.otherC ha3 n2 (.int .i64 v)
      have HB4 : Hid (But Ba w (w3.setCell ⟨A, 1, none⟩ (.int .i64 v))) := HB3.out.setCell (p := ⟨A, 1, none⟩) (.inl HwA.out) _
      obtain ⟨W4, hW4⟩ : ∃ W4, Hid ((w3.setCell ⟨A, 1, none⟩ (.int .i64 v)) = W4) := ⟨_, rfl⟩
      rw [hW4.out] at hV4 hR4 ha4 HB4
      have ca3 := Boxed.cell ha4
      have fa3 := Boxed.frozen ha4
      have hV5 : Box (W4.setCell ⟨Ba, 0, none⟩ (.int .i64 q2)) A 4 v ⟨#[]⟩ := hV4.other n4 (.int .i64 q2)
      have hR5 : Box (W4.setCell ⟨Ba, 0, none⟩ (.int .i64 q2)) R 0 0 ⟨#[]⟩ := hR4.other n5 (.int .i64 q2)
      have ha5 : Boxed (W4.setCell ⟨Ba, 0, none⟩ (.int .i64 q2)) Ba 3 (.int .i64 q2) := Boxed.set (.int .i64 q2) ha4
      have HB5 : Hid (But Ba w (W4.setCell ⟨Ba, 0, none⟩ (.int .i64 q2))) := HB4.out.setCell (p := ⟨Ba, 0, none⟩) (.inr rfl) _
      obtain ⟨W5, hW5⟩ : ∃ W5, Hid ((W4.setCell ⟨Ba, 0, none⟩ (.int .i64 q2)) = W5) := ⟨_, rfl⟩
      rw [hW5.out] at hV5 hR5 ha5 HB5
      obtain ⟨x0, x1, x2⟩ := hV5.cells
      obtain ⟨s0, s1, s2⟩ := hR5.frozen
      obtain ⟨g0, g1, g2⟩ := hR5.cells
      have hgs := stored3 (.int .i64 4) (.int .i64 v) (.string ⟨#[]⟩) g0 g1 g2
      have HBf : Hid (But Ba w (((W5.setCell ⟨R, 0, none⟩ (.int .i64 4)).setCell ⟨R, 1, none⟩ (.int .i64 v)).setCell ⟨R, 2, none⟩ (.string ⟨#[]⟩))) := ((HB5.out.setCell (p := ⟨R, 0, none⟩) (.inl HwR.out) _).setCell (p := ⟨R, 1, none⟩) (.inl HwR.out) _).setCell (p := ⟨R, 2, none⟩) (.inl HwR.out) _
      have HAf : Hid (Boxed (((W5.setCell ⟨R, 0, none⟩ (.int .i64 4)).setCell ⟨R, 1, none⟩ (.int .i64 v)).setCell ⟨R, 2, none⟩ (.string ⟨#[]⟩)) Ba 3 (.int .i64 q2)) := Boxed.otherC (Boxed.otherC (Boxed.otherC ha5 n3 _) n3 _) n3 _
      clear hV4 hR4 ha4 hV5 hR5 ha5 hV3 hR3 ha3 hv2 hx2 hbyte hBaw hBbw hRA hBaR hbd hV hR2 ha2 hb3
      go_wp2_with (first | rw [hW4.out] | rw [hW5.out])
      exact bodyPost_ret (v := .tuple #[.agg #[.int .i64 4, .int .i64 v, .string ⟨#[]⟩], .bool o2]) (by simp [results, Try.results64, go_sem, hgs]) rfl (by rw [HG.out]; exact ⟨rfl, HBf.out, fun _ => HAf.out⟩)
    have HG : Hid (getRI M F p = ⟨a, 0, noBytes, q1, true⟩) := by show _ = _; rw [hG.out, if_neg c1, if_neg c2, if_neg c3]
    have c1a : ¬ a = 1 := fun h => c1 (.inl h)
    have c1b : ¬ a = 2 := fun h => c1 (.inr h)
    clear hG c1 r0 r1 r2 s0 s1 s2 z0 z1 z2 y0 y1 y2 ca2 fa2
    have hV4 := hV
    have hR4 := hR2
    have ha4 := ha2
    have HB4 := HB2
    have ca3 := Boxed.cell ha4
    have fa3 := Boxed.frozen ha4
    have hV5 : Box (W2.setCell ⟨Ba, 0, none⟩ (.int .i64 q1)) A a 0 ⟨#[]⟩ := hV4.other n4 (.int .i64 q1)
    have hR5 : Box (W2.setCell ⟨Ba, 0, none⟩ (.int .i64 q1)) R 0 0 ⟨#[]⟩ := hR4.other n5 (.int .i64 q1)
    have ha5 : Boxed (W2.setCell ⟨Ba, 0, none⟩ (.int .i64 q1)) Ba 3 (.int .i64 q1) := Boxed.set (.int .i64 q1) ha4
    have HB5 : Hid (But Ba w (W2.setCell ⟨Ba, 0, none⟩ (.int .i64 q1))) := HB4.out.setCell (p := ⟨Ba, 0, none⟩) (.inr rfl) _
    obtain ⟨W5, hW5⟩ : ∃ W5, Hid ((W2.setCell ⟨Ba, 0, none⟩ (.int .i64 q1)) = W5) := ⟨_, rfl⟩
    rw [hW5.out] at hV5 hR5 ha5 HB5
    obtain ⟨x0, x1, x2⟩ := hV5.cells
    obtain ⟨s0, s1, s2⟩ := hR5.frozen
    obtain ⟨g0, g1, g2⟩ := hR5.cells
    have hgs := stored3 (.int .i64 a) (.int .i64 0) (.string ⟨#[]⟩) g0 g1 g2
    have HBf : Hid (But Ba w (((W5.setCell ⟨R, 0, none⟩ (.int .i64 a)).setCell ⟨R, 1, none⟩ (.int .i64 0)).setCell ⟨R, 2, none⟩ (.string ⟨#[]⟩))) := ((HB5.out.setCell (p := ⟨R, 0, none⟩) (.inl HwR.out) _).setCell (p := ⟨R, 1, none⟩) (.inl HwR.out) _).setCell (p := ⟨R, 2, none⟩) (.inl HwR.out) _
    have HAf : Hid (Boxed (((W5.setCell ⟨R, 0, none⟩ (.int .i64 a)).setCell ⟨R, 1, none⟩ (.int .i64 0)).setCell ⟨R, 2, none⟩ (.string ⟨#[]⟩)) Ba 3 (.int .i64 q1)) := Boxed.otherC (Boxed.otherC (Boxed.otherC ha5 n3 _) n3 _) n3 _
    clear hV4 hR4 ha4 hV5 hR5 ha5 hV hR2 ha2 hv2 hx2 hbyte hBaw hBbw hRA hBaR hbd
    go_wp2_with (first | rw [hW2.out, hA.out] | rw [hW5.out])
    exact bodyPost_ret (v := .tuple #[.agg #[.int .i64 a, .int .i64 0, .string ⟨#[]⟩], .bool true]) (by simp [results, Try.results64, go_sem, hgs]) rfl (by rw [HG.out]; exact ⟨rfl, HBf.out, fun _ => HAf.out⟩)

set_option maxHeartbeats 1000000 in
/-- rowReader boxes its two arguments. -/
theorem rowReader_any (a : Option Addr) (n cap : Nat) (p : Int) (w : World) :
    Calls Try.prog 47 #[.slice a n cap, .int .i64 p] w fun e w' => e = .returned (.func (.func 64) #[] #[.pointer (some ⟨w.heap.size, 0, none⟩), .pointer (some ⟨w.heap.size + 1, 0, none⟩)]) ∧ w' = (w.alloc (.cells #[.slice a n cap] 34)).alloc (.cells #[.int .i64 p] 3) := by
  go_enter Try.func47, Try.ntmps47
  go_wp2
  go_ret
  exact ⟨rfl, rfl⟩
end Go.Proofs.Ytikopeihkbpjhas

/-
  Bytes that were put behind one another, in a row of the call's own.
-/
namespace Go.Proofs.Ytikopeihkbpjhas
open Go.RowKit
set_option maxRecDepth 4000

theorem Row.none (w : World) (t : TypeId) (f : Nat → Int) : Row t (w.alloc (.cells #[] t)) w.heap.size 0 f :=
  Row.ofIs (World.rowIs_alloc w #[] t (fun i => .int .u8 (f i)) (fun _ hj => absurd hj (Nat.not_lt_zero _)))

/-- The first k values are put. -/
structure EncTo (w wr : World) (g cg : Nat) (L : List Int) : Prop where
  row : Row 5 wr g L.length (fun i => L.getD i 0)
  new : w.heap.size ≤ g
  le : L.length ≤ cg
  below : Below w.heap.size w wr
end Go.Proofs.Ytikopeihkbpjhas

/-
  What putting behind bytes comes to.
-/
namespace Go.Proofs.Ytikopeihkbpjhas
open Go.RowKit
set_option maxRecDepth 4000

theorem EncTo.byte {w wr : World} {g cg : Nat} {L : List Int} (h : EncTo w wr g cg L) (hb : ∀ y ∈ L, 0 ≤ y ∧ y ≤ 255) : View wr (some ⟨g, 0, none⟩) L.length cg (fun i => L.getD i 0) :=
  h.row.view h.le (fun i hi => by
    have e : L.getD i 0 = L[i] := by simp [List.getD, List.getElem?_eq_getElem hi]
    show 0 ≤ L.getD i 0 ∧ L.getD i 0 ≤ 255
    rw [e]; exact hb _ (List.getElem_mem hi))
/-- What putting behind L comes to. -/
def EncMore (w W : World) (L : List Int) (e : Ending) (w' : World) : Prop := ∃ g c, e = .returned (.slice (some ⟨g, 0, none⟩) L.length c) ∧ EncTo w w' g c L ∧ Below W.heap.size W w'
theorem own_base {w : World} {base base' : Nat} {t : TypeId} {size : Nat} {v : Value} {n : Nat} {l : List Value} (h : w.ownsRow base t size v n l) (hb : base' ≤ base) : w.ownsRow base' t size v n l := by
  obtain ⟨hl, h⟩ := h
  rcases h with h | ⟨g, c, cur, e, hg, r⟩
  · exact ⟨hl, .inl h⟩
  · exact ⟨hl, .inr ⟨g, c, cur, e, Nat.le_trans hb hg, r⟩⟩
end Go.Proofs.Ytikopeihkbpjhas

/-
  The program's putNumbers at one number: what was there, and behind it the number's groups, in memory of its own.
-/
namespace Go.Proofs.Ytikopeihkbpjhas
open Go.RowKit
set_option maxRecDepth 4000

set_option maxHeartbeats 1000000 in
theorem putNums_one (b off n cap : Nat) (f : Nat → Int) (x : Int) (b2 : Nat) (w : World) (hv : View w (some ⟨b, off, none⟩) n cap f) (hn : n ≤ 35184372088832) (hx0 : -9223372036854775808 ≤ x) (hx1 : x ≤ 9223372036854775807)
    (hx : w.cell? ⟨b2, 0, none⟩ = some (.int .i64 x)) :
    Calls Try.prog 57 #[.slice (some ⟨b, off, none⟩) n cap, .slice (some ⟨b2, 0, none⟩) 1 1] w fun e w' => ∃ g c, e = .returned (.slice (some ⟨g, 0, none⟩) (n + (groups (clampN x)).length) c) ∧ w.heap.size ≤ g ∧ n + (groups (clampN x)).length ≤ c ∧ Row 5 w' g (n + (groups (clampN x)).length) (fun i => (lof n f ++ groups (clampN x)).getD i 0) ∧ Below w.heap.size w w' := by
  obtain ⟨i0, hi, hz0, hz1, hz2⟩ := info_parts Try.info5
  go_enter Try.func57, Try.ntmps57
  go_wp2
  refine wp_loop_rounds 2 ?_
  rw [rounds_succ]
  go_wp2
  all_goals
    go_loopg [5, 8] (clampN x).toNat (fun g v s wr => ∃ (y : Int) (ys : List Int), s = .int .i64 y ∧ 0 ≤ y ∧ y ≤ 1000000 ∧ g = y.toNat ∧ groups (clampN x) = ys ++ groups y ∧ wr.ownsRow w.heap.size 5 1 v ys.length (bl ys) ∧ Below w.heap.size w wr)
    case atStart => exact ⟨clampN x, [], congrArg (Value.int .i64) (by unfold clampN; split <;> (try split) <;> omega), (clampN_bd x).1, (clampN_bd x).2, rfl, rfl, World.ownsRow_nil _ _ _ _, Below.refl _ _⟩
    case round =>
      obtain ⟨y, ys, rfl, hy0, hy1, rfl, hgr, hown, hB⟩ := hrel
      have HG : Hid (groups (clampN x) = ys ++ groups y) := hgr
      have hlen : ys.length ≤ 3 := by have := groups_len (clampN x); rw [hgr] at this; simp at this; have := groups_len y; omega
      clear hgr
      by_cases hlt : y < 128
      · go_wp2_with (first | (at_builtin; go_must (refine wpList_append_own _ rfl (.tmp 29) (.tmp 32) 34 rfl w.heap.size 5 i0 (.int .u8 0) 1 1 Try.underlying34 hi hz0 hz1 hz2 rfl (by decide) u5 _ _ rfl (hown.alloc _) ⟨wr.heap.size, 0, none⟩ 1 1 [.int .u8 y] rfl rfl (cellNew _ _ _) (bl_one [y]) (by unfold maxLen; omega) (by omega) (by have := hB.size; simp; omega) ?_); intro v2 w2 hown2 hgr2 _))
        have hB2 : Below w.heap.size w w2 := (hB.alloc hB.size _).grown hgr2 (by have := hB.size; simp; omega) (fun k hk => (hown.lt k hk).1)
        have hO2 : w2.ownsRow w.heap.size 5 1 v2 (groups (clampN x)).length (bl (groups (clampN x))) := by
          rw [HG.out, groups_last y hlt, List.length_append, bl_append]
          exact hown2
        clear hgr2 hown hown2 hB
        obtain ⟨g, c, hv2, hg, hgc, hrow⟩ := row_of_own hO2 (groups_len (clampN x)).1
        clear hO2
        have HL : Hid ((groups (clampN x)).length ≤ 3) := (groups_len (clampN x)).2
        have HB : Hid (∀ i, i < (groups (clampN x)).length → 0 ≤ (groups (clampN x)).getD i 0 ∧ (groups (clampN x)).getD i 0 ≤ 255) := fun i hi => by
          have := groups_byte (clampN x) (clampN_bd x).1 (clampN_bd x).2 _ (List.getElem_mem hi)
          simpa [hi] using this
        generalize hgs : groups (clampN x) = gs at *
        have HE : Hid (groups (clampN x) = gs) := hgs
        clear hgs HG
        rw [hv2]
        clear hv2
        go_wp2
        rw [rounds_succ]
        go_wp2_with fail
        refine (putBytes_any b off n cap f (some ⟨g, 0, none⟩) gs.length c (fun i => gs.getD i 0) w2 (hv.below hB2) (hrow.view hgc HB.out) (by intro h; cases h) (by have := HL.out; omega)).mono ?_
        rintro e w3 ⟨rfl, hown3, hb3⟩
        go_wp2
        go_ret
        rw [lof_self] at hown3
        rw [HE.out]
        exact ⟨w2.heap.size, n + gs.length, rfl, hB2.size, Nat.le_refl _, row_of_owned hown3, hB2.trans (hb3.mono hB2.size)⟩
      · have hG2 : Hid (groups (clampN x) = (ys ++ [y % 128 + 128]) ++ groups (y / 128)) := by
          have := HG.out
          rw [groups_step y (by omega) hy1] at this
          rw [List.append_assoc]; exact this
        go_wp2_with (at_builtin; go_must (refine wpList_append_own _ rfl (.tmp 20) (.tmp 25) 34 rfl w.heap.size 5 i0 (.int .u8 0) 1 1 Try.underlying34 hi hz0 hz1 hz2 rfl (by decide) u5 _ _ rfl (hown.alloc _) ⟨wr.heap.size, 0, none⟩ 1 1 [.int .u8 (y % 128 + 128)] rfl rfl (cellNew _ _ _) (bl_one [y % 128 + 128]) (by unfold maxLen; omega) (by omega) (by have := hB.size; simp; omega) ?_); intro v2 w2 hown2 hgr2 _)
        have hB2 : Below w.heap.size w w2 := (hB.alloc hB.size _).grown hgr2 (by have := hB.size; simp; omega) (fun k hk => (hown.lt k hk).1)
        have hO2 : w2.ownsRow w.heap.size 5 1 v2 (ys ++ [y % 128 + 128]).length (bl (ys ++ [y % 128 + 128])) := by
          rw [List.length_append, bl_append]
          exact hown2
        clear hgr2 hown hown2 hB
        go_wp2
        go_roundg ((y / 128).toNat)
        case measure => omega
        case rel => exact ⟨y / 128, ys ++ [y % 128 + 128], rfl, by omega, by omega, rfl, hG2.out, hO2, hB2⟩

end Go.Proofs.Ytikopeihkbpjhas

/-
  The program's putBytes, putNumbers and PutU behind bytes that may be nil.
-/
namespace Go.Proofs.Ytikopeihkbpjhas
open Go.RowKit
set_option maxRecDepth 4000

set_option maxHeartbeats 1000000 in
theorem putBytes_opt (ai : Option Addr) (n cap : Nat) (f : Nat → Int) (ao : Option Addr) (m c : Nat) (g : Nat → Int) (w : World) (hv : View w ai n cap f) (hni : ai = none → n = 0 ∧ cap = 0) (hg : View w ao m c g) (hno : ao = none → m = 0 ∧ c = 0) (hn : n + m ≤ 70368744177664) :
    Calls Try.prog 60 #[.slice ai n cap, .slice ao m c] w fun e w' => e = .returned (.slice (some ⟨w.heap.size, 0, none⟩) (n + m) (n + m)) ∧ w'.ownsRow w.heap.size 5 1 (.slice (some ⟨w.heap.size, 0, none⟩) (n + m) (n + m)) (n + m) (bl (lof n f ++ lof m g)) ∧ Below w.heap.size w w' := by
  obtain ⟨i0, hi, hz0, hz1, hz2⟩ := info_parts Try.info5
  go_enter Try.func60, Try.ntmps60
  go_wp2_with (first | (at_make; go_must (refine wpList_make_own _ rfl (.const (.int .i64 0)) (.tmp 10) 34 rfl w.heap.size 5 i0 (.int .u8 0) 1 Try.underlying34 hi hz0 hz1 .i64 .i64 ((n : Int) + (m : Int)) (n + m) rfl rfl (by omega) (by rw [hz2]; omega) (by unfold maxLen; omega) (Nat.le_refl _) ?_); intro w1 hown1 hgr1) | (at_builtin; refine wpList_append_fits_any _ rfl (.tmp 12) (.tmp 13) 34 rfl w.heap.size 5 i0 1 Try.underlying34 hi hz1 w.heap.size 0 (n + m) [] rfl hown1 ai n cap (bl (lof n f)) rfl (by rw [bl_len, lof_len]; omega) hni (cells_of_any (hv.below (below_new hgr1))) (bl_one _) (by omega) ?_; intro w2 hown2 hgr2; simp only [Nat.zero_add, List.nil_append] at hown2) | (at_builtin; refine wpList_append_fits_any _ rfl (.tmp 15) (.tmp 16) 34 rfl w.heap.size 5 i0 1 Try.underlying34 hi hz1 w.heap.size n (n + m) (bl (lof n f)) rfl hown2 ao m c (bl (lof m g)) rfl (by rw [bl_len, lof_len]; omega) hno (cells_of_any (hg.below (below_app hgr1 hgr2))) (bl_one _) (by omega) ?_; intro w3 hown3 hgr3))
  go_ret
  exact ⟨rfl, by rw [bl_append]; exact hown3, (below_app hgr1 hgr2).grown hgr3 (Nat.le_trans hgr1.size hgr2.size) (by intro k hk; cases hk; exact Nat.le_refl _)⟩
set_option maxHeartbeats 1000000 in
theorem putNums_opt (ai : Option Addr) (n cap : Nat) (f : Nat → Int) (x : Int) (b2 : Nat) (w : World) (hv : View w ai n cap f) (hni : ai = none → n = 0 ∧ cap = 0) (hn : n ≤ 35184372088832) (hx0 : -9223372036854775808 ≤ x) (hx1 : x ≤ 9223372036854775807)
    (hx : w.cell? ⟨b2, 0, none⟩ = some (.int .i64 x)) :
    Calls Try.prog 57 #[.slice ai n cap, .slice (some ⟨b2, 0, none⟩) 1 1] w fun e w' => ∃ g c, e = .returned (.slice (some ⟨g, 0, none⟩) (n + (groups (clampN x)).length) c) ∧ w.heap.size ≤ g ∧ n + (groups (clampN x)).length ≤ c ∧ Row 5 w' g (n + (groups (clampN x)).length) (fun i => (lof n f ++ groups (clampN x)).getD i 0) ∧ Below w.heap.size w w' := by
  obtain ⟨i0, hi, hz0, hz1, hz2⟩ := info_parts Try.info5
  go_enter Try.func57, Try.ntmps57
  go_wp2
  refine wp_loop_rounds 2 ?_
  rw [rounds_succ]
  go_wp2
  all_goals
    go_loopg [5, 8] (clampN x).toNat (fun g v s wr => ∃ (y : Int) (ys : List Int), s = .int .i64 y ∧ 0 ≤ y ∧ y ≤ 1000000 ∧ g = y.toNat ∧ groups (clampN x) = ys ++ groups y ∧ wr.ownsRow w.heap.size 5 1 v ys.length (bl ys) ∧ Below w.heap.size w wr)
    case atStart => exact ⟨clampN x, [], congrArg (Value.int .i64) (by unfold clampN; split <;> (try split) <;> omega), (clampN_bd x).1, (clampN_bd x).2, rfl, rfl, World.ownsRow_nil _ _ _ _, Below.refl _ _⟩
    case round =>
      obtain ⟨y, ys, rfl, hy0, hy1, rfl, hgr, hown, hB⟩ := hrel
      have HG : Hid (groups (clampN x) = ys ++ groups y) := hgr
      have hlen : ys.length ≤ 3 := by have := groups_len (clampN x); rw [hgr] at this; simp at this; have := groups_len y; omega
      clear hgr
      by_cases hlt : y < 128
      · go_wp2_with (first | (at_builtin; go_must (refine wpList_append_own _ rfl (.tmp 29) (.tmp 32) 34 rfl w.heap.size 5 i0 (.int .u8 0) 1 1 Try.underlying34 hi hz0 hz1 hz2 rfl (by decide) u5 _ _ rfl (hown.alloc _) ⟨wr.heap.size, 0, none⟩ 1 1 [.int .u8 y] rfl rfl (cellNew _ _ _) (bl_one [y]) (by unfold maxLen; omega) (by omega) (by have := hB.size; simp; omega) ?_); intro v2 w2 hown2 hgr2 _))
        have hB2 : Below w.heap.size w w2 := (hB.alloc hB.size _).grown hgr2 (by have := hB.size; simp; omega) (fun k hk => (hown.lt k hk).1)
        have hO2 : w2.ownsRow w.heap.size 5 1 v2 (groups (clampN x)).length (bl (groups (clampN x))) := by
          rw [HG.out, groups_last y hlt, List.length_append, bl_append]
          exact hown2
        clear hgr2 hown hown2 hB
        obtain ⟨g, c, hv2, hg, hgc, hrow⟩ := row_of_own hO2 (groups_len (clampN x)).1
        clear hO2
        have HL : Hid ((groups (clampN x)).length ≤ 3) := (groups_len (clampN x)).2
        have HB : Hid (∀ i, i < (groups (clampN x)).length → 0 ≤ (groups (clampN x)).getD i 0 ∧ (groups (clampN x)).getD i 0 ≤ 255) := fun i hi => by
          have := groups_byte (clampN x) (clampN_bd x).1 (clampN_bd x).2 _ (List.getElem_mem hi)
          simpa [hi] using this
        generalize hgs : groups (clampN x) = gs at *
        have HE : Hid (groups (clampN x) = gs) := hgs
        clear hgs HG
        rw [hv2]
        clear hv2
        go_wp2
        rw [rounds_succ]
        go_wp2_with fail
        refine (putBytes_opt ai n cap f (some ⟨g, 0, none⟩) gs.length c (fun i => gs.getD i 0) w2 (hv.below hB2) hni (hrow.view hgc HB.out) (by intro h; cases h) (by have := HL.out; omega)).mono ?_
        rintro e w3 ⟨rfl, hown3, hb3⟩
        go_wp2
        go_ret
        rw [lof_self] at hown3
        rw [HE.out]
        exact ⟨w2.heap.size, n + gs.length, rfl, hB2.size, Nat.le_refl _, row_of_owned hown3, hB2.trans (hb3.mono hB2.size)⟩
      · have hG2 : Hid (groups (clampN x) = (ys ++ [y % 128 + 128]) ++ groups (y / 128)) := by
          have := HG.out
          rw [groups_step y (by omega) hy1] at this
          rw [List.append_assoc]; exact this
        go_wp2_with (at_builtin; go_must (refine wpList_append_own _ rfl (.tmp 20) (.tmp 25) 34 rfl w.heap.size 5 i0 (.int .u8 0) 1 1 Try.underlying34 hi hz0 hz1 hz2 rfl (by decide) u5 _ _ rfl (hown.alloc _) ⟨wr.heap.size, 0, none⟩ 1 1 [.int .u8 (y % 128 + 128)] rfl rfl (cellNew _ _ _) (bl_one [y % 128 + 128]) (by unfold maxLen; omega) (by omega) (by have := hB.size; simp; omega) ?_); intro v2 w2 hown2 hgr2 _)
        have hB2 : Below w.heap.size w w2 := (hB.alloc hB.size _).grown hgr2 (by have := hB.size; simp; omega) (fun k hk => (hown.lt k hk).1)
        have hO2 : w2.ownsRow w.heap.size 5 1 v2 (ys ++ [y % 128 + 128]).length (bl (ys ++ [y % 128 + 128])) := by
          rw [List.length_append, bl_append]
          exact hown2
        clear hgr2 hown hown2 hB
        go_wp2
        go_roundg ((y / 128).toNat)
        case measure => omega
        case rel => exact ⟨y / 128, ys ++ [y % 128 + 128], rfl, by omega, by omega, rfl, hG2.out, hO2, hB2⟩

set_option maxHeartbeats 1000000 in
theorem putU_opt (ai : Option Addr) (n cap : Nat) (f : Nat → Int) (x : Int) (w : World) (hv : View w ai n cap f) (hni : ai = none → n = 0 ∧ cap = 0) (hn : n ≤ 35184372088832) (hx0 : -9223372036854775808 ≤ x) (hx1 : x ≤ 9223372036854775807) :
    Calls Try.prog 38 #[.slice ai n cap, .int .i64 x] w fun e w' => ∃ g c, e = .returned (.slice (some ⟨g, 0, none⟩) (n + (groups (clampN x)).length) c) ∧ w.heap.size ≤ g ∧ n + (groups (clampN x)).length ≤ c ∧ Row 5 w' g (n + (groups (clampN x)).length) (fun i => (lof n f ++ groups (clampN x)).getD i 0) ∧ Below w.heap.size w w' := by
  go_enter Try.func38, Try.ntmps38
  go_wp2_with fail
  have hb1 : Below w.heap.size w (w.alloc (.cells #[.int .i64 x] 3)) := (Below.refl _ _).alloc (Nat.le_refl _) _
  refine (putNums_opt ai n cap f x w.heap.size _ (hv.below hb1) hni hn hx0 hx1 (by simp)).mono ?_
  rintro e w2 ⟨g, c, rfl, hg, hgc, hrow, hb2⟩
  go_wp2
  go_ret
  exact ⟨g, c, rfl, by simp at hg; omega, hgc, hrow, hb1.trans (hb2.mono (by simp))⟩
end Go.Proofs.Ytikopeihkbpjhas

/-
  The program's setDigits: it fills all of the room with the number's last bytes, the highest first, and writes nothing else.
-/
namespace Go.Proofs.Ytikopeihkbpjhas
open Go.RowKit
set_option maxRecDepth 4000

/-- From d on the room holds what it is to hold. -/
def fillF (off k d : Nat) (n : Int) (f : Nat → Int) (i : Nat) : Int := if off + d ≤ i ∧ i < off + k then be k n (i - off) else f i
theorem fillF_step (off k d : Nat) (n : Int) (f : Nat → Int) (hd : d + 1 ≤ k) (i : Nat) : (if i = off + d then n / 256 ^ (k - (d + 1)) % 256 else fillF off k (d + 1) n f i) = fillF off k d n f i := by
  unfold fillF
  by_cases e : i = off + d
  · subst e
    rw [if_pos rfl, if_pos (by omega)]
    unfold be dg
    rw [show k - 1 - (off + d - off) = k - (d + 1) by omega]
  · rw [if_neg e]
    by_cases h : off + (d + 1) ≤ i ∧ i < off + k
    · rw [if_pos h, if_pos (by omega)]
    · rw [if_neg h, if_neg (by omega)]

/-- Of the room all behind d is filled. -/
structure Filled (t : TypeId) (w wr : World) (g off k m : Nat) (n : Int) (f : Nat → Int) (d : Nat) : Prop where
  row : Row t wr g m (fillF off k d n f)
  only : Only g w wr
theorem filled_step {t : TypeId} {w wr : World} {g off k m : Nat} {n : Int} {f : Nat → Int} {d : Nat} (h : Filled t w wr g off k m n f (d + 1)) (hd : d + 1 ≤ k) : Filled t w (wr.setCell ⟨g, off + d, none⟩ (.int .u8 (n / 256 ^ (k - (d + 1)) % 256))) g off k m n f d :=
  ⟨(h.row.set (off + d) _).congr (fun i _ => fillF_step off k d n f hd i), h.only.setCell _⟩

set_option maxHeartbeats 1000000 in
theorem setDigits_any (t : TypeId) (g off k c m : Nat) (f : Nat → Int) (n : Int) (w : World) (hr : Row t w g m f) (hm : off + k ≤ m) (hk : k ≤ 1000) (hn0 : 0 ≤ n) :
    Calls Try.prog 73 #[.slice (some ⟨g, off, none⟩) k c, .int .i64 n] w fun e w' => e = .returned (.tuple #[]) ∧ Row t w' g m (fillF off k 0 n f) ∧ Only g w w' := by
  have hF0 : Filled t w w g off k m n f k := ⟨hr.congr (fun i _ => by unfold fillF; rw [if_neg (by omega)]), Only.refl _ _⟩
  clear hr
  go_enter Try.func73, Try.ntmps73
  go_wp2
  go_loopg [1, 4] k (fun q a i wr => ∃ d : Nat, d ≤ k ∧ q = d ∧ a = .int .i64 (n / 256 ^ (k - d)) ∧ i = .int .i64 ((d : Int) - 1) ∧ Filled t w wr g off k m n f d)
  case atStart => exact ⟨k, Nat.le_refl _, rfl, by simp, rfl, hF0⟩
  case round =>
    obtain ⟨d, hd, hq, rfl, rfl, hF⟩ := hrel
    clear hF0
    have ha0 : 0 ≤ n / 256 ^ (k - d) := Int.ediv_nonneg hn0 (Int.le_of_lt (Int.pow_pos (by decide)))
    have ha1 : n / 256 ^ (k - d) ≤ n := Int.ediv_le_self _ hn0
    rcases d with _ | d
    · have hR := hF.row
      have hO := hF.only
      clear hF
      go_wp2
      go_end0
      exact ⟨rfl, hR, hO⟩
    · have HS : Hid _ := filled_step hF hd
      have hc := hF.row.cell (i := off + d) (by omega)
      have hf := hF.row.frozen (off + d)
      have HN : Hid (n / 256 ^ (k - (d + 1)) / 256 = n / 256 ^ (k - d)) := by show _ = _; rw [div_pow_succ, show k - (d + 1) + 1 = k - d by omega]
      clear hF
      generalize n / 256 ^ (k - (d + 1)) = a at *
      go_wp2
      go_roundg d
      case measure => omega
      case rel => exact ⟨d, by omega, rfl, by rw [← HN.out], by go_num, HS.out⟩
end Go.Proofs.Ytikopeihkbpjhas

