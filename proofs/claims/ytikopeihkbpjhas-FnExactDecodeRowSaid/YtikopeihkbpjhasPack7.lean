/-
  Together: RowEncImpl, RowDecImpl, Slices, Mark, PartHelp, PartRowCopy, MarkParts, MarkText, MarkVals, HeldVals, Vals, ValHelp, RowCopy, RowVMore, EqVal, EqValS, RowBut, PartRowEq
-/
import Derived.Test.YtikopeihkbpjhasPack6
import Derived.Test.YtikopeihkbpjhasPack5
import Derived.Test.YtikopeihkbpjhasPack2
import Derived.Test.YtikopeihkbpjhasPack1
import Derived.Test.YtikopeihkbpjhasPack3
import Derived.Deep.LoopGhost
import Derived.Test.YtikopeihkbpjhasPack4
import Derived.Deep.RegionHeld3
import Derived.Deep.Strs
/-
  The program's EncodeRow: its values one behind the other, and a sum.
-/
namespace Go.Proofs.Ytikopeihkbpjhas
open Go.RowKit
set_option maxRecDepth 4000

set_option linter.unusedSimpArgs false in
set_option maxHeartbeats 2000000 in
theorem implEncodeRow_any (a : Option Addr) (n cap : Nat) (fc ft : Nat → Int) (fu fd : Nat → Bool) (a2 : Option Addr) (m cap2 : Nat) (fk fn : Nat → Int) (fs : Nat → ByteArray) (w : World) (h : PView w a n cap fc ft fu fd) (h2 : VView w a2 m cap2 fk fn fs) (hn : n ≤ 281474976710656) (hm : m ≤ 281474976710656) :
    Calls Try.prog 15 #[.slice a n cap, .slice a2 m cap2] w fun e w' => ∃ g cg, e = .returned (.slice (some ⟨g, 0, none⟩) (encB n fc ft fu m fk fn fs).length cg) ∧ EncTo w w' g cg (encB n fc ft fu m fk fn fs) := by
  go_enter Try.func15, Try.ntmps15
  go_wp2_with fail
  refine (implRowOk_any a n cap fc ft fu fd a2 m cap2 fk fn fs w h h2 hn hm).mono ?_
  cases hok : rowOk n fc ft fu m fk fn fs with
  | false =>
    have HE : Hid (encB n fc ft fu m fk fn fs = []) := by show _ = _; unfold encB; rw [hok]; rfl
    rintro e w1 ⟨rfl, hb⟩
    have HT : Hid (EncTo w (w1.alloc (.cells #[] 5)) w1.heap.size 0 []) := ⟨Row.none w1 _ _, hb.size, Nat.le_refl _, hb.alloc hb.size _⟩
    clear h h2 hb
    go_wp2
    go_ret
    refine ⟨_, 0, by rw [HE.out]; rfl, ?_⟩
    rw [HE.out]; exact HT.out
  | true =>
    have HE : Hid (encB n fc ft fu m fk fn fs = sumB (rowB m fk fn fs)) := by show _ = _; unfold encB; rw [hok]; rfl
    have hrk := hok
    unfold rowOk at hrk
    simp only [Bool.and_eq_true, decide_eq_true_eq] at hrk
    obtain ⟨hpk, hmn, hfa⟩ := hrk
    obtain ⟨-, hfit⟩ := fitsAll_iff.1 hfa
    have hm6 : m ≤ 6 := by have := (planOk_iff.1 hpk).2; omega
    have HOK : Hid (∀ i, i < m → okF (fk i) (fn i) (fs i) = true) := fun i hi => by have := hfit i hi; unfold fitsP at this; simp only [Bool.and_eq_true] at this; exact this.1
    rintro e w1 ⟨rfl, hb⟩
    clear hpk hfa hfit hok hmn h
    have hC := putU_encNil w w1 (m : Int) hb (by omega) (by omega)
    clear hb
    obtain ⟨vb, hvb⟩ : ∃ vb : Nat → List Int, Hid (vb = fun i => valB (fk i) (fn i) (fs i)) := ⟨_, rfl⟩
    have HRB : Hid (rowB m fk fn fs = groups (clampN m) ++ keyT vb m) := by show _ = _; rw [hvb.out]; rfl
    obtain ⟨G0, hG0⟩ : ∃ G0, Hid (groups (clampN (m : Int)) = G0) := ⟨_, rfl⟩
    have HB : Hid (∀ k, ∀ y ∈ G0 ++ keyT vb k, 0 ≤ y ∧ y ≤ 255) := fun k y hy => by
      rcases List.mem_append.1 hy with hy | hy
      · rw [← hG0.out] at hy; exact groups_byte _ (clampN_bd _).1 (clampN_bd _).2 y hy
      · rw [hvb.out] at hy; exact keyT_byte (fun i _ => valB_byte _ _ _) y hy
    have HLn : Hid (∀ k, k ≤ m → (G0 ++ keyT vb k).length ≤ 1000) := fun k hk => by
      have h1 : (keyT vb k).length ≤ k * 69 := keyT_len (fun i hi => by
        rw [hvb.out]
        have h3 := valB_len (fk i) (fn i) (fs i)
        have h4 := okF_few (HOK.out i (by omega))
        show (valB (fk i) (fn i) (fs i)).length ≤ 69
        omega)
      have h2 := (groups_len (clampN (m : Int))).2
      rw [hG0.out] at h2
      rw [List.length_append]
      omega
    rw [hG0.out] at hC HRB
    go_wp2_with fail
    refine hC.mono ?_
    rintro e w2 ⟨g, c, rfl, hE, hB2⟩
    clear hC hB2
    go_wp2
    go_loopg [5, 18] m (fun q v i wr => ∃ (k g c : Nat), k ≤ m ∧ q = m - k ∧ v = .slice (some ⟨g, 0, none⟩) (G0 ++ keyT vb k).length c ∧ i = .int .i64 k ∧ EncTo w wr g c (G0 ++ keyT vb k))
    case atStart => exact ⟨0, g, c, Nat.zero_le _, rfl, by simp [keyT], rfl, by simpa [keyT] using hE⟩
    case round =>
      clear hE
      obtain ⟨k, g3, c3, hk, rfl, rfl, rfl, hE⟩ := hrel
      by_cases hlt : k < m
      · have hkz : (k : Int) < (m : Int) := by omega
        obtain ⟨b2, o2, rfl, hb2, hd2⟩ := (h2.below hE.below).cells (by omega)
        obtain ⟨x0, x1, x2⟩ := hd2 k hlt
        have hok := HOK.out k hlt
        have hvk : Hid (keyT vb (k + 1) = keyT vb k ++ valB (fk k) (fn k) (fs k)) := by show _ = _; rw [keyT, hvb.out]
        have hby := HB.out k
        have hln := HLn.out k hk
        obtain ⟨L, hL⟩ : ∃ L, Hid (G0 ++ keyT vb k = L) := ⟨_, rfl⟩
        rw [hL.out] at hE hby hln ⊢
        obtain ⟨q0, hq0⟩ : ∃ p, fk k = p := ⟨_, rfl⟩
        obtain ⟨q1, hq1⟩ : ∃ p, fn k = p := ⟨_, rfl⟩
        obtain ⟨q2, hq2⟩ : ∃ p, fs k = p := ⟨_, rfl⟩
        rw [hq0] at x0 hok hvk
        rw [hq1] at x1 hok hvk
        rw [hq2] at x2 hok hvk
        clear hd2 hq0 hq1 hq2
        have HL2 : Hid (G0 ++ keyT vb (k + 1) = L ++ valB q0 q1 q2) := by show _ = _; rw [hvk.out, ← List.append_assoc, hL.out]
        clear hvk
        have hbw : Below wr.heap.size wr (wr.alloc (.cells #[.int .i64 q0, .int .i64 q1, .string q2] 52)) := (Below.refl _ _).alloc (Nat.le_refl _) _
        have hE2 : EncTo w (wr.alloc (.cells #[.int .i64 q0, .int .i64 q1, .string q2] 52)) g3 c3 L := ⟨hE.row.belowAll hbw, hE.new, hE.le, hE.below.trans (hbw.mono hE.below.size)⟩
        have hC := putRowVal_any w _ g3 c3 L q0 q1 q2 hE2 hby hln hok
        rw [← HL2.out] at hC
        obtain ⟨L5, hL5⟩ : ∃ L5, Hid (G0 ++ keyT vb (k + 1) = L5) := ⟨_, rfl⟩
        rw [hL5.out] at hC
        clear hE hE2 hbw hby hok HL2
        go_wp2_with fail
        clear x0 x1 x2
        refine hC.mono ?_
        rintro e w5 ⟨g5, c5, rfl, hE5, -⟩
        have HN : Hid (EncTo w w5 g5 c5 L5) := hE5
        clear hE5 hC
        go_wp2
        go_roundg (m - (k + 1))
        case measure => omega
        case rel => exact ⟨k + 1, g5, c5, by omega, rfl, by rw [hL5.out], by go_num, by rw [hL5.out]; exact HN.out⟩
      · have hkz : ¬ (k : Int) < (m : Int) := by omega
        obtain rfl : k = m := by omega
        have hC := putSum_encI w wr g3 c3 _ hE (HB.out k) (by have := HLn.out k hk; omega)
        obtain ⟨L, hL⟩ : ∃ L, Hid (G0 ++ keyT vb k = L) := ⟨_, rfl⟩
        rw [hL.out] at hC HRB ⊢
        clear hE h2
        go_wp2_with fail
        refine hC.mono ?_
        rintro e w4 ⟨g4, c4, rfl, hE4⟩
        have HE4 : Hid (EncTo w w4 g4 c4 (sumB L)) := hE4
        clear hE4 hC
        go_wp2
        go_ret
        refine ⟨g4, c4, by rw [HE.out, HRB.out]; rfl, ?_⟩
        rw [HE.out, HRB.out]; exact HE4.out
end Go.Proofs.Ytikopeihkbpjhas

/-
  The program's DecodeRow: the values of a row, in a row of its own.
-/
namespace Go.Proofs.Ytikopeihkbpjhas
open Go.RowKit
set_option maxRecDepth 4000

theorem getSum_impl_is (N : Nat) (F : Nat → Int) (hN : N ≤ 1048576) (hb : ∀ i, i < N → 0 ≤ F i ∧ F i ≤ 255) : Gives 45 N F (sumN N F) (sumGood N F) := by
  by_cases h4 : N < 4
  · have e : sumGood N F = false := by unfold sumGood; simp; omega
    have e2 : sumN N F = 0 := by unfold sumN; rw [e]; rfl
    rw [e, e2]
    exact getSum_impl_few N F h4
  · obtain ⟨m, rfl⟩ : ∃ m, N = m + 4 := ⟨N - 4, by omega⟩
    by_cases hc : last4 m F = (crc m F : Int)
    · have e : sumGood (m + 4) F = true := by unfold sumGood; simp [hc]
      have e2 : sumN (m + 4) F = m := by unfold sumN; rw [e]; simp
      rw [e, e2]
      exact getSum_impl_yes m F hN hb hc
    · have e : sumGood (m + 4) F = false := by unfold sumGood; simp [hc]
      have e2 : sumN (m + 4) F = 0 := by unfold sumN; rw [e]; rfl
      rw [e, e2]
      exact getSum_impl_no m F hN hb hc

set_option linter.unusedSimpArgs false in
set_option maxHeartbeats 2000000 in
theorem implDecodeRow_any (a : Option Addr) (n cap : Nat) (fc ft : Nat → Int) (fu fd : Nat → Bool) (b N cb : Nat) (F : Nat → Int) (w : World) (h : PView w a n cap fc ft fu fd) (hv : View w (some ⟨b, 0, none⟩) N cb F) (hn : n ≤ 281474976710656) (hN : N ≤ 1048576) :
    Calls Try.prog 23 #[.slice a n cap, .slice (some ⟨b, 0, none⟩) N cb] w (DecsR w n N F fc ft fu) := by
  obtain ⟨i0, hi, hz0, hz1, hz2⟩ := infoVal3
  have Hnone : Hid (∀ (W : World), Below w.heap.size w W → decROk N F n fc ft fu = false → DecsR w n N F fc ft fu (.returned (.tuple #[.slice (some ⟨W.heap.size, 0, none⟩) 0 0, .bool false])) (W.alloc (.cells #[] 52))) := fun W hB e =>
    ⟨_, 0, by rw [e], by simp, by rw [e]; rfl, World.ownsRow_lit (base := w.heap.size) (e := 52) (size := 3) W #[] 0 hB.size (Nat.zero_le _) rfl, hB.alloc hB.size _⟩
  have hS := getSum_impl_is N F hN hv.byte b cb w hv
  have hFb : Hid (∀ i, i < N → 0 ≤ F i ∧ F i ≤ 255) := hv.byte
  cases hg : sumGood N F with
  | false =>
    have e0 : sumN N F = 0 := by unfold sumN; rw [hg]; rfl
    have HD : Hid (decROk N F n fc ft fu = false) := by show _ = _; unfold decROk; rw [hg]; rfl
    rw [hg, e0] at hS
    clear hv
    go_enter Try.func23, Try.ntmps23
    go_wp2_with fail
    refine hS.mono ?_
    rintro e w1 ⟨gx, cx, rfl, -, hcx, hx, hB1⟩
    have hvx := hx.view hcx (fun i hi => absurd hi (Nat.not_lt_zero _))
    have hu : Hid (getU 0 F 0 = (0, 0, false)) := getU_past 0 F 0 (Nat.le_refl _)
    clear hS hx
    go_wp2_with fail
    refine (getU_impl' _ 0 cx F 0 w1 hu hvx (by omega) (by omega)).mono ?_
    rintro e _ ⟨rfl, rfl⟩
    have HN' : Hid (DecsR w n N F fc ft fu (.returned (.tuple #[.slice (some ⟨w1.heap.size, 0, none⟩) 0 0, .bool false])) (w1.alloc (.cells #[] 52))) := Hnone.out w1 hB1 HD.out
    clear hvx hu Hnone hB1 h
    go_wp2
    exact bodyPost_ret (v := .tuple #[.slice (some ⟨w1.heap.size, 0, none⟩) 0 0, .bool false]) (by simp [results, Try.results23, go_sem]) rfl HN'.out
  | true =>
    have e0 : sumN N F = N - 4 := by unfold sumN; rw [hg]; rfl
    rw [hg, e0] at hS
    have HG0 : Hid (sumGood N F = true) := hg
    have hN4 : 4 ≤ N := by unfold sumGood at hg; simp at hg; exact hg.1
    obtain ⟨M, hM⟩ : ∃ M, Hid (N - 4 = M) := ⟨_, rfl⟩
    have hMN : M ≤ N := by rw [← hM.out]; omega
    rw [hM.out] at hS
    have HD0 : Hid (decROk N F n fc ft fu = rowRd M F n fc ft fu) := by show _ = _; unfold decROk; rw [hg, hM.out]; rfl
    have hbM : Hid (∀ i, i < M → 0 ≤ F i ∧ F i ≤ 255) := fun i hi => hFb.out i (by omega)
    have HV : Hid (View w (some ⟨b, 0, none⟩) N cb F) := hv
    clear hv hg e0
    obtain ⟨cnt0, p0, ok, hu⟩ : ∃ a q ok, Hid (getU M F 0 = (a, q, ok)) := ⟨_, _, _, rfl⟩
    go_enter Try.func23, Try.ntmps23
    go_wp2_with fail
    refine hS.mono ?_
    rintro e w1 ⟨gx, cx, rfl, hgx, hcx, hx, hB1⟩
    have hvx := hx.view hcx hbM.out
    clear hS
    go_wp2_with fail
    refine (getU_impl' _ M cx F 0 w1 hu hvx (by omega) (by omega)).mono ?_
    rintro e _ ⟨rfl, rfl⟩
    cases ok with
    | false =>
      have HD : Hid (decROk N F n fc ft fu = false) := by show _ = _; rw [HD0.out]; unfold rowRd; rw [hu.out]; rfl
      have HN' : Hid (DecsR w n N F fc ft fu (.returned (.tuple #[.slice (some ⟨w1.heap.size, 0, none⟩) 0 0, .bool false])) (w1.alloc (.cells #[] 52))) := Hnone.out w1 hB1 HD.out
      clear hvx hu Hnone hB1 h hx
      go_wp2
      exact bodyPost_ret (v := .tuple #[.slice (some ⟨w1.heap.size, 0, none⟩) 0 0, .bool false]) (by simp [results, Try.results23, go_sem]) rfl HN'.out
    | true =>
      have hubd := getU_bd hbM.out hu.out
      obtain ⟨CN, rfl⟩ : ∃ CN : Nat, cnt0 = CN := ⟨cnt0.toNat, by omega⟩
      have HC0 : Hid (rCnt M F = CN) := by show _ = _; unfold rCnt; rw [hu.out]; rfl
      by_cases hcn : CN = n
      case neg =>
        have hcz : ¬ (CN : Int) = (n : Int) := by omega
        have HD : Hid (decROk N F n fc ft fu = false) := by
          show _ = _
          rw [HD0.out]
          unfold rowRd rowOk
          rw [HC0.out, decide_eq_false hcn]
          simp
        have HN' : Hid (DecsR w n N F fc ft fu (.returned (.tuple #[.slice (some ⟨w1.heap.size, 0, none⟩) 0 0, .bool false])) (w1.alloc (.cells #[] 52))) := Hnone.out w1 hB1 HD.out
        clear hvx hu Hnone hB1 h hx
        go_wp2
        exact bodyPost_ret (v := .tuple #[.slice (some ⟨w1.heap.size, 0, none⟩) 0 0, .bool false]) (by simp [results, Try.results23, go_sem]) rfl HN'.out
      case pos =>
        subst hcn
        have HC : Hid (rCnt M F = CN) := HC0.out
        have Hu2 : Hid ((getU M F 0).2.2 = true) := by show _ = _; rw [hu.out]
        have HQ0 : Hid (rQ M F 0 = some p0) := by show _ = _; rw [rQ, hu.out]
        have hO0 := World.ownsRow_lit (base := w.heap.size) (e := 52) (size := 3) w1 #[] 0 hB1.size (Nat.zero_le _) rfl
        have hb2 : Below w1.heap.size w1 (w1.alloc (.cells #[] 52)) := (Below.refl _ _).alloc (Nat.le_refl _) _
        have hB2 := hB1.trans (hb2.mono hB1.size)
        have hx2 := hx.belowAll hb2
        clear hvx hb2 hx hu
        obtain ⟨W2, hW2⟩ : ∃ W2, Hid (w1.alloc (.cells #[] 52) = W2) := ⟨_, rfl⟩
        rw [hW2.out] at hO0 hB2 hx2
        have hR := rowReader_any (some ⟨gx, 0, none⟩) M cx p0 W2
        go_wp2_with (rw [hW2.out])
        refine hR.mono ?_
        rintro e _ ⟨rfl, rfl⟩
        have bX := (Boxed.new W2 34 (.slice (some ⟨gx, 0, none⟩) M cx)).alloc (.cells #[.int .i64 p0] 3)
        have bA := Boxed.new (W2.alloc (.cells #[.slice (some ⟨gx, 0, none⟩) M cx] 34)) 3 (.int .i64 p0)
        have hb3 : Below W2.heap.size W2 ((W2.alloc (.cells #[.slice (some ⟨gx, 0, none⟩) M cx] 34)).alloc (.cells #[.int .i64 p0] 3)) := ((Below.refl _ _).alloc (Nat.le_refl _) _).alloc (by simp) _
        have hO3 := own_below3 hO0 hb3
        have hx3 := hx2.belowAll hb3
        have hB3 := hB2.trans (hb3.mono hB2.size)
        have hsz : (W2.alloc (.cells #[.slice (some ⟨gx, 0, none⟩) M cx] 34)).heap.size = W2.heap.size + 1 := by simp
        rw [hsz] at bA
        have hwA := hB2.size
        obtain ⟨W3, hW3⟩ : ∃ W3, Hid ((W2.alloc (.cells #[.slice (some ⟨gx, 0, none⟩) M cx] 34)).alloc (.cells #[.int .i64 p0] 3) = W3) := ⟨_, rfl⟩
        obtain ⟨X, hX⟩ : ∃ X, Hid (W2.heap.size = X) := ⟨_, rfl⟩
        rw [hW3.out] at bX bA hO3 hx3 hB3 ⊢
        rw [hX.out] at bX bA hwA ⊢
        clear hb3 hO0 hx2 hB2 hR hsz hB1
        go_wp2
        go_loopg [11, 44] CN (fun q o i wr => ∃ (k : Nat) (v : Value) (p : Int), k ≤ CN ∧ q = CN - k ∧ v = o ∧ i = .int .i64 k ∧ v ≠ .slice none 0 0 ∧ rQ M F k = some p ∧ wr.ownsRow w.heap.size 52 3 v k (rowC (rK M F) (rN M F) (rS M F) k) ∧ Row 5 wr gx M F ∧ Boxed wr X 34 (.slice (some ⟨gx, 0, none⟩) M cx) ∧ Boxed wr (X + 1) 3 (.int .i64 p) ∧ Below w.heap.size w wr)
        case atStart => exact ⟨0, _, p0, by omega, rfl, rfl, rfl, by simp, HQ0.out, hO3, hx3, bX, bA, hB3⟩
        case round =>
          clear hO3 hx3 hB3 bX bA
          obtain ⟨k, bv, p, hkC, rfl, hbv, rfl, hne, hq, hown, hxr, bX, bA, hB⟩ := hrel
          subst hbv
          have Hne : Hid (bv ≠ .slice none 0 0) := hne
          have HQ : Hid (rQ M F k = some p) := hq
          have hpb := rQ_bd hbM.out Hu2.out hq
          clear hne hq
          by_cases hlt : k < CN
          · have hkz : (k : Int) < (CN : Int) := by omega
            obtain ⟨kk, y, s, q, ok, hgr⟩ : ∃ kk y s q ok, getRI M F p = ⟨kk, y, s, q, ok⟩ := ⟨_, _, _, _, _, rfl⟩
            have hC := rowReader1_any X (X + 1) gx M cx F p wr bX bA (hxr.view hcx hbM.out) (by omega) (by omega) (by omega)
            rw [hgr] at hC
            have HGR : Hid (getRI M F p = ⟨kk, y, s, q, ok⟩) := hgr
            have hg1 : gx ≠ X + 1 := fun e => by
              subst e
              obtain ⟨c', h1, -⟩ := hxr
              have h2 : wr.heap[X + 1]? = _ := bA
              rw [h1] at h2
              simp at h2
            clear hgr
            go_wp2_with fail
            refine hC.mono ?_
            cases ok with
            | false =>
              rintro e w3 ⟨rfl, hbt, -⟩
              have HD : Hid (decROk N F CN fc ft fu = false) := by
                show _ = _
                rw [HD0.out]
                exact rowRd_no hbM.out HQ.out (by rw [HC.out]; exact hlt) (by rw [HGR.out])
              have hB3 : Below w.heap.size w w3 := hB.trans (hbt.below (by omega) hB.size)
              have hB4 : Below w.heap.size w (w3.alloc (.cells #[.int .i64 kk, .int .i64 y, .string s] 52)) := hB3.alloc hB3.size _
              have HN' : Hid (DecsR w CN N F fc ft fu (.returned (.tuple #[.slice (some ⟨(w3.alloc (.cells #[.int .i64 kk, .int .i64 y, .string s] 52)).heap.size, 0, none⟩) 0 0, .bool false])) ((w3.alloc (.cells #[.int .i64 kk, .int .i64 y, .string s] 52)).alloc (.cells #[] 52))) := Hnone.out _ hB4 HD.out
              clear Hnone hC hown hB3 hB4 hbt hxr bX bA
              go_wp2
              refine bodyPost_ret (v := .tuple #[.slice (some ⟨w3.heap.size + 1, 0, none⟩) 0 0, .bool false]) (by simp [results, Try.results23, go_sem]) rfl ?_
              have := HN'.out
              rw [World.size_alloc] at this
              exact this
            | true =>
              rintro e w3 ⟨rfl, hbt, hbA⟩
              have bA3 := hbA rfl
              simp only at bA3
              have hgR : getR M F p = ⟨kk, y, s, q, true⟩ := by rw [← HGR.out]; exact getRI_yes (by rw [HGR.out])
              have hgG : rG M F k = ⟨kk, y, s, q, true⟩ := by unfold rG; rw [HQ.out]; exact hgR
              have HK : Hid (rK M F k = kk ∧ rN M F k = y ∧ rS M F k = s) := by show _ ∧ _ ∧ _; unfold rK rN rS; rw [hgG]; exact ⟨rfl, rfl, rfl⟩
              have HQ2 : Hid (rQ M F (k + 1) = some q) := by show _ = _; rw [rQ, HQ.out]; show (if (getR M F p).ok = true then _ else _) = _; rw [hgR]; rfl
              clear hgR hgG
              have hB3 : Below w.heap.size w w3 := hB.trans (hbt.below (by omega) hB.size)
              have hown3 := hown.kept hbt.grown (.inr (bA.not_row (by decide) hown).symm)
              have bX3 : Boxed w3 X 34 (.slice (some ⟨gx, 0, none⟩) M cx) := (hbt.block X bX.lt (by omega)).trans bX
              have hx3 := hbt.row hxr hg1
              have hba : Below w3.heap.size w3 (w3.alloc (.cells #[.int .i64 kk, .int .i64 y, .string s] 52)) := (Below.refl _ _).alloc (Nat.le_refl _) _
              have hV3 := Box.new w3 kk y s
              have hown4 := own_below3 hown3 hba
              have hB4 := hB3.trans (hba.mono hB3.size)
              have hx4 := hx3.belowAll hba
              have bX4 := bX3.alloc (.cells #[.int .i64 kk, .int .i64 y, .string s] 52)
              have bA4 := bA3.alloc (.cells #[.int .i64 kk, .int .i64 y, .string s] 52)
              obtain ⟨W4, hW4⟩ : ∃ W4, Hid (w3.alloc (.cells #[.int .i64 kk, .int .i64 y, .string s] 52) = W4) := ⟨_, rfl⟩
              obtain ⟨A3, hA3⟩ : ∃ A3, Hid (w3.heap.size = A3) := ⟨_, rfl⟩
              rw [hW4.out] at hV3 hown4 hB4 hx4 bX4 bA4
              rw [hA3.out] at hV3
              obtain ⟨z0, z1, z2⟩ := hV3.cells
              have hcl := cells_one W4 kk y s
              have hs4 := hB4.size
              clear hown hba hC hB3 hB hxr hbt hbA bA bX bA3 bX3 hown3 hx3
              go_wp2_with (first | rw [hW4.out, hA3.out] | (at_builtin; refine wpList_append_own _ rfl (.tmp 54) (.tmp 56) 29 rfl w.heap.size 52 i0 (.agg #[.int .i64 0, .int .i64 0, .string ⟨#[]⟩]) 3 32 Try.underlying29 hi hz0 hz1 hz2 rfl (by decide) bv _ _ rfl (own_below3 hown4 ((Below.refl _ _).alloc (Nat.le_refl _) _)) ⟨W4.heap.size, 0, none⟩ 1 1 [.int .i64 kk, .int .i64 y, .string s] rfl rfl hcl (one_cells _ _ _) (by unfold maxLen; omega) (by omega) (by simp; omega) ?_; intro v5 w5 hown5 hgr5 hnil5))
              have HO5 : Hid (w5.ownsRow w.heap.size 52 3 v5 (k + 1) (rowC (rK M F) (rN M F) (rS M F) (k + 1))) := by
                rw [rowC, HK.out.1, HK.out.2.1, HK.out.2.2]; exact hown5
              have HNE : Hid (v5 ≠ .slice none 0 0) := fun e => Hne.out (hnil5.1 e).1
              have hb5 : Below W4.heap.size W4 (W4.alloc (.cells #[.int .i64 kk, .int .i64 y, .string s] 52)) := (Below.refl _ _).alloc (Nat.le_refl _) _
              have HB5 : Hid (Below w.heap.size w w5) := (hB4.trans (hb5.mono hs4)).grown hgr5 (by have := (hB4.trans (hb5.mono hs4)).size; exact this) (fun j e => ((own_below3 hown4 hb5).lt j e).1)
              have HX5 : Hid (Row 5 w5 gx M F) := (hx4.belowAll hb5).of_block (hgr5.block gx (hx4.belowAll hb5).lt (Row.not_own (hx4.belowAll hb5) (by decide) (own_below3 hown4 hb5)))
              have HBX5 : Hid (Boxed w5 X 34 (.slice (some ⟨gx, 0, none⟩) M cx)) := (bX4.alloc _).kept hgr5 ((bX4.alloc _).not_row (by decide) (own_below3 hown4 hb5))
              have HBA5 : Hid (Boxed w5 (X + 1) 3 (.int .i64 q)) := (bA4.alloc _).kept hgr5 ((bA4.alloc _).not_row (by decide) (own_below3 hown4 hb5))
              clear hown4 hown5 hgr5 hnil5 hcl hB4 hx4 hb5 hV3 z0 z1 z2 bX4 bA4
              go_wp2
              go_roundg (CN - (k + 1))
              case measure => omega
              case rel => exact ⟨k + 1, v5, q, by omega, rfl, rfl, by go_num, HNE.out, HQ2.out, HO5.out, HX5.out, HBX5.out, HBA5.out, HB5.out⟩
          · have hloop : ¬ (k : Int) < (CN : Int) := by omega
            obtain rfl : k = CN := by omega
            obtain ⟨a5, c5, rfl, hvv, -⟩ := vview_of_own hown
            have hC := implRowOk_any a k cap fc ft fu fd a5 k c5 (rK M F) (rN M F) (rS M F) wr (h.below hB) hvv hn hn
            have HO : Hid (wr.ownsRow w.heap.size 52 3 (.slice a5 k c5) k (rowC (rK M F) (rN M F) (rS M F) k)) := hown
            clear hown hxr bX bA
            cases hro : rowOk k fc ft fu k (rK M F) (rN M F) (rS M F) with
            | false =>
              have HD : Hid (decROk N F k fc ft fu = false) := by
                show _ = _
                rw [HD0.out]
                unfold rowRd
                rw [HC.out, hro]
                simp
              rw [hro] at hC
              clear hvv
              go_wp2_with fail
              refine hC.mono ?_
              rintro e w4 ⟨rfl, hb4⟩
              have hB4 := hB.trans (hb4.mono hB.size)
              have HN' : Hid (DecsR w k N F fc ft fu (.returned (.tuple #[.slice (some ⟨w4.heap.size, 0, none⟩) 0 0, .bool false])) (w4.alloc (.cells #[] 52))) := Hnone.out _ hB4 HD.out
              clear hC hb4 hB4 Hnone hB h
              go_wp2
              exact bodyPost_ret (v := .tuple #[.slice (some ⟨w4.heap.size, 0, none⟩) 0 0, .bool false]) (by simp [results, Try.results23, go_sem]) rfl HN'.out
            | true =>
              have HRO : Hid (rowOk k fc ft fu k (rK M F) (rN M F) (rS M F) = true) := hro
              rw [hro] at hC
              clear hro
              go_wp2_with fail
              refine hC.mono ?_
              rintro e w4 ⟨rfl, hb4⟩
              have hB4 := hB.trans (hb4.mono hB.size)
              have HO4 : Hid (w4.ownsRow w.heap.size 52 3 (.slice a5 k c5) k (rowC (rK M F) (rN M F) (rS M F) k)) := own_below3 HO.out hb4
              have hC2 := implEncodeRow_any a k cap fc ft fu fd a5 k c5 (rK M F) (rN M F) (rS M F) w4 (h.below hB4) (hvv.below hb4) hn hn
              have HEQ := dec_eq (n := k) (fc := fc) (ft := ft) (fu := fu) (p := p) hFb.out HG0.out (by rw [hM.out]; exact Hu2.out) (by rw [hM.out]; exact HC.out) (by rw [hM.out]; exact HQ.out) (by rw [hM.out]; exact HRO.out)
              rw [hM.out] at HEQ
              have HEb : Hid (∀ y ∈ encB k fc ft fu k (rK M F) (rN M F) (rS M F), 0 ≤ y ∧ y ≤ 255) := by
                show ∀ y ∈ _, _
                unfold encB
                rw [HRO.out]
                exact sumB_byte (rowB_byte _ _ _ _)
              obtain ⟨L, hL⟩ : ∃ L, Hid (encB k fc ft fu k (rK M F) (rN M F) (rS M F) = L) := ⟨_, rfl⟩
              rw [hL.out] at hC2 HEQ HEb
              have HEQ' : Hid (L = lof N F ↔ rowRd M F k fc ft fu = true) := HEQ
              clear hC HEQ hvv hB HO
              go_wp2_with fail
              refine hC2.mono ?_
              rintro e w5 ⟨g5, c5', rfl, hE5⟩
              have hV5 := hE5.byte HEb.out
              have hB5 := hB4.trans (hE5.below.mono hB4.size)
              have HO5 : Hid (w5.ownsRow w.heap.size 52 3 (.slice a5 k c5) k (rowC (rK M F) (rN M F) (rS M F) k)) := own_below3 HO4.out hE5.below
              have hQ := equal_any g5 0 L.length c5' _ b 0 N cb F w5 hV5 (HV.out.below hB5)
              rw [lof_self] at hQ
              obtain ⟨o, ho⟩ : ∃ o, Hid (((strOfNums L).toList == (strOfNums (lof N F)).toList) = o) := ⟨_, rfl⟩
              rw [ho.out] at hQ
              have HD : Hid (decROk N F k fc ft fu = o) := by
                show _ = _
                rw [HD0.out, ← ho.out]
                have e1 : ((strOfNums L).toList == (strOfNums (lof N F)).toList) = true ↔ L = lof N F := by
                  rw [beq_iff_eq]
                  constructor
                  · intro h
                    refine strOfNums_inj HEb.out (lof_byte hFb.out) ?_
                    rw [ByteArray.toList_eq, ByteArray.toList_eq] at h
                    exact ByteArray.ext (Array.ext' h)
                  · intro h; rw [h]
                rw [Bool.eq_iff_iff, e1]
                exact HEQ'.out.symm
              clear hC2 hE5 hV5 hB4 hb4 HO4 ho
              go_wp2_with fail
              refine hQ.mono ?_
              rintro e _ ⟨rfl, rfl⟩
              clear hQ
              cases o with
              | true =>
                have HR : Hid (DecsR w k N F fc ft fu (.returned (.tuple #[.slice a5 k c5, .bool true])) w5) := by
                  refine ⟨_, k, by rw [HD.out], Hne.out, ?_, ?_, hB5⟩
                  · rw [HD.out, hM.out, HC.out]; rfl
                  · rw [hM.out]; exact HO5.out
                clear Hnone hB5 h
                go_wp2
                exact bodyPost_ret (v := .tuple #[.slice a5 k c5, .bool true]) (by simp [results, Try.results23, go_sem]) rfl HR.out
              | false =>
                have HN' : Hid (DecsR w k N F fc ft fu (.returned (.tuple #[.slice (some ⟨w5.heap.size, 0, none⟩) 0 0, .bool false])) (w5.alloc (.cells #[] 52))) := Hnone.out _ hB5 HD.out
                clear Hnone hB5 h
                go_wp2
                exact bodyPost_ret (v := .tuple #[.slice (some ⟨w5.heap.size, 0, none⟩) 0 0, .bool false]) (by simp [results, Try.results23, go_sem]) rfl HN'.out
end Go.Proofs.Ytikopeihkbpjhas

/-
  What the law's own helpers over bytes come to: toByteS copies into a new row, eqByteS answers true where both read alike. For every slice of bytes that reads.
-/
namespace Go.Proofs.Ytikopeihkbpjhas
open Go.RowKit
set_option maxRecDepth 4000

/-- k of the n bytes are copied into the new row. -/
structure Copied (w wr : World) (n : Nat) (f : Nat → Int) (k : Nat) : Prop where
  below : Below w.heap.size w wr
  size : wr.heap.size = w.heap.size + 1
  row : wr.rowIs w.heap.size 5 n (fun i => .int .u8 (if i < k then f i else 0))

theorem copied_start (w : World) (n : Nat) (f : Nat → Int) : Copied w (w.alloc (.cells (madeCells #[.int .u8 0] n) 5)) n f 0 :=
  ⟨(Below.refl _ _).alloc (Nat.le_refl _) _, by simp, (World.rowIs_made w _ n 5).congr (fun i _ => by simp)⟩

theorem copied_step {w wr : World} {n : Nat} {f : Nat → Int} {k : Nat} (h : Copied w wr n f k) : Copied w (wr.setCell ⟨w.heap.size, k, none⟩ (.int .u8 (f k))) n f (k + 1) := by
  refine ⟨h.below.setCell (Nat.le_refl _) _, by simp [h.size], (h.row.set k _).congr (fun i _ => ?_)⟩
  by_cases e : i = k
  · subst e; simp
  · rw [if_neg e]
    by_cases hlt : i < k
    · rw [if_pos hlt, if_pos (by omega)]
    · rw [if_neg hlt, if_neg (by omega)]

theorem Copied.drew {w wr : World} {n : Nat} {f : Nat → Int} {k : Nat} (h : Copied w wr n f k) : Copied w wr.drew n f k := ⟨h.below.drew, h.size, h.row.drew⟩

set_option maxHeartbeats 400000 in
theorem toByteS_any (ao : Option Addr) (n cap : Nat) (f : Nat → Int) (w : World) (hv : View w ao n cap f) (hn : n ≤ 281474976710656) :
    Calls Try.prog 22 #[.slice ao n cap] w fun e w' => e = .returned (.slice (some ⟨w.heap.size, 0, none⟩) n n) ∧ w'.rowIs w.heap.size 5 n (fun i => .int .u8 (f i)) ∧ Below w.heap.size w w' ∧ w'.heap.size = w.heap.size + 1 := by
  have hmk := run_make_row' (P := Try.prog) 34 5 (.int .u8 0) 1 Try.underlying34 Try.info5 rfl .i64 .i64 n (by omega) (by omega)
  go_enter Try.func22, Try.ntmps22
  go_wp2
  clear hmk
  go_loopg [4] n (fun g i wr => ∃ k : Nat, k ≤ n ∧ g = n - k ∧ i = .int .i64 k ∧ Copied w wr n f k)
  case atStart => exact ⟨0, Nat.zero_le _, rfl, rfl, copied_start w n f⟩
  case round =>
    obtain ⟨k, hk, rfl, rfl, hC⟩ := hrel
    by_cases hlt : k < n
    · obtain ⟨b, off, rfl, hb, hc⟩ := hv.cells (by omega)
      have hkz : (k : Int) < (n : Int) := by omega
      have hc1 : wr.cell? ⟨b, off + k, none⟩ = some (.int .u8 (f k)) := by rw [hC.below.cell (p := ⟨b, off + k, none⟩) hb]; exact hc k hlt
      have hc2 : wr.cell? ⟨w.heap.size, k, none⟩ = some (.int .u8 (if k < k then f k else 0)) := hC.row.cell hlt
      have hf2 := hC.row.frozen k
      have hS : Hid (Copied w (wr.setCell ⟨w.heap.size, k, none⟩ (.int .u8 (f k))) n f (k + 1)) := copied_step hC
      clear hC hc
      go_wp2
      go_roundg (n - (k + 1))
      case measure => omega
      case rel => exact ⟨k + 1, by omega, rfl, by go_num, hS.out⟩
    · have hkn : k = n := by omega
      have hF : wr.rowIs w.heap.size 5 n (fun i => .int .u8 (f i)) := hC.row.congr (fun i hi => by rw [if_pos (by omega)])
      go_wp2
      go_ret
      exact ⟨rfl, hF, hC.below, hC.size⟩

/-- Two slices that read alike: true. -/
theorem eqByteS_same (a1 a2 : Option Addr) (n c1 c2 : Nat) (f g : Nat → Int) (w : World) (h1 : View w a1 n c1 f) (h2 : View w a2 n c2 g) (hn : n ≤ 281474976710656) (he : ∀ i, i < n → f i = g i) :
    Calls Try.prog 16 #[.slice a1 n c1, .slice a2 n c2] w fun e w' => e = .returned (.bool true) ∧ Below w.heap.size w w' := by
  go_enter Try.func16, Try.ntmps16
  go_wp2
  go_loopg [5] n (fun q i wr => ∃ k : Nat, k ≤ n ∧ q = n - k ∧ i = .int .i64 k ∧ Below w.heap.size w wr)
  case atStart => exact ⟨0, Nat.zero_le _, rfl, rfl, Below.refl _ _⟩
  case round =>
    obtain ⟨k, hk, rfl, rfl, hB⟩ := hrel
    by_cases hlt : k < n
    · obtain ⟨b1, o1, rfl, hb1, hc1⟩ := h1.cells (by omega)
      obtain ⟨b2, o2, rfl, hb2, hc2⟩ := h2.cells (by omega)
      have hkz : (k : Int) < (n : Int) := by omega
      have e1 : wr.cell? ⟨b1, o1 + k, none⟩ = some (.int .u8 (f k)) := by rw [hB.cell (p := ⟨b1, o1 + k, none⟩) hb1]; exact hc1 k hlt
      have e2 : wr.cell? ⟨b2, o2 + k, none⟩ = some (.int .u8 (f k)) := by rw [hB.cell (p := ⟨b2, o2 + k, none⟩) hb2, he k hlt]; exact hc2 k hlt
      clear hc1 hc2 he
      go_wp2
      go_region
      all_goals go_wp2
      all_goals
        go_roundg (n - (k + 1))
        case measure => omega
        case rel => exact ⟨k + 1, by omega, rfl, by go_num, by first | exact hB.drew | exact hB⟩
    · go_wp2
      go_ret
      exact ⟨rfl, hB⟩
end Go.Proofs.Ytikopeihkbpjhas

/-
  What the law's own helpers markByteS and heldByteS come to: the one writes a count into a row of the call's own, the other finds it there.
-/
namespace Go.Proofs.Ytikopeihkbpjhas
open Go.RowKit
set_option maxRecDepth 4000

structure Marked (w wr : World) (b n : Nat) (f : Nat → Int) (k : Int) (j : Nat) : Prop where
  only : Only b w wr
  row : Row 5 wr b n (fun i => if i < j then (k + i) % 256 else f i)

theorem marked_step {w wr : World} {b n : Nat} {f : Nat → Int} {k : Int} {j : Nat} (h : Marked w wr b n f k j) : Marked w (wr.setCell ⟨b, j, none⟩ (.int .u8 ((k + j) % 256))) b n f k (j + 1) := by
  refine ⟨h.only.setCell _, (h.row.set j _).congr (fun i _ => ?_)⟩
  by_cases e : i = j
  · subst e; simp
  · rw [if_neg e]
    by_cases hlt : i < j
    · rw [if_pos hlt, if_pos (by omega)]
    · rw [if_neg hlt, if_neg (by omega)]

set_option maxHeartbeats 400000 in
theorem mark_any (b n cap : Nat) (f : Nat → Int) (k : Int) (w : World) (hr : Row 5 w b n f) (hk : 0 ≤ k) (hk1 : k + n ≤ 4611686018427387904) :
    Calls Try.prog 19 #[.slice (some ⟨b, 0, none⟩) n cap, .int .i64 k] w fun e w' => e = .returned (.int .i64 (k + n)) ∧ Row 5 w' b n (fun i => (k + i) % 256) ∧ Only b w w' := by
  go_enter Try.func19, Try.ntmps19
  go_wp2
  go_loopg [1, 5] n (fun g s i wr => ∃ j : Nat, j ≤ n ∧ g = n - j ∧ s = .int .i64 (k + j) ∧ i = .int .i64 j ∧ Marked w wr b n f k j)
  case atStart => exact ⟨0, Nat.zero_le _, rfl, by simp, rfl, Only.refl _ _, hr.congr (fun i _ => by simp)⟩
  case round =>
    obtain ⟨j, hj, rfl, rfl, rfl, hM⟩ := hrel
    clear hr
    by_cases hlt : j < n
    · have hjz : (j : Int) < (n : Int) := by omega
      have hc := hM.row.cell hlt
      have hf := hM.row.frozen j
      have hS : Hid (Marked w (wr.setCell ⟨b, j, none⟩ (.int .u8 ((k + j) % 256))) b n f k (j + 1)) := marked_step hM
      have hw : ∀ x : Int, IntKind.u8.wrap x = x % 256 := u8_wrap
      clear hM
      go_wp2
      go_roundg (n - (j + 1))
      case measure => omega
      case rel => exact ⟨j + 1, by omega, rfl, by go_num, by go_num, hS.out⟩
    · obtain rfl : j = n := by omega
      have hF : Hid (Row 5 wr b j (fun i => (k + i) % 256)) := hM.row.congr (fun i hi => by rw [if_pos (by omega)])
      have hO := hM.only
      clear hM
      go_wp2
      go_ret
      exact ⟨rfl, hF.out, hO⟩

set_option maxHeartbeats 400000 in
theorem held_any (ao : Option Addr) (n cap : Nat) (f : Nat → Int) (k : Int) (w : World) (hv : View w ao n cap f) (he : ∀ i, i < n → f i = (k + i) % 256) (hk : 0 ≤ k) (hk1 : k + n ≤ 4611686018427387904) :
    Calls Try.prog 20 #[.slice ao n cap, .int .i64 k] w fun e w' => e = .returned (.int .i64 (k + n)) ∧ Below w.heap.size w w' := by
  go_enter Try.func20, Try.ntmps20
  go_wp2
  go_loopg [1, 5] n (fun g s i wr => ∃ j : Nat, j ≤ n ∧ g = n - j ∧ s = .int .i64 (k + j) ∧ i = .int .i64 j ∧ Below w.heap.size w wr)
  case atStart => exact ⟨0, Nat.zero_le _, rfl, by simp, rfl, Below.refl _ _⟩
  case round =>
    obtain ⟨j, hj, rfl, rfl, rfl, hB⟩ := hrel
    by_cases hlt : j < n
    · obtain ⟨b, off, rfl, hb, hc⟩ := hv.cells (by omega)
      have hjz : (j : Int) < (n : Int) := by omega
      have hc1 : wr.cell? ⟨b, off + j, none⟩ = some (.int .u8 ((k + j) % 256)) := by rw [hB.cell (p := ⟨b, off + j, none⟩) hb, ← he j hlt]; exact hc j hlt
      have hw : ∀ x : Int, IntKind.u8.wrap x = x % 256 := u8_wrap
      clear hc he
      go_wp2
      all_goals
        go_roundg (n - (j + 1))
        case measure => omega
        case rel => exact ⟨j + 1, by omega, rfl, by go_num, by go_num, by first | exact hB.drew | exact hB⟩
    · obtain rfl : j = n := by omega
      go_wp2
      go_ret
      exact ⟨rfl, hB⟩
end Go.Proofs.Ytikopeihkbpjhas

/-
  What the law's own helper over parts comes to.
-/
namespace Go.Proofs.Ytikopeihkbpjhas
open Go.RowKit
set_option maxRecDepth 4000

set_option maxHeartbeats 1000000 in
theorem toPart_any (c t : Int) (nul d : Bool) (w : World) :
    Calls Try.prog 28 #[.agg #[.int .i64 c, .int .i64 t, .bool nul, .bool d]] w fun e w' => e = .returned (.agg #[.int .i64 c, .int .i64 t, .bool nul, .bool d]) ∧ Below w.heap.size w w' := by
  go_enter Try.func28, Try.ntmps28
  go_wp2
  refine bodyPost_ret (v := .agg #[.int .i64 c, .int .i64 t, .bool nul, .bool d]) (by simp [results, Try.results28, go_sem]) rfl ⟨rfl, ?_⟩
  repeat (first | exact Below.refl _ _ | refine Below.alloc ?_ (by simp <;> omega) _ | refine Below.drew ?_)
end Go.Proofs.Ytikopeihkbpjhas

/-
  A list of parts: how much it holds as the law counts it, and its copy in a new row.
-/
namespace Go.Proofs.Ytikopeihkbpjhas
open Go.RowKit
set_option maxRecDepth 4000

set_option maxHeartbeats 1000000 in
theorem szPartS_any (a : Option Addr) (n cap : Nat) (left : Int) (w : World) (hn : n ≤ maxLen) (h0 : 0 ≤ left) (hl : left ≤ 1048576) :
    Calls Try.prog 6 #[.slice a n cap, .int .i64 left] w fun e w' => ∃ L : Int, e = .returned (.int .i64 L) ∧ w = w' ∧ (L = -1 ∨ (0 ≤ L ∧ L = left - n)) := by
  have hn' : (n : Int) ≤ 9223372036854775807 := by unfold maxLen at hn; omega
  by_cases hb : left - (n : Int) < 0
  · go_enter Try.func6, Try.ntmps6
    go_wp2
    go_ret
    exact ⟨_, rfl, rfl, .inl rfl⟩
  · go_enter Try.func6, Try.ntmps6
    go_wp2
    go_ret
    exact ⟨_, rfl, rfl, .inr ⟨by omega, rfl⟩⟩

def cellP (fc ft : Nat → Int) (fu fd : Nat → Bool) (j : Nat) : Value := if j % 4 = 0 then .int .i64 (fc (j / 4)) else if j % 4 = 1 then .int .i64 (ft (j / 4)) else if j % 4 = 2 then .bool (fu (j / 4)) else .bool (fd (j / 4))
def zeroP (j : Nat) : Value := if j % 4 = 0 then .int .i64 0 else if j % 4 = 1 then .int .i64 0 else .bool false

theorem Try.infoPart : (Try.prog.info? 49).map (fun i => (i.zero, i.size, i.bytes)) = some (some (.agg #[.int .i64 0, .int .i64 0, .bool false, .bool false]), 4, 24) := by kernel_rfl

theorem make_parts (n : Nat) (h : n ≤ 1048576) (w : World) : (Instr.makeSlice 27 (.int .i64 (n : Int)) (.int .i64 (n : Int))).run Try.prog w = .ok (.slice (some ⟨w.heap.size, 0, none⟩) n n) (w.alloc (.cells (madeCells #[.int .i64 0, .int .i64 0, .bool false, .bool false] (n * 4)) 49)) := by
  obtain ⟨i, hi, hzz⟩ := Option.map_eq_some_iff.1 Try.infoPart
  simp only [Prod.mk.injEq] at hzz
  obtain ⟨hz, hs, hb⟩ := hzz
  have hr := run_make (P := Try.prog) w 27 49 i _ Try.underlying27 hi hz .i64 .i64 n n (by omega) (Int.le_refl _) (by rw [hb]; omega) (by omega)
  simp only [Int.toNat_natCast, hs] at hr
  exact hr

/-- k of the n parts are copied into the new row. -/
structure CopiedP (w wr : World) (n : Nat) (fc ft : Nat → Int) (fu fd : Nat → Bool) (k : Nat) : Prop where
  below : Below w.heap.size w wr
  size : w.heap.size < wr.heap.size
  row : wr.rowIs w.heap.size 49 (n * 4) (fun j => if j < k * 4 then cellP fc ft fu fd j else zeroP j)

theorem copiedP_start (w : World) (n : Nat) (fc ft : Nat → Int) (fu fd : Nat → Bool) : CopiedP w (w.alloc (.cells (madeCells #[.int .i64 0, .int .i64 0, .bool false, .bool false] (n * 4)) 49)) n fc ft fu fd 0 := by
  have hr := World.rowIs_alloc w (madeCells #[.int .i64 0, .int .i64 0, .bool false, .bool false] (n * 4)) 49 zeroP (fun i hi => by
    rw [size_madeCells] at hi
    simp [madeCells, hi, zeroP]
    have h3 : i % 4 = 0 ∨ i % 4 = 1 ∨ i % 4 = 2 ∨ i % 4 = 3 := by omega
    rcases h3 with h | h | h | h <;> simp [h])
  rw [size_madeCells] at hr
  exact ⟨(Below.refl _ _).alloc (Nat.le_refl _) _, by simp, hr.congr (fun i _ => by simp)⟩

theorem rowIs_belowP {w w' : World} {b : Nat} {t : TypeId} {m : Nat} {f : Nat → Value} (h : w.rowIs b t m f) (hb : Below w.heap.size w w') (hlt : b < w.heap.size) : w'.rowIs b t m f := by
  obtain ⟨c, h1, h2, h3⟩ := h
  exact ⟨c, by rw [hb.block b hlt]; exact h1, h2, h3⟩

theorem CopiedP.step {w wr w2 : World} {n : Nat} {fc ft : Nat → Int} {fu fd : Nat → Bool} {k : Nat} (h : CopiedP w wr n fc ft fu fd k) (hb : Below wr.heap.size wr w2) : CopiedP w w2 n fc ft fu fd k :=
  ⟨h.below.trans (hb.mono h.below.size), Nat.lt_of_lt_of_le h.size hb.size, rowIs_belowP h.row hb h.size⟩

theorem CopiedP.put {w wr : World} {n : Nat} {fc ft : Nat → Int} {fu fd : Nat → Bool} {k : Nat} (h : CopiedP w wr n fc ft fu fd k) :
    CopiedP w ((((wr.setCell ⟨w.heap.size, k * 4, none⟩ (.int .i64 (fc k))).setCell ⟨w.heap.size, k * 4 + 1, none⟩ (.int .i64 (ft k))).setCell ⟨w.heap.size, k * 4 + 2, none⟩ (.bool (fu k))).setCell ⟨w.heap.size, k * 4 + 3, none⟩ (.bool (fd k))) n fc ft fu fd (k + 1) := by
  refine ⟨(((h.below.setCell (Nat.le_refl _) _).setCell (Nat.le_refl _) _).setCell (Nat.le_refl _) _).setCell (Nat.le_refl _) _, by simpa using h.size, (((((h.row.set _ _).set _ _).set _ _).set _ _).congr (fun i _ => ?_))⟩
  by_cases e3 : i = k * 4 + 3
  · subst e3
    have : (k * 4 + 3) % 4 = 3 := by omega
    have d : (k * 4 + 3) / 4 = k := by omega
    simp [cellP, this, d, show k * 4 + 3 < (k + 1) * 4 by omega]
  by_cases e2 : i = k * 4 + 2
  · subst e2
    have : (k * 4 + 2) % 4 = 2 := by omega
    have d : (k * 4 + 2) / 4 = k := by omega
    simp [cellP, this, d, show k * 4 + 2 < (k + 1) * 4 by omega]
  by_cases e1 : i = k * 4 + 1
  · subst e1
    have : (k * 4 + 1) % 4 = 1 := by omega
    have d : (k * 4 + 1) / 4 = k := by omega
    simp [cellP, this, d, show k * 4 + 1 < (k + 1) * 4 by omega]
  by_cases e0 : i = k * 4
  · subst e0
    have : (k * 4) % 4 = 0 := by omega
    have d : (k * 4) / 4 = k := by omega
    simp [cellP, this, d, show k * 4 < (k + 1) * 4 by omega]
  · simp only [e0, e1, e2, e3, if_false]
    by_cases hlt : i < k * 4
    · rw [if_pos hlt, if_pos (by omega)]
    · rw [if_neg hlt, if_neg (by omega)]

theorem CopiedP.view {w wr : World} {n : Nat} {fc ft : Nat → Int} {fu fd : Nat → Bool} (h : CopiedP w wr n fc ft fu fd n) : PView wr (some ⟨w.heap.size, 0, none⟩) n n fc ft fu fd := by
  refine ⟨Nat.le_refl _, fun _ => ⟨_, 0, rfl, h.size, fun i hi => ?_⟩⟩
  have c0 := h.row.cell (i := i * 4) (by omega)
  have c1 := h.row.cell (i := i * 4 + 1) (by omega)
  have c2 := h.row.cell (i := i * 4 + 2) (by omega)
  have c3 := h.row.cell (i := i * 4 + 3) (by omega)
  simp only [show i * 4 < n * 4 by omega, show i * 4 + 1 < n * 4 by omega, show i * 4 + 2 < n * 4 by omega, show i * 4 + 3 < n * 4 by omega, if_true, cellP] at c0 c1 c2 c3
  have m0 : (i * 4) % 4 = 0 := by omega
  have m1 : (i * 4 + 1) % 4 = 1 := by omega
  have m2 : (i * 4 + 2) % 4 = 2 := by omega
  have m3 : (i * 4 + 3) % 4 = 3 := by omega
  have d0 : (i * 4) / 4 = i := by omega
  have d1 : (i * 4 + 1) / 4 = i := by omega
  have d2 : (i * 4 + 2) / 4 = i := by omega
  have d3 : (i * 4 + 3) / 4 = i := by omega
  simp only [m0, m1, m2, m3, d0, d1, d2, d3] at c0 c1 c2 c3
  rw [Nat.zero_add]
  exact ⟨by simpa using c0, by simpa using c1, by simpa using c2, by simpa using c3⟩

set_option maxHeartbeats 2000000 in
theorem toPartS_any (a : Option Addr) (n cap : Nat) (fc ft : Nat → Int) (fu fd : Nat → Bool) (w : World) (h : PView w a n cap fc ft fu fd) (hn : n ≤ 1048576) :
    Calls Try.prog 9 #[.slice a n cap] w fun e w' => e = .returned (.slice (some ⟨w.heap.size, 0, none⟩) n n) ∧ CopiedP w w' n fc ft fu fd n := by
  have hmk := fun W => make_parts n hn W
  go_enter Try.func9, Try.ntmps9
  go_wp2
  clear hmk
  go_loopg [4] n (fun q i wr => ∃ k : Nat, k ≤ n ∧ q = n - k ∧ i = .int .i64 k ∧ CopiedP w wr n fc ft fu fd k)
  case atStart => exact ⟨0, Nat.zero_le _, rfl, rfl, copiedP_start w n fc ft fu fd⟩
  case round =>
    obtain ⟨k, hk, rfl, rfl, hC⟩ := hrel
    by_cases hlt : k < n
    · obtain ⟨b1, o1, rfl, hb1, hc1⟩ := (h.below hC.below).cells (by omega)
      obtain ⟨x0, x1, x2, x3⟩ := hc1 k hlt
      have hkz : (k : Int) < (n : Int) := by omega
      have hV := fun W => toPart_any (fc k) (ft k) (fu k) (fd k) W
      go_wp2_with fail
      refine (hV _).mono ?_
      rintro e w2 ⟨rfl, hB2⟩
      have hC2 := hC.step hB2
      have hS : Hid _ := hC2.put
      have z0 := hC2.row.cell (i := k * 4) (by omega)
      have z1 := hC2.row.cell (i := k * 4 + 1) (by omega)
      have z2 := hC2.row.cell (i := k * 4 + 2) (by omega)
      have z3 := hC2.row.cell (i := k * 4 + 3) (by omega)
      have f0 := hC2.row.frozen (k * 4)
      have f1 := hC2.row.frozen (k * 4 + 1)
      have f2 := hC2.row.frozen (k * 4 + 2)
      have f3 := hC2.row.frozen (k * 4 + 3)
      clear hc1 hC hC2 hB2 hV x0 x1 x2 x3 h
      go_wp2
      go_roundg (n - (k + 1))
      case measure => omega
      case rel => exact ⟨k + 1, by omega, rfl, by go_num, hS.out⟩
    · have hkn : k = n := by omega
      have hkz : ¬ (k : Int) < (n : Int) := by omega
      rw [hkn] at hC
      have hS : Hid (CopiedP w wr n fc ft fu fd n) := hC
      clear hC
      go_wp2
      go_ret
      exact ⟨rfl, hS.out⟩
end Go.Proofs.Ytikopeihkbpjhas

/-
  What the law's own helper markPartS comes to: it writes into a row of parts of the call's own, and nowhere else.
-/
namespace Go.Proofs.Ytikopeihkbpjhas
open Go.RowKit
set_option maxRecDepth 4000

set_option maxHeartbeats 2000000 in
theorem markPartS_any (b n cap : Nat) (f : Nat → Value) (k : Int) (w : World) (hr : w.rowIs b 49 (n * 4) f) (hk : 0 ≤ k) (hk1 : k + 4 * n ≤ 4611686018427387904) :
    Calls Try.prog 17 #[.slice (some ⟨b, 0, none⟩) n cap, .int .i64 k] w fun e w' => e = .returned (.int .i64 (k + 4 * n)) ∧ Only b w w' := by
  go_enter Try.func17, Try.ntmps17
  go_wp2
  go_loopg [1, 5] n (fun g s i wr => ∃ j : Nat, j ≤ n ∧ g = n - j ∧ s = .int .i64 (k + 4 * j) ∧ i = .int .i64 j ∧ Only b w wr ∧ ∃ f', wr.rowIs b 49 (n * 4) f')
  case atStart => exact ⟨0, Nat.zero_le _, rfl, by simp, rfl, Only.refl _ _, f, hr⟩
  case round =>
    obtain ⟨j, hj, rfl, rfl, rfl, hO, f', hr'⟩ := hrel
    clear hr
    by_cases hlt : j < n
    · have hjz : (j : Int) < (n : Int) := by omega
      have z0 := hr'.cell (i := j * 4) (by omega)
      have z1 := hr'.cell (i := j * 4 + 1) (by omega)
      have z2 := hr'.cell (i := j * 4 + 2) (by omega)
      have z3 := hr'.cell (i := j * 4 + 3) (by omega)
      have f0 := hr'.frozen (j * 4)
      have f1 := hr'.frozen (j * 4 + 1)
      have f2 := hr'.frozen (j * 4 + 2)
      have f3 := hr'.frozen (j * 4 + 3)
      have hS : Hid (∀ u0 u1 u2 u3 : Value, Only b w ((((wr.setCell ⟨b, j * 4, none⟩ u0).setCell ⟨b, j * 4 + 1, none⟩ u1).setCell ⟨b, j * 4 + 2, none⟩ u2).setCell ⟨b, j * 4 + 3, none⟩ u3) ∧ ∃ f', ((((wr.setCell ⟨b, j * 4, none⟩ u0).setCell ⟨b, j * 4 + 1, none⟩ u1).setCell ⟨b, j * 4 + 2, none⟩ u2).setCell ⟨b, j * 4 + 3, none⟩ u3).rowIs b 49 (n * 4) f') := fun u0 u1 u2 u3 => ⟨(((hO.setCell _).setCell _).setCell _).setCell _, _, (((hr'.set _ _).set _ _).set _ _).set _ _⟩
      clear hr' hO
      go_wp2
      go_roundg (n - (j + 1))
      case measure => omega
      case rel => exact ⟨j + 1, by omega, rfl, by go_num, by go_num, (hS.out _ _ _ _).1, (hS.out _ _ _ _).2⟩
    · obtain rfl : j = n := by omega
      have hjz : ¬ (j : Int) < (j : Int) := by omega
      clear hr'
      go_wp2
      go_ret
      exact ⟨rfl, hO⟩
end Go.Proofs.Ytikopeihkbpjhas

/-
  What the law's own helper markText comes to: a text that hangs on the count alone.
-/
namespace Go.Proofs.Ytikopeihkbpjhas
open Go.RowKit
set_option maxRecDepth 4000

theorem Row.litOne (w : World) (t : TypeId) (h : Int) : Row t (w.alloc (.cells #[.int .u8 h] t)) w.heap.size 1 (fun _ => h) :=
  Row.ofIs (World.rowIs_alloc w #[.int .u8 h] t (fun _ => .int .u8 h) (fun j hj => by match j, hj with | 0, _ => rfl))

/-- The digits of a number ahead of a text. -/
def digT (k : Nat) (acc : ByteArray) : ByteArray := if _h : k = 0 then acc else digT (k / 10) (strOfNums [48 + ((k % 10 : Nat) : Int)] ++ acc)
  termination_by k
  decreasing_by omega
def markT (k : Int) : ByteArray := if k ≤ 0 then ⟨#[109, 48]⟩ else (⟨#[109]⟩ : ByteArray) ++ digT k.toNat ⟨#[]⟩

set_option maxHeartbeats 1000000 in
theorem markText_any (k : Int) (w : World) (hk1 : k ≤ 4611686018427387904) :
    Calls Try.prog 41 #[.int .i64 k] w fun e w' => e = .returned (.string (markT k)) ∧ Below w.heap.size w w' := by
  by_cases h0 : k ≤ 0
  · have e : markT k = ⟨#[109, 48]⟩ := by unfold markT; rw [if_pos h0]
    rw [e]
    go_enter Try.func41, Try.ntmps41
    go_wp2
    go_ret
    exact ⟨rfl, Below.refl _ _⟩
  obtain ⟨m, rfl⟩ : ∃ m : Nat, k = m := ⟨k.toNat, by omega⟩
  have HM : Hid (markT (m : Int) = (⟨#[109]⟩ : ByteArray) ++ digT m ⟨#[]⟩) := by show _ = _; unfold markT; rw [if_neg h0]; rfl
  go_enter Try.func41, Try.ntmps41
  go_wp2
  go_loopg [0, 3] m (fun q kv s wr => ∃ (j : Nat) (acc : ByteArray), j ≤ m ∧ j = q ∧ kv = .int .i64 j ∧ s = .string acc ∧ digT j acc = digT m ⟨#[]⟩ ∧ acc.size + j ≤ m ∧ Below w.heap.size w wr)
  case atStart => exact ⟨m, _, Nat.le_refl _, rfl, rfl, rfl, rfl, by show 0 + m ≤ m; omega, Below.refl _ _⟩
  case round =>
    obtain ⟨j, acc, hj, hq, rfl, rfl, hd, hsz, hB⟩ := hrel
    subst hq
    have HD : Hid (digT j acc = digT m ⟨#[]⟩) := hd
    clear hd
    by_cases hz : j = 0
    · subst hz
      have HF : Hid (digT m ⟨#[]⟩ = acc) := by show _ = _; rw [← HD.out]; unfold digT; simp
      have hs1 : (⟨#[109]⟩ : ByteArray).size = 1 := rfl
      have hs2 : ¬ (1 + acc.size > 9223372036854775807) := by omega
      go_wp2
      go_ret
      exact ⟨by rw [HM.out, HF.out]; rfl, hB⟩
    · have hjz : (0 : Int) < (j : Int) := by omega
      obtain ⟨r, hr⟩ : ∃ r : Nat, Hid (j % 10 = r) := ⟨_, rfl⟩
      obtain ⟨d, hd⟩ : ∃ d : Nat, Hid (j / 10 = d) := ⟨_, rfl⟩
      have hr9 : r ≤ 9 := by have := hr.out; omega
      have hdj : d < j := by have := hd.out; omega
      have HN : Hid (digT d (strOfNums [48 + (r : Int)] ++ acc) = digT m ⟨#[]⟩) := by
        show _ = _
        rw [← HD.out]
        conv => rhs; unfold digT
        rw [dif_neg hz, hr.out, hd.out]
      have h1 : Int.tmod (j : Int) 10 = (r : Int) := by rw [← hr.out]; rfl
      have h2 : Int.tdiv (j : Int) 10 = (d : Int) := by rw [← hd.out]; rfl
      have h3 : IntKind.u8.wrap (48 + (r : Int)) = 48 + (r : Int) := by rw [u8_wrap]; omega
      have hcv := conv_view ((Row.litOne wr 5 (48 + (r : Int))).view (cap := 1) (Nat.le_refl _) (fun _ _ => ⟨by omega, by omega⟩))
      rw [show lof 1 (fun _ => 48 + (r : Int)) = [48 + (r : Int)] by simp [lof]] at hcv
      have hB2 : Below w.heap.size w (wr.alloc (.cells #[.int .u8 (48 + (r : Int))] 5)) := hB.alloc hB.size _
      have hs1 : (strOfNums [48 + (r : Int)]).size = 1 := by simp [strOfNums, ByteArray.size]
      have hs2 : ¬ (1 + acc.size > 9223372036854775807) := by omega
      have HZ : Hid ((strOfNums [48 + (r : Int)] ++ acc).size + d ≤ m) := by show _ ≤ _; rw [ByteArray.size_append, hs1]; omega
      clear HD
      go_wp2
      go_roundg d
      case measure => omega
      case rel => exact ⟨d, _, by omega, rfl, by go_num, rfl, HN.out, HZ.out, hB2⟩
end Go.Proofs.Ytikopeihkbpjhas

/-
  What the law's own helpers markValS and heldValS come to: the one writes counts into a row of values of the call's own, the other finds them there.
-/
namespace Go.Proofs.Ytikopeihkbpjhas
open Go.RowKit
set_option maxRecDepth 4000

/-- Block b is a row of values of the call's own, none frozen; its first cells are F 0, F 1 .. (three a value). -/
def RowV (w : World) (b n : Nat) (F : Nat → Value) : Prop :=
  ∃ c : Array Value, w.heap[b]? = some (.cells c 52 (0, 0)) ∧ n * 3 ≤ c.size ∧ ∀ i, i < n * 3 → c[i]? = some (F i)
namespace RowV
variable {w w' : World} {b n : Nat} {F G : Nat → Value}
theorem cell (h : RowV w b n F) {i : Nat} (hi : i < n * 3) : w.cell? ⟨b, i, none⟩ = some (F i) := by
  obtain ⟨c, hb, _, hc⟩ := h
  simp [World.cell?, hb, hc i hi]
theorem frozen (h : RowV w b n F) (i : Nat) : w.frozen? ⟨b, i, none⟩ = false := by
  obtain ⟨c, hb, _, _⟩ := h
  simp [World.frozen?, hb]
theorem lt (h : RowV w b n F) : b < w.heap.size := by
  obtain ⟨c, hb, _, _⟩ := h
  exact (Array.getElem?_eq_some_iff.1 hb).1
theorem of_block (h : RowV w b n F) (e : w'.heap[b]? = w.heap[b]?) : RowV w' b n F := by
  obtain ⟨c, hb, r⟩ := h
  exact ⟨c, e.trans hb, r⟩
theorem congr (h : RowV w b n F) (e : ∀ i, i < n * 3 → F i = G i) : RowV w b n G := by
  obtain ⟨c, h1, h2, h3⟩ := h
  exact ⟨c, h1, h2, fun i hi => by rw [h3 i hi, e i hi]⟩
theorem set (h : RowV w b n F) (i : Nat) (u : Value) : RowV (w.setCell ⟨b, i, none⟩ u) b n (fun j => if j = i then u else F j) := by
  obtain ⟨c, hb, hs, hc⟩ := h
  refine ⟨c.setIfInBounds i u, ?_, by simpa using hs, fun j hj => ?_⟩
  · simp [World.setCell, Array.getElem?_modify, hb]
  · rw [Array.getElem?_setIfInBounds]
    by_cases e : j = i
    · subst e
      have : j < c.size := by omega
      simp [this]
    · rw [if_neg (fun h => e h.symm)]
      show c[j]? = some (if j = i then u else F j)
      rw [if_neg e]
      exact hc j hj
/-- A row of the call's own that is no nil slice. -/
theorem ofOwn {base : Nat} {v : Value} {xs : List Value} (h : w.ownsRow base 52 3 v n xs) (hne : v ≠ .slice none 0 0) : ∃ b c, v = .slice (some ⟨b, 0, none⟩) n c ∧ base ≤ b ∧ n ≤ c ∧ RowV w b n (fun i => xs.getD i .nilFunc) := by
  obtain ⟨hl, h⟩ := h
  rcases h with ⟨h0, _⟩ | ⟨g, c, cur, rfl, hb, hg, hnc, hcm, hcs, ht⟩
  · exact absurd h0 hne
  · refine ⟨g, c, rfl, hb, hnc, cur, hg, by rw [hcs]; omega, fun i hi => ?_⟩
    have hx : xs[i]? = some (xs.getD i .nilFunc) := by
      have : i < xs.length := by omega
      simp [this]
    rw [← ht, List.getElem?_take, if_pos hi] at hx
    rw [← ht]
    simpa using hx
end RowV

/-- What is written into a cell. -/
def markV (k : Int) (i : Nat) : Value := if i % 3 = 2 then .string (markT (k + i)) else .int .i64 (k + i)

structure MarkedV (w wr : World) (b n : Nat) (F : Nat → Value) (k : Int) (j : Nat) : Prop where
  but : But b w wr
  row : RowV wr b n (fun i => if i < j * 3 then markV k i else F i)
theorem MarkedV.put {w wr : World} {b n : Nat} {F : Nat → Value} {k : Int} {j : Nat} (h : MarkedV w wr b n F k j) {wr2 : World} (hb : Below wr.heap.size ((wr.setCell ⟨b, j * 3, none⟩ (.int .i64 (k + 3 * j))).setCell ⟨b, j * 3 + 1, none⟩ (.int .i64 (k + 3 * j + 1))) wr2) :
    MarkedV w (wr2.setCell ⟨b, j * 3 + 2, none⟩ (.string (markT (k + 3 * j + 1 + 1)))) b n F k (j + 1) := by
  have hs : ∀ (W : World) (a : Addr) (u : Value), (W.setCell a u).heap.size = W.heap.size := fun W a u => by simp
  have o1 : Only b wr ((wr.setCell ⟨b, j * 3, none⟩ (.int .i64 (k + 3 * j))).setCell ⟨b, j * 3 + 1, none⟩ (.int .i64 (k + 3 * j + 1))) := ((Only.refl _ _).setCell _).setCell _
  have hlt := h.row.lt
  have hbut2 : But b wr wr2 := (But.ofOnly o1).trans (But.ofBelow (by rw [hs, hs]; exact hb))
  have hr2 : RowV wr2 b n _ := ((h.row.set (j * 3) (.int .i64 (k + 3 * j))).set (j * 3 + 1) (.int .i64 (k + 3 * j + 1))).of_block (hb.block b hlt)
  refine ⟨(h.but.trans hbut2).trans (But.ofOnly ((Only.refl _ _).setCell _)), (hr2.set (j * 3 + 2) _).congr (fun i _ => ?_)⟩
  by_cases e2 : i = j * 3 + 2
  · subst e2
    rw [if_pos rfl, if_pos (by omega)]
    unfold markV
    rw [if_pos (by omega)]
    congr 2
    push_cast
    omega
  by_cases e1 : i = j * 3 + 1
  · subst e1
    rw [if_neg (by omega), if_pos rfl, if_pos (by omega)]
    unfold markV
    rw [if_neg (by omega)]
    congr 1
    push_cast
    omega
  by_cases e0 : i = j * 3
  · subst e0
    rw [if_neg (by omega), if_neg (by omega), if_pos rfl, if_pos (by omega)]
    unfold markV
    rw [if_neg (by omega)]
    congr 1
    push_cast
    omega
  · rw [if_neg e2, if_neg e1, if_neg e0]
    by_cases hlt : i < j * 3
    · rw [if_pos hlt, if_pos (by omega)]
    · rw [if_neg hlt, if_neg (by omega)]

set_option maxHeartbeats 2000000 in
theorem markValS_any (b n cap : Nat) (F : Nat → Value) (k : Int) (w : World) (hr : RowV w b n F) (hk : 0 ≤ k) (hk1 : k + 3 * n ≤ 4611686018427387904) :
    Calls Try.prog 18 #[.slice (some ⟨b, 0, none⟩) n cap, .int .i64 k] w fun e w' => e = .returned (.int .i64 (k + 3 * n)) ∧ RowV w' b n (markV k) ∧ But b w w' := by
  go_enter Try.func18, Try.ntmps18
  go_wp2
  go_loopg [1, 5] n (fun g s i wr => ∃ j : Nat, j ≤ n ∧ g = n - j ∧ s = .int .i64 (k + 3 * j) ∧ i = .int .i64 j ∧ MarkedV w wr b n F k j)
  case atStart => exact ⟨0, Nat.zero_le _, rfl, by simp, rfl, But.refl _ _, hr.congr (fun i _ => by simp)⟩
  case round =>
    obtain ⟨j, hj, rfl, rfl, rfl, hM⟩ := hrel
    clear hr
    by_cases hlt : j < n
    · have hjz : (j : Int) < (n : Int) := by omega
      have z0 := hM.row.cell (i := j * 3) (by omega)
      have z1 := hM.row.cell (i := j * 3 + 1) (by omega)
      have f0 := hM.row.frozen (j * 3)
      have f1 := hM.row.frozen (j * 3 + 1)
      have hbl := hM.row.lt
      have hr2 := (hM.row.set (j * 3) (.int .i64 (k + 3 * j))).set (j * 3 + 1) (.int .i64 (k + 3 * j + 1))
      go_wp2_with fail
      refine (markText_any _ _ (by omega)).mono ?_
      rintro e w2 ⟨rfl, hb⟩
      have hb' : Below wr.heap.size ((wr.setCell ⟨b, j * 3, none⟩ (.int .i64 (k + 3 * j))).setCell ⟨b, j * 3 + 1, none⟩ (.int .i64 (k + 3 * j + 1))) w2 := by
        have e : ((wr.setCell ⟨b, j * 3, none⟩ (.int .i64 (k + 3 * j))).setCell ⟨b, j * 3 + 1, none⟩ (.int .i64 (k + 3 * j + 1))).heap.size = wr.heap.size := by simp
        rw [e] at hb
        exact hb
      have hr3 := hr2.of_block (hb'.block b hbl)
      have z2 := hr3.cell (i := j * 3 + 2) (by omega)
      have f2 := hr3.frozen (j * 3 + 2)
      have hS : Hid (MarkedV w (w2.setCell ⟨b, j * 3 + 2, none⟩ (.string (markT (k + 3 * j + 1 + 1)))) b n F k (j + 1)) := hM.put hb'
      clear hM hb hb' hr2 hr3 z0 z1 f0 f1
      go_wp2
      go_roundg (n - (j + 1))
      case measure => omega
      case rel => exact ⟨j + 1, by omega, rfl, by go_num, by go_num, hS.out⟩
    · obtain rfl : j = n := by omega
      have hF : Hid (RowV wr b j (markV k)) := hM.row.congr (fun i hi => by rw [if_pos hi])
      have hO := hM.but
      clear hM
      go_wp2
      go_ret
      exact ⟨rfl, hF.out, hO⟩

/-- A row that was marked reads so. -/
theorem RowV.marked {w : World} {b n c : Nat} {k : Int} (h : RowV w b n (markV k)) (hc : n ≤ c) : VView w (some ⟨b, 0, none⟩) n c (fun i => k + 3 * i) (fun i => k + 3 * i + 1) (fun i => markT (k + 3 * i + 1 + 1)) := by
  refine ⟨hc, fun _ => ⟨b, 0, rfl, h.lt, fun i hi => ?_⟩⟩
  have c0 := h.cell (i := i * 3) (by omega)
  have c1 := h.cell (i := i * 3 + 1) (by omega)
  have c2 := h.cell (i := i * 3 + 2) (by omega)
  unfold markV at c0 c1 c2
  rw [if_neg (by omega)] at c0 c1
  rw [if_pos (by omega)] at c2
  simp only [Nat.zero_add]
  refine ⟨?_, ?_, ?_⟩
  · rw [c0]; congr 2; push_cast; omega
  · rw [c1]; congr 2; push_cast; omega
  · rw [c2]; congr 3; push_cast; omega
end Go.Proofs.Ytikopeihkbpjhas

/-
  What the law's own helper heldValS comes to on a row that was marked.
-/
namespace Go.Proofs.Ytikopeihkbpjhas
open Go.RowKit
set_option maxRecDepth 4000

theorem neStr_run (s : ByteArray) (W : World) : (binOp .neq 9 (.string s) (.string s)).run Try.prog W = .ok (.bool false) W := by
  simp [go_sem, binOp, Op.stringOp]

set_option linter.unusedSimpArgs false in
set_option maxHeartbeats 2000000 in
theorem heldValS_any (ao : Option Addr) (n cap : Nat) (k : Int) (w : World) (hv : VView w ao n cap (fun i => k + 3 * i) (fun i => k + 3 * i + 1) (fun i => markT (k + 3 * i + 1 + 1))) (hk : 0 ≤ k) (hk1 : k + 3 * n ≤ 4611686018427387904) :
    Calls Try.prog 24 #[.slice ao n cap, .int .i64 k] w fun e w' => e = .returned (.int .i64 (k + 3 * n)) ∧ Below w.heap.size w w' := by
  go_enter Try.func24, Try.ntmps24
  go_wp2
  go_loopg [1, 5] n (fun g s i wr => ∃ j : Nat, j ≤ n ∧ g = n - j ∧ s = .int .i64 (k + 3 * j) ∧ i = .int .i64 j ∧ Below w.heap.size w wr)
  case atStart => exact ⟨0, Nat.zero_le _, rfl, by simp, rfl, Below.refl _ _⟩
  case round =>
    obtain ⟨j, hj, rfl, rfl, rfl, hB⟩ := hrel
    by_cases hlt : j < n
    · obtain ⟨b, off, rfl, hb, hc⟩ := (hv.below hB).cells (by omega)
      have hjz : (j : Int) < (n : Int) := by omega
      obtain ⟨x0, x1, x2⟩ := hc j hlt
      have hT := fun W => markText_any (k + 3 * j + 1 + 1) W (by omega)
      obtain ⟨s, hs⟩ : ∃ s, Hid (markT (k + 3 * j + 1 + 1) = s) := ⟨_, rfl⟩
      rw [hs.out] at x2 hT
      have q0 : ((k + 3 * (j : Int)) != (k + 3 * (j : Int))) = false := by simp
      have q1 : ((k + 3 * (j : Int) + 1) != (k + 3 * (j : Int) + 1)) = false := by simp
      have q2 := neStr_run s
      clear hc hv
      go_wp2_with fail
      refine wp_region_held_drew (S := fun W => W.cell? ⟨b, off + j * 3 + 2, none⟩ = some (.string s)) (by kernel_rfl) (x2) (fun hHeld => ?_)
      refine' wpAnyH_take (i := 0) (v := _) rfl (by kernel_rfl) (by kernel_rfl) (by kernel_rfl) (fun _ _ _ h => h) (Or.inl ⟨by kernel_rfl, ?ha0⟩) (by assumption) ?ra0
      case ha0 => intro W hW; go_simp; all_goals with_reducible rfl
      change wpAnyH _ _ _ _ _ _ _ (Act.put _ (some 30) _) _
      simp only [Act.put, List.setIfInBounds_toArray, List.set_cons_zero, List.set_cons_succ]
      refine' wpAnyH_take (i := 1) (v := _) rfl (by kernel_rfl) (by kernel_rfl) (by kernel_rfl) (fun _ _ _ h => h) (Or.inl ⟨by kernel_rfl, ?ha1⟩) (by assumption) ?ra1
      case ha1 => intro W hW; go_simp; all_goals with_reducible rfl
      change wpAnyH _ _ _ _ _ _ _ (Act.put _ (some 31) _) _
      simp only [Act.put, List.setIfInBounds_toArray, List.set_cons_zero, List.set_cons_succ]
      refine' wpAnyH_take (i := 2) (v := _) rfl (by kernel_rfl) (by kernel_rfl) (by kernel_rfl) (fun _ _ _ h => h) (Or.inl ⟨by kernel_rfl, ?ha2⟩) (by assumption) ?ra2
      case ha2 => intro W hW; go_simp; all_goals with_reducible rfl
      change wpAnyH _ _ _ _ _ _ _ (Act.put _ (some 32) _) _
      simp only [Act.put, List.setIfInBounds_toArray, List.set_cons_zero, List.set_cons_succ]
      refine' wpAnyH_take (i := 3) (v := _) rfl (by kernel_rfl) (by kernel_rfl) (by kernel_rfl) (fun _ _ _ h => h) (Or.inl ⟨by kernel_rfl, ?ha3⟩) (by assumption) ?ra3
      case ha3 => intro W hW; go_simp; all_goals with_reducible rfl
      change wpAnyH _ _ _ _ _ _ _ (Act.put _ (some 33) _) _
      simp only [Act.put, List.setIfInBounds_toArray, List.set_cons_zero, List.set_cons_succ]
      refine' wpAnyH_take (i := 4) (v := _) rfl (by kernel_rfl) (by kernel_rfl) (by kernel_rfl) (fun _ _ _ h => h) (Or.inl ⟨by kernel_rfl, ?ha4⟩) (by assumption) ?ra4
      case ha4 => intro W hW; go_simp; all_goals with_reducible rfl
      change wpAnyH _ _ _ _ _ _ _ (Act.put _ (some 34) _) _
      simp only [Act.put, List.setIfInBounds_toArray, List.set_cons_zero, List.set_cons_succ]
      refine' wpAnyH_take (i := 5) (v := _) rfl (by kernel_rfl) (by kernel_rfl) (by kernel_rfl) (fun _ _ _ h => h) (Or.inl ⟨by kernel_rfl, ?ha5⟩) (by assumption) ?ra5
      case ha5 => intro W hW; go_simp; all_goals with_reducible rfl
      change wpAnyH _ _ _ _ _ _ _ (Act.put _ (some 35) _) _
      simp only [Act.put, List.setIfInBounds_toArray, List.set_cons_zero, List.set_cons_succ]
      refine wpAnyH_ready (rs := [6]) (by kernel_rfl) (by simp) ?_
      refine AllReadyH.cons rfl (fun KK hK => ?_) AllReadyH.nil
      go_simp
      refine (hT _).mono ?_
      rintro e w2 ⟨rfl, hB2⟩
      go_wp2_with fail
      refine hK.out _ _ (by rw [hB2.cell hb]; exact x2) (fun hHeld => ?_)
      clear hK KK
      try simp only [Act.put, List.setIfInBounds_toArray, List.set_cons_zero, List.set_cons_succ]
      refine' wpAnyH_take (i := 7) (v := _) rfl (by kernel_rfl) (by kernel_rfl) (by kernel_rfl) (fun _ _ _ h => h) (Or.inl ⟨by kernel_rfl, ?ha7⟩) (by assumption) ?ra7
      case ha7 => intro W hW; go_simp; all_goals with_reducible rfl
      change wpAnyH _ _ _ _ _ _ _ (Act.put _ (some 37) _) _
      simp only [Act.put, List.setIfInBounds_toArray, List.set_cons_zero, List.set_cons_succ]
      refine wpAnyH_done (by kernel_rfl) ?_ _
      have hB3 : Hid (Below w.heap.size w w2) := hB.trans (Below.trans (Below.drew (Below.refl _ _)) (hB2.mono (by have := hB.size; exact this)))
      clear hHeld x0 x1 x2 hT
      go_wp2
      go_roundg (n - (j + 1))
      case measure => omega
      case rel => exact ⟨j + 1, by omega, rfl, by go_num, by go_num, hB3.out⟩
    · obtain rfl : j = n := by omega
      go_wp2
      go_ret
      exact ⟨rfl, hB⟩
end Go.Proofs.Ytikopeihkbpjhas

/-
  What the frame of a row hands over of a slice of values that came in.
-/
namespace Go.Proofs.Ytikopeihkbpjhas
open Go.RowKit Go.Deep

/-- What the frame of a row hands over of a slice of values that came in. -/
theorem valsIn {H : Type} {enc : TypeId × Value → H} {W : World} {sp : Nat → Bool} {a : Option Addr} {len cap : Nat} {d : DataW H} {p : List MemPlace} {T : TypeId}
    (ht : Try.prog.underlying T = some (.slice 46)) (h : DataW.Trod enc Try.prog W 0 sp true T (.slice a len cap) d p) :
    ∃ fk fn fs, VView W a len cap fk fn fs ∧ (∀ i, i < len → (fs i).size ≤ maxLen) ∧ cap ≤ maxLen := by
  obtain ⟨fuel, hf⟩ := h
  have c3 : Try.prog.cellsOf 46 = 3 := by kernel_rfl
  rcases DataW.trod_slice ht hf with ⟨hcs, _⟩ | ⟨x, l, c, elems, rest, n, _, hcs, _, _, hl, hm, hlen, hel, _, _⟩
  · simp [Value.cells] at hcs
    obtain ⟨rfl, rfl, rfl⟩ := hcs
    exact ⟨fun _ => 0, fun _ => 0, fun _ => ⟨#[]⟩, ⟨Nat.le_refl _, fun h => absurd h (Nat.lt_irrefl _)⟩, fun i hi => absurd hi (Nat.not_lt_zero _), Nat.zero_le _⟩
  · simp [Value.cells] at hcs
    obtain ⟨rfl, rfl, rfl⟩ := hcs
    have each : ∀ i, i < len → ∃ (k m : Int) (s : ByteArray), W.cell? (x.add (i * 3)) = some (.int .i64 k) ∧ W.cell? ((x.add (i * 3)).add 1) = some (.int .i64 m) ∧ W.cell? ((x.add (i * 3)).add 2) = some (.string s) ∧ s.size ≤ maxLen := by
      intro i hi
      have h1 := hel i hi
      rw [c3] at h1
      have h2 : elems[i]? = some elems[i] := List.getElem?_eq_getElem (by omega)
      rw [h2] at h1
      obtain ⟨cs, hcs, htr⟩ := Option.bind_eq_some_iff.1 h1
      obtain ⟨_, hl3, hcell⟩ := World.cells?_some hcs
      obtain ⟨y0, y1, y2, m, _, _, t0, t1, t2⟩ := trod_struct3 Try.underlying46 htr
      have o1 : Try.prog.cellsOf 3 = 1 := by kernel_rfl
      have o2 : Try.prog.cellsOf 9 = 1 := by kernel_rfl
      simp only [o1, o2] at t0 t1 t2
      match cs, hl3 with
      | [c0, c1, c2], _ =>
        simp only [List.drop_zero, List.drop_succ_cons, List.take_succ_cons, List.take_zero] at t0 t1 t2
        obtain ⟨k, e0, _, _⟩ := DataW.trod_int Try.underlying3 t0
        obtain ⟨m, e1, _, _⟩ := DataW.trod_int Try.underlying3 t1
        obtain ⟨s, e2, _, hs⟩ := DataW.trod_string Try.underlying9 t2
        simp only [List.cons.injEq, and_true] at e0 e1 e2
        subst e0 e1 e2
        refine ⟨k, m, s, ?_, ?_, ?_, hs⟩
        · have := hcell 0 (by omega)
          simpa [Addr.add] using this
        · exact hcell 1 (by omega)
        · exact hcell 2 (by omega)
    refine ⟨fun i => if h : i < len then (each i h).choose else 0, fun i => if h : i < len then (each i h).choose_spec.choose else 0, fun i => if h : i < len then (each i h).choose_spec.choose_spec.choose else ⟨#[]⟩, ⟨hl, fun hn => ?_⟩, fun i hi => ?_, hm⟩
    · obtain ⟨b, off, spot⟩ := x
      obtain ⟨k0, m0, s0, h0, _⟩ := each 0 hn
      have hs : spot = none := by simpa [Addr.add] using World.cell?_spot h0
      subst hs
      refine ⟨b, off, rfl, World.block_lt_of_cell? _ _ h0, fun i hi => ?_⟩
      have hsp := (each i hi).choose_spec.choose_spec.choose_spec
      have ea : (⟨b, off, none⟩ : Addr).add (i * 3) = ⟨b, off + i * 3, none⟩ := by unfold Addr.add; split <;> simp_all
      have eb : ∀ j, (⟨b, off + i * 3, none⟩ : Addr).add j = ⟨b, off + i * 3 + j, none⟩ := fun j => by unfold Addr.add; split <;> simp_all
      have e1 : (⟨b, off + i * 3 + 1, none⟩ : Addr) = ((⟨b, off, none⟩ : Addr).add (i * 3)).add 1 := by rw [ea, eb]
      have e2 : (⟨b, off + i * 3 + 2, none⟩ : Addr) = ((⟨b, off, none⟩ : Addr).add (i * 3)).add 2 := by rw [ea, eb]
      simp only [dif_pos hi]
      exact ⟨by rw [← ea]; exact hsp.1, by rw [e1]; exact hsp.2.1, by rw [e2]; exact hsp.2.2.1⟩
    · simp only [dif_pos hi]
      exact (each i hi).choose_spec.choose_spec.choose_spec.2.2.2
end Go.Proofs.Ytikopeihkbpjhas

/-
  What the law's own helpers over values come to.
-/
namespace Go.Proofs.Ytikopeihkbpjhas
open Go.RowKit
set_option maxRecDepth 4000

set_option maxHeartbeats 1000000 in
theorem szVal_small (k n : Int) (s : ByteArray) (left : Int) (w : World) (h : (s.size : Int) ≤ left) (hl : left ≤ 1048576) :
    Calls Try.prog 25 #[.agg #[.int .i64 k, .int .i64 n, .string s], .int .i64 left] w fun e w' => e = .returned (.int .i64 (left - s.size)) ∧ Below w.heap.size w w' := by
  have h1 : ¬ left - (s.size : Int) < 0 := by omega
  go_enter Try.func25, Try.ntmps25
  go_wp2
  go_ret
  exact ⟨rfl, (Below.refl _ _).alloc (Nat.le_refl _) _⟩

set_option maxHeartbeats 1000000 in
theorem szVal_big (k n : Int) (s : ByteArray) (left : Int) (w : World) (h : left < (s.size : Int)) (h0 : 0 ≤ left) (hs : s.size ≤ maxLen) :
    Calls Try.prog 25 #[.agg #[.int .i64 k, .int .i64 n, .string s], .int .i64 left] w fun e w' => e = .returned (.int .i64 (-1)) ∧ Below w.heap.size w w' := by
  have h1 : left - (s.size : Int) < 0 := by omega
  have hs : (s.size : Int) ≤ 9223372036854775807 := by unfold maxLen at hs; omega
  go_enter Try.func25, Try.ntmps25
  go_wp2
  go_ret
  exact ⟨rfl, (Below.refl _ _).alloc (Nat.le_refl _) _⟩

set_option maxHeartbeats 1000000 in
theorem toVal_any (k n : Int) (s : ByteArray) (w : World) :
    Calls Try.prog 29 #[.agg #[.int .i64 k, .int .i64 n, .string s]] w fun e w' => e = .returned (.agg #[.int .i64 k, .int .i64 n, .string s]) ∧ Below w.heap.size w w' := by
  go_enter Try.func29, Try.ntmps29
  go_wp2
  refine bodyPost_ret (v := valAgg k n s) (by simp [results, Try.results29, go_sem, valAgg]) rfl ⟨rfl, ?_⟩
  repeat (first | exact Below.refl _ _ | refine Below.alloc ?_ (by simp <;> omega) _ | refine Below.drew ?_)
end Go.Proofs.Ytikopeihkbpjhas

/-
  A row of values copied into a new one, as the law does it.
-/
namespace Go.Proofs.Ytikopeihkbpjhas
open Go.RowKit
set_option maxRecDepth 4000

def cellF (fk fn : Nat → Int) (fs : Nat → ByteArray) (j : Nat) : Value := if j % 3 = 0 then .int .i64 (fk (j / 3)) else if j % 3 = 1 then .int .i64 (fn (j / 3)) else .string (fs (j / 3))
def zeroF (j : Nat) : Value := if j % 3 = 0 then .int .i64 0 else if j % 3 = 1 then .int .i64 0 else .string ⟨#[]⟩

theorem Try.infoVal : (Try.prog.info? 52).map (fun i => (i.zero, i.size, i.bytes)) = some (some (.agg #[.int .i64 0, .int .i64 0, .string ⟨#[]⟩]), 3, 32) := by kernel_rfl

theorem make_vals (n : Nat) (h : n ≤ 1048576) (w : World) : (Instr.makeSlice 29 (.int .i64 (n : Int)) (.int .i64 (n : Int))).run Try.prog w = .ok (.slice (some ⟨w.heap.size, 0, none⟩) n n) (w.alloc (.cells (madeCells #[.int .i64 0, .int .i64 0, .string ⟨#[]⟩] (n * 3)) 52)) := by
  obtain ⟨i, hi, hzz⟩ := Option.map_eq_some_iff.1 Try.infoVal
  simp only [Prod.mk.injEq] at hzz
  obtain ⟨hz, hs, hb⟩ := hzz
  have hr := run_make (P := Try.prog) w 29 52 i _ Try.underlying29 hi hz .i64 .i64 n n (by omega) (Int.le_refl _) (by rw [hb]; omega) (by omega)
  simp only [Int.toNat_natCast, hs] at hr
  exact hr

/-- k of the n values are copied into the new row. -/
structure CopiedV (w wr : World) (n : Nat) (fk fn : Nat → Int) (fs : Nat → ByteArray) (k : Nat) : Prop where
  below : Below w.heap.size w wr
  size : w.heap.size < wr.heap.size
  row : wr.rowIs w.heap.size 52 (n * 3) (fun j => if j < k * 3 then cellF fk fn fs j else zeroF j)

theorem copiedV_start (w : World) (n : Nat) (fk fn : Nat → Int) (fs : Nat → ByteArray) : CopiedV w (w.alloc (.cells (madeCells #[.int .i64 0, .int .i64 0, .string ⟨#[]⟩] (n * 3)) 52)) n fk fn fs 0 := by
  have hr := World.rowIs_alloc w (madeCells #[.int .i64 0, .int .i64 0, .string ⟨#[]⟩] (n * 3)) 52 zeroF (fun i hi => by
    rw [size_madeCells] at hi
    simp [madeCells, hi, zeroF]
    have h3 : i % 3 = 0 ∨ i % 3 = 1 ∨ i % 3 = 2 := by omega
    rcases h3 with h | h | h <;> simp [h])
  rw [size_madeCells] at hr
  exact ⟨(Below.refl _ _).alloc (Nat.le_refl _) _, by simp, hr.congr (fun i _ => by simp)⟩

theorem rowIs_below {w w' : World} {b : Nat} {t : TypeId} {m : Nat} {f : Nat → Value} (h : w.rowIs b t m f) (hb : Below w.heap.size w w') (hlt : b < w.heap.size) : w'.rowIs b t m f := by
  obtain ⟨c, h1, h2, h3⟩ := h
  exact ⟨c, by rw [hb.block b hlt]; exact h1, h2, h3⟩

theorem CopiedV.step {w wr w2 : World} {n : Nat} {fk fn : Nat → Int} {fs : Nat → ByteArray} {k : Nat} (h : CopiedV w wr n fk fn fs k) (hb : Below wr.heap.size wr w2) : CopiedV w w2 n fk fn fs k :=
  ⟨h.below.trans (hb.mono h.below.size), Nat.lt_of_lt_of_le h.size hb.size, rowIs_below h.row hb h.size⟩

theorem CopiedV.put {w wr : World} {n : Nat} {fk fn : Nat → Int} {fs : Nat → ByteArray} {k : Nat} (h : CopiedV w wr n fk fn fs k) :
    CopiedV w (((wr.setCell ⟨w.heap.size, k * 3, none⟩ (.int .i64 (fk k))).setCell ⟨w.heap.size, k * 3 + 1, none⟩ (.int .i64 (fn k))).setCell ⟨w.heap.size, k * 3 + 2, none⟩ (.string (fs k))) n fk fn fs (k + 1) := by
  refine ⟨((h.below.setCell (Nat.le_refl _) _).setCell (Nat.le_refl _) _).setCell (Nat.le_refl _) _, by simpa using h.size, ((((h.row.set _ _).set _ _).set _ _).congr (fun i _ => ?_))⟩
  by_cases e2 : i = k * 3 + 2
  · subst e2
    have : (k * 3 + 2) % 3 = 2 := by omega
    have d : (k * 3 + 2) / 3 = k := by omega
    simp [cellF, this, d, show k * 3 + 2 < (k + 1) * 3 by omega]
  by_cases e1 : i = k * 3 + 1
  · subst e1
    have : (k * 3 + 1) % 3 = 1 := by omega
    have d : (k * 3 + 1) / 3 = k := by omega
    simp [cellF, this, d, show k * 3 + 1 < (k + 1) * 3 by omega]
  by_cases e0 : i = k * 3
  · subst e0
    have : (k * 3) % 3 = 0 := by omega
    have d : (k * 3) / 3 = k := by omega
    simp [cellF, this, d, show k * 3 < (k + 1) * 3 by omega]
  · simp only [e0, e1, e2, if_false]
    by_cases hlt : i < k * 3
    · rw [if_pos hlt, if_pos (by omega)]
    · rw [if_neg hlt, if_neg (by omega)]

theorem CopiedV.view {w wr : World} {n : Nat} {fk fn : Nat → Int} {fs : Nat → ByteArray} (h : CopiedV w wr n fk fn fs n) : VView wr (some ⟨w.heap.size, 0, none⟩) n n fk fn fs := by
  refine ⟨Nat.le_refl _, fun _ => ⟨_, 0, rfl, h.size, fun i hi => ?_⟩⟩
  have c0 := h.row.cell (i := i * 3) (by omega)
  have c1 := h.row.cell (i := i * 3 + 1) (by omega)
  have c2 := h.row.cell (i := i * 3 + 2) (by omega)
  simp only [show i * 3 < n * 3 by omega, show i * 3 + 1 < n * 3 by omega, show i * 3 + 2 < n * 3 by omega, if_true, cellF] at c0 c1 c2
  have m0 : (i * 3) % 3 = 0 := by omega
  have m1 : (i * 3 + 1) % 3 = 1 := by omega
  have m2 : (i * 3 + 2) % 3 = 2 := by omega
  have d0 : (i * 3) / 3 = i := by omega
  have d1 : (i * 3 + 1) / 3 = i := by omega
  have d2 : (i * 3 + 2) / 3 = i := by omega
  simp only [m0, m1, m2, d0, d1, d2] at c0 c1 c2
  rw [Nat.zero_add]
  exact ⟨by simpa using c0, by simpa using c1, by simpa using c2⟩

set_option maxHeartbeats 2000000 in
theorem toValS_row (a : Option Addr) (n cap : Nat) (fk fn : Nat → Int) (fs : Nat → ByteArray) (w : World) (h : VView w a n cap fk fn fs) (hn : n ≤ 1048576) :
    Calls Try.prog 10 #[.slice a n cap] w fun e w' => e = .returned (.slice (some ⟨w.heap.size, 0, none⟩) n n) ∧ CopiedV w w' n fk fn fs n := by
  have hmk := fun W => make_vals n hn W
  go_enter Try.func10, Try.ntmps10
  go_wp2
  clear hmk
  go_loopg [4] n (fun q i wr => ∃ k : Nat, k ≤ n ∧ q = n - k ∧ i = .int .i64 k ∧ CopiedV w wr n fk fn fs k)
  case atStart => exact ⟨0, Nat.zero_le _, rfl, rfl, copiedV_start w n fk fn fs⟩
  case round =>
    obtain ⟨k, hk, rfl, rfl, hC⟩ := hrel
    by_cases hlt : k < n
    · obtain ⟨b1, o1, rfl, hb1, hc1⟩ := (h.below hC.below).cells (by omega)
      obtain ⟨x0, x1, x2⟩ := hc1 k hlt
      have hkz : (k : Int) < (n : Int) := by omega
      have hV := fun W => toVal_any (fk k) (fn k) (fs k) W
      go_wp2_with fail
      refine (hV _).mono ?_
      rintro e w2 ⟨rfl, hB2⟩
      have hC2 := hC.step hB2
      have hS : Hid _ := hC2.put
      have z0 := hC2.row.cell (i := k * 3) (by omega)
      have z1 := hC2.row.cell (i := k * 3 + 1) (by omega)
      have z2 := hC2.row.cell (i := k * 3 + 2) (by omega)
      have f0 := hC2.row.frozen (k * 3)
      have f1 := hC2.row.frozen (k * 3 + 1)
      have f2 := hC2.row.frozen (k * 3 + 2)
      clear hc1 hC hC2 hB2 hV x0 x1 x2 h
      go_wp2
      go_roundg (n - (k + 1))
      case measure => omega
      case rel => exact ⟨k + 1, by omega, rfl, by go_num, hS.out⟩
    · have hkn : k = n := by omega
      have hkz : ¬ (k : Int) < (n : Int) := by omega
      rw [hkn] at hC
      have hS : Hid (CopiedV w wr n fk fn fs n) := hC
      clear hC
      go_wp2
      go_ret
      exact ⟨rfl, hS.out⟩

theorem toValS_any (a : Option Addr) (n cap : Nat) (fk fn : Nat → Int) (fs : Nat → ByteArray) (w : World) (h : VView w a n cap fk fn fs) (hn : n ≤ 1048576) :
    Calls Try.prog 10 #[.slice a n cap] w fun e w' => e = .returned (.slice (some ⟨w.heap.size, 0, none⟩) n n) ∧ VView w' (some ⟨w.heap.size, 0, none⟩) n n fk fn fs ∧ Below w.heap.size w w' :=
  (toValS_row a n cap fk fn fs w h hn).mono (fun _ _ h => ⟨h.1, h.2.view, h.2.below⟩)
end Go.Proofs.Ytikopeihkbpjhas

/-
  Rows of values of the call's own: how they read, how they are carried.
-/
namespace Go.Proofs.Ytikopeihkbpjhas
open Go.RowKit
set_option maxRecDepth 4000

theorem RowV.belowAll {w w' : World} {b n : Nat} {F : Nat → Value} (h : RowV w b n F) (hb : Below w.heap.size w w') : RowV w' b n F := h.of_block (hb.block b h.lt)
theorem RowV.but {w w' : World} {g b n : Nat} {F : Nat → Value} (h : RowV w b n F) (hb : But g w w') (hne : b ≠ g) : RowV w' b n F := h.of_block (hb.block b h.lt hne)
theorem RowV.vview {w : World} {b n c : Nat} {gk gn : Nat → Int} {gs : Nat → ByteArray} (h : RowV w b n (fun i => (rowC gk gn gs n).getD i .nilFunc)) (hc : n ≤ c) : VView w (some ⟨b, 0, none⟩) n c gk gn gs := by
  refine ⟨hc, fun _ => ⟨b, 0, rfl, h.lt, fun i hi => ?_⟩⟩
  have c0 := h.cell (i := i * 3) (by omega)
  have c1 := h.cell (i := i * 3 + 1) (by omega)
  have c2 := h.cell (i := i * 3 + 2) (by omega)
  obtain ⟨g0, g1, g2⟩ := rowC_get gk gn gs n i hi
  simp only [List.getD, g0, g1, g2, Option.getD_some] at c0 c1 c2
  simp only [Nat.zero_add]
  exact ⟨c0, c1, c2⟩
theorem RowV.ofIs {w : World} {b n : Nat} {F : Nat → Value} (h : w.rowIs b 52 (n * 3) F) : RowV w b n F := by
  obtain ⟨c, hb, hn, hc⟩ := h
  exact ⟨c, hb, by omega, hc⟩
end Go.Proofs.Ytikopeihkbpjhas

/-
  What the law's own helper eqVal comes to, at the same value twice.
-/
namespace Go.Proofs.Ytikopeihkbpjhas
open Go.RowKit
set_option maxRecDepth 4000

set_option maxHeartbeats 1000000 in
theorem eqVal_same (k n : Int) (s : ByteArray) (w : World) :
    Calls Try.prog 33 #[.agg #[.int .i64 k, .int .i64 n, .string s], .agg #[.int .i64 k, .int .i64 n, .string s]] w fun e w' => e = .returned (.bool true) ∧ Below w.heap.size w w' := by
  have e1 : (k != k) = false := by simp
  have e2 : (n != n) = false := by simp
  go_enter Try.func33, Try.ntmps33
  go_wp2
  go_ret
  refine ⟨rfl, ?_⟩
  repeat (first | exact Below.refl _ _ | refine Below.alloc ?_ (by simp <;> omega) _ | refine Below.drew ?_)
end Go.Proofs.Ytikopeihkbpjhas

/-
  Two rows of values that read alike are alike, as the law holds them against each other.
-/
namespace Go.Proofs.Ytikopeihkbpjhas
open Go.RowKit
set_option maxRecDepth 4000

set_option maxHeartbeats 2000000 in
theorem eqValS_same (a1 a2 : Option Addr) (n c1 c2 : Nat) (fk fn : Nat → Int) (fs : Nat → ByteArray) (w : World) (h1 : VView w a1 n c1 fk fn fs) (h2 : VView w a2 n c2 fk fn fs) (hn : n ≤ 281474976710656) :
    Calls Try.prog 13 #[.slice a1 n c1, .slice a2 n c2] w fun e w' => e = .returned (.bool true) ∧ Below w.heap.size w w' := by
  go_enter Try.func13, Try.ntmps13
  go_wp2
  go_loopg [5] n (fun q i wr => ∃ k : Nat, k ≤ n ∧ q = n - k ∧ i = .int .i64 k ∧ Below w.heap.size w wr)
  case atStart => exact ⟨0, Nat.zero_le _, rfl, rfl, Below.refl _ _⟩
  case round =>
    obtain ⟨k, hk, rfl, rfl, hB⟩ := hrel
    by_cases hlt : k < n
    · obtain ⟨b1, o1, rfl, hb1, hc1⟩ := (h1.below hB).cells (by omega)
      obtain ⟨b2, o2, rfl, hb2, hc2⟩ := (h2.below hB).cells (by omega)
      obtain ⟨x0, x1, x2⟩ := hc1 k hlt
      obtain ⟨y0, y1, y2⟩ := hc2 k hlt
      have hkz : (k : Int) < (n : Int) := by omega
      have hV := fun W => eqVal_same (fk k) (fn k) (fs k) W
      clear hc1 hc2 h1 h2
      generalize fk k = p0 at *
      generalize fn k = p1 at *
      generalize fs k = p2 at *
      go_wp2_with fail
      go_region_held3 (fun W => (W.cell? ⟨b1, o1 + k * 3, none⟩ = some (.int .i64 p0) ∧ W.cell? ⟨b1, o1 + k * 3 + 1, none⟩ = some (.int .i64 p1) ∧ W.cell? ⟨b1, o1 + k * 3 + 2, none⟩ = some (.string p2)) ∧ (W.cell? ⟨b2, o2 + k * 3, none⟩ = some (.int .i64 p0) ∧ W.cell? ⟨b2, o2 + k * 3 + 1, none⟩ = some (.int .i64 p1) ∧ W.cell? ⟨b2, o2 + k * 3 + 2, none⟩ = some (.string p2))) (first | assumption | go_keep) (first | (go_at_call 33; refine (hV _).mono ?_; rintro e w2 ⟨rfl, hB2⟩; have hcells : (w2.cell? ⟨b1, o1 + k * 3, none⟩ = some (.int .i64 p0) ∧ w2.cell? ⟨b1, o1 + k * 3 + 1, none⟩ = some (.int .i64 p1) ∧ w2.cell? ⟨b1, o1 + k * 3 + 2, none⟩ = some (.string p2)) ∧ (w2.cell? ⟨b2, o2 + k * 3, none⟩ = some (.int .i64 p0) ∧ w2.cell? ⟨b2, o2 + k * 3 + 1, none⟩ = some (.int .i64 p1) ∧ w2.cell? ⟨b2, o2 + k * 3 + 2, none⟩ = some (.string p2)) := (by (refine ⟨⟨?_, ?_, ?_⟩, ?_, ?_, ?_⟩ <;> (rw [hB2.cell (by first | exact hb1 | exact hb2)]; assumption)))))
      all_goals
        have hB3 : Hid (Below w.heap.size w w2) := hB.trans (Below.trans (by repeat (first | exact Below.refl _ _ | refine Below.drew ?_)) (hB2.mono (by have := hB.size; exact this)))
        go_wp2
        go_roundg (n - (k + 1))
        case measure => omega
        case rel => exact ⟨k + 1, by omega, rfl, by go_num, by first | exact hB3.out | exact hB3.out.drew⟩
    · go_wp2
      go_ret
      exact ⟨rfl, hB⟩
end Go.Proofs.Ytikopeihkbpjhas

/-
  A row of bytes is carried where one other block turns.
-/
namespace Go.Proofs.Ytikopeihkbpjhas
open Go.RowKit
set_option maxRecDepth 4000
theorem Row.but {t : TypeId} {w w' : World} {g b n : Nat} {f : Nat → Int} (hr : Row t w b n f) (h : But g w w') (hne : b ≠ g) : Row t w' b n f := h.row hr hne
end Go.Proofs.Ytikopeihkbpjhas

/-
  Two lists of parts that read alike are alike, as the law holds them against each other.
-/
namespace Go.Proofs.Ytikopeihkbpjhas
open Go.RowKit
set_option maxRecDepth 4000

set_option maxHeartbeats 1000000 in
theorem eqPart_same (c t : Int) (nul d : Bool) (w : World) :
    Calls Try.prog 32 #[.agg #[.int .i64 c, .int .i64 t, .bool nul, .bool d], .agg #[.int .i64 c, .int .i64 t, .bool nul, .bool d]] w fun e w' => e = .returned (.bool true) ∧ Below w.heap.size w w' := by
  have q1 : (c != c) = false := by simp
  have q2 : (t != t) = false := by simp
  have q3 : (nul != nul) = false := by cases nul <;> rfl
  have q4 : (d != d) = false := by cases d <;> rfl
  have hb : ∀ o o', Below w.heap.size w ((w.alloc o).alloc o') := fun o o' => ((Below.refl _ _).alloc (Nat.le_refl _) _).alloc (by simp) _
  go_enter Try.func32, Try.ntmps32
  go_wp2
  go_ret
  exact ⟨rfl, hb _ _⟩

set_option maxHeartbeats 2000000 in
theorem eqPartS_same (a1 a2 : Option Addr) (n c1 c2 : Nat) (fc ft : Nat → Int) (fu fd : Nat → Bool) (w : World) (h1 : PView w a1 n c1 fc ft fu fd) (h2 : PView w a2 n c2 fc ft fu fd) (hn : n ≤ 1048576) :
    Calls Try.prog 12 #[.slice a1 n c1, .slice a2 n c2] w fun e w' => e = .returned (.bool true) ∧ Below w.heap.size w w' := by
  have hnn : ((n : Int) != (n : Int)) = false := by simp
  have hc1 := h1.le
  have hc2 := h2.le
  go_enter Try.func12, Try.ntmps12
  go_wp2
  go_loopg [5] n (fun q i wr => ∃ k : Nat, k ≤ n ∧ q = n - k ∧ i = .int .i64 k ∧ Below w.heap.size w wr)
  case atStart => exact ⟨0, Nat.zero_le _, rfl, rfl, Below.refl _ _⟩
  case round =>
    obtain ⟨k, hk, rfl, rfl, hB⟩ := hrel
    by_cases hlt : k < n
    · obtain ⟨b1, o1, rfl, hb1, hd1⟩ := (h1.below hB).cells (by omega)
      obtain ⟨b2, o2, rfl, hb2, hd2⟩ := (h2.below hB).cells (by omega)
      obtain ⟨x0, x1, x2, x3⟩ := hd1 k hlt
      obtain ⟨y0, y1, y2, y3⟩ := hd2 k hlt
      have hkz : (k : Int) < (n : Int) := by omega
      clear hd1 hd2 h1 h2
      generalize fc k = p0 at *
      generalize ft k = p1 at *
      generalize fu k = p2 at *
      generalize fd k = p3 at *
      have hV := fun W => eqPart_same p0 p1 p2 p3 W
      go_wp2_with fail
      go_region_held3 (fun W => (W.cell? ⟨b1, o1 + k * 4, none⟩ = some (.int .i64 p0) ∧ W.cell? ⟨b1, o1 + k * 4 + 1, none⟩ = some (.int .i64 p1) ∧ W.cell? ⟨b1, o1 + k * 4 + 2, none⟩ = some (.bool p2) ∧ W.cell? ⟨b1, o1 + k * 4 + 3, none⟩ = some (.bool p3)) ∧ (W.cell? ⟨b2, o2 + k * 4, none⟩ = some (.int .i64 p0) ∧ W.cell? ⟨b2, o2 + k * 4 + 1, none⟩ = some (.int .i64 p1) ∧ W.cell? ⟨b2, o2 + k * 4 + 2, none⟩ = some (.bool p2) ∧ W.cell? ⟨b2, o2 + k * 4 + 3, none⟩ = some (.bool p3))) (first | assumption | go_keep) (first | (go_at_call 32; refine (hV _).mono ?_; rintro e w2 ⟨rfl, hB2⟩; have hcells : (w2.cell? ⟨b1, o1 + k * 4, none⟩ = some (.int .i64 p0) ∧ w2.cell? ⟨b1, o1 + k * 4 + 1, none⟩ = some (.int .i64 p1) ∧ w2.cell? ⟨b1, o1 + k * 4 + 2, none⟩ = some (.bool p2) ∧ w2.cell? ⟨b1, o1 + k * 4 + 3, none⟩ = some (.bool p3)) ∧ (w2.cell? ⟨b2, o2 + k * 4, none⟩ = some (.int .i64 p0) ∧ w2.cell? ⟨b2, o2 + k * 4 + 1, none⟩ = some (.int .i64 p1) ∧ w2.cell? ⟨b2, o2 + k * 4 + 2, none⟩ = some (.bool p2) ∧ w2.cell? ⟨b2, o2 + k * 4 + 3, none⟩ = some (.bool p3)) := (by (refine ⟨⟨?_, ?_, ?_, ?_⟩, ?_, ?_, ?_, ?_⟩ <;> (rw [hB2.cell (by first | exact hb1 | exact hb2)]; assumption)))))
      all_goals
        have hB3 : Hid (Below w.heap.size w w2) := hB.trans (Below.trans (by repeat (first | exact Below.refl _ _ | refine Below.drew ?_)) (hB2.mono (by have := hB.size; exact this)))
        go_wp2
        go_roundg (n - (k + 1))
        case measure => omega
        case rel => exact ⟨k + 1, by omega, rfl, by go_num, by first | exact hB3.out | exact hB3.out.drew⟩
    · have hkz : ¬ (k : Int) < (n : Int) := by omega
      go_wp2
      go_ret
      exact ⟨rfl, hB⟩
end Go.Proofs.Ytikopeihkbpjhas

