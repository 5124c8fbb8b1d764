/-
  Together: RowEncImpl, RowDecImpl, RowEq, SameImpl, RowImpl, RowSelf, Big, At, LawRowBytes
-/
import Derived.Test.YtikopeihkbpjhacPack7
import Derived.Test.YtikopeihkbpjhacPack6
import Derived.Test.YtikopeihkbpjhacPack5
import Derived.Test.YtikopeihkbpjhacPack1
import Derived.Test.YtikopeihkbpjhacPack3
import Derived.Deep.LoopGhost
import Derived.Test.YtikopeihkbpjhacPack4
/-
  The program's EncodeRow: its values one behind the other, and a sum.
-/
namespace Go.Proofs.Ytikopeihkbpjhac
open Go.RowKit
set_option maxRecDepth 4000

set_option linter.unusedSimpArgs false in
set_option maxHeartbeats 2000000 in
theorem implEncodeRow_any (a : Option Addr) (n cap : Nat) (fc ft : Nat → Int) (fu fd : Nat → Bool) (a2 : Option Addr) (m cap2 : Nat) (fk fn : Nat → Int) (fs : Nat → ByteArray) (w : World) (h : PView w a n cap fc ft fu fd) (h2 : VView w a2 m cap2 fk fn fs) (hn : n ≤ 281474976710656) (hm : m ≤ 281474976710656) :
    Calls Try.prog 42 #[.slice a n cap, .slice a2 m cap2] w fun e w' => ∃ g cg, e = .returned (.slice (some ⟨g, 0, none⟩) (encB n fc ft fu m fk fn fs).length cg) ∧ EncTo w w' g cg (encB n fc ft fu m fk fn fs) := by
  go_enter Try.func42, Try.ntmps42
  go_wp2_with fail
  refine (implRowOk_any a n cap fc ft fu fd a2 m cap2 fk fn fs w h h2 hn hm).mono ?_
  cases hok : rowOk n fc ft fu m fk fn fs with
  | false =>
    have HE : Hid (encB n fc ft fu m fk fn fs = []) := by show _ = _; unfold encB; rw [hok]; rfl
    rintro e w1 ⟨rfl, hb⟩
    have HT : Hid (EncTo w (w1.alloc (.cells #[] 5)) w1.heap.size 0 []) := ⟨Row.none w1 _ _, hb.size, Nat.le_refl _, hb.alloc hb.size _⟩
    clear h h2 hb
    go_wp2
    go_ret
    refine ⟨_, 0, by rw [HE.out]; rfl, ?_⟩
    rw [HE.out]; exact HT.out
  | true =>
    have HE : Hid (encB n fc ft fu m fk fn fs = sumB (rowB m fk fn fs)) := by show _ = _; unfold encB; rw [hok]; rfl
    have hrk := hok
    unfold rowOk at hrk
    simp only [Bool.and_eq_true, decide_eq_true_eq] at hrk
    obtain ⟨hpk, hmn, hfa⟩ := hrk
    obtain ⟨-, hfit⟩ := fitsAll_iff.1 hfa
    have hm6 : m ≤ 6 := by have := (planOk_iff.1 hpk).2; omega
    have HOK : Hid (∀ i, i < m → okF (fk i) (fn i) (fs i) = true) := fun i hi => by have := hfit i hi; unfold fitsP at this; simp only [Bool.and_eq_true] at this; exact this.1
    rintro e w1 ⟨rfl, hb⟩
    clear hpk hfa hfit hok hmn h
    have hC := putU_encNil w w1 (m : Int) hb (by omega) (by omega)
    clear hb
    obtain ⟨vb, hvb⟩ : ∃ vb : Nat → List Int, Hid (vb = fun i => valB (fk i) (fn i) (fs i)) := ⟨_, rfl⟩
    have HRB : Hid (rowB m fk fn fs = groups (clampN m) ++ keyT vb m) := by show _ = _; rw [hvb.out]; rfl
    obtain ⟨G0, hG0⟩ : ∃ G0, Hid (groups (clampN (m : Int)) = G0) := ⟨_, rfl⟩
    have HB : Hid (∀ k, ∀ y ∈ G0 ++ keyT vb k, 0 ≤ y ∧ y ≤ 255) := fun k y hy => by
      rcases List.mem_append.1 hy with hy | hy
      · rw [← hG0.out] at hy; exact groups_byte _ (clampN_bd _).1 (clampN_bd _).2 y hy
      · rw [hvb.out] at hy; exact keyT_byte (fun i _ => valB_byte _ _ _) y hy
    have HLn : Hid (∀ k, k ≤ m → (G0 ++ keyT vb k).length ≤ 1000) := fun k hk => by
      have h1 : (keyT vb k).length ≤ k * 69 := keyT_len (fun i hi => by
        rw [hvb.out]
        have h3 := valB_len (fk i) (fn i) (fs i)
        have h4 := okF_few (HOK.out i (by omega))
        show (valB (fk i) (fn i) (fs i)).length ≤ 69
        omega)
      have h2 := (groups_len (clampN (m : Int))).2
      rw [hG0.out] at h2
      rw [List.length_append]
      omega
    rw [hG0.out] at hC HRB
    go_wp2_with fail
    refine hC.mono ?_
    rintro e w2 ⟨g, c, rfl, hE, hB2⟩
    clear hC hB2
    go_wp2
    go_loopg [5, 18] m (fun q v i wr => ∃ (k g c : Nat), k ≤ m ∧ q = m - k ∧ v = .slice (some ⟨g, 0, none⟩) (G0 ++ keyT vb k).length c ∧ i = .int .i64 k ∧ EncTo w wr g c (G0 ++ keyT vb k))
    case atStart => exact ⟨0, g, c, Nat.zero_le _, rfl, by simp [keyT], rfl, by simpa [keyT] using hE⟩
    case round =>
      clear hE
      obtain ⟨k, g3, c3, hk, rfl, rfl, rfl, hE⟩ := hrel
      by_cases hlt : k < m
      · have hkz : (k : Int) < (m : Int) := by omega
        obtain ⟨b2, o2, rfl, hb2, hd2⟩ := (h2.below hE.below).cells (by omega)
        obtain ⟨x0, x1, x2⟩ := hd2 k hlt
        have hok := HOK.out k hlt
        have hvk : Hid (keyT vb (k + 1) = keyT vb k ++ valB (fk k) (fn k) (fs k)) := by show _ = _; rw [keyT, hvb.out]
        have hby := HB.out k
        have hln := HLn.out k hk
        obtain ⟨L, hL⟩ : ∃ L, Hid (G0 ++ keyT vb k = L) := ⟨_, rfl⟩
        rw [hL.out] at hE hby hln ⊢
        obtain ⟨q0, hq0⟩ : ∃ p, fk k = p := ⟨_, rfl⟩
        obtain ⟨q1, hq1⟩ : ∃ p, fn k = p := ⟨_, rfl⟩
        obtain ⟨q2, hq2⟩ : ∃ p, fs k = p := ⟨_, rfl⟩
        rw [hq0] at x0 hok hvk
        rw [hq1] at x1 hok hvk
        rw [hq2] at x2 hok hvk
        clear hd2 hq0 hq1 hq2
        have HL2 : Hid (G0 ++ keyT vb (k + 1) = L ++ valB q0 q1 q2) := by show _ = _; rw [hvk.out, ← List.append_assoc, hL.out]
        clear hvk
        have hbw : Below wr.heap.size wr (wr.alloc (.cells #[.int .i64 q0, .int .i64 q1, .string q2] 29)) := (Below.refl _ _).alloc (Nat.le_refl _) _
        have hE2 : EncTo w (wr.alloc (.cells #[.int .i64 q0, .int .i64 q1, .string q2] 29)) g3 c3 L := ⟨hE.row.belowAll hbw, hE.new, hE.le, hE.below.trans (hbw.mono hE.below.size)⟩
        have hC := putRowVal_any w _ g3 c3 L q0 q1 q2 hE2 hby hln hok
        rw [← HL2.out] at hC
        obtain ⟨L5, hL5⟩ : ∃ L5, Hid (G0 ++ keyT vb (k + 1) = L5) := ⟨_, rfl⟩
        rw [hL5.out] at hC
        clear hE hE2 hbw hby hok HL2
        go_wp2_with fail
        clear x0 x1 x2
        refine hC.mono ?_
        rintro e w5 ⟨g5, c5, rfl, hE5, -⟩
        have HN : Hid (EncTo w w5 g5 c5 L5) := hE5
        clear hE5 hC
        go_wp2
        go_roundg (m - (k + 1))
        case measure => omega
        case rel => exact ⟨k + 1, g5, c5, by omega, rfl, by rw [hL5.out], by go_num, by rw [hL5.out]; exact HN.out⟩
      · have hkz : ¬ (k : Int) < (m : Int) := by omega
        obtain rfl : k = m := by omega
        have hC := putSum_encI w wr g3 c3 _ hE (HB.out k) (by have := HLn.out k hk; omega)
        obtain ⟨L, hL⟩ : ∃ L, Hid (G0 ++ keyT vb k = L) := ⟨_, rfl⟩
        rw [hL.out] at hC HRB ⊢
        clear hE h2
        go_wp2_with fail
        refine hC.mono ?_
        rintro e w4 ⟨g4, c4, rfl, hE4⟩
        have HE4 : Hid (EncTo w w4 g4 c4 (sumB L)) := hE4
        clear hE4 hC
        go_wp2
        go_ret
        refine ⟨g4, c4, by rw [HE.out, HRB.out]; rfl, ?_⟩
        rw [HE.out, HRB.out]; exact HE4.out
end Go.Proofs.Ytikopeihkbpjhac

/-
  The program's DecodeRow: the values of a row, in a row of its own.
-/
namespace Go.Proofs.Ytikopeihkbpjhac
open Go.RowKit
set_option maxRecDepth 4000

theorem getSum_impl_is (N : Nat) (F : Nat → Int) (hN : N ≤ 1048576) (hb : ∀ i, i < N → 0 ≤ F i ∧ F i ≤ 255) : Gives 85 N F (sumN N F) (sumGood N F) := by
  by_cases h4 : N < 4
  · have e : sumGood N F = false := by unfold sumGood; simp; omega
    have e2 : sumN N F = 0 := by unfold sumN; rw [e]; rfl
    rw [e, e2]
    exact getSum_impl_few N F h4
  · obtain ⟨m, rfl⟩ : ∃ m, N = m + 4 := ⟨N - 4, by omega⟩
    by_cases hc : last4 m F = (crc m F : Int)
    · have e : sumGood (m + 4) F = true := by unfold sumGood; simp [hc]
      have e2 : sumN (m + 4) F = m := by unfold sumN; rw [e]; simp
      rw [e, e2]
      exact getSum_impl_yes m F hN hb hc
    · have e : sumGood (m + 4) F = false := by unfold sumGood; simp [hc]
      have e2 : sumN (m + 4) F = 0 := by unfold sumN; rw [e]; rfl
      rw [e, e2]
      exact getSum_impl_no m F hN hb hc

set_option linter.unusedSimpArgs false in
set_option maxHeartbeats 2000000 in
theorem implDecodeRow_any (a : Option Addr) (n cap : Nat) (fc ft : Nat → Int) (fu fd : Nat → Bool) (b N cb : Nat) (F : Nat → Int) (w : World) (h : PView w a n cap fc ft fu fd) (hv : View w (some ⟨b, 0, none⟩) N cb F) (hn : n ≤ 281474976710656) (hN : N ≤ 1048576) :
    Calls Try.prog 45 #[.slice a n cap, .slice (some ⟨b, 0, none⟩) N cb] w (DecsR w n N F fc ft fu) := by
  obtain ⟨i0, hi, hz0, hz1, hz2⟩ := infoVal3
  have Hnone : Hid (∀ (W : World), Below w.heap.size w W → decROk N F n fc ft fu = false → DecsR w n N F fc ft fu (.returned (.tuple #[.slice (some ⟨W.heap.size, 0, none⟩) 0 0, .bool false])) (W.alloc (.cells #[] 29))) := fun W hB e =>
    ⟨_, 0, by rw [e], by simp, by rw [e]; rfl, World.ownsRow_lit (base := w.heap.size) (e := 29) (size := 3) W #[] 0 hB.size (Nat.zero_le _) rfl, hB.alloc hB.size _⟩
  have hS := getSum_impl_is N F hN hv.byte b cb w hv
  have hFb : Hid (∀ i, i < N → 0 ≤ F i ∧ F i ≤ 255) := hv.byte
  cases hg : sumGood N F with
  | false =>
    have e0 : sumN N F = 0 := by unfold sumN; rw [hg]; rfl
    have HD : Hid (decROk N F n fc ft fu = false) := by show _ = _; unfold decROk; rw [hg]; rfl
    rw [hg, e0] at hS
    clear hv
    go_enter Try.func45, Try.ntmps45
    go_wp2_with fail
    refine hS.mono ?_
    rintro e w1 ⟨gx, cx, rfl, -, hcx, hx, hB1⟩
    have hvx := hx.view hcx (fun i hi => absurd hi (Nat.not_lt_zero _))
    have hu : Hid (getU 0 F 0 = (0, 0, false)) := getU_past 0 F 0 (Nat.le_refl _)
    clear hS hx
    go_wp2_with fail
    refine (getU_impl' _ 0 cx F 0 w1 hu hvx (by omega) (by omega)).mono ?_
    rintro e _ ⟨rfl, rfl⟩
    have HN' : Hid (DecsR w n N F fc ft fu (.returned (.tuple #[.slice (some ⟨w1.heap.size, 0, none⟩) 0 0, .bool false])) (w1.alloc (.cells #[] 29))) := Hnone.out w1 hB1 HD.out
    clear hvx hu Hnone hB1 h
    go_wp2
    exact bodyPost_ret (v := .tuple #[.slice (some ⟨w1.heap.size, 0, none⟩) 0 0, .bool false]) (by simp [results, Try.results45, go_sem]) rfl HN'.out
  | true =>
    have e0 : sumN N F = N - 4 := by unfold sumN; rw [hg]; rfl
    rw [hg, e0] at hS
    have HG0 : Hid (sumGood N F = true) := hg
    have hN4 : 4 ≤ N := by unfold sumGood at hg; simp at hg; exact hg.1
    obtain ⟨M, hM⟩ : ∃ M, Hid (N - 4 = M) := ⟨_, rfl⟩
    have hMN : M ≤ N := by rw [← hM.out]; omega
    rw [hM.out] at hS
    have HD0 : Hid (decROk N F n fc ft fu = rowRd M F n fc ft fu) := by show _ = _; unfold decROk; rw [hg, hM.out]; rfl
    have hbM : Hid (∀ i, i < M → 0 ≤ F i ∧ F i ≤ 255) := fun i hi => hFb.out i (by omega)
    have HV : Hid (View w (some ⟨b, 0, none⟩) N cb F) := hv
    clear hv hg e0
    obtain ⟨cnt0, p0, ok, hu⟩ : ∃ a q ok, Hid (getU M F 0 = (a, q, ok)) := ⟨_, _, _, rfl⟩
    go_enter Try.func45, Try.ntmps45
    go_wp2_with fail
    refine hS.mono ?_
    rintro e w1 ⟨gx, cx, rfl, hgx, hcx, hx, hB1⟩
    have hvx := hx.view hcx hbM.out
    clear hS
    go_wp2_with fail
    refine (getU_impl' _ M cx F 0 w1 hu hvx (by omega) (by omega)).mono ?_
    rintro e _ ⟨rfl, rfl⟩
    cases ok with
    | false =>
      have HD : Hid (decROk N F n fc ft fu = false) := by show _ = _; rw [HD0.out]; unfold rowRd; rw [hu.out]; rfl
      have HN' : Hid (DecsR w n N F fc ft fu (.returned (.tuple #[.slice (some ⟨w1.heap.size, 0, none⟩) 0 0, .bool false])) (w1.alloc (.cells #[] 29))) := Hnone.out w1 hB1 HD.out
      clear hvx hu Hnone hB1 h hx
      go_wp2
      exact bodyPost_ret (v := .tuple #[.slice (some ⟨w1.heap.size, 0, none⟩) 0 0, .bool false]) (by simp [results, Try.results45, go_sem]) rfl HN'.out
    | true =>
      have hubd := getU_bd hbM.out hu.out
      obtain ⟨CN, rfl⟩ : ∃ CN : Nat, cnt0 = CN := ⟨cnt0.toNat, by omega⟩
      have HC0 : Hid (rCnt M F = CN) := by show _ = _; unfold rCnt; rw [hu.out]; rfl
      by_cases hcn : CN = n
      case neg =>
        have hcz : ¬ (CN : Int) = (n : Int) := by omega
        have HD : Hid (decROk N F n fc ft fu = false) := by
          show _ = _
          rw [HD0.out]
          unfold rowRd rowOk
          rw [HC0.out, decide_eq_false hcn]
          simp
        have HN' : Hid (DecsR w n N F fc ft fu (.returned (.tuple #[.slice (some ⟨w1.heap.size, 0, none⟩) 0 0, .bool false])) (w1.alloc (.cells #[] 29))) := Hnone.out w1 hB1 HD.out
        clear hvx hu Hnone hB1 h hx
        go_wp2
        exact bodyPost_ret (v := .tuple #[.slice (some ⟨w1.heap.size, 0, none⟩) 0 0, .bool false]) (by simp [results, Try.results45, go_sem]) rfl HN'.out
      case pos =>
        subst hcn
        have HC : Hid (rCnt M F = CN) := HC0.out
        have Hu2 : Hid ((getU M F 0).2.2 = true) := by show _ = _; rw [hu.out]
        have HQ0 : Hid (rQ M F 0 = some p0) := by show _ = _; rw [rQ, hu.out]
        have hO0 := World.ownsRow_lit (base := w.heap.size) (e := 29) (size := 3) w1 #[] 0 hB1.size (Nat.zero_le _) rfl
        have hb2 : Below w1.heap.size w1 (w1.alloc (.cells #[] 29)) := (Below.refl _ _).alloc (Nat.le_refl _) _
        have hB2 := hB1.trans (hb2.mono hB1.size)
        have hx2 := hx.belowAll hb2
        clear hvx hb2 hx hu
        obtain ⟨W2, hW2⟩ : ∃ W2, Hid (w1.alloc (.cells #[] 29) = W2) := ⟨_, rfl⟩
        rw [hW2.out] at hO0 hB2 hx2
        have hR := rowReader_any (some ⟨gx, 0, none⟩) M cx p0 W2
        go_wp2_with (rw [hW2.out])
        refine hR.mono ?_
        rintro e _ ⟨rfl, rfl⟩
        have bX := (Boxed.new W2 22 (.slice (some ⟨gx, 0, none⟩) M cx)).alloc (.cells #[.int .i64 p0] 3)
        have bA := Boxed.new (W2.alloc (.cells #[.slice (some ⟨gx, 0, none⟩) M cx] 22)) 3 (.int .i64 p0)
        have hb3 : Below W2.heap.size W2 ((W2.alloc (.cells #[.slice (some ⟨gx, 0, none⟩) M cx] 22)).alloc (.cells #[.int .i64 p0] 3)) := ((Below.refl _ _).alloc (Nat.le_refl _) _).alloc (by simp) _
        have hO3 := own_below3 hO0 hb3
        have hx3 := hx2.belowAll hb3
        have hB3 := hB2.trans (hb3.mono hB2.size)
        have hsz : (W2.alloc (.cells #[.slice (some ⟨gx, 0, none⟩) M cx] 22)).heap.size = W2.heap.size + 1 := by simp
        rw [hsz] at bA
        have hwA := hB2.size
        obtain ⟨W3, hW3⟩ : ∃ W3, Hid ((W2.alloc (.cells #[.slice (some ⟨gx, 0, none⟩) M cx] 22)).alloc (.cells #[.int .i64 p0] 3) = W3) := ⟨_, rfl⟩
        obtain ⟨X, hX⟩ : ∃ X, Hid (W2.heap.size = X) := ⟨_, rfl⟩
        rw [hW3.out] at bX bA hO3 hx3 hB3 ⊢
        rw [hX.out] at bX bA hwA ⊢
        clear hb3 hO0 hx2 hB2 hR hsz hB1
        go_wp2
        go_loopg [11, 44] CN (fun q o i wr => ∃ (k : Nat) (v : Value) (p : Int), k ≤ CN ∧ q = CN - k ∧ v = o ∧ i = .int .i64 k ∧ v ≠ .slice none 0 0 ∧ rQ M F k = some p ∧ wr.ownsRow w.heap.size 29 3 v k (rowC (rK M F) (rN M F) (rS M F) k) ∧ Row 5 wr gx M F ∧ Boxed wr X 22 (.slice (some ⟨gx, 0, none⟩) M cx) ∧ Boxed wr (X + 1) 3 (.int .i64 p) ∧ Below w.heap.size w wr)
        case atStart => exact ⟨0, _, p0, by omega, rfl, rfl, rfl, by simp, HQ0.out, hO3, hx3, bX, bA, hB3⟩
        case round =>
          clear hO3 hx3 hB3 bX bA
          obtain ⟨k, bv, p, hkC, rfl, hbv, rfl, hne, hq, hown, hxr, bX, bA, hB⟩ := hrel
          subst hbv
          have Hne : Hid (bv ≠ .slice none 0 0) := hne
          have HQ : Hid (rQ M F k = some p) := hq
          have hpb := rQ_bd hbM.out Hu2.out hq
          clear hne hq
          by_cases hlt : k < CN
          · have hkz : (k : Int) < (CN : Int) := by omega
            obtain ⟨kk, y, s, q, ok, hgr⟩ : ∃ kk y s q ok, getRI M F p = ⟨kk, y, s, q, ok⟩ := ⟨_, _, _, _, _, rfl⟩
            have hC := rowReader1_any X (X + 1) gx M cx F p wr bX bA (hxr.view hcx hbM.out) (by omega) (by omega) (by omega)
            rw [hgr] at hC
            have HGR : Hid (getRI M F p = ⟨kk, y, s, q, ok⟩) := hgr
            have hg1 : gx ≠ X + 1 := fun e => by
              subst e
              obtain ⟨c', h1, -⟩ := hxr
              have h2 : wr.heap[X + 1]? = _ := bA
              rw [h1] at h2
              simp at h2
            clear hgr
            go_wp2_with fail
            refine hC.mono ?_
            cases ok with
            | false =>
              rintro e w3 ⟨rfl, hbt, -⟩
              have HD : Hid (decROk N F CN fc ft fu = false) := by
                show _ = _
                rw [HD0.out]
                exact rowRd_no hbM.out HQ.out (by rw [HC.out]; exact hlt) (by rw [HGR.out])
              have hB3 : Below w.heap.size w w3 := hB.trans (hbt.below (by omega) hB.size)
              have hB4 : Below w.heap.size w (w3.alloc (.cells #[.int .i64 kk, .int .i64 y, .string s] 29)) := hB3.alloc hB3.size _
              have HN' : Hid (DecsR w CN N F fc ft fu (.returned (.tuple #[.slice (some ⟨(w3.alloc (.cells #[.int .i64 kk, .int .i64 y, .string s] 29)).heap.size, 0, none⟩) 0 0, .bool false])) ((w3.alloc (.cells #[.int .i64 kk, .int .i64 y, .string s] 29)).alloc (.cells #[] 29))) := Hnone.out _ hB4 HD.out
              clear Hnone hC hown hB3 hB4 hbt hxr bX bA
              go_wp2
              refine bodyPost_ret (v := .tuple #[.slice (some ⟨w3.heap.size + 1, 0, none⟩) 0 0, .bool false]) (by simp [results, Try.results45, go_sem]) rfl ?_
              have := HN'.out
              rw [World.size_alloc] at this
              exact this
            | true =>
              rintro e w3 ⟨rfl, hbt, hbA⟩
              have bA3 := hbA rfl
              simp only at bA3
              have hgR : getR M F p = ⟨kk, y, s, q, true⟩ := by rw [← HGR.out]; exact getRI_yes (by rw [HGR.out])
              have hgG : rG M F k = ⟨kk, y, s, q, true⟩ := by unfold rG; rw [HQ.out]; exact hgR
              have HK : Hid (rK M F k = kk ∧ rN M F k = y ∧ rS M F k = s) := by show _ ∧ _ ∧ _; unfold rK rN rS; rw [hgG]; exact ⟨rfl, rfl, rfl⟩
              have HQ2 : Hid (rQ M F (k + 1) = some q) := by show _ = _; rw [rQ, HQ.out]; show (if (getR M F p).ok = true then _ else _) = _; rw [hgR]; rfl
              clear hgR hgG
              have hB3 : Below w.heap.size w w3 := hB.trans (hbt.below (by omega) hB.size)
              have hown3 := hown.kept hbt.grown (.inr (bA.not_row (by decide) hown).symm)
              have bX3 : Boxed w3 X 22 (.slice (some ⟨gx, 0, none⟩) M cx) := (hbt.block X bX.lt (by omega)).trans bX
              have hx3 := hbt.row hxr hg1
              have hba : Below w3.heap.size w3 (w3.alloc (.cells #[.int .i64 kk, .int .i64 y, .string s] 29)) := (Below.refl _ _).alloc (Nat.le_refl _) _
              have hV3 := Box.new w3 kk y s
              have hown4 := own_below3 hown3 hba
              have hB4 := hB3.trans (hba.mono hB3.size)
              have hx4 := hx3.belowAll hba
              have bX4 := bX3.alloc (.cells #[.int .i64 kk, .int .i64 y, .string s] 29)
              have bA4 := bA3.alloc (.cells #[.int .i64 kk, .int .i64 y, .string s] 29)
              obtain ⟨W4, hW4⟩ : ∃ W4, Hid (w3.alloc (.cells #[.int .i64 kk, .int .i64 y, .string s] 29) = W4) := ⟨_, rfl⟩
              obtain ⟨A3, hA3⟩ : ∃ A3, Hid (w3.heap.size = A3) := ⟨_, rfl⟩
              rw [hW4.out] at hV3 hown4 hB4 hx4 bX4 bA4
              rw [hA3.out] at hV3
              obtain ⟨z0, z1, z2⟩ := hV3.cells
              have hcl := cells_one W4 kk y s
              have hs4 := hB4.size
              clear hown hba hC hB3 hB hxr hbt hbA bA bX bA3 bX3 hown3 hx3
              go_wp2_with (first | rw [hW4.out, hA3.out] | (at_builtin; refine wpList_append_own _ rfl (.tmp 54) (.tmp 56) 39 rfl w.heap.size 29 i0 (.agg #[.int .i64 0, .int .i64 0, .string ⟨#[]⟩]) 3 32 Try.underlying39 hi hz0 hz1 hz2 rfl (by decide) bv _ _ rfl (own_below3 hown4 ((Below.refl _ _).alloc (Nat.le_refl _) _)) ⟨W4.heap.size, 0, none⟩ 1 1 [.int .i64 kk, .int .i64 y, .string s] rfl rfl hcl (one_cells _ _ _) (by unfold maxLen; omega) (by omega) (by simp; omega) ?_; intro v5 w5 hown5 hgr5 hnil5))
              have HO5 : Hid (w5.ownsRow w.heap.size 29 3 v5 (k + 1) (rowC (rK M F) (rN M F) (rS M F) (k + 1))) := by
                rw [rowC, HK.out.1, HK.out.2.1, HK.out.2.2]; exact hown5
              have HNE : Hid (v5 ≠ .slice none 0 0) := fun e => Hne.out (hnil5.1 e).1
              have hb5 : Below W4.heap.size W4 (W4.alloc (.cells #[.int .i64 kk, .int .i64 y, .string s] 29)) := (Below.refl _ _).alloc (Nat.le_refl _) _
              have HB5 : Hid (Below w.heap.size w w5) := (hB4.trans (hb5.mono hs4)).grown hgr5 (by have := (hB4.trans (hb5.mono hs4)).size; exact this) (fun j e => ((own_below3 hown4 hb5).lt j e).1)
              have HX5 : Hid (Row 5 w5 gx M F) := (hx4.belowAll hb5).of_block (hgr5.block gx (hx4.belowAll hb5).lt (Row.not_own (hx4.belowAll hb5) (by decide) (own_below3 hown4 hb5)))
              have HBX5 : Hid (Boxed w5 X 22 (.slice (some ⟨gx, 0, none⟩) M cx)) := (bX4.alloc _).kept hgr5 ((bX4.alloc _).not_row (by decide) (own_below3 hown4 hb5))
              have HBA5 : Hid (Boxed w5 (X + 1) 3 (.int .i64 q)) := (bA4.alloc _).kept hgr5 ((bA4.alloc _).not_row (by decide) (own_below3 hown4 hb5))
              clear hown4 hown5 hgr5 hnil5 hcl hB4 hx4 hb5 hV3 z0 z1 z2 bX4 bA4
              go_wp2
              go_roundg (CN - (k + 1))
              case measure => omega
              case rel => exact ⟨k + 1, v5, q, by omega, rfl, rfl, by go_num, HNE.out, HQ2.out, HO5.out, HX5.out, HBX5.out, HBA5.out, HB5.out⟩
          · have hloop : ¬ (k : Int) < (CN : Int) := by omega
            obtain rfl : k = CN := by omega
            obtain ⟨a5, c5, rfl, hvv, -⟩ := vview_of_own hown
            have hC := implRowOk_any a k cap fc ft fu fd a5 k c5 (rK M F) (rN M F) (rS M F) wr (h.below hB) hvv hn hn
            have HO : Hid (wr.ownsRow w.heap.size 29 3 (.slice a5 k c5) k (rowC (rK M F) (rN M F) (rS M F) k)) := hown
            clear hown hxr bX bA
            cases hro : rowOk k fc ft fu k (rK M F) (rN M F) (rS M F) with
            | false =>
              have HD : Hid (decROk N F k fc ft fu = false) := by
                show _ = _
                rw [HD0.out]
                unfold rowRd
                rw [HC.out, hro]
                simp
              rw [hro] at hC
              clear hvv
              go_wp2_with fail
              refine hC.mono ?_
              rintro e w4 ⟨rfl, hb4⟩
              have hB4 := hB.trans (hb4.mono hB.size)
              have HN' : Hid (DecsR w k N F fc ft fu (.returned (.tuple #[.slice (some ⟨w4.heap.size, 0, none⟩) 0 0, .bool false])) (w4.alloc (.cells #[] 29))) := Hnone.out _ hB4 HD.out
              clear hC hb4 hB4 Hnone hB h
              go_wp2
              exact bodyPost_ret (v := .tuple #[.slice (some ⟨w4.heap.size, 0, none⟩) 0 0, .bool false]) (by simp [results, Try.results45, go_sem]) rfl HN'.out
            | true =>
              have HRO : Hid (rowOk k fc ft fu k (rK M F) (rN M F) (rS M F) = true) := hro
              rw [hro] at hC
              clear hro
              go_wp2_with fail
              refine hC.mono ?_
              rintro e w4 ⟨rfl, hb4⟩
              have hB4 := hB.trans (hb4.mono hB.size)
              have HO4 : Hid (w4.ownsRow w.heap.size 29 3 (.slice a5 k c5) k (rowC (rK M F) (rN M F) (rS M F) k)) := own_below3 HO.out hb4
              have hC2 := implEncodeRow_any a k cap fc ft fu fd a5 k c5 (rK M F) (rN M F) (rS M F) w4 (h.below hB4) (hvv.below hb4) hn hn
              have HEQ := dec_eq (n := k) (fc := fc) (ft := ft) (fu := fu) (p := p) hFb.out HG0.out (by rw [hM.out]; exact Hu2.out) (by rw [hM.out]; exact HC.out) (by rw [hM.out]; exact HQ.out) (by rw [hM.out]; exact HRO.out)
              rw [hM.out] at HEQ
              have HEb : Hid (∀ y ∈ encB k fc ft fu k (rK M F) (rN M F) (rS M F), 0 ≤ y ∧ y ≤ 255) := by
                show ∀ y ∈ _, _
                unfold encB
                rw [HRO.out]
                exact sumB_byte (rowB_byte _ _ _ _)
              obtain ⟨L, hL⟩ : ∃ L, Hid (encB k fc ft fu k (rK M F) (rN M F) (rS M F) = L) := ⟨_, rfl⟩
              rw [hL.out] at hC2 HEQ HEb
              have HEQ' : Hid (L = lof N F ↔ rowRd M F k fc ft fu = true) := HEQ
              clear hC HEQ hvv hB HO
              go_wp2_with fail
              refine hC2.mono ?_
              rintro e w5 ⟨g5, c5', rfl, hE5⟩
              have hV5 := hE5.byte HEb.out
              have hB5 := hB4.trans (hE5.below.mono hB4.size)
              have HO5 : Hid (w5.ownsRow w.heap.size 29 3 (.slice a5 k c5) k (rowC (rK M F) (rN M F) (rS M F) k)) := own_below3 HO4.out hE5.below
              have hQ := equal_any g5 0 L.length c5' _ b 0 N cb F w5 hV5 (HV.out.below hB5)
              rw [lof_self] at hQ
              obtain ⟨o, ho⟩ : ∃ o, Hid (((strOfNums L).toList == (strOfNums (lof N F)).toList) = o) := ⟨_, rfl⟩
              rw [ho.out] at hQ
              have HD : Hid (decROk N F k fc ft fu = o) := by
                show _ = _
                rw [HD0.out, ← ho.out]
                have e1 : ((strOfNums L).toList == (strOfNums (lof N F)).toList) = true ↔ L = lof N F := by
                  rw [beq_iff_eq]
                  constructor
                  · intro h
                    refine strOfNums_inj HEb.out (lof_byte hFb.out) ?_
                    rw [ByteArray.toList_eq, ByteArray.toList_eq] at h
                    exact ByteArray.ext (Array.ext' h)
                  · intro h; rw [h]
                rw [Bool.eq_iff_iff, e1]
                exact HEQ'.out.symm
              clear hC2 hE5 hV5 hB4 hb4 HO4 ho
              go_wp2_with fail
              refine hQ.mono ?_
              rintro e _ ⟨rfl, rfl⟩
              clear hQ
              cases o with
              | true =>
                have HR : Hid (DecsR w k N F fc ft fu (.returned (.tuple #[.slice a5 k c5, .bool true])) w5) := by
                  refine ⟨_, k, by rw [HD.out], Hne.out, ?_, ?_, hB5⟩
                  · rw [HD.out, hM.out, HC.out]; rfl
                  · rw [hM.out]; exact HO5.out
                clear Hnone hB5 h
                go_wp2
                exact bodyPost_ret (v := .tuple #[.slice a5 k c5, .bool true]) (by simp [results, Try.results45, go_sem]) rfl HR.out
              | false =>
                have HN' : Hid (DecsR w k N F fc ft fu (.returned (.tuple #[.slice (some ⟨w5.heap.size, 0, none⟩) 0 0, .bool false])) (w5.alloc (.cells #[] 29))) := Hnone.out _ hB5 HD.out
                clear Hnone hB5 h
                go_wp2
                exact bodyPost_ret (v := .tuple #[.slice (some ⟨w5.heap.size, 0, none⟩) 0 0, .bool false]) (by simp [results, Try.results45, go_sem]) rfl HN'.out
end Go.Proofs.Ytikopeihkbpjhac

/-
  Rows of values held against each other, plainly.
-/
namespace Go.Proofs.Ytikopeihkbpjhac
open Go.RowKit
set_option maxRecDepth 4000

def allEq (fk fn : Nat → Int) (fs : Nat → ByteArray) (gk gn : Nat → Int) (gs : Nat → ByteArray) : Nat → Bool
  | 0 => true
  | k + 1 => allEq fk fn fs gk gn gs k && eqV (fk k) (fn k) (fs k) (gk k) (gn k) (gs k)

theorem allEq_bad {fk fn : Nat → Int} {fs : Nat → ByteArray} {gk gn : Nat → Int} {gs : Nat → ByteArray} {k : Nat} (h : eqV (fk k) (fn k) (fs k) (gk k) (gn k) (gs k) = false) : ∀ n, k < n → allEq fk fn fs gk gn gs n = false
  | 0, hk => absurd hk (Nat.not_lt_zero _)
  | n + 1, hk => by
    simp only [allEq]
    by_cases e : k = n
    · subst e; rw [h]; simp
    · rw [allEq_bad h n (by omega)]; rfl

def rowEq (n m : Nat) (fk fn : Nat → Int) (fs : Nat → ByteArray) (gk gn : Nat → Int) (gs : Nat → ByteArray) : Bool := decide (n = m) && allEq fk fn fs gk gn gs n

end Go.Proofs.Ytikopeihkbpjhac

/-
  The program's SameVal: whether two values are alike.
-/
namespace Go.Proofs.Ytikopeihkbpjhac
open Go.RowKit
set_option maxRecDepth 4000

set_option maxHeartbeats 1000000 in
theorem sameVal_impl (k n : Int) (s : ByteArray) (k' n' : Int) (s' : ByteArray) (w : World) :
    Calls Try.prog 70 #[.agg #[.int .i64 k, .int .i64 n, .string s], .agg #[.int .i64 k', .int .i64 n', .string s']] w fun e w' => e = .returned (.bool (eqV k n s k' n' s')) ∧ Below w.heap.size w w' := by
  have q := eqVal_run k n s k' n' s'
  go_enter Try.func70, Try.ntmps70
  go_wp2
  go_ret
  refine ⟨rfl, ?_⟩
  repeat (first | exact Below.refl _ _ | refine Below.alloc ?_ (by simp <;> omega) _ | refine Below.drew ?_)

end Go.Proofs.Ytikopeihkbpjhac

/-
  The program's SameRow.
-/
namespace Go.Proofs.Ytikopeihkbpjhac
open Go.RowKit
set_option maxRecDepth 4000

set_option maxHeartbeats 2000000 in
theorem equalFunc_any (a1 a2 : Option Addr) (n m c1 c2 : Nat) (fk fn : Nat → Int) (fs : Nat → ByteArray) (gk gn : Nat → Int) (gs : Nat → ByteArray) (w : World) (h1 : VView w a1 n c1 fk fn fs) (h2 : VView w a2 m c2 gk gn gs) (hn : n ≤ 281474976710656) (hm : m ≤ 281474976710656) :
    Calls Try.prog 69 #[.slice a1 n c1, .slice a2 m c2, .func (.func 70) #[] #[]] w fun e w' => e = .returned (.bool (rowEq n m fk fn fs gk gn gs)) ∧ Below w.heap.size w w' := by
  by_cases e : n = m
  case neg =>
    have e1 : ((n : Int) != (m : Int)) = true := by simp; omega
    have er : rowEq n m fk fn fs gk gn gs = false := by unfold rowEq; rw [decide_eq_false e]; rfl
    rw [er]
    go_enter Try.func69, Try.ntmps69
    go_wp2
    go_ret
    exact ⟨rfl, Below.refl _ _⟩
  subst e
  have er : rowEq n n fk fn fs gk gn gs = allEq fk fn fs gk gn gs n := by unfold rowEq; simp
  rw [er]
  clear er
  go_enter Try.func69, Try.ntmps69
  go_wp2
  go_loopg [17] n (fun q i wr => ∃ k : Nat, k ≤ n ∧ q = n - k ∧ i = .int .i64 k ∧ Below w.heap.size w wr ∧ allEq fk fn fs gk gn gs k = true)
  case atStart => exact ⟨0, Nat.zero_le _, rfl, rfl, Below.refl _ _, rfl⟩
  case round =>
    obtain ⟨k, hk, rfl, rfl, hB, hA⟩ := hrel
    by_cases hlt : k < n
    · obtain ⟨b1, o1, rfl, hb1, hc1⟩ := (h1.below hB).cells (by omega)
      obtain ⟨b2, o2, rfl, hb2, hc2⟩ := (h2.below hB).cells (by omega)
      obtain ⟨x0, x1, x2⟩ := hc1 k hlt
      obtain ⟨y0, y1, y2⟩ := hc2 k hlt
      have hkz : (k : Int) < (n : Int) := by omega
      have hV := fun W => sameVal_impl (fk k) (fn k) (fs k) (gk k) (gn k) (gs k) W
      have hS : Hid (allEq fk fn fs gk gn gs (k + 1) = eqV (fk k) (fn k) (fs k) (gk k) (gn k) (gs k)) := by
        show allEq fk fn fs gk gn gs (k + 1) = _
        simp only [allEq, hA, Bool.true_and]
      have hbad : Hid (eqV (fk k) (fn k) (fs k) (gk k) (gn k) (gs k) = false → allEq fk fn fs gk gn gs n = false) := fun h => allEq_bad h n hlt
      clear hc1 hc2 h1 h2 hA
      generalize eqV (fk k) (fn k) (fs k) (gk k) (gn k) (gs k) = z at *
      generalize fk k = p0 at *
      generalize fn k = p1 at *
      generalize fs k = p2 at *
      generalize gk k = r0 at *
      generalize gn k = r1 at *
      generalize gs k = r2 at *
      go_wp2_with fail
      refine (hV _).mono ?_
      rintro e w2 ⟨rfl, hB2⟩
      have hB3 : Below w.heap.size w w2 := ((hB.alloc hB.size _).alloc (by have := hB.size; simp; omega) _).trans (hB2.mono (by have := hB.size; simp; omega))
      clear hB2 hV x0 x1 x2 y0 y1 y2 hb1 hb2
      cases z
      · have hbad2 : Hid (allEq fk fn fs gk gn gs n = false) := hbad.out rfl
        clear hbad
        go_wp2
        go_ret
        exact ⟨by rw [hbad2.out]; rfl, hB3⟩
      · go_wp2
        go_roundg (n - (k + 1))
        case measure => omega
        case rel => exact ⟨k + 1, by omega, rfl, by go_num, hB3, hS.out⟩
    · have hkn : k = n := by omega
      have hA : Hid (allEq fk fn fs gk gn gs n = true) := by rw [← hkn]; exact hA
      go_wp2
      go_ret
      exact ⟨by rw [hA.out]; rfl, hB⟩
set_option maxHeartbeats 2000000 in
theorem sameRow_impl (a1 a2 : Option Addr) (n m c1 c2 : Nat) (fk fn : Nat → Int) (fs : Nat → ByteArray) (gk gn : Nat → Int) (gs : Nat → ByteArray) (w : World) (h1 : VView w a1 n c1 fk fn fs) (h2 : VView w a2 m c2 gk gn gs) (hn : n ≤ 281474976710656) (hm : m ≤ 281474976710656) :
    Calls Try.prog 22 #[.slice a1 n c1, .slice a2 m c2] w fun e w' => e = .returned (.bool (rowEq n m fk fn fs gk gn gs)) ∧ Below w.heap.size w w' := by
  have hE := equalFunc_any a1 a2 n m c1 c2 fk fn fs gk gn gs w h1 h2 hn hm
  clear h1 h2
  generalize rowEq n m fk fn fs gk gn gs = z at *
  go_enter Try.func22, Try.ntmps22
  go_wp2_with fail
  refine hE.mono ?_
  rintro e w1 ⟨rfl, hB⟩
  go_wp2
  go_ret
  exact ⟨rfl, hB⟩

end Go.Proofs.Ytikopeihkbpjhac

/-
  A row is itself.
-/
namespace Go.Proofs.Ytikopeihkbpjhac
open Go.RowKit
set_option maxRecDepth 4000

theorem allEq_iff {fk fn : Nat → Int} {fs : Nat → ByteArray} {gk gn : Nat → Int} {gs : Nat → ByteArray} : ∀ {n : Nat}, allEq fk fn fs gk gn gs n = true ↔ ∀ j, j < n → eqV (fk j) (fn j) (fs j) (gk j) (gn j) (gs j) = true
  | 0 => by simp [allEq]
  | n + 1 => by
    rw [allEq, Bool.and_eq_true, allEq_iff (n := n)]
    constructor
    · rintro ⟨h1, h2⟩ j hj
      by_cases e : j < n
      · exact h1 j e
      · obtain rfl : j = n := by omega
        exact h2
    · intro h
      exact ⟨fun j hj => h j (by omega), h n (by omega)⟩
theorem rowEq_self (n : Nat) (fk fn : Nat → Int) (fs : Nat → ByteArray) : rowEq n n fk fn fs fk fn fs = true := by
  unfold rowEq
  rw [decide_eq_true rfl, Bool.true_and, allEq_iff]
  intro j _; simp [eqV]
end Go.Proofs.Ytikopeihkbpjhac

/-
  Whether a code is too long.
-/
namespace Go.Proofs.Ytikopeihkbpjhac
open Go.RowKit
set_option maxRecDepth 4000

theorem big_any (ao : Option Addr) (n cap : Nat) (w : World) (_hn : n ≤ 9223372036854775807) :
    Calls Try.prog 9 #[.slice ao n cap] w fun e w' => e = .returned (.bool (decide ((1048576 : Int) < (n : Int)))) ∧ w = w' := by
  go_enter Try.func9, Try.ntmps9
  go_wp2
  go_ret
  exact ⟨rfl, rfl⟩

end Go.Proofs.Ytikopeihkbpjhac

/-
  What the law's own helper at comes to: a byte of the code, or a number in its stead.
-/
namespace Go.Proofs.Ytikopeihkbpjhac
open Go.RowKit
set_option maxRecDepth 4000

/-- The code's byte at a small place, or a number in its stead. -/
def atN (n : Nat) (f : Nat → Int) (i : Nat) : Nat := if i < n then (f i).toNat else (i * 31 + n * 7) % 256
theorem atN_le (n : Nat) (f : Nat → Int) (i : Nat) (hf : ∀ i, i < n → 0 ≤ f i ∧ f i ≤ 255) : atN n f i ≤ 255 := by
  unfold atN
  split
  · have := hf i (by assumption); omega
  · omega
theorem at_val (ao : Option Addr) (n cap : Nat) (f : Nat → Int) (i : Nat) (z : Int) (x : Nat) (w : World) (hx : Hid (atN n f i = x)) (hv : View w ao n cap f) (hn : n ≤ 1048576) (hi : i ≤ 64) (hz : z = (i : Int)) :
    Calls Try.prog 28 #[.slice ao n cap, .int .i64 z] w fun e w' => e = .returned (.int .i64 (x : Int)) ∧ w = w' := by
  subst hz
  by_cases hlt : i < n
  · have hx' : (f i).toNat = x := by have := hx.out; unfold atN at this; rw [if_pos hlt] at this; exact this
    clear hx
    obtain ⟨b, off, rfl, hb, hc⟩ := hv.cells (by omega)
    have hz : (i : Int) < (n : Int) := by omega
    have hc1 := hc i hlt
    have hbi := hv.byte i hlt
    rw [show f i = (x : Int) by omega] at hc1
    have hxb : x ≤ 255 := by omega
    clear hc hx' hbi
    go_enter Try.func28, Try.ntmps28
    go_wp2
    go_ret
    exact ⟨rfl, rfl⟩
  · have hx' : (i * 31 + n * 7) % 256 = x := by have := hx.out; unfold atN at this; rw [if_neg hlt] at this; exact this
    have HX : Hid ((i * 31 + n * 7) % 256 = x) := hx'
    clear hx hx'
    have hz : (n : Int) ≤ (i : Int) := by omega
    go_enter Try.func28, Try.ntmps28
    go_wp2
    go_ret
    have hE : ((i : Int) * 31 + (n : Int) * 7) % 256 = (x : Int) := by have := HX.out; omega
    rw [hE]
    exact ⟨rfl, rfl⟩
end Go.Proofs.Ytikopeihkbpjhac

/-
  The walk over the law FnRowBytes: it answers true and writes nothing that was there, at every code that reads.
-/
namespace Go.Proofs.Ytikopeihkbpjhac
open Go.RowKit
set_option maxRecDepth 4000

theorem PView.past {w0 w w' : World} {g : Nat} {a : Option Addr} {n cap : Nat} {fc ft : Nat → Int} {fu fd : Nat → Bool} (h0 : PView w0 a n cap fc ft fu fd) (h : PView w a n cap fc ft fu fd) (hb : But g w w') (hg : w0.heap.size ≤ g) : PView w' a n cap fc ft fu fd := by
  refine ⟨h.le, fun hn => ?_⟩
  obtain ⟨b, off, e, hlt, hc⟩ := h.cells hn
  obtain ⟨b0, off0, e0, hlt0, -⟩ := h0.cells hn
  rw [e] at e0; cases e0
  refine ⟨b, off, e, Nat.lt_of_lt_of_le hlt hb.size, fun i hi => ?_⟩
  have hk := hb.block b hlt (by omega)
  have ec : ∀ j, w'.cell? ⟨b, j, none⟩ = w.cell? ⟨b, j, none⟩ := fun j => World.cell?_of_block hk
  rw [ec, ec, ec, ec]
  exact hc i hi
theorem VView.past {w0 w w' : World} {g : Nat} {a : Option Addr} {n cap : Nat} {fk fn : Nat → Int} {fs : Nat → ByteArray} (h0 : VView w0 a n cap fk fn fs) (h : VView w a n cap fk fn fs) (hb : But g w w') (hg : w0.heap.size ≤ g) : VView w' a n cap fk fn fs := by
  refine ⟨h.le, fun hn => ?_⟩
  obtain ⟨b, off, e, hlt, hc⟩ := h.cells hn
  obtain ⟨b0, off0, e0, hlt0, -⟩ := h0.cells hn
  rw [e] at e0; cases e0
  refine ⟨b, off, e, Nat.lt_of_lt_of_le hlt hb.size, fun i hi => ?_⟩
  have hk := hb.block b hlt (by omega)
  have ec : ∀ j, w'.cell? ⟨b, j, none⟩ = w.cell? ⟨b, j, none⟩ := fun j => World.cell?_of_block hk
  rw [ec, ec, ec]
  exact hc i hi

set_option linter.unusedSimpArgs false in
set_option maxHeartbeats 4000000 in
theorem lawRowBytes (ao : Option Addr) (N cap : Nat) (f : Nat → Int) (w : World) (hv0 : View w ao N cap f) (hlen : N ≤ 9223372036854775807) :
    Calls Try.prog 8 #[.slice ao N cap] w fun e w' => e = .returned (.bool true) ∧ Below w.heap.size w w' := by
  by_cases hbig : (1048576 : Int) < (N : Int)
  · go_enter Try.func8, Try.ntmps8
    go_wp2_with fail
    refine (big_any ao N cap w hlen).mono ?_
    rw [decide_eq_true hbig]
    rintro e _ ⟨rfl, rfl⟩
    go_wp2
    go_ret
    exact ⟨rfl, Below.refl _ _⟩
  have hN : N ≤ 1048576 := by omega
  go_enter Try.func8, Try.ntmps8
  go_wp2_with fail
  refine (big_any ao N cap w hlen).mono ?_
  rw [decide_eq_false (by omega : ¬ (1048576 : Int) < (N : Int))]
  rintro e _ ⟨rfl, rfl⟩
  clear hbig
  go_wp2_with fail
  refine (drawEncodeRow_any ao N cap f w hN hv0).mono ?_
  rintro e w2 ⟨⟨a, a1, n, cp, m, c1, gc, gt, gu, gd, fk, fn, fs, rfl, hD⟩, hB⟩
  have hn7 : n ≤ 7 := hD.few.1
  have hm7 : m ≤ 7 := hD.few.2
  have hp := hD.plan
  have hv := hD.vals
  have HP0 : Hid (PView w2 a n cp gc gt gu gd) := hD.plan
  have HV0 : Hid (VView w2 a1 m c1 fk fn fs) := hD.vals
  have Hsh : Hid (∀ i, i < m → (fs i).size ≤ 1048576) := fun i hi => by have := hD.short i hi; omega
  clear hD
  obtain ⟨L, hL⟩ : ∃ L, Hid (encB n gc gt gu m fk fn fs = L) := ⟨_, rfl⟩
  obtain ⟨o, ho⟩ : ∃ o, Hid (rowOk n gc gt gu m fk fn fs = o) := ⟨_, rfl⟩
  have hLn : L.length ≤ 1004 := by rw [← hL.out]; exact encB_few n gc gt gu m fk fn fs
  have hLb : ∀ y ∈ L, 0 ≤ y ∧ y ≤ 255 := by rw [← hL.out]; exact encB_byte n gc gt gu m fk fn fs
  have HY : Hid (∀ i, i < L.length → 0 ≤ L.getD i 0 ∧ L.getD i 0 ≤ 255) := fun i hi => by
    have e : L.getD i 0 = L[i] := by simp [List.getD, List.getElem?_eq_getElem hi]
    rw [e]; exact hLb _ (List.getElem_mem hi)
  clear hLb
  go_wp2_with fail
  refine (implEncodeRow_any a n cp gc gt gu gd a1 m c1 fk fn fs _ hp hv (by omega) (by omega)).mono ?_
  rw [hL.out]
  rintro e w3 ⟨g, cg, rfl, hE⟩
  have hx := hE.row
  have hcg := hE.le
  have hgn := hE.new
  have hb := hE.below
  clear hE
  have hs2 := hB.size
  replace hp := hp.below hb
  replace hv := hv.below hb
  replace hB := hB.trans (hb.mono hB.size)
  clear hb
  go_wp2_with fail
  refine (specRowOk_any a n cp gc gt gu gd a1 m c1 fk fn fs _ hp hv (by omega) (by omega) Hsh.out).mono ?_
  rw [ho.out]
  rintro e w4 ⟨rfl, hb⟩
  replace hp := hp.below hb
  replace hv := hv.below hb
  replace hx := hx.belowAll hb
  replace hB := hB.trans (hb.mono hB.size)
  clear hb
  cases o with
  | false =>
    have hL0 : L.length = 0 := by
      rw [← hL.out]; unfold encB; rw [ho.out]; rfl
    rw [hL0]
    clear hx
    go_wp2_with fail
    refine (implRowOk_any a n cp gc gt gu gd a1 m c1 fk fn fs _ hp hv (by omega) (by omega)).mono ?_
    rw [ho.out]
    rintro e w5 ⟨rfl, hb⟩
    replace hB := hB.trans (hb.mono hB.size)
    clear hb hp hv
    go_wp2
    go_ret
    exact ⟨rfl, hB⟩
  | true =>
    obtain ⟨h4, hg, hrd, hcnt, hrv⟩ := row_back ho.out L hL.out.symm
    have HD : Hid (decROk L.length (fun i => L.getD i 0) n gc gt gu = true) := by show _ = _; unfold decROk; rw [hg, hrd]; rfl
    have HR : Hid (rowC (rK (L.length - 4) (fun i => L.getD i 0)) (rN (L.length - 4) (fun i => L.getD i 0)) (rS (L.length - 4) (fun i => L.getD i 0)) m = rowC fk fn fs m) := rowC_congr hrv
    have HC : Hid (rCnt (L.length - 4) (fun i => L.getD i 0) = m) := hcnt
    have HT : Hid (∀ (j : Nat) (v : Int), j < L.length → (0 ≤ v ∧ v ≤ 255) → v ≠ L.getD j 0 → decROk L.length (fun i => if i = j then v else L.getD i 0) n gc gt gu = false) := fun j v h1 h2 h3 => row_turned ho.out L hL.out.symm h1 h2 h3 HY.out
    clear hg hrd hcnt hrv
    have hV := hx.view hcg HY.out
    go_wp2_with fail
    refine (implDecodeRow_any a n cp gc gt gu gd g L.length cg _ _ hp hV (by omega) (by omega)).mono ?_
    rintro e w5 ⟨v1, M1, he, hne, hM1, hO, hb⟩
    rw [HD.out] at he hM1
    have hM2 : M1 = m := by rw [hM1]; exact HC.out
    rw [hM2, HR.out] at hO
    clear hM1 hM2
    subst he
    obtain ⟨au, cu, rfl, hu, hsome⟩ := vview_of_own hO
    obtain ⟨g1, rfl, hg1⟩ := hsome hne
    have hgl := hx.lt
    clear hO hne hsome hV
    replace hp := hp.below hb
    replace hv := hv.below hb
    replace hx := hx.belowAll hb
    replace hB := hB.trans (hb.mono hB.size)
    clear hb
    have hlz : ¬ (L.length : Int) = 0 := by omega
    obtain ⟨x2, hx2⟩ : ∃ x, Hid (atN N f 2 = x) := ⟨_, rfl⟩
    obtain ⟨x3, hx3⟩ : ∃ x, Hid (atN N f 3 = x) := ⟨_, rfl⟩
    have hx2b : x2 ≤ 255 := by rw [← hx2.out]; exact atN_le N f 2 hv0.byte
    have hx3b : x3 ≤ 255 := by rw [← hx3.out]; exact atN_le N f 3 hv0.byte
    have hv3 : View w5.drew ao N cap f := (hv0.below hB).drew
    obtain ⟨LN, hLN⟩ : ∃ LN, L.length = LN := ⟨_, rfl⟩
    obtain ⟨F, hF⟩ : ∃ F : Nat → Int, (fun i => L.getD i 0) = F := ⟨_, rfl⟩
    have HT' : Hid (∀ (j : Nat) (v : Int), j < LN → (0 ≤ v ∧ v ≤ 255) → v ≠ F j → decROk LN (fun i => if i = j then v else F i) n gc gt gu = false) := by rw [← hLN, ← hF]; exact HT
    have HY' : Hid (∀ i, i < LN → 0 ≤ F i ∧ F i ≤ 255) := by rw [← hLN, ← hF]; exact HY
    rw [hLN] at hx hcg hlz hLn h4 ⊢
    rw [hF] at hx
    clear HT HY HD HR HC hL hLN hF
    obtain ⟨j, hj, hjm⟩ : ∃ j : Nat, j < LN ∧ (x2 : Int) % (LN : Int) = (j : Int) := ⟨x2 % LN, Nat.mod_lt _ (by omega), by push_cast; rfl⟩
    have hjz : (j : Int) < (LN : Int) := by omega
    have hcj : w5.drew.cell? ⟨g, j, none⟩ = some (.int .u8 (F j)) := hx.cell hj
    have hfj : w5.drew.frozen? ⟨g, j, none⟩ = false := hx.frozen _
    have hcj' : w5.cell? ⟨g, j, none⟩ = some (.int .u8 (F j)) := hx.cell hj
    have hfj' : w5.frozen? ⟨g, j, none⟩ = false := hx.frozen _
    go_wp2
    go_region_with (first | (go_at_call_of 28 (Value.int IntKind.i64 2); refine (at_val ao N cap f 2 _ x2 _ hx2 ?_ hN (by omega) rfl).mono ?_; exact hv3; rintro e _ ⟨rfl, rfl⟩) | (go_at_call_of 28 (Value.int IntKind.i64 3); refine (at_val ao N cap f 3 _ x3 _ hx3 ?_ hN (by omega) rfl).mono ?_; exact hv3; rintro e _ ⟨rfl, rfl⟩))
    all_goals
      clear hjm hcj hfj hcj' hfj' hx2 hx2b hx3 hv3
      go_wp2_with fail
      have hbit := bit_turned (F j) (x3 % 8) (HY'.out j hj) (Nat.mod_lt _ (by decide))
      rw [small_pow x3]
      generalize bits .xor .u8 (F j) (2 ^ (x3 % 8)) = v at *
      have hr4 : Row 5 (w5.setCell ⟨g, j, none⟩ (.int .u8 v)).drew g LN (fun i => if i = j then v else F i) := hx.set j v
      have hO4 : Only g w5 (w5.setCell ⟨g, j, none⟩ (.int .u8 v)).drew := ((Only.refl _ _).setCell _).drew
      have hB4 : But g w5 (w5.setCell ⟨g, j, none⟩ (.int .u8 v)).drew := But.ofOnly hO4
      replace hp := HP0.out.past hp hB4 hgn
      replace hv := HV0.out.past hv hB4 hgn
      replace hu := hu.but hB4 (fun X e => by cases e; show g1 ≠ g; omega)
      replace hB := hB.trans (hO4.below (by omega))
      have HF : Hid (∀ i, i < LN → 0 ≤ (if i = j then v else F i) ∧ (if i = j then v else F i) ≤ 255) := by
        intro i hi
        by_cases e : i = j
        · rw [if_pos e]; exact hbit.1
        · rw [if_neg e]; exact HY'.out i hi
      have HT2 : Hid (decROk LN (fun i => if i = j then v else F i) n gc gt gu = false) := HT'.out j v hj hbit.1 hbit.2
      clear hx hO4 hB4 hbit HT' HY'
      have hV := hr4.view hcg HF.out
      generalize (w5.setCell ⟨g, j, none⟩ (.int .u8 v)).drew = w6 at *
      refine (implDecodeRow_any a n cp gc gt gu gd g LN cg _ _ hp hV (by omega) (by omega)).mono ?_
      rintro e w7 ⟨v2, M2, he, -, -, hO2, hb⟩
      rw [HT2.out] at he
      subst he
      replace hp := hp.below hb
      replace hv := hv.below hb
      replace hu := hu.below hb
      replace hB := hB.trans (hb.mono hB.size)
      clear hb hO2 hV hr4 HF HT2
      have HSR := rowEq_self m fk fn fs
      go_wp2_with fail
      refine (sameRow_impl _ _ m m cu c1 fk fn fs fk fn fs _ hu hv (by omega) (by omega)).mono ?_
      rw [HSR]
      rintro e w8 ⟨rfl, hb⟩
      replace hp := hp.below hb
      replace hv := hv.below hb
      replace hB := hB.trans (hb.mono hB.size)
      clear hb hu HSR
      go_wp2_with fail
      refine (implRowOk_any a n cp gc gt gu gd a1 m c1 fk fn fs _ hp hv (by omega) (by omega)).mono ?_
      rw [ho.out]
      rintro e w9 ⟨rfl, hb⟩
      replace hB := hB.trans (hb.mono hB.size)
      clear hb hp hv
      go_wp2
      go_ret
      exact ⟨rfl, hB⟩
end Go.Proofs.Ytikopeihkbpjhac

