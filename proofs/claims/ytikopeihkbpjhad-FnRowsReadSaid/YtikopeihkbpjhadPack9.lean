/-
  Together: RowEncImpl, RowDecImpl, SameB, Big, LawRowsRead
-/
import Derived.Test.YtikopeihkbpjhadPack8
import Derived.Test.YtikopeihkbpjhadPack7
import Derived.Test.YtikopeihkbpjhadPack6
import Derived.Test.YtikopeihkbpjhadPack5
import Derived.Test.YtikopeihkbpjhadPack4
import Derived.Test.YtikopeihkbpjhadPack1
/-
  The program's EncodeRow: its values one behind the other, and a sum.
-/
namespace Go.Proofs.Ytikopeihkbpjhad
open Go.RowKit
set_option maxRecDepth 4000

set_option linter.unusedSimpArgs false in
set_option maxHeartbeats 2000000 in
theorem implEncodeRow_any (a : Option Addr) (n cap : Nat) (fc ft : Nat → Int) (fu fd : Nat → Bool) (a2 : Option Addr) (m cap2 : Nat) (fk fn : Nat → Int) (fs : Nat → ByteArray) (w : World) (h : PView w a n cap fc ft fu fd) (h2 : VView w a2 m cap2 fk fn fs) (hn : n ≤ 281474976710656) (hm : m ≤ 281474976710656) :
    Calls Try.prog 10 #[.slice a n cap, .slice a2 m cap2] w fun e w' => ∃ g cg, e = .returned (.slice (some ⟨g, 0, none⟩) (encB n fc ft fu m fk fn fs).length cg) ∧ EncTo w w' g cg (encB n fc ft fu m fk fn fs) := by
  go_enter Try.func10, Try.ntmps10
  go_wp2_with fail
  refine (implRowOk_any a n cap fc ft fu fd a2 m cap2 fk fn fs w h h2 hn hm).mono ?_
  cases hok : rowOk n fc ft fu m fk fn fs with
  | false =>
    have HE : Hid (encB n fc ft fu m fk fn fs = []) := by show _ = _; unfold encB; rw [hok]; rfl
    rintro e w1 ⟨rfl, hb⟩
    have HT : Hid (EncTo w (w1.alloc (.cells #[] 5)) w1.heap.size 0 []) := ⟨Row.none w1 _ _, hb.size, Nat.le_refl _, hb.alloc hb.size _⟩
    clear h h2 hb
    go_wp2
    go_ret
    refine ⟨_, 0, by rw [HE.out]; rfl, ?_⟩
    rw [HE.out]; exact HT.out
  | true =>
    have HE : Hid (encB n fc ft fu m fk fn fs = sumB (rowB m fk fn fs)) := by show _ = _; unfold encB; rw [hok]; rfl
    have hrk := hok
    unfold rowOk at hrk
    simp only [Bool.and_eq_true, decide_eq_true_eq] at hrk
    obtain ⟨hpk, hmn, hfa⟩ := hrk
    obtain ⟨-, hfit⟩ := fitsAll_iff.1 hfa
    have hm6 : m ≤ 6 := by have := (planOk_iff.1 hpk).2; omega
    have HOK : Hid (∀ i, i < m → okF (fk i) (fn i) (fs i) = true) := fun i hi => by have := hfit i hi; unfold fitsP at this; simp only [Bool.and_eq_true] at this; exact this.1
    rintro e w1 ⟨rfl, hb⟩
    clear hpk hfa hfit hok hmn h
    have hC := putU_encNil w w1 (m : Int) hb (by omega) (by omega)
    clear hb
    obtain ⟨vb, hvb⟩ : ∃ vb : Nat → List Int, Hid (vb = fun i => valB (fk i) (fn i) (fs i)) := ⟨_, rfl⟩
    have HRB : Hid (rowB m fk fn fs = groups (clampN m) ++ keyT vb m) := by show _ = _; rw [hvb.out]; rfl
    obtain ⟨G0, hG0⟩ : ∃ G0, Hid (groups (clampN (m : Int)) = G0) := ⟨_, rfl⟩
    have HB : Hid (∀ k, ∀ y ∈ G0 ++ keyT vb k, 0 ≤ y ∧ y ≤ 255) := fun k y hy => by
      rcases List.mem_append.1 hy with hy | hy
      · rw [← hG0.out] at hy; exact groups_byte _ (clampN_bd _).1 (clampN_bd _).2 y hy
      · rw [hvb.out] at hy; exact keyT_byte (fun i _ => valB_byte _ _ _) y hy
    have HLn : Hid (∀ k, k ≤ m → (G0 ++ keyT vb k).length ≤ 1000) := fun k hk => by
      have h1 : (keyT vb k).length ≤ k * 69 := keyT_len (fun i hi => by
        rw [hvb.out]
        have h3 := valB_len (fk i) (fn i) (fs i)
        have h4 := okF_few (HOK.out i (by omega))
        show (valB (fk i) (fn i) (fs i)).length ≤ 69
        omega)
      have h2 := (groups_len (clampN (m : Int))).2
      rw [hG0.out] at h2
      rw [List.length_append]
      omega
    rw [hG0.out] at hC HRB
    go_wp2_with fail
    refine hC.mono ?_
    rintro e w2 ⟨g, c, rfl, hE, hB2⟩
    clear hC hB2
    go_wp2
    go_loopg [5, 18] m (fun q v i wr => ∃ (k g c : Nat), k ≤ m ∧ q = m - k ∧ v = .slice (some ⟨g, 0, none⟩) (G0 ++ keyT vb k).length c ∧ i = .int .i64 k ∧ EncTo w wr g c (G0 ++ keyT vb k))
    case atStart => exact ⟨0, g, c, Nat.zero_le _, rfl, by simp [keyT], rfl, by simpa [keyT] using hE⟩
    case round =>
      clear hE
      obtain ⟨k, g3, c3, hk, rfl, rfl, rfl, hE⟩ := hrel
      by_cases hlt : k < m
      · have hkz : (k : Int) < (m : Int) := by omega
        obtain ⟨b2, o2, rfl, hb2, hd2⟩ := (h2.below hE.below).cells (by omega)
        obtain ⟨x0, x1, x2⟩ := hd2 k hlt
        have hok := HOK.out k hlt
        have hvk : Hid (keyT vb (k + 1) = keyT vb k ++ valB (fk k) (fn k) (fs k)) := by show _ = _; rw [keyT, hvb.out]
        have hby := HB.out k
        have hln := HLn.out k hk
        obtain ⟨L, hL⟩ : ∃ L, Hid (G0 ++ keyT vb k = L) := ⟨_, rfl⟩
        rw [hL.out] at hE hby hln ⊢
        obtain ⟨q0, hq0⟩ : ∃ p, fk k = p := ⟨_, rfl⟩
        obtain ⟨q1, hq1⟩ : ∃ p, fn k = p := ⟨_, rfl⟩
        obtain ⟨q2, hq2⟩ : ∃ p, fs k = p := ⟨_, rfl⟩
        rw [hq0] at x0 hok hvk
        rw [hq1] at x1 hok hvk
        rw [hq2] at x2 hok hvk
        clear hd2 hq0 hq1 hq2
        have HL2 : Hid (G0 ++ keyT vb (k + 1) = L ++ valB q0 q1 q2) := by show _ = _; rw [hvk.out, ← List.append_assoc, hL.out]
        clear hvk
        have hbw : Below wr.heap.size wr (wr.alloc (.cells #[.int .i64 q0, .int .i64 q1, .string q2] 47)) := (Below.refl _ _).alloc (Nat.le_refl _) _
        have hE2 : EncTo w (wr.alloc (.cells #[.int .i64 q0, .int .i64 q1, .string q2] 47)) g3 c3 L := ⟨hE.row.belowAll hbw, hE.new, hE.le, hE.below.trans (hbw.mono hE.below.size)⟩
        have hC := putRowVal_any w _ g3 c3 L q0 q1 q2 hE2 hby hln hok
        rw [← HL2.out] at hC
        obtain ⟨L5, hL5⟩ : ∃ L5, Hid (G0 ++ keyT vb (k + 1) = L5) := ⟨_, rfl⟩
        rw [hL5.out] at hC
        clear hE hE2 hbw hby hok HL2
        go_wp2_with fail
        clear x0 x1 x2
        refine hC.mono ?_
        rintro e w5 ⟨g5, c5, rfl, hE5, -⟩
        have HN : Hid (EncTo w w5 g5 c5 L5) := hE5
        clear hE5 hC
        go_wp2
        go_roundg (m - (k + 1))
        case measure => omega
        case rel => exact ⟨k + 1, g5, c5, by omega, rfl, by rw [hL5.out], by go_num, by rw [hL5.out]; exact HN.out⟩
      · have hkz : ¬ (k : Int) < (m : Int) := by omega
        obtain rfl : k = m := by omega
        have hC := putSum_encI w wr g3 c3 _ hE (HB.out k) (by have := HLn.out k hk; omega)
        obtain ⟨L, hL⟩ : ∃ L, Hid (G0 ++ keyT vb k = L) := ⟨_, rfl⟩
        rw [hL.out] at hC HRB ⊢
        clear hE h2
        go_wp2_with fail
        refine hC.mono ?_
        rintro e w4 ⟨g4, c4, rfl, hE4⟩
        have HE4 : Hid (EncTo w w4 g4 c4 (sumB L)) := hE4
        clear hE4 hC
        go_wp2
        go_ret
        refine ⟨g4, c4, by rw [HE.out, HRB.out]; rfl, ?_⟩
        rw [HE.out, HRB.out]; exact HE4.out
end Go.Proofs.Ytikopeihkbpjhad

/-
  The program's DecodeRow: the values of a row, in a row of its own.
-/
namespace Go.Proofs.Ytikopeihkbpjhad
open Go.RowKit
set_option maxRecDepth 4000

theorem getSum_impl_is (N : Nat) (F : Nat → Int) (hN : N ≤ 1048576) (hb : ∀ i, i < N → 0 ≤ F i ∧ F i ≤ 255) : Gives 18 N F (sumN N F) (sumGood N F) := by
  by_cases h4 : N < 4
  · have e : sumGood N F = false := by unfold sumGood; simp; omega
    have e2 : sumN N F = 0 := by unfold sumN; rw [e]; rfl
    rw [e, e2]
    exact getSum_impl_few N F h4
  · obtain ⟨m, rfl⟩ : ∃ m, N = m + 4 := ⟨N - 4, by omega⟩
    by_cases hc : last4 m F = (crc m F : Int)
    · have e : sumGood (m + 4) F = true := by unfold sumGood; simp [hc]
      have e2 : sumN (m + 4) F = m := by unfold sumN; rw [e]; simp
      rw [e, e2]
      exact getSum_impl_yes m F hN hb hc
    · have e : sumGood (m + 4) F = false := by unfold sumGood; simp [hc]
      have e2 : sumN (m + 4) F = 0 := by unfold sumN; rw [e]; rfl
      rw [e, e2]
      exact getSum_impl_no m F hN hb hc

set_option linter.unusedSimpArgs false in
set_option maxHeartbeats 2000000 in
theorem implDecodeRow_any (a : Option Addr) (n cap : Nat) (fc ft : Nat → Int) (fu fd : Nat → Bool) (b N cb : Nat) (F : Nat → Int) (w : World) (h : PView w a n cap fc ft fu fd) (hv : View w (some ⟨b, 0, none⟩) N cb F) (hn : n ≤ 281474976710656) (hN : N ≤ 1048576) :
    Calls Try.prog 6 #[.slice a n cap, .slice (some ⟨b, 0, none⟩) N cb] w (DecsR w n N F fc ft fu) := by
  obtain ⟨i0, hi, hz0, hz1, hz2⟩ := infoVal3
  have Hnone : Hid (∀ (W : World), Below w.heap.size w W → decROk N F n fc ft fu = false → DecsR w n N F fc ft fu (.returned (.tuple #[.slice (some ⟨W.heap.size, 0, none⟩) 0 0, .bool false])) (W.alloc (.cells #[] 47))) := fun W hB e =>
    ⟨_, 0, by rw [e], by simp, by rw [e]; rfl, World.ownsRow_lit (base := w.heap.size) (e := 47) (size := 3) W #[] 0 hB.size (Nat.zero_le _) rfl, hB.alloc hB.size _⟩
  have hS := getSum_impl_is N F hN hv.byte b cb w hv
  have hFb : Hid (∀ i, i < N → 0 ≤ F i ∧ F i ≤ 255) := hv.byte
  cases hg : sumGood N F with
  | false =>
    have e0 : sumN N F = 0 := by unfold sumN; rw [hg]; rfl
    have HD : Hid (decROk N F n fc ft fu = false) := by show _ = _; unfold decROk; rw [hg]; rfl
    rw [hg, e0] at hS
    clear hv
    go_enter Try.func6, Try.ntmps6
    go_wp2_with fail
    refine hS.mono ?_
    rintro e w1 ⟨gx, cx, rfl, -, hcx, hx, hB1⟩
    have hvx := hx.view hcx (fun i hi => absurd hi (Nat.not_lt_zero _))
    have hu : Hid (getU 0 F 0 = (0, 0, false)) := getU_past 0 F 0 (Nat.le_refl _)
    clear hS hx
    go_wp2_with fail
    refine (getU_impl' _ 0 cx F 0 w1 hu hvx (by omega) (by omega)).mono ?_
    rintro e _ ⟨rfl, rfl⟩
    have HN' : Hid (DecsR w n N F fc ft fu (.returned (.tuple #[.slice (some ⟨w1.heap.size, 0, none⟩) 0 0, .bool false])) (w1.alloc (.cells #[] 47))) := Hnone.out w1 hB1 HD.out
    clear hvx hu Hnone hB1 h
    go_wp2
    exact bodyPost_ret (v := .tuple #[.slice (some ⟨w1.heap.size, 0, none⟩) 0 0, .bool false]) (by simp [results, Try.results6, go_sem]) rfl HN'.out
  | true =>
    have e0 : sumN N F = N - 4 := by unfold sumN; rw [hg]; rfl
    rw [hg, e0] at hS
    have HG0 : Hid (sumGood N F = true) := hg
    have hN4 : 4 ≤ N := by unfold sumGood at hg; simp at hg; exact hg.1
    obtain ⟨M, hM⟩ : ∃ M, Hid (N - 4 = M) := ⟨_, rfl⟩
    have hMN : M ≤ N := by rw [← hM.out]; omega
    rw [hM.out] at hS
    have HD0 : Hid (decROk N F n fc ft fu = rowRd M F n fc ft fu) := by show _ = _; unfold decROk; rw [hg, hM.out]; rfl
    have hbM : Hid (∀ i, i < M → 0 ≤ F i ∧ F i ≤ 255) := fun i hi => hFb.out i (by omega)
    have HV : Hid (View w (some ⟨b, 0, none⟩) N cb F) := hv
    clear hv hg e0
    obtain ⟨cnt0, p0, ok, hu⟩ : ∃ a q ok, Hid (getU M F 0 = (a, q, ok)) := ⟨_, _, _, rfl⟩
    go_enter Try.func6, Try.ntmps6
    go_wp2_with fail
    refine hS.mono ?_
    rintro e w1 ⟨gx, cx, rfl, hgx, hcx, hx, hB1⟩
    have hvx := hx.view hcx hbM.out
    clear hS
    go_wp2_with fail
    refine (getU_impl' _ M cx F 0 w1 hu hvx (by omega) (by omega)).mono ?_
    rintro e _ ⟨rfl, rfl⟩
    cases ok with
    | false =>
      have HD : Hid (decROk N F n fc ft fu = false) := by show _ = _; rw [HD0.out]; unfold rowRd; rw [hu.out]; rfl
      have HN' : Hid (DecsR w n N F fc ft fu (.returned (.tuple #[.slice (some ⟨w1.heap.size, 0, none⟩) 0 0, .bool false])) (w1.alloc (.cells #[] 47))) := Hnone.out w1 hB1 HD.out
      clear hvx hu Hnone hB1 h hx
      go_wp2
      exact bodyPost_ret (v := .tuple #[.slice (some ⟨w1.heap.size, 0, none⟩) 0 0, .bool false]) (by simp [results, Try.results6, go_sem]) rfl HN'.out
    | true =>
      have hubd := getU_bd hbM.out hu.out
      obtain ⟨CN, rfl⟩ : ∃ CN : Nat, cnt0 = CN := ⟨cnt0.toNat, by omega⟩
      have HC0 : Hid (rCnt M F = CN) := by show _ = _; unfold rCnt; rw [hu.out]; rfl
      by_cases hcn : CN = n
      case neg =>
        have hcz : ¬ (CN : Int) = (n : Int) := by omega
        have HD : Hid (decROk N F n fc ft fu = false) := by
          show _ = _
          rw [HD0.out]
          unfold rowRd rowOk
          rw [HC0.out, decide_eq_false hcn]
          simp
        have HN' : Hid (DecsR w n N F fc ft fu (.returned (.tuple #[.slice (some ⟨w1.heap.size, 0, none⟩) 0 0, .bool false])) (w1.alloc (.cells #[] 47))) := Hnone.out w1 hB1 HD.out
        clear hvx hu Hnone hB1 h hx
        go_wp2
        exact bodyPost_ret (v := .tuple #[.slice (some ⟨w1.heap.size, 0, none⟩) 0 0, .bool false]) (by simp [results, Try.results6, go_sem]) rfl HN'.out
      case pos =>
        subst hcn
        have HC : Hid (rCnt M F = CN) := HC0.out
        have Hu2 : Hid ((getU M F 0).2.2 = true) := by show _ = _; rw [hu.out]
        have HQ0 : Hid (rQ M F 0 = some p0) := by show _ = _; rw [rQ, hu.out]
        have hO0 := World.ownsRow_lit (base := w.heap.size) (e := 47) (size := 3) w1 #[] 0 hB1.size (Nat.zero_le _) rfl
        have hb2 : Below w1.heap.size w1 (w1.alloc (.cells #[] 47)) := (Below.refl _ _).alloc (Nat.le_refl _) _
        have hB2 := hB1.trans (hb2.mono hB1.size)
        have hx2 := hx.belowAll hb2
        clear hvx hb2 hx hu
        obtain ⟨W2, hW2⟩ : ∃ W2, Hid (w1.alloc (.cells #[] 47) = W2) := ⟨_, rfl⟩
        rw [hW2.out] at hO0 hB2 hx2
        have hR := rowReader_any (some ⟨gx, 0, none⟩) M cx p0 W2
        go_wp2_with (rw [hW2.out])
        refine hR.mono ?_
        rintro e _ ⟨rfl, rfl⟩
        have bX := (Boxed.new W2 22 (.slice (some ⟨gx, 0, none⟩) M cx)).alloc (.cells #[.int .i64 p0] 3)
        have bA := Boxed.new (W2.alloc (.cells #[.slice (some ⟨gx, 0, none⟩) M cx] 22)) 3 (.int .i64 p0)
        have hb3 : Below W2.heap.size W2 ((W2.alloc (.cells #[.slice (some ⟨gx, 0, none⟩) M cx] 22)).alloc (.cells #[.int .i64 p0] 3)) := ((Below.refl _ _).alloc (Nat.le_refl _) _).alloc (by simp) _
        have hO3 := own_below3 hO0 hb3
        have hx3 := hx2.belowAll hb3
        have hB3 := hB2.trans (hb3.mono hB2.size)
        have hsz : (W2.alloc (.cells #[.slice (some ⟨gx, 0, none⟩) M cx] 22)).heap.size = W2.heap.size + 1 := by simp
        rw [hsz] at bA
        have hwA := hB2.size
        obtain ⟨W3, hW3⟩ : ∃ W3, Hid ((W2.alloc (.cells #[.slice (some ⟨gx, 0, none⟩) M cx] 22)).alloc (.cells #[.int .i64 p0] 3) = W3) := ⟨_, rfl⟩
        obtain ⟨X, hX⟩ : ∃ X, Hid (W2.heap.size = X) := ⟨_, rfl⟩
        rw [hW3.out] at bX bA hO3 hx3 hB3 ⊢
        rw [hX.out] at bX bA hwA ⊢
        clear hb3 hO0 hx2 hB2 hR hsz hB1
        go_wp2
        go_loopg [11, 44] CN (fun q o i wr => ∃ (k : Nat) (v : Value) (p : Int), k ≤ CN ∧ q = CN - k ∧ v = o ∧ i = .int .i64 k ∧ v ≠ .slice none 0 0 ∧ rQ M F k = some p ∧ wr.ownsRow w.heap.size 47 3 v k (rowC (rK M F) (rN M F) (rS M F) k) ∧ Row 5 wr gx M F ∧ Boxed wr X 22 (.slice (some ⟨gx, 0, none⟩) M cx) ∧ Boxed wr (X + 1) 3 (.int .i64 p) ∧ Below w.heap.size w wr)
        case atStart => exact ⟨0, _, p0, by omega, rfl, rfl, rfl, by simp, HQ0.out, hO3, hx3, bX, bA, hB3⟩
        case round =>
          clear hO3 hx3 hB3 bX bA
          obtain ⟨k, bv, p, hkC, rfl, hbv, rfl, hne, hq, hown, hxr, bX, bA, hB⟩ := hrel
          subst hbv
          have Hne : Hid (bv ≠ .slice none 0 0) := hne
          have HQ : Hid (rQ M F k = some p) := hq
          have hpb := rQ_bd hbM.out Hu2.out hq
          clear hne hq
          by_cases hlt : k < CN
          · have hkz : (k : Int) < (CN : Int) := by omega
            obtain ⟨kk, y, s, q, ok, hgr⟩ : ∃ kk y s q ok, getRI M F p = ⟨kk, y, s, q, ok⟩ := ⟨_, _, _, _, _, rfl⟩
            have hC := rowReader1_any X (X + 1) gx M cx F p wr bX bA (hxr.view hcx hbM.out) (by omega) (by omega) (by omega)
            rw [hgr] at hC
            have HGR : Hid (getRI M F p = ⟨kk, y, s, q, ok⟩) := hgr
            have hg1 : gx ≠ X + 1 := fun e => by
              subst e
              obtain ⟨c', h1, -⟩ := hxr
              have h2 : wr.heap[X + 1]? = _ := bA
              rw [h1] at h2
              simp at h2
            clear hgr
            go_wp2_with fail
            refine hC.mono ?_
            cases ok with
            | false =>
              rintro e w3 ⟨rfl, hbt, -⟩
              have HD : Hid (decROk N F CN fc ft fu = false) := by
                show _ = _
                rw [HD0.out]
                exact rowRd_no hbM.out HQ.out (by rw [HC.out]; exact hlt) (by rw [HGR.out])
              have hB3 : Below w.heap.size w w3 := hB.trans (hbt.below (by omega) hB.size)
              have hB4 : Below w.heap.size w (w3.alloc (.cells #[.int .i64 kk, .int .i64 y, .string s] 47)) := hB3.alloc hB3.size _
              have HN' : Hid (DecsR w CN N F fc ft fu (.returned (.tuple #[.slice (some ⟨(w3.alloc (.cells #[.int .i64 kk, .int .i64 y, .string s] 47)).heap.size, 0, none⟩) 0 0, .bool false])) ((w3.alloc (.cells #[.int .i64 kk, .int .i64 y, .string s] 47)).alloc (.cells #[] 47))) := Hnone.out _ hB4 HD.out
              clear Hnone hC hown hB3 hB4 hbt hxr bX bA
              go_wp2
              refine bodyPost_ret (v := .tuple #[.slice (some ⟨w3.heap.size + 1, 0, none⟩) 0 0, .bool false]) (by simp [results, Try.results6, go_sem]) rfl ?_
              have := HN'.out
              rw [World.size_alloc] at this
              exact this
            | true =>
              rintro e w3 ⟨rfl, hbt, hbA⟩
              have bA3 := hbA rfl
              simp only at bA3
              have hgR : getR M F p = ⟨kk, y, s, q, true⟩ := by rw [← HGR.out]; exact getRI_yes (by rw [HGR.out])
              have hgG : rG M F k = ⟨kk, y, s, q, true⟩ := by unfold rG; rw [HQ.out]; exact hgR
              have HK : Hid (rK M F k = kk ∧ rN M F k = y ∧ rS M F k = s) := by show _ ∧ _ ∧ _; unfold rK rN rS; rw [hgG]; exact ⟨rfl, rfl, rfl⟩
              have HQ2 : Hid (rQ M F (k + 1) = some q) := by show _ = _; rw [rQ, HQ.out]; show (if (getR M F p).ok = true then _ else _) = _; rw [hgR]; rfl
              clear hgR hgG
              have hB3 : Below w.heap.size w w3 := hB.trans (hbt.below (by omega) hB.size)
              have hown3 := hown.kept hbt.grown (.inr (bA.not_row (by decide) hown).symm)
              have bX3 : Boxed w3 X 22 (.slice (some ⟨gx, 0, none⟩) M cx) := (hbt.block X bX.lt (by omega)).trans bX
              have hx3 := hbt.row hxr hg1
              have hba : Below w3.heap.size w3 (w3.alloc (.cells #[.int .i64 kk, .int .i64 y, .string s] 47)) := (Below.refl _ _).alloc (Nat.le_refl _) _
              have hV3 := Box.new w3 kk y s
              have hown4 := own_below3 hown3 hba
              have hB4 := hB3.trans (hba.mono hB3.size)
              have hx4 := hx3.belowAll hba
              have bX4 := bX3.alloc (.cells #[.int .i64 kk, .int .i64 y, .string s] 47)
              have bA4 := bA3.alloc (.cells #[.int .i64 kk, .int .i64 y, .string s] 47)
              obtain ⟨W4, hW4⟩ : ∃ W4, Hid (w3.alloc (.cells #[.int .i64 kk, .int .i64 y, .string s] 47) = W4) := ⟨_, rfl⟩
              obtain ⟨A3, hA3⟩ : ∃ A3, Hid (w3.heap.size = A3) := ⟨_, rfl⟩
              rw [hW4.out] at hV3 hown4 hB4 hx4 bX4 bA4
              rw [hA3.out] at hV3
              obtain ⟨z0, z1, z2⟩ := hV3.cells
              have hcl := cells_one W4 kk y s
              have hs4 := hB4.size
              clear hown hba hC hB3 hB hxr hbt hbA bA bX bA3 bX3 hown3 hx3
              go_wp2_with (first | rw [hW4.out, hA3.out] | (at_builtin; refine wpList_append_own _ rfl (.tmp 54) (.tmp 56) 27 rfl w.heap.size 47 i0 (.agg #[.int .i64 0, .int .i64 0, .string ⟨#[]⟩]) 3 32 Try.underlying27 hi hz0 hz1 hz2 rfl (by decide) bv _ _ rfl (own_below3 hown4 ((Below.refl _ _).alloc (Nat.le_refl _) _)) ⟨W4.heap.size, 0, none⟩ 1 1 [.int .i64 kk, .int .i64 y, .string s] rfl rfl hcl (one_cells _ _ _) (by unfold maxLen; omega) (by omega) (by simp; omega) ?_; intro v5 w5 hown5 hgr5 hnil5))
              have HO5 : Hid (w5.ownsRow w.heap.size 47 3 v5 (k + 1) (rowC (rK M F) (rN M F) (rS M F) (k + 1))) := by
                rw [rowC, HK.out.1, HK.out.2.1, HK.out.2.2]; exact hown5
              have HNE : Hid (v5 ≠ .slice none 0 0) := fun e => Hne.out (hnil5.1 e).1
              have hb5 : Below W4.heap.size W4 (W4.alloc (.cells #[.int .i64 kk, .int .i64 y, .string s] 47)) := (Below.refl _ _).alloc (Nat.le_refl _) _
              have HB5 : Hid (Below w.heap.size w w5) := (hB4.trans (hb5.mono hs4)).grown hgr5 (by have := (hB4.trans (hb5.mono hs4)).size; exact this) (fun j e => ((own_below3 hown4 hb5).lt j e).1)
              have HX5 : Hid (Row 5 w5 gx M F) := (hx4.belowAll hb5).of_block (hgr5.block gx (hx4.belowAll hb5).lt (Row.not_own (hx4.belowAll hb5) (by decide) (own_below3 hown4 hb5)))
              have HBX5 : Hid (Boxed w5 X 22 (.slice (some ⟨gx, 0, none⟩) M cx)) := (bX4.alloc _).kept hgr5 ((bX4.alloc _).not_row (by decide) (own_below3 hown4 hb5))
              have HBA5 : Hid (Boxed w5 (X + 1) 3 (.int .i64 q)) := (bA4.alloc _).kept hgr5 ((bA4.alloc _).not_row (by decide) (own_below3 hown4 hb5))
              clear hown4 hown5 hgr5 hnil5 hcl hB4 hx4 hb5 hV3 z0 z1 z2 bX4 bA4
              go_wp2
              go_roundg (CN - (k + 1))
              case measure => omega
              case rel => exact ⟨k + 1, v5, q, by omega, rfl, rfl, by go_num, HNE.out, HQ2.out, HO5.out, HX5.out, HBX5.out, HBA5.out, HB5.out⟩
          · have hloop : ¬ (k : Int) < (CN : Int) := by omega
            obtain rfl : k = CN := by omega
            obtain ⟨a5, c5, rfl, hvv, -⟩ := vview_of_own hown
            have hC := implRowOk_any a k cap fc ft fu fd a5 k c5 (rK M F) (rN M F) (rS M F) wr (h.below hB) hvv hn hn
            have HO : Hid (wr.ownsRow w.heap.size 47 3 (.slice a5 k c5) k (rowC (rK M F) (rN M F) (rS M F) k)) := hown
            clear hown hxr bX bA
            cases hro : rowOk k fc ft fu k (rK M F) (rN M F) (rS M F) with
            | false =>
              have HD : Hid (decROk N F k fc ft fu = false) := by
                show _ = _
                rw [HD0.out]
                unfold rowRd
                rw [HC.out, hro]
                simp
              rw [hro] at hC
              clear hvv
              go_wp2_with fail
              refine hC.mono ?_
              rintro e w4 ⟨rfl, hb4⟩
              have hB4 := hB.trans (hb4.mono hB.size)
              have HN' : Hid (DecsR w k N F fc ft fu (.returned (.tuple #[.slice (some ⟨w4.heap.size, 0, none⟩) 0 0, .bool false])) (w4.alloc (.cells #[] 47))) := Hnone.out _ hB4 HD.out
              clear hC hb4 hB4 Hnone hB h
              go_wp2
              exact bodyPost_ret (v := .tuple #[.slice (some ⟨w4.heap.size, 0, none⟩) 0 0, .bool false]) (by simp [results, Try.results6, go_sem]) rfl HN'.out
            | true =>
              have HRO : Hid (rowOk k fc ft fu k (rK M F) (rN M F) (rS M F) = true) := hro
              rw [hro] at hC
              clear hro
              go_wp2_with fail
              refine hC.mono ?_
              rintro e w4 ⟨rfl, hb4⟩
              have hB4 := hB.trans (hb4.mono hB.size)
              have HO4 : Hid (w4.ownsRow w.heap.size 47 3 (.slice a5 k c5) k (rowC (rK M F) (rN M F) (rS M F) k)) := own_below3 HO.out hb4
              have hC2 := implEncodeRow_any a k cap fc ft fu fd a5 k c5 (rK M F) (rN M F) (rS M F) w4 (h.below hB4) (hvv.below hb4) hn hn
              have HEQ := dec_eq (n := k) (fc := fc) (ft := ft) (fu := fu) (p := p) hFb.out HG0.out (by rw [hM.out]; exact Hu2.out) (by rw [hM.out]; exact HC.out) (by rw [hM.out]; exact HQ.out) (by rw [hM.out]; exact HRO.out)
              rw [hM.out] at HEQ
              have HEb : Hid (∀ y ∈ encB k fc ft fu k (rK M F) (rN M F) (rS M F), 0 ≤ y ∧ y ≤ 255) := by
                show ∀ y ∈ _, _
                unfold encB
                rw [HRO.out]
                exact sumB_byte (rowB_byte _ _ _ _)
              obtain ⟨L, hL⟩ : ∃ L, Hid (encB k fc ft fu k (rK M F) (rN M F) (rS M F) = L) := ⟨_, rfl⟩
              rw [hL.out] at hC2 HEQ HEb
              have HEQ' : Hid (L = lof N F ↔ rowRd M F k fc ft fu = true) := HEQ
              clear hC HEQ hvv hB HO
              go_wp2_with fail
              refine hC2.mono ?_
              rintro e w5 ⟨g5, c5', rfl, hE5⟩
              have hV5 := hE5.byte HEb.out
              have hB5 := hB4.trans (hE5.below.mono hB4.size)
              have HO5 : Hid (w5.ownsRow w.heap.size 47 3 (.slice a5 k c5) k (rowC (rK M F) (rN M F) (rS M F) k)) := own_below3 HO4.out hE5.below
              have hQ := equal_any g5 0 L.length c5' _ b 0 N cb F w5 hV5 (HV.out.below hB5)
              rw [lof_self] at hQ
              obtain ⟨o, ho⟩ : ∃ o, Hid (((strOfNums L).toList == (strOfNums (lof N F)).toList) = o) := ⟨_, rfl⟩
              rw [ho.out] at hQ
              have HD : Hid (decROk N F k fc ft fu = o) := by
                show _ = _
                rw [HD0.out, ← ho.out]
                have e1 : ((strOfNums L).toList == (strOfNums (lof N F)).toList) = true ↔ L = lof N F := by
                  rw [beq_iff_eq]
                  constructor
                  · intro h
                    refine strOfNums_inj HEb.out (lof_byte hFb.out) ?_
                    rw [ByteArray.toList_eq, ByteArray.toList_eq] at h
                    exact ByteArray.ext (Array.ext' h)
                  · intro h; rw [h]
                rw [Bool.eq_iff_iff, e1]
                exact HEQ'.out.symm
              clear hC2 hE5 hV5 hB4 hb4 HO4 ho
              go_wp2_with fail
              refine hQ.mono ?_
              rintro e _ ⟨rfl, rfl⟩
              clear hQ
              cases o with
              | true =>
                have HR : Hid (DecsR w k N F fc ft fu (.returned (.tuple #[.slice a5 k c5, .bool true])) w5) := by
                  refine ⟨_, k, by rw [HD.out], Hne.out, ?_, ?_, hB5⟩
                  · rw [HD.out, hM.out, HC.out]; rfl
                  · rw [hM.out]; exact HO5.out
                clear Hnone hB5 h
                go_wp2
                exact bodyPost_ret (v := .tuple #[.slice a5 k c5, .bool true]) (by simp [results, Try.results6, go_sem]) rfl HR.out
              | false =>
                have HN' : Hid (DecsR w k N F fc ft fu (.returned (.tuple #[.slice (some ⟨w5.heap.size, 0, none⟩) 0 0, .bool false])) (w5.alloc (.cells #[] 47))) := Hnone.out _ hB5 HD.out
                clear Hnone hB5 h
                go_wp2
                exact bodyPost_ret (v := .tuple #[.slice (some ⟨w5.heap.size, 0, none⟩) 0 0, .bool false]) (by simp [results, Try.results6, go_sem]) rfl HN'.out
end Go.Proofs.Ytikopeihkbpjhad

/-
  What the law's own helpers sameBytes and begins come to, at every two slices of bytes that read.
-/
namespace Go.Proofs.Ytikopeihkbpjhad
open Go.RowKit
set_option maxRecDepth 4000

set_option maxHeartbeats 1000000 in
theorem sameBytes_any (a1 a2 : Option Addr) (n m c1 c2 : Nat) (f g : Nat → Int) (w : World) (h1 : View w a1 n c1 f) (h2 : View w a2 m c2 g) (hn : n ≤ 281474976710656) (hm : m ≤ 281474976710656) :
    Calls Try.prog 9 #[.slice a1 n c1, .slice a2 m c2] w fun e w' => e = .returned (.bool (decide (lof n f = lof m g))) ∧ Below w.heap.size w w' := by
  by_cases hnm : n = m
  · subst hnm
    have q0 : ((n : Int) != (n : Int)) = false := by simp
    go_enter Try.func9, Try.ntmps9
    go_wp2
    go_loopg [5] n (fun q i wr => ∃ k : Nat, k ≤ n ∧ q = n - k ∧ i = .int .i64 k ∧ Below w.heap.size w wr ∧ ∀ j, j < k → f j = g j)
    case atStart => exact ⟨0, Nat.zero_le _, rfl, rfl, Below.refl _ _, fun j hj => absurd hj (Nat.not_lt_zero _)⟩
    case round =>
      obtain ⟨k, hk, rfl, rfl, hB, hE⟩ := hrel
      have HE : Hid (∀ j, j < k → f j = g j) := hE
      clear hE
      by_cases hlt : k < n
      · obtain ⟨b1, o1, rfl, hb1, hc1⟩ := h1.cells (by omega)
        obtain ⟨b2, o2, rfl, hb2, hc2⟩ := h2.cells (by omega)
        have hkz : (k : Int) < (n : Int) := by omega
        have e1 : wr.cell? ⟨b1, o1 + k, none⟩ = some (.int .u8 (f k)) := by rw [hB.cell (p := ⟨b1, o1 + k, none⟩) hb1]; exact hc1 k hlt
        have e2 : wr.cell? ⟨b2, o2 + k, none⟩ = some (.int .u8 (g k)) := by rw [hB.cell (p := ⟨b2, o2 + k, none⟩) hb2]; exact hc2 k hlt
        clear hc1 hc2
        by_cases he : f k = g k
        · have q1 : (f k != g k) = false := by simpa using he
          have HE2 : Hid (∀ j, j < k + 1 → f j = g j) := fun j hj => by
            by_cases e : j = k
            · subst e; exact he
            · exact HE.out j (by omega)
          clear he
          go_wp2
          go_region
          all_goals go_wp2
          all_goals
            go_roundg (n - (k + 1))
            case measure => omega
            case rel => exact ⟨k + 1, by omega, rfl, by go_num, by first | exact hB.drew | exact hB, HE2.out⟩
        · have q1 : (f k != g k) = true := by simpa using he
          have HD : Hid (decide (lof n f = lof n g) = false) := by
            show _ = _
            rw [decide_eq_false_iff_not, lof_eq]
            exact fun h => he (h k hlt)
          clear he
          go_wp2
          go_region
          all_goals go_wp2
          all_goals
            go_ret
            exact ⟨by rw [HD.out]; rfl, by first | exact hB.drew | exact hB⟩
      · obtain rfl : k = n := by omega
        have HD : Hid (decide (lof k f = lof k g) = true) := by
          show _ = _
          rw [decide_eq_true_iff, lof_eq]
          exact HE.out
        go_wp2
        go_ret
        exact ⟨by rw [HD.out]; rfl, hB⟩
  · have q0 : ((n : Int) != (m : Int)) = true := by simp; omega
    have HD : Hid (decide (lof n f = lof m g) = false) := by
      show _ = _
      rw [decide_eq_false_iff_not]
      intro h
      have := congrArg List.length h
      rw [lof_len, lof_len] at this
      exact hnm this
    go_enter Try.func9, Try.ntmps9
    go_wp2
    go_ret
    exact ⟨by rw [HD.out]; rfl, Below.refl _ _⟩
end Go.Proofs.Ytikopeihkbpjhad

/-
  Whether a code is too long.
-/
namespace Go.Proofs.Ytikopeihkbpjhad
open Go.RowKit
set_option maxRecDepth 4000

theorem big_any (ao : Option Addr) (n cap : Nat) (w : World) (_hn : n ≤ 9223372036854775807) :
    Calls Try.prog 4 #[.slice ao n cap] w fun e w' => e = .returned (.bool (decide ((1048576 : Int) < (n : Int)))) ∧ w = w' := by
  go_enter Try.func4, Try.ntmps4
  go_wp2
  go_ret
  exact ⟨rfl, rfl⟩

end Go.Proofs.Ytikopeihkbpjhad

/-
  The walk over the law FnRowsRead: it answers true and writes nothing that was there, at every code that reads.
-/
namespace Go.Proofs.Ytikopeihkbpjhad
open Go.RowKit
set_option maxRecDepth 4000

set_option linter.unusedSimpArgs false in
set_option maxHeartbeats 2000000 in
theorem lawRowsRead (ao : Option Addr) (N cap : Nat) (f : Nat → Int) (w : World) (hv0 : View w ao N cap f) (hlen : N ≤ 9223372036854775807) :
    Calls Try.prog 3 #[.slice ao N cap] w fun e w' => e = .returned (.bool true) ∧ Below w.heap.size w w' := by
  by_cases hbig : (1048576 : Int) < (N : Int)
  · go_enter Try.func3, Try.ntmps3
    go_wp2_with fail
    refine (big_any ao N cap w hlen).mono ?_
    rw [decide_eq_true hbig]
    rintro e _ ⟨rfl, rfl⟩
    go_wp2
    go_ret
    exact ⟨rfl, Below.refl _ _⟩
  go_enter Try.func3, Try.ntmps3
  go_wp2_with fail
  refine (big_any ao N cap w hlen).mono ?_
  rw [decide_eq_false (by omega : ¬ (1048576 : Int) < (N : Int))]
  rintro e _ ⟨rfl, rfl⟩
  go_wp2_with fail
  refine (drawDecodeRow_any ao N cap f w (by omega) hv0).mono ?_
  rintro e w2 ⟨⟨a, m, cp, b, K, c1, gc, gt, gu, gd, F, rfl, hD⟩, hB⟩
  have hfew := hD.few
  have hp := hD.plan
  have hv := hD.bytes
  clear hD hv0
  have HRd : Hid (decROk K F m gc gt gu = true → rowOk m gc gt gu (rCnt (K - 4) F) (rK (K - 4) F) (rN (K - 4) F) (rS (K - 4) F) = true ∧ encB m gc gt gu (rCnt (K - 4) F) (rK (K - 4) F) (rN (K - 4) F) (rS (K - 4) F) = lof K F) := fun h => by
    unfold decROk at h
    simp only [Bool.and_eq_true] at h
    exact row_read hv.byte h.1 h.2
  obtain ⟨o, ho⟩ : ∃ o, Hid (decROk K F m gc gt gu = o) := ⟨_, rfl⟩
  have q : (o == o) = true := by cases o <;> rfl
  go_wp2_with fail
  refine (implDecodeRow_any a m cp gc gt gu gd b K c1 F _ hp hv (by omega) (by omega)).mono ?_
  rintro e w3 ⟨v1, M1, he, hne, hM1, hO, hb⟩
  rw [ho.out] at he hM1
  subst he
  obtain ⟨au1, cu1, rfl, hu, -⟩ := vview_of_own hO
  have HM1 : Hid (M1 = if o = true then rCnt (K - 4) F else 0) := hM1
  clear hO hne hM1
  replace hp := hp.below hb
  replace hv := hv.below hb
  replace hB := hB.trans (hb.mono hB.size)
  clear hb
  go_wp2_with fail
  refine (specDecodeRow_any a m cp gc gt gu gd b K c1 F _ hp hv (by omega) (by omega)).mono ?_
  rintro e w4 ⟨v2, M2, he, -, -, hO2, hb⟩
  rw [ho.out] at he
  subst he
  clear hO2
  replace hp := hp.below hb
  replace hv := hv.below hb
  replace hu := hu.below hb
  replace hB := hB.trans (hb.mono hB.size)
  clear hb
  cases o with
  | false =>
    have hM0 : M1 = 0 := HM1.out
    subst hM0
    clear hp hv hu HRd
    go_wp2
    go_ret
    exact ⟨rfl, hB⟩
  | true =>
    have hM0 : M1 = rCnt (K - 4) F := HM1.out
    clear HM1
    have hR := HRd.out ho.out
    rw [← hM0] at hR
    have hok : Hid (rowOk m gc gt gu M1 (rK (K - 4) F) (rN (K - 4) F) (rS (K - 4) F) = true) := hR.1
    have hen : Hid (encB m gc gt gu M1 (rK (K - 4) F) (rN (K - 4) F) (rS (K - 4) F) = lof K F) := hR.2
    have hmn : M1 = m := (rowOk_iff.1 hR.1).2.1
    clear hR HRd hM0 ho
    generalize rK (K - 4) F = fk at *
    generalize rN (K - 4) F = fn at *
    generalize rS (K - 4) F = fs at *
    subst hmn
    have h7 : M1 ≤ 7 := hfew.1
    have hK : K ≤ 2000 := hfew.2
    clear hfew
    go_wp2_with fail
    refine (implRowOk_any a M1 cp gc gt gu gd _ M1 cu1 fk fn fs _ hp hu (by omega) (by omega)).mono ?_
    rw [hok.out]
    rintro e w5 ⟨rfl, hb⟩
    replace hp := hp.below hb
    replace hv := hv.below hb
    replace hu := hu.below hb
    replace hB := hB.trans (hb.mono hB.size)
    clear hb
    go_wp2_with fail
    refine (implEncodeRow_any a M1 cp gc gt gu gd _ M1 cu1 fk fn fs _ hp hu (by omega) (by omega)).mono ?_
    rw [hen.out]
    rintro e w6 ⟨g6, c6, rfl, hE⟩
    have hb := hE.below
    have hx := hE.row.view hE.le (fun i hi => by
      rw [lof_len] at hi
      show 0 ≤ (lof K F).getD i 0 ∧ (lof K F).getD i 0 ≤ 255
      have e : (lof K F).getD i 0 = F i := by simp [lof, hi]
      rw [e]; exact hv.byte i hi)
    clear hE
    rw [lof_len] at hx ⊢
    replace hv := hv.below hb
    replace hB := hB.trans (hb.mono hB.size)
    clear hb hp hu
    have HS : Hid (decide (lof K (fun i => (lof K F).getD i 0) = lof K F) = true) := by
      apply decide_eq_true
      have := lof_self (lof K F)
      rw [lof_len] at this
      exact this
    go_wp2_with fail
    refine (sameBytes_any _ _ K K c6 c1 _ _ _ hx hv (by omega) (by omega)).mono ?_
    rintro e w7 ⟨he, hb⟩
    replace hB := hB.trans (hb.mono hB.size)
    clear hb hx hv
    have he' : e = .returned (.bool true) := by rw [he, HS.out]
    subst he'
    go_wp2
    go_ret
    exact ⟨rfl, hB⟩
end Go.Proofs.Ytikopeihkbpjhad

