/-
  Together: SameB, Big, LawNodes
-/
import Derived.Test.YtaiinlcdfeboiaaNP11
import Derived.Test.YtaiinlcdfeboiaaNP1
import Derived.Test.YtaiinlcdfeboiaaNP14
import Derived.Test.YtaiinlcdfeboiaaNP15
import Derived.Deep.RegionHeld3
/-
  What the law's own helpers sameBytes and begins come to, at every two slices of bytes that read.
-/
namespace Go.Proofs.Ytaiinlcdfeboiaa
open Go.RowKit
set_option maxRecDepth 4000

set_option maxHeartbeats 1000000 in
theorem sameBytes_any (a1 a2 : Option Addr) (n m c1 c2 : Nat) (f g : Nat → Int) (w : World) (h1 : View w a1 n c1 f) (h2 : View w a2 m c2 g) (hn : n ≤ 281474976710656) (hm : m ≤ 281474976710656) :
    Calls Try.prog 15 #[.slice a1 n c1, .slice a2 m c2] w fun e w' => e = .returned (.bool (decide (lof n f = lof m g))) ∧ Below w.heap.size w w' := by
  by_cases hnm : n = m
  · subst hnm
    have q0 : ((n : Int) != (n : Int)) = false := by simp
    go_enter Try.func15, Try.ntmps15
    go_wp2
    go_loopg [5] n (fun q i wr => ∃ k : Nat, k ≤ n ∧ q = n - k ∧ i = .int .i64 k ∧ Below w.heap.size w wr ∧ ∀ j, j < k → f j = g j)
    case atStart => exact ⟨0, Nat.zero_le _, rfl, rfl, Below.refl _ _, fun j hj => absurd hj (Nat.not_lt_zero _)⟩
    case round =>
      obtain ⟨k, hk, rfl, rfl, hB, hE⟩ := hrel
      have HE : Hid (∀ j, j < k → f j = g j) := hE
      clear hE
      by_cases hlt : k < n
      · obtain ⟨b1, o1, rfl, hb1, hc1⟩ := h1.cells (by omega)
        obtain ⟨b2, o2, rfl, hb2, hc2⟩ := h2.cells (by omega)
        have hkz : (k : Int) < (n : Int) := by omega
        have e1 : wr.cell? ⟨b1, o1 + k, none⟩ = some (.int .u8 (f k)) := by rw [hB.cell (p := ⟨b1, o1 + k, none⟩) hb1]; exact hc1 k hlt
        have e2 : wr.cell? ⟨b2, o2 + k, none⟩ = some (.int .u8 (g k)) := by rw [hB.cell (p := ⟨b2, o2 + k, none⟩) hb2]; exact hc2 k hlt
        clear hc1 hc2
        by_cases he : f k = g k
        · have q1 : (f k != g k) = false := by simpa using he
          have HE2 : Hid (∀ j, j < k + 1 → f j = g j) := fun j hj => by
            by_cases e : j = k
            · subst e; exact he
            · exact HE.out j (by omega)
          clear he
          go_wp2
          go_region
          all_goals go_wp2
          all_goals
            go_roundg (n - (k + 1))
            case measure => omega
            case rel => exact ⟨k + 1, by omega, rfl, by go_num, by first | exact hB.drew | exact hB, HE2.out⟩
        · have q1 : (f k != g k) = true := by simpa using he
          have HD : Hid (decide (lof n f = lof n g) = false) := by
            show _ = _
            rw [decide_eq_false_iff_not, lof_eq]
            exact fun h => he (h k hlt)
          clear he
          go_wp2
          go_region
          all_goals go_wp2
          all_goals
            go_ret
            exact ⟨by rw [HD.out]; rfl, by first | exact hB.drew | exact hB⟩
      · obtain rfl : k = n := by omega
        have HD : Hid (decide (lof k f = lof k g) = true) := by
          show _ = _
          rw [decide_eq_true_iff, lof_eq]
          exact HE.out
        go_wp2
        go_ret
        exact ⟨by rw [HD.out]; rfl, hB⟩
  · have q0 : ((n : Int) != (m : Int)) = true := by simp; omega
    have HD : Hid (decide (lof n f = lof m g) = false) := by
      show _ = _
      rw [decide_eq_false_iff_not]
      intro h
      have := congrArg List.length h
      rw [lof_len, lof_len] at this
      exact hnm this
    go_enter Try.func15, Try.ntmps15
    go_wp2
    go_ret
    exact ⟨by rw [HD.out]; rfl, Below.refl _ _⟩
end Go.Proofs.Ytaiinlcdfeboiaa

/-
  Whether a code is too long.
-/
namespace Go.Proofs.Ytaiinlcdfeboiaa
open Go.RowKit
set_option maxRecDepth 4000

theorem big_any (ao : Option Addr) (n cap : Nat) (w : World) (_hn : n ≤ 9223372036854775807) :
    Calls Try.prog 8 #[.slice ao n cap] w fun e w' => e = .returned (.bool (decide ((1048576 : Int) < (n : Int)))) ∧ w = w' := by
  go_enter Try.func8, Try.ntmps8
  go_wp2
  go_ret
  exact ⟨rfl, rfl⟩

end Go.Proofs.Ytaiinlcdfeboiaa

/-
  The walk over the law FnNodes.
-/
namespace Go.Proofs.Ytaiinlcdfeboiaa
open Go.RowKit
set_option maxRecDepth 4000

theorem okS_of {L : NL} (h : Small 100 L) (k : OkI L.pn) : OkS L.pn := by
  refine ⟨k, ?_⟩
  rcases k.2.1 with ⟨-, -, -, -, h5, -⟩ | ⟨h1, h2, -, -⟩
  · exact h5
  · exact fun i hi => getD_of (P := fun s : ByteArray => s.size ≤ 48) (h.kd h1 h2) hi
/-- The two readings agree on a drawn node's bent bytes. -/
theorem bentN_ok {m : Nat} {F : Nat → Int} (h : BentN m F) {E : PNode} (hE : OkI E) (he : bytesN E = lof m F) : OkS E := by
  refine ⟨hE, ?_⟩
  rcases h with rfl | ⟨D, hD, hg, ht⟩
  · have hl := congrArg List.length he
    rw [bytesN_shape hE.shape, lof_len] at hl
    have := (groups_len (mk E)).1
    simp only [List.length_append] at hl
    omega
  · exact bent_short hD hg ht hE he
theorem putI_ok {D : PNode} (h : OkI D) : putI D = bytesN D := if_pos h
theorem lof_getD (m : Nat) (F : Nat → Int) : lof m (fun i => (lof m F).getD i 0) = lof m F := by
  have := lof_self (lof m F)
  rw [lof_len] at this
  exact this

set_option maxHeartbeats 16000000 in
theorem lawNodes (ao : Option Addr) (n cap : Nat) (f : Nat → Int) (w : World) (hv : View w ao n cap f) (hn63 : n ≤ 9223372036854775807) :
    Calls Try.prog 3 #[.slice ao n cap] w fun e w' => e = .returned (.bool true) ∧ Below w.heap.size w w' := by
  by_cases hbig : 1048576 < n
  · have hd : decide ((1048576 : Int) < (n : Int)) = true := by simp; omega
    go_enter Try.func3, Try.ntmps3
    go_wp2_with fail
    refine (big_any ao n cap w hn63).mono ?_
    rw [hd]
    rintro e _ ⟨rfl, rfl⟩
    go_wp2
    go_ret
    exact ⟨rfl, Below.refl _ _⟩
  have hd : decide ((1048576 : Int) < (n : Int)) = false := by simp; omega
  have hn : n ≤ 1048576 := by omega
  clear hbig
  go_enter Try.func3, Try.ntmps3
  go_wp2_with fail
  refine (big_any ao n cap w hn63).mono ?_
  rw [hd]
  rintro e _ ⟨rfl, rfl⟩
  clear hd
  go_wp2_with fail
  refine (drawPutNode_any ao n cap f w hn hv).mono ?_
  rintro e w1 ⟨L, v, rfl, hD, hSm, hb1⟩
  have HF : Hid (NFine L.pn ∧ (OkI L.pn → OkS L.pn)) := ⟨hSm.fine, okS_of hSm⟩
  have hvw := hD.view
  obtain ⟨D, hDe⟩ := hidN L.pn
  rw [hDe.out] at HF hvw
  clear hD hSm hDe
  obtain ⟨xa, xb, xc, xd, xe, xf, rfl, hx1, hx2, hx3⟩ := hvw.is
  clear hx1 hx2 hx3
  obtain ⟨lf, hlf⟩ := hidN D.leaf
  obtain ⟨nk, hnk⟩ := hidN D.nk
  obtain ⟨nv, hnv⟩ := hidN D.nv
  obtain ⟨nd, hnd⟩ := hidN D.nd
  rw [hlf.out, hnk.out, hnv.out, hnd.out] at hvw ⊢
  clear hlf hnk hnv hnd
  obtain ⟨W1, hW1⟩ := hidN (w1.alloc (.cells #[.bool lf, .slice xa nk xb, .slice xc nv xd, .slice xe nd xf] 27))
  obtain ⟨X, hXe⟩ := hidN w1.heap.size
  have hb1X : Below w1.heap.size w1 W1 := by rw [← hW1.out]; exact (Below.refl _ _).alloc (Nat.le_refl _) _
  have HB1 : Hid (Below w.heap.size w W1) := hb1.trans (hb1X.mono hb1.size)
  have HXV : Hid (V4 W1 X 27 (.bool lf) (.slice xa nk xb) (.slice xc nv xd) (.slice xe nd xf)) := by rw [← hW1.out, ← hXe.out]; exact V4.new w1 _ _ _ _ _
  have HVX : Hid (NdView W1 (.agg #[.bool lf, .slice xa nk xb, .slice xc nv xd, .slice xe nd xf]) D) := hvw.below hb1X
  have HX : Hid (∀ W, Below W1.heap.size W1 W → W.cell? ⟨X, 0, none⟩ = some (.bool lf) ∧ W.cell? ⟨X, 1, none⟩ = some (.slice xa nk xb) ∧ W.cell? ⟨X, 2, none⟩ = some (.slice xc nv xd) ∧ W.cell? ⟨X, 3, none⟩ = some (.slice xe nd xf)) := fun W hb => (HXV.out.below hb).cells
  have hPut := implPutNode_any _ D W1 HVX.out HF.out.1
  obtain ⟨x0, x1, x2, x3⟩ := HX.out W1 (Below.refl _ _)
  clear hvw hb1 hb1X
  go_wp2_with (rw [hW1.out, hXe.out])
  refine hPut.mono ?_
  rintro e w2 ⟨u, rfl, hbr, hb2⟩
  obtain ⟨g4, c4, rfl, hv4⟩ := hbr.view (putI_byte D)
  obtain ⟨N, hN⟩ := hidN (putI D).length
  rw [hN.out] at hv4 ⊢
  have HV4 : Hid (View w2 (some ⟨g4, 0, none⟩) N c4 (fun i => (putI D).getD i 0)) := hv4
  have HB2 : Hid (Below W1.heap.size W1 w2) := hb2
  clear hPut hbr hv4 hb2 x0 x1 x2 x3 hW1 hXe
  have hDr := drawGetNode_any ao n cap f w2 hn (hv.below (HB1.out.trans (HB2.out.mono HB1.out.size)))
  go_wp2_with fail
  refine hDr.mono ?_
  rintro e w3 ⟨b5, c5, m, F, rfl, hv5, hm5, hbn, hb3⟩
  have HB3 : Hid (Below W1.heap.size W1 w3) := HB2.out.trans (hb3.mono HB2.out.size)
  have HV5 : Hid (View w3 (some ⟨b5, 0, none⟩) m c5 F) := hv5
  have HV4b : Hid (View w3 (some ⟨g4, 0, none⟩) N c4 (fun i => (putI D).getD i 0)) := HV4.out.below hb3
  have HBN : Hid (BentN m F) := hbn
  clear hDr hv5 hbn hb3 HV4 HB2
  have hG := implGetNode_any b5 0 m c5 F w3 HV5.out (by omega)
  go_wp2_with fail
  refine hG.mono ?_
  rintro e w4 ⟨hb4, r, vy, rfl, ⟨yl, ya, yn, yb, yc, ym, yd, ye, yk, yf, rfl⟩, hyes, hno⟩
  obtain ⟨W4, hW4⟩ := hidN (w4.alloc (.cells #[.bool yl, .slice ya yn yb, .slice yc ym yd, .slice ye yk yf] 27))
  obtain ⟨Y, hYe⟩ := hidN w4.heap.size
  have hb4X : Below w4.heap.size w4 W4 := by rw [← hW4.out]; exact (Below.refl _ _).alloc (Nat.le_refl _) _
  have hb34 : Below w3.heap.size w3 W4 := hb4.trans (hb4X.mono hb4.size)
  have HB4 : Hid (Below W1.heap.size W1 W4) := HB3.out.trans (hb34.mono HB3.out.size)
  have HYV : Hid (V4 W4 Y 27 (.bool yl) (.slice ya yn yb) (.slice yc ym yd) (.slice ye yk yf)) := by rw [← hW4.out, ← hYe.out]; exact V4.new w4 _ _ _ _ _
  have HY : Hid (∀ W, Below W4.heap.size W4 W → W.cell? ⟨Y, 0, none⟩ = some (.bool yl) ∧ W.cell? ⟨Y, 1, none⟩ = some (.slice ya yn yb) ∧ W.cell? ⟨Y, 2, none⟩ = some (.slice yc ym yd) ∧ W.cell? ⟨Y, 3, none⟩ = some (.slice ye yk yf)) := fun W hb => (HYV.out.below hb).cells
  have HYES : Hid (r = true → ∃ E, NdView W4 (.agg #[.bool yl, .slice ya yn yb, .slice yc ym yd, .slice ye yk yf]) E ∧ NFine E ∧ OkI E ∧ bytesN E = lof m F) := fun h => by
    obtain ⟨E, h1, h2, h3, h4⟩ := hyes h
    exact ⟨E, h1.below hb4X, h2, h3, h4⟩
  have HNO : Hid (r = false → ∀ E, OkI E → bytesN E ≠ lof m F) := hno
  have HV5b : Hid (View W4 (some ⟨b5, 0, none⟩) m c5 F) := HV5.out.below hb34
  have HV4c : Hid (View W4 (some ⟨g4, 0, none⟩) N c4 (fun i => (putI D).getD i 0)) := HV4b.out.below hb34
  clear hG hyes hno hb4 hb4X hb34 HV5 HV4b HB3
  have hG := specGetNode_any b5 0 m c5 F W4 HV5b.out (by omega)
  go_wp2_with (rw [hW4.out, hYe.out])
  refine hG.mono ?_
  rintro e w6 ⟨hb6, r2, vz, rfl, ⟨zl, za, zn, zb, zc, zm, zd, ze, zk, zf, rfl⟩, hyes, hno⟩
  have HRR : Hid (r = r2) := by
    show _ = _
    cases r with
    | true =>
      obtain ⟨E, -, -, h3, h4⟩ := HYES.out rfl
      cases r2 with
      | true => rfl
      | false => exact absurd h4 (hno rfl E (bentN_ok HBN.out h3 h4))
    | false =>
      cases r2 with
      | false => rfl
      | true =>
        obtain ⟨E, h1, h2⟩ := hyes rfl
        exact absurd h2 (HNO.out rfl E h1.i)
  obtain ⟨W6, hW6⟩ := hidN (w6.alloc (.cells #[.bool zl, .slice za zn zb, .slice zc zm zd, .slice ze zk zf] 27))
  have hb6X : Below w6.heap.size w6 W6 := by rw [← hW6.out]; exact (Below.refl _ _).alloc (Nat.le_refl _) _
  have HB46 : Hid (Below W4.heap.size W4 W6) := hb6.trans (hb6X.mono hb6.size)
  have HBW : Hid (∀ W, Below W6.heap.size W6 W → Below W1.heap.size W1 W ∧ Below W4.heap.size W4 W ∧ Below w.heap.size w W) := fun W hb => by
    have h4 := HB46.out.trans (hb.mono HB46.out.size)
    have h1 := HB4.out.trans (h4.mono HB4.out.size)
    exact ⟨h1, h4, HB1.out.trans (h1.mono HB1.out.size)⟩
  have HC : Hid (∀ W, Below W6.heap.size W6 W → (W.cell? ⟨X, 0, none⟩ = some (.bool lf) ∧ W.cell? ⟨X, 1, none⟩ = some (.slice xa nk xb) ∧ W.cell? ⟨X, 2, none⟩ = some (.slice xc nv xd) ∧ W.cell? ⟨X, 3, none⟩ = some (.slice xe nd xf)) ∧ (W.cell? ⟨Y, 0, none⟩ = some (.bool yl) ∧ W.cell? ⟨Y, 1, none⟩ = some (.slice ya yn yb) ∧ W.cell? ⟨Y, 2, none⟩ = some (.slice yc ym yd) ∧ W.cell? ⟨Y, 3, none⟩ = some (.slice ye yk yf))) := fun W hb => ⟨HX.out W (HBW.out W hb).1, HY.out W (HBW.out W hb).2.1⟩
  obtain ⟨rfl⟩ := HRR
  clear hG hyes hno hb6 hb6X HNO HBN HB46 HB4 HXV HYV hW4 hYe
  obtain ⟨sz, hsz⟩ := hidN (sizeN D)
  have hZ1 : ∀ W, Below W6.heap.size W6 W → Calls Try.prog 16 #[.agg #[.bool lf, .slice xa nk xb, .slice xc nv xd, .slice xe nd xf]] W fun e w' => e = .returned (.int .i64 sz) ∧ Below W.heap.size W w' := fun W hb => by rw [← hsz.out]; exact implSizeOf_any _ D W (HVX.out.below (HBW.out W hb).1) HF.out.1
  have hZ2 : ∀ W, Below W6.heap.size W6 W → Calls Try.prog 17 #[.agg #[.bool lf, .slice xa nk xb, .slice xc nv xd, .slice xe nd xf]] W fun e w' => e = .returned (.int .i64 sz) ∧ Below W.heap.size W w' := fun W hb => by rw [← hsz.out]; exact specSizeOf_any _ D W (HVX.out.below (HBW.out W hb).1) HF.out.1
  obtain ⟨⟨x0, x1, x2, x3⟩, ⟨y0, y1, y2, y3⟩⟩ := HC.out W6 (Below.refl _ _)
  go_wp2_with (rw [hW6.out])
  clear x0 x1 x2 x3 y0 y1 y2 y3 hW6
  cases r with
  | false =>
    clear HYES
    refine wp_region_held_drew (S := fun W => (W.cell? ⟨X, 0, none⟩ = some (.bool lf) ∧ W.cell? ⟨X, 1, none⟩ = some (.slice xa nk xb) ∧ W.cell? ⟨X, 2, none⟩ = some (.slice xc nv xd) ∧ W.cell? ⟨X, 3, none⟩ = some (.slice xe nd xf)) ∧ (W.cell? ⟨Y, 0, none⟩ = some (.bool yl) ∧ W.cell? ⟨Y, 1, none⟩ = some (.slice ya yn yb) ∧ W.cell? ⟨Y, 2, none⟩ = some (.slice yc ym yd) ∧ W.cell? ⟨Y, 3, none⟩ = some (.slice ye yk yf))) (by kernel_rfl) (HC.out _ (Below.refl _ _).drew) (fun hHeld => ?_)
    have hb := (Below.refl W6.heap.size W6).drew
    refine' wpAnyH_take (i := 0) (v := _) rfl (by kernel_rfl) (by kernel_rfl) (by kernel_rfl) (fun _ _ _ h => h) (Or.inl ⟨by kernel_rfl, ?hra1⟩) (by assumption) ?rra1
    case hra1 => intro W hW; obtain ⟨⟨c0, c1, c2, c3⟩, ⟨d0, d1, d2, d3⟩⟩ : (_ ∧ _ ∧ _ ∧ _) ∧ (_ ∧ _ ∧ _ ∧ _) := hW; go_simp; all_goals with_reducible rfl
    change wpAnyH _ _ _ _ _ _ _ (Act.put _ (some 30) _) _
    simp only [Act.put, List.setIfInBounds_toArray, List.set_cons_zero, List.set_cons_succ]
    refine' wpAnyH_take (i := 1) (v := _) rfl (by kernel_rfl) (by kernel_rfl) (by kernel_rfl) (fun _ _ _ h => h) (Or.inl ⟨by kernel_rfl, ?hra2⟩) (by assumption) ?rra2
    case hra2 => intro W hW; obtain ⟨⟨c0, c1, c2, c3⟩, ⟨d0, d1, d2, d3⟩⟩ : (_ ∧ _ ∧ _ ∧ _) ∧ (_ ∧ _ ∧ _ ∧ _) := hW; go_simp; all_goals with_reducible rfl
    change wpAnyH _ _ _ _ _ _ _ (Act.put _ (some 31) _) _
    simp only [Act.put, List.setIfInBounds_toArray, List.set_cons_zero, List.set_cons_succ]
    refine' wpAnyH_take (i := 2) (v := _) rfl (by kernel_rfl) (by kernel_rfl) (by kernel_rfl) (fun _ _ _ h => h) (Or.inl ⟨by kernel_rfl, ?hra3⟩) (by assumption) ?rra3
    case hra3 => intro W hW; obtain ⟨⟨c0, c1, c2, c3⟩, ⟨d0, d1, d2, d3⟩⟩ : (_ ∧ _ ∧ _ ∧ _) ∧ (_ ∧ _ ∧ _ ∧ _) := hW; go_simp; all_goals with_reducible rfl
    change wpAnyH _ _ _ _ _ _ _ (Act.put _ (some 32) _) _
    simp only [Act.put, List.setIfInBounds_toArray, List.set_cons_zero, List.set_cons_succ]
    refine' wpAnyH_take (i := 3) (v := _) rfl (by kernel_rfl) (by kernel_rfl) (by kernel_rfl) (fun _ _ _ h => h) (Or.inl ⟨by kernel_rfl, ?hra4⟩) (by assumption) ?rra4
    case hra4 => intro W hW; obtain ⟨⟨c0, c1, c2, c3⟩, ⟨d0, d1, d2, d3⟩⟩ : (_ ∧ _ ∧ _ ∧ _) ∧ (_ ∧ _ ∧ _ ∧ _) := hW; go_simp; all_goals with_reducible rfl
    change wpAnyH _ _ _ _ _ _ _ (Act.put _ (some 33) _) _
    simp only [Act.put, List.setIfInBounds_toArray, List.set_cons_zero, List.set_cons_succ]
    refine' wpAnyH_take (i := 4) (v := _) rfl (by kernel_rfl) (by kernel_rfl) (by kernel_rfl) (fun _ _ _ h => h) (Or.inl ⟨by kernel_rfl, ?hra5⟩) (by assumption) ?rra5
    case hra5 => intro W hW; obtain ⟨⟨c0, c1, c2, c3⟩, ⟨d0, d1, d2, d3⟩⟩ : (_ ∧ _ ∧ _ ∧ _) ∧ (_ ∧ _ ∧ _ ∧ _) := hW; go_simp; all_goals with_reducible rfl
    change wpAnyH _ _ _ _ _ _ _ (Act.put _ (some 34) _) _
    simp only [Act.put, List.setIfInBounds_toArray, List.set_cons_zero, List.set_cons_succ]
    refine' wpAnyH_take (i := 5) (v := _) rfl (by kernel_rfl) (by kernel_rfl) (by kernel_rfl) (fun _ _ _ h => h) (Or.inl ⟨by kernel_rfl, ?hra6⟩) (by assumption) ?rra6
    case hra6 => intro W hW; obtain ⟨⟨c0, c1, c2, c3⟩, ⟨d0, d1, d2, d3⟩⟩ : (_ ∧ _ ∧ _ ∧ _) ∧ (_ ∧ _ ∧ _ ∧ _) := hW; go_simp; all_goals with_reducible rfl
    change wpAnyH _ _ _ _ _ _ _ (Act.put _ (some 35) _) _
    simp only [Act.put, List.setIfInBounds_toArray, List.set_cons_zero, List.set_cons_succ]
    refine wpAnyH_take (i := 6) (v := undef) rfl (by kernel_rfl) (by kernel_rfl) (by kernel_rfl) (fun _ _ _ h => h) (Or.inr ⟨by kernel_rfl, rfl⟩) (by assumption) ?_
    change wpAnyH _ _ _ _ _ _ _ (Act.put _ (some 36) _) _
    simp only [Act.put, List.setIfInBounds_toArray, List.set_cons_zero, List.set_cons_succ]
    refine wpAnyH_take (i := 7) (v := undef) rfl (by kernel_rfl) (by kernel_rfl) (by kernel_rfl) (fun _ _ _ h => h) (Or.inr ⟨by kernel_rfl, rfl⟩) (by assumption) ?_
    change wpAnyH _ _ _ _ _ _ _ (Act.put _ (some 37) _) _
    simp only [Act.put, List.setIfInBounds_toArray, List.set_cons_zero, List.set_cons_succ]
    refine wpAnyH_take (i := 8) (v := undef) rfl (by kernel_rfl) (by kernel_rfl) (by kernel_rfl) (fun _ _ _ h => h) (Or.inr ⟨by kernel_rfl, rfl⟩) (by assumption) ?_
    change wpAnyH _ _ _ _ _ _ _ (Act.put _ (some 38) _) _
    simp only [Act.put, List.setIfInBounds_toArray, List.set_cons_zero, List.set_cons_succ]
    refine wpAnyH_take (i := 9) (v := undef) rfl (by kernel_rfl) (by kernel_rfl) (by kernel_rfl) (fun _ _ _ h => h) (Or.inr ⟨by kernel_rfl, rfl⟩) (by assumption) ?_
    change wpAnyH _ _ _ _ _ _ _ (Act.put _ (some 39) _) _
    simp only [Act.put, List.setIfInBounds_toArray, List.set_cons_zero, List.set_cons_succ]
    refine wpAnyH_take (i := 10) (v := undef) rfl (by kernel_rfl) (by kernel_rfl) (by kernel_rfl) (fun _ _ _ h => h) (Or.inr ⟨by kernel_rfl, rfl⟩) (by assumption) ?_
    change wpAnyH _ _ _ _ _ _ _ (Act.put _ (some 40) _) _
    simp only [Act.put, List.setIfInBounds_toArray, List.set_cons_zero, List.set_cons_succ]
    refine wpAnyH_take (i := 11) (v := undef) rfl (by kernel_rfl) (by kernel_rfl) (by kernel_rfl) (fun _ _ _ h => h) (Or.inr ⟨by kernel_rfl, rfl⟩) (by assumption) ?_
    change wpAnyH _ _ _ _ _ _ _ (Act.put _ (some 41) _) _
    simp only [Act.put, List.setIfInBounds_toArray, List.set_cons_zero, List.set_cons_succ]
    refine wpAnyH_take (i := 12) (v := undef) rfl (by kernel_rfl) (by kernel_rfl) (by kernel_rfl) (fun _ _ _ h => h) (Or.inr ⟨by kernel_rfl, rfl⟩) (by assumption) ?_
    change wpAnyH _ _ _ _ _ _ _ (Act.put _ (some 42) _) _
    simp only [Act.put, List.setIfInBounds_toArray, List.set_cons_zero, List.set_cons_succ]
    refine wpAnyH_take (i := 13) (v := undef) rfl (by kernel_rfl) (by kernel_rfl) (by kernel_rfl) (fun _ _ _ h => h) (Or.inr ⟨by kernel_rfl, rfl⟩) (by assumption) ?_
    change wpAnyH _ _ _ _ _ _ _ (Act.put _ (some 43) _) _
    simp only [Act.put, List.setIfInBounds_toArray, List.set_cons_zero, List.set_cons_succ]
    refine wpAnyH_take (i := 14) (v := undef) rfl (by kernel_rfl) (by kernel_rfl) (by kernel_rfl) (fun _ _ _ h => h) (Or.inr ⟨by kernel_rfl, rfl⟩) (by assumption) ?_
    change wpAnyH _ _ _ _ _ _ _ (Act.put _ (some 44) _) _
    simp only [Act.put, List.setIfInBounds_toArray, List.set_cons_zero, List.set_cons_succ]
    refine wpAnyH_take (i := 15) (v := undef) rfl (by kernel_rfl) (by kernel_rfl) (by kernel_rfl) (fun _ _ _ h => h) (Or.inr ⟨by kernel_rfl, rfl⟩) (by assumption) ?_
    change wpAnyH _ _ _ _ _ _ _ (Act.put _ (some 45) _) _
    simp only [Act.put, List.setIfInBounds_toArray, List.set_cons_zero, List.set_cons_succ]
    refine' wpAnyH_take (i := 16) (v := _) rfl (by kernel_rfl) (by kernel_rfl) (by kernel_rfl) (fun _ _ _ h => h) (Or.inl ⟨by kernel_rfl, ?hra17⟩) (by assumption) ?rra17
    case hra17 => intro W hW; obtain ⟨⟨c0, c1, c2, c3⟩, ⟨d0, d1, d2, d3⟩⟩ : (_ ∧ _ ∧ _ ∧ _) ∧ (_ ∧ _ ∧ _ ∧ _) := hW; go_simp; all_goals with_reducible rfl
    change wpAnyH _ _ _ _ _ _ _ (Act.put _ (some 46) _) _
    simp only [Act.put, List.setIfInBounds_toArray, List.set_cons_zero, List.set_cons_succ]
    refine' wpAnyH_take (i := 17) (v := _) rfl (by kernel_rfl) (by kernel_rfl) (by kernel_rfl) (fun _ _ _ h => h) (Or.inl ⟨by kernel_rfl, ?hra18⟩) (by assumption) ?rra18
    case hra18 => intro W hW; obtain ⟨⟨c0, c1, c2, c3⟩, ⟨d0, d1, d2, d3⟩⟩ : (_ ∧ _ ∧ _ ∧ _) ∧ (_ ∧ _ ∧ _ ∧ _) := hW; go_simp; all_goals with_reducible rfl
    change wpAnyH _ _ _ _ _ _ _ (Act.put _ (some 47) _) _
    simp only [Act.put, List.setIfInBounds_toArray, List.set_cons_zero, List.set_cons_succ]
    refine' wpAnyH_take (i := 18) (v := _) rfl (by kernel_rfl) (by kernel_rfl) (by kernel_rfl) (fun _ _ _ h => h) (Or.inl ⟨by kernel_rfl, ?hra19⟩) (by assumption) ?rra19
    case hra19 => intro W hW; obtain ⟨⟨c0, c1, c2, c3⟩, ⟨d0, d1, d2, d3⟩⟩ : (_ ∧ _ ∧ _ ∧ _) ∧ (_ ∧ _ ∧ _ ∧ _) := hW; go_simp; all_goals with_reducible rfl
    change wpAnyH _ _ _ _ _ _ _ (Act.put _ (some 48) _) _
    simp only [Act.put, List.setIfInBounds_toArray, List.set_cons_zero, List.set_cons_succ]
    refine' wpAnyH_take (i := 19) (v := _) rfl (by kernel_rfl) (by kernel_rfl) (by kernel_rfl) (fun _ _ _ h => h) (Or.inl ⟨by kernel_rfl, ?hra20⟩) (by assumption) ?rra20
    case hra20 => intro W hW; obtain ⟨⟨c0, c1, c2, c3⟩, ⟨d0, d1, d2, d3⟩⟩ : (_ ∧ _ ∧ _ ∧ _) ∧ (_ ∧ _ ∧ _ ∧ _) := hW; go_simp; all_goals with_reducible rfl
    change wpAnyH _ _ _ _ _ _ _ (Act.put _ (some 49) _) _
    simp only [Act.put, List.setIfInBounds_toArray, List.set_cons_zero, List.set_cons_succ]
    refine' wpAnyH_take (i := 21) (v := _) rfl (by kernel_rfl) (by kernel_rfl) (by kernel_rfl) (fun _ _ _ h => h) (Or.inl ⟨by kernel_rfl, ?hra21⟩) (by assumption) ?rra21
    case hra21 => intro W hW; obtain ⟨⟨c0, c1, c2, c3⟩, ⟨d0, d1, d2, d3⟩⟩ : (_ ∧ _ ∧ _ ∧ _) ∧ (_ ∧ _ ∧ _ ∧ _) := hW; go_simp; all_goals with_reducible rfl
    change wpAnyH _ _ _ _ _ _ _ (Act.put _ (some 51) _) _
    simp only [Act.put, List.setIfInBounds_toArray, List.set_cons_zero, List.set_cons_succ]
    refine wpAnyH_ready (rs := [20]) (by kernel_rfl) (by simp) ?_
    refine AllReadyH.cons rfl (fun KK hK => ?_) AllReadyH.nil
    go_simp
    refine (hZ1 _ hb).mono ?_
    rintro e wd ⟨rfl, hBn⟩
    have hbn := hb.trans (hBn.mono hb.size)
    clear hHeld hb hBn
    go_wp2_with fail
    refine hK.out _ _ (HC.out _ hbn) (fun hHeld => ?_)
    have hb := hbn
    clear hbn
    clear hK KK
    try simp only [Act.put, List.setIfInBounds_toArray, List.set_cons_zero, List.set_cons_succ]
    refine wpAnyH_ready (rs := [22]) (by kernel_rfl) (by simp) ?_
    refine AllReadyH.cons rfl (fun KK hK => ?_) AllReadyH.nil
    go_simp
    refine (hZ2 _ hb).mono ?_
    rintro e we ⟨rfl, hBn⟩
    have hbn := hb.trans (hBn.mono hb.size)
    clear hHeld hb hBn
    go_wp2_with fail
    refine hK.out _ _ (HC.out _ hbn) (fun hHeld => ?_)
    have hb := hbn
    clear hbn
    clear hK KK
    try simp only [Act.put, List.setIfInBounds_toArray, List.set_cons_zero, List.set_cons_succ]
    refine' wpAnyH_take (i := 23) (v := _) rfl (by kernel_rfl) (by kernel_rfl) (by kernel_rfl) (fun _ _ _ h => h) (Or.inl ⟨by kernel_rfl, ?hra22⟩) (by assumption) ?rra22
    case hra22 => intro W hW; obtain ⟨⟨c0, c1, c2, c3⟩, ⟨d0, d1, d2, d3⟩⟩ : (_ ∧ _ ∧ _ ∧ _) ∧ (_ ∧ _ ∧ _ ∧ _) := hW; go_simp; all_goals with_reducible rfl
    change wpAnyH _ _ _ _ _ _ _ (Act.put _ (some 53) _) _
    simp only [Act.put, List.setIfInBounds_toArray, List.set_cons_zero, List.set_cons_succ]
    refine' wpAnyH_take (i := 24) (v := _) rfl (by kernel_rfl) (by kernel_rfl) (by kernel_rfl) (fun _ _ _ h => h) (Or.inl ⟨by kernel_rfl, ?hra23⟩) (by assumption) ?rra23
    case hra23 => intro W hW; obtain ⟨⟨c0, c1, c2, c3⟩, ⟨d0, d1, d2, d3⟩⟩ : (_ ∧ _ ∧ _ ∧ _) ∧ (_ ∧ _ ∧ _ ∧ _) := hW; go_simp; all_goals with_reducible rfl
    change wpAnyH _ _ _ _ _ _ _ (Act.put _ (some 54) _) _
    simp only [Act.put, List.setIfInBounds_toArray, List.set_cons_zero, List.set_cons_succ]
    refine wpAnyH_done (by kernel_rfl) ?_ _
    clear hHeld hZ1 hZ2 hsz
    have HCE : Hid (∀ W, Below we.heap.size we W → (W.cell? ⟨X, 0, none⟩ = some (.bool lf) ∧ W.cell? ⟨X, 1, none⟩ = some (.slice xa nk xb) ∧ W.cell? ⟨X, 2, none⟩ = some (.slice xc nv xd) ∧ W.cell? ⟨X, 3, none⟩ = some (.slice xe nd xf)) ∧ Below w.heap.size w W ∧ NdView W (.agg #[.bool lf, .slice xa nk xb, .slice xc nv xd, .slice xe nd xf]) D ∧ View W (some ⟨g4, 0, none⟩) N c4 (fun i => (putI D).getD i 0)) := fun W hb' =>
      have h6 := hb.trans (hb'.mono hb.size)
      ⟨(HC.out W h6).1, (HBW.out W h6).2.2, HVX.out.below (HBW.out W h6).1, HV4c.out.below (HBW.out W h6).2.1⟩
    clear hb HC HBW HVX HV4c HV5b HX HY HB1
    obtain ⟨⟨x0, x1, x2, x3⟩, -, hvx, -⟩ := HCE.out we (Below.refl _ _)
    have hSN := specNodeOk_any _ D we hvx HF.out.1
    clear hvx
    go_wp2_with fail
    refine hSN.mono ?_
    rintro e wf ⟨r3, rfl, hr3, hbf⟩
    have HR3 : Hid (r3 = true ↔ OkS D) := hr3
    clear hSN hr3 x0 x1 x2 x3
    obtain ⟨⟨x0, x1, x2, x3⟩, -, hvx, hv4⟩ := HCE.out wf hbf
    cases r3 with
    | false =>
      have HNK : Hid (¬ OkI D) := fun h => by have := HR3.out.2 (HF.out.2 h); cases this
      have hN0 : N = 0 := by rw [← hN.out]; unfold putI; rw [if_neg HNK.out]; rfl
      have hNO := (implNodeOk_any _ D wf hvx HF.out.1).mono fun e w' h => h.is (b := false) ⟨(fun h => by cases h), fun h => absurd h HNK.out⟩
      clear hN
      subst hN0
      clear hvx hv4 HNK HR3
      go_wp2_with fail
      refine hNO.mono ?_
      rintro e wg ⟨rfl, hbg⟩
      have HB : Hid (Below w.heap.size w wg) := (HCE.out wg (hbf.trans (hbg.mono hbf.size))).2.1
      clear hNO hbg hbf HCE HF x0 x1 x2 x3
      go_wp2
      go_ret
      exact ⟨rfl, HB.out⟩
    | true =>
      have HOK : Hid (OkS D) := HR3.out.1 rfl
      have HPI : Hid (putI D = bytesN D ∧ N = (bytesN D).length ∧ N ≤ 240 ∧ lof N (fun i => (putI D).getD i 0) = bytesN D) := by
        have h1 := putI_ok HOK.out.i
        have h2 := (okI_few HOK.out.i).2.2.1
        have h3 := hN.out
        rw [h1] at h3
        refine ⟨h1, h3.symm, by omega, ?_⟩
        rw [h1, ← h3, lof_self]
      have hN240 : (N : Int) ≤ 240 := by have := HPI.out.2.2.1; omega
      have hG := implGetNode_any g4 0 N c4 _ wf hv4 (by omega)
      clear HR3 hN hv4 hvx
      go_wp2_with fail
      refine hG.mono ?_
      rintro e wg ⟨hbg, r4, vt, rfl, ⟨tl, ta, tn, tb, tc, tm, td, te, tk, tf, rfl⟩, hyes, hno⟩
      have hr4 : r4 = true := by
        cases r4 with
        | true => rfl
        | false => exact absurd HPI.out.2.2.2.symm (hno rfl D HOK.out.i)
      obtain ⟨E4, h1, h2, h3, h4⟩ := hyes hr4
      subst hr4
      have HSM : Hid (sameNd E4 D = true) := (bytesN_uniq h3.shape HOK.out.i.shape (at_lof h4) (at_lof HPI.out.2.2.2.symm)).same
      obtain ⟨Wt, hWt⟩ := hidN (wg.alloc (.cells #[.bool tl, .slice ta tn tb, .slice tc tm td, .slice te tk tf] 27))
      obtain ⟨T0, hT0⟩ := hidN wg.heap.size
      have hbgt : Below wg.heap.size wg Wt := by rw [← hWt.out]; exact (Below.refl _ _).alloc (Nat.le_refl _) _
      have hbt : Below we.heap.size we Wt := (hbf.trans (hbg.mono hbf.size)).trans (hbgt.mono (hbf.trans (hbg.mono hbf.size)).size)
      have HTV : Hid (V4 Wt T0 27 (.bool tl) (.slice ta tn tb) (.slice tc tm td) (.slice te tk tf)) := by rw [← hWt.out, ← hT0.out]; exact V4.new wg _ _ _ _ _
      have HVT : Hid (NdView Wt (.agg #[.bool tl, .slice ta tn tb, .slice tc tm td, .slice te tk tf]) E4 ∧ NFine E4) := ⟨h1.below hbgt, h2⟩
      have HCT : Hid (∀ W, Below Wt.heap.size Wt W → ((W.cell? ⟨X, 0, none⟩ = some (.bool lf) ∧ W.cell? ⟨X, 1, none⟩ = some (.slice xa nk xb) ∧ W.cell? ⟨X, 2, none⟩ = some (.slice xc nv xd) ∧ W.cell? ⟨X, 3, none⟩ = some (.slice xe nd xf)) ∧ (W.cell? ⟨T0, 0, none⟩ = some (.bool tl) ∧ W.cell? ⟨T0, 1, none⟩ = some (.slice ta tn tb) ∧ W.cell? ⟨T0, 2, none⟩ = some (.slice tc tm td) ∧ W.cell? ⟨T0, 3, none⟩ = some (.slice te tk tf))) ∧ Below w.heap.size w W ∧ NdView W (.agg #[.bool lf, .slice xa nk xb, .slice xc nv xd, .slice xe nd xf]) D) := fun W hb' =>
        have h6 := HCE.out W (hbt.trans (hb'.mono hbt.size))
        ⟨⟨h6.1, (HTV.out.below hb').cells⟩, h6.2.1, h6.2.2.1⟩
      clear hG hyes hno h1 h2 h3 h4 hbg hbf hbgt hbt x0 x1 x2 x3 HCE
      obtain ⟨⟨⟨x0, x1, x2, x3⟩, ⟨t0, t1, t2, t3⟩⟩, -, hvx⟩ := HCT.out Wt (Below.refl _ _)
      have hSM := implSameNd_any _ _ E4 D Wt HVT.out.1 hvx HVT.out.2
      rw [HSM.out] at hSM
      clear hvx HTV
      go_wp2_with (rw [hWt.out, hT0.out])
      refine hSM.mono ?_
      rintro e wh ⟨rfl, hbh⟩
      clear hSM x0 x1 x2 x3 t0 t1 t2 t3 hWt hT0
      obtain ⟨⟨⟨x0, x1, x2, x3⟩, -⟩, -, hvx⟩ := HCT.out wh hbh
      have hNO := (implNodeOk_any _ D wh hvx HF.out.1).mono fun e w' h => h.is (b := true) ⟨fun _ => HOK.out.i, fun _ => rfl⟩
      clear hvx
      go_wp2_with fail
      refine hNO.mono ?_
      rintro e wi ⟨rfl, hbi⟩
      have hbti := hbh.trans (hbi.mono hbh.size)
      clear hNO x0 x1 x2 x3 hbi hbh
      obtain ⟨⟨⟨x0, x1, x2, x3⟩, -⟩, -, hvx⟩ := HCT.out wi hbti
      have hSZ := implSizeOf_any _ D wi hvx HF.out.1
      have hszN : sizeN D = (N : Int) := by unfold sizeN; rw [HPI.out.2.1]
      rw [hszN] at hSZ
      clear hvx hszN
      go_wp2_with fail
      refine hSZ.mono ?_
      rintro e wj ⟨rfl, hbj⟩
      have HB : Hid (Below w.heap.size w wj) := (HCT.out wj (hbti.trans (hbj.mono hbti.size))).2.1
      clear hSZ x0 x1 x2 x3 hbj hbti HCT HVT HF HOK HPI HSM
      go_wp2
      go_ret
      exact ⟨rfl, HB.out⟩

  | true =>
    obtain ⟨E, hE1, hE2, hE3, hE4⟩ := HYES.out rfl
    have hO : ∀ W, Below W6.heap.size W6 W → Calls Try.prog 14 #[.agg #[.bool yl, .slice ya yn yb, .slice yc ym yd, .slice ye yk yf]] W fun e w' => e = .returned (.bool true) ∧ Below W.heap.size W w' := fun W hb => (implNodeOk_any _ E W (hE1.below (HBW.out W hb).2.1) hE2).mono fun e w' h => h.is ⟨fun _ => hE3, fun _ => rfl⟩
    have hP : ∀ W, Below W6.heap.size W6 W → Calls Try.prog 10 #[.agg #[.bool yl, .slice ya yn yb, .slice yc ym yd, .slice ye yk yf]] W fun e w' => ∃ g c, e = .returned (.slice (some ⟨g, 0, none⟩) m c) ∧ View w' (some ⟨g, 0, none⟩) m c (fun i => (lof m F).getD i 0) ∧ Below W.heap.size W w' := fun W hb => by
      refine (implPutNode_any _ E W (hE1.below (HBW.out W hb).2.1) hE2).mono ?_
      rintro e w' ⟨u, rfl, hbr, hb'⟩
      obtain ⟨g, c, rfl, hv'⟩ := hbr.view (putI_byte E)
      rw [putI_ok hE3, hE4, lof_len] at hv' ⊢
      exact ⟨g, c, rfl, hv', hb'⟩
    have hS : ∀ (W : World) (g c : Nat), Below W6.heap.size W6 W → View W (some ⟨g, 0, none⟩) m c (fun i => (lof m F).getD i 0) → Calls Try.prog 15 #[.slice (some ⟨g, 0, none⟩) m c, .slice (some ⟨b5, 0, none⟩) m c5] W fun e w' => e = .returned (.bool true) ∧ Below W.heap.size W w' := fun W g c hb hvg => by
      have := sameBytes_any (some ⟨g, 0, none⟩) (some ⟨b5, 0, none⟩) m m c c5 _ F W hvg (HV5b.out.below (HBW.out W hb).2.1) (by omega) (by omega)
      rw [lof_getD] at this
      simpa using this
    clear hE1 hE2 hE3 hE4 HYES
    refine wp_region_held_drew (S := fun W => (W.cell? ⟨X, 0, none⟩ = some (.bool lf) ∧ W.cell? ⟨X, 1, none⟩ = some (.slice xa nk xb) ∧ W.cell? ⟨X, 2, none⟩ = some (.slice xc nv xd) ∧ W.cell? ⟨X, 3, none⟩ = some (.slice xe nd xf)) ∧ (W.cell? ⟨Y, 0, none⟩ = some (.bool yl) ∧ W.cell? ⟨Y, 1, none⟩ = some (.slice ya yn yb) ∧ W.cell? ⟨Y, 2, none⟩ = some (.slice yc ym yd) ∧ W.cell? ⟨Y, 3, none⟩ = some (.slice ye yk yf))) (by kernel_rfl) (HC.out _ (Below.refl _ _).drew) (fun hHeld => ?_)
    have hb := (Below.refl W6.heap.size W6).drew
    refine' wpAnyH_take (i := 0) (v := _) rfl (by kernel_rfl) (by kernel_rfl) (by kernel_rfl) (fun _ _ _ h => h) (Or.inl ⟨by kernel_rfl, ?hrb1⟩) (by assumption) ?rrb1
    case hrb1 => intro W hW; obtain ⟨⟨c0, c1, c2, c3⟩, ⟨d0, d1, d2, d3⟩⟩ : (_ ∧ _ ∧ _ ∧ _) ∧ (_ ∧ _ ∧ _ ∧ _) := hW; go_simp; all_goals with_reducible rfl
    change wpAnyH _ _ _ _ _ _ _ (Act.put _ (some 30) _) _
    simp only [Act.put, List.setIfInBounds_toArray, List.set_cons_zero, List.set_cons_succ]
    refine' wpAnyH_take (i := 1) (v := _) rfl (by kernel_rfl) (by kernel_rfl) (by kernel_rfl) (fun _ _ _ h => h) (Or.inl ⟨by kernel_rfl, ?hrb2⟩) (by assumption) ?rrb2
    case hrb2 => intro W hW; obtain ⟨⟨c0, c1, c2, c3⟩, ⟨d0, d1, d2, d3⟩⟩ : (_ ∧ _ ∧ _ ∧ _) ∧ (_ ∧ _ ∧ _ ∧ _) := hW; go_simp; all_goals with_reducible rfl
    change wpAnyH _ _ _ _ _ _ _ (Act.put _ (some 31) _) _
    simp only [Act.put, List.setIfInBounds_toArray, List.set_cons_zero, List.set_cons_succ]
    refine' wpAnyH_take (i := 2) (v := _) rfl (by kernel_rfl) (by kernel_rfl) (by kernel_rfl) (fun _ _ _ h => h) (Or.inl ⟨by kernel_rfl, ?hrb3⟩) (by assumption) ?rrb3
    case hrb3 => intro W hW; obtain ⟨⟨c0, c1, c2, c3⟩, ⟨d0, d1, d2, d3⟩⟩ : (_ ∧ _ ∧ _ ∧ _) ∧ (_ ∧ _ ∧ _ ∧ _) := hW; go_simp; all_goals with_reducible rfl
    change wpAnyH _ _ _ _ _ _ _ (Act.put _ (some 32) _) _
    simp only [Act.put, List.setIfInBounds_toArray, List.set_cons_zero, List.set_cons_succ]
    refine' wpAnyH_take (i := 3) (v := _) rfl (by kernel_rfl) (by kernel_rfl) (by kernel_rfl) (fun _ _ _ h => h) (Or.inl ⟨by kernel_rfl, ?hrb4⟩) (by assumption) ?rrb4
    case hrb4 => intro W hW; obtain ⟨⟨c0, c1, c2, c3⟩, ⟨d0, d1, d2, d3⟩⟩ : (_ ∧ _ ∧ _ ∧ _) ∧ (_ ∧ _ ∧ _ ∧ _) := hW; go_simp; all_goals with_reducible rfl
    change wpAnyH _ _ _ _ _ _ _ (Act.put _ (some 33) _) _
    simp only [Act.put, List.setIfInBounds_toArray, List.set_cons_zero, List.set_cons_succ]
    refine' wpAnyH_take (i := 4) (v := _) rfl (by kernel_rfl) (by kernel_rfl) (by kernel_rfl) (fun _ _ _ h => h) (Or.inl ⟨by kernel_rfl, ?hrb5⟩) (by assumption) ?rrb5
    case hrb5 => intro W hW; obtain ⟨⟨c0, c1, c2, c3⟩, ⟨d0, d1, d2, d3⟩⟩ : (_ ∧ _ ∧ _ ∧ _) ∧ (_ ∧ _ ∧ _ ∧ _) := hW; go_simp; all_goals with_reducible rfl
    change wpAnyH _ _ _ _ _ _ _ (Act.put _ (some 34) _) _
    simp only [Act.put, List.setIfInBounds_toArray, List.set_cons_zero, List.set_cons_succ]
    refine' wpAnyH_take (i := 5) (v := _) rfl (by kernel_rfl) (by kernel_rfl) (by kernel_rfl) (fun _ _ _ h => h) (Or.inl ⟨by kernel_rfl, ?hrb6⟩) (by assumption) ?rrb6
    case hrb6 => intro W hW; obtain ⟨⟨c0, c1, c2, c3⟩, ⟨d0, d1, d2, d3⟩⟩ : (_ ∧ _ ∧ _ ∧ _) ∧ (_ ∧ _ ∧ _ ∧ _) := hW; go_simp; all_goals with_reducible rfl
    change wpAnyH _ _ _ _ _ _ _ (Act.put _ (some 35) _) _
    simp only [Act.put, List.setIfInBounds_toArray, List.set_cons_zero, List.set_cons_succ]
    refine' wpAnyH_take (i := 6) (v := _) rfl (by kernel_rfl) (by kernel_rfl) (by kernel_rfl) (fun _ _ _ h => h) (Or.inl ⟨by kernel_rfl, ?hrb7⟩) (by assumption) ?rrb7
    case hrb7 => intro W hW; obtain ⟨⟨c0, c1, c2, c3⟩, ⟨d0, d1, d2, d3⟩⟩ : (_ ∧ _ ∧ _ ∧ _) ∧ (_ ∧ _ ∧ _ ∧ _) := hW; go_simp; all_goals with_reducible rfl
    change wpAnyH _ _ _ _ _ _ _ (Act.put _ (some 36) _) _
    simp only [Act.put, List.setIfInBounds_toArray, List.set_cons_zero, List.set_cons_succ]
    refine wpAnyH_ready (rs := [7]) (by kernel_rfl) (by simp) ?_
    refine AllReadyH.cons rfl (fun KK hK => ?_) AllReadyH.nil
    go_simp
    refine (hO _ hb).mono ?_
    rintro e wa ⟨rfl, hBn⟩
    have hbn := hb.trans (hBn.mono hb.size)
    clear hHeld hb hBn
    go_wp2_with fail
    refine hK.out _ _ (HC.out _ hbn) (fun hHeld => ?_)
    have hb := hbn
    clear hbn
    clear hK KK
    try simp only [Act.put, List.setIfInBounds_toArray, List.set_cons_zero, List.set_cons_succ]
    refine' wpAnyH_take (i := 8) (v := _) rfl (by kernel_rfl) (by kernel_rfl) (by kernel_rfl) (fun _ _ _ h => h) (Or.inl ⟨by kernel_rfl, ?hrb8⟩) (by assumption) ?rrb8
    case hrb8 => intro W hW; obtain ⟨⟨c0, c1, c2, c3⟩, ⟨d0, d1, d2, d3⟩⟩ : (_ ∧ _ ∧ _ ∧ _) ∧ (_ ∧ _ ∧ _ ∧ _) := hW; go_simp; all_goals with_reducible rfl
    change wpAnyH _ _ _ _ _ _ _ (Act.put _ (some 38) _) _
    simp only [Act.put, List.setIfInBounds_toArray, List.set_cons_zero, List.set_cons_succ]
    refine' wpAnyH_take (i := 9) (v := _) rfl (by kernel_rfl) (by kernel_rfl) (by kernel_rfl) (fun _ _ _ h => h) (Or.inl ⟨by kernel_rfl, ?hrb9⟩) (by assumption) ?rrb9
    case hrb9 => intro W hW; obtain ⟨⟨c0, c1, c2, c3⟩, ⟨d0, d1, d2, d3⟩⟩ : (_ ∧ _ ∧ _ ∧ _) ∧ (_ ∧ _ ∧ _ ∧ _) := hW; go_simp; all_goals with_reducible rfl
    change wpAnyH _ _ _ _ _ _ _ (Act.put _ (some 39) _) _
    simp only [Act.put, List.setIfInBounds_toArray, List.set_cons_zero, List.set_cons_succ]
    refine' wpAnyH_take (i := 10) (v := _) rfl (by kernel_rfl) (by kernel_rfl) (by kernel_rfl) (fun _ _ _ h => h) (Or.inl ⟨by kernel_rfl, ?hrb10⟩) (by assumption) ?rrb10
    case hrb10 => intro W hW; obtain ⟨⟨c0, c1, c2, c3⟩, ⟨d0, d1, d2, d3⟩⟩ : (_ ∧ _ ∧ _ ∧ _) ∧ (_ ∧ _ ∧ _ ∧ _) := hW; go_simp; all_goals with_reducible rfl
    change wpAnyH _ _ _ _ _ _ _ (Act.put _ (some 40) _) _
    simp only [Act.put, List.setIfInBounds_toArray, List.set_cons_zero, List.set_cons_succ]
    refine' wpAnyH_take (i := 12) (v := _) rfl (by kernel_rfl) (by kernel_rfl) (by kernel_rfl) (fun _ _ _ h => h) (Or.inl ⟨by kernel_rfl, ?hrb11⟩) (by assumption) ?rrb11
    case hrb11 => intro W hW; obtain ⟨⟨c0, c1, c2, c3⟩, ⟨d0, d1, d2, d3⟩⟩ : (_ ∧ _ ∧ _ ∧ _) ∧ (_ ∧ _ ∧ _ ∧ _) := hW; go_simp; all_goals with_reducible rfl
    change wpAnyH _ _ _ _ _ _ _ (Act.put _ (some 42) _) _
    simp only [Act.put, List.setIfInBounds_toArray, List.set_cons_zero, List.set_cons_succ]
    refine wpAnyH_ready (rs := [11]) (by kernel_rfl) (by simp) ?_
    refine AllReadyH.cons rfl (fun KK hK => ?_) AllReadyH.nil
    go_simp
    refine (hP _ hb).mono ?_
    rintro e wb ⟨g8, c8, rfl, hvg, hBn⟩
    have hbn := hb.trans (hBn.mono hb.size)
    clear hHeld hb hBn
    go_wp2_with fail
    refine hK.out _ _ (HC.out _ hbn) (fun hHeld => ?_)
    have hb := hbn
    clear hbn
    clear hK KK
    try simp only [Act.put, List.setIfInBounds_toArray, List.set_cons_zero, List.set_cons_succ]
    refine wpAnyH_ready (rs := [13]) (by kernel_rfl) (by simp) ?_
    refine AllReadyH.cons rfl (fun KK hK => ?_) AllReadyH.nil
    go_simp
    refine (hS _ _ _ hb hvg).mono ?_
    rintro e wc ⟨rfl, hBn⟩
    have hbn := hb.trans (hBn.mono hb.size)
    clear hHeld hb hBn hvg
    go_wp2_with fail
    refine hK.out _ _ (HC.out _ hbn) (fun hHeld => ?_)
    have hb := hbn
    clear hbn
    clear hK KK
    try simp only [Act.put, List.setIfInBounds_toArray, List.set_cons_zero, List.set_cons_succ]
    refine' wpAnyH_take (i := 14) (v := _) rfl (by kernel_rfl) (by kernel_rfl) (by kernel_rfl) (fun _ _ _ h => h) (Or.inl ⟨by kernel_rfl, ?hrb12⟩) (by assumption) ?rrb12
    case hrb12 => intro W hW; obtain ⟨⟨c0, c1, c2, c3⟩, ⟨d0, d1, d2, d3⟩⟩ : (_ ∧ _ ∧ _ ∧ _) ∧ (_ ∧ _ ∧ _ ∧ _) := hW; go_simp; all_goals with_reducible rfl
    change wpAnyH _ _ _ _ _ _ _ (Act.put _ (some 44) _) _
    simp only [Act.put, List.setIfInBounds_toArray, List.set_cons_zero, List.set_cons_succ]
    refine' wpAnyH_take (i := 15) (v := _) rfl (by kernel_rfl) (by kernel_rfl) (by kernel_rfl) (fun _ _ _ h => h) (Or.inl ⟨by kernel_rfl, ?hrb13⟩) (by assumption) ?rrb13
    case hrb13 => intro W hW; obtain ⟨⟨c0, c1, c2, c3⟩, ⟨d0, d1, d2, d3⟩⟩ : (_ ∧ _ ∧ _ ∧ _) ∧ (_ ∧ _ ∧ _ ∧ _) := hW; go_simp; all_goals with_reducible rfl
    change wpAnyH _ _ _ _ _ _ _ (Act.put _ (some 45) _) _
    simp only [Act.put, List.setIfInBounds_toArray, List.set_cons_zero, List.set_cons_succ]
    refine' wpAnyH_take (i := 16) (v := _) rfl (by kernel_rfl) (by kernel_rfl) (by kernel_rfl) (fun _ _ _ h => h) (Or.inl ⟨by kernel_rfl, ?hrb14⟩) (by assumption) ?rrb14
    case hrb14 => intro W hW; obtain ⟨⟨c0, c1, c2, c3⟩, ⟨d0, d1, d2, d3⟩⟩ : (_ ∧ _ ∧ _ ∧ _) ∧ (_ ∧ _ ∧ _ ∧ _) := hW; go_simp; all_goals with_reducible rfl
    change wpAnyH _ _ _ _ _ _ _ (Act.put _ (some 46) _) _
    simp only [Act.put, List.setIfInBounds_toArray, List.set_cons_zero, List.set_cons_succ]
    refine' wpAnyH_take (i := 17) (v := _) rfl (by kernel_rfl) (by kernel_rfl) (by kernel_rfl) (fun _ _ _ h => h) (Or.inl ⟨by kernel_rfl, ?hrb15⟩) (by assumption) ?rrb15
    case hrb15 => intro W hW; obtain ⟨⟨c0, c1, c2, c3⟩, ⟨d0, d1, d2, d3⟩⟩ : (_ ∧ _ ∧ _ ∧ _) ∧ (_ ∧ _ ∧ _ ∧ _) := hW; go_simp; all_goals with_reducible rfl
    change wpAnyH _ _ _ _ _ _ _ (Act.put _ (some 47) _) _
    simp only [Act.put, List.setIfInBounds_toArray, List.set_cons_zero, List.set_cons_succ]
    refine' wpAnyH_take (i := 18) (v := _) rfl (by kernel_rfl) (by kernel_rfl) (by kernel_rfl) (fun _ _ _ h => h) (Or.inl ⟨by kernel_rfl, ?hrb16⟩) (by assumption) ?rrb16
    case hrb16 => intro W hW; obtain ⟨⟨c0, c1, c2, c3⟩, ⟨d0, d1, d2, d3⟩⟩ : (_ ∧ _ ∧ _ ∧ _) ∧ (_ ∧ _ ∧ _ ∧ _) := hW; go_simp; all_goals with_reducible rfl
    change wpAnyH _ _ _ _ _ _ _ (Act.put _ (some 48) _) _
    simp only [Act.put, List.setIfInBounds_toArray, List.set_cons_zero, List.set_cons_succ]
    refine' wpAnyH_take (i := 19) (v := _) rfl (by kernel_rfl) (by kernel_rfl) (by kernel_rfl) (fun _ _ _ h => h) (Or.inl ⟨by kernel_rfl, ?hrb17⟩) (by assumption) ?rrb17
    case hrb17 => intro W hW; obtain ⟨⟨c0, c1, c2, c3⟩, ⟨d0, d1, d2, d3⟩⟩ : (_ ∧ _ ∧ _ ∧ _) ∧ (_ ∧ _ ∧ _ ∧ _) := hW; go_simp; all_goals with_reducible rfl
    change wpAnyH _ _ _ _ _ _ _ (Act.put _ (some 49) _) _
    simp only [Act.put, List.setIfInBounds_toArray, List.set_cons_zero, List.set_cons_succ]
    refine' wpAnyH_take (i := 21) (v := _) rfl (by kernel_rfl) (by kernel_rfl) (by kernel_rfl) (fun _ _ _ h => h) (Or.inl ⟨by kernel_rfl, ?hrb18⟩) (by assumption) ?rrb18
    case hrb18 => intro W hW; obtain ⟨⟨c0, c1, c2, c3⟩, ⟨d0, d1, d2, d3⟩⟩ : (_ ∧ _ ∧ _ ∧ _) ∧ (_ ∧ _ ∧ _ ∧ _) := hW; go_simp; all_goals with_reducible rfl
    change wpAnyH _ _ _ _ _ _ _ (Act.put _ (some 51) _) _
    simp only [Act.put, List.setIfInBounds_toArray, List.set_cons_zero, List.set_cons_succ]
    refine wpAnyH_ready (rs := [20]) (by kernel_rfl) (by simp) ?_
    refine AllReadyH.cons rfl (fun KK hK => ?_) AllReadyH.nil
    go_simp
    refine (hZ1 _ hb).mono ?_
    rintro e wd ⟨rfl, hBn⟩
    have hbn := hb.trans (hBn.mono hb.size)
    clear hHeld hb hBn
    go_wp2_with fail
    refine hK.out _ _ (HC.out _ hbn) (fun hHeld => ?_)
    have hb := hbn
    clear hbn
    clear hK KK
    try simp only [Act.put, List.setIfInBounds_toArray, List.set_cons_zero, List.set_cons_succ]
    refine wpAnyH_ready (rs := [22]) (by kernel_rfl) (by simp) ?_
    refine AllReadyH.cons rfl (fun KK hK => ?_) AllReadyH.nil
    go_simp
    refine (hZ2 _ hb).mono ?_
    rintro e we ⟨rfl, hBn⟩
    have hbn := hb.trans (hBn.mono hb.size)
    clear hHeld hb hBn
    go_wp2_with fail
    refine hK.out _ _ (HC.out _ hbn) (fun hHeld => ?_)
    have hb := hbn
    clear hbn
    clear hK KK
    try simp only [Act.put, List.setIfInBounds_toArray, List.set_cons_zero, List.set_cons_succ]
    refine' wpAnyH_take (i := 23) (v := _) rfl (by kernel_rfl) (by kernel_rfl) (by kernel_rfl) (fun _ _ _ h => h) (Or.inl ⟨by kernel_rfl, ?hrb19⟩) (by assumption) ?rrb19
    case hrb19 => intro W hW; obtain ⟨⟨c0, c1, c2, c3⟩, ⟨d0, d1, d2, d3⟩⟩ : (_ ∧ _ ∧ _ ∧ _) ∧ (_ ∧ _ ∧ _ ∧ _) := hW; go_simp; all_goals with_reducible rfl
    change wpAnyH _ _ _ _ _ _ _ (Act.put _ (some 53) _) _
    simp only [Act.put, List.setIfInBounds_toArray, List.set_cons_zero, List.set_cons_succ]
    refine' wpAnyH_take (i := 24) (v := _) rfl (by kernel_rfl) (by kernel_rfl) (by kernel_rfl) (fun _ _ _ h => h) (Or.inl ⟨by kernel_rfl, ?hrb20⟩) (by assumption) ?rrb20
    case hrb20 => intro W hW; obtain ⟨⟨c0, c1, c2, c3⟩, ⟨d0, d1, d2, d3⟩⟩ : (_ ∧ _ ∧ _ ∧ _) ∧ (_ ∧ _ ∧ _ ∧ _) := hW; go_simp; all_goals with_reducible rfl
    change wpAnyH _ _ _ _ _ _ _ (Act.put _ (some 54) _) _
    simp only [Act.put, List.setIfInBounds_toArray, List.set_cons_zero, List.set_cons_succ]
    refine wpAnyH_done (by kernel_rfl) ?_ _
    clear hO hP hS
    clear hHeld hZ1 hZ2 hsz
    have HCE : Hid (∀ W, Below we.heap.size we W → (W.cell? ⟨X, 0, none⟩ = some (.bool lf) ∧ W.cell? ⟨X, 1, none⟩ = some (.slice xa nk xb) ∧ W.cell? ⟨X, 2, none⟩ = some (.slice xc nv xd) ∧ W.cell? ⟨X, 3, none⟩ = some (.slice xe nd xf)) ∧ Below w.heap.size w W ∧ NdView W (.agg #[.bool lf, .slice xa nk xb, .slice xc nv xd, .slice xe nd xf]) D ∧ View W (some ⟨g4, 0, none⟩) N c4 (fun i => (putI D).getD i 0)) := fun W hb' =>
      have h6 := hb.trans (hb'.mono hb.size)
      ⟨(HC.out W h6).1, (HBW.out W h6).2.2, HVX.out.below (HBW.out W h6).1, HV4c.out.below (HBW.out W h6).2.1⟩
    clear hb HC HBW HVX HV4c HV5b HX HY HB1
    obtain ⟨⟨x0, x1, x2, x3⟩, -, hvx, -⟩ := HCE.out we (Below.refl _ _)
    have hSN := specNodeOk_any _ D we hvx HF.out.1
    clear hvx
    go_wp2_with fail
    refine hSN.mono ?_
    rintro e wf ⟨r3, rfl, hr3, hbf⟩
    have HR3 : Hid (r3 = true ↔ OkS D) := hr3
    clear hSN hr3 x0 x1 x2 x3
    obtain ⟨⟨x0, x1, x2, x3⟩, -, hvx, hv4⟩ := HCE.out wf hbf
    cases r3 with
    | false =>
      have HNK : Hid (¬ OkI D) := fun h => by have := HR3.out.2 (HF.out.2 h); cases this
      have hN0 : N = 0 := by rw [← hN.out]; unfold putI; rw [if_neg HNK.out]; rfl
      have hNO := (implNodeOk_any _ D wf hvx HF.out.1).mono fun e w' h => h.is (b := false) ⟨(fun h => by cases h), fun h => absurd h HNK.out⟩
      clear hN
      subst hN0
      clear hvx hv4 HNK HR3
      go_wp2_with fail
      refine hNO.mono ?_
      rintro e wg ⟨rfl, hbg⟩
      have HB : Hid (Below w.heap.size w wg) := (HCE.out wg (hbf.trans (hbg.mono hbf.size))).2.1
      clear hNO hbg hbf HCE HF x0 x1 x2 x3
      go_wp2
      go_ret
      exact ⟨rfl, HB.out⟩
    | true =>
      have HOK : Hid (OkS D) := HR3.out.1 rfl
      have HPI : Hid (putI D = bytesN D ∧ N = (bytesN D).length ∧ N ≤ 240 ∧ lof N (fun i => (putI D).getD i 0) = bytesN D) := by
        have h1 := putI_ok HOK.out.i
        have h2 := (okI_few HOK.out.i).2.2.1
        have h3 := hN.out
        rw [h1] at h3
        refine ⟨h1, h3.symm, by omega, ?_⟩
        rw [h1, ← h3, lof_self]
      have hN240 : (N : Int) ≤ 240 := by have := HPI.out.2.2.1; omega
      have hG := implGetNode_any g4 0 N c4 _ wf hv4 (by omega)
      clear HR3 hN hv4 hvx
      go_wp2_with fail
      refine hG.mono ?_
      rintro e wg ⟨hbg, r4, vt, rfl, ⟨tl, ta, tn, tb, tc, tm, td, te, tk, tf, rfl⟩, hyes, hno⟩
      have hr4 : r4 = true := by
        cases r4 with
        | true => rfl
        | false => exact absurd HPI.out.2.2.2.symm (hno rfl D HOK.out.i)
      obtain ⟨E4, h1, h2, h3, h4⟩ := hyes hr4
      subst hr4
      have HSM : Hid (sameNd E4 D = true) := (bytesN_uniq h3.shape HOK.out.i.shape (at_lof h4) (at_lof HPI.out.2.2.2.symm)).same
      obtain ⟨Wt, hWt⟩ := hidN (wg.alloc (.cells #[.bool tl, .slice ta tn tb, .slice tc tm td, .slice te tk tf] 27))
      obtain ⟨T0, hT0⟩ := hidN wg.heap.size
      have hbgt : Below wg.heap.size wg Wt := by rw [← hWt.out]; exact (Below.refl _ _).alloc (Nat.le_refl _) _
      have hbt : Below we.heap.size we Wt := (hbf.trans (hbg.mono hbf.size)).trans (hbgt.mono (hbf.trans (hbg.mono hbf.size)).size)
      have HTV : Hid (V4 Wt T0 27 (.bool tl) (.slice ta tn tb) (.slice tc tm td) (.slice te tk tf)) := by rw [← hWt.out, ← hT0.out]; exact V4.new wg _ _ _ _ _
      have HVT : Hid (NdView Wt (.agg #[.bool tl, .slice ta tn tb, .slice tc tm td, .slice te tk tf]) E4 ∧ NFine E4) := ⟨h1.below hbgt, h2⟩
      have HCT : Hid (∀ W, Below Wt.heap.size Wt W → ((W.cell? ⟨X, 0, none⟩ = some (.bool lf) ∧ W.cell? ⟨X, 1, none⟩ = some (.slice xa nk xb) ∧ W.cell? ⟨X, 2, none⟩ = some (.slice xc nv xd) ∧ W.cell? ⟨X, 3, none⟩ = some (.slice xe nd xf)) ∧ (W.cell? ⟨T0, 0, none⟩ = some (.bool tl) ∧ W.cell? ⟨T0, 1, none⟩ = some (.slice ta tn tb) ∧ W.cell? ⟨T0, 2, none⟩ = some (.slice tc tm td) ∧ W.cell? ⟨T0, 3, none⟩ = some (.slice te tk tf))) ∧ Below w.heap.size w W ∧ NdView W (.agg #[.bool lf, .slice xa nk xb, .slice xc nv xd, .slice xe nd xf]) D) := fun W hb' =>
        have h6 := HCE.out W (hbt.trans (hb'.mono hbt.size))
        ⟨⟨h6.1, (HTV.out.below hb').cells⟩, h6.2.1, h6.2.2.1⟩
      clear hG hyes hno h1 h2 h3 h4 hbg hbf hbgt hbt x0 x1 x2 x3 HCE
      obtain ⟨⟨⟨x0, x1, x2, x3⟩, ⟨t0, t1, t2, t3⟩⟩, -, hvx⟩ := HCT.out Wt (Below.refl _ _)
      have hSM := implSameNd_any _ _ E4 D Wt HVT.out.1 hvx HVT.out.2
      rw [HSM.out] at hSM
      clear hvx HTV
      go_wp2_with (rw [hWt.out, hT0.out])
      refine hSM.mono ?_
      rintro e wh ⟨rfl, hbh⟩
      clear hSM x0 x1 x2 x3 t0 t1 t2 t3 hWt hT0
      obtain ⟨⟨⟨x0, x1, x2, x3⟩, -⟩, -, hvx⟩ := HCT.out wh hbh
      have hNO := (implNodeOk_any _ D wh hvx HF.out.1).mono fun e w' h => h.is (b := true) ⟨fun _ => HOK.out.i, fun _ => rfl⟩
      clear hvx
      go_wp2_with fail
      refine hNO.mono ?_
      rintro e wi ⟨rfl, hbi⟩
      have hbti := hbh.trans (hbi.mono hbh.size)
      clear hNO x0 x1 x2 x3 hbi hbh
      obtain ⟨⟨⟨x0, x1, x2, x3⟩, -⟩, -, hvx⟩ := HCT.out wi hbti
      have hSZ := implSizeOf_any _ D wi hvx HF.out.1
      have hszN : sizeN D = (N : Int) := by unfold sizeN; rw [HPI.out.2.1]
      rw [hszN] at hSZ
      clear hvx hszN
      go_wp2_with fail
      refine hSZ.mono ?_
      rintro e wj ⟨rfl, hbj⟩
      have HB : Hid (Below w.heap.size w wj) := (HCT.out wj (hbti.trans (hbj.mono hbti.size))).2.1
      clear hSZ x0 x1 x2 x3 hbj hbti HCT HVT HF HOK HPI HSM
      go_wp2
      go_ret
      exact ⟨rfl, HB.out⟩

end Go.Proofs.Ytaiinlcdfeboiaa

