/-
  Together: PartGet, KeyDecSpec, IterKit, IterBox
-/
import Derived.Test.YtclegljalndaearPack5
import Derived.Test.YtclegljalndaearPack4
import Derived.Test.YtclegljalndaearPack3
import Derived.Test.YtclegljalndaearPack1
import Derived.RangeFuncNested
import Derived.RangeFuncBound
import Derived.RangeFuncCalls
import Derived.RangeFuncLeaves
import Derived.OwnWalkIn
import Derived.TacticsInMore
import Derived.LoopNIn
import Derived.LoopIn
import Derived.Shelf.RegionOpen
/-
  The model's GetPart: one value of a key, at every slice of bytes that reads and at every place.
-/
namespace Go.Proofs.Ytclegljalndaear
open Go.RowKit
set_option maxRecDepth 4000

theorem l5Get_is (b off n cap : Nat) (f : Nat → Int) (t p : Int) (w : World) (k y : Int) (s : ByteArray) (q : Int) (ok : Bool) (hr : Hid (rawT n f t p = ⟨k, y, s, q, ok⟩)) (hv : View w (some ⟨b, off, none⟩) n cap f) (hn : n ≤ 10000000) (ht : 1 ≤ t ∧ t ≤ 4) (hp1 : p ≤ 9223372036854775807) :
    Calls Try.prog 65 #[.slice (some ⟨b, off, none⟩) n cap, .int .i64 t, .int .i64 p] w fun e w' => e = .returned (.tuple #[.agg #[.int .i64 k, .int .i64 y, .string s], .int .i64 q, .bool ok]) ∧ Below w.heap.size w w' := by
  have key : Calls Try.prog 65 #[.slice (some ⟨b, off, none⟩) n cap, .int .i64 t, .int .i64 p] w fun e w' => e = gotRet (rawT n f t p) ∧ Below w.heap.size w w' := by
    obtain rfl | rfl | rfl | rfl : t = 1 ∨ t = 2 ∨ t = 3 ∨ t = 4 := by omega
    · exact l5Get_fix b off n cap f p w hv hn hp1
    · exact l5Get_var b off n cap f p w hv hn hp1
    · exact l5Get_esc b off n cap f p w hv hn hp1
    · exact l5Get_bool b off n cap f p w hv hn hp1
  rw [hr.out] at key
  exact key

theorem rawT_small {n : Nat} {f : Nat → Int} {t p k y q : Int} {s : ByteArray} (hb : ∀ i, i < n → 0 ≤ f i ∧ f i ≤ 255) (ht : 1 ≤ t ∧ t ≤ 4) (h : rawT n f t p = ⟨k, y, s, q, true⟩) : s.size ≤ n := by
  unfold rawT at h
  obtain rfl | rfl | rfl | rfl : t = 1 ∨ t = 2 ∨ t = 3 ∨ t = 4 := by omega
  · rw [if_pos rfl] at h
    simp only [Got.mk.injEq] at h
    rw [← h.2.2.1]; exact Nat.zero_le _
  · rw [if_neg (by decide), if_pos rfl] at h
    simp only [Got.mk.injEq] at h
    rw [← h.2.2.1]; exact Nat.zero_le _
  · rw [if_neg (by decide), if_neg (by decide), if_pos rfl] at h
    simp only [Got.mk.injEq] at h
    obtain ⟨-, -, h1, h2, h3⟩ := h
    obtain ⟨i, K, -, -, hi, -, hsK, -⟩ := getE_back hb (x := p) (s := s) (q := q) (by rw [← h1, ← h2, ← h3])
    omega
  · rw [if_neg (by decide), if_neg (by decide), if_neg (by decide)] at h
    split at h
    · simp only [Got.mk.injEq] at h
      rw [← h.2.2.1]; exact Nat.zero_le _
    · simp at h

theorem view_at {w : World} {b off n cap i : Nat} {f : Nat → Int} (h : View w (some ⟨b, off, none⟩) n cap f) (hi : i < n) : w.cell? ⟨b, off + i, none⟩ = some (.int .u8 (f i)) := by
  obtain ⟨b', off', e, _, hc⟩ := h.cells (by omega)
  cases e
  exact hc i hi

set_option maxHeartbeats 4000000 in
theorem getPart_spec (b off n cap : Nat) (f : Nat → Int) (c t : Int) (nul d : Bool) (p : Int) (w : World) (hv : View w (some ⟨b, off, none⟩) n cap f) (hn : n ≤ 10000000) (hp1 : p ≤ 9223372036854775807) :
    Calls Try.prog 47 #[.slice (some ⟨b, off, none⟩) n cap, .agg #[.int .i64 c, .int .i64 t, .bool nul, .bool d], .int .i64 p] w fun e w' => e = gotRet (getP n f c t nul d p) ∧ Below w.heap.size w w' := by
  have hP := (PBox.new w c t nul d).below ((Below.refl _ _).alloc (Nat.le_refl _) (.cells #[.int .i64 0, .int .i64 0, .string ⟨#[]⟩] 59))
  have hR := Box.new (w.alloc (.cells #[.int .i64 c, .int .i64 t, .bool nul, .bool d] 51)) 0 0 ⟨#[]⟩
  rw [show (w.alloc (.cells #[.int .i64 c, .int .i64 t, .bool nul, .bool d] 51)).heap.size = w.heap.size + 1 by simp] at hR
  have hb0 : Below w.heap.size w ((w.alloc (.cells #[.int .i64 c, .int .i64 t, .bool nul, .bool d] 51)).alloc (.cells #[.int .i64 0, .int .i64 0, .string ⟨#[]⟩] 59)) := ((Below.refl _ _).alloc (Nat.le_refl _) _).alloc (by simp) _
  have hFb : Hid (∀ i, i < n → 0 ≤ f i ∧ f i ≤ 255) := hv.byte
  cases hok : partOk c t with
  | false =>
    rw [getP_no hok]
    go_enter Try.func47, Try.ntmps47
    go_wp2_with fail
    refine (specPartOk_any c t nul d _).mono ?_
    rw [hok]
    rintro e w1 ⟨rfl, hb1⟩
    have hP1 := hP.below hb1
    have hR1 := hR.below hb1
    have hv1 := hv.below (hb0.trans (hb1.mono hb0.size))
    have hB1 := hb0.trans (hb1.mono hb0.size)
    clear hP hR hb0 hb1
    obtain ⟨p0, p1, p2, p3⟩ := hP1.cells
    obtain ⟨x0, x1, x2⟩ := hR1.cells
    obtain ⟨r0, r1, r2⟩ := hR1.frozen
    have hgs := stored3 (.int .i64 0) (.int .i64 0) (.string ⟨#[]⟩) x0 x1 x2
    have HB : Hid (Below w.heap.size w (((w1.setCell ⟨w.heap.size + 1, 0, none⟩ (.int .i64 0)).setCell ⟨w.heap.size + 1, 1, none⟩ (.int .i64 0)).setCell ⟨w.heap.size + 1, 2, none⟩ (.string ⟨#[]⟩))) := ((hB1.setCell (Nat.le_succ _) _).setCell (Nat.le_succ _) _).setCell (Nat.le_succ _) _
    clear p0 p1 p2 p3
    go_wp2
    exact bodyPost_ret (v := .tuple #[.agg #[.int .i64 0, .int .i64 0, .string ⟨#[]⟩], .int .i64 0, .bool false]) (by simp [results, Try.results47, go_sem, hgs]) rfl ⟨rfl, HB.out⟩
  | true =>
    have ht : 1 ≤ t ∧ t ≤ 4 := by unfold partOk at hok; simp at hok; omega
    by_cases h0 : p < 0
    · rw [getP_out (Or.inl h0)]
      go_enter Try.func47, Try.ntmps47
      go_wp2_with fail
      refine (specPartOk_any c t nul d _).mono ?_
      rw [hok]
      rintro e w1 ⟨rfl, hb1⟩
      have hP1 := hP.below hb1
      have hR1 := hR.below hb1
      have hv1 := hv.below (hb0.trans (hb1.mono hb0.size))
      have hB1 := hb0.trans (hb1.mono hb0.size)
      clear hP hR hb0 hb1
      obtain ⟨p0, p1, p2, p3⟩ := hP1.cells
      obtain ⟨x0, x1, x2⟩ := hR1.cells
      obtain ⟨r0, r1, r2⟩ := hR1.frozen
      have hgs := stored3 (.int .i64 0) (.int .i64 0) (.string ⟨#[]⟩) x0 x1 x2
      have HB : Hid (Below w.heap.size w (((w1.setCell ⟨w.heap.size + 1, 0, none⟩ (.int .i64 0)).setCell ⟨w.heap.size + 1, 1, none⟩ (.int .i64 0)).setCell ⟨w.heap.size + 1, 2, none⟩ (.string ⟨#[]⟩))) := ((hB1.setCell (Nat.le_succ _) _).setCell (Nat.le_succ _) _).setCell (Nat.le_succ _) _
      go_wp2
      exact bodyPost_ret (v := .tuple #[.agg #[.int .i64 0, .int .i64 0, .string ⟨#[]⟩], .int .i64 0, .bool false]) (by simp [results, Try.results47, go_sem, hgs]) rfl ⟨rfl, HB.out⟩
    by_cases h1 : (n : Int) < p
    · rw [getP_out (Or.inr h1)]
      go_enter Try.func47, Try.ntmps47
      go_wp2_with fail
      refine (specPartOk_any c t nul d _).mono ?_
      rw [hok]
      rintro e w1 ⟨rfl, hb1⟩
      have hP1 := hP.below hb1
      have hR1 := hR.below hb1
      have hv1 := hv.below (hb0.trans (hb1.mono hb0.size))
      have hB1 := hb0.trans (hb1.mono hb0.size)
      clear hP hR hb0 hb1
      obtain ⟨p0, p1, p2, p3⟩ := hP1.cells
      obtain ⟨x0, x1, x2⟩ := hR1.cells
      obtain ⟨r0, r1, r2⟩ := hR1.frozen
      have hgs := stored3 (.int .i64 0) (.int .i64 0) (.string ⟨#[]⟩) x0 x1 x2
      have HB : Hid (Below w.heap.size w (((w1.setCell ⟨w.heap.size + 1, 0, none⟩ (.int .i64 0)).setCell ⟨w.heap.size + 1, 1, none⟩ (.int .i64 0)).setCell ⟨w.heap.size + 1, 2, none⟩ (.string ⟨#[]⟩))) := ((hB1.setCell (Nat.le_succ _) _).setCell (Nat.le_succ _) _).setCell (Nat.le_succ _) _
      go_wp2
      exact bodyPost_ret (v := .tuple #[.agg #[.int .i64 0, .int .i64 0, .string ⟨#[]⟩], .int .i64 0, .bool false]) (by simp [results, Try.results47, go_sem, hgs]) rfl ⟨rfl, HB.out⟩
    replace h0 : 0 ≤ p := by omega
    replace h1 : p ≤ n := by omega
    cases d with
    | false =>
      cases nul with
      | false =>
        go_enter Try.func47, Try.ntmps47
        go_wp2_with fail
        refine (specPartOk_any c t false false _).mono ?_
        rw [hok]
        rintro e w1 ⟨rfl, hb1⟩
        have hP1 := hP.below hb1
        have hR1 := hR.below hb1
        have hv1 := hv.below (hb0.trans (hb1.mono hb0.size))
        have hB1 := hb0.trans (hb1.mono hb0.size)
        clear hP hR hb0 hb1
        obtain ⟨p0, p1, p2, p3⟩ := hP1.cells
        have hx1 : View w1 (some ⟨b, off, none⟩) n cap (turned false f) := hv1
        clear hv1
        obtain ⟨k, y, s, q, ok, hr⟩ : ∃ k y s q ok, Hid (rawT n (turned false f) t p = ⟨k, y, s, q, ok⟩) := ⟨_, _, _, _, _, rfl⟩
        go_wp2_with fail
        clear p0 p1 p2 p3
        refine (l5Get_is b off n cap (turned false f) t p w1 k y s q ok hr hx1 hn ht (by omega)).mono ?_
        rintro e w3 ⟨rfl, hb3⟩
        have hR3 := hR1.below hb3
        have hB3 := hB1.trans (hb3.mono hB1.size)
        have hlt3 : w.heap.size + 1 < w3.heap.size := hR3.lt
        have hbV : Below w3.heap.size w3 (w3.alloc (.cells #[.int .i64 k, .int .i64 y, .string s] 59)) := (Below.refl _ _).alloc (Nat.le_refl _) _
        have hR4 := hR3.below hbV
        have hV4 := Box.new w3 k y s
        have hB4 := hB3.trans (hbV.mono hB3.size)
        clear hb3 hR1 hP1 hB1
        cases ok with
        | false =>
          have HG : Hid (getP n f c t false false p = .no) := by
            show _ = _
            rw [getP_in hok h0 h1]
            rw [getN_no]
            unfold getT
            rw [hr.out]
            rfl
          obtain ⟨x0, x1, x2⟩ := hR3.cells
          obtain ⟨r0, r1, r2⟩ := hR3.frozen
          have hgs := stored3A (.int .i64 0) (.int .i64 0) (.string ⟨#[]⟩) x0 x1 x2 hR3.lt (.cells #[.int .i64 k, .int .i64 y, .string s] 59)
          have HB : Hid (Below w.heap.size w ((((w3.setCell ⟨w.heap.size + 1, 0, none⟩ (.int .i64 0)).setCell ⟨w.heap.size + 1, 1, none⟩ (.int .i64 0)).setCell ⟨w.heap.size + 1, 2, none⟩ (.string ⟨#[]⟩)).alloc (.cells #[.int .i64 k, .int .i64 y, .string s] 59))) := (((hB3.setCell (Nat.le_succ _) _).setCell (Nat.le_succ _) _).setCell (Nat.le_succ _) _).alloc (by simpa using hB3.size) _
          clear hR3 hB3 hR4 hV4 hB4 hbV hr
          go_wp2
          exact bodyPost_ret (v := .tuple #[.agg #[.int .i64 0, .int .i64 0, .string ⟨#[]⟩], .int .i64 0, .bool false]) (by simp [results, Try.results47, go_sem, hgs]) rfl ⟨by rw [HG.out]; rfl, HB.out⟩
        | true =>
          clear hR3 hB3
          have hss : s.size ≤ n := rawT_small (turned_bd hFb.out) ht hr.out
          obtain ⟨v0, v1, v2⟩ := hV4.cells
          go_wp2_with fail
          clear v0 v1 v2
          refine (specValOk_any k y s _ (by omega)).mono ?_
          obtain ⟨o, ho⟩ : ∃ o, Hid (okF k y s = o) := ⟨_, rfl⟩
          rw [ho.out]
          rintro e w5 ⟨rfl, hb5⟩
          have hR5 := hR4.below hb5
          have hV5 := hV4.below hb5
          have hB5 := hB4.trans (hb5.mono hB4.size)
          clear hR4 hV4 hB4 hb5 hbV
          obtain ⟨v0, v1, v2⟩ := hV5.cells
          cases o with
          | false =>
            have HG : Hid (getP n f c t false false p = .no) := by
              show _ = _
              rw [getP_in hok h0 h1]
              rw [getN_no]
              unfold getT
              rw [hr.out]
              unfold Got.chk
              rw [ho.out]
              try rfl
            obtain ⟨x0, x1, x2⟩ := hR5.cells
            obtain ⟨r0, r1, r2⟩ := hR5.frozen
            have hgs := stored3 (.int .i64 0) (.int .i64 0) (.string ⟨#[]⟩) x0 x1 x2
            have HB : Hid (Below w.heap.size w (((w5.setCell ⟨w.heap.size + 1, 0, none⟩ (.int .i64 0)).setCell ⟨w.heap.size + 1, 1, none⟩ (.int .i64 0)).setCell ⟨w.heap.size + 1, 2, none⟩ (.string ⟨#[]⟩))) := ((hB5.setCell (Nat.le_succ _) _).setCell (Nat.le_succ _) _).setCell (Nat.le_succ _) _
            clear hR5 hV5 hB5 hr ho
            go_wp2
            exact bodyPost_ret (v := .tuple #[.agg #[.int .i64 0, .int .i64 0, .string ⟨#[]⟩], .int .i64 0, .bool false]) (by simp [results, Try.results47, go_sem, hgs]) rfl ⟨by rw [HG.out]; rfl, HB.out⟩
          | true =>
            have HG : Hid (getP n f c t false false p = ⟨k, y, s, q, true⟩) := by
              show _ = _
              rw [getP_in hok h0 h1]
              rw [getN_no]
              unfold getT
              rw [hr.out]
              unfold Got.chk
              rw [ho.out]
              try rfl
            obtain ⟨x0, x1, x2⟩ := hR5.cells
            obtain ⟨r0, r1, r2⟩ := hR5.frozen
            have hgs := stored3 (.int .i64 k) (.int .i64 y) (.string s) x0 x1 x2
            have HB : Hid (Below w.heap.size w (((w5.setCell ⟨w.heap.size + 1, 0, none⟩ (.int .i64 k)).setCell ⟨w.heap.size + 1, 1, none⟩ (.int .i64 y)).setCell ⟨w.heap.size + 1, 2, none⟩ (.string s))) := ((hB5.setCell (Nat.le_succ _) _).setCell (Nat.le_succ _) _).setCell (Nat.le_succ _) _
            clear hR5 hV5 hB5 hr ho
            go_wp2
            exact bodyPost_ret (v := .tuple #[.agg #[.int .i64 k, .int .i64 y, .string s], .int .i64 q, .bool true]) (by simp [results, Try.results47, go_sem, hgs]) rfl ⟨by rw [HG.out]; rfl, HB.out⟩
      | true =>
        go_enter Try.func47, Try.ntmps47
        go_wp2_with fail
        refine (specPartOk_any c t true false _).mono ?_
        rw [hok]
        rintro e w1 ⟨rfl, hb1⟩
        have hP1 := hP.below hb1
        have hR1 := hR.below hb1
        have hv1 := hv.below (hb0.trans (hb1.mono hb0.size))
        have hB1 := hb0.trans (hb1.mono hb0.size)
        clear hP hR hb0 hb1
        obtain ⟨p0, p1, p2, p3⟩ := hP1.cells
        have hx1 : View w1 (some ⟨b, off, none⟩) n cap (turned false f) := hv1
        clear hv1
        obtain ⟨i, rfl⟩ := Int.eq_ofNat_of_zero_le h0
        by_cases hend : i = n
        · subst hend
          have HG : Hid (getP i f c t true false (i : Int) = .no) := by
            show _ = _
            rw [getP_in hok h0 h1, getN_end]
          have q9 : ((i : Int) == (i : Int)) = true := by simp
          obtain ⟨x0, x1, x2⟩ := hR1.cells
          obtain ⟨r0, r1, r2⟩ := hR1.frozen
          have hgs := stored3 (.int .i64 0) (.int .i64 0) (.string ⟨#[]⟩) x0 x1 x2
          have HB : Hid (Below w.heap.size w (((w1.setCell ⟨w.heap.size + 1, 0, none⟩ (.int .i64 0)).setCell ⟨w.heap.size + 1, 1, none⟩ (.int .i64 0)).setCell ⟨w.heap.size + 1, 2, none⟩ (.string ⟨#[]⟩))) := ((hB1.setCell (Nat.le_succ _) _).setCell (Nat.le_succ _) _).setCell (Nat.le_succ _) _
          go_wp2
          exact bodyPost_ret (v := .tuple #[.agg #[.int .i64 0, .int .i64 0, .string ⟨#[]⟩], .int .i64 0, .bool false]) (by simp [results, Try.results47, go_sem, hgs]) rfl ⟨by rw [HG.out]; rfl, HB.out⟩
        have hin : i < n := by omega
        have hiz : (i : Int) < (n : Int) := by omega
        have q9 : ((i : Int) == (n : Int)) = false := by simp; omega
        have hbi := turned_bd (d := false) hFb.out i hin
        have hci := view_at hx1 hin
        by_cases hbig : 1 < turned false f i
        · have HG : Hid (getP n f c t true false (i : Int) = .no) := by
            show _ = _
            rw [getP_in hok h0 h1, getN_big hbig]
          obtain ⟨x0, x1, x2⟩ := hR1.cells
          obtain ⟨r0, r1, r2⟩ := hR1.frozen
          have hgs := stored3 (.int .i64 0) (.int .i64 0) (.string ⟨#[]⟩) x0 x1 x2
          have HB : Hid (Below w.heap.size w (((w1.setCell ⟨w.heap.size + 1, 0, none⟩ (.int .i64 0)).setCell ⟨w.heap.size + 1, 1, none⟩ (.int .i64 0)).setCell ⟨w.heap.size + 1, 2, none⟩ (.string ⟨#[]⟩))) := ((hB1.setCell (Nat.le_succ _) _).setCell (Nat.le_succ _) _).setCell (Nat.le_succ _) _
          go_wp2
          exact bodyPost_ret (v := .tuple #[.agg #[.int .i64 0, .int .i64 0, .string ⟨#[]⟩], .int .i64 0, .bool false]) (by simp [results, Try.results47, go_sem, hgs]) rfl ⟨by rw [HG.out]; rfl, HB.out⟩
        by_cases hzero : turned false f i = 0
        · have HG : Hid (getP n f c t true false (i : Int) = ⟨0, 0, noBytes, (i : Int) + 1, true⟩) := by
            show _ = _
            rw [getP_in hok h0 h1, getN_zero hin hzero]
          rw [hzero] at hci
          clear hbi hbig
          obtain ⟨x0, x1, x2⟩ := hR1.cells
          obtain ⟨r0, r1, r2⟩ := hR1.frozen
          have hgs := stored3 (.int .i64 0) (.int .i64 0) (.string ⟨#[]⟩) x0 x1 x2
          have HB : Hid (Below w.heap.size w (((w1.setCell ⟨w.heap.size + 1, 0, none⟩ (.int .i64 0)).setCell ⟨w.heap.size + 1, 1, none⟩ (.int .i64 0)).setCell ⟨w.heap.size + 1, 2, none⟩ (.string ⟨#[]⟩))) := ((hB1.setCell (Nat.le_succ _) _).setCell (Nat.le_succ _) _).setCell (Nat.le_succ _) _
          go_wp2
          exact bodyPost_ret (v := .tuple #[.agg #[.int .i64 0, .int .i64 0, .string ⟨#[]⟩], .int .i64 ((i : Int) + 1), .bool true]) (by simp [results, Try.results47, go_sem, hgs]) rfl ⟨by rw [HG.out]; rfl, HB.out⟩
        have hone : turned false f i = 1 := by omega
        rw [hone] at hci
        clear hbig hzero hbi
        obtain ⟨k, y, s, q, ok, hr⟩ : ∃ k y s q ok, Hid (rawT n (turned false f) t ((i : Int) + 1) = ⟨k, y, s, q, ok⟩) := ⟨_, _, _, _, _, rfl⟩
        go_wp2_with fail
        clear p0 p1 p2 p3
        refine (l5Get_is b off n cap (turned false f) t ((i : Int) + 1) w1 k y s q ok hr hx1 hn ht (by omega)).mono ?_
        rintro e w3 ⟨rfl, hb3⟩
        have hR3 := hR1.below hb3
        have hB3 := hB1.trans (hb3.mono hB1.size)
        have hlt3 : w.heap.size + 1 < w3.heap.size := hR3.lt
        have hbV : Below w3.heap.size w3 (w3.alloc (.cells #[.int .i64 k, .int .i64 y, .string s] 59)) := (Below.refl _ _).alloc (Nat.le_refl _) _
        have hR4 := hR3.below hbV
        have hV4 := Box.new w3 k y s
        have hB4 := hB3.trans (hbV.mono hB3.size)
        clear hb3 hR1 hP1 hB1
        cases ok with
        | false =>
          have HG : Hid (getP n f c t true false (i : Int) = .no) := by
            show _ = _
            rw [getP_in hok h0 h1]
            rw [getN_one hin hone]
            unfold getT
            rw [hr.out]
            rfl
          obtain ⟨x0, x1, x2⟩ := hR3.cells
          obtain ⟨r0, r1, r2⟩ := hR3.frozen
          have hgs := stored3A (.int .i64 0) (.int .i64 0) (.string ⟨#[]⟩) x0 x1 x2 hR3.lt (.cells #[.int .i64 k, .int .i64 y, .string s] 59)
          have HB : Hid (Below w.heap.size w ((((w3.setCell ⟨w.heap.size + 1, 0, none⟩ (.int .i64 0)).setCell ⟨w.heap.size + 1, 1, none⟩ (.int .i64 0)).setCell ⟨w.heap.size + 1, 2, none⟩ (.string ⟨#[]⟩)).alloc (.cells #[.int .i64 k, .int .i64 y, .string s] 59))) := (((hB3.setCell (Nat.le_succ _) _).setCell (Nat.le_succ _) _).setCell (Nat.le_succ _) _).alloc (by simpa using hB3.size) _
          clear hR3 hB3 hR4 hV4 hB4 hbV hr
          go_wp2
          exact bodyPost_ret (v := .tuple #[.agg #[.int .i64 0, .int .i64 0, .string ⟨#[]⟩], .int .i64 0, .bool false]) (by simp [results, Try.results47, go_sem, hgs]) rfl ⟨by rw [HG.out]; rfl, HB.out⟩
        | true =>
          clear hR3 hB3
          have hss : s.size ≤ n := rawT_small (turned_bd hFb.out) ht hr.out
          obtain ⟨v0, v1, v2⟩ := hV4.cells
          go_wp2_with fail
          clear v0 v1 v2
          refine (specValOk_any k y s _ (by omega)).mono ?_
          obtain ⟨o, ho⟩ : ∃ o, Hid (okF k y s = o) := ⟨_, rfl⟩
          rw [ho.out]
          rintro e w5 ⟨rfl, hb5⟩
          have hR5 := hR4.below hb5
          have hV5 := hV4.below hb5
          have hB5 := hB4.trans (hb5.mono hB4.size)
          clear hR4 hV4 hB4 hb5 hbV
          obtain ⟨v0, v1, v2⟩ := hV5.cells
          cases o with
          | false =>
            have HG : Hid (getP n f c t true false (i : Int) = .no) := by
              show _ = _
              rw [getP_in hok h0 h1]
              rw [getN_one hin hone]
              unfold getT
              rw [hr.out]
              unfold Got.chk
              rw [ho.out]
              try rfl
            obtain ⟨x0, x1, x2⟩ := hR5.cells
            obtain ⟨r0, r1, r2⟩ := hR5.frozen
            have hgs := stored3 (.int .i64 0) (.int .i64 0) (.string ⟨#[]⟩) x0 x1 x2
            have HB : Hid (Below w.heap.size w (((w5.setCell ⟨w.heap.size + 1, 0, none⟩ (.int .i64 0)).setCell ⟨w.heap.size + 1, 1, none⟩ (.int .i64 0)).setCell ⟨w.heap.size + 1, 2, none⟩ (.string ⟨#[]⟩))) := ((hB5.setCell (Nat.le_succ _) _).setCell (Nat.le_succ _) _).setCell (Nat.le_succ _) _
            clear hR5 hV5 hB5 hr ho
            go_wp2
            exact bodyPost_ret (v := .tuple #[.agg #[.int .i64 0, .int .i64 0, .string ⟨#[]⟩], .int .i64 0, .bool false]) (by simp [results, Try.results47, go_sem, hgs]) rfl ⟨by rw [HG.out]; rfl, HB.out⟩
          | true =>
            have HG : Hid (getP n f c t true false (i : Int) = ⟨k, y, s, q, true⟩) := by
              show _ = _
              rw [getP_in hok h0 h1]
              rw [getN_one hin hone]
              unfold getT
              rw [hr.out]
              unfold Got.chk
              rw [ho.out]
              try rfl
            obtain ⟨x0, x1, x2⟩ := hR5.cells
            obtain ⟨r0, r1, r2⟩ := hR5.frozen
            have hgs := stored3 (.int .i64 k) (.int .i64 y) (.string s) x0 x1 x2
            have HB : Hid (Below w.heap.size w (((w5.setCell ⟨w.heap.size + 1, 0, none⟩ (.int .i64 k)).setCell ⟨w.heap.size + 1, 1, none⟩ (.int .i64 y)).setCell ⟨w.heap.size + 1, 2, none⟩ (.string s))) := ((hB5.setCell (Nat.le_succ _) _).setCell (Nat.le_succ _) _).setCell (Nat.le_succ _) _
            clear hR5 hV5 hB5 hr ho
            go_wp2
            exact bodyPost_ret (v := .tuple #[.agg #[.int .i64 k, .int .i64 y, .string s], .int .i64 q, .bool true]) (by simp [results, Try.results47, go_sem, hgs]) rfl ⟨by rw [HG.out]; rfl, HB.out⟩
    | true =>
      cases nul with
      | false =>
        go_enter Try.func47, Try.ntmps47
        go_wp2_with fail
        refine (specPartOk_any c t false true _).mono ?_
        rw [hok]
        rintro e w1 ⟨rfl, hb1⟩
        have hP1 := hP.below hb1
        have hR1 := hR.below hb1
        have hv1 := hv.below (hb0.trans (hb1.mono hb0.size))
        have hB1 := hb0.trans (hb1.mono hb0.size)
        clear hP hR hb0 hb1
        obtain ⟨p0, p1, p2, p3⟩ := hP1.cells
        go_wp2_with fail
        refine (flip_own b off n cap f 0 w1 hv1 (by omega)).mono ?_
        rintro e w2 ⟨gx, cx, rfl, hgx, hrx, hb2⟩
        have hx2 : View w2 (some ⟨gx, 0, none⟩) n cx (turned true f) := (hrx.row.view (by obtain ⟨_, _, _, h3, _, _⟩ := hrx; exact h3) (flipF_byte 0 hv1.byte)).congr (fun i _ => by unfold flipF turned; rw [if_pos (by omega)]; rfl)
        have hP2 := hP1.below hb2
        have hR2 := hR1.below hb2
        have hB2 := hB1.trans (hb2.mono hB1.size)
        clear hP1 hR1 hv1 hB1 hb2 hrx p0 p1 p2 p3
        obtain ⟨p0, p1, p2, p3⟩ := hP2.cells
        obtain ⟨k, y, s, q, ok, hr⟩ : ∃ k y s q ok, Hid (rawT n (turned true f) t p = ⟨k, y, s, q, ok⟩) := ⟨_, _, _, _, _, rfl⟩
        go_wp2_with fail
        clear p0 p1 p2 p3
        refine (l5Get_is gx 0 n cx (turned true f) t p w2 k y s q ok hr hx2 hn ht (by omega)).mono ?_
        rintro e w3 ⟨rfl, hb3⟩
        have hR3 := hR2.below hb3
        have hB3 := hB2.trans (hb3.mono hB2.size)
        have hlt3 : w.heap.size + 1 < w3.heap.size := hR3.lt
        have hbV : Below w3.heap.size w3 (w3.alloc (.cells #[.int .i64 k, .int .i64 y, .string s] 59)) := (Below.refl _ _).alloc (Nat.le_refl _) _
        have hR4 := hR3.below hbV
        have hV4 := Box.new w3 k y s
        have hB4 := hB3.trans (hbV.mono hB3.size)
        clear hb3 hR2 hP2 hB2
        cases ok with
        | false =>
          have HG : Hid (getP n f c t false true p = .no) := by
            show _ = _
            rw [getP_in hok h0 h1]
            rw [getN_no]
            unfold getT
            rw [hr.out]
            rfl
          obtain ⟨x0, x1, x2⟩ := hR3.cells
          obtain ⟨r0, r1, r2⟩ := hR3.frozen
          have hgs := stored3A (.int .i64 0) (.int .i64 0) (.string ⟨#[]⟩) x0 x1 x2 hR3.lt (.cells #[.int .i64 k, .int .i64 y, .string s] 59)
          have HB : Hid (Below w.heap.size w ((((w3.setCell ⟨w.heap.size + 1, 0, none⟩ (.int .i64 0)).setCell ⟨w.heap.size + 1, 1, none⟩ (.int .i64 0)).setCell ⟨w.heap.size + 1, 2, none⟩ (.string ⟨#[]⟩)).alloc (.cells #[.int .i64 k, .int .i64 y, .string s] 59))) := (((hB3.setCell (Nat.le_succ _) _).setCell (Nat.le_succ _) _).setCell (Nat.le_succ _) _).alloc (by simpa using hB3.size) _
          clear hR3 hB3 hR4 hV4 hB4 hbV hr
          go_wp2
          exact bodyPost_ret (v := .tuple #[.agg #[.int .i64 0, .int .i64 0, .string ⟨#[]⟩], .int .i64 0, .bool false]) (by simp [results, Try.results47, go_sem, hgs]) rfl ⟨by rw [HG.out]; rfl, HB.out⟩
        | true =>
          clear hR3 hB3
          have hss : s.size ≤ n := rawT_small (turned_bd hFb.out) ht hr.out
          obtain ⟨v0, v1, v2⟩ := hV4.cells
          go_wp2_with fail
          clear v0 v1 v2
          refine (specValOk_any k y s _ (by omega)).mono ?_
          obtain ⟨o, ho⟩ : ∃ o, Hid (okF k y s = o) := ⟨_, rfl⟩
          rw [ho.out]
          rintro e w5 ⟨rfl, hb5⟩
          have hR5 := hR4.below hb5
          have hV5 := hV4.below hb5
          have hB5 := hB4.trans (hb5.mono hB4.size)
          clear hR4 hV4 hB4 hb5 hbV
          obtain ⟨v0, v1, v2⟩ := hV5.cells
          cases o with
          | false =>
            have HG : Hid (getP n f c t false true p = .no) := by
              show _ = _
              rw [getP_in hok h0 h1]
              rw [getN_no]
              unfold getT
              rw [hr.out]
              unfold Got.chk
              rw [ho.out]
              try rfl
            obtain ⟨x0, x1, x2⟩ := hR5.cells
            obtain ⟨r0, r1, r2⟩ := hR5.frozen
            have hgs := stored3 (.int .i64 0) (.int .i64 0) (.string ⟨#[]⟩) x0 x1 x2
            have HB : Hid (Below w.heap.size w (((w5.setCell ⟨w.heap.size + 1, 0, none⟩ (.int .i64 0)).setCell ⟨w.heap.size + 1, 1, none⟩ (.int .i64 0)).setCell ⟨w.heap.size + 1, 2, none⟩ (.string ⟨#[]⟩))) := ((hB5.setCell (Nat.le_succ _) _).setCell (Nat.le_succ _) _).setCell (Nat.le_succ _) _
            clear hR5 hV5 hB5 hr ho
            go_wp2
            exact bodyPost_ret (v := .tuple #[.agg #[.int .i64 0, .int .i64 0, .string ⟨#[]⟩], .int .i64 0, .bool false]) (by simp [results, Try.results47, go_sem, hgs]) rfl ⟨by rw [HG.out]; rfl, HB.out⟩
          | true =>
            have HG : Hid (getP n f c t false true p = ⟨k, y, s, q, true⟩) := by
              show _ = _
              rw [getP_in hok h0 h1]
              rw [getN_no]
              unfold getT
              rw [hr.out]
              unfold Got.chk
              rw [ho.out]
              try rfl
            obtain ⟨x0, x1, x2⟩ := hR5.cells
            obtain ⟨r0, r1, r2⟩ := hR5.frozen
            have hgs := stored3 (.int .i64 k) (.int .i64 y) (.string s) x0 x1 x2
            have HB : Hid (Below w.heap.size w (((w5.setCell ⟨w.heap.size + 1, 0, none⟩ (.int .i64 k)).setCell ⟨w.heap.size + 1, 1, none⟩ (.int .i64 y)).setCell ⟨w.heap.size + 1, 2, none⟩ (.string s))) := ((hB5.setCell (Nat.le_succ _) _).setCell (Nat.le_succ _) _).setCell (Nat.le_succ _) _
            clear hR5 hV5 hB5 hr ho
            go_wp2
            exact bodyPost_ret (v := .tuple #[.agg #[.int .i64 k, .int .i64 y, .string s], .int .i64 q, .bool true]) (by simp [results, Try.results47, go_sem, hgs]) rfl ⟨by rw [HG.out]; rfl, HB.out⟩
      | true =>
        go_enter Try.func47, Try.ntmps47
        go_wp2_with fail
        refine (specPartOk_any c t true true _).mono ?_
        rw [hok]
        rintro e w1 ⟨rfl, hb1⟩
        have hP1 := hP.below hb1
        have hR1 := hR.below hb1
        have hv1 := hv.below (hb0.trans (hb1.mono hb0.size))
        have hB1 := hb0.trans (hb1.mono hb0.size)
        clear hP hR hb0 hb1
        obtain ⟨p0, p1, p2, p3⟩ := hP1.cells
        go_wp2_with fail
        refine (flip_own b off n cap f 0 w1 hv1 (by omega)).mono ?_
        rintro e w2 ⟨gx, cx, rfl, hgx, hrx, hb2⟩
        have hx2 : View w2 (some ⟨gx, 0, none⟩) n cx (turned true f) := (hrx.row.view (by obtain ⟨_, _, _, h3, _, _⟩ := hrx; exact h3) (flipF_byte 0 hv1.byte)).congr (fun i _ => by unfold flipF turned; rw [if_pos (by omega)]; rfl)
        have hP2 := hP1.below hb2
        have hR2 := hR1.below hb2
        have hB2 := hB1.trans (hb2.mono hB1.size)
        clear hP1 hR1 hv1 hB1 hb2 hrx p0 p1 p2 p3
        obtain ⟨p0, p1, p2, p3⟩ := hP2.cells
        obtain ⟨i, rfl⟩ := Int.eq_ofNat_of_zero_le h0
        by_cases hend : i = n
        · subst hend
          have HG : Hid (getP i f c t true true (i : Int) = .no) := by
            show _ = _
            rw [getP_in hok h0 h1, getN_end]
          have q9 : ((i : Int) == (i : Int)) = true := by simp
          obtain ⟨x0, x1, x2⟩ := hR2.cells
          obtain ⟨r0, r1, r2⟩ := hR2.frozen
          have hgs := stored3 (.int .i64 0) (.int .i64 0) (.string ⟨#[]⟩) x0 x1 x2
          have HB : Hid (Below w.heap.size w (((w2.setCell ⟨w.heap.size + 1, 0, none⟩ (.int .i64 0)).setCell ⟨w.heap.size + 1, 1, none⟩ (.int .i64 0)).setCell ⟨w.heap.size + 1, 2, none⟩ (.string ⟨#[]⟩))) := ((hB2.setCell (Nat.le_succ _) _).setCell (Nat.le_succ _) _).setCell (Nat.le_succ _) _
          go_wp2
          exact bodyPost_ret (v := .tuple #[.agg #[.int .i64 0, .int .i64 0, .string ⟨#[]⟩], .int .i64 0, .bool false]) (by simp [results, Try.results47, go_sem, hgs]) rfl ⟨by rw [HG.out]; rfl, HB.out⟩
        have hin : i < n := by omega
        have hiz : (i : Int) < (n : Int) := by omega
        have q9 : ((i : Int) == (n : Int)) = false := by simp; omega
        have hbi := turned_bd (d := true) hFb.out i hin
        have hci := view_at hx2 hin
        rw [Nat.zero_add] at hci
        by_cases hbig : 1 < turned true f i
        · have HG : Hid (getP n f c t true true (i : Int) = .no) := by
            show _ = _
            rw [getP_in hok h0 h1, getN_big hbig]
          obtain ⟨x0, x1, x2⟩ := hR2.cells
          obtain ⟨r0, r1, r2⟩ := hR2.frozen
          have hgs := stored3 (.int .i64 0) (.int .i64 0) (.string ⟨#[]⟩) x0 x1 x2
          have HB : Hid (Below w.heap.size w (((w2.setCell ⟨w.heap.size + 1, 0, none⟩ (.int .i64 0)).setCell ⟨w.heap.size + 1, 1, none⟩ (.int .i64 0)).setCell ⟨w.heap.size + 1, 2, none⟩ (.string ⟨#[]⟩))) := ((hB2.setCell (Nat.le_succ _) _).setCell (Nat.le_succ _) _).setCell (Nat.le_succ _) _
          go_wp2
          exact bodyPost_ret (v := .tuple #[.agg #[.int .i64 0, .int .i64 0, .string ⟨#[]⟩], .int .i64 0, .bool false]) (by simp [results, Try.results47, go_sem, hgs]) rfl ⟨by rw [HG.out]; rfl, HB.out⟩
        by_cases hzero : turned true f i = 0
        · have HG : Hid (getP n f c t true true (i : Int) = ⟨0, 0, noBytes, (i : Int) + 1, true⟩) := by
            show _ = _
            rw [getP_in hok h0 h1, getN_zero hin hzero]
          rw [hzero] at hci
          clear hbi hbig
          obtain ⟨x0, x1, x2⟩ := hR2.cells
          obtain ⟨r0, r1, r2⟩ := hR2.frozen
          have hgs := stored3 (.int .i64 0) (.int .i64 0) (.string ⟨#[]⟩) x0 x1 x2
          have HB : Hid (Below w.heap.size w (((w2.setCell ⟨w.heap.size + 1, 0, none⟩ (.int .i64 0)).setCell ⟨w.heap.size + 1, 1, none⟩ (.int .i64 0)).setCell ⟨w.heap.size + 1, 2, none⟩ (.string ⟨#[]⟩))) := ((hB2.setCell (Nat.le_succ _) _).setCell (Nat.le_succ _) _).setCell (Nat.le_succ _) _
          go_wp2
          exact bodyPost_ret (v := .tuple #[.agg #[.int .i64 0, .int .i64 0, .string ⟨#[]⟩], .int .i64 ((i : Int) + 1), .bool true]) (by simp [results, Try.results47, go_sem, hgs]) rfl ⟨by rw [HG.out]; rfl, HB.out⟩
        have hone : turned true f i = 1 := by omega
        rw [hone] at hci
        clear hbig hzero hbi
        obtain ⟨k, y, s, q, ok, hr⟩ : ∃ k y s q ok, Hid (rawT n (turned true f) t ((i : Int) + 1) = ⟨k, y, s, q, ok⟩) := ⟨_, _, _, _, _, rfl⟩
        go_wp2_with fail
        clear p0 p1 p2 p3
        refine (l5Get_is gx 0 n cx (turned true f) t ((i : Int) + 1) w2 k y s q ok hr hx2 hn ht (by omega)).mono ?_
        rintro e w3 ⟨rfl, hb3⟩
        have hR3 := hR2.below hb3
        have hB3 := hB2.trans (hb3.mono hB2.size)
        have hlt3 : w.heap.size + 1 < w3.heap.size := hR3.lt
        have hbV : Below w3.heap.size w3 (w3.alloc (.cells #[.int .i64 k, .int .i64 y, .string s] 59)) := (Below.refl _ _).alloc (Nat.le_refl _) _
        have hR4 := hR3.below hbV
        have hV4 := Box.new w3 k y s
        have hB4 := hB3.trans (hbV.mono hB3.size)
        clear hb3 hR2 hP2 hB2
        cases ok with
        | false =>
          have HG : Hid (getP n f c t true true (i : Int) = .no) := by
            show _ = _
            rw [getP_in hok h0 h1]
            rw [getN_one hin hone]
            unfold getT
            rw [hr.out]
            rfl
          obtain ⟨x0, x1, x2⟩ := hR3.cells
          obtain ⟨r0, r1, r2⟩ := hR3.frozen
          have hgs := stored3A (.int .i64 0) (.int .i64 0) (.string ⟨#[]⟩) x0 x1 x2 hR3.lt (.cells #[.int .i64 k, .int .i64 y, .string s] 59)
          have HB : Hid (Below w.heap.size w ((((w3.setCell ⟨w.heap.size + 1, 0, none⟩ (.int .i64 0)).setCell ⟨w.heap.size + 1, 1, none⟩ (.int .i64 0)).setCell ⟨w.heap.size + 1, 2, none⟩ (.string ⟨#[]⟩)).alloc (.cells #[.int .i64 k, .int .i64 y, .string s] 59))) := (((hB3.setCell (Nat.le_succ _) _).setCell (Nat.le_succ _) _).setCell (Nat.le_succ _) _).alloc (by simpa using hB3.size) _
          clear hR3 hB3 hR4 hV4 hB4 hbV hr
          go_wp2
          exact bodyPost_ret (v := .tuple #[.agg #[.int .i64 0, .int .i64 0, .string ⟨#[]⟩], .int .i64 0, .bool false]) (by simp [results, Try.results47, go_sem, hgs]) rfl ⟨by rw [HG.out]; rfl, HB.out⟩
        | true =>
          clear hR3 hB3
          have hss : s.size ≤ n := rawT_small (turned_bd hFb.out) ht hr.out
          obtain ⟨v0, v1, v2⟩ := hV4.cells
          go_wp2_with fail
          clear v0 v1 v2
          refine (specValOk_any k y s _ (by omega)).mono ?_
          obtain ⟨o, ho⟩ : ∃ o, Hid (okF k y s = o) := ⟨_, rfl⟩
          rw [ho.out]
          rintro e w5 ⟨rfl, hb5⟩
          have hR5 := hR4.below hb5
          have hV5 := hV4.below hb5
          have hB5 := hB4.trans (hb5.mono hB4.size)
          clear hR4 hV4 hB4 hb5 hbV
          obtain ⟨v0, v1, v2⟩ := hV5.cells
          cases o with
          | false =>
            have HG : Hid (getP n f c t true true (i : Int) = .no) := by
              show _ = _
              rw [getP_in hok h0 h1]
              rw [getN_one hin hone]
              unfold getT
              rw [hr.out]
              unfold Got.chk
              rw [ho.out]
              try rfl
            obtain ⟨x0, x1, x2⟩ := hR5.cells
            obtain ⟨r0, r1, r2⟩ := hR5.frozen
            have hgs := stored3 (.int .i64 0) (.int .i64 0) (.string ⟨#[]⟩) x0 x1 x2
            have HB : Hid (Below w.heap.size w (((w5.setCell ⟨w.heap.size + 1, 0, none⟩ (.int .i64 0)).setCell ⟨w.heap.size + 1, 1, none⟩ (.int .i64 0)).setCell ⟨w.heap.size + 1, 2, none⟩ (.string ⟨#[]⟩))) := ((hB5.setCell (Nat.le_succ _) _).setCell (Nat.le_succ _) _).setCell (Nat.le_succ _) _
            clear hR5 hV5 hB5 hr ho
            go_wp2
            exact bodyPost_ret (v := .tuple #[.agg #[.int .i64 0, .int .i64 0, .string ⟨#[]⟩], .int .i64 0, .bool false]) (by simp [results, Try.results47, go_sem, hgs]) rfl ⟨by rw [HG.out]; rfl, HB.out⟩
          | true =>
            have HG : Hid (getP n f c t true true (i : Int) = ⟨k, y, s, q, true⟩) := by
              show _ = _
              rw [getP_in hok h0 h1]
              rw [getN_one hin hone]
              unfold getT
              rw [hr.out]
              unfold Got.chk
              rw [ho.out]
              try rfl
            obtain ⟨x0, x1, x2⟩ := hR5.cells
            obtain ⟨r0, r1, r2⟩ := hR5.frozen
            have hgs := stored3 (.int .i64 k) (.int .i64 y) (.string s) x0 x1 x2
            have HB : Hid (Below w.heap.size w (((w5.setCell ⟨w.heap.size + 1, 0, none⟩ (.int .i64 k)).setCell ⟨w.heap.size + 1, 1, none⟩ (.int .i64 y)).setCell ⟨w.heap.size + 1, 2, none⟩ (.string s))) := ((hB5.setCell (Nat.le_succ _) _).setCell (Nat.le_succ _) _).setCell (Nat.le_succ _) _
            clear hR5 hV5 hB5 hr ho
            go_wp2
            exact bodyPost_ret (v := .tuple #[.agg #[.int .i64 k, .int .i64 y, .string s], .int .i64 q, .bool true]) (by simp [results, Try.results47, go_sem, hgs]) rfl ⟨by rw [HG.out]; rfl, HB.out⟩
end Go.Proofs.Ytclegljalndaear

/-
  The model's DecodeKey: the values of a key, in a row of its own.
-/
namespace Go.Proofs.Ytclegljalndaear
open Go.RowKit
set_option maxRecDepth 4000

set_option linter.unusedSimpArgs false in
set_option maxHeartbeats 4000000 in
theorem specDecodeKey_any (a : Option Addr) (n cap : Nat) (fc ft : Nat → Int) (fu fd : Nat → Bool) (b off N cb : Nat) (F : Nat → Int) (w : World) (h : PView w a n cap fc ft fu fd) (hv : View w (some ⟨b, off, none⟩) N cb F) (hn : n ≤ 1048576) (hN : N ≤ 10000000) :
    Calls Try.prog 26 #[.slice a n cap, .slice (some ⟨b, off, none⟩) N cb] w (Decs w n N F fc ft fu fd) := by
  obtain ⟨i0, hi, hz0, hz1, hz2⟩ := infoVal3
  have hown0 := World.ownsRow_lit (base := w.heap.size) (e := 59) (size := 3) w #[] 0 (Nat.le_refl _) (Nat.zero_le _) rfl
  have hb0 : Below w.heap.size w (w.alloc (.cells #[] 59)) := (Below.refl _ _).alloc (Nat.le_refl _) _
  have hFb : Hid (∀ i, i < N → 0 ≤ F i ∧ F i ≤ 255) := hv.byte
  have none_ : ∀ W : World, Below w.heap.size w W → (W.alloc (.cells #[] 59)).ownsRow w.heap.size 59 3 (.slice (some ⟨W.heap.size, 0, none⟩) 0 0) 0 (rowC (decK N F fc ft fu fd) (decNm N F fc ft fu fd) (decS N F fc ft fu fd) 0) ∧ Below w.heap.size w (W.alloc (.cells #[] 59)) := fun W hW => ⟨World.ownsRow_lit (base := w.heap.size) (e := 59) (size := 3) W #[] 0 hW.size (Nat.zero_le _) rfl, hW.alloc hW.size _⟩
  cases hpk : planOk n fc ft with
  | false =>
    have hD : decOk N F fc ft fu fd n = false := by unfold decOk; rw [hpk]; rfl
    have hn0 : 0 < n := by
      rcases Nat.eq_zero_or_pos n with e | e
      · subst e; simp [planOk] at hpk
      · exact e
    have hz : (0 : Int) < (n : Int) := by omega
    have HD : Hid (decOk N F fc ft fu fd n = false) := hD
    clear hD
    go_enter Try.func26, Try.ntmps26
    go_wp2
    go_loopg [6, 7, 8] 0 (fun q o at' i wr => q = 0 ∧ o = .slice (some ⟨w.heap.size, 0, none⟩) 0 0 ∧ at' = .int .i64 0 ∧ i = .int .i64 0 ∧ Below w.heap.size w wr)
    case atStart => exact ⟨rfl, rfl, rfl, rfl, hb0⟩
    case round =>
      obtain ⟨rfl, rfl, rfl, rfl, hB⟩ := hrel
      go_wp2_with fail
      refine (specPlanOk_any a n cap fc ft fu fd _ (h.below hB) hn).mono ?_
      rw [hpk]
      rintro e w1 ⟨rfl, hb⟩
      have hB1 := hB.trans (hb.mono hB.size)
      clear hb
      go_wp2_with fail
      refine (specPlanOk_any a n cap fc ft fu fd _ (h.below hB1) hn).mono ?_
      rw [hpk]
      rintro e w2 ⟨rfl, hb⟩
      have hB2 := hB1.trans (hb.mono hB1.size)
      obtain ⟨hO, hBn⟩ := none_ w2 hB2
      have HO : Hid ((w2.alloc (.cells #[] 59)).ownsRow w.heap.size 59 3 (.slice (some ⟨w2.heap.size, 0, none⟩) 0 0) 0 (rowC (decK N F fc ft fu fd) (decNm N F fc ft fu fd) (decS N F fc ft fu fd) 0)) := hO
      clear hb hO hown0 none_
      go_wp2
      exact bodyPost_ret (v := .tuple #[.slice (some ⟨w2.heap.size, 0, none⟩) 0 0, .bool false]) (by simp [results, Try.results26, go_sem]) rfl ⟨.slice (some ⟨w2.heap.size, 0, none⟩) 0 0, 0, by rw [HD.out], by simp, by rw [HD.out]; rfl, HO.out, hBn⟩
  | true =>
    have hown0' : (w.alloc (.cells #[] 59)).ownsRow w.heap.size 59 3 (.slice (some ⟨w.heap.size, 0, none⟩) 0 0) 0 (rowC (decK N F fc ft fu fd) (decNm N F fc ft fu fd) (decS N F fc ft fu fd) 0) := hown0
    clear hown0
    go_enter Try.func26, Try.ntmps26
    go_wp2
    go_loopg [6, 7, 8] n (fun q o at' i wr => ∃ (k : Nat) (v : Value) (p : Int), k ≤ n ∧ q = n - k ∧ v = o ∧ at' = .int .i64 p ∧ i = .int .i64 k ∧ v ≠ .slice none 0 0 ∧ decQ N F fc ft fu fd k = some p ∧ wr.ownsRow w.heap.size 59 3 v k (rowC (decK N F fc ft fu fd) (decNm N F fc ft fu fd) (decS N F fc ft fu fd) k) ∧ Below w.heap.size w wr)
    case atStart => exact ⟨0, _, 0, Nat.zero_le _, rfl, rfl, rfl, rfl, by simp, rfl, hown0', hb0⟩
    case round =>
      obtain ⟨k, bv, p, hk, rfl, hbv, rfl, rfl, hne, hq, hown, hB⟩ := hrel
      subst hbv
      have Hne : Hid (bv ≠ .slice none 0 0) := hne
      have HQ : Hid (decQ N F fc ft fu fd k = some p) := hq
      have hpb := decQ_bd hFb.out hq
      have hN0 : Hid (∀ W : World, Below w.heap.size w W → (W.alloc (.cells #[] 59)).ownsRow w.heap.size 59 3 (.slice (some ⟨W.heap.size, 0, none⟩) 0 0) 0 (rowC (decK N F fc ft fu fd) (decNm N F fc ft fu fd) (decS N F fc ft fu fd) 0) ∧ Below w.heap.size w (W.alloc (.cells #[] 59))) := none_
      clear hne hq hown0' hb0 none_
      by_cases hlt : k < n
      · have hkz : (k : Int) < (n : Int) := by omega
        go_wp2_with fail
        refine (specPlanOk_any a n cap fc ft fu fd _ (h.below hB) hn).mono ?_
        rw [hpk]
        rintro e w1 ⟨rfl, hb⟩
        replace hown := own_below3 hown hb
        replace hB := hB.trans (hb.mono hB.size)
        clear hb
        obtain ⟨b1, o1, rfl, hb1, hd1⟩ := (h.below hB).cells (by omega)
        obtain ⟨x0, x1, x2, x3⟩ := hd1 k hlt
        have hvw := hv.below hB
        obtain ⟨kk, y, s, q, ok, hg⟩ : ∃ kk y s q ok, Hid (getP N F (fc k) (ft k) (fu k) (fd k) p = ⟨kk, y, s, q, ok⟩) := ⟨_, _, _, _, _, rfl⟩
        have HG : Hid (decG N F fc ft fu fd k = ⟨kk, y, s, q, ok⟩) := by show _ = _; unfold decG; rw [HQ.out]; exact hg.out
        clear hd1
        go_wp2_with fail
        clear x0 x1 x2 x3
        refine (getPart_spec b off N cb F (fc k) (ft k) (fu k) (fd k) p _ hvw hN (by omega)).mono ?_
        rw [hg.out]
        rintro e w2 ⟨rfl, hb⟩
        replace hown := own_below3 hown hb
        replace hB := hB.trans (hb.mono hB.size)
        clear hb hvw
        have hV := Box.new w2 kk y s
        have hb2 : Below w2.heap.size w2 (w2.alloc (.cells #[.int .i64 kk, .int .i64 y, .string s] 59)) := (Below.refl _ _).alloc (Nat.le_refl _) _
        obtain ⟨W2, hW2⟩ : ∃ W2, Hid (W2 = w2.alloc (.cells #[.int .i64 kk, .int .i64 y, .string s] 59)) := ⟨_, rfl⟩
        obtain ⟨A, hA⟩ : ∃ A, Hid (A = w2.heap.size) := ⟨_, rfl⟩
        rw [← hW2.out] at hV hb2
        rw [← hA.out] at hV
        have hownW := own_below3 hown hb2
        have hBW := hB.trans (hb2.mono hB.size)
        simp only [gotRet]
        cases ok with
        | false =>
          have HD : Hid (decOk N F fc ft fu fd n = false) := by
            show _ = _
            have e1 : decQ N F fc ft fu fd (k + 1) = none := by rw [decQ, HQ.out, Option.bind_some, hg.out]; rfl
            have e2 := decQ_none e1 (n - (k + 1))
            rw [show k + 1 + (n - (k + 1)) = n by omega] at e2
            unfold decOk
            rw [e2]
            simp
          obtain ⟨hO, hBn⟩ := hN0.out W2 hBW
          have HO : Hid ((W2.alloc (.cells #[] 59)).ownsRow w.heap.size 59 3 (.slice (some ⟨W2.heap.size, 0, none⟩) 0 0) 0 (rowC (decK N F fc ft fu fd) (decNm N F fc ft fu fd) (decS N F fc ft fu fd) 0)) := hO
          clear hO hown hownW hV hN0
          go_wp2_with (rw [← hW2.out, ← hA.out])
          exact bodyPost_ret (v := .tuple #[.slice (some ⟨W2.heap.size, 0, none⟩) 0 0, .bool false]) (by simp [results, Try.results26, go_sem]) rfl ⟨.slice (some ⟨W2.heap.size, 0, none⟩) 0 0, 0, by rw [HD.out], by simp, by rw [HD.out]; rfl, HO.out, hBn⟩
        | true =>
          have HQ1 : Hid (decQ N F fc ft fu fd (k + 1) = some q) := by show _ = _; rw [decQ, HQ.out, Option.bind_some, hg.out]; rfl
          have HK : Hid (decK N F fc ft fu fd k = kk) := by show _ = _; unfold decK; rw [HG.out]
          have HN : Hid (decNm N F fc ft fu fd k = y) := by show _ = _; unfold decNm; rw [HG.out]
          have HS : Hid (decS N F fc ft fu fd k = s) := by show _ = _; unfold decS; rw [HG.out]
          obtain ⟨z0, z1, z2⟩ := hV.cells
          have hb3 : Below W2.heap.size W2 (W2.alloc (.cells #[.int .i64 kk, .int .i64 y, .string s] 59)) := (Below.refl _ _).alloc (Nat.le_refl _) _
          have hown3 := own_below3 hownW hb3
          have hcl := cells_one W2 kk y s
          have hB3 := hBW.trans (hb3.mono hBW.size)
          obtain ⟨W3, hW3⟩ : ∃ W3, Hid (W3 = W2.alloc (.cells #[.int .i64 kk, .int .i64 y, .string s] 59)) := ⟨_, rfl⟩
          obtain ⟨B3, hB3e⟩ : ∃ B3, Hid (B3 = W2.heap.size) := ⟨_, rfl⟩
          rw [← hW3.out] at hown3 hcl hB3
          rw [← hB3e.out] at hcl
          have hbs : w.heap.size ≤ W3.heap.size := hB3.size
          clear hN0
          go_wp2_with (first | (at_builtin; refine wpList_append_own _ rfl (.tmp 37) (.tmp 39) 32 rfl w.heap.size 59 i0 (.agg #[.int .i64 0, .int .i64 0, .string ⟨#[]⟩]) 3 32 Try.underlying32 hi hz0 hz1 hz2 rfl (by decide) bv k (rowC (decK N F fc ft fu fd) (decNm N F fc ft fu fd) (decS N F fc ft fu fd) k) rfl hown3 ⟨B3, 0, none⟩ 1 1 [.int .i64 kk, .int .i64 y, .string s] rfl rfl hcl (one_cells _ _ _) (by unfold maxLen; omega) (by omega) hbs ?_; intro v4 w4 hown4 hgr4 hnil4) | rw [← hW3.out, ← hB3e.out] | rw [← hW2.out, ← hA.out])
          have Hne4 : Hid (v4 ≠ .slice none 0 0) := fun e => Hne.out ((hnil4.1 e).1)
          have hB4 : Hid (Below w.heap.size w w4) := hB3.grown hgr4 hB3.size (fun j hj => (hown3.lt j hj).1)
          have hown5 : Hid (w4.ownsRow w.heap.size 59 3 v4 (k + 1) (rowC (decK N F fc ft fu fd) (decNm N F fc ft fu fd) (decS N F fc ft fu fd) (k + 1))) := by
            show w4.ownsRow _ _ _ _ _ _
            rw [rowC, HK.out, HN.out, HS.out]
            exact hown4
          clear hown hownW hown3 hown4 hgr4 hnil4 hcl hB3 hb3 hb2 z0 z1 z2 hV
          go_wp2
          go_roundg (n - (k + 1))
          case measure => omega
          case rel => exact ⟨k + 1, v4, q, by omega, rfl, rfl, rfl, by go_num, Hne4.out, HQ1.out, hown5.out, hB4.out⟩
      · have hkz : ¬ (k : Int) < (n : Int) := by omega
        obtain rfl : k = n := by omega
        go_wp2_with fail
        refine (specPlanOk_any a k cap fc ft fu fd _ (h.below hB) hn).mono ?_
        rw [hpk]
        rintro e w1 ⟨rfl, hb⟩
        replace hown := own_below3 hown hb
        replace hB := hB.trans (hb.mono hB.size)
        clear hb
        by_cases hpN : p = (N : Int)
        · have HD : Hid (decOk N F fc ft fu fd k = true) := by show _ = _; unfold decOk; rw [hpk, HQ.out, hpN]; simp
          have hO : Hid (w1.ownsRow w.heap.size 59 3 bv k (rowC (decK N F fc ft fu fd) (decNm N F fc ft fu fd) (decS N F fc ft fu fd) k)) := hown
          have qe : (p != (N : Int)) = false := by rw [hpN]; simp
          clear hown hN0 hpN
          go_wp2
          exact bodyPost_ret (v := .tuple #[bv, .bool true]) (by simp [results, Try.results26, go_sem]) rfl ⟨bv, k, by rw [HD.out], Hne.out, by rw [HD.out]; rfl, hO.out, hB⟩
        · have HD : Hid (decOk N F fc ft fu fd k = false) := by
            show _ = _
            unfold decOk
            rw [HQ.out, Bool.and_eq_false_iff]
            exact .inr (decide_eq_false (fun e => hpN (Option.some.inj e)))
          have qe : (p != (N : Int)) = true := by simpa using hpN
          obtain ⟨hO, hBn⟩ := hN0.out w1 hB
          have HO : Hid ((w1.alloc (.cells #[] 59)).ownsRow w.heap.size 59 3 (.slice (some ⟨w1.heap.size, 0, none⟩) 0 0) 0 (rowC (decK N F fc ft fu fd) (decNm N F fc ft fu fd) (decS N F fc ft fu fd) 0)) := hO
          clear hO hown hN0 hpN
          go_wp2
          exact bodyPost_ret (v := .tuple #[.slice (some ⟨w1.heap.size, 0, none⟩) 0 0, .bool false]) (by simp [results, Try.results26, go_sem]) rfl ⟨.slice (some ⟨w1.heap.size, 0, none⟩) 0 0, 0, by rw [HD.out], by simp, by rw [HD.out]; rfl, HO.out, hBn⟩
end Go.Proofs.Ytclegljalndaear

/-
  What a round of a loop over an iterator keeps: all that lay at the start of the call, and the two boxes that the iterator holds.
-/
namespace Go.Proofs.Ytclegljalndaear
open Go.RowKit
set_option maxRecDepth 4000

/-- What a round that goes on keeps. -/
structure KpB (n₀ Bl Bv : Nat) (W W' : World) : Prop where
  below : Below n₀ W W'
  bl : W'.heap[Bl]? = W.heap[Bl]?
  bv : W'.heap[Bv]? = W.heap[Bv]?
theorem KpB.refl (n₀ Bl Bv : Nat) (W : World) : KpB n₀ Bl Bv W W := ⟨Below.refl _ _, rfl, rfl⟩
theorem KpB.trans {n₀ Bl Bv : Nat} {A B C : World} (h : KpB n₀ Bl Bv A B) (k : KpB n₀ Bl Bv B C) : KpB n₀ Bl Bv A C := ⟨h.below.trans k.below, k.bl.trans h.bl, k.bv.trans h.bv⟩
/-- Whatever leaves all that lay as it lay. -/
theorem KpB.ofBelow {n₀ Bl Bv : Nat} {W W' : World} (h : Below W.heap.size W W') (hn : n₀ ≤ W.heap.size) (hl : Bl < W.heap.size) (hv : Bv < W.heap.size) : KpB n₀ Bl Bv W W' := ⟨h.mono hn, h.block Bl hl, h.block Bv hv⟩
/-- A step that turns one block. -/
theorem KpB.ofGrown {n₀ Bl Bv : Nat} {W W' : World} {row : Option Nat} (hg : W.grownBy W' row) (hn : n₀ ≤ W.heap.size) (hl : Bl < W.heap.size) (hv : Bv < W.heap.size) (hr : ∀ k, row = some k → n₀ ≤ k ∧ k ≠ Bl ∧ k ≠ Bv) : KpB n₀ Bl Bv W W' :=
  ⟨⟨hg.os, hg.tape, hg.output, hg.size, fun k hk => hg.block k (by omega) (fun e => by have := (hr k e.symm).1; omega)⟩, hg.block Bl hl (fun e => (hr Bl e.symm).2.1 rfl), hg.block Bv hv (fun e => (hr Bv e.symm).2.2 rfl)⟩
theorem KpB.put {n₀ Bl Bv : Nat} {w : World} (hn : n₀ ≤ w.heap.size) (hl : Bl < w.heap.size) (hv : Bv < w.heap.size) (W : World) (l : Nat) (o o' : Obj) (hle : w.heap.size ≤ l) (h : W.heap[l]? = some o) (h1 : o.isCells = false) (h2 : o.isWalk = false) : KpB n₀ Bl Bv W (W.putObj l o') :=
  ⟨belowK_b hn W l o o' hle h h1 h2, World.putObj_heap_other (by omega), World.putObj_heap_other (by omega)⟩
theorem Boxed.kpl {n₀ Bl Bv : Nat} {W W' : World} {t : TypeId} {v : Value} (h : Boxed W Bl t v) (k : KpB n₀ Bl Bv W W') : Boxed W' Bl t v := k.bl.trans h
theorem Boxed.kpv {n₀ Bl Bv : Nat} {W W' : World} {t : TypeId} {v : Value} (h : Boxed W Bv t v) (k : KpB n₀ Bl Bv W W') : Boxed W' Bv t v := k.bv.trans h
theorem Boxed.below' {W W' : World} {B : Nat} {t : TypeId} {v : Value} (h : Boxed W B t v) (k : Below W.heap.size W W') : Boxed W' B t v := (k.block B h.lt).trans h
theorem grownBy_drew' (W : World) : W.grownBy W.drew none := ⟨rfl, rfl, rfl, Nat.le_refl _, fun _ _ _ => rfl⟩
theorem grownBy_below' {W W' : World} (h : Below W.heap.size W W') : W.grownBy W' none := ⟨h.os, h.tape, h.output, h.size, fun k hk _ => h.block k hk⟩
theorem AbidesFrom.step {β : Type} {B : Nat} {J : β → World → Prop} (h : AbidesFrom B J) {s : β} {W W' : World} (hs : J s W) (hg : W.grownBy W' none) : J s W' := h s W W' none hs hg (fun _ e => by cases e)
/-- 'KeepsFrom' of whatever leaves all that lay as it lay. -/
theorem KeepsFrom.ofBelow {B : Nat} {W W' : World} (h : Below W.heap.size W W') : KeepsFrom B W W' := ⟨h.size, fun k _ _ hk _ => (h.block k (Array.getElem?_eq_some_iff.1 hk).1).trans hk⟩
/-- 'KpB .. w₀ ·' abides what the loop itself turns. -/
theorem ownFrom_kpB {β : Type} {n₀ Bl Bv B' : Nat} {w₀ : World} (hn : n₀ ≤ B') (hl : Bl < B') (hv : Bv < B') (hB : B' ≤ w₀.heap.size) : OwnFrom B' (fun (_ : β) W => KpB n₀ Bl Bv w₀ W) :=
  fun _ X Y row hs hg hr => by
    have hs0 := hs.below.size
    refine ⟨hs.below.trans ⟨hg.os, hg.tape, hg.output, hg.size, fun k hk => hg.block k (by omega) (fun e => by have := (hr k e.symm).1; omega)⟩, ?_, ?_⟩
    · exact (hg.block Bl (by omega) (fun e => by have := (hr Bl e.symm).1; omega)).trans hs.bl
    · exact (hg.block Bv (by omega) (fun e => by have := (hr Bv e.symm).1; omega)).trans hs.bv

/-- The first j of the indices. -/
theorem fin_take {k j : Nat} (h : j < k) : (List.finRange k).take (j + 1) = (List.finRange k).take j ++ [⟨j, h⟩] := by
  rw [List.take_add_one, List.getElem?_eq_getElem (by simpa using h)]
  simp
theorem fin_len {k j : Nat} (h : j ≤ k) : ((List.finRange k).take j).length = j := by simp [h]
end Go.Proofs.Ytclegljalndaear

/-
  Parts and values in boxes of a round, and what the loop itself turns.
-/
namespace Go.Proofs.Ytclegljalndaear
open Go.RowKit
set_option maxRecDepth 4000

theorem PBox.ownK {W W' : World} {row : Option Nat} {B : Nat} {c t : Int} {nul d : Bool} (h : PBox W B c t nul d) (hg : W.grownBy W' row) (hr : ∀ r, row = some r → ∃ o : Obj, W.heap[r]? = some o ∧ o.isCells = false) : PBox W' B c t nul d := by
  obtain ⟨o, ho, hc⟩ := cells_of_cell h.cells.1
  exact h.of_block (grownBy_keeps_cells hg hr ho hc)
theorem Box.ownK {W W' : World} {row : Option Nat} {B : Nat} {k n : Int} {s : ByteArray} (h : Box W B k n s) (hg : W.grownBy W' row) (hr : ∀ r, row = some r → ∃ o : Obj, W.heap[r]? = some o ∧ o.isCells = false) : Box W' B k n s := by
  obtain ⟨o, ho, hc⟩ := cells_of_cell h.cells.1
  exact h.of_block (grownBy_keeps_cells hg hr ho hc)
theorem Boxed.ownK {W W' : World} {row : Option Nat} {B : Nat} {t : TypeId} {v : Value} (h : Boxed W B t v) (hg : W.grownBy W' row) (hr : ∀ r, row = some r → ∃ o : Obj, W.heap[r]? = some o ∧ o.isCells = false) : Boxed W' B t v := by
  obtain ⟨o, ho, hc⟩ := cells_of_cell h.cell
  exact (grownBy_keeps_cells hg hr ho hc).trans h
theorem Below.put' {n₀ : Nat} {w₀ W : World} {D : Nat} {o o' : Obj} (h : Below n₀ w₀ W) (hn : n₀ ≤ D) (hK : W.heap[D]? = some o) : Below n₀ w₀ (W.putObj D o') :=
  h.trans ((Below.refl n₀ W).grown (grownBy_putObj' W D o') (by have := (Array.getElem?_eq_some_iff.1 hK).1; omega) (fun k e => by cases e; omega))
end Go.Proofs.Ytclegljalndaear

