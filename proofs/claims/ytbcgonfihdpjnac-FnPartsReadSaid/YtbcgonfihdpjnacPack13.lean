/-
  Together: PartGet, LessPlain, LessImpl, LessSpec, PartLess, PartLessImpl, OrderPlain, SameB, Big
-/
import Derived.Test.YtbcgonfihdpjnacPack12
import Derived.Test.YtbcgonfihdpjnacPack7
import Derived.Test.YtbcgonfihdpjnacPack5
import Derived.Test.YtbcgonfihdpjnacPack11
import Derived.Test.YtbcgonfihdpjnacPack1
import Derived.Deep.RegionWith
import Derived.Deep.RegionHeld3
import Derived.Test.YtbcgonfihdpjnacPack4
/-
  The model's GetPart: one value of a key, at every slice of bytes that reads and at every place.
-/
namespace Go.Proofs.Ytbcgonfihdpjnac
open Go.RowKit
set_option maxRecDepth 4000

theorem l5Get_is (b off n cap : Nat) (f : Nat → Int) (t p : Int) (w : World) (k y : Int) (s : ByteArray) (q : Int) (ok : Bool) (hr : Hid (rawT n f t p = ⟨k, y, s, q, ok⟩)) (hv : View w (some ⟨b, off, none⟩) n cap f) (hn : n ≤ 10000000) (ht : 1 ≤ t ∧ t ≤ 4) (hp1 : p ≤ 9223372036854775807) :
    Calls Try.prog 26 #[.slice (some ⟨b, off, none⟩) n cap, .int .i64 t, .int .i64 p] w fun e w' => e = .returned (.tuple #[.agg #[.int .i64 k, .int .i64 y, .string s], .int .i64 q, .bool ok]) ∧ Below w.heap.size w w' := by
  have key : Calls Try.prog 26 #[.slice (some ⟨b, off, none⟩) n cap, .int .i64 t, .int .i64 p] w fun e w' => e = gotRet (rawT n f t p) ∧ Below w.heap.size w w' := by
    obtain rfl | rfl | rfl | rfl : t = 1 ∨ t = 2 ∨ t = 3 ∨ t = 4 := by omega
    · exact l5Get_fix b off n cap f p w hv hn hp1
    · exact l5Get_var b off n cap f p w hv hn hp1
    · exact l5Get_esc b off n cap f p w hv hn hp1
    · exact l5Get_bool b off n cap f p w hv hn hp1
  rw [hr.out] at key
  exact key

theorem rawT_small {n : Nat} {f : Nat → Int} {t p k y q : Int} {s : ByteArray} (hb : ∀ i, i < n → 0 ≤ f i ∧ f i ≤ 255) (ht : 1 ≤ t ∧ t ≤ 4) (h : rawT n f t p = ⟨k, y, s, q, true⟩) : s.size ≤ n := by
  unfold rawT at h
  obtain rfl | rfl | rfl | rfl : t = 1 ∨ t = 2 ∨ t = 3 ∨ t = 4 := by omega
  · rw [if_pos rfl] at h
    simp only [Got.mk.injEq] at h
    rw [← h.2.2.1]; exact Nat.zero_le _
  · rw [if_neg (by decide), if_pos rfl] at h
    simp only [Got.mk.injEq] at h
    rw [← h.2.2.1]; exact Nat.zero_le _
  · rw [if_neg (by decide), if_neg (by decide), if_pos rfl] at h
    simp only [Got.mk.injEq] at h
    obtain ⟨-, -, h1, h2, h3⟩ := h
    obtain ⟨i, K, -, -, hi, -, hsK, -⟩ := getE_back hb (x := p) (s := s) (q := q) (by rw [← h1, ← h2, ← h3])
    omega
  · rw [if_neg (by decide), if_neg (by decide), if_neg (by decide)] at h
    split at h
    · simp only [Got.mk.injEq] at h
      rw [← h.2.2.1]; exact Nat.zero_le _
    · simp at h

theorem view_at {w : World} {b off n cap i : Nat} {f : Nat → Int} (h : View w (some ⟨b, off, none⟩) n cap f) (hi : i < n) : w.cell? ⟨b, off + i, none⟩ = some (.int .u8 (f i)) := by
  obtain ⟨b', off', e, _, hc⟩ := h.cells (by omega)
  cases e
  exact hc i hi

set_option maxHeartbeats 4000000 in
theorem getPart_spec (b off n cap : Nat) (f : Nat → Int) (c t : Int) (nul d : Bool) (p : Int) (w : World) (hv : View w (some ⟨b, off, none⟩) n cap f) (hn : n ≤ 10000000) (hp1 : p ≤ 9223372036854775807) :
    Calls Try.prog 7 #[.slice (some ⟨b, off, none⟩) n cap, .agg #[.int .i64 c, .int .i64 t, .bool nul, .bool d], .int .i64 p] w fun e w' => e = gotRet (getP n f c t nul d p) ∧ Below w.heap.size w w' := by
  have hP := (PBox.new w c t nul d).below ((Below.refl _ _).alloc (Nat.le_refl _) (.cells #[.int .i64 0, .int .i64 0, .string ⟨#[]⟩] 29))
  have hR := Box.new (w.alloc (.cells #[.int .i64 c, .int .i64 t, .bool nul, .bool d] 25)) 0 0 ⟨#[]⟩
  rw [show (w.alloc (.cells #[.int .i64 c, .int .i64 t, .bool nul, .bool d] 25)).heap.size = w.heap.size + 1 by simp] at hR
  have hb0 : Below w.heap.size w ((w.alloc (.cells #[.int .i64 c, .int .i64 t, .bool nul, .bool d] 25)).alloc (.cells #[.int .i64 0, .int .i64 0, .string ⟨#[]⟩] 29)) := ((Below.refl _ _).alloc (Nat.le_refl _) _).alloc (by simp) _
  have hFb : Hid (∀ i, i < n → 0 ≤ f i ∧ f i ≤ 255) := hv.byte
  cases hok : partOk c t with
  | false =>
    rw [getP_no hok]
    go_enter Try.func7, Try.ntmps7
    go_wp2_with fail
    refine (specPartOk_any c t nul d _).mono ?_
    rw [hok]
    rintro e w1 ⟨rfl, hb1⟩
    have hP1 := hP.below hb1
    have hR1 := hR.below hb1
    have hv1 := hv.below (hb0.trans (hb1.mono hb0.size))
    have hB1 := hb0.trans (hb1.mono hb0.size)
    clear hP hR hb0 hb1
    obtain ⟨p0, p1, p2, p3⟩ := hP1.cells
    obtain ⟨x0, x1, x2⟩ := hR1.cells
    obtain ⟨r0, r1, r2⟩ := hR1.frozen
    have hgs := stored3 (.int .i64 0) (.int .i64 0) (.string ⟨#[]⟩) x0 x1 x2
    have HB : Hid (Below w.heap.size w (((w1.setCell ⟨w.heap.size + 1, 0, none⟩ (.int .i64 0)).setCell ⟨w.heap.size + 1, 1, none⟩ (.int .i64 0)).setCell ⟨w.heap.size + 1, 2, none⟩ (.string ⟨#[]⟩))) := ((hB1.setCell (Nat.le_succ _) _).setCell (Nat.le_succ _) _).setCell (Nat.le_succ _) _
    clear p0 p1 p2 p3
    go_wp2
    exact bodyPost_ret (v := .tuple #[.agg #[.int .i64 0, .int .i64 0, .string ⟨#[]⟩], .int .i64 0, .bool false]) (by simp [results, Try.results7, go_sem, hgs]) rfl ⟨rfl, HB.out⟩
  | true =>
    have ht : 1 ≤ t ∧ t ≤ 4 := by unfold partOk at hok; simp at hok; omega
    by_cases h0 : p < 0
    · rw [getP_out (Or.inl h0)]
      go_enter Try.func7, Try.ntmps7
      go_wp2_with fail
      refine (specPartOk_any c t nul d _).mono ?_
      rw [hok]
      rintro e w1 ⟨rfl, hb1⟩
      have hP1 := hP.below hb1
      have hR1 := hR.below hb1
      have hv1 := hv.below (hb0.trans (hb1.mono hb0.size))
      have hB1 := hb0.trans (hb1.mono hb0.size)
      clear hP hR hb0 hb1
      obtain ⟨p0, p1, p2, p3⟩ := hP1.cells
      obtain ⟨x0, x1, x2⟩ := hR1.cells
      obtain ⟨r0, r1, r2⟩ := hR1.frozen
      have hgs := stored3 (.int .i64 0) (.int .i64 0) (.string ⟨#[]⟩) x0 x1 x2
      have HB : Hid (Below w.heap.size w (((w1.setCell ⟨w.heap.size + 1, 0, none⟩ (.int .i64 0)).setCell ⟨w.heap.size + 1, 1, none⟩ (.int .i64 0)).setCell ⟨w.heap.size + 1, 2, none⟩ (.string ⟨#[]⟩))) := ((hB1.setCell (Nat.le_succ _) _).setCell (Nat.le_succ _) _).setCell (Nat.le_succ _) _
      go_wp2
      exact bodyPost_ret (v := .tuple #[.agg #[.int .i64 0, .int .i64 0, .string ⟨#[]⟩], .int .i64 0, .bool false]) (by simp [results, Try.results7, go_sem, hgs]) rfl ⟨rfl, HB.out⟩
    by_cases h1 : (n : Int) < p
    · rw [getP_out (Or.inr h1)]
      go_enter Try.func7, Try.ntmps7
      go_wp2_with fail
      refine (specPartOk_any c t nul d _).mono ?_
      rw [hok]
      rintro e w1 ⟨rfl, hb1⟩
      have hP1 := hP.below hb1
      have hR1 := hR.below hb1
      have hv1 := hv.below (hb0.trans (hb1.mono hb0.size))
      have hB1 := hb0.trans (hb1.mono hb0.size)
      clear hP hR hb0 hb1
      obtain ⟨p0, p1, p2, p3⟩ := hP1.cells
      obtain ⟨x0, x1, x2⟩ := hR1.cells
      obtain ⟨r0, r1, r2⟩ := hR1.frozen
      have hgs := stored3 (.int .i64 0) (.int .i64 0) (.string ⟨#[]⟩) x0 x1 x2
      have HB : Hid (Below w.heap.size w (((w1.setCell ⟨w.heap.size + 1, 0, none⟩ (.int .i64 0)).setCell ⟨w.heap.size + 1, 1, none⟩ (.int .i64 0)).setCell ⟨w.heap.size + 1, 2, none⟩ (.string ⟨#[]⟩))) := ((hB1.setCell (Nat.le_succ _) _).setCell (Nat.le_succ _) _).setCell (Nat.le_succ _) _
      go_wp2
      exact bodyPost_ret (v := .tuple #[.agg #[.int .i64 0, .int .i64 0, .string ⟨#[]⟩], .int .i64 0, .bool false]) (by simp [results, Try.results7, go_sem, hgs]) rfl ⟨rfl, HB.out⟩
    replace h0 : 0 ≤ p := by omega
    replace h1 : p ≤ n := by omega
    cases d with
    | false =>
      cases nul with
      | false =>
        go_enter Try.func7, Try.ntmps7
        go_wp2_with fail
        refine (specPartOk_any c t false false _).mono ?_
        rw [hok]
        rintro e w1 ⟨rfl, hb1⟩
        have hP1 := hP.below hb1
        have hR1 := hR.below hb1
        have hv1 := hv.below (hb0.trans (hb1.mono hb0.size))
        have hB1 := hb0.trans (hb1.mono hb0.size)
        clear hP hR hb0 hb1
        obtain ⟨p0, p1, p2, p3⟩ := hP1.cells
        have hx1 : View w1 (some ⟨b, off, none⟩) n cap (turned false f) := hv1
        clear hv1
        obtain ⟨k, y, s, q, ok, hr⟩ : ∃ k y s q ok, Hid (rawT n (turned false f) t p = ⟨k, y, s, q, ok⟩) := ⟨_, _, _, _, _, rfl⟩
        go_wp2_with fail
        clear p0 p1 p2 p3
        refine (l5Get_is b off n cap (turned false f) t p w1 k y s q ok hr hx1 hn ht (by omega)).mono ?_
        rintro e w3 ⟨rfl, hb3⟩
        have hR3 := hR1.below hb3
        have hB3 := hB1.trans (hb3.mono hB1.size)
        have hlt3 : w.heap.size + 1 < w3.heap.size := hR3.lt
        have hbV : Below w3.heap.size w3 (w3.alloc (.cells #[.int .i64 k, .int .i64 y, .string s] 29)) := (Below.refl _ _).alloc (Nat.le_refl _) _
        have hR4 := hR3.below hbV
        have hV4 := Box.new w3 k y s
        have hB4 := hB3.trans (hbV.mono hB3.size)
        clear hb3 hR1 hP1 hB1
        cases ok with
        | false =>
          have HG : Hid (getP n f c t false false p = .no) := by
            show _ = _
            rw [getP_in hok h0 h1]
            rw [getN_no]
            unfold getT
            rw [hr.out]
            rfl
          obtain ⟨x0, x1, x2⟩ := hR3.cells
          obtain ⟨r0, r1, r2⟩ := hR3.frozen
          have hgs := stored3A (.int .i64 0) (.int .i64 0) (.string ⟨#[]⟩) x0 x1 x2 hR3.lt (.cells #[.int .i64 k, .int .i64 y, .string s] 29)
          have HB : Hid (Below w.heap.size w ((((w3.setCell ⟨w.heap.size + 1, 0, none⟩ (.int .i64 0)).setCell ⟨w.heap.size + 1, 1, none⟩ (.int .i64 0)).setCell ⟨w.heap.size + 1, 2, none⟩ (.string ⟨#[]⟩)).alloc (.cells #[.int .i64 k, .int .i64 y, .string s] 29))) := (((hB3.setCell (Nat.le_succ _) _).setCell (Nat.le_succ _) _).setCell (Nat.le_succ _) _).alloc (by simpa using hB3.size) _
          clear hR3 hB3 hR4 hV4 hB4 hbV hr
          go_wp2
          exact bodyPost_ret (v := .tuple #[.agg #[.int .i64 0, .int .i64 0, .string ⟨#[]⟩], .int .i64 0, .bool false]) (by simp [results, Try.results7, go_sem, hgs]) rfl ⟨by rw [HG.out]; rfl, HB.out⟩
        | true =>
          clear hR3 hB3
          have hss : s.size ≤ n := rawT_small (turned_bd hFb.out) ht hr.out
          obtain ⟨v0, v1, v2⟩ := hV4.cells
          go_wp2_with fail
          clear v0 v1 v2
          refine (specValOk_any k y s _ (by omega)).mono ?_
          obtain ⟨o, ho⟩ : ∃ o, Hid (okF k y s = o) := ⟨_, rfl⟩
          rw [ho.out]
          rintro e w5 ⟨rfl, hb5⟩
          have hR5 := hR4.below hb5
          have hV5 := hV4.below hb5
          have hB5 := hB4.trans (hb5.mono hB4.size)
          clear hR4 hV4 hB4 hb5 hbV
          obtain ⟨v0, v1, v2⟩ := hV5.cells
          cases o with
          | false =>
            have HG : Hid (getP n f c t false false p = .no) := by
              show _ = _
              rw [getP_in hok h0 h1]
              rw [getN_no]
              unfold getT
              rw [hr.out]
              unfold Got.chk
              rw [ho.out]
              try rfl
            obtain ⟨x0, x1, x2⟩ := hR5.cells
            obtain ⟨r0, r1, r2⟩ := hR5.frozen
            have hgs := stored3 (.int .i64 0) (.int .i64 0) (.string ⟨#[]⟩) x0 x1 x2
            have HB : Hid (Below w.heap.size w (((w5.setCell ⟨w.heap.size + 1, 0, none⟩ (.int .i64 0)).setCell ⟨w.heap.size + 1, 1, none⟩ (.int .i64 0)).setCell ⟨w.heap.size + 1, 2, none⟩ (.string ⟨#[]⟩))) := ((hB5.setCell (Nat.le_succ _) _).setCell (Nat.le_succ _) _).setCell (Nat.le_succ _) _
            clear hR5 hV5 hB5 hr ho
            go_wp2
            exact bodyPost_ret (v := .tuple #[.agg #[.int .i64 0, .int .i64 0, .string ⟨#[]⟩], .int .i64 0, .bool false]) (by simp [results, Try.results7, go_sem, hgs]) rfl ⟨by rw [HG.out]; rfl, HB.out⟩
          | true =>
            have HG : Hid (getP n f c t false false p = ⟨k, y, s, q, true⟩) := by
              show _ = _
              rw [getP_in hok h0 h1]
              rw [getN_no]
              unfold getT
              rw [hr.out]
              unfold Got.chk
              rw [ho.out]
              try rfl
            obtain ⟨x0, x1, x2⟩ := hR5.cells
            obtain ⟨r0, r1, r2⟩ := hR5.frozen
            have hgs := stored3 (.int .i64 k) (.int .i64 y) (.string s) x0 x1 x2
            have HB : Hid (Below w.heap.size w (((w5.setCell ⟨w.heap.size + 1, 0, none⟩ (.int .i64 k)).setCell ⟨w.heap.size + 1, 1, none⟩ (.int .i64 y)).setCell ⟨w.heap.size + 1, 2, none⟩ (.string s))) := ((hB5.setCell (Nat.le_succ _) _).setCell (Nat.le_succ _) _).setCell (Nat.le_succ _) _
            clear hR5 hV5 hB5 hr ho
            go_wp2
            exact bodyPost_ret (v := .tuple #[.agg #[.int .i64 k, .int .i64 y, .string s], .int .i64 q, .bool true]) (by simp [results, Try.results7, go_sem, hgs]) rfl ⟨by rw [HG.out]; rfl, HB.out⟩
      | true =>
        go_enter Try.func7, Try.ntmps7
        go_wp2_with fail
        refine (specPartOk_any c t true false _).mono ?_
        rw [hok]
        rintro e w1 ⟨rfl, hb1⟩
        have hP1 := hP.below hb1
        have hR1 := hR.below hb1
        have hv1 := hv.below (hb0.trans (hb1.mono hb0.size))
        have hB1 := hb0.trans (hb1.mono hb0.size)
        clear hP hR hb0 hb1
        obtain ⟨p0, p1, p2, p3⟩ := hP1.cells
        have hx1 : View w1 (some ⟨b, off, none⟩) n cap (turned false f) := hv1
        clear hv1
        obtain ⟨i, rfl⟩ := Int.eq_ofNat_of_zero_le h0
        by_cases hend : i = n
        · subst hend
          have HG : Hid (getP i f c t true false (i : Int) = .no) := by
            show _ = _
            rw [getP_in hok h0 h1, getN_end]
          have q9 : ((i : Int) == (i : Int)) = true := by simp
          obtain ⟨x0, x1, x2⟩ := hR1.cells
          obtain ⟨r0, r1, r2⟩ := hR1.frozen
          have hgs := stored3 (.int .i64 0) (.int .i64 0) (.string ⟨#[]⟩) x0 x1 x2
          have HB : Hid (Below w.heap.size w (((w1.setCell ⟨w.heap.size + 1, 0, none⟩ (.int .i64 0)).setCell ⟨w.heap.size + 1, 1, none⟩ (.int .i64 0)).setCell ⟨w.heap.size + 1, 2, none⟩ (.string ⟨#[]⟩))) := ((hB1.setCell (Nat.le_succ _) _).setCell (Nat.le_succ _) _).setCell (Nat.le_succ _) _
          go_wp2
          exact bodyPost_ret (v := .tuple #[.agg #[.int .i64 0, .int .i64 0, .string ⟨#[]⟩], .int .i64 0, .bool false]) (by simp [results, Try.results7, go_sem, hgs]) rfl ⟨by rw [HG.out]; rfl, HB.out⟩
        have hin : i < n := by omega
        have hiz : (i : Int) < (n : Int) := by omega
        have q9 : ((i : Int) == (n : Int)) = false := by simp; omega
        have hbi := turned_bd (d := false) hFb.out i hin
        have hci := view_at hx1 hin
        by_cases hbig : 1 < turned false f i
        · have HG : Hid (getP n f c t true false (i : Int) = .no) := by
            show _ = _
            rw [getP_in hok h0 h1, getN_big hbig]
          obtain ⟨x0, x1, x2⟩ := hR1.cells
          obtain ⟨r0, r1, r2⟩ := hR1.frozen
          have hgs := stored3 (.int .i64 0) (.int .i64 0) (.string ⟨#[]⟩) x0 x1 x2
          have HB : Hid (Below w.heap.size w (((w1.setCell ⟨w.heap.size + 1, 0, none⟩ (.int .i64 0)).setCell ⟨w.heap.size + 1, 1, none⟩ (.int .i64 0)).setCell ⟨w.heap.size + 1, 2, none⟩ (.string ⟨#[]⟩))) := ((hB1.setCell (Nat.le_succ _) _).setCell (Nat.le_succ _) _).setCell (Nat.le_succ _) _
          go_wp2
          exact bodyPost_ret (v := .tuple #[.agg #[.int .i64 0, .int .i64 0, .string ⟨#[]⟩], .int .i64 0, .bool false]) (by simp [results, Try.results7, go_sem, hgs]) rfl ⟨by rw [HG.out]; rfl, HB.out⟩
        by_cases hzero : turned false f i = 0
        · have HG : Hid (getP n f c t true false (i : Int) = ⟨0, 0, noBytes, (i : Int) + 1, true⟩) := by
            show _ = _
            rw [getP_in hok h0 h1, getN_zero hin hzero]
          rw [hzero] at hci
          clear hbi hbig
          obtain ⟨x0, x1, x2⟩ := hR1.cells
          obtain ⟨r0, r1, r2⟩ := hR1.frozen
          have hgs := stored3 (.int .i64 0) (.int .i64 0) (.string ⟨#[]⟩) x0 x1 x2
          have HB : Hid (Below w.heap.size w (((w1.setCell ⟨w.heap.size + 1, 0, none⟩ (.int .i64 0)).setCell ⟨w.heap.size + 1, 1, none⟩ (.int .i64 0)).setCell ⟨w.heap.size + 1, 2, none⟩ (.string ⟨#[]⟩))) := ((hB1.setCell (Nat.le_succ _) _).setCell (Nat.le_succ _) _).setCell (Nat.le_succ _) _
          go_wp2
          exact bodyPost_ret (v := .tuple #[.agg #[.int .i64 0, .int .i64 0, .string ⟨#[]⟩], .int .i64 ((i : Int) + 1), .bool true]) (by simp [results, Try.results7, go_sem, hgs]) rfl ⟨by rw [HG.out]; rfl, HB.out⟩
        have hone : turned false f i = 1 := by omega
        rw [hone] at hci
        clear hbig hzero hbi
        obtain ⟨k, y, s, q, ok, hr⟩ : ∃ k y s q ok, Hid (rawT n (turned false f) t ((i : Int) + 1) = ⟨k, y, s, q, ok⟩) := ⟨_, _, _, _, _, rfl⟩
        go_wp2_with fail
        clear p0 p1 p2 p3
        refine (l5Get_is b off n cap (turned false f) t ((i : Int) + 1) w1 k y s q ok hr hx1 hn ht (by omega)).mono ?_
        rintro e w3 ⟨rfl, hb3⟩
        have hR3 := hR1.below hb3
        have hB3 := hB1.trans (hb3.mono hB1.size)
        have hlt3 : w.heap.size + 1 < w3.heap.size := hR3.lt
        have hbV : Below w3.heap.size w3 (w3.alloc (.cells #[.int .i64 k, .int .i64 y, .string s] 29)) := (Below.refl _ _).alloc (Nat.le_refl _) _
        have hR4 := hR3.below hbV
        have hV4 := Box.new w3 k y s
        have hB4 := hB3.trans (hbV.mono hB3.size)
        clear hb3 hR1 hP1 hB1
        cases ok with
        | false =>
          have HG : Hid (getP n f c t true false (i : Int) = .no) := by
            show _ = _
            rw [getP_in hok h0 h1]
            rw [getN_one hin hone]
            unfold getT
            rw [hr.out]
            rfl
          obtain ⟨x0, x1, x2⟩ := hR3.cells
          obtain ⟨r0, r1, r2⟩ := hR3.frozen
          have hgs := stored3A (.int .i64 0) (.int .i64 0) (.string ⟨#[]⟩) x0 x1 x2 hR3.lt (.cells #[.int .i64 k, .int .i64 y, .string s] 29)
          have HB : Hid (Below w.heap.size w ((((w3.setCell ⟨w.heap.size + 1, 0, none⟩ (.int .i64 0)).setCell ⟨w.heap.size + 1, 1, none⟩ (.int .i64 0)).setCell ⟨w.heap.size + 1, 2, none⟩ (.string ⟨#[]⟩)).alloc (.cells #[.int .i64 k, .int .i64 y, .string s] 29))) := (((hB3.setCell (Nat.le_succ _) _).setCell (Nat.le_succ _) _).setCell (Nat.le_succ _) _).alloc (by simpa using hB3.size) _
          clear hR3 hB3 hR4 hV4 hB4 hbV hr
          go_wp2
          exact bodyPost_ret (v := .tuple #[.agg #[.int .i64 0, .int .i64 0, .string ⟨#[]⟩], .int .i64 0, .bool false]) (by simp [results, Try.results7, go_sem, hgs]) rfl ⟨by rw [HG.out]; rfl, HB.out⟩
        | true =>
          clear hR3 hB3
          have hss : s.size ≤ n := rawT_small (turned_bd hFb.out) ht hr.out
          obtain ⟨v0, v1, v2⟩ := hV4.cells
          go_wp2_with fail
          clear v0 v1 v2
          refine (specValOk_any k y s _ (by omega)).mono ?_
          obtain ⟨o, ho⟩ : ∃ o, Hid (okF k y s = o) := ⟨_, rfl⟩
          rw [ho.out]
          rintro e w5 ⟨rfl, hb5⟩
          have hR5 := hR4.below hb5
          have hV5 := hV4.below hb5
          have hB5 := hB4.trans (hb5.mono hB4.size)
          clear hR4 hV4 hB4 hb5 hbV
          obtain ⟨v0, v1, v2⟩ := hV5.cells
          cases o with
          | false =>
            have HG : Hid (getP n f c t true false (i : Int) = .no) := by
              show _ = _
              rw [getP_in hok h0 h1]
              rw [getN_one hin hone]
              unfold getT
              rw [hr.out]
              unfold Got.chk
              rw [ho.out]
              try rfl
            obtain ⟨x0, x1, x2⟩ := hR5.cells
            obtain ⟨r0, r1, r2⟩ := hR5.frozen
            have hgs := stored3 (.int .i64 0) (.int .i64 0) (.string ⟨#[]⟩) x0 x1 x2
            have HB : Hid (Below w.heap.size w (((w5.setCell ⟨w.heap.size + 1, 0, none⟩ (.int .i64 0)).setCell ⟨w.heap.size + 1, 1, none⟩ (.int .i64 0)).setCell ⟨w.heap.size + 1, 2, none⟩ (.string ⟨#[]⟩))) := ((hB5.setCell (Nat.le_succ _) _).setCell (Nat.le_succ _) _).setCell (Nat.le_succ _) _
            clear hR5 hV5 hB5 hr ho
            go_wp2
            exact bodyPost_ret (v := .tuple #[.agg #[.int .i64 0, .int .i64 0, .string ⟨#[]⟩], .int .i64 0, .bool false]) (by simp [results, Try.results7, go_sem, hgs]) rfl ⟨by rw [HG.out]; rfl, HB.out⟩
          | true =>
            have HG : Hid (getP n f c t true false (i : Int) = ⟨k, y, s, q, true⟩) := by
              show _ = _
              rw [getP_in hok h0 h1]
              rw [getN_one hin hone]
              unfold getT
              rw [hr.out]
              unfold Got.chk
              rw [ho.out]
              try rfl
            obtain ⟨x0, x1, x2⟩ := hR5.cells
            obtain ⟨r0, r1, r2⟩ := hR5.frozen
            have hgs := stored3 (.int .i64 k) (.int .i64 y) (.string s) x0 x1 x2
            have HB : Hid (Below w.heap.size w (((w5.setCell ⟨w.heap.size + 1, 0, none⟩ (.int .i64 k)).setCell ⟨w.heap.size + 1, 1, none⟩ (.int .i64 y)).setCell ⟨w.heap.size + 1, 2, none⟩ (.string s))) := ((hB5.setCell (Nat.le_succ _) _).setCell (Nat.le_succ _) _).setCell (Nat.le_succ _) _
            clear hR5 hV5 hB5 hr ho
            go_wp2
            exact bodyPost_ret (v := .tuple #[.agg #[.int .i64 k, .int .i64 y, .string s], .int .i64 q, .bool true]) (by simp [results, Try.results7, go_sem, hgs]) rfl ⟨by rw [HG.out]; rfl, HB.out⟩
    | true =>
      cases nul with
      | false =>
        go_enter Try.func7, Try.ntmps7
        go_wp2_with fail
        refine (specPartOk_any c t false true _).mono ?_
        rw [hok]
        rintro e w1 ⟨rfl, hb1⟩
        have hP1 := hP.below hb1
        have hR1 := hR.below hb1
        have hv1 := hv.below (hb0.trans (hb1.mono hb0.size))
        have hB1 := hb0.trans (hb1.mono hb0.size)
        clear hP hR hb0 hb1
        obtain ⟨p0, p1, p2, p3⟩ := hP1.cells
        go_wp2_with fail
        refine (flip_own b off n cap f 0 w1 hv1 (by omega)).mono ?_
        rintro e w2 ⟨gx, cx, rfl, hgx, hrx, hb2⟩
        have hx2 : View w2 (some ⟨gx, 0, none⟩) n cx (turned true f) := (hrx.row.view (by obtain ⟨_, _, _, h3, _, _⟩ := hrx; exact h3) (flipF_byte 0 hv1.byte)).congr (fun i _ => by unfold flipF turned; rw [if_pos (by omega)]; rfl)
        have hP2 := hP1.below hb2
        have hR2 := hR1.below hb2
        have hB2 := hB1.trans (hb2.mono hB1.size)
        clear hP1 hR1 hv1 hB1 hb2 hrx p0 p1 p2 p3
        obtain ⟨p0, p1, p2, p3⟩ := hP2.cells
        obtain ⟨k, y, s, q, ok, hr⟩ : ∃ k y s q ok, Hid (rawT n (turned true f) t p = ⟨k, y, s, q, ok⟩) := ⟨_, _, _, _, _, rfl⟩
        go_wp2_with fail
        clear p0 p1 p2 p3
        refine (l5Get_is gx 0 n cx (turned true f) t p w2 k y s q ok hr hx2 hn ht (by omega)).mono ?_
        rintro e w3 ⟨rfl, hb3⟩
        have hR3 := hR2.below hb3
        have hB3 := hB2.trans (hb3.mono hB2.size)
        have hlt3 : w.heap.size + 1 < w3.heap.size := hR3.lt
        have hbV : Below w3.heap.size w3 (w3.alloc (.cells #[.int .i64 k, .int .i64 y, .string s] 29)) := (Below.refl _ _).alloc (Nat.le_refl _) _
        have hR4 := hR3.below hbV
        have hV4 := Box.new w3 k y s
        have hB4 := hB3.trans (hbV.mono hB3.size)
        clear hb3 hR2 hP2 hB2
        cases ok with
        | false =>
          have HG : Hid (getP n f c t false true p = .no) := by
            show _ = _
            rw [getP_in hok h0 h1]
            rw [getN_no]
            unfold getT
            rw [hr.out]
            rfl
          obtain ⟨x0, x1, x2⟩ := hR3.cells
          obtain ⟨r0, r1, r2⟩ := hR3.frozen
          have hgs := stored3A (.int .i64 0) (.int .i64 0) (.string ⟨#[]⟩) x0 x1 x2 hR3.lt (.cells #[.int .i64 k, .int .i64 y, .string s] 29)
          have HB : Hid (Below w.heap.size w ((((w3.setCell ⟨w.heap.size + 1, 0, none⟩ (.int .i64 0)).setCell ⟨w.heap.size + 1, 1, none⟩ (.int .i64 0)).setCell ⟨w.heap.size + 1, 2, none⟩ (.string ⟨#[]⟩)).alloc (.cells #[.int .i64 k, .int .i64 y, .string s] 29))) := (((hB3.setCell (Nat.le_succ _) _).setCell (Nat.le_succ _) _).setCell (Nat.le_succ _) _).alloc (by simpa using hB3.size) _
          clear hR3 hB3 hR4 hV4 hB4 hbV hr
          go_wp2
          exact bodyPost_ret (v := .tuple #[.agg #[.int .i64 0, .int .i64 0, .string ⟨#[]⟩], .int .i64 0, .bool false]) (by simp [results, Try.results7, go_sem, hgs]) rfl ⟨by rw [HG.out]; rfl, HB.out⟩
        | true =>
          clear hR3 hB3
          have hss : s.size ≤ n := rawT_small (turned_bd hFb.out) ht hr.out
          obtain ⟨v0, v1, v2⟩ := hV4.cells
          go_wp2_with fail
          clear v0 v1 v2
          refine (specValOk_any k y s _ (by omega)).mono ?_
          obtain ⟨o, ho⟩ : ∃ o, Hid (okF k y s = o) := ⟨_, rfl⟩
          rw [ho.out]
          rintro e w5 ⟨rfl, hb5⟩
          have hR5 := hR4.below hb5
          have hV5 := hV4.below hb5
          have hB5 := hB4.trans (hb5.mono hB4.size)
          clear hR4 hV4 hB4 hb5 hbV
          obtain ⟨v0, v1, v2⟩ := hV5.cells
          cases o with
          | false =>
            have HG : Hid (getP n f c t false true p = .no) := by
              show _ = _
              rw [getP_in hok h0 h1]
              rw [getN_no]
              unfold getT
              rw [hr.out]
              unfold Got.chk
              rw [ho.out]
              try rfl
            obtain ⟨x0, x1, x2⟩ := hR5.cells
            obtain ⟨r0, r1, r2⟩ := hR5.frozen
            have hgs := stored3 (.int .i64 0) (.int .i64 0) (.string ⟨#[]⟩) x0 x1 x2
            have HB : Hid (Below w.heap.size w (((w5.setCell ⟨w.heap.size + 1, 0, none⟩ (.int .i64 0)).setCell ⟨w.heap.size + 1, 1, none⟩ (.int .i64 0)).setCell ⟨w.heap.size + 1, 2, none⟩ (.string ⟨#[]⟩))) := ((hB5.setCell (Nat.le_succ _) _).setCell (Nat.le_succ _) _).setCell (Nat.le_succ _) _
            clear hR5 hV5 hB5 hr ho
            go_wp2
            exact bodyPost_ret (v := .tuple #[.agg #[.int .i64 0, .int .i64 0, .string ⟨#[]⟩], .int .i64 0, .bool false]) (by simp [results, Try.results7, go_sem, hgs]) rfl ⟨by rw [HG.out]; rfl, HB.out⟩
          | true =>
            have HG : Hid (getP n f c t false true p = ⟨k, y, s, q, true⟩) := by
              show _ = _
              rw [getP_in hok h0 h1]
              rw [getN_no]
              unfold getT
              rw [hr.out]
              unfold Got.chk
              rw [ho.out]
              try rfl
            obtain ⟨x0, x1, x2⟩ := hR5.cells
            obtain ⟨r0, r1, r2⟩ := hR5.frozen
            have hgs := stored3 (.int .i64 k) (.int .i64 y) (.string s) x0 x1 x2
            have HB : Hid (Below w.heap.size w (((w5.setCell ⟨w.heap.size + 1, 0, none⟩ (.int .i64 k)).setCell ⟨w.heap.size + 1, 1, none⟩ (.int .i64 y)).setCell ⟨w.heap.size + 1, 2, none⟩ (.string s))) := ((hB5.setCell (Nat.le_succ _) _).setCell (Nat.le_succ _) _).setCell (Nat.le_succ _) _
            clear hR5 hV5 hB5 hr ho
            go_wp2
            exact bodyPost_ret (v := .tuple #[.agg #[.int .i64 k, .int .i64 y, .string s], .int .i64 q, .bool true]) (by simp [results, Try.results7, go_sem, hgs]) rfl ⟨by rw [HG.out]; rfl, HB.out⟩
      | true =>
        go_enter Try.func7, Try.ntmps7
        go_wp2_with fail
        refine (specPartOk_any c t true true _).mono ?_
        rw [hok]
        rintro e w1 ⟨rfl, hb1⟩
        have hP1 := hP.below hb1
        have hR1 := hR.below hb1
        have hv1 := hv.below (hb0.trans (hb1.mono hb0.size))
        have hB1 := hb0.trans (hb1.mono hb0.size)
        clear hP hR hb0 hb1
        obtain ⟨p0, p1, p2, p3⟩ := hP1.cells
        go_wp2_with fail
        refine (flip_own b off n cap f 0 w1 hv1 (by omega)).mono ?_
        rintro e w2 ⟨gx, cx, rfl, hgx, hrx, hb2⟩
        have hx2 : View w2 (some ⟨gx, 0, none⟩) n cx (turned true f) := (hrx.row.view (by obtain ⟨_, _, _, h3, _, _⟩ := hrx; exact h3) (flipF_byte 0 hv1.byte)).congr (fun i _ => by unfold flipF turned; rw [if_pos (by omega)]; rfl)
        have hP2 := hP1.below hb2
        have hR2 := hR1.below hb2
        have hB2 := hB1.trans (hb2.mono hB1.size)
        clear hP1 hR1 hv1 hB1 hb2 hrx p0 p1 p2 p3
        obtain ⟨p0, p1, p2, p3⟩ := hP2.cells
        obtain ⟨i, rfl⟩ := Int.eq_ofNat_of_zero_le h0
        by_cases hend : i = n
        · subst hend
          have HG : Hid (getP i f c t true true (i : Int) = .no) := by
            show _ = _
            rw [getP_in hok h0 h1, getN_end]
          have q9 : ((i : Int) == (i : Int)) = true := by simp
          obtain ⟨x0, x1, x2⟩ := hR2.cells
          obtain ⟨r0, r1, r2⟩ := hR2.frozen
          have hgs := stored3 (.int .i64 0) (.int .i64 0) (.string ⟨#[]⟩) x0 x1 x2
          have HB : Hid (Below w.heap.size w (((w2.setCell ⟨w.heap.size + 1, 0, none⟩ (.int .i64 0)).setCell ⟨w.heap.size + 1, 1, none⟩ (.int .i64 0)).setCell ⟨w.heap.size + 1, 2, none⟩ (.string ⟨#[]⟩))) := ((hB2.setCell (Nat.le_succ _) _).setCell (Nat.le_succ _) _).setCell (Nat.le_succ _) _
          go_wp2
          exact bodyPost_ret (v := .tuple #[.agg #[.int .i64 0, .int .i64 0, .string ⟨#[]⟩], .int .i64 0, .bool false]) (by simp [results, Try.results7, go_sem, hgs]) rfl ⟨by rw [HG.out]; rfl, HB.out⟩
        have hin : i < n := by omega
        have hiz : (i : Int) < (n : Int) := by omega
        have q9 : ((i : Int) == (n : Int)) = false := by simp; omega
        have hbi := turned_bd (d := true) hFb.out i hin
        have hci := view_at hx2 hin
        rw [Nat.zero_add] at hci
        by_cases hbig : 1 < turned true f i
        · have HG : Hid (getP n f c t true true (i : Int) = .no) := by
            show _ = _
            rw [getP_in hok h0 h1, getN_big hbig]
          obtain ⟨x0, x1, x2⟩ := hR2.cells
          obtain ⟨r0, r1, r2⟩ := hR2.frozen
          have hgs := stored3 (.int .i64 0) (.int .i64 0) (.string ⟨#[]⟩) x0 x1 x2
          have HB : Hid (Below w.heap.size w (((w2.setCell ⟨w.heap.size + 1, 0, none⟩ (.int .i64 0)).setCell ⟨w.heap.size + 1, 1, none⟩ (.int .i64 0)).setCell ⟨w.heap.size + 1, 2, none⟩ (.string ⟨#[]⟩))) := ((hB2.setCell (Nat.le_succ _) _).setCell (Nat.le_succ _) _).setCell (Nat.le_succ _) _
          go_wp2
          exact bodyPost_ret (v := .tuple #[.agg #[.int .i64 0, .int .i64 0, .string ⟨#[]⟩], .int .i64 0, .bool false]) (by simp [results, Try.results7, go_sem, hgs]) rfl ⟨by rw [HG.out]; rfl, HB.out⟩
        by_cases hzero : turned true f i = 0
        · have HG : Hid (getP n f c t true true (i : Int) = ⟨0, 0, noBytes, (i : Int) + 1, true⟩) := by
            show _ = _
            rw [getP_in hok h0 h1, getN_zero hin hzero]
          rw [hzero] at hci
          clear hbi hbig
          obtain ⟨x0, x1, x2⟩ := hR2.cells
          obtain ⟨r0, r1, r2⟩ := hR2.frozen
          have hgs := stored3 (.int .i64 0) (.int .i64 0) (.string ⟨#[]⟩) x0 x1 x2
          have HB : Hid (Below w.heap.size w (((w2.setCell ⟨w.heap.size + 1, 0, none⟩ (.int .i64 0)).setCell ⟨w.heap.size + 1, 1, none⟩ (.int .i64 0)).setCell ⟨w.heap.size + 1, 2, none⟩ (.string ⟨#[]⟩))) := ((hB2.setCell (Nat.le_succ _) _).setCell (Nat.le_succ _) _).setCell (Nat.le_succ _) _
          go_wp2
          exact bodyPost_ret (v := .tuple #[.agg #[.int .i64 0, .int .i64 0, .string ⟨#[]⟩], .int .i64 ((i : Int) + 1), .bool true]) (by simp [results, Try.results7, go_sem, hgs]) rfl ⟨by rw [HG.out]; rfl, HB.out⟩
        have hone : turned true f i = 1 := by omega
        rw [hone] at hci
        clear hbig hzero hbi
        obtain ⟨k, y, s, q, ok, hr⟩ : ∃ k y s q ok, Hid (rawT n (turned true f) t ((i : Int) + 1) = ⟨k, y, s, q, ok⟩) := ⟨_, _, _, _, _, rfl⟩
        go_wp2_with fail
        clear p0 p1 p2 p3
        refine (l5Get_is gx 0 n cx (turned true f) t ((i : Int) + 1) w2 k y s q ok hr hx2 hn ht (by omega)).mono ?_
        rintro e w3 ⟨rfl, hb3⟩
        have hR3 := hR2.below hb3
        have hB3 := hB2.trans (hb3.mono hB2.size)
        have hlt3 : w.heap.size + 1 < w3.heap.size := hR3.lt
        have hbV : Below w3.heap.size w3 (w3.alloc (.cells #[.int .i64 k, .int .i64 y, .string s] 29)) := (Below.refl _ _).alloc (Nat.le_refl _) _
        have hR4 := hR3.below hbV
        have hV4 := Box.new w3 k y s
        have hB4 := hB3.trans (hbV.mono hB3.size)
        clear hb3 hR2 hP2 hB2
        cases ok with
        | false =>
          have HG : Hid (getP n f c t true true (i : Int) = .no) := by
            show _ = _
            rw [getP_in hok h0 h1]
            rw [getN_one hin hone]
            unfold getT
            rw [hr.out]
            rfl
          obtain ⟨x0, x1, x2⟩ := hR3.cells
          obtain ⟨r0, r1, r2⟩ := hR3.frozen
          have hgs := stored3A (.int .i64 0) (.int .i64 0) (.string ⟨#[]⟩) x0 x1 x2 hR3.lt (.cells #[.int .i64 k, .int .i64 y, .string s] 29)
          have HB : Hid (Below w.heap.size w ((((w3.setCell ⟨w.heap.size + 1, 0, none⟩ (.int .i64 0)).setCell ⟨w.heap.size + 1, 1, none⟩ (.int .i64 0)).setCell ⟨w.heap.size + 1, 2, none⟩ (.string ⟨#[]⟩)).alloc (.cells #[.int .i64 k, .int .i64 y, .string s] 29))) := (((hB3.setCell (Nat.le_succ _) _).setCell (Nat.le_succ _) _).setCell (Nat.le_succ _) _).alloc (by simpa using hB3.size) _
          clear hR3 hB3 hR4 hV4 hB4 hbV hr
          go_wp2
          exact bodyPost_ret (v := .tuple #[.agg #[.int .i64 0, .int .i64 0, .string ⟨#[]⟩], .int .i64 0, .bool false]) (by simp [results, Try.results7, go_sem, hgs]) rfl ⟨by rw [HG.out]; rfl, HB.out⟩
        | true =>
          clear hR3 hB3
          have hss : s.size ≤ n := rawT_small (turned_bd hFb.out) ht hr.out
          obtain ⟨v0, v1, v2⟩ := hV4.cells
          go_wp2_with fail
          clear v0 v1 v2
          refine (specValOk_any k y s _ (by omega)).mono ?_
          obtain ⟨o, ho⟩ : ∃ o, Hid (okF k y s = o) := ⟨_, rfl⟩
          rw [ho.out]
          rintro e w5 ⟨rfl, hb5⟩
          have hR5 := hR4.below hb5
          have hV5 := hV4.below hb5
          have hB5 := hB4.trans (hb5.mono hB4.size)
          clear hR4 hV4 hB4 hb5 hbV
          obtain ⟨v0, v1, v2⟩ := hV5.cells
          cases o with
          | false =>
            have HG : Hid (getP n f c t true true (i : Int) = .no) := by
              show _ = _
              rw [getP_in hok h0 h1]
              rw [getN_one hin hone]
              unfold getT
              rw [hr.out]
              unfold Got.chk
              rw [ho.out]
              try rfl
            obtain ⟨x0, x1, x2⟩ := hR5.cells
            obtain ⟨r0, r1, r2⟩ := hR5.frozen
            have hgs := stored3 (.int .i64 0) (.int .i64 0) (.string ⟨#[]⟩) x0 x1 x2
            have HB : Hid (Below w.heap.size w (((w5.setCell ⟨w.heap.size + 1, 0, none⟩ (.int .i64 0)).setCell ⟨w.heap.size + 1, 1, none⟩ (.int .i64 0)).setCell ⟨w.heap.size + 1, 2, none⟩ (.string ⟨#[]⟩))) := ((hB5.setCell (Nat.le_succ _) _).setCell (Nat.le_succ _) _).setCell (Nat.le_succ _) _
            clear hR5 hV5 hB5 hr ho
            go_wp2
            exact bodyPost_ret (v := .tuple #[.agg #[.int .i64 0, .int .i64 0, .string ⟨#[]⟩], .int .i64 0, .bool false]) (by simp [results, Try.results7, go_sem, hgs]) rfl ⟨by rw [HG.out]; rfl, HB.out⟩
          | true =>
            have HG : Hid (getP n f c t true true (i : Int) = ⟨k, y, s, q, true⟩) := by
              show _ = _
              rw [getP_in hok h0 h1]
              rw [getN_one hin hone]
              unfold getT
              rw [hr.out]
              unfold Got.chk
              rw [ho.out]
              try rfl
            obtain ⟨x0, x1, x2⟩ := hR5.cells
            obtain ⟨r0, r1, r2⟩ := hR5.frozen
            have hgs := stored3 (.int .i64 k) (.int .i64 y) (.string s) x0 x1 x2
            have HB : Hid (Below w.heap.size w (((w5.setCell ⟨w.heap.size + 1, 0, none⟩ (.int .i64 k)).setCell ⟨w.heap.size + 1, 1, none⟩ (.int .i64 y)).setCell ⟨w.heap.size + 1, 2, none⟩ (.string s))) := ((hB5.setCell (Nat.le_succ _) _).setCell (Nat.le_succ _) _).setCell (Nat.le_succ _) _
            clear hR5 hV5 hB5 hr ho
            go_wp2
            exact bodyPost_ret (v := .tuple #[.agg #[.int .i64 k, .int .i64 y, .string s], .int .i64 q, .bool true]) (by simp [results, Try.results7, go_sem, hgs]) rfl ⟨by rw [HG.out]; rfl, HB.out⟩
end Go.Proofs.Ytbcgonfihdpjnac

/-
  The order of values, plainly; and what the library's comparisons answer.
-/
namespace Go.Proofs.Ytbcgonfihdpjnac
open Go.RowKit
set_option maxRecDepth 4000

def cmpI (a b : Int) : Int := if a < b then -1 else if b < a then 1 else 0

set_option maxHeartbeats 1000000 in
theorem cmpInt_any (a b : Int) (w : World) :
    Calls Try.prog 55 #[.int .i64 a, .int .i64 b] w fun e w' => e = .returned (.int .i64 (cmpI a b)) ∧ w' = w := by
  unfold cmpI
  have e1 : (a != a) = false := by simp
  have e2 : (b != b) = false := by simp
  by_cases h1 : a < b
  · rw [if_pos h1]
    go_enter Try.func55, Try.ntmps55
    go_wp2
    go_ret
    exact ⟨rfl, rfl⟩
  · by_cases h2 : b < a
    · rw [if_neg h1, if_pos h2]
      go_enter Try.func55, Try.ntmps55
      go_wp2
      go_ret
      exact ⟨rfl, rfl⟩
    · rw [if_neg h1, if_neg h2]
      go_enter Try.func55, Try.ntmps55
      go_wp2
      go_ret
      exact ⟨rfl, rfl⟩

/-- A text that is less than another. -/
def ltS (a b : ByteArray) : Bool := Op.bytesLess a.toList b.toList

theorem gtr_str (a b : ByteArray) (w : World) : (binOp .gtr 9 (.string a) (.string b)).run Try.prog w = .ok (.bool (!(Op.bytesLess a.toList b.toList || a.toList == b.toList))) w := by
  simp [go_sem, binOp, Op.stringOp]

def cmpS (a b : ByteArray) : Int := if ltS a b then -1 else if a.toList == b.toList then 0 else 1

set_option maxHeartbeats 1000000 in
theorem cmpStr_any (a b : ByteArray) (w : World) :
    Calls Try.prog 56 #[.string a, .string b] w fun e w' => e = .returned (.int .i64 (cmpS a b)) ∧ w' = w := by
  have q2 := gtr_str a b
  unfold cmpS ltS
  cases h1 : Op.bytesLess a.toList b.toList
  · cases h2 : (a.toList == b.toList)
    · go_enter Try.func56, Try.ntmps56
      go_wp2
      go_ret
      exact ⟨rfl, rfl⟩
    · go_enter Try.func56, Try.ntmps56
      go_wp2
      go_ret
      exact ⟨rfl, rfl⟩
  · go_enter Try.func56, Try.ntmps56
    go_wp2
    go_ret
    exact ⟨rfl, rfl⟩

def first3 (x y z : Int) : Int := if x ≠ 0 then x else if y ≠ 0 then y else z

set_option maxHeartbeats 1000000 in
theorem or3_any (N : Nat) (x y z : Int) (w : World) (h0 : w.cell? ⟨N, 0, none⟩ = some (.int .i64 x)) (h1 : w.cell? ⟨N, 1, none⟩ = some (.int .i64 y)) (h2 : w.cell? ⟨N, 2, none⟩ = some (.int .i64 z)) :
    Calls Try.prog 54 #[.slice (some ⟨N, 0, none⟩) 3 3] w fun e w' => e = .returned (.int .i64 (first3 x y z)) ∧ w' = w := by
  unfold first3
  by_cases hx : x = 0
  · by_cases hy : y = 0
    · by_cases hz : z = 0
      · subst hx hy hz
        go_enter Try.func54, Try.ntmps54
        go_wp2
        refine wp_loop_rounds 4 ?_
        iterate 4
          rw [rounds_succ]
          go_wp2
        go_ret
        exact ⟨rfl, rfl⟩
      · subst hx hy
        have hz : (z != 0) = true := by simpa using hz
        go_enter Try.func54, Try.ntmps54
        go_wp2
        refine wp_loop_rounds 3 ?_
        iterate 3
          rw [rounds_succ]
          go_wp2
        go_ret
        exact ⟨rfl, rfl⟩
    · subst hx
      have hy' : (y != 0) = true := by simpa using hy
      rw [if_neg (by simp), if_pos hy]
      go_enter Try.func54, Try.ntmps54
      go_wp2
      refine wp_loop_rounds 2 ?_
      iterate 2
        rw [rounds_succ]
        go_wp2
      go_ret
      exact ⟨rfl, rfl⟩
  · have hx' : (x != 0) = true := by simpa using hx
    rw [if_pos hx]
    go_enter Try.func54, Try.ntmps54
    go_wp2
    refine wp_loop_rounds 1 ?_
    rw [rounds_succ]
    go_wp2
    go_ret
    exact ⟨rfl, rfl⟩

end Go.Proofs.Ytbcgonfihdpjnac

/-
  The program's LessVal comes to the plain order.
-/
namespace Go.Proofs.Ytbcgonfihdpjnac
open Go.RowKit
set_option maxRecDepth 4000

/-- The lower kind first; of one kind the lower number, then the lower text. -/
def lessV (k n : Int) (s : ByteArray) (k' n' : Int) (s' : ByteArray) : Bool := if k ≠ k' then decide (k < k') else if n ≠ n' then decide (n < n') else ltS s s'

theorem lessV_cmp (k n : Int) (s : ByteArray) (k' n' : Int) (s' : ByteArray) : decide (first3 (cmpI k k') (cmpI n n') (cmpS s s') < 0) = lessV k n s k' n' s' := by
  unfold first3 lessV cmpI cmpS
  by_cases h1 : k = k'
  · subst h1
    by_cases h2 : n = n'
    · subst h2
      cases ltS s s' <;> simp
      split <;> decide
    · by_cases h3 : n < n'
      · simp [h2, h3]
      · have : n' < n := by omega
        simp [h2, h3, this]
  · by_cases h3 : k < k'
    · simp [h1, h3]
    · have : k' < k := by omega
      simp [h1, h3, this]

set_option maxHeartbeats 4000000 in
theorem lessVal_impl (k n : Int) (s : ByteArray) (k' n' : Int) (s' : ByteArray) (w : World) :
    Calls Try.prog 28 #[.agg #[.int .i64 k, .int .i64 n, .string s], .agg #[.int .i64 k', .int .i64 n', .string s']] w fun e w' => e = .returned (.bool (lessV k n s k' n' s')) ∧ Below w.heap.size w w' := by
  rw [← lessV_cmp]
  have hI := fun W => cmpInt_any k k' W
  have hN := fun W => cmpInt_any n n' W
  have hS := fun W => cmpStr_any s s' W
  generalize cmpI k k' = x at *
  generalize cmpI n n' = y at *
  generalize cmpS s s' = z at *
  go_enter Try.func28, Try.ntmps28
  go_wp2_with fail
  go_region_held3 (fun W => W.cell? ⟨w.heap.size, 0, none⟩ = some (.int .i64 k) ∧ W.cell? ⟨w.heap.size, 1, none⟩ = some (.int .i64 n) ∧ W.cell? ⟨w.heap.size, 2, none⟩ = some (.string s) ∧ W.cell? ⟨w.heap.size + 1, 0, none⟩ = some (.int .i64 k') ∧ W.cell? ⟨w.heap.size + 1, 1, none⟩ = some (.int .i64 n') ∧ W.cell? ⟨w.heap.size + 1, 2, none⟩ = some (.string s')) (go_keep) (first
    | (go_at_call_of 55 (Value.int IntKind.i64 k); refine (hI _).mono ?_; rintro e _ ⟨rfl, rfl⟩)
    | (go_at_call_of 55 (Value.int IntKind.i64 n); refine (hN _).mono ?_; rintro e _ ⟨rfl, rfl⟩)
    | (go_at_call 56; refine (hS _).mono ?_; rintro e _ ⟨rfl, rfl⟩)
    | (go_at_call 54; refine (or3_any _ x y z _ (by simp [go_sem]) (by simp [go_sem]) (by simp [go_sem])).mono ?_; rintro e _ ⟨rfl, rfl⟩))
  go_wp2
  go_ret
  refine ⟨rfl, ?_⟩
  repeat (first | exact Below.refl _ _ | refine Below.alloc ?_ (by simp <;> omega) _ | refine Below.drew ?_)


end Go.Proofs.Ytbcgonfihdpjnac

/-
  The model's LessVal comes to the plain order.
-/
namespace Go.Proofs.Ytbcgonfihdpjnac
open Go.RowKit
set_option maxRecDepth 4000

set_option maxHeartbeats 1000000 in
theorem lessVal_spec (k n : Int) (s : ByteArray) (k' n' : Int) (s' : ByteArray) (w : World) :
    Calls Try.prog 29 #[.agg #[.int .i64 k, .int .i64 n, .string s], .agg #[.int .i64 k', .int .i64 n', .string s']] w fun e w' => e = .returned (.bool (lessV k n s k' n' s')) ∧ Below w.heap.size w w' := by
  unfold lessV ltS
  by_cases h1 : k = k'
  · subst h1
    by_cases h2 : n = n'
    · subst h2
      go_enter Try.func29, Try.ntmps29
      go_wp2
      go_ret
      refine ⟨by simp, ?_⟩
      repeat (first | exact Below.refl _ _ | refine Below.alloc ?_ (by simp <;> omega) _ | refine Below.drew ?_)
    · have h2' : (n != n') = true := by simpa using h2
      go_enter Try.func29, Try.ntmps29
      go_wp2
      go_ret
      refine ⟨by simp, ?_⟩
      repeat (first | exact Below.refl _ _ | refine Below.alloc ?_ (by simp <;> omega) _ | refine Below.drew ?_)
  · have h1' : (k != k') = true := by simpa using h1
    go_enter Try.func29, Try.ntmps29
    go_wp2
    go_ret
    refine ⟨by simp, ?_⟩
    repeat (first | exact Below.refl _ _ | refine Below.alloc ?_ (by simp <;> omega) _ | refine Below.drew ?_)
end Go.Proofs.Ytbcgonfihdpjnac

/-
  The model's LessPart: values as they stand, the other way round where it is asked.
-/
namespace Go.Proofs.Ytbcgonfihdpjnac
open Go.RowKit
set_option maxRecDepth 4000

def lessP (d : Bool) (k n : Int) (s : ByteArray) (k' n' : Int) (s' : ByteArray) : Bool := if d then lessV k' n' s' k n s else lessV k n s k' n' s'

set_option maxHeartbeats 1000000 in
theorem specLessPart_any (c t : Int) (nul d : Bool) (k n : Int) (s : ByteArray) (k' n' : Int) (s' : ByteArray) (w : World) :
    Calls Try.prog 10 #[.agg #[.int .i64 c, .int .i64 t, .bool nul, .bool d], .agg #[.int .i64 k, .int .i64 n, .string s], .agg #[.int .i64 k', .int .i64 n', .string s']] w fun e w' => e = .returned (.bool (lessP d k n s k' n' s')) ∧ Below w.heap.size w w' := by
  have hb0 : ∀ o o' o'', Below w.heap.size w (((w.alloc o).alloc o').alloc o'') := fun o o' o'' => (((Below.refl _ _).alloc (Nat.le_refl _) _).alloc (by simp) _).alloc (by simp; omega) _
  cases d with
  | true =>
    go_enter Try.func10, Try.ntmps10
    go_wp2_with fail
    refine (lessVal_spec k' n' s' k n s _).mono ?_
    rintro e w1 ⟨rfl, hb1⟩
    have HB : Hid (Below w.heap.size w w1) := (hb0 _ _ _).trans (hb1.mono (by simp; omega))
    clear hb1 hb0
    go_wp2
    go_ret
    exact ⟨rfl, HB.out⟩
  | false =>
    go_enter Try.func10, Try.ntmps10
    go_wp2_with fail
    refine (lessVal_spec k n s k' n' s' _).mono ?_
    rintro e w1 ⟨rfl, hb1⟩
    have HB : Hid (Below w.heap.size w w1) := (hb0 _ _ _).trans (hb1.mono (by simp; omega))
    clear hb1 hb0
    go_wp2
    go_ret
    exact ⟨rfl, HB.out⟩
end Go.Proofs.Ytbcgonfihdpjnac

/-
  The program's LessPart: values as they stand, the other way round where it is asked.
-/
namespace Go.Proofs.Ytbcgonfihdpjnac
open Go.RowKit
set_option maxRecDepth 4000

set_option maxHeartbeats 1000000 in
theorem implLessPart_any (c t : Int) (nul d : Bool) (k n : Int) (s : ByteArray) (k' n' : Int) (s' : ByteArray) (w : World) :
    Calls Try.prog 9 #[.agg #[.int .i64 c, .int .i64 t, .bool nul, .bool d], .agg #[.int .i64 k, .int .i64 n, .string s], .agg #[.int .i64 k', .int .i64 n', .string s']] w fun e w' => e = .returned (.bool (lessP d k n s k' n' s')) ∧ Below w.heap.size w w' := by
  have hb0 : ∀ o o' o'', Below w.heap.size w (((w.alloc o).alloc o').alloc o'') := fun o o' o'' => (((Below.refl _ _).alloc (Nat.le_refl _) _).alloc (by simp) _).alloc (by simp; omega) _
  cases d with
  | true =>
    go_enter Try.func9, Try.ntmps9
    go_wp2_with fail
    refine (lessVal_impl k' n' s' k n s _).mono ?_
    rintro e w1 ⟨rfl, hb1⟩
    have HB : Hid (Below w.heap.size w w1) := (hb0 _ _ _).trans (hb1.mono (by simp; omega))
    clear hb1 hb0
    go_wp2
    go_ret
    exact ⟨rfl, HB.out⟩
  | false =>
    go_enter Try.func9, Try.ntmps9
    go_wp2_with fail
    refine (lessVal_impl k n s k' n' s' _).mono ?_
    rintro e w1 ⟨rfl, hb1⟩
    have HB : Hid (Below w.heap.size w w1) := (hb0 _ _ _).trans (hb1.mono (by simp; omega))
    clear hb1 hb0
    go_wp2
    go_ret
    exact ⟨rfl, HB.out⟩
end Go.Proofs.Ytbcgonfihdpjnac

/-
  Of two unlike values one is less, plainly.
-/
namespace Go.Proofs.Ytbcgonfihdpjnac
open Go.RowKit
set_option maxRecDepth 4000

theorem bl_irr : ∀ l : List UInt8, Op.bytesLess l l = false
  | [] => rfl
  | x :: xs => by simp [Op.bytesLess, bl_irr xs]
theorem bl_tri : ∀ a b : List UInt8, a ≠ b → Op.bytesLess a b = !Op.bytesLess b a
  | [], [], h => absurd rfl h
  | [], _ :: _, _ => by simp [Op.bytesLess]
  | _ :: _, [], _ => by simp [Op.bytesLess]
  | x :: xs, y :: ys, h => by
    by_cases e : x = y
    · subst e
      have hne : xs ≠ ys := fun e => h (by rw [e])
      simp [Op.bytesLess, bl_tri xs ys hne]
    · have e1 : (x == y) = false := by simpa using e
      have e2 : (y == x) = false := by simpa using fun e3 => e e3.symm
      simp only [Op.bytesLess, e1, e2, Bool.false_and, Bool.or_false]
      have hn : x.toNat ≠ y.toNat := fun e3 => e (UInt8.toNat_inj.1 e3)
      by_cases hl : x < y
      · have : ¬ y < x := by simp only [UInt8.lt_iff_toNat_lt] at hl ⊢; omega
        simp [hl, this]
      · have : y < x := by simp only [UInt8.lt_iff_toNat_lt] at hl ⊢; omega
        simp [hl, this]

theorem ltS_irr (s : ByteArray) : ltS s s = false := bl_irr _
theorem ltS_tri {s t : ByteArray} (h : s ≠ t) : ltS s t = !ltS t s := bl_tri _ _ (fun e => h (toList_inj.1 e))

theorem order3 (k n : Int) (s : ByteArray) (k' n' : Int) (s' : ByteArray) :
    (lessV k n s k' n' s' = true ∧ lessV k' n' s' k n s = false ∧ eqV k n s k' n' s' = false) ∨ (lessV k n s k' n' s' = false ∧ lessV k' n' s' k n s = true ∧ eqV k n s k' n' s' = false) ∨
    (lessV k n s k' n' s' = false ∧ lessV k' n' s' k n s = false ∧ eqV k n s k' n' s' = true) := by
  unfold lessV eqV
  by_cases h1 : k = k'
  · subst h1
    by_cases h2 : n = n'
    · subst h2
      by_cases h3 : s = s'
      · subst h3
        right; right
        simp [ltS_irr]
      · have ht := ltS_tri h3
        cases hx : ltS s' s
        · rw [hx] at ht; left; simp [ht, h3]
        · rw [hx] at ht; right; left; simp [ht, h3]
    · have h2' : ¬ n' = n := fun e => h2 e.symm
      by_cases hl : n < n'
      · left; simp [h2, h2', hl]; omega
      · right; left; simp [h2, h2']; omega
  · have h1' : ¬ k' = k := fun e => h1 e.symm
    by_cases hl : k < k'
    · left; simp [h1, h1', hl]; omega
    · right; left; simp [h1, h1']; omega
end Go.Proofs.Ytbcgonfihdpjnac

/-
  What the law's own helpers sameBytes and begins come to, at every two slices of bytes that read.
-/
namespace Go.Proofs.Ytbcgonfihdpjnac
open Go.RowKit
set_option maxRecDepth 4000

theorem lof_eq {n : Nat} {f g : Nat → Int} : lof n f = lof n g ↔ ∀ i, i < n → f i = g i := by
  constructor
  · intro h i hi
    rw [← lof_get n f i hi, ← lof_get n g i hi, h]
  · intro h
    unfold lof
    apply List.map_congr_left
    intro i hi
    exact h i (List.mem_range.1 hi)

set_option maxHeartbeats 1000000 in
theorem sameBytes_any (a1 a2 : Option Addr) (n m c1 c2 : Nat) (f g : Nat → Int) (w : World) (h1 : View w a1 n c1 f) (h2 : View w a2 m c2 g) (hn : n ≤ 281474976710656) (hm : m ≤ 281474976710656) :
    Calls Try.prog 12 #[.slice a1 n c1, .slice a2 m c2] w fun e w' => e = .returned (.bool (decide (lof n f = lof m g))) ∧ Below w.heap.size w w' := by
  by_cases hnm : n = m
  · subst hnm
    have q0 : ((n : Int) != (n : Int)) = false := by simp
    go_enter Try.func12, Try.ntmps12
    go_wp2
    go_loopg [5] n (fun q i wr => ∃ k : Nat, k ≤ n ∧ q = n - k ∧ i = .int .i64 k ∧ Below w.heap.size w wr ∧ ∀ j, j < k → f j = g j)
    case atStart => exact ⟨0, Nat.zero_le _, rfl, rfl, Below.refl _ _, fun j hj => absurd hj (Nat.not_lt_zero _)⟩
    case round =>
      obtain ⟨k, hk, rfl, rfl, hB, hE⟩ := hrel
      have HE : Hid (∀ j, j < k → f j = g j) := hE
      clear hE
      by_cases hlt : k < n
      · obtain ⟨b1, o1, rfl, hb1, hc1⟩ := h1.cells (by omega)
        obtain ⟨b2, o2, rfl, hb2, hc2⟩ := h2.cells (by omega)
        have hkz : (k : Int) < (n : Int) := by omega
        have e1 : wr.cell? ⟨b1, o1 + k, none⟩ = some (.int .u8 (f k)) := by rw [hB.cell (p := ⟨b1, o1 + k, none⟩) hb1]; exact hc1 k hlt
        have e2 : wr.cell? ⟨b2, o2 + k, none⟩ = some (.int .u8 (g k)) := by rw [hB.cell (p := ⟨b2, o2 + k, none⟩) hb2]; exact hc2 k hlt
        clear hc1 hc2
        by_cases he : f k = g k
        · have q1 : (f k != g k) = false := by simpa using he
          have HE2 : Hid (∀ j, j < k + 1 → f j = g j) := fun j hj => by
            by_cases e : j = k
            · subst e; exact he
            · exact HE.out j (by omega)
          clear he
          go_wp2
          go_region
          all_goals go_wp2
          all_goals
            go_roundg (n - (k + 1))
            case measure => omega
            case rel => exact ⟨k + 1, by omega, rfl, by go_num, by first | exact hB.drew | exact hB, HE2.out⟩
        · have q1 : (f k != g k) = true := by simpa using he
          have HD : Hid (decide (lof n f = lof n g) = false) := by
            show _ = _
            rw [decide_eq_false_iff_not, lof_eq]
            exact fun h => he (h k hlt)
          clear he
          go_wp2
          go_region
          all_goals go_wp2
          all_goals
            go_ret
            exact ⟨by rw [HD.out]; rfl, by first | exact hB.drew | exact hB⟩
      · obtain rfl : k = n := by omega
        have HD : Hid (decide (lof k f = lof k g) = true) := by
          show _ = _
          rw [decide_eq_true_iff, lof_eq]
          exact HE.out
        go_wp2
        go_ret
        exact ⟨by rw [HD.out]; rfl, hB⟩
  · have q0 : ((n : Int) != (m : Int)) = true := by simp; omega
    have HD : Hid (decide (lof n f = lof m g) = false) := by
      show _ = _
      rw [decide_eq_false_iff_not]
      intro h
      have := congrArg List.length h
      rw [lof_len, lof_len] at this
      exact hnm this
    go_enter Try.func12, Try.ntmps12
    go_wp2
    go_ret
    exact ⟨by rw [HD.out]; rfl, Below.refl _ _⟩
end Go.Proofs.Ytbcgonfihdpjnac

/-
  Whether a code is too long.
-/
namespace Go.Proofs.Ytbcgonfihdpjnac
open Go.RowKit
set_option maxRecDepth 4000

theorem big_any (ao : Option Addr) (n cap : Nat) (w : World) (_hn : n ≤ 9223372036854775807) :
    Calls Try.prog 4 #[.slice ao n cap] w fun e w' => e = .returned (.bool (decide ((1048576 : Int) < (n : Int)))) ∧ w = w' := by
  go_enter Try.func4, Try.ntmps4
  go_wp2
  go_ret
  exact ⟨rfl, rfl⟩

end Go.Proofs.Ytbcgonfihdpjnac

