/-
  Together: PartGet, GetVarImpl, FormGet
-/
import Derived.Test.YtbcgonfihdpjnaqPack5
import Derived.Test.YtbcgonfihdpjnaqPack3
import Derived.Test.YtbcgonfihdpjnaqPack4
import Derived.Test.YtbcgonfihdpjnaqPack1
/-
  The model's GetPart: one value of a key, at every slice of bytes that reads and at every place.
-/
namespace Go.Proofs.Ytbcgonfihdpjnaq
open Go.RowKit
set_option maxRecDepth 4000

theorem l5Get_is (b off n cap : Nat) (f : Nat → Int) (t p : Int) (w : World) (k y : Int) (s : ByteArray) (q : Int) (ok : Bool) (hr : Hid (rawT n f t p = ⟨k, y, s, q, ok⟩)) (hv : View w (some ⟨b, off, none⟩) n cap f) (hn : n ≤ 10000000) (ht : 1 ≤ t ∧ t ≤ 4) (hp1 : p ≤ 9223372036854775807) :
    Calls Try.prog 39 #[.slice (some ⟨b, off, none⟩) n cap, .int .i64 t, .int .i64 p] w fun e w' => e = .returned (.tuple #[.agg #[.int .i64 k, .int .i64 y, .string s], .int .i64 q, .bool ok]) ∧ Below w.heap.size w w' := by
  have key : Calls Try.prog 39 #[.slice (some ⟨b, off, none⟩) n cap, .int .i64 t, .int .i64 p] w fun e w' => e = gotRet (rawT n f t p) ∧ Below w.heap.size w w' := by
    obtain rfl | rfl | rfl | rfl : t = 1 ∨ t = 2 ∨ t = 3 ∨ t = 4 := by omega
    · exact l5Get_fix b off n cap f p w hv hn hp1
    · exact l5Get_var b off n cap f p w hv hn hp1
    · exact l5Get_esc b off n cap f p w hv hn hp1
    · exact l5Get_bool b off n cap f p w hv hn hp1
  rw [hr.out] at key
  exact key

theorem rawT_small {n : Nat} {f : Nat → Int} {t p k y q : Int} {s : ByteArray} (hb : ∀ i, i < n → 0 ≤ f i ∧ f i ≤ 255) (ht : 1 ≤ t ∧ t ≤ 4) (h : rawT n f t p = ⟨k, y, s, q, true⟩) : s.size ≤ n := by
  unfold rawT at h
  obtain rfl | rfl | rfl | rfl : t = 1 ∨ t = 2 ∨ t = 3 ∨ t = 4 := by omega
  · rw [if_pos rfl] at h
    simp only [Got.mk.injEq] at h
    rw [← h.2.2.1]; exact Nat.zero_le _
  · rw [if_neg (by decide), if_pos rfl] at h
    simp only [Got.mk.injEq] at h
    rw [← h.2.2.1]; exact Nat.zero_le _
  · rw [if_neg (by decide), if_neg (by decide), if_pos rfl] at h
    simp only [Got.mk.injEq] at h
    obtain ⟨-, -, h1, h2, h3⟩ := h
    obtain ⟨i, K, -, -, hi, -, hsK, -⟩ := getE_back hb (x := p) (s := s) (q := q) (by rw [← h1, ← h2, ← h3])
    omega
  · rw [if_neg (by decide), if_neg (by decide), if_neg (by decide)] at h
    split at h
    · simp only [Got.mk.injEq] at h
      rw [← h.2.2.1]; exact Nat.zero_le _
    · simp at h

theorem view_at {w : World} {b off n cap i : Nat} {f : Nat → Int} (h : View w (some ⟨b, off, none⟩) n cap f) (hi : i < n) : w.cell? ⟨b, off + i, none⟩ = some (.int .u8 (f i)) := by
  obtain ⟨b', off', e, _, hc⟩ := h.cells (by omega)
  cases e
  exact hc i hi

set_option maxHeartbeats 4000000 in
theorem getPart_spec (b off n cap : Nat) (f : Nat → Int) (c t : Int) (nul d : Bool) (p : Int) (w : World) (hv : View w (some ⟨b, off, none⟩) n cap f) (hn : n ≤ 10000000) (hp1 : p ≤ 9223372036854775807) :
    Calls Try.prog 21 #[.slice (some ⟨b, off, none⟩) n cap, .agg #[.int .i64 c, .int .i64 t, .bool nul, .bool d], .int .i64 p] w fun e w' => e = gotRet (getP n f c t nul d p) ∧ Below w.heap.size w w' := by
  have hP := (PBox.new w c t nul d).below ((Below.refl _ _).alloc (Nat.le_refl _) (.cells #[.int .i64 0, .int .i64 0, .string ⟨#[]⟩] 38))
  have hR := Box.new (w.alloc (.cells #[.int .i64 c, .int .i64 t, .bool nul, .bool d] 31)) 0 0 ⟨#[]⟩
  rw [show (w.alloc (.cells #[.int .i64 c, .int .i64 t, .bool nul, .bool d] 31)).heap.size = w.heap.size + 1 by simp] at hR
  have hb0 : Below w.heap.size w ((w.alloc (.cells #[.int .i64 c, .int .i64 t, .bool nul, .bool d] 31)).alloc (.cells #[.int .i64 0, .int .i64 0, .string ⟨#[]⟩] 38)) := ((Below.refl _ _).alloc (Nat.le_refl _) _).alloc (by simp) _
  have hFb : Hid (∀ i, i < n → 0 ≤ f i ∧ f i ≤ 255) := hv.byte
  cases hok : partOk c t with
  | false =>
    rw [getP_no hok]
    go_enter Try.func21, Try.ntmps21
    go_wp2_with fail
    refine (specPartOk_any c t nul d _).mono ?_
    rw [hok]
    rintro e w1 ⟨rfl, hb1⟩
    have hP1 := hP.below hb1
    have hR1 := hR.below hb1
    have hv1 := hv.below (hb0.trans (hb1.mono hb0.size))
    have hB1 := hb0.trans (hb1.mono hb0.size)
    clear hP hR hb0 hb1
    obtain ⟨p0, p1, p2, p3⟩ := hP1.cells
    obtain ⟨x0, x1, x2⟩ := hR1.cells
    obtain ⟨r0, r1, r2⟩ := hR1.frozen
    have hgs := stored3 (.int .i64 0) (.int .i64 0) (.string ⟨#[]⟩) x0 x1 x2
    have HB : Hid (Below w.heap.size w (((w1.setCell ⟨w.heap.size + 1, 0, none⟩ (.int .i64 0)).setCell ⟨w.heap.size + 1, 1, none⟩ (.int .i64 0)).setCell ⟨w.heap.size + 1, 2, none⟩ (.string ⟨#[]⟩))) := ((hB1.setCell (Nat.le_succ _) _).setCell (Nat.le_succ _) _).setCell (Nat.le_succ _) _
    clear p0 p1 p2 p3
    go_wp2
    exact bodyPost_ret (v := .tuple #[.agg #[.int .i64 0, .int .i64 0, .string ⟨#[]⟩], .int .i64 0, .bool false]) (by simp [results, Try.results21, go_sem, hgs]) rfl ⟨rfl, HB.out⟩
  | true =>
    have ht : 1 ≤ t ∧ t ≤ 4 := by unfold partOk at hok; simp at hok; omega
    by_cases h0 : p < 0
    · rw [getP_out (Or.inl h0)]
      go_enter Try.func21, Try.ntmps21
      go_wp2_with fail
      refine (specPartOk_any c t nul d _).mono ?_
      rw [hok]
      rintro e w1 ⟨rfl, hb1⟩
      have hP1 := hP.below hb1
      have hR1 := hR.below hb1
      have hv1 := hv.below (hb0.trans (hb1.mono hb0.size))
      have hB1 := hb0.trans (hb1.mono hb0.size)
      clear hP hR hb0 hb1
      obtain ⟨p0, p1, p2, p3⟩ := hP1.cells
      obtain ⟨x0, x1, x2⟩ := hR1.cells
      obtain ⟨r0, r1, r2⟩ := hR1.frozen
      have hgs := stored3 (.int .i64 0) (.int .i64 0) (.string ⟨#[]⟩) x0 x1 x2
      have HB : Hid (Below w.heap.size w (((w1.setCell ⟨w.heap.size + 1, 0, none⟩ (.int .i64 0)).setCell ⟨w.heap.size + 1, 1, none⟩ (.int .i64 0)).setCell ⟨w.heap.size + 1, 2, none⟩ (.string ⟨#[]⟩))) := ((hB1.setCell (Nat.le_succ _) _).setCell (Nat.le_succ _) _).setCell (Nat.le_succ _) _
      go_wp2
      exact bodyPost_ret (v := .tuple #[.agg #[.int .i64 0, .int .i64 0, .string ⟨#[]⟩], .int .i64 0, .bool false]) (by simp [results, Try.results21, go_sem, hgs]) rfl ⟨rfl, HB.out⟩
    by_cases h1 : (n : Int) < p
    · rw [getP_out (Or.inr h1)]
      go_enter Try.func21, Try.ntmps21
      go_wp2_with fail
      refine (specPartOk_any c t nul d _).mono ?_
      rw [hok]
      rintro e w1 ⟨rfl, hb1⟩
      have hP1 := hP.below hb1
      have hR1 := hR.below hb1
      have hv1 := hv.below (hb0.trans (hb1.mono hb0.size))
      have hB1 := hb0.trans (hb1.mono hb0.size)
      clear hP hR hb0 hb1
      obtain ⟨p0, p1, p2, p3⟩ := hP1.cells
      obtain ⟨x0, x1, x2⟩ := hR1.cells
      obtain ⟨r0, r1, r2⟩ := hR1.frozen
      have hgs := stored3 (.int .i64 0) (.int .i64 0) (.string ⟨#[]⟩) x0 x1 x2
      have HB : Hid (Below w.heap.size w (((w1.setCell ⟨w.heap.size + 1, 0, none⟩ (.int .i64 0)).setCell ⟨w.heap.size + 1, 1, none⟩ (.int .i64 0)).setCell ⟨w.heap.size + 1, 2, none⟩ (.string ⟨#[]⟩))) := ((hB1.setCell (Nat.le_succ _) _).setCell (Nat.le_succ _) _).setCell (Nat.le_succ _) _
      go_wp2
      exact bodyPost_ret (v := .tuple #[.agg #[.int .i64 0, .int .i64 0, .string ⟨#[]⟩], .int .i64 0, .bool false]) (by simp [results, Try.results21, go_sem, hgs]) rfl ⟨rfl, HB.out⟩
    replace h0 : 0 ≤ p := by omega
    replace h1 : p ≤ n := by omega
    cases d with
    | false =>
      cases nul with
      | false =>
        go_enter Try.func21, Try.ntmps21
        go_wp2_with fail
        refine (specPartOk_any c t false false _).mono ?_
        rw [hok]
        rintro e w1 ⟨rfl, hb1⟩
        have hP1 := hP.below hb1
        have hR1 := hR.below hb1
        have hv1 := hv.below (hb0.trans (hb1.mono hb0.size))
        have hB1 := hb0.trans (hb1.mono hb0.size)
        clear hP hR hb0 hb1
        obtain ⟨p0, p1, p2, p3⟩ := hP1.cells
        have hx1 : View w1 (some ⟨b, off, none⟩) n cap (turned false f) := hv1
        clear hv1
        obtain ⟨k, y, s, q, ok, hr⟩ : ∃ k y s q ok, Hid (rawT n (turned false f) t p = ⟨k, y, s, q, ok⟩) := ⟨_, _, _, _, _, rfl⟩
        go_wp2_with fail
        clear p0 p1 p2 p3
        refine (l5Get_is b off n cap (turned false f) t p w1 k y s q ok hr hx1 hn ht (by omega)).mono ?_
        rintro e w3 ⟨rfl, hb3⟩
        have hR3 := hR1.below hb3
        have hB3 := hB1.trans (hb3.mono hB1.size)
        have hlt3 : w.heap.size + 1 < w3.heap.size := hR3.lt
        have hbV : Below w3.heap.size w3 (w3.alloc (.cells #[.int .i64 k, .int .i64 y, .string s] 38)) := (Below.refl _ _).alloc (Nat.le_refl _) _
        have hR4 := hR3.below hbV
        have hV4 := Box.new w3 k y s
        have hB4 := hB3.trans (hbV.mono hB3.size)
        clear hb3 hR1 hP1 hB1
        cases ok with
        | false =>
          have HG : Hid (getP n f c t false false p = .no) := by
            show _ = _
            rw [getP_in hok h0 h1]
            rw [getN_no]
            unfold getT
            rw [hr.out]
            rfl
          obtain ⟨x0, x1, x2⟩ := hR3.cells
          obtain ⟨r0, r1, r2⟩ := hR3.frozen
          have hgs := stored3A (.int .i64 0) (.int .i64 0) (.string ⟨#[]⟩) x0 x1 x2 hR3.lt (.cells #[.int .i64 k, .int .i64 y, .string s] 38)
          have HB : Hid (Below w.heap.size w ((((w3.setCell ⟨w.heap.size + 1, 0, none⟩ (.int .i64 0)).setCell ⟨w.heap.size + 1, 1, none⟩ (.int .i64 0)).setCell ⟨w.heap.size + 1, 2, none⟩ (.string ⟨#[]⟩)).alloc (.cells #[.int .i64 k, .int .i64 y, .string s] 38))) := (((hB3.setCell (Nat.le_succ _) _).setCell (Nat.le_succ _) _).setCell (Nat.le_succ _) _).alloc (by simpa using hB3.size) _
          clear hR3 hB3 hR4 hV4 hB4 hbV hr
          go_wp2
          exact bodyPost_ret (v := .tuple #[.agg #[.int .i64 0, .int .i64 0, .string ⟨#[]⟩], .int .i64 0, .bool false]) (by simp [results, Try.results21, go_sem, hgs]) rfl ⟨by rw [HG.out]; rfl, HB.out⟩
        | true =>
          clear hR3 hB3
          have hss : s.size ≤ n := rawT_small (turned_bd hFb.out) ht hr.out
          obtain ⟨v0, v1, v2⟩ := hV4.cells
          go_wp2_with fail
          clear v0 v1 v2
          refine (specValOk_any k y s _ (by omega)).mono ?_
          obtain ⟨o, ho⟩ : ∃ o, Hid (okF k y s = o) := ⟨_, rfl⟩
          rw [ho.out]
          rintro e w5 ⟨rfl, hb5⟩
          have hR5 := hR4.below hb5
          have hV5 := hV4.below hb5
          have hB5 := hB4.trans (hb5.mono hB4.size)
          clear hR4 hV4 hB4 hb5 hbV
          obtain ⟨v0, v1, v2⟩ := hV5.cells
          cases o with
          | false =>
            have HG : Hid (getP n f c t false false p = .no) := by
              show _ = _
              rw [getP_in hok h0 h1]
              rw [getN_no]
              unfold getT
              rw [hr.out]
              unfold Got.chk
              rw [ho.out]
              try rfl
            obtain ⟨x0, x1, x2⟩ := hR5.cells
            obtain ⟨r0, r1, r2⟩ := hR5.frozen
            have hgs := stored3 (.int .i64 0) (.int .i64 0) (.string ⟨#[]⟩) x0 x1 x2
            have HB : Hid (Below w.heap.size w (((w5.setCell ⟨w.heap.size + 1, 0, none⟩ (.int .i64 0)).setCell ⟨w.heap.size + 1, 1, none⟩ (.int .i64 0)).setCell ⟨w.heap.size + 1, 2, none⟩ (.string ⟨#[]⟩))) := ((hB5.setCell (Nat.le_succ _) _).setCell (Nat.le_succ _) _).setCell (Nat.le_succ _) _
            clear hR5 hV5 hB5 hr ho
            go_wp2
            exact bodyPost_ret (v := .tuple #[.agg #[.int .i64 0, .int .i64 0, .string ⟨#[]⟩], .int .i64 0, .bool false]) (by simp [results, Try.results21, go_sem, hgs]) rfl ⟨by rw [HG.out]; rfl, HB.out⟩
          | true =>
            have HG : Hid (getP n f c t false false p = ⟨k, y, s, q, true⟩) := by
              show _ = _
              rw [getP_in hok h0 h1]
              rw [getN_no]
              unfold getT
              rw [hr.out]
              unfold Got.chk
              rw [ho.out]
              try rfl
            obtain ⟨x0, x1, x2⟩ := hR5.cells
            obtain ⟨r0, r1, r2⟩ := hR5.frozen
            have hgs := stored3 (.int .i64 k) (.int .i64 y) (.string s) x0 x1 x2
            have HB : Hid (Below w.heap.size w (((w5.setCell ⟨w.heap.size + 1, 0, none⟩ (.int .i64 k)).setCell ⟨w.heap.size + 1, 1, none⟩ (.int .i64 y)).setCell ⟨w.heap.size + 1, 2, none⟩ (.string s))) := ((hB5.setCell (Nat.le_succ _) _).setCell (Nat.le_succ _) _).setCell (Nat.le_succ _) _
            clear hR5 hV5 hB5 hr ho
            go_wp2
            exact bodyPost_ret (v := .tuple #[.agg #[.int .i64 k, .int .i64 y, .string s], .int .i64 q, .bool true]) (by simp [results, Try.results21, go_sem, hgs]) rfl ⟨by rw [HG.out]; rfl, HB.out⟩
      | true =>
        go_enter Try.func21, Try.ntmps21
        go_wp2_with fail
        refine (specPartOk_any c t true false _).mono ?_
        rw [hok]
        rintro e w1 ⟨rfl, hb1⟩
        have hP1 := hP.below hb1
        have hR1 := hR.below hb1
        have hv1 := hv.below (hb0.trans (hb1.mono hb0.size))
        have hB1 := hb0.trans (hb1.mono hb0.size)
        clear hP hR hb0 hb1
        obtain ⟨p0, p1, p2, p3⟩ := hP1.cells
        have hx1 : View w1 (some ⟨b, off, none⟩) n cap (turned false f) := hv1
        clear hv1
        obtain ⟨i, rfl⟩ := Int.eq_ofNat_of_zero_le h0
        by_cases hend : i = n
        · subst hend
          have HG : Hid (getP i f c t true false (i : Int) = .no) := by
            show _ = _
            rw [getP_in hok h0 h1, getN_end]
          have q9 : ((i : Int) == (i : Int)) = true := by simp
          obtain ⟨x0, x1, x2⟩ := hR1.cells
          obtain ⟨r0, r1, r2⟩ := hR1.frozen
          have hgs := stored3 (.int .i64 0) (.int .i64 0) (.string ⟨#[]⟩) x0 x1 x2
          have HB : Hid (Below w.heap.size w (((w1.setCell ⟨w.heap.size + 1, 0, none⟩ (.int .i64 0)).setCell ⟨w.heap.size + 1, 1, none⟩ (.int .i64 0)).setCell ⟨w.heap.size + 1, 2, none⟩ (.string ⟨#[]⟩))) := ((hB1.setCell (Nat.le_succ _) _).setCell (Nat.le_succ _) _).setCell (Nat.le_succ _) _
          go_wp2
          exact bodyPost_ret (v := .tuple #[.agg #[.int .i64 0, .int .i64 0, .string ⟨#[]⟩], .int .i64 0, .bool false]) (by simp [results, Try.results21, go_sem, hgs]) rfl ⟨by rw [HG.out]; rfl, HB.out⟩
        have hin : i < n := by omega
        have hiz : (i : Int) < (n : Int) := by omega
        have q9 : ((i : Int) == (n : Int)) = false := by simp; omega
        have hbi := turned_bd (d := false) hFb.out i hin
        have hci := view_at hx1 hin
        by_cases hbig : 1 < turned false f i
        · have HG : Hid (getP n f c t true false (i : Int) = .no) := by
            show _ = _
            rw [getP_in hok h0 h1, getN_big hbig]
          obtain ⟨x0, x1, x2⟩ := hR1.cells
          obtain ⟨r0, r1, r2⟩ := hR1.frozen
          have hgs := stored3 (.int .i64 0) (.int .i64 0) (.string ⟨#[]⟩) x0 x1 x2
          have HB : Hid (Below w.heap.size w (((w1.setCell ⟨w.heap.size + 1, 0, none⟩ (.int .i64 0)).setCell ⟨w.heap.size + 1, 1, none⟩ (.int .i64 0)).setCell ⟨w.heap.size + 1, 2, none⟩ (.string ⟨#[]⟩))) := ((hB1.setCell (Nat.le_succ _) _).setCell (Nat.le_succ _) _).setCell (Nat.le_succ _) _
          go_wp2
          exact bodyPost_ret (v := .tuple #[.agg #[.int .i64 0, .int .i64 0, .string ⟨#[]⟩], .int .i64 0, .bool false]) (by simp [results, Try.results21, go_sem, hgs]) rfl ⟨by rw [HG.out]; rfl, HB.out⟩
        by_cases hzero : turned false f i = 0
        · have HG : Hid (getP n f c t true false (i : Int) = ⟨0, 0, noBytes, (i : Int) + 1, true⟩) := by
            show _ = _
            rw [getP_in hok h0 h1, getN_zero hin hzero]
          rw [hzero] at hci
          clear hbi hbig
          obtain ⟨x0, x1, x2⟩ := hR1.cells
          obtain ⟨r0, r1, r2⟩ := hR1.frozen
          have hgs := stored3 (.int .i64 0) (.int .i64 0) (.string ⟨#[]⟩) x0 x1 x2
          have HB : Hid (Below w.heap.size w (((w1.setCell ⟨w.heap.size + 1, 0, none⟩ (.int .i64 0)).setCell ⟨w.heap.size + 1, 1, none⟩ (.int .i64 0)).setCell ⟨w.heap.size + 1, 2, none⟩ (.string ⟨#[]⟩))) := ((hB1.setCell (Nat.le_succ _) _).setCell (Nat.le_succ _) _).setCell (Nat.le_succ _) _
          go_wp2
          exact bodyPost_ret (v := .tuple #[.agg #[.int .i64 0, .int .i64 0, .string ⟨#[]⟩], .int .i64 ((i : Int) + 1), .bool true]) (by simp [results, Try.results21, go_sem, hgs]) rfl ⟨by rw [HG.out]; rfl, HB.out⟩
        have hone : turned false f i = 1 := by omega
        rw [hone] at hci
        clear hbig hzero hbi
        obtain ⟨k, y, s, q, ok, hr⟩ : ∃ k y s q ok, Hid (rawT n (turned false f) t ((i : Int) + 1) = ⟨k, y, s, q, ok⟩) := ⟨_, _, _, _, _, rfl⟩
        go_wp2_with fail
        clear p0 p1 p2 p3
        refine (l5Get_is b off n cap (turned false f) t ((i : Int) + 1) w1 k y s q ok hr hx1 hn ht (by omega)).mono ?_
        rintro e w3 ⟨rfl, hb3⟩
        have hR3 := hR1.below hb3
        have hB3 := hB1.trans (hb3.mono hB1.size)
        have hlt3 : w.heap.size + 1 < w3.heap.size := hR3.lt
        have hbV : Below w3.heap.size w3 (w3.alloc (.cells #[.int .i64 k, .int .i64 y, .string s] 38)) := (Below.refl _ _).alloc (Nat.le_refl _) _
        have hR4 := hR3.below hbV
        have hV4 := Box.new w3 k y s
        have hB4 := hB3.trans (hbV.mono hB3.size)
        clear hb3 hR1 hP1 hB1
        cases ok with
        | false =>
          have HG : Hid (getP n f c t true false (i : Int) = .no) := by
            show _ = _
            rw [getP_in hok h0 h1]
            rw [getN_one hin hone]
            unfold getT
            rw [hr.out]
            rfl
          obtain ⟨x0, x1, x2⟩ := hR3.cells
          obtain ⟨r0, r1, r2⟩ := hR3.frozen
          have hgs := stored3A (.int .i64 0) (.int .i64 0) (.string ⟨#[]⟩) x0 x1 x2 hR3.lt (.cells #[.int .i64 k, .int .i64 y, .string s] 38)
          have HB : Hid (Below w.heap.size w ((((w3.setCell ⟨w.heap.size + 1, 0, none⟩ (.int .i64 0)).setCell ⟨w.heap.size + 1, 1, none⟩ (.int .i64 0)).setCell ⟨w.heap.size + 1, 2, none⟩ (.string ⟨#[]⟩)).alloc (.cells #[.int .i64 k, .int .i64 y, .string s] 38))) := (((hB3.setCell (Nat.le_succ _) _).setCell (Nat.le_succ _) _).setCell (Nat.le_succ _) _).alloc (by simpa using hB3.size) _
          clear hR3 hB3 hR4 hV4 hB4 hbV hr
          go_wp2
          exact bodyPost_ret (v := .tuple #[.agg #[.int .i64 0, .int .i64 0, .string ⟨#[]⟩], .int .i64 0, .bool false]) (by simp [results, Try.results21, go_sem, hgs]) rfl ⟨by rw [HG.out]; rfl, HB.out⟩
        | true =>
          clear hR3 hB3
          have hss : s.size ≤ n := rawT_small (turned_bd hFb.out) ht hr.out
          obtain ⟨v0, v1, v2⟩ := hV4.cells
          go_wp2_with fail
          clear v0 v1 v2
          refine (specValOk_any k y s _ (by omega)).mono ?_
          obtain ⟨o, ho⟩ : ∃ o, Hid (okF k y s = o) := ⟨_, rfl⟩
          rw [ho.out]
          rintro e w5 ⟨rfl, hb5⟩
          have hR5 := hR4.below hb5
          have hV5 := hV4.below hb5
          have hB5 := hB4.trans (hb5.mono hB4.size)
          clear hR4 hV4 hB4 hb5 hbV
          obtain ⟨v0, v1, v2⟩ := hV5.cells
          cases o with
          | false =>
            have HG : Hid (getP n f c t true false (i : Int) = .no) := by
              show _ = _
              rw [getP_in hok h0 h1]
              rw [getN_one hin hone]
              unfold getT
              rw [hr.out]
              unfold Got.chk
              rw [ho.out]
              try rfl
            obtain ⟨x0, x1, x2⟩ := hR5.cells
            obtain ⟨r0, r1, r2⟩ := hR5.frozen
            have hgs := stored3 (.int .i64 0) (.int .i64 0) (.string ⟨#[]⟩) x0 x1 x2
            have HB : Hid (Below w.heap.size w (((w5.setCell ⟨w.heap.size + 1, 0, none⟩ (.int .i64 0)).setCell ⟨w.heap.size + 1, 1, none⟩ (.int .i64 0)).setCell ⟨w.heap.size + 1, 2, none⟩ (.string ⟨#[]⟩))) := ((hB5.setCell (Nat.le_succ _) _).setCell (Nat.le_succ _) _).setCell (Nat.le_succ _) _
            clear hR5 hV5 hB5 hr ho
            go_wp2
            exact bodyPost_ret (v := .tuple #[.agg #[.int .i64 0, .int .i64 0, .string ⟨#[]⟩], .int .i64 0, .bool false]) (by simp [results, Try.results21, go_sem, hgs]) rfl ⟨by rw [HG.out]; rfl, HB.out⟩
          | true =>
            have HG : Hid (getP n f c t true false (i : Int) = ⟨k, y, s, q, true⟩) := by
              show _ = _
              rw [getP_in hok h0 h1]
              rw [getN_one hin hone]
              unfold getT
              rw [hr.out]
              unfold Got.chk
              rw [ho.out]
              try rfl
            obtain ⟨x0, x1, x2⟩ := hR5.cells
            obtain ⟨r0, r1, r2⟩ := hR5.frozen
            have hgs := stored3 (.int .i64 k) (.int .i64 y) (.string s) x0 x1 x2
            have HB : Hid (Below w.heap.size w (((w5.setCell ⟨w.heap.size + 1, 0, none⟩ (.int .i64 k)).setCell ⟨w.heap.size + 1, 1, none⟩ (.int .i64 y)).setCell ⟨w.heap.size + 1, 2, none⟩ (.string s))) := ((hB5.setCell (Nat.le_succ _) _).setCell (Nat.le_succ _) _).setCell (Nat.le_succ _) _
            clear hR5 hV5 hB5 hr ho
            go_wp2
            exact bodyPost_ret (v := .tuple #[.agg #[.int .i64 k, .int .i64 y, .string s], .int .i64 q, .bool true]) (by simp [results, Try.results21, go_sem, hgs]) rfl ⟨by rw [HG.out]; rfl, HB.out⟩
    | true =>
      cases nul with
      | false =>
        go_enter Try.func21, Try.ntmps21
        go_wp2_with fail
        refine (specPartOk_any c t false true _).mono ?_
        rw [hok]
        rintro e w1 ⟨rfl, hb1⟩
        have hP1 := hP.below hb1
        have hR1 := hR.below hb1
        have hv1 := hv.below (hb0.trans (hb1.mono hb0.size))
        have hB1 := hb0.trans (hb1.mono hb0.size)
        clear hP hR hb0 hb1
        obtain ⟨p0, p1, p2, p3⟩ := hP1.cells
        go_wp2_with fail
        refine (flip_own b off n cap f 0 w1 hv1 (by omega)).mono ?_
        rintro e w2 ⟨gx, cx, rfl, hgx, hrx, hb2⟩
        have hx2 : View w2 (some ⟨gx, 0, none⟩) n cx (turned true f) := (hrx.row.view (by obtain ⟨_, _, _, h3, _, _⟩ := hrx; exact h3) (flipF_byte 0 hv1.byte)).congr (fun i _ => by unfold flipF turned; rw [if_pos (by omega)]; rfl)
        have hP2 := hP1.below hb2
        have hR2 := hR1.below hb2
        have hB2 := hB1.trans (hb2.mono hB1.size)
        clear hP1 hR1 hv1 hB1 hb2 hrx p0 p1 p2 p3
        obtain ⟨p0, p1, p2, p3⟩ := hP2.cells
        obtain ⟨k, y, s, q, ok, hr⟩ : ∃ k y s q ok, Hid (rawT n (turned true f) t p = ⟨k, y, s, q, ok⟩) := ⟨_, _, _, _, _, rfl⟩
        go_wp2_with fail
        clear p0 p1 p2 p3
        refine (l5Get_is gx 0 n cx (turned true f) t p w2 k y s q ok hr hx2 hn ht (by omega)).mono ?_
        rintro e w3 ⟨rfl, hb3⟩
        have hR3 := hR2.below hb3
        have hB3 := hB2.trans (hb3.mono hB2.size)
        have hlt3 : w.heap.size + 1 < w3.heap.size := hR3.lt
        have hbV : Below w3.heap.size w3 (w3.alloc (.cells #[.int .i64 k, .int .i64 y, .string s] 38)) := (Below.refl _ _).alloc (Nat.le_refl _) _
        have hR4 := hR3.below hbV
        have hV4 := Box.new w3 k y s
        have hB4 := hB3.trans (hbV.mono hB3.size)
        clear hb3 hR2 hP2 hB2
        cases ok with
        | false =>
          have HG : Hid (getP n f c t false true p = .no) := by
            show _ = _
            rw [getP_in hok h0 h1]
            rw [getN_no]
            unfold getT
            rw [hr.out]
            rfl
          obtain ⟨x0, x1, x2⟩ := hR3.cells
          obtain ⟨r0, r1, r2⟩ := hR3.frozen
          have hgs := stored3A (.int .i64 0) (.int .i64 0) (.string ⟨#[]⟩) x0 x1 x2 hR3.lt (.cells #[.int .i64 k, .int .i64 y, .string s] 38)
          have HB : Hid (Below w.heap.size w ((((w3.setCell ⟨w.heap.size + 1, 0, none⟩ (.int .i64 0)).setCell ⟨w.heap.size + 1, 1, none⟩ (.int .i64 0)).setCell ⟨w.heap.size + 1, 2, none⟩ (.string ⟨#[]⟩)).alloc (.cells #[.int .i64 k, .int .i64 y, .string s] 38))) := (((hB3.setCell (Nat.le_succ _) _).setCell (Nat.le_succ _) _).setCell (Nat.le_succ _) _).alloc (by simpa using hB3.size) _
          clear hR3 hB3 hR4 hV4 hB4 hbV hr
          go_wp2
          exact bodyPost_ret (v := .tuple #[.agg #[.int .i64 0, .int .i64 0, .string ⟨#[]⟩], .int .i64 0, .bool false]) (by simp [results, Try.results21, go_sem, hgs]) rfl ⟨by rw [HG.out]; rfl, HB.out⟩
        | true =>
          clear hR3 hB3
          have hss : s.size ≤ n := rawT_small (turned_bd hFb.out) ht hr.out
          obtain ⟨v0, v1, v2⟩ := hV4.cells
          go_wp2_with fail
          clear v0 v1 v2
          refine (specValOk_any k y s _ (by omega)).mono ?_
          obtain ⟨o, ho⟩ : ∃ o, Hid (okF k y s = o) := ⟨_, rfl⟩
          rw [ho.out]
          rintro e w5 ⟨rfl, hb5⟩
          have hR5 := hR4.below hb5
          have hV5 := hV4.below hb5
          have hB5 := hB4.trans (hb5.mono hB4.size)
          clear hR4 hV4 hB4 hb5 hbV
          obtain ⟨v0, v1, v2⟩ := hV5.cells
          cases o with
          | false =>
            have HG : Hid (getP n f c t false true p = .no) := by
              show _ = _
              rw [getP_in hok h0 h1]
              rw [getN_no]
              unfold getT
              rw [hr.out]
              unfold Got.chk
              rw [ho.out]
              try rfl
            obtain ⟨x0, x1, x2⟩ := hR5.cells
            obtain ⟨r0, r1, r2⟩ := hR5.frozen
            have hgs := stored3 (.int .i64 0) (.int .i64 0) (.string ⟨#[]⟩) x0 x1 x2
            have HB : Hid (Below w.heap.size w (((w5.setCell ⟨w.heap.size + 1, 0, none⟩ (.int .i64 0)).setCell ⟨w.heap.size + 1, 1, none⟩ (.int .i64 0)).setCell ⟨w.heap.size + 1, 2, none⟩ (.string ⟨#[]⟩))) := ((hB5.setCell (Nat.le_succ _) _).setCell (Nat.le_succ _) _).setCell (Nat.le_succ _) _
            clear hR5 hV5 hB5 hr ho
            go_wp2
            exact bodyPost_ret (v := .tuple #[.agg #[.int .i64 0, .int .i64 0, .string ⟨#[]⟩], .int .i64 0, .bool false]) (by simp [results, Try.results21, go_sem, hgs]) rfl ⟨by rw [HG.out]; rfl, HB.out⟩
          | true =>
            have HG : Hid (getP n f c t false true p = ⟨k, y, s, q, true⟩) := by
              show _ = _
              rw [getP_in hok h0 h1]
              rw [getN_no]
              unfold getT
              rw [hr.out]
              unfold Got.chk
              rw [ho.out]
              try rfl
            obtain ⟨x0, x1, x2⟩ := hR5.cells
            obtain ⟨r0, r1, r2⟩ := hR5.frozen
            have hgs := stored3 (.int .i64 k) (.int .i64 y) (.string s) x0 x1 x2
            have HB : Hid (Below w.heap.size w (((w5.setCell ⟨w.heap.size + 1, 0, none⟩ (.int .i64 k)).setCell ⟨w.heap.size + 1, 1, none⟩ (.int .i64 y)).setCell ⟨w.heap.size + 1, 2, none⟩ (.string s))) := ((hB5.setCell (Nat.le_succ _) _).setCell (Nat.le_succ _) _).setCell (Nat.le_succ _) _
            clear hR5 hV5 hB5 hr ho
            go_wp2
            exact bodyPost_ret (v := .tuple #[.agg #[.int .i64 k, .int .i64 y, .string s], .int .i64 q, .bool true]) (by simp [results, Try.results21, go_sem, hgs]) rfl ⟨by rw [HG.out]; rfl, HB.out⟩
      | true =>
        go_enter Try.func21, Try.ntmps21
        go_wp2_with fail
        refine (specPartOk_any c t true true _).mono ?_
        rw [hok]
        rintro e w1 ⟨rfl, hb1⟩
        have hP1 := hP.below hb1
        have hR1 := hR.below hb1
        have hv1 := hv.below (hb0.trans (hb1.mono hb0.size))
        have hB1 := hb0.trans (hb1.mono hb0.size)
        clear hP hR hb0 hb1
        obtain ⟨p0, p1, p2, p3⟩ := hP1.cells
        go_wp2_with fail
        refine (flip_own b off n cap f 0 w1 hv1 (by omega)).mono ?_
        rintro e w2 ⟨gx, cx, rfl, hgx, hrx, hb2⟩
        have hx2 : View w2 (some ⟨gx, 0, none⟩) n cx (turned true f) := (hrx.row.view (by obtain ⟨_, _, _, h3, _, _⟩ := hrx; exact h3) (flipF_byte 0 hv1.byte)).congr (fun i _ => by unfold flipF turned; rw [if_pos (by omega)]; rfl)
        have hP2 := hP1.below hb2
        have hR2 := hR1.below hb2
        have hB2 := hB1.trans (hb2.mono hB1.size)
        clear hP1 hR1 hv1 hB1 hb2 hrx p0 p1 p2 p3
        obtain ⟨p0, p1, p2, p3⟩ := hP2.cells
        obtain ⟨i, rfl⟩ := Int.eq_ofNat_of_zero_le h0
        by_cases hend : i = n
        · subst hend
          have HG : Hid (getP i f c t true true (i : Int) = .no) := by
            show _ = _
            rw [getP_in hok h0 h1, getN_end]
          have q9 : ((i : Int) == (i : Int)) = true := by simp
          obtain ⟨x0, x1, x2⟩ := hR2.cells
          obtain ⟨r0, r1, r2⟩ := hR2.frozen
          have hgs := stored3 (.int .i64 0) (.int .i64 0) (.string ⟨#[]⟩) x0 x1 x2
          have HB : Hid (Below w.heap.size w (((w2.setCell ⟨w.heap.size + 1, 0, none⟩ (.int .i64 0)).setCell ⟨w.heap.size + 1, 1, none⟩ (.int .i64 0)).setCell ⟨w.heap.size + 1, 2, none⟩ (.string ⟨#[]⟩))) := ((hB2.setCell (Nat.le_succ _) _).setCell (Nat.le_succ _) _).setCell (Nat.le_succ _) _
          go_wp2
          exact bodyPost_ret (v := .tuple #[.agg #[.int .i64 0, .int .i64 0, .string ⟨#[]⟩], .int .i64 0, .bool false]) (by simp [results, Try.results21, go_sem, hgs]) rfl ⟨by rw [HG.out]; rfl, HB.out⟩
        have hin : i < n := by omega
        have hiz : (i : Int) < (n : Int) := by omega
        have q9 : ((i : Int) == (n : Int)) = false := by simp; omega
        have hbi := turned_bd (d := true) hFb.out i hin
        have hci := view_at hx2 hin
        rw [Nat.zero_add] at hci
        by_cases hbig : 1 < turned true f i
        · have HG : Hid (getP n f c t true true (i : Int) = .no) := by
            show _ = _
            rw [getP_in hok h0 h1, getN_big hbig]
          obtain ⟨x0, x1, x2⟩ := hR2.cells
          obtain ⟨r0, r1, r2⟩ := hR2.frozen
          have hgs := stored3 (.int .i64 0) (.int .i64 0) (.string ⟨#[]⟩) x0 x1 x2
          have HB : Hid (Below w.heap.size w (((w2.setCell ⟨w.heap.size + 1, 0, none⟩ (.int .i64 0)).setCell ⟨w.heap.size + 1, 1, none⟩ (.int .i64 0)).setCell ⟨w.heap.size + 1, 2, none⟩ (.string ⟨#[]⟩))) := ((hB2.setCell (Nat.le_succ _) _).setCell (Nat.le_succ _) _).setCell (Nat.le_succ _) _
          go_wp2
          exact bodyPost_ret (v := .tuple #[.agg #[.int .i64 0, .int .i64 0, .string ⟨#[]⟩], .int .i64 0, .bool false]) (by simp [results, Try.results21, go_sem, hgs]) rfl ⟨by rw [HG.out]; rfl, HB.out⟩
        by_cases hzero : turned true f i = 0
        · have HG : Hid (getP n f c t true true (i : Int) = ⟨0, 0, noBytes, (i : Int) + 1, true⟩) := by
            show _ = _
            rw [getP_in hok h0 h1, getN_zero hin hzero]
          rw [hzero] at hci
          clear hbi hbig
          obtain ⟨x0, x1, x2⟩ := hR2.cells
          obtain ⟨r0, r1, r2⟩ := hR2.frozen
          have hgs := stored3 (.int .i64 0) (.int .i64 0) (.string ⟨#[]⟩) x0 x1 x2
          have HB : Hid (Below w.heap.size w (((w2.setCell ⟨w.heap.size + 1, 0, none⟩ (.int .i64 0)).setCell ⟨w.heap.size + 1, 1, none⟩ (.int .i64 0)).setCell ⟨w.heap.size + 1, 2, none⟩ (.string ⟨#[]⟩))) := ((hB2.setCell (Nat.le_succ _) _).setCell (Nat.le_succ _) _).setCell (Nat.le_succ _) _
          go_wp2
          exact bodyPost_ret (v := .tuple #[.agg #[.int .i64 0, .int .i64 0, .string ⟨#[]⟩], .int .i64 ((i : Int) + 1), .bool true]) (by simp [results, Try.results21, go_sem, hgs]) rfl ⟨by rw [HG.out]; rfl, HB.out⟩
        have hone : turned true f i = 1 := by omega
        rw [hone] at hci
        clear hbig hzero hbi
        obtain ⟨k, y, s, q, ok, hr⟩ : ∃ k y s q ok, Hid (rawT n (turned true f) t ((i : Int) + 1) = ⟨k, y, s, q, ok⟩) := ⟨_, _, _, _, _, rfl⟩
        go_wp2_with fail
        clear p0 p1 p2 p3
        refine (l5Get_is gx 0 n cx (turned true f) t ((i : Int) + 1) w2 k y s q ok hr hx2 hn ht (by omega)).mono ?_
        rintro e w3 ⟨rfl, hb3⟩
        have hR3 := hR2.below hb3
        have hB3 := hB2.trans (hb3.mono hB2.size)
        have hlt3 : w.heap.size + 1 < w3.heap.size := hR3.lt
        have hbV : Below w3.heap.size w3 (w3.alloc (.cells #[.int .i64 k, .int .i64 y, .string s] 38)) := (Below.refl _ _).alloc (Nat.le_refl _) _
        have hR4 := hR3.below hbV
        have hV4 := Box.new w3 k y s
        have hB4 := hB3.trans (hbV.mono hB3.size)
        clear hb3 hR2 hP2 hB2
        cases ok with
        | false =>
          have HG : Hid (getP n f c t true true (i : Int) = .no) := by
            show _ = _
            rw [getP_in hok h0 h1]
            rw [getN_one hin hone]
            unfold getT
            rw [hr.out]
            rfl
          obtain ⟨x0, x1, x2⟩ := hR3.cells
          obtain ⟨r0, r1, r2⟩ := hR3.frozen
          have hgs := stored3A (.int .i64 0) (.int .i64 0) (.string ⟨#[]⟩) x0 x1 x2 hR3.lt (.cells #[.int .i64 k, .int .i64 y, .string s] 38)
          have HB : Hid (Below w.heap.size w ((((w3.setCell ⟨w.heap.size + 1, 0, none⟩ (.int .i64 0)).setCell ⟨w.heap.size + 1, 1, none⟩ (.int .i64 0)).setCell ⟨w.heap.size + 1, 2, none⟩ (.string ⟨#[]⟩)).alloc (.cells #[.int .i64 k, .int .i64 y, .string s] 38))) := (((hB3.setCell (Nat.le_succ _) _).setCell (Nat.le_succ _) _).setCell (Nat.le_succ _) _).alloc (by simpa using hB3.size) _
          clear hR3 hB3 hR4 hV4 hB4 hbV hr
          go_wp2
          exact bodyPost_ret (v := .tuple #[.agg #[.int .i64 0, .int .i64 0, .string ⟨#[]⟩], .int .i64 0, .bool false]) (by simp [results, Try.results21, go_sem, hgs]) rfl ⟨by rw [HG.out]; rfl, HB.out⟩
        | true =>
          clear hR3 hB3
          have hss : s.size ≤ n := rawT_small (turned_bd hFb.out) ht hr.out
          obtain ⟨v0, v1, v2⟩ := hV4.cells
          go_wp2_with fail
          clear v0 v1 v2
          refine (specValOk_any k y s _ (by omega)).mono ?_
          obtain ⟨o, ho⟩ : ∃ o, Hid (okF k y s = o) := ⟨_, rfl⟩
          rw [ho.out]
          rintro e w5 ⟨rfl, hb5⟩
          have hR5 := hR4.below hb5
          have hV5 := hV4.below hb5
          have hB5 := hB4.trans (hb5.mono hB4.size)
          clear hR4 hV4 hB4 hb5 hbV
          obtain ⟨v0, v1, v2⟩ := hV5.cells
          cases o with
          | false =>
            have HG : Hid (getP n f c t true true (i : Int) = .no) := by
              show _ = _
              rw [getP_in hok h0 h1]
              rw [getN_one hin hone]
              unfold getT
              rw [hr.out]
              unfold Got.chk
              rw [ho.out]
              try rfl
            obtain ⟨x0, x1, x2⟩ := hR5.cells
            obtain ⟨r0, r1, r2⟩ := hR5.frozen
            have hgs := stored3 (.int .i64 0) (.int .i64 0) (.string ⟨#[]⟩) x0 x1 x2
            have HB : Hid (Below w.heap.size w (((w5.setCell ⟨w.heap.size + 1, 0, none⟩ (.int .i64 0)).setCell ⟨w.heap.size + 1, 1, none⟩ (.int .i64 0)).setCell ⟨w.heap.size + 1, 2, none⟩ (.string ⟨#[]⟩))) := ((hB5.setCell (Nat.le_succ _) _).setCell (Nat.le_succ _) _).setCell (Nat.le_succ _) _
            clear hR5 hV5 hB5 hr ho
            go_wp2
            exact bodyPost_ret (v := .tuple #[.agg #[.int .i64 0, .int .i64 0, .string ⟨#[]⟩], .int .i64 0, .bool false]) (by simp [results, Try.results21, go_sem, hgs]) rfl ⟨by rw [HG.out]; rfl, HB.out⟩
          | true =>
            have HG : Hid (getP n f c t true true (i : Int) = ⟨k, y, s, q, true⟩) := by
              show _ = _
              rw [getP_in hok h0 h1]
              rw [getN_one hin hone]
              unfold getT
              rw [hr.out]
              unfold Got.chk
              rw [ho.out]
              try rfl
            obtain ⟨x0, x1, x2⟩ := hR5.cells
            obtain ⟨r0, r1, r2⟩ := hR5.frozen
            have hgs := stored3 (.int .i64 k) (.int .i64 y) (.string s) x0 x1 x2
            have HB : Hid (Below w.heap.size w (((w5.setCell ⟨w.heap.size + 1, 0, none⟩ (.int .i64 k)).setCell ⟨w.heap.size + 1, 1, none⟩ (.int .i64 y)).setCell ⟨w.heap.size + 1, 2, none⟩ (.string s))) := ((hB5.setCell (Nat.le_succ _) _).setCell (Nat.le_succ _) _).setCell (Nat.le_succ _) _
            clear hR5 hV5 hB5 hr ho
            go_wp2
            exact bodyPost_ret (v := .tuple #[.agg #[.int .i64 k, .int .i64 y, .string s], .int .i64 q, .bool true]) (by simp [results, Try.results21, go_sem, hgs]) rfl ⟨by rw [HG.out]; rfl, HB.out⟩
end Go.Proofs.Ytbcgonfihdpjnaq

/-
  The program's GetVar: a number of the kept ones, at every slice of bytes that reads and at every place.
-/
namespace Go.Proofs.Ytbcgonfihdpjnaq
open Go.RowKit
set_option maxRecDepth 4000

set_option maxHeartbeats 1000000 in
theorem varCount_any (h : Int) (w : World) (h0 : 0 ≤ h) (h1 : h ≤ 255) :
    Calls Try.prog 29 #[.int .u8 h] w fun e w' => e = .returned (.int .i64 (hcnt h : Int)) ∧ w = w' := by
  by_cases hl : h < 128
  · have e : (hcnt h : Int) = 127 - h := by unfold hcnt; rw [if_pos hl]; omega
    rw [e]
    have hx : bits .xor .u8 IntKind.u8.max h = 255 - h := u8_not _ h0 h1
    obtain ⟨y, hy⟩ : ∃ y, 255 - h = y := ⟨_, rfl⟩
    have hy0 : 0 ≤ y := by omega
    have hy1 : y ≤ 255 := by omega
    rw [show 127 - h = y - 128 by omega]
    rw [hy] at hx
    clear hy e
    go_enter Try.func29, Try.ntmps29
    go_wp2
    go_ret
    refine ⟨?_, rfl⟩
    show Ending.returned (.int .i64 (wrap64 (wrap64 y - 128))) = _
    rw [show wrap64 (wrap64 y - 128) = y - 128 by unfold wrap64; omega]
  · have e : (hcnt h : Int) = h - 128 := by unfold hcnt; rw [if_neg hl]; omega
    rw [e]
    go_enter Try.func29, Try.ntmps29
    go_wp2
    go_ret
    exact ⟨rfl, rfl⟩

theorem view_first {w : World} {b off n cap : Nat} {f : Nat → Int} (h : View w (some ⟨b, off, none⟩) n cap f) (h0 : 0 < n) : w.cell? ⟨b, off, none⟩ = some (.int .u8 (f 0)) := by
  obtain ⟨b', off', e, _, hc⟩ := h.cells h0
  cases e
  exact hc 0 h0

set_option maxHeartbeats 1000000 in
theorem getVar_impl {a q : Int} {ok : Bool} (b off n cap : Nat) (f : Nat → Int) (p : Int) (w : World) (hg : Hid (getV n f p = (a, q, ok))) (hv : View w (some ⟨b, off, none⟩) n cap f) (hn : n ≤ 70368744177664) (hp1 : p ≤ 9223372036854775807) :
    Calls Try.prog 10 #[.slice (some ⟨b, off, none⟩) n cap, .int .i64 p] w fun e w' => e = .returned (.tuple #[.int .i64 a, .int .i64 q, .bool ok]) ∧ Below w.heap.size w w' := by
  by_cases hp : p < 0
  · have e := hg.out
    rw [getV_out n f p (Or.inl hp)] at e
    obtain ⟨rfl, rfl, rfl⟩ : 0 = a ∧ 0 = q ∧ false = ok := by simpa using e
    clear hg e
    go_enter Try.func10, Try.ntmps10
    go_wp2
    go_ret3
    exact ⟨rfl, Below.refl _ _⟩
  by_cases h4 : (n : Int) ≤ p
  · have e := hg.out
    rw [getV_out n f p (Or.inr h4)] at e
    obtain ⟨rfl, rfl, rfl⟩ : 0 = a ∧ 0 = q ∧ false = ok := by simpa using e
    clear hg e
    go_enter Try.func10, Try.ntmps10
    go_wp2
    go_ret3
    exact ⟨rfl, Below.refl _ _⟩
  obtain ⟨i, rfl⟩ := Int.eq_ofNat_of_zero_le (Int.not_lt.1 hp)
  have hin : i < n := by omega
  have hle := hv.le
  have hb0 := hv.byte i hin
  have hzi : (i : Int) < (n : Int) := by omega
  obtain ⟨b', off', e', hbl, hcs⟩ := hv.cells (by omega)
  cases e'
  have hci := hcs i hin
  clear hcs
  obtain ⟨c, hc⟩ : ∃ c, Hid (hcnt (f i) = c) := ⟨_, rfl⟩
  by_cases hf : 7 < c ∨ n < i + 1 + c
  · have e := hg.out
    rw [getV_few n f i hin (by rw [hc.out]; exact hf)] at e
    obtain ⟨rfl, rfl, rfl⟩ : 0 = a ∧ 0 = q ∧ false = ok := by simpa using e
    clear hg e
    go_enter Try.func10, Try.ntmps10
    go_wp2_with fail
    refine (varCount_any (f i) w hb0.1 hb0.2).mono ?_
    rw [hc.out]
    rintro e _ ⟨rfl, rfl⟩
    by_cases h7 : 7 < c
    · clear hf
      have hz : (7 : Int) < (c : Int) := by omega
      go_wp2
      go_ret3
      exact ⟨rfl, Below.refl _ _⟩
    · have hz : (c : Int) ≤ 7 := by omega
      have hz2 : (n : Int) - (i : Int) - 1 < (c : Int) := by omega
      clear hf
      go_wp2
      go_ret3
      exact ⟨rfl, Below.refl _ _⟩
  have hc7 : (c : Int) ≤ 7 := by omega
  have hzc : (c : Int) ≤ (n : Int) - (i : Int) - 1 := by omega
  have hzn : (i : Int) + 1 + (c : Int) ≤ (n : Int) := by omega
  have hzc2 : (i : Int) + 1 + (c : Int) ≤ (cap : Int) := by omega
  by_cases hlow : f i < 128
  · have HD : Hid (digF f i = turnF true (fun j => f (i + 1 + j))) := by show _ = _; unfold digF; rw [decide_eq_true hlow]
    go_enter Try.func10, Try.ntmps10
    go_wp2_with fail
    refine (varCount_any (f i) w hb0.1 hb0.2).mono ?_
    rw [hc.out]
    rintro e _ ⟨rfl, rfl⟩
    by_cases hc0 : c = 0
    · subst hc0
      have hV : View w (some ⟨b, off, none⟩) 0 0 (fun j => f (i + 1 + j)) := ⟨Nat.le_refl _, fun j hj => absurd hj (Nat.not_lt_zero _), fun h => absurd h (Nat.lt_irrefl _)⟩
      go_wp2_with fail
      refine (flip_impl b off 0 0 _ 0 w hV (by omega) (by omega)).mono ?_
      rintro e w1 ⟨g, cg, rfl, hgn, hgc, hr, hB⟩
      have hV1 := hr.view hgc (flipF_byte 0 hV.byte)
      replace hV1 : View w1 (some ⟨g, 0, none⟩) 0 cg (digF f i) := hV1.congr (fun j _ => by rw [HD.out]; unfold flipF; rw [if_pos (by omega)]; rfl)
      clear hr hV hgn
      go_wp2_with fail
      refine (numberOf_any _ 0 cg _ w1 hV1 (by omega)).mono ?_
      rintro e _ ⟨rfl, rfl⟩
      have hvb := valF7 0 (digF f i) (by omega) hV1.byte
      have hx : numV f i = -1 := by unfold numV; rw [if_pos hlow, hc.out]; rfl
      have hvz : valF 0 (digF f i) = 0 := rfl
      clear hV1 hvb
      have hbad : ¬ badV f i := by unfold badV; rw [hx, hc.out]; omega
      have e := hg.out
      rw [getV_is n f i hin (by rw [hc.out]; exact hf) hbad, hc.out, hx] at e
      obtain ⟨rfl, rfl, rfl⟩ : -1 = a ∧ (i : Int) + 1 = q ∧ true = ok := by
        simp only [Prod.mk.injEq] at e
        exact ⟨e.1, by omega, e.2.2⟩
      clear hg e
      go_wp2
      go_ret3
      exact ⟨rfl, hB⟩
    ·
      have hV := hv.part (k := i + 1) (m := c) (by omega) c (Nat.le_refl _)
      go_wp2_with fail
      refine (flip_impl b (off + (i + 1)) c c _ 0 w hV (by omega) (by omega)).mono ?_
      rintro e w1 ⟨g, cg, rfl, hgn, hgc, hr, hB⟩
      have hV1 := hr.view hgc (flipF_byte 0 hV.byte)
      replace hV1 : View w1 (some ⟨g, 0, none⟩) c cg (digF f i) := hV1.congr (fun j _ => by rw [HD.out]; unfold flipF; rw [if_pos (by omega)]; rfl)
      clear hr hV hgn
      go_wp2_with fail
      refine (numberOf_any _ c cg _ w1 hV1 (by omega)).mono ?_
      rintro e _ ⟨rfl, rfl⟩
      have hvb := valF7 c (digF f i) (by omega) hV1.byte
      have hx : numV f i = -1 - valF c (digF f i) := by unfold numV; rw [if_pos hlow, hc.out]
      have hcd := view_first hV1 (by omega)
      have hdb := hV1.byte 0 (by omega)
      have hc0z : (0 : Int) < (c : Int) := by omega
      generalize valF c (digF f i) = v at *
      clear hV1
      by_cases hd0 : digF f i 0 = 0
      · have hbad : badV f i := by unfold badV; rw [hc.out]; exact Or.inl ⟨by omega, hd0⟩
        rw [hd0] at hcd
        have e := hg.out
        rw [getV_bad n f i hin (by rw [hc.out]; exact hf) hbad] at e
        obtain ⟨rfl, rfl, rfl⟩ : 0 = a ∧ 0 = q ∧ false = ok := by simpa using e
        clear hg e
        go_wp2
        go_ret3
        exact ⟨rfl, hB⟩
      · have hq0 : (digF f i 0 == 0) = false := by simpa using hd0
        by_cases hr : -1 - v < -1000000000000000 ∨ 1000000000000000 < -1 - v
        · have hbad : badV f i := by unfold badV; rw [hx]; exact Or.inr hr
          rcases hr with hr | hr
          · have e := hg.out
            rw [getV_bad n f i hin (by rw [hc.out]; exact hf) hbad] at e
            obtain ⟨rfl, rfl, rfl⟩ : 0 = a ∧ 0 = q ∧ false = ok := by simpa using e
            clear hg e
            go_wp2
            go_ret3
            exact ⟨rfl, hB⟩
          · omega
        · have hbad : ¬ badV f i := by unfold badV; rw [hx, hc.out]; omega
          have hr1 : -1000000000000000 ≤ -1 - v := by omega
          have hr2 : -1 - v ≤ 1000000000000000 := by omega
          clear hr
          have e := hg.out
          rw [getV_is n f i hin (by rw [hc.out]; exact hf) hbad, hc.out] at e
          simp only [Prod.mk.injEq] at e
          obtain ⟨ea, rfl, rfl⟩ := e
          rw [hx] at ea
          subst ea
          clear hg
          go_wp2
          go_ret3
          exact ⟨rfl, hB⟩
  · have HD : Hid (digF f i = turnF false (fun j => f (i + 1 + j))) := by show _ = _; unfold digF; rw [decide_eq_false hlow]
    go_enter Try.func10, Try.ntmps10
    go_wp2_with fail
    refine (varCount_any (f i) w hb0.1 hb0.2).mono ?_
    rw [hc.out]
    rintro e _ ⟨rfl, rfl⟩
    by_cases hc0 : c = 0
    · subst hc0
      have hV : View w (some ⟨b, off, none⟩) 0 0 (fun j => f (i + 1 + j)) := ⟨Nat.le_refl _, fun j hj => absurd hj (Nat.not_lt_zero _), fun h => absurd h (Nat.lt_irrefl _)⟩
      have hB : Below w.heap.size w w := Below.refl _ _
      have hV1 : View w (some ⟨b, off, none⟩) 0 0 (digF f i) := hV.congr (fun j _ => by rw [HD.out]; rfl)
      clear hV
      go_wp2_with fail
      refine (numberOf_any _ 0 0 _ w hV1 (by omega)).mono ?_
      rintro e _ ⟨rfl, rfl⟩
      have hvb := valF7 0 (digF f i) (by omega) hV1.byte
      have hx : numV f i = 0 := by unfold numV; rw [if_neg (by omega), hc.out]; rfl
      have hvz : valF 0 (digF f i) = 0 := rfl
      clear hV1 hvb
      have hbad : ¬ badV f i := by unfold badV; rw [hx, hc.out]; omega
      have e := hg.out
      rw [getV_is n f i hin (by rw [hc.out]; exact hf) hbad, hc.out, hx] at e
      obtain ⟨rfl, rfl, rfl⟩ : 0 = a ∧ (i : Int) + 1 = q ∧ true = ok := by
        simp only [Prod.mk.injEq] at e
        exact ⟨e.1, by omega, e.2.2⟩
      clear hg e
      go_wp2
      go_ret3
      exact ⟨rfl, hB⟩
    ·
      have hV := hv.part (k := i + 1) (m := c) (by omega) c (Nat.le_refl _)
      have hB : Below w.heap.size w w := Below.refl _ _
      have hV1 : View w (some ⟨b, off + (i + 1), none⟩) c c (digF f i) := hV.congr (fun j _ => by rw [HD.out]; rfl)
      clear hV
      go_wp2_with fail
      refine (numberOf_any _ c c _ w hV1 (by omega)).mono ?_
      rintro e _ ⟨rfl, rfl⟩
      have hvb := valF7 c (digF f i) (by omega) hV1.byte
      have hx : numV f i = valF c (digF f i) := by unfold numV; rw [if_neg (by omega), hc.out]
      have hcd := view_first hV1 (by omega)
      have hdb := hV1.byte 0 (by omega)
      have hc0z : (0 : Int) < (c : Int) := by omega
      generalize valF c (digF f i) = v at *
      clear hV1
      by_cases hd0 : digF f i 0 = 0
      · have hbad : badV f i := by unfold badV; rw [hc.out]; exact Or.inl ⟨by omega, hd0⟩
        rw [hd0] at hcd
        have e := hg.out
        rw [getV_bad n f i hin (by rw [hc.out]; exact hf) hbad] at e
        obtain ⟨rfl, rfl, rfl⟩ : 0 = a ∧ 0 = q ∧ false = ok := by simpa using e
        clear hg e
        go_wp2
        go_ret3
        exact ⟨rfl, hB⟩
      · have hq0 : (digF f i 0 == 0) = false := by simpa using hd0
        by_cases hr : v < -1000000000000000 ∨ 1000000000000000 < v
        · have hbad : badV f i := by unfold badV; rw [hx]; exact Or.inr hr
          rcases hr with hr | hr
          · omega
          · have e := hg.out
            rw [getV_bad n f i hin (by rw [hc.out]; exact hf) hbad] at e
            obtain ⟨rfl, rfl, rfl⟩ : 0 = a ∧ 0 = q ∧ false = ok := by simpa using e
            clear hg e
            go_wp2
            go_ret3
            exact ⟨rfl, hB⟩
        · have hbad : ¬ badV f i := by unfold badV; rw [hx, hc.out]; omega
          have hr1 : -1000000000000000 ≤ v := by omega
          have hr2 : v ≤ 1000000000000000 := by omega
          clear hr
          have e := hg.out
          rw [getV_is n f i hin (by rw [hc.out]; exact hf) hbad, hc.out] at e
          simp only [Prod.mk.injEq] at e
          obtain ⟨ea, rfl, rfl⟩ := e
          rw [hx] at ea
          subst ea
          clear hg
          go_wp2
          go_ret3
          exact ⟨rfl, hB⟩
end Go.Proofs.Ytbcgonfihdpjnaq

/-
  The program's readers of a value of each type, as they read.
-/
namespace Go.Proofs.Ytbcgonfihdpjnaq
open Go.RowKit
set_option maxRecDepth 4000

/-- A byte of 0 or 1 at a place. -/
def getB (n : Nat) (f : Nat → Int) (p : Int) : Int × Int × Bool := if p < 0 ∨ (n : Int) ≤ p ∨ 1 < f p.toNat then (0, 0, false) else (f p.toNat, p + 1, true)

set_option maxHeartbeats 1000000 in
theorem getBit_any {a q : Int} {ok : Bool} (b off n cap : Nat) (f : Nat → Int) (p : Int) (w : World) (hg : Hid (getB n f p = (a, q, ok))) (hv : View w (some ⟨b, off, none⟩) n cap f) (hn : n ≤ 70368744177664) (hp1 : p ≤ 9223372036854775807) :
    Calls Try.prog 41 #[.slice (some ⟨b, off, none⟩) n cap, .int .i64 p] w fun e w' => e = .returned (.tuple #[.int .i64 a, .int .i64 q, .bool ok]) ∧ Below w.heap.size w w' := by
  by_cases hp : p < 0
  · have e := hg.out
    unfold getB at e
    rw [if_pos (Or.inl hp)] at e
    obtain ⟨rfl, rfl, rfl⟩ : 0 = a ∧ 0 = q ∧ false = ok := by simpa using e
    clear hg e hv
    go_enter Try.func41, Try.ntmps41
    go_wp2
    exact bodyPost_ret (v := .tuple #[_, _, _]) (by simp [results, Try.results41, go_sem]) rfl ⟨rfl, Below.refl _ _⟩
  by_cases hq : (n : Int) ≤ p
  · have e := hg.out
    unfold getB at e
    rw [if_pos (Or.inr (Or.inl hq))] at e
    obtain ⟨rfl, rfl, rfl⟩ : 0 = a ∧ 0 = q ∧ false = ok := by simpa using e
    clear hg e hv
    go_enter Try.func41, Try.ntmps41
    go_wp2
    exact bodyPost_ret (v := .tuple #[_, _, _]) (by simp [results, Try.results41, go_sem]) rfl ⟨rfl, Below.refl _ _⟩
  obtain ⟨i, rfl⟩ : ∃ i : Nat, p = i := ⟨p.toNat, by omega⟩
  have hi : i < n := by omega
  obtain ⟨b', off', eb, -, hc⟩ := hv.cells (by omega)
  cases eb
  have hci := hc i hi
  have hby := hv.byte i hi
  obtain ⟨y, hy⟩ : ∃ y, y = f i := ⟨_, rfl⟩
  rw [← hy] at hci hby
  have e := hg.out
  unfold getB at e
  rw [Int.toNat_natCast, ← hy] at e
  clear hg hc hv hy
  by_cases h1 : 1 < y
  · rw [if_pos (Or.inr (Or.inr h1))] at e
    obtain ⟨rfl, rfl, rfl⟩ : 0 = a ∧ 0 = q ∧ false = ok := by simpa using e
    clear e
    go_enter Try.func41, Try.ntmps41
    go_wp2
    exact bodyPost_ret (v := .tuple #[_, _, _]) (by simp [results, Try.results41, go_sem]) rfl ⟨rfl, Below.refl _ _⟩
  · rw [if_neg (by omega)] at e
    obtain ⟨rfl, rfl, rfl⟩ : y = a ∧ (i : Int) + 1 = q ∧ true = ok := by simpa using e
    clear e
    go_enter Try.func41, Try.ntmps41
    go_wp2
    exact bodyPost_ret (v := .tuple #[_, _, _]) (by simp [results, Try.results41, go_sem]) rfl ⟨rfl, Below.refl _ _⟩

/-- A value of a type, as the program's readers read it. -/
def rawI (n : Nat) (f : Nat → Int) (t : Int) (p : Int) : Got :=
  if t = 1 then ⟨1, (getF n f p).1, noBytes, (getF n f p).2.1, (getF n f p).2.2⟩
  else if t = 2 then ⟨2, (getV n f p).1, noBytes, (getV n f p).2.1, (getV n f p).2.2⟩
  else if t = 3 then ⟨3, 0, (getE n f p).1, (getE n f p).2.1, (getE n f p).2.2⟩
  else ⟨4, (getB n f p).1, noBytes, (getB n f p).2.1, (getB n f p).2.2⟩

theorem getFix_implB {a q : Int} {ok : Bool} (b off n cap : Nat) (f : Nat → Int) (p : Int) (w : World) (hg : Hid (getF n f p = (a, q, ok))) (hv : View w (some ⟨b, off, none⟩) n cap f) (hn : n ≤ 281474976710656) (hp1 : p ≤ 9223372036854775807) :
    Calls Try.prog 63 #[.slice (some ⟨b, off, none⟩) n cap, .int .i64 p] w fun e w' => e = .returned (.tuple #[.int .i64 a, .int .i64 q, .bool ok]) ∧ Below w.heap.size w w' := by
  refine (getFix_impl b off n cap f p w hg hv hn hp1).mono ?_
  rintro e _ ⟨h, rfl⟩
  exact ⟨h, Below.refl _ _⟩

/-- What a reader of values comes to. -/
def ReadsV (fn : Nat) (n : Nat) (f : Nat → Int) (p : Int) (g : Got) : Prop :=
  ∀ (b off cap : Nat) (w : World), View w (some ⟨b, off, none⟩) n cap f → Calls Try.prog fn #[.slice (some ⟨b, off, none⟩) n cap, .int .i64 p] w fun e w' => e = gotRet g ∧ Below w.heap.size w w'

set_option maxHeartbeats 1000000 in
theorem getInt_any (n : Nat) (f : Nat → Int) (p : Int) (hn : n ≤ 10000000) (hp1 : p ≤ 9223372036854775807) : ReadsV 49 n f p (rawI n f 1 p) := by
  intro b off cap w hv
  obtain ⟨a, q, ok, hg⟩ : ∃ a q ok, Hid (getF n f p = (a, q, ok)) := ⟨_, _, _, rfl⟩
  have HR : Hid (rawI n f 1 p = ⟨1, a, noBytes, q, ok⟩) := by show _ = _; unfold rawI; rw [if_pos rfl, hg.out]
  rw [HR.out]
  have hR := Box.new w 0 0 ⟨#[]⟩
  have hb : Below w.heap.size w (w.alloc (.cells #[.int .i64 0, .int .i64 0, .string ⟨#[]⟩] 38)) := (Below.refl _ _).alloc (Nat.le_refl _) _
  have hv2 := hv.below hb
  go_enter Try.func49, Try.ntmps49
  go_wp2_with fail
  refine (getFix_implB b off n cap f p _ hg hv2 (by omega) hp1).mono ?_
  rintro e w1 ⟨rfl, hb1⟩
  have hR1 := hR.below hb1
  have hB1 : Below w.heap.size w w1 := hb.trans (hb1.mono hb.size)
  clear hv hv2 hg hR hb hb1
  obtain ⟨r0, r1, r2⟩ := hR1.frozen
  obtain ⟨p0, p1, p2⟩ := hR1.cells
  have hgs := stored3 (.int .i64 1) (.int .i64 a) (.string ⟨#[]⟩) p0 p1 p2
  have HB : Hid (Below w.heap.size w (((w1.setCell ⟨w.heap.size, 0, none⟩ (.int .i64 1)).setCell ⟨w.heap.size, 1, none⟩ (.int .i64 a)).setCell ⟨w.heap.size, 2, none⟩ (.string ⟨#[]⟩))) := ((hB1.setCell (Nat.le_refl _) _).setCell (Nat.le_refl _) _).setCell (Nat.le_refl _) _
  clear hR1 hB1
  go_wp2
  exact bodyPost_ret (v := .tuple #[.agg #[_, _, _], _, _]) (by simp [results, Try.results49, go_sem, hgs, noBytes]) rfl ⟨rfl, HB.out⟩

set_option maxHeartbeats 1000000 in
theorem getNum_any (n : Nat) (f : Nat → Int) (p : Int) (hn : n ≤ 10000000) (hp1 : p ≤ 9223372036854775807) : ReadsV 51 n f p (rawI n f 2 p) := by
  intro b off cap w hv
  obtain ⟨a, q, ok, hg⟩ : ∃ a q ok, Hid (getV n f p = (a, q, ok)) := ⟨_, _, _, rfl⟩
  have HR : Hid (rawI n f 2 p = ⟨2, a, noBytes, q, ok⟩) := by show _ = _; unfold rawI; rw [if_neg (by decide), if_pos rfl, hg.out]
  rw [HR.out]
  have hR := Box.new w 0 0 ⟨#[]⟩
  have hb : Below w.heap.size w (w.alloc (.cells #[.int .i64 0, .int .i64 0, .string ⟨#[]⟩] 38)) := (Below.refl _ _).alloc (Nat.le_refl _) _
  have hv2 := hv.below hb
  go_enter Try.func51, Try.ntmps51
  go_wp2_with fail
  refine (getVar_impl b off n cap f p _ hg hv2 (by omega) hp1).mono ?_
  rintro e w1 ⟨rfl, hb1⟩
  have hR1 := hR.below hb1
  have hB1 : Below w.heap.size w w1 := hb.trans (hb1.mono hb.size)
  clear hv hv2 hg hR hb hb1
  obtain ⟨r0, r1, r2⟩ := hR1.frozen
  obtain ⟨p0, p1, p2⟩ := hR1.cells
  have hgs := stored3 (.int .i64 2) (.int .i64 a) (.string ⟨#[]⟩) p0 p1 p2
  have HB : Hid (Below w.heap.size w (((w1.setCell ⟨w.heap.size, 0, none⟩ (.int .i64 2)).setCell ⟨w.heap.size, 1, none⟩ (.int .i64 a)).setCell ⟨w.heap.size, 2, none⟩ (.string ⟨#[]⟩))) := ((hB1.setCell (Nat.le_refl _) _).setCell (Nat.le_refl _) _).setCell (Nat.le_refl _) _
  clear hR1 hB1
  go_wp2
  exact bodyPost_ret (v := .tuple #[.agg #[_, _, _], _, _]) (by simp [results, Try.results51, go_sem, hgs, noBytes]) rfl ⟨rfl, HB.out⟩

set_option maxHeartbeats 1000000 in
theorem getText_any (n : Nat) (f : Nat → Int) (p : Int) (hn : n ≤ 10000000) (hp1 : p ≤ 9223372036854775807) : ReadsV 53 n f p (rawI n f 3 p) := by
  intro b off cap w hv
  obtain ⟨a, q, ok, hg⟩ : ∃ a q ok, Hid (getE n f p = (a, q, ok)) := ⟨_, _, _, rfl⟩
  have HR : Hid (rawI n f 3 p = ⟨3, 0, a, q, ok⟩) := by show _ = _; unfold rawI; rw [if_neg (by decide), if_neg (by decide), if_pos rfl, hg.out]
  rw [HR.out]
  have hR := Box.new w 0 0 ⟨#[]⟩
  have hb : Below w.heap.size w (w.alloc (.cells #[.int .i64 0, .int .i64 0, .string ⟨#[]⟩] 38)) := (Below.refl _ _).alloc (Nat.le_refl _) _
  have hv2 := hv.below hb
  go_enter Try.func53, Try.ntmps53
  go_wp2_with fail
  refine (getEsc_impl _ n cap f p _ a q ok hg hv2 (by omega) hp1).mono ?_
  rintro e w1 ⟨rfl, hb1⟩
  have hR1 := hR.below hb1
  have hB1 : Below w.heap.size w w1 := hb.trans (hb1.mono hb.size)
  clear hv hv2 hg hR hb hb1
  obtain ⟨r0, r1, r2⟩ := hR1.frozen
  obtain ⟨p0, p1, p2⟩ := hR1.cells
  have hgs := stored3 (.int .i64 3) (.int .i64 0) (.string a) p0 p1 p2
  have HB : Hid (Below w.heap.size w (((w1.setCell ⟨w.heap.size, 0, none⟩ (.int .i64 3)).setCell ⟨w.heap.size, 1, none⟩ (.int .i64 0)).setCell ⟨w.heap.size, 2, none⟩ (.string a))) := ((hB1.setCell (Nat.le_refl _) _).setCell (Nat.le_refl _) _).setCell (Nat.le_refl _) _
  clear hR1 hB1
  go_wp2
  exact bodyPost_ret (v := .tuple #[.agg #[_, _, _], _, _]) (by simp [results, Try.results53, go_sem, hgs]) rfl ⟨rfl, HB.out⟩

set_option maxHeartbeats 1000000 in
theorem getBool_any (n : Nat) (f : Nat → Int) (p : Int) (hn : n ≤ 10000000) (hp1 : p ≤ 9223372036854775807) : ReadsV 55 n f p (rawI n f 4 p) := by
  intro b off cap w hv
  obtain ⟨a, q, ok, hg⟩ : ∃ a q ok, Hid (getB n f p = (a, q, ok)) := ⟨_, _, _, rfl⟩
  have HR : Hid (rawI n f 4 p = ⟨4, a, noBytes, q, ok⟩) := by show _ = _; unfold rawI; rw [if_neg (by decide), if_neg (by decide), if_neg (by decide), hg.out]
  rw [HR.out]
  have hR := Box.new w 0 0 ⟨#[]⟩
  have hb : Below w.heap.size w (w.alloc (.cells #[.int .i64 0, .int .i64 0, .string ⟨#[]⟩] 38)) := (Below.refl _ _).alloc (Nat.le_refl _) _
  have hv2 := hv.below hb
  go_enter Try.func55, Try.ntmps55
  go_wp2_with fail
  refine (getBit_any b off n cap f p _ hg hv2 (by omega) hp1).mono ?_
  rintro e w1 ⟨rfl, hb1⟩
  have hR1 := hR.below hb1
  have hB1 : Below w.heap.size w w1 := hb.trans (hb1.mono hb.size)
  clear hv hv2 hg hR hb hb1
  obtain ⟨r0, r1, r2⟩ := hR1.frozen
  obtain ⟨p0, p1, p2⟩ := hR1.cells
  have hgs := stored3 (.int .i64 4) (.int .i64 a) (.string ⟨#[]⟩) p0 p1 p2
  have HB : Hid (Below w.heap.size w (((w1.setCell ⟨w.heap.size, 0, none⟩ (.int .i64 4)).setCell ⟨w.heap.size, 1, none⟩ (.int .i64 a)).setCell ⟨w.heap.size, 2, none⟩ (.string ⟨#[]⟩))) := ((hB1.setCell (Nat.le_refl _) _).setCell (Nat.le_refl _) _).setCell (Nat.le_refl _) _
  clear hR1 hB1
  go_wp2
  exact bodyPost_ret (v := .tuple #[.agg #[_, _, _], _, _]) (by simp [results, Try.results55, go_sem, hgs, noBytes]) rfl ⟨rfl, HB.out⟩

theorem rawI_chk {n : Nat} {f : Nat → Int} {t p : Int} (ht : 1 ≤ t ∧ t ≤ 4) : (rawI n f t p).chk = getT n f t p := by
  unfold getT
  obtain rfl | rfl | rfl | rfl : t = 1 ∨ t = 2 ∨ t = 3 ∨ t = 4 := by omega
  · rfl
  · rfl
  · rfl
  · unfold rawI rawT
    rw [if_neg (by decide), if_neg (by decide), if_neg (by decide), if_neg (by decide), if_neg (by decide), if_neg (by decide)]
    unfold getB
    by_cases h : 0 ≤ p ∧ p < n
    · rw [if_pos h]
      by_cases h1 : 1 < f p.toNat
      · rw [if_pos (Or.inr (Or.inr h1))]
        have e : okF 4 (f p.toNat) noBytes = false := by rw [okF_spec4]; simp; omega
        unfold Got.chk
        simp [e]
      · rw [if_neg (by omega)]
    · rw [if_neg h, if_pos (by omega)]
end Go.Proofs.Ytbcgonfihdpjnaq

