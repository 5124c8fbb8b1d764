/-
  The model's ParseVal comes to the plain reading.
-/
import Derived.Test.YthjddmhcppdleaaDoorParseModel
namespace Go.Proofs.YthjddmhcppdleaaDoor
open Go.RowKit Go.Lib

theorem readM_short {l : List UInt8} (h1 : l ≠ [110, 117, 108, 108]) (h2 : l ≠ [110, 111]) (h3 : l ≠ [121, 101, 115]) (hl : l.length < 2) : readM l = (0, 0, noBytes, false) := by
  unfold readM
  rw [if_neg h1, if_neg h2, if_neg h3, if_pos hl]

theorem readM_long {c : UInt8} {d : List UInt8} (h1 : c :: d ≠ [110, 117, 108, 108]) (h2 : c :: d ≠ [110, 111]) (h3 : c :: d ≠ [121, 101, 115]) (hl : ¬ (c :: d).length < 2) : readM (c :: d) = (if c = 39 then (3, 0, bytesOf d.dropLast, decide (d.getLast? = some 39) && plainL d.dropLast)
      else if c = 105 then (1, (p2 d).1, noBytes, (p2 d).2)
      else if c = 110 then (2, (p2 d).1, noBytes, (p2 d).2)
      else (0, 0, noBytes, false)) := by
  unfold readM
  rw [if_neg h1, if_neg h2, if_neg h3, if_neg hl]

theorem beq_byte {c : UInt8} {n : Nat} (hn : n < 256) : ((c.toNat : Int) == (n : Int)) = decide (c = UInt8.ofNat n) := by
  by_cases h : c = UInt8.ofNat n
  · subst h
    rw [UInt8.toNat_ofNat']
    simp
    omega
  · rw [decide_eq_false h, beq_eq_false_iff_ne]
    intro e
    apply h
    apply UInt8.toNat_inj.1
    rw [UInt8.toNat_ofNat']
    omega

theorem l2Val_any (s : ByteArray) (w : World) (hs : s.size ≤ 1048576) :
    Calls Tryd.prog 22 #[.string s] w fun e w' => e = retM (readM s.data.toList) ∧ Below w.heap.size w w' := by
  by_cases a1 : s = ⟨[110, 117, 108, 108].toArray⟩
  · subst a1; exact l2Val_null w
  by_cases a2 : s = ⟨[110, 111].toArray⟩
  · subst a2; exact l2Val_no w
  by_cases a3 : s = ⟨[121, 101, 115].toArray⟩
  · subst a3; exact l2Val_yes w
  have h3 : Not3 s := ⟨a1, a2, a3⟩
  have b1 : s.data.toList ≠ [110, 117, 108, 108] := fun e => a1 (bytes_eq e)
  have b2 : s.data.toList ≠ [110, 111] := fun e => a2 (bytes_eq e)
  have b3 : s.data.toList ≠ [121, 101, 115] := fun e => a3 (bytes_eq e)
  by_cases hl : s.size < 2
  · rw [readM_short b1 b2 b3 (by rw [len_list]; exact hl)]
    exact l2Val_short s w hs h3 (by omega)
  clear a1 a2 a3
  obtain ⟨⟨l⟩⟩ := s
  cases l with
  | nil => exact absurd (show (0 : Nat) < 2 by decide) hl
  | cons c d =>
    have hsz : (ByteArray.mk ⟨c :: d⟩).size = d.length + 1 := rfl
    have b1 : c :: d ≠ [110, 117, 108, 108] := b1
    have b2 : c :: d ≠ [110, 111] := b2
    have b3 : c :: d ≠ [121, 101, 115] := b3
    have hll : ¬ (c :: d).length < 2 := hl
    have h0 : 0 < (ByteArray.mk ⟨c :: d⟩).size := by rw [hsz]; omega
    have hc : (ByteArray.mk ⟨c :: d⟩)[0] = c := rfl
    have hlI : ¬ ((ByteArray.mk ⟨c :: d⟩).size : Int) < 2 := by omega
    show Calls _ _ _ _ (fun e w' => e = retM (readM (c :: d)) ∧ _)
    rw [readM_long b1 b2 b3 hll]
    by_cases c39 : c = 39
    · rw [if_pos c39]
      have hx : ((ByteArray.mk ⟨c :: d⟩).extract 1 d.length).data.toList = d.dropLast := by
        simp [List.dropLast_eq_take]
      have hx2 : (ByteArray.mk ⟨c :: d⟩).extract 1 d.length = bytesOf d.dropLast := by rw [← hx]; exact (bytes_data _).symm
      have hdl : 1 ≤ d.length := by simp only [List.length_cons] at hll; omega
      have hlt : d.length < (ByteArray.mk ⟨c :: d⟩).size := by rw [hsz]; omega
      have hlast : d.getLast? = some ((ByteArray.mk ⟨c :: d⟩)[d.length]) := by
        have : (ByteArray.mk ⟨c :: d⟩)[d.length] = (c :: d)[d.length]'(by simp) := rfl
        rw [this, List.getLast?_eq_getElem?, ← List.getElem?_eq_getElem]
        obtain ⟨k, hk⟩ : ∃ k, d.length = k + 1 := ⟨d.length - 1, by omega⟩
        rw [hk, List.getElem?_cons_succ]
        rfl
      by_cases hz : (ByteArray.mk ⟨c :: d⟩)[d.length] = 39
      · rw [decide_eq_true (by rw [hlast, hz]), Bool.true_and]
        have := l2Val_t (ByteArray.mk ⟨c :: d⟩) w hs h3 hlI h0 (by rw [hc, c39]; rfl) d.length (by omega) (by omega) (by omega) (by omega) hlt (by rw [hz]; rfl) _ hx2 (by simp [bytesOf, ByteArray.size] at hs ⊢; omega)
        have e : (bytesOf d.dropLast).data.toList = d.dropLast := by simp [bytesOf]
        rw [e] at this
        exact this
      · rw [decide_eq_false (by rw [hlast]; simpa using hz), Bool.false_and]
        exact l2Val_q (ByteArray.mk ⟨c :: d⟩) w hs h3 hlI h0 (by rw [hc, c39]; rfl) d.length (by omega) (by omega) (by omega) (by omega) hlt (by
          rw [show (39 : Int) = ((39 : Nat) : Int) from rfl, beq_byte (by decide)]; exact decide_eq_false hz) _ hx2
    · rw [if_neg c39]
      have q39 : (((ByteArray.mk ⟨c :: d⟩)[0].toNat : Int) == 39) = false := by
        rw [hc, show (39 : Int) = ((39 : Nat) : Int) from rfl, beq_byte (by decide)]; exact decide_eq_false c39
      have hx : (ByteArray.mk ⟨c :: d⟩).extract 1 (ByteArray.mk ⟨c :: d⟩).size = bytesOf d := by
        rw [hsz]
        apply ByteArray.ext
        simp [bytesOf]
      have hd : (bytesOf d).data.toList = d := by simp [bytesOf]
      by_cases c105 : c = 105
      · rw [if_pos c105]
        have := l2Val_i (ByteArray.mk ⟨c :: d⟩) w hs h3 hlI h0 q39 (by rw [hc, c105]; rfl) _ hx
        rw [hd] at this
        exact this
      · rw [if_neg c105]
        have q105 : (((ByteArray.mk ⟨c :: d⟩)[0].toNat : Int) == 105) = false := by
          rw [hc, show (105 : Int) = ((105 : Nat) : Int) from rfl, beq_byte (by decide)]; exact decide_eq_false c105
        by_cases c110 : c = 110
        · rw [if_pos c110]
          have := l2Val_n (ByteArray.mk ⟨c :: d⟩) w hs h3 hlI h0 q39 q105 (by rw [hc, c110]; rfl) _ hx
          rw [hd] at this
          exact this
        · rw [if_neg c110]
          have q110 : (((ByteArray.mk ⟨c :: d⟩)[0].toNat : Int) == 110) = false := by
            rw [hc, show (110 : Int) = ((110 : Nat) : Int) from rfl, beq_byte (by decide)]; exact decide_eq_false c110
          exact l2Val_x (ByteArray.mk ⟨c :: d⟩) w hs h3 hlI h0 q39 q105 q110 _ hx

theorem readM_size (l : List UInt8) : (readM l).2.2.1.size ≤ l.length := by
  unfold readM
  split
  · exact Nat.zero_le _
  split
  · exact Nat.zero_le _
  split
  · exact Nat.zero_le _
  split
  · exact Nat.zero_le _
  cases l with
  | nil => exact Nat.zero_le _
  | cons c d =>
    simp only
    split
    · simp [bytesOf, ByteArray.size]; omega
    split
    · exact Nat.zero_le _
    split
    · exact Nat.zero_le _
    · exact Nat.zero_le _

set_option maxHeartbeats 2000000 in
theorem specParseVal_any (s : ByteArray) (w : World) (hs : s.size ≤ 1048576) :
    Calls Tryd.prog 9 #[.string s] w fun e w' => e = retM (finM (readM s.data.toList)) ∧ Below w.heap.size w w' := by
  have hV := fun W => l2Val_any s W hs
  have hsz := readM_size s.data.toList
  rw [len_list] at hsz
  generalize readM s.data.toList = r at *
  obtain ⟨k, n, t, b⟩ := r
  have hO := fun W => specValOk_any k n t W (by simp only at hsz; omega)
  clear hsz
  cases b with
  | false =>
    rw [show finM (k, n, t, false) = (0, 0, ⟨#[]⟩, false) from rfl]
    unfold retM valAgg at *
    simp only at hV ⊢
    clear hO
    go_enter Tryd.func9, Tryd.ntmps9
    go_wp2_with fail
    refine (hV _).mono ?_
    rintro e w1 ⟨rfl, hB⟩
    have hC := hB.mono (show w.heap.size + 1 ≤ _ by simp)
    obtain ⟨c0, c1, c2⟩ := boxed hC (by omega)
    obtain ⟨f0, f1, f2⟩ := boxedF hC (by omega)
    have hD : Below w.heap.size w w1 := ((Below.refl _ _).alloc (Nat.le_refl _) _).trans (hB.mono (by simp))
    have hlt : w.heap.size + 1 ≤ w1.heap.size := by have := hB.size; simpa using this
    have hlt2 : w.heap.size < w1.heap.size := by omega
    clear hB
    have g := stored3A (.int .i64 0) (.int .i64 0) (.string ⟨#[]⟩) c0 c1 c2 hlt2
    go_wp2
    refine bodyPost_ret (v := .tuple #[.agg #[_, _, _], .bool _]) (by simp [results, Tryd.results9, go_sem, g]) rfl ⟨rfl, ?_⟩
    repeat (first | exact hD | exact hD2 | refine Below.alloc ?_ (by simp <;> omega) _ | refine Below.setCell ?_ (by exact Nat.le_refl _) _ | refine Below.drew ?_)
  | true =>
    cases ho : okF k n t with
    | false =>
      rw [ho] at hO
      rw [show finM (k, n, t, true) = (0, 0, ⟨#[]⟩, false) by simp only [finM, ho]; rfl]
      unfold retM valAgg at *
      simp only at hV ⊢
      go_enter Tryd.func9, Tryd.ntmps9
      go_wp2_with fail
      refine (hV _).mono ?_
      rintro e w1 ⟨rfl, hB⟩
      have hC := hB.mono (show w.heap.size + 1 ≤ _ by simp)
      obtain ⟨c0, c1, c2⟩ := boxed hC (by omega)
      obtain ⟨f0, f1, f2⟩ := boxedF hC (by omega)
      have hD : Below w.heap.size w w1 := ((Below.refl _ _).alloc (Nat.le_refl _) _).trans (hB.mono (by simp))
      have hlt : w.heap.size + 1 ≤ w1.heap.size := by have := hB.size; simpa using this
      have hlt2 : w.heap.size < w1.heap.size := by omega
      clear hB
      clear c0 c1 c2 f0 f1 f2
      go_wp2_with fail
      refine (hO _).mono ?_
      rintro e w2 ⟨rfl, hB2⟩
      have hE := hB2.mono (show w1.heap.size + 1 ≤ _ by simp)
      obtain ⟨d0, d1, d2⟩ := boxed hE (by omega)
      have hB3 : Below w1.heap.size w1 w2 := ((Below.refl _ _).alloc (Nat.le_refl _) _).trans (hB2.mono (by simp))
      have hC2 := hC.trans (hB3.mono hlt)
      obtain ⟨c0, c1, c2⟩ := boxed hC2 (by omega)
      obtain ⟨f0, f1, f2⟩ := boxedF hC2 (by omega)
      have hD2 : Below w.heap.size w w2 := hD.trans (hB3.mono (by omega))
      clear hB2 hE hB3 hC hD hlt
      have g := stored3 (.int .i64 0) (.int .i64 0) (.string ⟨#[]⟩) c0 c1 c2
      go_wp2
      refine bodyPost_ret (v := .tuple #[.agg #[_, _, _], .bool _]) (by simp [results, Tryd.results9, go_sem, g]) rfl ⟨rfl, ?_⟩
      repeat (first | exact hD | exact hD2 | refine Below.alloc ?_ (by simp <;> omega) _ | refine Below.setCell ?_ (by exact Nat.le_refl _) _ | refine Below.drew ?_)
    | true =>
      rw [ho] at hO
      rw [show finM (k, n, t, true) = (k, n, t, true) by simp only [finM, ho]; rfl]
      unfold retM valAgg at *
      simp only at hV ⊢
      go_enter Tryd.func9, Tryd.ntmps9
      go_wp2_with fail
      refine (hV _).mono ?_
      rintro e w1 ⟨rfl, hB⟩
      have hC := hB.mono (show w.heap.size + 1 ≤ _ by simp)
      obtain ⟨c0, c1, c2⟩ := boxed hC (by omega)
      obtain ⟨f0, f1, f2⟩ := boxedF hC (by omega)
      have hD : Below w.heap.size w w1 := ((Below.refl _ _).alloc (Nat.le_refl _) _).trans (hB.mono (by simp))
      have hlt : w.heap.size + 1 ≤ w1.heap.size := by have := hB.size; simpa using this
      have hlt2 : w.heap.size < w1.heap.size := by omega
      clear hB
      clear c0 c1 c2 f0 f1 f2
      go_wp2_with fail
      refine (hO _).mono ?_
      rintro e w2 ⟨rfl, hB2⟩
      have hE := hB2.mono (show w1.heap.size + 1 ≤ _ by simp)
      obtain ⟨d0, d1, d2⟩ := boxed hE (by omega)
      have hB3 : Below w1.heap.size w1 w2 := ((Below.refl _ _).alloc (Nat.le_refl _) _).trans (hB2.mono (by simp))
      have hC2 := hC.trans (hB3.mono hlt)
      obtain ⟨c0, c1, c2⟩ := boxed hC2 (by omega)
      obtain ⟨f0, f1, f2⟩ := boxedF hC2 (by omega)
      have hD2 : Below w.heap.size w w2 := hD.trans (hB3.mono (by omega))
      clear hB2 hE hB3 hC hD hlt
      have g := stored3 (.int .i64 k) (.int .i64 n) (.string t) c0 c1 c2
      go_wp2
      refine bodyPost_ret (v := .tuple #[.agg #[_, _, _], .bool _]) (by simp [results, Tryd.results9, go_sem, g]) rfl ⟨rfl, ?_⟩
      repeat (first | exact hD | exact hD2 | refine Below.alloc ?_ (by simp <;> omega) _ | refine Below.setCell ?_ (by exact Nat.le_refl _) _ | refine Below.drew ?_)
end Go.Proofs.YthjddmhcppdleaaDoor
