/-
  Together: DrawFit, DrawAny, PutVarSpec
-/
import Derived.Test.YtclegljalndaeacPack5
import Derived.Test.YtclegljalndaeacPack2
import Derived.Test.YtclegljalndaeacPack3
import Derived.Test.YtclegljalndaeacPack1
/-
  The draws of values of a type once more: what is drawn fits.
-/
namespace Go.Proofs.Ytclegljalndaeac
open Go.RowKit
set_option maxRecDepth 4000

theorem fits_int (nul : Bool) {x : Int} (h : -2147483648 ≤ x ∧ x ≤ 2147483647) : fitsP 1 nul 1 x ⟨#[]⟩ = true := by
  unfold fitsP; rw [okF_spec1]; simp [h, noBytes]
theorem fits_num (nul : Bool) {x : Int} (h : -1000000000000000 ≤ x ∧ x ≤ 1000000000000000) : fitsP 2 nul 2 x ⟨#[]⟩ = true := by
  unfold fitsP; rw [okF_spec2]; simp [h, noBytes]
theorem fits_text (nul : Bool) {s : ByteArray} (h : s.size ≤ 30) : fitsP 3 nul 3 0 s = true := by
  unfold fitsP; rw [okF_spec3]; simp [h]
theorem fits_bool (nul : Bool) {x : Int} (h : 0 ≤ x ∧ x < 2) : fitsP 4 nul 4 x ⟨#[]⟩ = true := by
  unfold fitsP; rw [okF_spec4]; simp [noBytes]; omega
theorem fits_null (t : Int) : fitsP t true 0 0 ⟨#[]⟩ = true := by
  unfold fitsP; rw [okF_spec0]; simp [noBytes]

theorem l1Int_mem (g : Nat) (ao : Option Addr) (n cap : Nat) (f : Nat → Int) (l : List Int) (A : Nat) (w : World) (hA : A = w.heap.size) (hn : n ≤ 1048576) (h0 : 0 < l.length) (h1 : l.length ≤ 1000) (_hl : ∀ y ∈ l, I64 y) (hC : Cur w g ao n cap f) :
    Calls Try.prog 76 #[.pointer (some ⟨g, 0, none⟩), .slice (some ⟨A, 0, none⟩) l.length l.length] (w.alloc (.cells (l.map (Value.int .i64)).toArray 3)) fun e w' => ∃ x : Int, e = .returned (.int .i64 x) ∧ x ∈ l ∧ Cur w' g ao n cap f ∧ But g w w' := by
  subst hA
  have hb : Below w.heap.size w (w.alloc (.cells (l.map (Value.int .i64)).toArray 3)) := (Below.refl _ _).alloc (Nat.le_refl _) _
  have hg := hC.lt
  refine (l1Int_any g ao n cap f w.heap.size l.length (fun i => l.getD i 0) _ hn h0 (by omega) (newInts w l 3) (by omega) (hC.below hb)).mono ?_
  rintro e w' ⟨j, hj, rfl, hC2, hO2⟩
  exact ⟨_, rfl, getD_mem hj, hC2, (But.ofBelow hb).trans (But.ofOnly hO2)⟩

set_option maxHeartbeats 2000000 in
theorem l2Of_fit (g : Nat) (ao : Option Addr) (n cap : Nat) (f : Nat → Int) (t : Int) (w : World) (hn : n ≤ 1048576) (ht0 : 1 ≤ t) (ht1 : t ≤ 4) (hC : Cur w g ao n cap f) :
    Calls Try.prog 80 #[.pointer (some ⟨g, 0, none⟩), .int .i64 t, .bool true] w fun e w' => ∃ (k m : Int) (s : ByteArray), e = .returned (.agg #[.int .i64 k, .int .i64 m, .string s]) ∧ DrewV w g ao n cap f k m s w' ∧ fitsP t true k m s = true := by
  have hg := hC.lt
  have HC : Hid (∀ a, ao = some a → 0 < n → a.block < w.heap.size) := hC.code
  have hb0 : Below w.heap.size w (w.alloc (.cells #[.int .i64 0, .int .i64 0, .string ⟨#[]⟩] 29)) := (Below.refl _ _).alloc (Nat.le_refl _) _
  have hR0 := Box.new w 0 0 ⟨#[]⟩
  have hC0 := hC.below hb0
  have hB0 : But g w (w.alloc (.cells #[.int .i64 0, .int .i64 0, .string ⟨#[]⟩] 29)) := But.ofBelow hb0
  clear hb0 hC
  go_enter Try.func80, Try.ntmps80
  go_wp2_with fail
  refine (l1Once_any g ao n cap f 4 _ hn (by omega) (by omega) hC0).mono ?_
  rintro e w1 ⟨b, rfl, hC1, hO1⟩
  have hB1 := hB0.trans (But.ofOnly hO1)
  have hR1 := hR0.but (But.ofOnly hO1) (by omega)
  clear hC0 hO1 hR0 hB0
  cases b with
  | true =>
    obtain ⟨c0, c1, c2⟩ := hR1.cells
    obtain ⟨f0, f1, f2⟩ := hR1.frozen
    have hgs := stored3 (.int .i64 0) (.int .i64 0) (.string ⟨#[]⟩) c0 c1 c2
    have HD : Hid (DrewV w g ao n cap f 0 0 ⟨#[]⟩ _) := DrewV.put (by unfold I64; omega) (by unfold I64; omega) (by decide) hC1 hB1 hg HC.out
    clear hC1 hB1 hR1
    go_wp2
    exact bodyPost_ret (v := .agg #[_, _, _]) (by simp [results, Try.results80, go_sem, hgs]) rfl ⟨0, 0, ⟨#[]⟩, rfl, HD.out, fits_null t⟩
  | false =>
    have hlt1 : w.heap.size < w1.heap.size := hR1.lt
    have hb2 : Below w1.heap.size w1 (w1.alloc (.cells #[.int .i64 t, .int .i64 0, .string ⟨#[]⟩] 29)) := (Below.refl _ _).alloc (Nat.le_refl _) _
    have hV2 := Box.new w1 t 0 ⟨#[]⟩
    have hR2 := hR1.below hb2
    have hC2 := hC1.below hb2
    have hB2 := hB1.trans (But.ofBelow (g := g) hb2)
    clear hb2 hC1 hB1 hR1
    obtain rfl | rfl | rfl | rfl : t = 1 ∨ t = 2 ∨ t = 3 ∨ t = 4 := by omega
    · have HL : Hid (∀ u ∈ [0, 1, 2, 3, -1, 255, 256, 2147483647, -2147483648], I64 u) := by
        intro u hu
        simp only [List.mem_cons, List.not_mem_nil, or_false] at hu
        unfold I64
        omega
      go_wp2_with fail
      refine (l1Int_mem g ao n cap f [0, 1, 2, 3, -1, 255, 256, 2147483647, -2147483648] (w1.heap.size + 1) (w1.alloc (.cells #[.int .i64 1, .int .i64 0, .string ⟨#[]⟩] 29)) (by simp) hn (by simp) (by simp) HL.out hC2).mono ?_
      rintro e w3 ⟨x, rfl, hx, hC3, hB3⟩
      have HX : Hid (I64 x) := HL.out x hx
      have HF : Hid (fitsP 1 true 1 x ⟨#[]⟩ = true) := by
        simp only [List.mem_cons, List.not_mem_nil, or_false] at hx
        exact fits_int true (by omega)
      clear HL hx
      have hV3 := hV2.but hB3 (by omega)
      have hR3 := hR2.but hB3 (by omega)
      have hB4 := hB2.trans hB3
      obtain ⟨c0, c1, c2⟩ := hV3.cells
      obtain ⟨f0, f1, f2⟩ := hV3.frozen
      have hR4 := hR3.other (D := w1.heap.size) (i := 1) (by omega) (.int .i64 x)
      obtain ⟨d0, d1, d2⟩ := hR4.cells
      obtain ⟨r0, r1, r2⟩ := hR3.frozen
      obtain ⟨p0, p1, p2⟩ := hR3.cells
      have hgs := stored3 (.int .i64 1) (.int .i64 x) (.string ⟨#[]⟩) d0 d1 d2
      have HD : Hid (DrewV w g ao n cap f 1 x ⟨#[]⟩ _) := DrewV.put (by unfold I64; omega) HX.out (by decide) (hC3.setNew (B := w1.heap.size) (i := 1) (.int .i64 x) (by omega) (fun a ha h0 => by have := HC.out a ha h0; omega)) (hB4.setNew (Nat.le_of_lt hlt1) _) hg HC.out
      clear hC3 hB3 hB4 hB2 hC2 hV2 hR2 hV3 hR3 hR4
      go_wp2
      exact bodyPost_ret (v := .agg #[_, _, _]) (by simp [results, Try.results80, go_sem, hgs]) rfl ⟨1, x, ⟨#[]⟩, rfl, HD.out, HF.out⟩
    · go_wp2_with fail
      refine (l1Below_any g ao n cap f 100000 (w1.alloc (.cells #[.int .i64 2, .int .i64 0, .string ⟨#[]⟩] 29)) hn (by omega) (by omega) hC2).mono ?_
      rintro e w2 ⟨y, rfl, hy0, hy1, hCy, hOy⟩
      have HL : Hid (∀ u ∈ [0, 1, -1, 255, 256, -256, -257, 65535, 1000000000000000, -1000000000000000, -y], I64 u) := by
        intro u hu
        simp only [List.mem_cons, List.not_mem_nil, or_false] at hu
        unfold I64
        omega
      have hBy : But g _ w2 := But.ofOnly hOy
      clear hOy
      go_wp2_with fail
      refine (l1Int_mem g ao n cap f [0, 1, -1, 255, 256, -256, -257, 65535, 1000000000000000, -1000000000000000, -y] w2.heap.size w2 rfl hn (by simp) (by simp) HL.out hCy).mono ?_
      rintro e w3 ⟨x, rfl, hx, hC3, hB3⟩
      have HX : Hid (I64 x) := HL.out x hx
      have HF : Hid (fitsP 2 true 2 x ⟨#[]⟩ = true) := by
        simp only [List.mem_cons, List.not_mem_nil, or_false] at hx
        exact fits_num true (by omega)
      replace hB3 := hBy.trans hB3
      clear HL hx hBy hCy
      have hV3 := hV2.but hB3 (by omega)
      have hR3 := hR2.but hB3 (by omega)
      have hB4 := hB2.trans hB3
      obtain ⟨c0, c1, c2⟩ := hV3.cells
      obtain ⟨f0, f1, f2⟩ := hV3.frozen
      have hR4 := hR3.other (D := w1.heap.size) (i := 1) (by omega) (.int .i64 x)
      obtain ⟨d0, d1, d2⟩ := hR4.cells
      obtain ⟨r0, r1, r2⟩ := hR3.frozen
      obtain ⟨p0, p1, p2⟩ := hR3.cells
      have hgs := stored3 (.int .i64 2) (.int .i64 x) (.string ⟨#[]⟩) d0 d1 d2
      have HD : Hid (DrewV w g ao n cap f 2 x ⟨#[]⟩ _) := DrewV.put (by unfold I64; omega) HX.out (by decide) (hC3.setNew (B := w1.heap.size) (i := 1) (.int .i64 x) (by omega) (fun a ha h0 => by have := HC.out a ha h0; omega)) (hB4.setNew (Nat.le_of_lt hlt1) _) hg HC.out
      clear hC3 hB3 hB4 hB2 hC2 hV2 hR2 hV3 hR3 hR4
      go_wp2
      exact bodyPost_ret (v := .agg #[_, _, _]) (by simp [results, Try.results80, go_sem, hgs]) rfl ⟨2, x, ⟨#[]⟩, rfl, HD.out, HF.out⟩
    · go_wp2_with fail
      refine (l2Text_any g ao n cap f (w1.alloc (.cells #[.int .i64 3, .int .i64 0, .string ⟨#[]⟩] 29)) hn hC2).mono ?_
      rintro e w3 ⟨s, rfl, hs, hC3, hB3⟩
      have hV3 := hV2.but hB3 (by omega)
      have hR3 := hR2.but hB3 (by omega)
      have hB4 := hB2.trans hB3
      obtain ⟨c0, c1, c2⟩ := hV3.cells
      obtain ⟨f0, f1, f2⟩ := hV3.frozen
      have hR4 := hR3.other (D := w1.heap.size) (i := 2) (by omega) (.string s)
      obtain ⟨d0, d1, d2⟩ := hR4.cells
      obtain ⟨r0, r1, r2⟩ := hR3.frozen
      obtain ⟨p0, p1, p2⟩ := hR3.cells
      have hgs := stored3 (.int .i64 3) (.int .i64 0) (.string s) d0 d1 d2
      have HD : Hid (DrewV w g ao n cap f 3 0 s _) := DrewV.put (by unfold I64; omega) (by unfold I64; omega) (by omega) (hC3.setNew (B := w1.heap.size) (i := 2) (.string s) (by omega) (fun a ha h0 => by have := HC.out a ha h0; omega)) (hB4.setNew (Nat.le_of_lt hlt1) _) hg HC.out
      clear hC3 hB3 hB4 hB2 hC2 hV2 hR2 hV3 hR3 hR4
      go_wp2
      exact bodyPost_ret (v := .agg #[_, _, _]) (by simp [results, Try.results80, go_sem, hgs]) rfl ⟨3, 0, s, rfl, HD.out, fits_text true (by omega)⟩
    · go_wp2_with fail
      refine (l1Below_any g ao n cap f 2 (w1.alloc (.cells #[.int .i64 4, .int .i64 0, .string ⟨#[]⟩] 29)) hn (by omega) (by omega) hC2).mono ?_
      rintro e w3 ⟨x, rfl, hy0, hy1, hC3, hO3⟩
      have HX : Hid (I64 x) := by show I64 x; unfold I64; omega
      have hB3 : But g _ w3 := But.ofOnly hO3
      clear hO3
      have hV3 := hV2.but hB3 (by omega)
      have hR3 := hR2.but hB3 (by omega)
      have hB4 := hB2.trans hB3
      obtain ⟨c0, c1, c2⟩ := hV3.cells
      obtain ⟨f0, f1, f2⟩ := hV3.frozen
      have hR4 := hR3.other (D := w1.heap.size) (i := 1) (by omega) (.int .i64 x)
      obtain ⟨d0, d1, d2⟩ := hR4.cells
      obtain ⟨r0, r1, r2⟩ := hR3.frozen
      obtain ⟨p0, p1, p2⟩ := hR3.cells
      have hgs := stored3 (.int .i64 4) (.int .i64 x) (.string ⟨#[]⟩) d0 d1 d2
      have HD : Hid (DrewV w g ao n cap f 4 x ⟨#[]⟩ _) := DrewV.put (by unfold I64; omega) HX.out (by decide) (hC3.setNew (B := w1.heap.size) (i := 1) (.int .i64 x) (by omega) (fun a ha h0 => by have := HC.out a ha h0; omega)) (hB4.setNew (Nat.le_of_lt hlt1) _) hg HC.out
      clear hC3 hB3 hB4 hB2 hC2 hV2 hR2 hV3 hR3 hR4
      go_wp2
      exact bodyPost_ret (v := .agg #[_, _, _]) (by simp [results, Try.results80, go_sem, hgs]) rfl ⟨4, x, ⟨#[]⟩, rfl, HD.out, fits_bool true (by omega)⟩

set_option maxHeartbeats 2000000 in
theorem l2Of_fitNo (g : Nat) (ao : Option Addr) (n cap : Nat) (f : Nat → Int) (t : Int) (w : World) (hn : n ≤ 1048576) (ht0 : 1 ≤ t) (ht1 : t ≤ 4) (hC : Cur w g ao n cap f) :
    Calls Try.prog 80 #[.pointer (some ⟨g, 0, none⟩), .int .i64 t, .bool false] w fun e w' => ∃ (k m : Int) (s : ByteArray), e = .returned (.agg #[.int .i64 k, .int .i64 m, .string s]) ∧ DrewV w g ao n cap f k m s w' ∧ fitsP t false k m s = true := by
  have hg := hC.lt
  have HC : Hid (∀ a, ao = some a → 0 < n → a.block < w.heap.size) := hC.code
  have hlt1 : w.heap.size < w.heap.size + 1 := Nat.lt_succ_self _
  obtain ⟨hR2, hV2, hb2⟩ := boxes2 w t
  have hC2 := hC.below hb2
  have hB2 : But g w _ := But.ofBelow hb2
  clear hb2 hC
  obtain rfl | rfl | rfl | rfl : t = 1 ∨ t = 2 ∨ t = 3 ∨ t = 4 := by omega
  · have HL : Hid (∀ u ∈ [0, 1, 2, 3, -1, 255, 256, 2147483647, -2147483648], I64 u) := by
      intro u hu
      simp only [List.mem_cons, List.not_mem_nil, or_false] at hu
      unfold I64
      omega
    go_enter Try.func80, Try.ntmps80
    go_wp2_with fail
    refine (l1Int_mem g ao n cap f [0, 1, 2, 3, -1, 255, 256, 2147483647, -2147483648] (w.heap.size + 2) ((w.alloc (.cells #[.int .i64 0, .int .i64 0, .string ⟨#[]⟩] 29)).alloc (.cells #[.int .i64 1, .int .i64 0, .string ⟨#[]⟩] 29)) (by simp) hn (by simp) (by simp) HL.out hC2).mono ?_
    rintro e w3 ⟨x, rfl, hx, hC3, hB3⟩
    have HX : Hid (I64 x) := HL.out x hx
    have HF : Hid (fitsP 1 false 1 x ⟨#[]⟩ = true) := by
      simp only [List.mem_cons, List.not_mem_nil, or_false] at hx
      exact fits_int false (by omega)
    clear HL hx
    have hV3 := hV2.but hB3 (by omega)
    have hR3 := hR2.but hB3 (by omega)
    have hB4 := hB2.trans hB3
    obtain ⟨c0, c1, c2⟩ := hV3.cells
    obtain ⟨f0, f1, f2⟩ := hV3.frozen
    have hR4 := hR3.other (D := w.heap.size + 1) (i := 1) (by omega) (.int .i64 x)
    obtain ⟨d0, d1, d2⟩ := hR4.cells
    obtain ⟨r0, r1, r2⟩ := hR3.frozen
    obtain ⟨p0, p1, p2⟩ := hR3.cells
    have hgs := stored3 (.int .i64 1) (.int .i64 x) (.string ⟨#[]⟩) d0 d1 d2
    have HD : Hid (DrewV w g ao n cap f 1 x ⟨#[]⟩ _) := DrewV.put (by unfold I64; omega) HX.out (by decide) (hC3.setNew (B := w.heap.size + 1) (i := 1) (.int .i64 x) (by omega) (fun a ha h0 => by have := HC.out a ha h0; omega)) (hB4.setNew (Nat.le_of_lt hlt1) _) hg HC.out
    clear hC3 hB3 hB4 hB2 hC2 hV2 hR2 hV3 hR3 hR4
    go_wp2
    exact bodyPost_ret (v := .agg #[_, _, _]) (by simp [results, Try.results80, go_sem, hgs]) rfl ⟨1, x, ⟨#[]⟩, rfl, HD.out, HF.out⟩
  · go_enter Try.func80, Try.ntmps80
    go_wp2_with fail
    refine (l1Below_any g ao n cap f 100000 ((w.alloc (.cells #[.int .i64 0, .int .i64 0, .string ⟨#[]⟩] 29)).alloc (.cells #[.int .i64 2, .int .i64 0, .string ⟨#[]⟩] 29)) hn (by omega) (by omega) hC2).mono ?_
    rintro e w2 ⟨y, rfl, hy0, hy1, hCy, hOy⟩
    have HL : Hid (∀ u ∈ [0, 1, -1, 255, 256, -256, -257, 65535, 1000000000000000, -1000000000000000, -y], I64 u) := by
      intro u hu
      simp only [List.mem_cons, List.not_mem_nil, or_false] at hu
      unfold I64
      omega
    have hBy : But g _ w2 := But.ofOnly hOy
    clear hOy
    go_wp2_with fail
    refine (l1Int_mem g ao n cap f [0, 1, -1, 255, 256, -256, -257, 65535, 1000000000000000, -1000000000000000, -y] w2.heap.size w2 rfl hn (by simp) (by simp) HL.out hCy).mono ?_
    rintro e w3 ⟨x, rfl, hx, hC3, hB3⟩
    have HX : Hid (I64 x) := HL.out x hx
    have HF : Hid (fitsP 2 false 2 x ⟨#[]⟩ = true) := by
      simp only [List.mem_cons, List.not_mem_nil, or_false] at hx
      exact fits_num false (by omega)
    replace hB3 := hBy.trans hB3
    clear HL hx hBy hCy
    have hV3 := hV2.but hB3 (by omega)
    have hR3 := hR2.but hB3 (by omega)
    have hB4 := hB2.trans hB3
    obtain ⟨c0, c1, c2⟩ := hV3.cells
    obtain ⟨f0, f1, f2⟩ := hV3.frozen
    have hR4 := hR3.other (D := w.heap.size + 1) (i := 1) (by omega) (.int .i64 x)
    obtain ⟨d0, d1, d2⟩ := hR4.cells
    obtain ⟨r0, r1, r2⟩ := hR3.frozen
    obtain ⟨p0, p1, p2⟩ := hR3.cells
    have hgs := stored3 (.int .i64 2) (.int .i64 x) (.string ⟨#[]⟩) d0 d1 d2
    have HD : Hid (DrewV w g ao n cap f 2 x ⟨#[]⟩ _) := DrewV.put (by unfold I64; omega) HX.out (by decide) (hC3.setNew (B := w.heap.size + 1) (i := 1) (.int .i64 x) (by omega) (fun a ha h0 => by have := HC.out a ha h0; omega)) (hB4.setNew (Nat.le_of_lt hlt1) _) hg HC.out
    clear hC3 hB3 hB4 hB2 hC2 hV2 hR2 hV3 hR3 hR4
    go_wp2
    exact bodyPost_ret (v := .agg #[_, _, _]) (by simp [results, Try.results80, go_sem, hgs]) rfl ⟨2, x, ⟨#[]⟩, rfl, HD.out, HF.out⟩
  · go_enter Try.func80, Try.ntmps80
    go_wp2_with fail
    refine (l2Text_any g ao n cap f ((w.alloc (.cells #[.int .i64 0, .int .i64 0, .string ⟨#[]⟩] 29)).alloc (.cells #[.int .i64 3, .int .i64 0, .string ⟨#[]⟩] 29)) hn hC2).mono ?_
    rintro e w3 ⟨s, rfl, hs, hC3, hB3⟩
    have hV3 := hV2.but hB3 (by omega)
    have hR3 := hR2.but hB3 (by omega)
    have hB4 := hB2.trans hB3
    obtain ⟨c0, c1, c2⟩ := hV3.cells
    obtain ⟨f0, f1, f2⟩ := hV3.frozen
    have hR4 := hR3.other (D := w.heap.size + 1) (i := 2) (by omega) (.string s)
    obtain ⟨d0, d1, d2⟩ := hR4.cells
    obtain ⟨r0, r1, r2⟩ := hR3.frozen
    obtain ⟨p0, p1, p2⟩ := hR3.cells
    have hgs := stored3 (.int .i64 3) (.int .i64 0) (.string s) d0 d1 d2
    have HD : Hid (DrewV w g ao n cap f 3 0 s _) := DrewV.put (by unfold I64; omega) (by unfold I64; omega) (by omega) (hC3.setNew (B := w.heap.size + 1) (i := 2) (.string s) (by omega) (fun a ha h0 => by have := HC.out a ha h0; omega)) (hB4.setNew (Nat.le_of_lt hlt1) _) hg HC.out
    clear hC3 hB3 hB4 hB2 hC2 hV2 hR2 hV3 hR3 hR4
    go_wp2
    exact bodyPost_ret (v := .agg #[_, _, _]) (by simp [results, Try.results80, go_sem, hgs]) rfl ⟨3, 0, s, rfl, HD.out, fits_text false (by omega)⟩
  · go_enter Try.func80, Try.ntmps80
    go_wp2_with fail
    refine (l1Below_any g ao n cap f 2 ((w.alloc (.cells #[.int .i64 0, .int .i64 0, .string ⟨#[]⟩] 29)).alloc (.cells #[.int .i64 4, .int .i64 0, .string ⟨#[]⟩] 29)) hn (by omega) (by omega) hC2).mono ?_
    rintro e w3 ⟨x, rfl, hy0, hy1, hC3, hO3⟩
    have HX : Hid (I64 x) := by show I64 x; unfold I64; omega
    have hB3 : But g _ w3 := But.ofOnly hO3
    clear hO3
    have hV3 := hV2.but hB3 (by omega)
    have hR3 := hR2.but hB3 (by omega)
    have hB4 := hB2.trans hB3
    obtain ⟨c0, c1, c2⟩ := hV3.cells
    obtain ⟨f0, f1, f2⟩ := hV3.frozen
    have hR4 := hR3.other (D := w.heap.size + 1) (i := 1) (by omega) (.int .i64 x)
    obtain ⟨d0, d1, d2⟩ := hR4.cells
    obtain ⟨r0, r1, r2⟩ := hR3.frozen
    obtain ⟨p0, p1, p2⟩ := hR3.cells
    have hgs := stored3 (.int .i64 4) (.int .i64 x) (.string ⟨#[]⟩) d0 d1 d2
    have HD : Hid (DrewV w g ao n cap f 4 x ⟨#[]⟩ _) := DrewV.put (by unfold I64; omega) HX.out (by decide) (hC3.setNew (B := w.heap.size + 1) (i := 1) (.int .i64 x) (by omega) (fun a ha h0 => by have := HC.out a ha h0; omega)) (hB4.setNew (Nat.le_of_lt hlt1) _) hg HC.out
    clear hC3 hB3 hB4 hB2 hC2 hV2 hR2 hV3 hR3 hR4
    go_wp2
    exact bodyPost_ret (v := .agg #[_, _, _]) (by simp [results, Try.results80, go_sem, hgs]) rfl ⟨4, x, ⟨#[]⟩, rfl, HD.out, fits_bool false (by omega)⟩
end Go.Proofs.Ytclegljalndaeac

/-
  The draw of a value, right or not, as far as a law leans on it.
-/
namespace Go.Proofs.Ytclegljalndaeac
open Go.RowKit
set_option maxRecDepth 4000

theorem DrewV.alloc {w w' : World} {g : Nat} {ao : Option Addr} {n cap : Nat} {f : Nat → Int} {k m : Int} {s : ByteArray} (h : DrewV w g ao n cap f k m s w') (o : Obj) : DrewV w g ao n cap f k m s (w'.alloc o) :=
  ⟨h.k64, h.m64, h.few, h.cur.below ((Below.refl _ _).alloc (Nat.le_refl _) _), h.but.trans (But.alloc g w' o)⟩

theorem getD_memS {l : List ByteArray} {j : Nat} (h : j < l.length) : l.getD j ⟨#[]⟩ ∈ l := by simp [h]

/-- One of a list of texts that is laid anew. -/
theorem l1Str_of (g : Nat) (ao : Option Addr) (n cap : Nat) (f : Nat → Int) (l : List ByteArray) (A : Nat) (w : World) (hA : A = w.heap.size) (hn : n ≤ 1048576) (h0 : 0 < l.length) (h1 : l.length ≤ 1000) (hl : ∀ y ∈ l, y.size ≤ 40) (hC : Cur w g ao n cap f) :
    Calls Try.prog 100 #[.pointer (some ⟨g, 0, none⟩), .slice (some ⟨A, 0, none⟩) l.length l.length] (w.alloc (.cells (l.map Value.string).toArray 9)) fun e w' => ∃ z : ByteArray, e = .returned (.string z) ∧ z.size ≤ 40 ∧ Cur w' g ao n cap f ∧ But g w w' := by
  subst hA
  have hb : Below w.heap.size w (w.alloc (.cells (l.map Value.string).toArray 9)) := (Below.refl _ _).alloc (Nat.le_refl _) _
  have hg := hC.lt
  refine (l1Str_any g ao n cap f w.heap.size l.length (fun i => l.getD i ⟨#[]⟩) _ hn h0 (by omega) (newStrs w l 9) (by omega) (hC.below hb)).mono ?_
  rintro e w' ⟨j, hj, rfl, hC2, hO2⟩
  exact ⟨_, rfl, hl _ (getD_memS hj), hC2, (But.ofBelow hb).trans (But.ofOnly hO2)⟩

set_option maxHeartbeats 2000000 in
theorem l2Draw_any (g : Nat) (ao : Option Addr) (n cap : Nat) (f : Nat → Int) (w : World) (hn : n ≤ 1048576) (hC : Cur w g ao n cap f) :
    Calls Try.prog 79 #[.pointer (some ⟨g, 0, none⟩)] w fun e w' => ∃ (k m : Int) (s : ByteArray), e = .returned (.agg #[.int .i64 k, .int .i64 m, .string s]) ∧ DrewV w g ao n cap f k m s w' := by
  have hg := hC.lt
  have HC : Hid (∀ a, ao = some a → 0 < n → a.block < w.heap.size) := hC.code
  have hb0 : Below w.heap.size w (w.alloc (.cells #[.int .i64 0, .int .i64 0, .string ⟨#[]⟩] 29)) := (Below.refl _ _).alloc (Nat.le_refl _) _
  have hR0 := Box.new w 0 0 ⟨#[]⟩
  have hC0 := hC.below hb0
  have hB0 : But g w (w.alloc (.cells #[.int .i64 0, .int .i64 0, .string ⟨#[]⟩] 29)) := But.ofBelow hb0
  clear hb0 hC
  go_enter Try.func79, Try.ntmps79
  go_wp2_with fail
  refine (l1Below_any g ao n cap f 4 _ hn (by omega) (by omega) hC0).mono ?_
  rintro e w1 ⟨x, rfl, hx0, hx1, hC1, hO1⟩
  have hB1 := hB0.trans (But.ofOnly hO1)
  have hR1 := hR0.but (But.ofOnly hO1) (by omega)
  clear hC0 hO1 hR0 hB0
  go_wp2_with fail
  refine (l2Of_any g ao n cap f (1 + x) w1 hn (by omega) (by omega) hC1).mono ?_
  rintro e w2 ⟨k, m, s, rfl, hD⟩
  have hR2 := hR1.but hD.but (by omega)
  have HD : Hid (DrewV w g ao n cap f k m s _) := DrewV.put hD.k64 hD.m64 hD.few hD.cur (hB1.trans hD.but) hg HC.out
  obtain ⟨c0, c1, c2⟩ := hR2.cells
  obtain ⟨f0, f1, f2⟩ := hR2.frozen
  have hgs := stored3 (.int .i64 k) (.int .i64 m) (.string s) c0 c1 c2
  clear hC1 hB1 hR1 hD hR2
  go_wp2
  exact bodyPost_ret (v := .agg #[_, _, _]) (by simp [results, Try.results79, go_sem, hgs]) rfl ⟨k, m, s, rfl, HD.out⟩

set_option maxHeartbeats 4000000 in
theorem l2Any_any (g : Nat) (ao : Option Addr) (n cap : Nat) (f : Nat → Int) (w : World) (hn : n ≤ 1048576) (hC : Cur w g ao n cap f) :
    Calls Try.prog 68 #[.pointer (some ⟨g, 0, none⟩)] w fun e w' => ∃ (k m : Int) (s : ByteArray), e = .returned (.agg #[.int .i64 k, .int .i64 m, .string s]) ∧ DrewV w g ao n cap f k m s w' := by
  have hg := hC.lt
  have HC : Hid (∀ a, ao = some a → 0 < n → a.block < w.heap.size) := hC.code
  have hb0 : Below w.heap.size w (w.alloc (.cells #[.int .i64 0, .int .i64 0, .string ⟨#[]⟩] 29)) := (Below.refl _ _).alloc (Nat.le_refl _) _
  have hR0 := Box.new w 0 0 ⟨#[]⟩
  have hC0 := hC.below hb0
  have hB0 : But g w (w.alloc (.cells #[.int .i64 0, .int .i64 0, .string ⟨#[]⟩] 29)) := But.ofBelow hb0
  clear hb0 hC
  go_enter Try.func68, Try.ntmps68
  go_wp2_with fail
  refine (l2Draw_any g ao n cap f _ hn hC0).mono ?_
  rintro e w1 ⟨k, m, s, rfl, hD⟩
  have hR1 := hR0.but hD.but (by omega)
  have hlt1 : w.heap.size < w1.heap.size := hR1.lt
  have HK : Hid (I64 k ∧ I64 m ∧ s.size ≤ 40) := ⟨hD.k64, hD.m64, hD.few⟩
  have hb2 : Below w1.heap.size w1 (w1.alloc (.cells #[.int .i64 k, .int .i64 m, .string s] 29)) := (Below.refl _ _).alloc (Nat.le_refl _) _
  have hV2 := Box.new w1 k m s
  have hR2 := hR1.below hb2
  have hC2 := hD.cur.below hb2
  have hB2 := (hB0.trans hD.but).trans (But.ofBelow (g := g) hb2)
  clear hb2 hR1 hR0 hB0 hC0 hD
  go_wp2_with fail
  refine (l1Below_any g ao n cap f 10 (w1.alloc (.cells #[.int .i64 k, .int .i64 m, .string s] 29)) hn (by omega) (by omega) hC2).mono ?_
  rintro e w3 ⟨x, rfl, hx0, hx1, hC3, hO3⟩
  have hB3 : But g _ w3 := But.ofOnly hO3
  have hV3 := hV2.but hB3 (by omega)
  have hR3 := hR2.but hB3 (by omega)
  have hB4 := hB2.trans hB3
  have hlt3 : w1.heap.size < w3.heap.size := hV3.lt
  clear hO3 hC2 hB2 hB3 hV2 hR2
  by_cases h0 : x = 0
  · subst h0
    go_wp2_with fail
    refine (l1Below_any g ao n cap f 6 w3 hn (by omega) (by omega) hC3).mono ?_
    rintro e w5 ⟨y, rfl, hy0, hy1, hC5, hO5⟩
    have hB5 : But g _ w5 := But.ofOnly hO5
    have HY : Hid (I64 y) := by show I64 y; unfold I64; omega
    clear hO5
    have hV5 := hV3.but hB5 (by omega)
    have hR5 := hR3.but hB5 (by omega)
    have hB6 := hB4.trans hB5
    obtain ⟨c0, c1, c2⟩ := hV5.cells
    obtain ⟨f0, f1, f2⟩ := hV5.frozen
    have hR6 := hR5.other (D := w1.heap.size) (i := 0) (by omega) (.int .i64 y)
    obtain ⟨d0, d1, d2⟩ := hR6.cells
    obtain ⟨r0, r1, r2⟩ := hR5.frozen
    obtain ⟨p0, p1, p2⟩ := hR5.cells
    have hgs := stored3 (.int .i64 y) (.int .i64 m) (.string s) d0 d1 d2
    have HD : Hid (DrewV w g ao n cap f y m s _) := DrewV.put HY.out HK.out.2.1 HK.out.2.2 (hC5.setNew (B := w1.heap.size) (i := 0) (.int .i64 y) (by omega) (fun a ha h0 => by have := HC.out a ha h0; omega)) (hB6.setNew (Nat.le_of_lt hlt1) _) hg HC.out
    clear hC5 hB5 hB6 hB4 hC3 hV3 hR3 hV5 hR5 hR6
    go_wp2
    exact bodyPost_ret (v := .agg #[_, _, _]) (by simp [results, Try.results68, go_sem, hgs]) rfl ⟨y, m, s, rfl, HD.out⟩
  by_cases h1 : x = 1
  · subst h1
    go_wp2_with fail
    refine (l1Num_any g ao n cap f w3 hn hC3).mono ?_
    rintro e w5 ⟨y, rfl, hy, hC5, hB5⟩
    have HY : Hid (I64 y) := hy
    clear hy
    have hV5 := hV3.but hB5 (by omega)
    have hR5 := hR3.but hB5 (by omega)
    have hB6 := hB4.trans hB5
    obtain ⟨c0, c1, c2⟩ := hV5.cells
    obtain ⟨f0, f1, f2⟩ := hV5.frozen
    have hR6 := hR5.other (D := w1.heap.size) (i := 1) (by omega) (.int .i64 y)
    obtain ⟨d0, d1, d2⟩ := hR6.cells
    obtain ⟨r0, r1, r2⟩ := hR5.frozen
    obtain ⟨p0, p1, p2⟩ := hR5.cells
    have hgs := stored3 (.int .i64 k) (.int .i64 y) (.string s) d0 d1 d2
    have HD : Hid (DrewV w g ao n cap f k y s _) := DrewV.put HK.out.1 HY.out HK.out.2.2 (hC5.setNew (B := w1.heap.size) (i := 1) (.int .i64 y) (by omega) (fun a ha h0 => by have := HC.out a ha h0; omega)) (hB6.setNew (Nat.le_of_lt hlt1) _) hg HC.out
    clear hC5 hB5 hB6 hB4 hC3 hV3 hR3 hV5 hR5 hR6
    go_wp2
    exact bodyPost_ret (v := .agg #[_, _, _]) (by simp [results, Try.results68, go_sem, hgs]) rfl ⟨k, y, s, rfl, HD.out⟩
  by_cases h2 : x = 2
  · subst h2
    go_wp2_with fail
    refine (l1Below_any g ao n cap f 2 w3 hn (by omega) (by omega) hC3).mono ?_
    rintro e w4 ⟨y, rfl, hy0, hy1, hC4, hO4⟩
    have hBy : But g _ w4 := But.ofOnly hO4
    clear hO4
    obtain rfl | rfl : y = 0 ∨ y = 1 := by omega
    · have hmk := run_make_row' (P := Try.prog) 22 5 (.int .u8 0) 1 Try.underlying22 Try.info5 rfl .i64 .i64 30 (by omega) (by omega)
      rw [show ((30 : Nat) : Int) = 30 from rfl] at hmk
      have hcv : (convert 22 9 (.slice (some ⟨w4.heap.size, 0, none⟩) 30 30)).run Try.prog (w4.alloc (.cells (madeCells #[.int .u8 0] 30) 5)) = .ok (.string (strOfNums (lof 30 (fun _ => 0)))) _ :=
        conv_view (View.ofRow (f := fun _ => 0) (World.rowIs_made w4 (Value.int .u8 0) 30 5) (Nat.le_refl _) (Nat.le_refl _) (fun i _ => by omega))
      have hz : (strOfNums (lof 30 (fun _ => 0))).size ≤ 40 := by rw [strOfNums_size, lof_len]; decide
      generalize strOfNums (lof 30 (fun _ => 0)) = z at *
      have hV5 := hV3.but hBy (by omega)
      have hR5 := hR3.but hBy (by omega)
      have hlt5 : w1.heap.size < w4.heap.size := hV5.lt
      have hlt6 : w.heap.size < w4.heap.size := hR5.lt
      have hB6 := hB4.trans hBy
      obtain ⟨c0, c1, c2⟩ := hV5.cells
      obtain ⟨f0, f1, f2⟩ := hV5.frozen
      have hR6 := hR5.other (D := w1.heap.size) (i := 2) (by omega) (.string z)
      obtain ⟨d0, d1, d2⟩ := hR6.cells
      obtain ⟨r0, r1, r2⟩ := hR5.frozen
      obtain ⟨p0, p1, p2⟩ := hR5.cells
      have hgs := stored3A (.int .i64 k) (.int .i64 m) (.string z) d0 d1 d2 (by simpa using hlt6) (.cells (madeCells #[.int .u8 0] 30) 5)
      have HD : Hid (DrewV w g ao n cap f k m z _) := (DrewV.put HK.out.1 HK.out.2.1 hz (hC4.setNew (B := w1.heap.size) (i := 2) (.string z) (by omega) (fun a ha h0 => by have := HC.out a ha h0; omega)) (hB6.setNew (Nat.le_of_lt hlt1) _) hg HC.out).alloc (.cells (madeCells #[.int .u8 0] 30) 5)
      clear hC4 hBy hB6 hB4 hC3 hV3 hR3 hV5 hR5 hR6
      go_wp2
      exact bodyPost_ret (v := .agg #[_, _, _]) (by simp [results, Try.results68, go_sem, hgs]) rfl ⟨k, m, z, rfl, HD.out⟩
    · have hmk := run_make_row' (P := Try.prog) 22 5 (.int .u8 0) 1 Try.underlying22 Try.info5 rfl .i64 .i64 31 (by omega) (by omega)
      rw [show ((31 : Nat) : Int) = 31 from rfl] at hmk
      have hcv : (convert 22 9 (.slice (some ⟨w4.heap.size, 0, none⟩) 31 31)).run Try.prog (w4.alloc (.cells (madeCells #[.int .u8 0] 31) 5)) = .ok (.string (strOfNums (lof 31 (fun _ => 0)))) _ :=
        conv_view (View.ofRow (f := fun _ => 0) (World.rowIs_made w4 (Value.int .u8 0) 31 5) (Nat.le_refl _) (Nat.le_refl _) (fun i _ => by omega))
      have hz : (strOfNums (lof 31 (fun _ => 0))).size ≤ 40 := by rw [strOfNums_size, lof_len]; decide
      generalize strOfNums (lof 31 (fun _ => 0)) = z at *
      have hV5 := hV3.but hBy (by omega)
      have hR5 := hR3.but hBy (by omega)
      have hlt5 : w1.heap.size < w4.heap.size := hV5.lt
      have hlt6 : w.heap.size < w4.heap.size := hR5.lt
      have hB6 := hB4.trans hBy
      obtain ⟨c0, c1, c2⟩ := hV5.cells
      obtain ⟨f0, f1, f2⟩ := hV5.frozen
      have hR6 := hR5.other (D := w1.heap.size) (i := 2) (by omega) (.string z)
      obtain ⟨d0, d1, d2⟩ := hR6.cells
      obtain ⟨r0, r1, r2⟩ := hR5.frozen
      obtain ⟨p0, p1, p2⟩ := hR5.cells
      have hgs := stored3A (.int .i64 k) (.int .i64 m) (.string z) d0 d1 d2 (by simpa using hlt6) (.cells (madeCells #[.int .u8 0] 31) 5)
      have HD : Hid (DrewV w g ao n cap f k m z _) := (DrewV.put HK.out.1 HK.out.2.1 hz (hC4.setNew (B := w1.heap.size) (i := 2) (.string z) (by omega) (fun a ha h0 => by have := HC.out a ha h0; omega)) (hB6.setNew (Nat.le_of_lt hlt1) _) hg HC.out).alloc (.cells (madeCells #[.int .u8 0] 31) 5)
      clear hC4 hBy hB6 hB4 hC3 hV3 hR3 hV5 hR5 hR6
      go_wp2
      exact bodyPost_ret (v := .agg #[_, _, _]) (by simp [results, Try.results68, go_sem, hgs]) rfl ⟨k, m, z, rfl, HD.out⟩
  by_cases h3 : x = 3
  · subst h3
    have HL : Hid (∀ u ∈ [(⟨#[105, 116, 39, 115]⟩ : ByteArray), ⟨#[97, 32, 98]⟩, ⟨#[126]⟩, ⟨#[127]⟩], u.size ≤ 40) := by
      intro u hu
      simp only [List.mem_cons, List.not_mem_nil, or_false] at hu
      rcases hu with rfl | rfl | rfl | rfl <;> decide
    go_wp2_with fail
    refine (l1Str_of g ao n cap f [(⟨#[105, 116, 39, 115]⟩ : ByteArray), ⟨#[97, 32, 98]⟩, ⟨#[126]⟩, ⟨#[127]⟩] w3.heap.size w3 rfl hn (by simp) (by simp) HL.out hC3).mono ?_
    rintro e w5 ⟨z, rfl, hz, hC5, hB5⟩
    clear HL
    have hV5 := hV3.but hB5 (by omega)
    have hR5 := hR3.but hB5 (by omega)
    have hB6 := hB4.trans hB5
    obtain ⟨c0, c1, c2⟩ := hV5.cells
    obtain ⟨f0, f1, f2⟩ := hV5.frozen
    have hR6 := hR5.other (D := w1.heap.size) (i := 2) (by omega) (.string z)
    obtain ⟨d0, d1, d2⟩ := hR6.cells
    obtain ⟨r0, r1, r2⟩ := hR5.frozen
    obtain ⟨p0, p1, p2⟩ := hR5.cells
    have hgs := stored3 (.int .i64 k) (.int .i64 m) (.string z) d0 d1 d2
    have HD : Hid (DrewV w g ao n cap f k m z _) := DrewV.put HK.out.1 HK.out.2.1 hz (hC5.setNew (B := w1.heap.size) (i := 2) (.string z) (by omega) (fun a ha h0 => by have := HC.out a ha h0; omega)) (hB6.setNew (Nat.le_of_lt hlt1) _) hg HC.out
    clear hC5 hB5 hB6 hB4 hC3 hV3 hR3 hV5 hR5 hR6
    go_wp2
    exact bodyPost_ret (v := .agg #[_, _, _]) (by simp [results, Try.results68, go_sem, hgs]) rfl ⟨k, m, z, rfl, HD.out⟩
  · have q0 : (x == 0) = false := by simpa using h0
    have q1 : (x == 1) = false := by simpa using h1
    have q2 : (x == 2) = false := by simpa using h2
    have q3 : (x == 3) = false := by simpa using h3
    obtain ⟨c0, c1, c2⟩ := hV3.cells
    obtain ⟨d0, d1, d2⟩ := hR3.cells
    obtain ⟨r0, r1, r2⟩ := hR3.frozen
    have hgs := stored3 (.int .i64 k) (.int .i64 m) (.string s) d0 d1 d2
    have HD : Hid (DrewV w g ao n cap f k m s _) := DrewV.put HK.out.1 HK.out.2.1 HK.out.2.2 hC3 hB4 hg HC.out
    clear hB4 hC3 hV3 hR3
    go_wp2
    exact bodyPost_ret (v := .agg #[_, _, _]) (by simp [results, Try.results68, go_sem, hgs]) rfl ⟨k, m, s, rfl, HD.out⟩
end Go.Proofs.Ytclegljalndaeac

/-
  The model's l4Bytes and PutVar: what was there, and behind it the number's bytes, in memory of its own.
-/
namespace Go.Proofs.Ytclegljalndaeac
open Go.RowKit
set_option maxRecDepth 4000

theorem be_step (k : Nat) (n : Int) : lof (1 + k) (be (1 + k) n) = (n / 256 ^ k % 256) :: lof k (be k n) := by
  rw [lof_cons]
  unfold be dg
  rw [show 1 + k - 1 - 0 = k by omega]
  congr 2
  funext i
  rw [show 1 + k - 1 - (i + 1) = k - 1 - i by omega]

/-- k bytes of the number stand. -/
structure Bytes (t : TypeId) (w wr : World) (s : Int) (k g c : Nat) : Prop where
  low : 0 < k → 256 ^ (k - 1) ≤ s
  le : k ≤ c
  new : w.heap.size ≤ g
  row : Row t wr g k (be k s)
  below : Below w.heap.size w wr
theorem Bytes.view {t : TypeId} {w wr : World} {s : Int} {k g c : Nat} (h : Bytes t w wr s k g c) : View wr (some ⟨g, 0, none⟩) k c (be k s) := h.row.view h.le (fun i _ => be_bd _ _ i)

set_option maxHeartbeats 1000000 in
theorem l4Bytes_of (s : Int) (w : World) (hs0 : 0 ≤ s) (hs1 : s < 72057594037927936) :
    Calls Try.prog 120 #[.int .i64 s] w fun e w' => ∃ g c, e = .returned (.slice (some ⟨g, 0, none⟩) (cnt s) c) ∧ View w' (some ⟨g, 0, none⟩) (cnt s) c (be (cnt s) s) ∧ Below w.heap.size w w' := by
  obtain ⟨i0, hi, hz0, hz1, hz2⟩ := info_parts Try.info5
  have hB0 : Hid (Bytes 5 w (w.alloc (.cells #[] 5)) s 0 w.heap.size 0) :=
    ⟨fun h => absurd h (Nat.lt_irrefl _), Nat.le_refl _, Nat.le_refl _, Row.ofIs (World.rowIs_alloc w #[] 5 _ (fun j hj => absurd hj (Nat.not_lt_zero _))), (Below.refl _ _).alloc (Nat.le_refl _) _⟩
  go_enter Try.func120, Try.ntmps120
  go_wp2
  go_loopg [0, 3] (s.toNat + 1) (fun q a v wr => ∃ k g c : Nat, k ≤ 7 ∧ q = (s / 256 ^ k).toNat + 1 ∧ a = .int .i64 (s / 256 ^ k) ∧ v = .slice (some ⟨g, 0, none⟩) k c ∧ Bytes 5 w wr s k g c)
  case atStart => exact ⟨0, w.heap.size, 0, by omega, by simp, by simp, rfl, hB0.out⟩
  case round =>
    obtain ⟨k, g, c, hk, rfl, rfl, rfl, hB⟩ := hrel
    clear hB0
    have ha0 : 0 ≤ s / 256 ^ k := Int.ediv_nonneg hs0 (Int.le_of_lt (Int.pow_pos (by decide)))
    have ha1 : s / 256 ^ k ≤ s := Int.ediv_le_self _ hs0
    by_cases h0 : s / 256 ^ k = 0
    · have hlt : s < 256 ^ k := by
        have := Int.lt_mul_ediv_self_add (x := s) (k := 256 ^ k) (Int.pow_pos (by decide))
        rw [h0] at this
        simpa using this
      have hc : Hid (cnt s = k) := cnt_is s k hk hlt hB.low
      have hV := hB.view
      have hb := hB.below
      clear hB hlt ha0 ha1
      go_wp2
      go_ret
      exact ⟨g, c, by rw [hc.out]; rfl, by rw [hc.out]; exact hV, hb⟩
    · have hge : 256 ^ k ≤ s := by
        by_cases hh : 256 ^ k ≤ s
        · exact hh
        · exact absurd (Int.ediv_eq_zero_of_lt hs0 (by omega)) h0
      have hk6 : k < 7 := by
        by_cases hh : k < 7
        · exact hh
        · have := pow_mono (a := 7) (b := k) (by omega)
          have e : (256 : Int) ^ 7 = 72057594037927936 := by decide
          omega
      have HN : Hid (s / 256 ^ k / 256 = s / 256 ^ (1 + k)) := by show _ = _; rw [div_pow_succ, Nat.add_comm]
      have HL : Hid (lof (1 + k) (be (1 + k) s) = (s / 256 ^ k % 256) :: lof k (be k s)) := be_step k s
      have HG : Hid (256 ^ k ≤ s) := hge
      have hpos : 0 < s / 256 ^ k := by omega
      have hnew := hB.new
      have hb := hB.below
      have hsz := hb.size
      have hV : ∀ o, View (wr.alloc o) (some ⟨g, 0, none⟩) k c (be k s) := fun o => hB.view.below ((Below.refl _ _).alloc (Nat.le_refl _) _)
      clear hB h0 hge
      generalize s / 256 ^ k = a at *
      have hown0 := World.ownsRow_lit (base := w.heap.size) (e := 5) (size := 1) wr #[.int .u8 (a % 256)] 1 (by omega) (by unfold maxLen; omega) rfl
      have hcl := cells_of_view (hV (.cells #[.int .u8 (a % 256)] 5))
      go_wp2_with (at_builtin; go_must (refine wpList_append_own _ rfl (.tmp 9) (.tmp 10) 22 rfl w.heap.size 5 i0 (.int .u8 0) 1 1 Try.underlying22 hi hz0 hz1 hz2 rfl (by decide) (.slice (some ⟨wr.heap.size, 0, none⟩) 1 1) 1 [.int .u8 (a % 256)] rfl hown0 ⟨g, 0, none⟩ k c (bl (lof k (be k s))) rfl (by rw [bl_len, lof_len]; omega) hcl (bl_one _) (by unfold maxLen; omega) (by omega) (by simp; omega) ?_); intro v1 w1 hown1 hgr1 hnil)
      have hO : w1.ownsRow w.heap.size 5 1 v1 (1 + k) (bl ((a % 256) :: lof k (be k s))) := hown1
      obtain ⟨g1, c1, rfl, hg1, hc1, hr1⟩ := row_of_own hO (by omega)
      have hB1 : Hid (Bytes 5 w w1 s (1 + k) g1 c1) := by
        refine ⟨fun _ => by rw [Nat.add_sub_cancel_left]; exact HG.out, hc1, hg1, hr1.congr (fun i hi => ?_), ?_⟩
        · rw [← HL.out, lof_get (1 + k) _ i hi]
        · exact (hb.alloc hsz _).grown hgr1 (by simp; omega) (fun j hj => by simp only [Value.ownBlock, Option.some.injEq] at hj; omega)
      clear hown1 hO hgr1 hnil hr1 hown0 hcl hV hb
      go_wp2
      go_roundg ((a / 256).toNat + 1)
      case measure => omega
      case rel => exact ⟨1 + k, g1, c1, by omega, by rw [HN.out], by rw [HN.out], rfl, hB1.out⟩
theorem keptL_up (y : Int) (h : 0 ≤ y) : keptL y = (128 + (cnt y : Int)) :: lof (cnt y) (be (cnt y) y) := by
  have e : sizeV y = y := by unfold sizeV; rw [if_neg (by omega)]
  unfold keptL headV
  rw [e, if_neg (by omega)]
  congr 1
  unfold lof
  apply List.map_congr_left
  intro i _
  unfold tailV
  rw [e, if_neg (by omega)]
theorem keptL_down (y : Int) (h : y < 0) : keptL y = (127 - (cnt (-1 - y) : Int)) :: lof (cnt (-1 - y)) (flipF (be (cnt (-1 - y)) (-1 - y)) 0) := by
  have e : sizeV y = -1 - y := by unfold sizeV; rw [if_pos h]
  unfold keptL headV
  rw [e, if_pos h]
  congr 1
  unfold lof
  apply List.map_congr_left
  intro i _
  unfold tailV flipF
  rw [e, if_pos h, if_pos (by omega)]

theorem l4Bytes_any (s : Int) (k : Nat) (w : World) (hs0 : 0 ≤ s) (hs1 : s < 72057594037927936) (hk : cnt s = k) :
    Calls Try.prog 120 #[.int .i64 s] w fun e w' => ∃ g c, e = .returned (.slice (some ⟨g, 0, none⟩) k c) ∧ View w' (some ⟨g, 0, none⟩) k c (be k s) ∧ Below w.heap.size w w' := by
  subst hk
  exact l4Bytes_of s w hs0 hs1
theorem Below.grownAll {w w' : World} (h : Below w.heap.size w w') : w.grownBy w' none := ⟨h.os, h.tape, h.output, h.size, fun k hk _ => h.block k hk⟩

theorem own_below {w w' : World} {base : Nat} {t : TypeId} {v : Value} {n : Nat} {l : List Value} (h : w.ownsRow base t 1 v n l) (hb : Below w.heap.size w w') : w'.ownsRow base t 1 v n l := by
  refine h.kept (Below.grownAll hb) ?_
  cases hv : v.ownBlock with
  | none => exact Or.inl rfl
  | some k => exact Or.inr (fun e => by cases e)
theorem var_done {w w' : World} {B : Nat} {t : TypeId} {v : Value} {n k : Nat} {f F : Nat → Int} (z : Int) (h : w'.ownsRow B t 1 v (n + 1 + k) (bl (lof n f) ++ [.int .u8 z] ++ bl (lof k F))) (hs : w.heap.size ≤ B) :
    w'.ownsRow w.heap.size t 1 v (n + (z :: lof k F).length) (bl (lof n f ++ z :: lof k F)) := by
  have e1 : n + (z :: lof k F).length = n + 1 + k := by rw [List.length_cons, lof_len]; omega
  have e2 : bl (lof n f ++ z :: lof k F) = bl (lof n f) ++ [.int .u8 z] ++ bl (lof k F) := by
    rw [bl_append, List.append_assoc]
    rfl
  rw [e1, e2]
  obtain ⟨h1, h2⟩ := h
  refine ⟨h1, ?_⟩
  rcases h2 with h2 | ⟨g, cap, cur, rfl, hB, r⟩
  · exact Or.inl h2
  · exact Or.inr ⟨g, cap, cur, rfl, Nat.le_trans hs hB, r⟩

set_option maxHeartbeats 1000000 in
theorem putVar_own (b off n cap : Nat) (f : Nat → Int) (x : Int) (w : World) (hv : View w (some ⟨b, off, none⟩) n cap f) (hn : n ≤ 70368744170000) (hx0 : -9223372036854775808 ≤ x) (hx1 : x ≤ 9223372036854775807) :
    Calls Try.prog 105 #[.slice (some ⟨b, off, none⟩) n cap, .int .i64 x] w fun e w' => ∃ v, e = .returned v ∧ w'.ownsRow w.heap.size 5 1 v (n + (varL x).length) (bl (lof n f ++ varL x)) ∧ Below w.heap.size w w' := by
  obtain ⟨i0, hi, hz0, hz1, hz2⟩ := info_parts Try.info5
  have hcase : (1000000000000000 < x ∧ clampV x = 1000000000000000) ∨ (x < -1000000000000000 ∧ clampV x = -1000000000000000) ∨ (0 ≤ x ∧ x ≤ 1000000000000000 ∧ clampV x = x) ∨ (-1000000000000000 ≤ x ∧ x < 0 ∧ clampV x = x) := by
    unfold clampV; (repeat' split) <;> omega
  unfold varL
  rcases hcase with ⟨h1, hy⟩ | ⟨h1, hy⟩ | ⟨h1, h2, hy⟩ | ⟨h1, h2, hy⟩
  all_goals
    rw [hy]
    clear hy
  ·
    obtain ⟨k, hk⟩ : ∃ k, Hid (cnt (1000000000000000) = k) := ⟨_, rfl⟩
    have hk7 : k ≤ 7 := by rw [← hk.out]; exact cnt_le _
    have HK : Hid (keptL (1000000000000000) = (128 + (k : Int)) :: lof k (be k (1000000000000000))) := by
      have h := keptL_up (1000000000000000) (by omega)
      have e : cnt (1000000000000000) = k := hk.out
      rw [e] at h
      exact h
    go_enter Try.func105, Try.ntmps105
    go_wp2_with fail
    refine (l4Bytes_any (1000000000000000) k w (by omega) (by omega) hk.out).mono ?_
    rintro e w0 ⟨g, c, rfl, hV, hb⟩
    have hsz := hb.size
    have hown0 := World.ownsRow_lit (base := w0.heap.size) (e := 5) (size := 1) w0 #[] 0 (Nat.le_refl _) (Nat.zero_le _) rfl
    have hcl := cells_of_view ((hv.below hb).below ((Below.refl w0.heap.size w0).alloc (Nat.le_refl _) (.cells #[] 5)))
    go_wp2_with (first | (at_builtin; refine wpList_append_own _ rfl (.tmp 15) (.tmp 16) 22 rfl w0.heap.size 5 i0 (.int .u8 0) 1 1 Try.underlying22 hi hz0 hz1 hz2 rfl (by decide) (.slice (some ⟨w0.heap.size, 0, none⟩) 0 0) 0 [] rfl hown0 ⟨b, off, none⟩ n cap (bl (lof n f)) rfl (by rw [bl_len, lof_len]; omega) hcl (bl_one _) (by unfold maxLen; omega) (by omega) (by simp) ?_; intro v1 w1 hown1 hgr1 hnil1; simp only [Nat.zero_add, List.nil_append] at hown1; have hb1 : Below w0.heap.size w0 w1 := ((Below.refl _ _).alloc (Nat.le_refl _) _).grown hgr1 (by simp) (fun k hk => by simp only [Value.ownBlock, Option.some.injEq] at hk; omega); have hs1 := hb1.size; clear hown0 hcl hgr1 hnil1) | (at_builtin; refine wpList_append_own _ rfl (.tmp 17) (.tmp 22) 22 rfl w0.heap.size 5 i0 (.int .u8 0) 1 1 Try.underlying22 hi hz0 hz1 hz2 rfl (by decide) v1 _ _ rfl (hown1.alloc _) ⟨w1.heap.size, 0, none⟩ 1 1 [.int .u8 (128 + (k : Int))] rfl rfl (cellNew _ _ _) (bl_one [128 + (k : Int)]) (by unfold maxLen; omega) (by omega) (by simp; omega) ?_; intro v2 w2 hown2 hgr2 hnil2; have hb2 : Below w0.heap.size w0 w2 := (hb1.alloc hs1 _).grown hgr2 (by simp; omega) (fun k hk => (hown1.lt k hk).1); have hV2 := hV.below hb2; have hs2 := hb2.size; clear hgr2 hnil2 hb1 hown1) | (at_builtin; refine wpList_append_own _ rfl (.tmp 23) (.tmp 24) 22 rfl w0.heap.size 5 i0 (.int .u8 0) 1 1 Try.underlying22 hi hz0 hz1 hz2 rfl (by decide) v2 _ _ rfl hown2 ⟨g, 0, none⟩ k c (bl (lof k (be k (1000000000000000)))) rfl (by rw [bl_len, lof_len]; omega) (cells_of_view hV2) (bl_one _) (by unfold maxLen; omega) (by omega) (by omega) ?_; intro v4 w4 hown4 hgr4 hnil4; have hb4 : Below w0.heap.size w0 w4 := hb2.grown hgr4 hs2 (fun k hk => (hown2.lt k hk).1)))
    go_ret
    refine ⟨v4, rfl, ?_, hb.trans (hb4.mono hsz)⟩
    rw [HK.out]
    exact var_done _ hown4 hsz
  ·
    obtain ⟨k, hk⟩ : ∃ k, Hid (cnt (999999999999999) = k) := ⟨_, rfl⟩
    have hk7 : k ≤ 7 := by rw [← hk.out]; exact cnt_le _
    have HK : Hid (keptL (-1000000000000000) = (127 - (k : Int)) :: lof k (flipF (be k (999999999999999)) 0)) := by
      have h := keptL_down (-1000000000000000) (by omega)
      have e : cnt (-1 - (-1000000000000000)) = k := hk.out
      rw [e] at h
      exact h
    go_enter Try.func105, Try.ntmps105
    go_wp2_with fail
    refine (l4Bytes_any (999999999999999) k w (by omega) (by omega) hk.out).mono ?_
    rintro e w0 ⟨g, c, rfl, hV, hb⟩
    have hsz := hb.size
    have hown0 := World.ownsRow_lit (base := w0.heap.size) (e := 5) (size := 1) w0 #[] 0 (Nat.le_refl _) (Nat.zero_le _) rfl
    have hcl := cells_of_view ((hv.below hb).below ((Below.refl w0.heap.size w0).alloc (Nat.le_refl _) (.cells #[] 5)))
    go_wp2_with (first | (at_builtin; refine wpList_append_own _ rfl (.tmp 29) (.tmp 30) 22 rfl w0.heap.size 5 i0 (.int .u8 0) 1 1 Try.underlying22 hi hz0 hz1 hz2 rfl (by decide) (.slice (some ⟨w0.heap.size, 0, none⟩) 0 0) 0 [] rfl hown0 ⟨b, off, none⟩ n cap (bl (lof n f)) rfl (by rw [bl_len, lof_len]; omega) hcl (bl_one _) (by unfold maxLen; omega) (by omega) (by simp) ?_; intro v1 w1 hown1 hgr1 hnil1; simp only [Nat.zero_add, List.nil_append] at hown1; have hb1 : Below w0.heap.size w0 w1 := ((Below.refl _ _).alloc (Nat.le_refl _) _).grown hgr1 (by simp) (fun k hk => by simp only [Value.ownBlock, Option.some.injEq] at hk; omega); have hs1 := hb1.size; clear hown0 hcl hgr1 hnil1) | (at_builtin; refine wpList_append_own _ rfl (.tmp 31) (.tmp 36) 22 rfl w0.heap.size 5 i0 (.int .u8 0) 1 1 Try.underlying22 hi hz0 hz1 hz2 rfl (by decide) v1 _ _ rfl (hown1.alloc _) ⟨w1.heap.size, 0, none⟩ 1 1 [.int .u8 (127 - (k : Int))] rfl rfl (cellNew _ _ _) (bl_one [127 - (k : Int)]) (by unfold maxLen; omega) (by omega) (by simp; omega) ?_; intro v2 w2 hown2 hgr2 hnil2; have hb2 : Below w0.heap.size w0 w2 := (hb1.alloc hs1 _).grown hgr2 (by simp; omega) (fun k hk => (hown1.lt k hk).1); have hV2 := hV.below hb2; have hs2 := hb2.size; clear hgr2 hnil2 hb1 hown1))
    refine (flip_spec g 0 k c (be k (999999999999999)) 0 w2 hV2 (by omega)).mono ?_
    rintro e w3 ⟨g2, c2, rfl, hg2, hc2, hr3, hb3⟩
    have hown3 := own_below hown2 hb3
    have hV3 := hr3.view hc2 (flipF_byte 0 (fun i _ => be_bd _ _ i))
    replace hb3 := hb2.trans (hb3.mono hs2)
    have hs3 := hb3.size
    clear hown2 hb2 hV2 hr3
    go_wp2_with (at_builtin; refine wpList_append_own _ rfl (.tmp 37) (.tmp 39) 22 rfl w0.heap.size 5 i0 (.int .u8 0) 1 1 Try.underlying22 hi hz0 hz1 hz2 rfl (by decide) v2 _ _ rfl hown3 ⟨g2, 0, none⟩ k c2 (bl (lof k (flipF (be k (999999999999999)) 0))) rfl (by rw [bl_len, lof_len]; omega) (cells_of_view hV3) (bl_one _) (by unfold maxLen; omega) (by omega) (by omega) ?_; intro v4 w4 hown4 hgr4 hnil4; have hb4 : Below w0.heap.size w0 w4 := hb3.grown hgr4 hs3 (fun k hk => (hown3.lt k hk).1))
    go_ret
    refine ⟨v4, rfl, ?_, hb.trans (hb4.mono hsz)⟩
    rw [HK.out]
    exact var_done _ hown4 hsz
  ·
    obtain ⟨k, hk⟩ : ∃ k, Hid (cnt (x) = k) := ⟨_, rfl⟩
    have hk7 : k ≤ 7 := by rw [← hk.out]; exact cnt_le _
    have HK : Hid (keptL (x) = (128 + (k : Int)) :: lof k (be k (x))) := by
      have h := keptL_up (x) (by omega)
      have e : cnt (x) = k := hk.out
      rw [e] at h
      exact h
    go_enter Try.func105, Try.ntmps105
    go_wp2_with fail
    refine (l4Bytes_any (x) k w (by omega) (by omega) hk.out).mono ?_
    rintro e w0 ⟨g, c, rfl, hV, hb⟩
    have hsz := hb.size
    have hown0 := World.ownsRow_lit (base := w0.heap.size) (e := 5) (size := 1) w0 #[] 0 (Nat.le_refl _) (Nat.zero_le _) rfl
    have hcl := cells_of_view ((hv.below hb).below ((Below.refl w0.heap.size w0).alloc (Nat.le_refl _) (.cells #[] 5)))
    go_wp2_with (first | (at_builtin; refine wpList_append_own _ rfl (.tmp 15) (.tmp 16) 22 rfl w0.heap.size 5 i0 (.int .u8 0) 1 1 Try.underlying22 hi hz0 hz1 hz2 rfl (by decide) (.slice (some ⟨w0.heap.size, 0, none⟩) 0 0) 0 [] rfl hown0 ⟨b, off, none⟩ n cap (bl (lof n f)) rfl (by rw [bl_len, lof_len]; omega) hcl (bl_one _) (by unfold maxLen; omega) (by omega) (by simp) ?_; intro v1 w1 hown1 hgr1 hnil1; simp only [Nat.zero_add, List.nil_append] at hown1; have hb1 : Below w0.heap.size w0 w1 := ((Below.refl _ _).alloc (Nat.le_refl _) _).grown hgr1 (by simp) (fun k hk => by simp only [Value.ownBlock, Option.some.injEq] at hk; omega); have hs1 := hb1.size; clear hown0 hcl hgr1 hnil1) | (at_builtin; refine wpList_append_own _ rfl (.tmp 17) (.tmp 22) 22 rfl w0.heap.size 5 i0 (.int .u8 0) 1 1 Try.underlying22 hi hz0 hz1 hz2 rfl (by decide) v1 _ _ rfl (hown1.alloc _) ⟨w1.heap.size, 0, none⟩ 1 1 [.int .u8 (128 + (k : Int))] rfl rfl (cellNew _ _ _) (bl_one [128 + (k : Int)]) (by unfold maxLen; omega) (by omega) (by simp; omega) ?_; intro v2 w2 hown2 hgr2 hnil2; have hb2 : Below w0.heap.size w0 w2 := (hb1.alloc hs1 _).grown hgr2 (by simp; omega) (fun k hk => (hown1.lt k hk).1); have hV2 := hV.below hb2; have hs2 := hb2.size; clear hgr2 hnil2 hb1 hown1) | (at_builtin; refine wpList_append_own _ rfl (.tmp 23) (.tmp 24) 22 rfl w0.heap.size 5 i0 (.int .u8 0) 1 1 Try.underlying22 hi hz0 hz1 hz2 rfl (by decide) v2 _ _ rfl hown2 ⟨g, 0, none⟩ k c (bl (lof k (be k (x)))) rfl (by rw [bl_len, lof_len]; omega) (cells_of_view hV2) (bl_one _) (by unfold maxLen; omega) (by omega) (by omega) ?_; intro v4 w4 hown4 hgr4 hnil4; have hb4 : Below w0.heap.size w0 w4 := hb2.grown hgr4 hs2 (fun k hk => (hown2.lt k hk).1)))
    go_ret
    refine ⟨v4, rfl, ?_, hb.trans (hb4.mono hsz)⟩
    rw [HK.out]
    exact var_done _ hown4 hsz
  ·
    obtain ⟨k, hk⟩ : ∃ k, Hid (cnt (-1 - x) = k) := ⟨_, rfl⟩
    have hk7 : k ≤ 7 := by rw [← hk.out]; exact cnt_le _
    have HK : Hid (keptL (x) = (127 - (k : Int)) :: lof k (flipF (be k (-1 - x)) 0)) := by
      have h := keptL_down (x) (by omega)
      have e : cnt (-1 - (x)) = k := hk.out
      rw [e] at h
      exact h
    go_enter Try.func105, Try.ntmps105
    go_wp2_with fail
    refine (l4Bytes_any (-1 - x) k w (by omega) (by omega) hk.out).mono ?_
    rintro e w0 ⟨g, c, rfl, hV, hb⟩
    have hsz := hb.size
    have hown0 := World.ownsRow_lit (base := w0.heap.size) (e := 5) (size := 1) w0 #[] 0 (Nat.le_refl _) (Nat.zero_le _) rfl
    have hcl := cells_of_view ((hv.below hb).below ((Below.refl w0.heap.size w0).alloc (Nat.le_refl _) (.cells #[] 5)))
    go_wp2_with (first | (at_builtin; refine wpList_append_own _ rfl (.tmp 29) (.tmp 30) 22 rfl w0.heap.size 5 i0 (.int .u8 0) 1 1 Try.underlying22 hi hz0 hz1 hz2 rfl (by decide) (.slice (some ⟨w0.heap.size, 0, none⟩) 0 0) 0 [] rfl hown0 ⟨b, off, none⟩ n cap (bl (lof n f)) rfl (by rw [bl_len, lof_len]; omega) hcl (bl_one _) (by unfold maxLen; omega) (by omega) (by simp) ?_; intro v1 w1 hown1 hgr1 hnil1; simp only [Nat.zero_add, List.nil_append] at hown1; have hb1 : Below w0.heap.size w0 w1 := ((Below.refl _ _).alloc (Nat.le_refl _) _).grown hgr1 (by simp) (fun k hk => by simp only [Value.ownBlock, Option.some.injEq] at hk; omega); have hs1 := hb1.size; clear hown0 hcl hgr1 hnil1) | (at_builtin; refine wpList_append_own _ rfl (.tmp 31) (.tmp 36) 22 rfl w0.heap.size 5 i0 (.int .u8 0) 1 1 Try.underlying22 hi hz0 hz1 hz2 rfl (by decide) v1 _ _ rfl (hown1.alloc _) ⟨w1.heap.size, 0, none⟩ 1 1 [.int .u8 (127 - (k : Int))] rfl rfl (cellNew _ _ _) (bl_one [127 - (k : Int)]) (by unfold maxLen; omega) (by omega) (by simp; omega) ?_; intro v2 w2 hown2 hgr2 hnil2; have hb2 : Below w0.heap.size w0 w2 := (hb1.alloc hs1 _).grown hgr2 (by simp; omega) (fun k hk => (hown1.lt k hk).1); have hV2 := hV.below hb2; have hs2 := hb2.size; clear hgr2 hnil2 hb1 hown1))
    refine (flip_spec g 0 k c (be k (-1 - x)) 0 w2 hV2 (by omega)).mono ?_
    rintro e w3 ⟨g2, c2, rfl, hg2, hc2, hr3, hb3⟩
    have hown3 := own_below hown2 hb3
    have hV3 := hr3.view hc2 (flipF_byte 0 (fun i _ => be_bd _ _ i))
    replace hb3 := hb2.trans (hb3.mono hs2)
    have hs3 := hb3.size
    clear hown2 hb2 hV2 hr3
    go_wp2_with (at_builtin; refine wpList_append_own _ rfl (.tmp 37) (.tmp 39) 22 rfl w0.heap.size 5 i0 (.int .u8 0) 1 1 Try.underlying22 hi hz0 hz1 hz2 rfl (by decide) v2 _ _ rfl hown3 ⟨g2, 0, none⟩ k c2 (bl (lof k (flipF (be k (-1 - x)) 0))) rfl (by rw [bl_len, lof_len]; omega) (cells_of_view hV3) (bl_one _) (by unfold maxLen; omega) (by omega) (by omega) ?_; intro v4 w4 hown4 hgr4 hnil4; have hb4 : Below w0.heap.size w0 w4 := hb3.grown hgr4 hs3 (fun k hk => (hown3.lt k hk).1))
    go_ret
    refine ⟨v4, rfl, ?_, hb.trans (hb4.mono hsz)⟩
    rw [HK.out]
    exact var_done _ hown4 hsz
end Go.Proofs.Ytclegljalndaeac

