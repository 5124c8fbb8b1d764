/-
  The draw of a value, right or not, as far as a law leans on it.
-/
import Derived.Test.YthjddmhcppdleaaDoorDrawOf
import Derived.Test.YthjddmhcppdleaaDoorConv
namespace Go.Proofs.YthjddmhcppdleaaDoor
open Go.RowKit

theorem DrewV.alloc {w w' : World} {g : Nat} {ao : Option Addr} {n cap : Nat} {f : Nat → Int} {k m : Int} {s : ByteArray} (h : DrewV w g ao n cap f k m s w') (o : Obj) : DrewV w g ao n cap f k m s (w'.alloc o) :=
  ⟨h.k64, h.m64, h.few, h.cur.below ((Below.refl _ _).alloc (Nat.le_refl _) _), h.but.trans (But.alloc g w' o)⟩

theorem getD_memS {l : List ByteArray} {j : Nat} (h : j < l.length) : l.getD j ⟨#[]⟩ ∈ l := by simp [h]

/-- One of a list of texts that is laid anew. -/
theorem l1Str_of (g : Nat) (ao : Option Addr) (n cap : Nat) (f : Nat → Int) (l : List ByteArray) (A : Nat) (w : World) (hA : A = w.heap.size) (hn : n ≤ 1048576) (h0 : 0 < l.length) (h1 : l.length ≤ 1000) (hl : ∀ y ∈ l, y.size ≤ 40) (hC : Cur w g ao n cap f) :
    Calls Tryd.prog 21 #[.pointer (some ⟨g, 0, none⟩), .slice (some ⟨A, 0, none⟩) l.length l.length] (w.alloc (.cells (l.map Value.string).toArray 9)) fun e w' => ∃ z : ByteArray, e = .returned (.string z) ∧ z.size ≤ 40 ∧ Cur w' g ao n cap f ∧ But g w w' := by
  subst hA
  have hb : Below w.heap.size w (w.alloc (.cells (l.map Value.string).toArray 9)) := (Below.refl _ _).alloc (Nat.le_refl _) _
  have hg := hC.lt
  refine (l1Str_any g ao n cap f w.heap.size l.length (fun i => l.getD i ⟨#[]⟩) _ hn h0 (by omega) (newStrs w l 9) (by omega) (hC.below hb)).mono ?_
  rintro e w' ⟨j, hj, rfl, hC2, hO2⟩
  exact ⟨_, rfl, hl _ (getD_memS hj), hC2, (But.ofBelow hb).trans (But.ofOnly hO2)⟩

set_option maxHeartbeats 2000000 in
theorem l2Draw_any (g : Nat) (ao : Option Addr) (n cap : Nat) (f : Nat → Int) (w : World) (hn : n ≤ 1048576) (hC : Cur w g ao n cap f) :
    Calls Tryd.prog 26 #[.pointer (some ⟨g, 0, none⟩)] w fun e w' => ∃ (k m : Int) (s : ByteArray), e = .returned (.agg #[.int .i64 k, .int .i64 m, .string s]) ∧ DrewV w g ao n cap f k m s w' := by
  have hg := hC.lt
  have HC : Hid (∀ a, ao = some a → 0 < n → a.block < w.heap.size) := hC.code
  have hb0 : Below w.heap.size w (w.alloc (.cells #[.int .i64 0, .int .i64 0, .string ⟨#[]⟩] 25)) := (Below.refl _ _).alloc (Nat.le_refl _) _
  have hR0 := Box.new w 0 0 ⟨#[]⟩
  have hC0 := hC.below hb0
  have hB0 : But g w (w.alloc (.cells #[.int .i64 0, .int .i64 0, .string ⟨#[]⟩] 25)) := But.ofBelow hb0
  clear hb0 hC
  go_enter Tryd.func26, Tryd.ntmps26
  go_wp2_with fail
  refine (l1Below_any g ao n cap f 4 _ hn (by omega) (by omega) hC0).mono ?_
  rintro e w1 ⟨x, rfl, hx0, hx1, hC1, hO1⟩
  have hB1 := hB0.trans (But.ofOnly hO1)
  have hR1 := hR0.but (But.ofOnly hO1) (by omega)
  clear hC0 hO1 hR0 hB0
  go_wp2_with fail
  refine (l2Of_any g ao n cap f (1 + x) w1 hn (by omega) (by omega) hC1).mono ?_
  rintro e w2 ⟨k, m, s, rfl, hD⟩
  have hR2 := hR1.but hD.but (by omega)
  have HD : Hid (DrewV w g ao n cap f k m s _) := DrewV.put hD.k64 hD.m64 hD.few hD.cur (hB1.trans hD.but) hg HC.out
  obtain ⟨c0, c1, c2⟩ := hR2.cells
  obtain ⟨f0, f1, f2⟩ := hR2.frozen
  have hgs := stored3 (.int .i64 k) (.int .i64 m) (.string s) c0 c1 c2
  clear hC1 hB1 hR1 hD hR2
  go_wp2
  exact bodyPost_ret (v := .agg #[_, _, _]) (by simp [results, Tryd.results26, go_sem, hgs]) rfl ⟨k, m, s, rfl, HD.out⟩

set_option maxHeartbeats 4000000 in
theorem l2Any_any (g : Nat) (ao : Option Addr) (n cap : Nat) (f : Nat → Int) (w : World) (hn : n ≤ 1048576) (hC : Cur w g ao n cap f) :
    Calls Tryd.prog 14 #[.pointer (some ⟨g, 0, none⟩)] w fun e w' => ∃ (k m : Int) (s : ByteArray), e = .returned (.agg #[.int .i64 k, .int .i64 m, .string s]) ∧ DrewV w g ao n cap f k m s w' := by
  have hg := hC.lt
  have HC : Hid (∀ a, ao = some a → 0 < n → a.block < w.heap.size) := hC.code
  have hb0 : Below w.heap.size w (w.alloc (.cells #[.int .i64 0, .int .i64 0, .string ⟨#[]⟩] 25)) := (Below.refl _ _).alloc (Nat.le_refl _) _
  have hR0 := Box.new w 0 0 ⟨#[]⟩
  have hC0 := hC.below hb0
  have hB0 : But g w (w.alloc (.cells #[.int .i64 0, .int .i64 0, .string ⟨#[]⟩] 25)) := But.ofBelow hb0
  clear hb0 hC
  go_enter Tryd.func14, Tryd.ntmps14
  go_wp2_with fail
  refine (l2Draw_any g ao n cap f _ hn hC0).mono ?_
  rintro e w1 ⟨k, m, s, rfl, hD⟩
  have hR1 := hR0.but hD.but (by omega)
  have hlt1 : w.heap.size < w1.heap.size := hR1.lt
  have HK : Hid (I64 k ∧ I64 m ∧ s.size ≤ 40) := ⟨hD.k64, hD.m64, hD.few⟩
  have hb2 : Below w1.heap.size w1 (w1.alloc (.cells #[.int .i64 k, .int .i64 m, .string s] 25)) := (Below.refl _ _).alloc (Nat.le_refl _) _
  have hV2 := Box.new w1 k m s
  have hR2 := hR1.below hb2
  have hC2 := hD.cur.below hb2
  have hB2 := (hB0.trans hD.but).trans (But.ofBelow (g := g) hb2)
  clear hb2 hR1 hR0 hB0 hC0 hD
  go_wp2_with fail
  refine (l1Below_any g ao n cap f 10 (w1.alloc (.cells #[.int .i64 k, .int .i64 m, .string s] 25)) hn (by omega) (by omega) hC2).mono ?_
  rintro e w3 ⟨x, rfl, hx0, hx1, hC3, hO3⟩
  have hB3 : But g _ w3 := But.ofOnly hO3
  have hV3 := hV2.but hB3 (by omega)
  have hR3 := hR2.but hB3 (by omega)
  have hB4 := hB2.trans hB3
  have hlt3 : w1.heap.size < w3.heap.size := hV3.lt
  clear hO3 hC2 hB2 hB3 hV2 hR2
  by_cases h0 : x = 0
  · subst h0
    go_wp2_with fail
    refine (l1Below_any g ao n cap f 6 w3 hn (by omega) (by omega) hC3).mono ?_
    rintro e w5 ⟨y, rfl, hy0, hy1, hC5, hO5⟩
    have hB5 : But g _ w5 := But.ofOnly hO5
    have HY : Hid (I64 y) := by show I64 y; unfold I64; omega
    clear hO5
    have hV5 := hV3.but hB5 (by omega)
    have hR5 := hR3.but hB5 (by omega)
    have hB6 := hB4.trans hB5
    obtain ⟨c0, c1, c2⟩ := hV5.cells
    obtain ⟨f0, f1, f2⟩ := hV5.frozen
    have hR6 := hR5.other (D := w1.heap.size) (i := 0) (by omega) (.int .i64 y)
    obtain ⟨d0, d1, d2⟩ := hR6.cells
    obtain ⟨r0, r1, r2⟩ := hR5.frozen
    obtain ⟨p0, p1, p2⟩ := hR5.cells
    have hgs := stored3 (.int .i64 y) (.int .i64 m) (.string s) d0 d1 d2
    have HD : Hid (DrewV w g ao n cap f y m s _) := DrewV.put HY.out HK.out.2.1 HK.out.2.2 (hC5.setNew (B := w1.heap.size) (i := 0) (.int .i64 y) (by omega) (fun a ha h0 => by have := HC.out a ha h0; omega)) (hB6.setNew (Nat.le_of_lt hlt1) _) hg HC.out
    clear hC5 hB5 hB6 hB4 hC3 hV3 hR3 hV5 hR5 hR6
    go_wp2
    exact bodyPost_ret (v := .agg #[_, _, _]) (by simp [results, Tryd.results14, go_sem, hgs]) rfl ⟨y, m, s, rfl, HD.out⟩
  by_cases h1 : x = 1
  · subst h1
    go_wp2_with fail
    refine (l1Num_any g ao n cap f w3 hn hC3).mono ?_
    rintro e w5 ⟨y, rfl, hy, hC5, hB5⟩
    have HY : Hid (I64 y) := hy
    clear hy
    have hV5 := hV3.but hB5 (by omega)
    have hR5 := hR3.but hB5 (by omega)
    have hB6 := hB4.trans hB5
    obtain ⟨c0, c1, c2⟩ := hV5.cells
    obtain ⟨f0, f1, f2⟩ := hV5.frozen
    have hR6 := hR5.other (D := w1.heap.size) (i := 1) (by omega) (.int .i64 y)
    obtain ⟨d0, d1, d2⟩ := hR6.cells
    obtain ⟨r0, r1, r2⟩ := hR5.frozen
    obtain ⟨p0, p1, p2⟩ := hR5.cells
    have hgs := stored3 (.int .i64 k) (.int .i64 y) (.string s) d0 d1 d2
    have HD : Hid (DrewV w g ao n cap f k y s _) := DrewV.put HK.out.1 HY.out HK.out.2.2 (hC5.setNew (B := w1.heap.size) (i := 1) (.int .i64 y) (by omega) (fun a ha h0 => by have := HC.out a ha h0; omega)) (hB6.setNew (Nat.le_of_lt hlt1) _) hg HC.out
    clear hC5 hB5 hB6 hB4 hC3 hV3 hR3 hV5 hR5 hR6
    go_wp2
    exact bodyPost_ret (v := .agg #[_, _, _]) (by simp [results, Tryd.results14, go_sem, hgs]) rfl ⟨k, y, s, rfl, HD.out⟩
  by_cases h2 : x = 2
  · subst h2
    go_wp2_with fail
    refine (l1Below_any g ao n cap f 2 w3 hn (by omega) (by omega) hC3).mono ?_
    rintro e w4 ⟨y, rfl, hy0, hy1, hC4, hO4⟩
    have hBy : But g _ w4 := But.ofOnly hO4
    clear hO4
    obtain rfl | rfl : y = 0 ∨ y = 1 := by omega
    · have hmk := run_make_row' (P := Tryd.prog) 22 5 (.int .u8 0) 1 Tryd.underlying22 Tryd.info5 rfl .i64 .i64 30 (by omega) (by omega)
      rw [show ((30 : Nat) : Int) = 30 from rfl] at hmk
      have hcv : (convert 22 9 (.slice (some ⟨w4.heap.size, 0, none⟩) 30 30)).run Tryd.prog (w4.alloc (.cells (madeCells #[.int .u8 0] 30) 5)) = .ok (.string (strOfNums (lof 30 (fun _ => 0)))) _ :=
        conv_view (View.ofRow (f := fun _ => 0) (World.rowIs_made w4 (Value.int .u8 0) 30 5) (Nat.le_refl _) (Nat.le_refl _) (fun i _ => by omega))
      have hz : (strOfNums (lof 30 (fun _ => 0))).size ≤ 40 := by rw [strOfNums_size, lof_len]; decide
      generalize strOfNums (lof 30 (fun _ => 0)) = z at *
      have hV5 := hV3.but hBy (by omega)
      have hR5 := hR3.but hBy (by omega)
      have hlt5 : w1.heap.size < w4.heap.size := hV5.lt
      have hlt6 : w.heap.size < w4.heap.size := hR5.lt
      have hB6 := hB4.trans hBy
      obtain ⟨c0, c1, c2⟩ := hV5.cells
      obtain ⟨f0, f1, f2⟩ := hV5.frozen
      have hR6 := hR5.other (D := w1.heap.size) (i := 2) (by omega) (.string z)
      obtain ⟨d0, d1, d2⟩ := hR6.cells
      obtain ⟨r0, r1, r2⟩ := hR5.frozen
      obtain ⟨p0, p1, p2⟩ := hR5.cells
      have hgs := stored3A (.int .i64 k) (.int .i64 m) (.string z) d0 d1 d2 (by simpa using hlt6) (.cells (madeCells #[.int .u8 0] 30) 5)
      have HD : Hid (DrewV w g ao n cap f k m z _) := (DrewV.put HK.out.1 HK.out.2.1 hz (hC4.setNew (B := w1.heap.size) (i := 2) (.string z) (by omega) (fun a ha h0 => by have := HC.out a ha h0; omega)) (hB6.setNew (Nat.le_of_lt hlt1) _) hg HC.out).alloc (.cells (madeCells #[.int .u8 0] 30) 5)
      clear hC4 hBy hB6 hB4 hC3 hV3 hR3 hV5 hR5 hR6
      go_wp2
      exact bodyPost_ret (v := .agg #[_, _, _]) (by simp [results, Tryd.results14, go_sem, hgs]) rfl ⟨k, m, z, rfl, HD.out⟩
    · have hmk := run_make_row' (P := Tryd.prog) 22 5 (.int .u8 0) 1 Tryd.underlying22 Tryd.info5 rfl .i64 .i64 31 (by omega) (by omega)
      rw [show ((31 : Nat) : Int) = 31 from rfl] at hmk
      have hcv : (convert 22 9 (.slice (some ⟨w4.heap.size, 0, none⟩) 31 31)).run Tryd.prog (w4.alloc (.cells (madeCells #[.int .u8 0] 31) 5)) = .ok (.string (strOfNums (lof 31 (fun _ => 0)))) _ :=
        conv_view (View.ofRow (f := fun _ => 0) (World.rowIs_made w4 (Value.int .u8 0) 31 5) (Nat.le_refl _) (Nat.le_refl _) (fun i _ => by omega))
      have hz : (strOfNums (lof 31 (fun _ => 0))).size ≤ 40 := by rw [strOfNums_size, lof_len]; decide
      generalize strOfNums (lof 31 (fun _ => 0)) = z at *
      have hV5 := hV3.but hBy (by omega)
      have hR5 := hR3.but hBy (by omega)
      have hlt5 : w1.heap.size < w4.heap.size := hV5.lt
      have hlt6 : w.heap.size < w4.heap.size := hR5.lt
      have hB6 := hB4.trans hBy
      obtain ⟨c0, c1, c2⟩ := hV5.cells
      obtain ⟨f0, f1, f2⟩ := hV5.frozen
      have hR6 := hR5.other (D := w1.heap.size) (i := 2) (by omega) (.string z)
      obtain ⟨d0, d1, d2⟩ := hR6.cells
      obtain ⟨r0, r1, r2⟩ := hR5.frozen
      obtain ⟨p0, p1, p2⟩ := hR5.cells
      have hgs := stored3A (.int .i64 k) (.int .i64 m) (.string z) d0 d1 d2 (by simpa using hlt6) (.cells (madeCells #[.int .u8 0] 31) 5)
      have HD : Hid (DrewV w g ao n cap f k m z _) := (DrewV.put HK.out.1 HK.out.2.1 hz (hC4.setNew (B := w1.heap.size) (i := 2) (.string z) (by omega) (fun a ha h0 => by have := HC.out a ha h0; omega)) (hB6.setNew (Nat.le_of_lt hlt1) _) hg HC.out).alloc (.cells (madeCells #[.int .u8 0] 31) 5)
      clear hC4 hBy hB6 hB4 hC3 hV3 hR3 hV5 hR5 hR6
      go_wp2
      exact bodyPost_ret (v := .agg #[_, _, _]) (by simp [results, Tryd.results14, go_sem, hgs]) rfl ⟨k, m, z, rfl, HD.out⟩
  by_cases h3 : x = 3
  · subst h3
    have HL : Hid (∀ u ∈ [(⟨#[105, 116, 39, 115]⟩ : ByteArray), ⟨#[97, 32, 98]⟩, ⟨#[126]⟩, ⟨#[127]⟩], u.size ≤ 40) := by
      intro u hu
      simp only [List.mem_cons, List.not_mem_nil, or_false] at hu
      rcases hu with rfl | rfl | rfl | rfl <;> decide
    go_wp2_with fail
    refine (l1Str_of g ao n cap f [(⟨#[105, 116, 39, 115]⟩ : ByteArray), ⟨#[97, 32, 98]⟩, ⟨#[126]⟩, ⟨#[127]⟩] w3.heap.size w3 rfl hn (by simp) (by simp) HL.out hC3).mono ?_
    rintro e w5 ⟨z, rfl, hz, hC5, hB5⟩
    clear HL
    have hV5 := hV3.but hB5 (by omega)
    have hR5 := hR3.but hB5 (by omega)
    have hB6 := hB4.trans hB5
    obtain ⟨c0, c1, c2⟩ := hV5.cells
    obtain ⟨f0, f1, f2⟩ := hV5.frozen
    have hR6 := hR5.other (D := w1.heap.size) (i := 2) (by omega) (.string z)
    obtain ⟨d0, d1, d2⟩ := hR6.cells
    obtain ⟨r0, r1, r2⟩ := hR5.frozen
    obtain ⟨p0, p1, p2⟩ := hR5.cells
    have hgs := stored3 (.int .i64 k) (.int .i64 m) (.string z) d0 d1 d2
    have HD : Hid (DrewV w g ao n cap f k m z _) := DrewV.put HK.out.1 HK.out.2.1 hz (hC5.setNew (B := w1.heap.size) (i := 2) (.string z) (by omega) (fun a ha h0 => by have := HC.out a ha h0; omega)) (hB6.setNew (Nat.le_of_lt hlt1) _) hg HC.out
    clear hC5 hB5 hB6 hB4 hC3 hV3 hR3 hV5 hR5 hR6
    go_wp2
    exact bodyPost_ret (v := .agg #[_, _, _]) (by simp [results, Tryd.results14, go_sem, hgs]) rfl ⟨k, m, z, rfl, HD.out⟩
  · have q0 : (x == 0) = false := by simpa using h0
    have q1 : (x == 1) = false := by simpa using h1
    have q2 : (x == 2) = false := by simpa using h2
    have q3 : (x == 3) = false := by simpa using h3
    obtain ⟨c0, c1, c2⟩ := hV3.cells
    obtain ⟨d0, d1, d2⟩ := hR3.cells
    obtain ⟨r0, r1, r2⟩ := hR3.frozen
    have hgs := stored3 (.int .i64 k) (.int .i64 m) (.string s) d0 d1 d2
    have HD : Hid (DrewV w g ao n cap f k m s _) := DrewV.put HK.out.1 HK.out.2.1 HK.out.2.2 hC3 hB4 hg HC.out
    clear hB4 hC3 hV3 hR3
    go_wp2
    exact bodyPost_ret (v := .agg #[_, _, _]) (by simp [results, Tryd.results14, go_sem, hgs]) rfl ⟨k, m, s, rfl, HD.out⟩
end Go.Proofs.YthjddmhcppdleaaDoor
