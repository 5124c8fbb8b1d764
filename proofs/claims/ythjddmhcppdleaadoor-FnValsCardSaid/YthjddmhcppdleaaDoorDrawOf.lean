/-
  The draw of a value of a type, as far as a law leans on it.
-/
import Derived.Test.YthjddmhcppdleaaDoorDrawVal
namespace Go.Proofs.YthjddmhcppdleaaDoor
open Go.RowKit

theorem Box.other {w : World} {B D i : Nat} {k n : Int} {s : ByteArray} (h : Box w B k n s) (hne : B ≠ D) (u : Value) : Box (w.setCell ⟨D, i, none⟩ u) B k n s := h.of_block (Below.heap_setCell _ _ _ _ hne)

/-- A value that is put into the result's variable, behind all that was there. -/
theorem DrewV.put {w w' : World} {g : Nat} {ao : Option Addr} {n cap : Nat} {f : Nat → Int} {k m : Int} {s : ByteArray} (hk : I64 k) (hm : I64 m) (hs : s.size ≤ 40) (hC : Cur w' g ao n cap f) (hB : But g w w') (hg : g < w.heap.size) (hc : ∀ a, ao = some a → 0 < n → a.block < w.heap.size) :
    DrewV w g ao n cap f k m s (((w'.setCell ⟨w.heap.size, 0, none⟩ (.int .i64 k)).setCell ⟨w.heap.size, 1, none⟩ (.int .i64 m)).setCell ⟨w.heap.size, 2, none⟩ (.string s)) :=
  ⟨hk, hm, hs, ((hC.setNew _ (by omega) (fun a ha h0 => by have := hc a ha h0; omega)).setNew _ (by omega) (fun a ha h0 => by have := hc a ha h0; omega)).setNew _ (by omega) (fun a ha h0 => by have := hc a ha h0; omega),
    ((hB.setNew (Nat.le_refl _) _).setNew (Nat.le_refl _) _).setNew (Nat.le_refl _) _⟩

set_option maxHeartbeats 2000000 in
theorem l2Of_any (g : Nat) (ao : Option Addr) (n cap : Nat) (f : Nat → Int) (t : Int) (w : World) (hn : n ≤ 1048576) (ht0 : 1 ≤ t) (ht1 : t ≤ 4) (hC : Cur w g ao n cap f) :
    Calls Tryd.prog 35 #[.pointer (some ⟨g, 0, none⟩), .int .i64 t, .bool true] w fun e w' => ∃ (k m : Int) (s : ByteArray), e = .returned (.agg #[.int .i64 k, .int .i64 m, .string s]) ∧ DrewV w g ao n cap f k m s w' := by
  have hg := hC.lt
  have HC : Hid (∀ a, ao = some a → 0 < n → a.block < w.heap.size) := hC.code
  have hb0 : Below w.heap.size w (w.alloc (.cells #[.int .i64 0, .int .i64 0, .string ⟨#[]⟩] 25)) := (Below.refl _ _).alloc (Nat.le_refl _) _
  have hR0 := Box.new w 0 0 ⟨#[]⟩
  have hC0 := hC.below hb0
  have hB0 : But g w (w.alloc (.cells #[.int .i64 0, .int .i64 0, .string ⟨#[]⟩] 25)) := But.ofBelow hb0
  clear hb0 hC
  go_enter Tryd.func35, Tryd.ntmps35
  go_wp2_with fail
  refine (l1Once_any g ao n cap f 4 _ hn (by omega) (by omega) hC0).mono ?_
  rintro e w1 ⟨b, rfl, hC1, hO1⟩
  have hB1 := hB0.trans (But.ofOnly hO1)
  have hR1 := hR0.but (But.ofOnly hO1) (by omega)
  clear hC0 hO1 hR0 hB0
  cases b with
  | true =>
    obtain ⟨c0, c1, c2⟩ := hR1.cells
    obtain ⟨f0, f1, f2⟩ := hR1.frozen
    have hgs := stored3 (.int .i64 0) (.int .i64 0) (.string ⟨#[]⟩) c0 c1 c2
    have HD : Hid (DrewV w g ao n cap f 0 0 ⟨#[]⟩ _) := DrewV.put (by unfold I64; omega) (by unfold I64; omega) (by decide) hC1 hB1 hg HC.out
    clear hC1 hB1 hR1
    go_wp2
    exact bodyPost_ret (v := .agg #[_, _, _]) (by simp [results, Tryd.results35, go_sem, hgs]) rfl ⟨0, 0, ⟨#[]⟩, rfl, HD.out⟩
  | false =>
    have hlt1 : w.heap.size < w1.heap.size := hR1.lt
    have hb2 : Below w1.heap.size w1 (w1.alloc (.cells #[.int .i64 t, .int .i64 0, .string ⟨#[]⟩] 25)) := (Below.refl _ _).alloc (Nat.le_refl _) _
    have hV2 := Box.new w1 t 0 ⟨#[]⟩
    have hR2 := hR1.below hb2
    have hC2 := hC1.below hb2
    have hB2 := hB1.trans (But.ofBelow (g := g) hb2)
    clear hb2 hC1 hB1 hR1
    obtain rfl | rfl | rfl | rfl : t = 1 ∨ t = 2 ∨ t = 3 ∨ t = 4 := by omega
    · have HL : Hid (∀ u ∈ [0, 1, 2, 3, -1, 255, 256, 2147483647, -2147483648], I64 u) := by
        intro u hu
        simp only [List.mem_cons, List.not_mem_nil, or_false] at hu
        unfold I64
        omega
      go_wp2_with fail
      refine (l1Int_of g ao n cap f [0, 1, 2, 3, -1, 255, 256, 2147483647, -2147483648] (w1.heap.size + 1) (w1.alloc (.cells #[.int .i64 1, .int .i64 0, .string ⟨#[]⟩] 25)) (by simp) hn (by simp) (by simp) HL.out hC2).mono ?_
      rintro e w3 ⟨x, rfl, hx, hC3, hB3⟩
      have HX : Hid (I64 x) := hx
      clear HL hx
      have hV3 := hV2.but hB3 (by omega)
      have hR3 := hR2.but hB3 (by omega)
      have hB4 := hB2.trans hB3
      obtain ⟨c0, c1, c2⟩ := hV3.cells
      obtain ⟨f0, f1, f2⟩ := hV3.frozen
      have hR4 := hR3.other (D := w1.heap.size) (i := 1) (by omega) (.int .i64 x)
      obtain ⟨d0, d1, d2⟩ := hR4.cells
      obtain ⟨r0, r1, r2⟩ := hR3.frozen
      obtain ⟨p0, p1, p2⟩ := hR3.cells
      have hgs := stored3 (.int .i64 1) (.int .i64 x) (.string ⟨#[]⟩) d0 d1 d2
      have HD : Hid (DrewV w g ao n cap f 1 x ⟨#[]⟩ _) := DrewV.put (by unfold I64; omega) HX.out (by decide) (hC3.setNew (B := w1.heap.size) (i := 1) (.int .i64 x) (by omega) (fun a ha h0 => by have := HC.out a ha h0; omega)) (hB4.setNew (Nat.le_of_lt hlt1) _) hg HC.out
      clear hC3 hB3 hB4 hB2 hC2 hV2 hR2 hV3 hR3 hR4
      go_wp2
      exact bodyPost_ret (v := .agg #[_, _, _]) (by simp [results, Tryd.results35, go_sem, hgs]) rfl ⟨1, x, ⟨#[]⟩, rfl, HD.out⟩
    · go_wp2_with fail
      refine (l1Below_any g ao n cap f 100000 (w1.alloc (.cells #[.int .i64 2, .int .i64 0, .string ⟨#[]⟩] 25)) hn (by omega) (by omega) hC2).mono ?_
      rintro e w2 ⟨y, rfl, hy0, hy1, hCy, hOy⟩
      have HL : Hid (∀ u ∈ [0, 1, -1, 255, 256, -256, -257, 65535, 1000000000000000, -1000000000000000, -y], I64 u) := by
        intro u hu
        simp only [List.mem_cons, List.not_mem_nil, or_false] at hu
        unfold I64
        omega
      have hBy : But g _ w2 := But.ofOnly hOy
      clear hOy
      go_wp2_with fail
      refine (l1Int_of g ao n cap f [0, 1, -1, 255, 256, -256, -257, 65535, 1000000000000000, -1000000000000000, -y] w2.heap.size w2 rfl hn (by simp) (by simp) HL.out hCy).mono ?_
      rintro e w3 ⟨x, rfl, hx, hC3, hB3⟩
      have HX : Hid (I64 x) := hx
      replace hB3 := hBy.trans hB3
      clear HL hx hBy hCy
      have hV3 := hV2.but hB3 (by omega)
      have hR3 := hR2.but hB3 (by omega)
      have hB4 := hB2.trans hB3
      obtain ⟨c0, c1, c2⟩ := hV3.cells
      obtain ⟨f0, f1, f2⟩ := hV3.frozen
      have hR4 := hR3.other (D := w1.heap.size) (i := 1) (by omega) (.int .i64 x)
      obtain ⟨d0, d1, d2⟩ := hR4.cells
      obtain ⟨r0, r1, r2⟩ := hR3.frozen
      obtain ⟨p0, p1, p2⟩ := hR3.cells
      have hgs := stored3 (.int .i64 2) (.int .i64 x) (.string ⟨#[]⟩) d0 d1 d2
      have HD : Hid (DrewV w g ao n cap f 2 x ⟨#[]⟩ _) := DrewV.put (by unfold I64; omega) HX.out (by decide) (hC3.setNew (B := w1.heap.size) (i := 1) (.int .i64 x) (by omega) (fun a ha h0 => by have := HC.out a ha h0; omega)) (hB4.setNew (Nat.le_of_lt hlt1) _) hg HC.out
      clear hC3 hB3 hB4 hB2 hC2 hV2 hR2 hV3 hR3 hR4
      go_wp2
      exact bodyPost_ret (v := .agg #[_, _, _]) (by simp [results, Tryd.results35, go_sem, hgs]) rfl ⟨2, x, ⟨#[]⟩, rfl, HD.out⟩
    · go_wp2_with fail
      refine (l2Text_any g ao n cap f (w1.alloc (.cells #[.int .i64 3, .int .i64 0, .string ⟨#[]⟩] 25)) hn hC2).mono ?_
      rintro e w3 ⟨s, rfl, hs, hC3, hB3⟩
      have hV3 := hV2.but hB3 (by omega)
      have hR3 := hR2.but hB3 (by omega)
      have hB4 := hB2.trans hB3
      obtain ⟨c0, c1, c2⟩ := hV3.cells
      obtain ⟨f0, f1, f2⟩ := hV3.frozen
      have hR4 := hR3.other (D := w1.heap.size) (i := 2) (by omega) (.string s)
      obtain ⟨d0, d1, d2⟩ := hR4.cells
      obtain ⟨r0, r1, r2⟩ := hR3.frozen
      obtain ⟨p0, p1, p2⟩ := hR3.cells
      have hgs := stored3 (.int .i64 3) (.int .i64 0) (.string s) d0 d1 d2
      have HD : Hid (DrewV w g ao n cap f 3 0 s _) := DrewV.put (by unfold I64; omega) (by unfold I64; omega) (by omega) (hC3.setNew (B := w1.heap.size) (i := 2) (.string s) (by omega) (fun a ha h0 => by have := HC.out a ha h0; omega)) (hB4.setNew (Nat.le_of_lt hlt1) _) hg HC.out
      clear hC3 hB3 hB4 hB2 hC2 hV2 hR2 hV3 hR3 hR4
      go_wp2
      exact bodyPost_ret (v := .agg #[_, _, _]) (by simp [results, Tryd.results35, go_sem, hgs]) rfl ⟨3, 0, s, rfl, HD.out⟩
    · go_wp2_with fail
      refine (l1Below_any g ao n cap f 2 (w1.alloc (.cells #[.int .i64 4, .int .i64 0, .string ⟨#[]⟩] 25)) hn (by omega) (by omega) hC2).mono ?_
      rintro e w3 ⟨x, rfl, hy0, hy1, hC3, hO3⟩
      have HX : Hid (I64 x) := by show I64 x; unfold I64; omega
      have hB3 : But g _ w3 := But.ofOnly hO3
      clear hO3
      have hV3 := hV2.but hB3 (by omega)
      have hR3 := hR2.but hB3 (by omega)
      have hB4 := hB2.trans hB3
      obtain ⟨c0, c1, c2⟩ := hV3.cells
      obtain ⟨f0, f1, f2⟩ := hV3.frozen
      have hR4 := hR3.other (D := w1.heap.size) (i := 1) (by omega) (.int .i64 x)
      obtain ⟨d0, d1, d2⟩ := hR4.cells
      obtain ⟨r0, r1, r2⟩ := hR3.frozen
      obtain ⟨p0, p1, p2⟩ := hR3.cells
      have hgs := stored3 (.int .i64 4) (.int .i64 x) (.string ⟨#[]⟩) d0 d1 d2
      have HD : Hid (DrewV w g ao n cap f 4 x ⟨#[]⟩ _) := DrewV.put (by unfold I64; omega) HX.out (by decide) (hC3.setNew (B := w1.heap.size) (i := 1) (.int .i64 x) (by omega) (fun a ha h0 => by have := HC.out a ha h0; omega)) (hB4.setNew (Nat.le_of_lt hlt1) _) hg HC.out
      clear hC3 hB3 hB4 hB2 hC2 hV2 hR2 hV3 hR3 hR4
      go_wp2
      exact bodyPost_ret (v := .agg #[_, _, _]) (by simp [results, Tryd.results35, go_sem, hgs]) rfl ⟨4, x, ⟨#[]⟩, rfl, HD.out⟩
end Go.Proofs.YthjddmhcppdleaaDoor
