/-
  Bytes that are bent, and a place in bytes, as far as a law leans on their draws.
-/
import Derived.Test.YtfgigbgfkkmaiabDrawCore
namespace Go.Proofs.Ytfgigbgfkkmaiab
open Go.RowKit

/-- Of what lies below B block g alone may have turned. -/
structure Kept (B g : Nat) (w w' : World) : Prop where
  os : w'.os = w.os
  tape : w'.tape = w.tape
  output : w'.output = w.output
  size : w.heap.size ≤ w'.heap.size
  block : ∀ k, k < B → k ≠ g → w'.heap[k]? = w.heap[k]?
theorem Kept.ofBut {B g : Nat} {w w' : World} (h : But g w w') (hB : B ≤ w.heap.size) : Kept B g w w' := ⟨h.os, h.tape, h.output, h.size, fun k hk hg => h.block k (by omega) hg⟩
theorem Kept.trans {B g : Nat} {a b c : World} (h : Kept B g a b) (k : Kept B g b c) : Kept B g a c :=
  ⟨k.os.trans h.os, k.tape.trans h.tape, k.output.trans h.output, Nat.le_trans h.size k.size, fun i hi hg => (k.block i hi hg).trans (h.block i hi hg)⟩
theorem Kept.below {B g A : Nat} {w w' : World} (h : Kept B g w w') (h1 : A ≤ g) (h2 : A ≤ B) : Below A w w' := ⟨h.os, h.tape, h.output, h.size, fun k hk => h.block k (by omega) (by omega)⟩
theorem Kept.setCell {B g b i : Nat} {w w' : World} (h : Kept B g w w') (hb : B ≤ b) (u : Value) : Kept B g w (w'.setCell ⟨b, i, none⟩ u) :=
  ⟨h.os, h.tape, h.output, by simpa using h.size, fun k hk hg => by rw [Below.heap_setCell _ _ _ _ (by show k ≠ b; omega)]; exact h.block k hk hg⟩

/-- Bytes of the call's own that are bent: some bytes, no more than one beyond. -/
structure Bent (w' : World) (B N : Nat) (e : Ending) (b c m : Nat) (F : Nat → Int) : Prop where
  ret : e = .returned (.slice (some ⟨b, 0, none⟩) m c)
  few : m ≤ N + 1
  new : B ≤ b
  view : View w' (some ⟨b, 0, none⟩) m c F

theorem Cur.kept {B : Nat} {w w' : World} {g : Nat} {ao : Option Addr} {n cap : Nat} {f : Nat → Int} (h : Cur w g ao n cap f) (hk : ∀ k, k < B → w'.heap[k]? = w.heap[k]?) (hs : w.heap.size ≤ w'.heap.size) (hg : g < B) (hc : ∀ a, ao = some a → 0 < n → a.block < B) : Cur w' g ao n cap f := by
  obtain ⟨i, k, hr, h0, hi⟩ := h.cells
  refine ⟨⟨i, k, hr.of_block (hk g hg), h0, hi⟩, ⟨h.view.le, h.view.byte, fun hn => ?_⟩, h.apart⟩
  obtain ⟨b', off, e, hlt, hcc⟩ := h.view.cells hn
  refine ⟨b', off, e, Nat.lt_of_lt_of_le hlt hs, fun j hj => ?_⟩
  rw [World.cell?_of_block (w := w) (hk b' (hc _ e hn))]
  exact hcc j hj

theorem getD_byte {l : List Int} (h : ∀ y ∈ l, 0 ≤ y ∧ y ≤ 255) (i : Nat) (hi : i < l.length) : 0 ≤ l.getD i 0 ∧ l.getD i 0 ≤ 255 := h _ (getD_mem hi)

set_option maxHeartbeats 2000000 in
theorem l1Bend_any (g : Nat) (ao : Option Addr) (n cap : Nat) (f : Nat → Int) (B : Nat) (v : Value) (N : Nat) (l : List Int) (w : World) (hn : n ≤ 1048576) (hN0 : 0 < N) (hN : N ≤ 1048576) (hC : Cur w g ao n cap f) (hown : w.ownsRow B 5 1 v N (bl l)) (hl : l.length = N) (hyb : ∀ y ∈ l, 0 ≤ y ∧ y ≤ 255) (hg : g < B) (hc : ∀ a, ao = some a → 0 < n → a.block < B) (hBw : B ≤ w.heap.size) :
    Calls Try.prog 38 #[.pointer (some ⟨g, 0, none⟩), v] w fun e w' => (∃ (b c m : Nat) (F : Nat → Int), Bent w' B N e b c m F) ∧ Cur w' g ao n cap f ∧ Kept B g w w' := by
  obtain ⟨i0, hi, hz0, hz1, hz2⟩ := info_parts Try.info5
  obtain ⟨b, c, rfl, hb, hbc, hrow⟩ := row_of_own hown hN0
  have HY : Hid (∀ i, i < N → 0 ≤ l.getD i 0 ∧ l.getD i 0 ≤ 255) := fun i hi => getD_byte hyb i (by omega)
  have HB : Hid (∀ y ∈ l, 0 ≤ y ∧ y ≤ 255) := hyb
  have HL : Hid (l.length = N) := hl
  have HC : Hid (∀ a, ao = some a → 0 < n → a.block < B) := hc
  clear hyb hl hc
  have e0 : ((N : Int) == 0) = false := by simp; omega
  have hblt := hrow.lt
  go_enter Try.func38, Try.ntmps38
  go_wp2_with fail
  refine (l1Below_any g ao n cap f 5 w hn (by omega) (by omega) hC).mono ?_
  rintro e w1 ⟨x, rfl, hx0, hx1, hC1, hO1⟩
  have hr1 := hO1.row hrow (by omega)
  have hK1 : Kept B g w w1 := Kept.ofBut (But.ofOnly hO1) hBw
  have hs1 : w.heap.size ≤ w1.heap.size := hK1.size
  have hown1 := hown.kept hO1.grown (Or.inr (fun e => by have := (hown.lt g e).1; omega))
  clear hC hrow hown hO1
  by_cases h0 : x = 0
  · subst h0
    clear hown1
    go_wp2_with fail
    refine (l1Below_any g ao n cap f (N : Int) w1 hn (by omega) (by omega) hC1).mono ?_
    rintro e w2 ⟨y, rfl, hy0, hy1, hC2, hO2⟩
    obtain ⟨j, rfl⟩ := Int.eq_ofNat_of_zero_le hy0
    have hr2 := hO2.row hr1 (by omega)
    have hK2 := hK1.trans (Kept.ofBut (But.ofOnly hO2) (by omega))
    have hs2 : w.heap.size ≤ w2.heap.size := hK2.size
    have hl2 := hr2.lt
    have hg2 := hC2.lt
    clear hC1 hO2 hK1 hr1
    have HZ : Hid _ := newInts w2 [0, 1, 2, 127, 128, 255] 3
    have hb4 : Below w2.heap.size w2 (w2.alloc (.cells #[.int .i64 0, .int .i64 1, .int .i64 2, .int .i64 127, .int .i64 128, .int .i64 255] 3)) := (Below.refl _ _).alloc (Nat.le_refl _) _
    go_wp2_with fail
    refine (l1Int_any g ao n cap f w2.heap.size 6 (fun i => [0, 1, 2, 127, 128, 255].getD i 0) _ hn (by omega) (by omega) HZ.out (by omega) (hC2.below hb4)).mono ?_
    rintro e w4 ⟨q, hq, rfl, hC4, hO4⟩
    have hmem : [(0 : Int), 1, 2, 127, 128, 255].getD q 0 ∈ [(0 : Int), 1, 2, 127, 128, 255] := getD_mem hq
    have hxb : 0 ≤ [(0 : Int), 1, 2, 127, 128, 255].getD q 0 ∧ [(0 : Int), 1, 2, 127, 128, 255].getD q 0 ≤ 255 := by
      simp only [List.mem_cons, List.not_mem_nil, or_false] at hmem
      omega
    clear hmem HZ
    generalize [(0 : Int), 1, 2, 127, 128, 255].getD q 0 = z at *
    obtain ⟨hz0', hz1'⟩ := hxb
    have hr4 := hO4.row (hr2.belowAll hb4) (by omega)
    have hK4 := hK2.trans ((Kept.ofBut (But.ofBelow hb4) (by omega)).trans (Kept.ofBut (But.ofOnly hO4) (by have := hb4.size; omega)))
    have hcj := hr4.cell (i := j) (by omega)
    have hfj := hr4.frozen j
    have HS : Hid (Row 5 (w4.setCell ⟨b, j, none⟩ (.int .u8 z)) b N (fun i => if i = j then z else l.getD i 0)) := hr4.set j z
    have HK : Hid (Kept B g w (w4.setCell ⟨b, j, none⟩ (.int .u8 z))) := hK4.setCell hb _
    have HC4 : Hid (Cur (w4.setCell ⟨b, j, none⟩ (.int .u8 z)) g ao n cap f) := hC4.kept (B := B) (fun k hk => Below.heap_setCell _ _ _ _ (by show k ≠ b; omega)) (by simp) hg HC.out
    have hw : IntKind.u8.wrap z = z := by rw [u8_wrap]; omega
    have hjz : (j : Int) < (N : Int) := by omega
    clear hr2 hr4 hK2 hK4 hC2 hC4 hb4 hO4
    go_wp2
    go_ret
    refine ⟨⟨b, c, N, _, rfl, by omega, hb, HS.out.view hbc (fun i hi => ?_)⟩, HC4.out, HK.out⟩
    have := HY.out i hi
    split <;> omega
  · by_cases h1 : x = 1
    · subst h1
      clear hr1
      go_wp2_with (at_builtin; go_must (refine wpList_append_own _ rfl (.tmp 25) (.tmp 26) 22 rfl B 5 i0 (.int .u8 0) 1 1 Try.underlying22 hi hz0 hz1 hz2 rfl (by decide) (.slice (some ⟨b, 0, none⟩) N c) _ _ rfl (hown1.alloc _) ⟨w1.heap.size, 0, none⟩ 1 1 [.int .u8 3] rfl rfl (cellNew _ _ _) (bl_one [3]) (by unfold maxLen; omega) (by omega) (by simp; omega) ?_); intro v2 w2 hown2 hgr2 hnil)
      have hb2 : Below w1.heap.size w1 (w1.alloc (.cells #[.int .u8 3] 5)) := (Below.refl _ _).alloc (Nat.le_refl _) _
      have hO2 : w2.ownsRow B 5 1 v2 (N + 1) (bl (l ++ [3])) := by rw [bl_append]; exact hown2
      obtain ⟨b2, c2, rfl, hbb, hbc2, hrow2⟩ := row_of_own hO2 (by omega)
      have hkk : ∀ k, k < B → w2.heap[k]? = w1.heap[k]? := fun k hk => by
        rw [hgr2.block k (by simp; omega) (fun e => by have := (hown1.lt k e.symm).1; omega), Below.heap_alloc _ _ _ (by omega)]
      have hss : w1.heap.size ≤ w2.heap.size := Nat.le_trans (by simp) hgr2.size
      have HK : Hid (Kept B g w w2) := hK1.trans ⟨hgr2.os, hgr2.tape, hgr2.output, hss, fun k hk _ => hkk k hk⟩
      have HC4 : Hid (Cur w2 g ao n cap f) := hC1.kept (B := B) hkk hss hg HC.out
      have HY2 : Hid (∀ i, i < N + 1 → 0 ≤ (l ++ [3]).getD i 0 ∧ (l ++ [3]).getD i 0 ≤ 255) := fun i hi => by
        refine getD_byte ?_ i (by rw [List.length_append, HL.out]; simpa using hi)
        intro y hy
        rcases List.mem_append.1 hy with hy | hy
        · exact HB.out y hy
        · simp at hy; omega
      clear hgr2 hnil hown1 hown2 hO2 hkk hb2 hC1 hK1
      go_wp2
      go_ret
      exact ⟨⟨b2, c2, N + 1, _, rfl, by omega, hbb, hrow2.view hbc2 HY2.out⟩, HC4.out, HK.out⟩
    · by_cases h2 : x = 2
      · subst h2
        clear hown1
        go_wp2_with fail
        refine (l1Below_any g ao n cap f (N : Int) w1 hn (by omega) (by omega) hC1).mono ?_
        rintro e w2 ⟨y, rfl, hy0, hy1, hC2, hO2⟩
        obtain ⟨j, rfl⟩ := Int.eq_ofNat_of_zero_le hy0
        have hr2 := hO2.row hr1 (by omega)
        have HK : Hid (Kept B g w w2) := hK1.trans (Kept.ofBut (But.ofOnly hO2) (by omega))
        have HV : Hid (View w2 (some ⟨b, 0, none⟩) j c (fun i => l.getD i 0)) := (hr2.view hbc HY.out).take (by omega)
        have hjc : (j : Int) ≤ (c : Int) := by omega
        clear hC1 hr1 hr2 hO2 hK1
        go_wp2
        go_ret
        exact ⟨⟨b, c, j, _, rfl, by omega, hb, HV.out⟩, hC2, HK.out⟩
      · have q0 : (x == 0) = false := by simpa using h0
        have q1 : (x == 1) = false := by simpa using h1
        have q2 : (x == 2) = false := by simpa using h2
        clear hown1
        go_wp2
        go_ret
        exact ⟨⟨b, c, N, _, rfl, by omega, hb, hr1.view hbc HY.out⟩, hC1, hK1⟩

set_option maxHeartbeats 2000000 in
theorem l1At_any (g : Nat) (ao : Option Addr) (n cap : Nat) (f : Nat → Int) (a2 : Option Addr) (m c : Nat) (w : World) (hn : n ≤ 1048576) (hm : m ≤ 1048577) (hC : Cur w g ao n cap f) :
    Calls Try.prog 40 #[.pointer (some ⟨g, 0, none⟩), .slice a2 m c] w fun e w' => ∃ x : Int, e = .returned (.int .i64 x) ∧ -1 ≤ x ∧ x ≤ 9223372036854775807 ∧ Cur w' g ao n cap f ∧ But g w w' := by
  go_enter Try.func40, Try.ntmps40
  go_wp2_with fail
  refine (l1Below_any g ao n cap f ((m : Int) + 1) w hn (by omega) (by omega) hC).mono ?_
  rintro e w1 ⟨y, rfl, hy0, hy1, hC1, hO1⟩
  have hg1 := hC1.lt
  have HZ : Hid _ := newInts w1 [0, 0, 0, (m : Int), y, -1, 9223372036854775807] 3
  have hb4 : Below w1.heap.size w1 (w1.alloc (.cells #[.int .i64 0, .int .i64 0, .int .i64 0, .int .i64 (m : Int), .int .i64 y, .int .i64 (-1), .int .i64 9223372036854775807] 3)) := (Below.refl _ _).alloc (Nat.le_refl _) _
  have hB1 : But g w w1 := But.ofOnly hO1
  clear hC hO1
  go_wp2_with fail
  refine (l1Int_any g ao n cap f w1.heap.size 7 (fun i => [0, 0, 0, (m : Int), y, -1, 9223372036854775807].getD i 0) _ hn (by omega) (by omega) HZ.out (by omega) (hC1.below hb4)).mono ?_
  rintro e w4 ⟨q, hq, rfl, hC4, hO4⟩
  have hmem : [(0 : Int), 0, 0, (m : Int), y, -1, 9223372036854775807].getD q 0 ∈ [(0 : Int), 0, 0, (m : Int), y, -1, 9223372036854775807] := getD_mem hq
  have hxb : -1 ≤ [(0 : Int), 0, 0, (m : Int), y, -1, 9223372036854775807].getD q 0 ∧ [(0 : Int), 0, 0, (m : Int), y, -1, 9223372036854775807].getD q 0 ≤ 9223372036854775807 := by
    simp only [List.mem_cons, List.not_mem_nil, or_false] at hmem
    omega
  clear hmem HZ
  generalize [(0 : Int), 0, 0, (m : Int), y, -1, 9223372036854775807].getD q 0 = x at *
  obtain ⟨hx0, hx1⟩ := hxb
  have hB4 : But g w w4 := hB1.trans ((But.ofBelow hb4).trans (But.ofOnly hO4))
  clear hO4 hb4 hB1 hC1
  go_wp2
  go_ret
  exact ⟨x, rfl, hx0, hx1, hC4, hB4⟩
end Go.Proofs.Ytfgigbgfkkmaiab
