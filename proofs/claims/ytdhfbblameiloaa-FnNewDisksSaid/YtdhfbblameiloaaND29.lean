/-
  Together: DrawBend, DrawGetPage13, DrawOnce, DrawPageAt13, UpFive
-/
import Derived.Test.YtdhfbblameiloaaND2
import Derived.Test.YtdhfbblameiloaaND1
import Derived.Test.YtdhfbblameiloaaND19
import Derived.Deep.RegionWith
import Derived.Test.YtdhfbblameiloaaND28
import Derived.Test.YtdhfbblameiloaaND26
import Derived.Test.YtdhfbblameiloaaND20
import Derived.Test.YtdhfbblameiloaaND3
/-
  Bytes that are bent, and a place in bytes, as far as a law leans on their draws.
-/
namespace Go.Proofs.Ytdhfbblameiloaa
open Go.RowKit
set_option maxRecDepth 4000

/-- Of what lies below B block g alone may have turned. -/
structure Kept (B g : Nat) (w w' : World) : Prop where
  os : w'.os = w.os
  tape : w'.tape = w.tape
  output : w'.output = w.output
  size : w.heap.size ≤ w'.heap.size
  block : ∀ k, k < B → k ≠ g → w'.heap[k]? = w.heap[k]?
theorem Kept.ofBut {B g : Nat} {w w' : World} (h : But g w w') (hB : B ≤ w.heap.size) : Kept B g w w' := ⟨h.os, h.tape, h.output, h.size, fun k hk hg => h.block k (by omega) hg⟩
theorem Kept.trans {B g : Nat} {a b c : World} (h : Kept B g a b) (k : Kept B g b c) : Kept B g a c :=
  ⟨k.os.trans h.os, k.tape.trans h.tape, k.output.trans h.output, Nat.le_trans h.size k.size, fun i hi hg => (k.block i hi hg).trans (h.block i hi hg)⟩
theorem Kept.below {B g A : Nat} {w w' : World} (h : Kept B g w w') (h1 : A ≤ g) (h2 : A ≤ B) : Below A w w' := ⟨h.os, h.tape, h.output, h.size, fun k hk => h.block k (by omega) (by omega)⟩
theorem Kept.setCell {B g b i : Nat} {w w' : World} (h : Kept B g w w') (hb : B ≤ b) (u : Value) : Kept B g w (w'.setCell ⟨b, i, none⟩ u) :=
  ⟨h.os, h.tape, h.output, by simpa using h.size, fun k hk hg => by rw [Below.heap_setCell _ _ _ _ (by show k ≠ b; omega)]; exact h.block k hk hg⟩

/-- Bytes of the call's own that are bent: some bytes, no more than one beyond. -/
structure Bent (w' : World) (B N : Nat) (e : Ending) (b c m : Nat) (F : Nat → Int) : Prop where
  ret : e = .returned (.slice (some ⟨b, 0, none⟩) m c)
  few : m ≤ N + 1
  new : B ≤ b
  view : View w' (some ⟨b, 0, none⟩) m c F

/-- The same, the row being known. -/
structure BentR (w' : World) (B N : Nat) (e : Ending) (b c m : Nat) (F : Nat → Int) : Prop where
  ret : e = .returned (.slice (some ⟨b, 0, none⟩) m c)
  few : m ≤ N + 1
  new : B ≤ b
  le : m ≤ c
  byte : ∀ i, i < m → 0 ≤ F i ∧ F i ≤ 255
  row : Row 5 w' b m F
theorem BentR.to {w' : World} {B N : Nat} {e : Ending} {b c m : Nat} {F : Nat → Int} (h : BentR w' B N e b c m F) : Bent w' B N e b c m F := ⟨h.ret, h.few, h.new, h.row.view h.le h.byte⟩

theorem Cur.kept {B : Nat} {w w' : World} {g : Nat} {ao : Option Addr} {n cap : Nat} {f : Nat → Int} (h : Cur w g ao n cap f) (hk : ∀ k, k < B → w'.heap[k]? = w.heap[k]?) (hs : w.heap.size ≤ w'.heap.size) (hg : g < B) (hc : ∀ a, ao = some a → 0 < n → a.block < B) : Cur w' g ao n cap f := by
  obtain ⟨i, k, hr, h0, hi⟩ := h.cells
  refine ⟨⟨i, k, hr.of_block (hk g hg), h0, hi⟩, ⟨h.view.le, h.view.byte, fun hn => ?_⟩, h.apart⟩
  obtain ⟨b', off, e, hlt, hcc⟩ := h.view.cells hn
  refine ⟨b', off, e, Nat.lt_of_lt_of_le hlt hs, fun j hj => ?_⟩
  rw [World.cell?_of_block (w := w) (hk b' (hc _ e hn))]
  exact hcc j hj

theorem getD_byte {l : List Int} (h : ∀ y ∈ l, 0 ≤ y ∧ y ≤ 255) (i : Nat) (hi : i < l.length) : 0 ≤ l.getD i 0 ∧ l.getD i 0 ≤ 255 := h _ (getD_mem hi)

set_option maxHeartbeats 2000000 in
theorem l1Bend_row (g : Nat) (ao : Option Addr) (n cap : Nat) (f : Nat → Int) (B : Nat) (v : Value) (N : Nat) (l : List Int) (w : World) (hn : n ≤ 1048576) (hN0 : 0 < N) (hN : N ≤ 1048576) (hC : Cur w g ao n cap f) (hown : w.ownsRow B 5 1 v N (bl l)) (hl : l.length = N) (hyb : ∀ y ∈ l, 0 ≤ y ∧ y ≤ 255) (hg : g < B) (hc : ∀ a, ao = some a → 0 < n → a.block < B) (hBw : B ≤ w.heap.size) :
    Calls Try.prog 95 #[.pointer (some ⟨g, 0, none⟩), v] w fun e w' => (∃ (b c m : Nat) (F : Nat → Int), BentR w' B N e b c m F) ∧ Cur w' g ao n cap f ∧ Kept B g w w' := by
  obtain ⟨i0, hi, hz0, hz1, hz2⟩ := info_parts Try.info5
  obtain ⟨b, c, rfl, hb, hbc, hrow⟩ := row_of_own hown hN0
  have HY : Hid (∀ i, i < N → 0 ≤ l.getD i 0 ∧ l.getD i 0 ≤ 255) := fun i hi => getD_byte hyb i (by omega)
  have HB : Hid (∀ y ∈ l, 0 ≤ y ∧ y ≤ 255) := hyb
  have HL : Hid (l.length = N) := hl
  have HC : Hid (∀ a, ao = some a → 0 < n → a.block < B) := hc
  clear hyb hl hc
  have e0 : ((N : Int) == 0) = false := by simp; omega
  have hblt := hrow.lt
  go_enter Try.func95, Try.ntmps95
  go_wp2_with fail
  refine (l1Below_any g ao n cap f 5 w hn (by omega) (by omega) hC).mono ?_
  rintro e w1 ⟨x, rfl, hx0, hx1, hC1, hO1⟩
  have hr1 := hO1.row hrow (by omega)
  have hK1 : Kept B g w w1 := Kept.ofBut (But.ofOnly hO1) hBw
  have hs1 : w.heap.size ≤ w1.heap.size := hK1.size
  have hown1 := hown.kept hO1.grown (Or.inr (fun e => by have := (hown.lt g e).1; omega))
  clear hC hrow hown hO1
  by_cases h0 : x = 0
  · subst h0
    clear hown1
    go_wp2_with fail
    refine (l1Below_any g ao n cap f (N : Int) w1 hn (by omega) (by omega) hC1).mono ?_
    rintro e w2 ⟨y, rfl, hy0, hy1, hC2, hO2⟩
    obtain ⟨j, rfl⟩ := Int.eq_ofNat_of_zero_le hy0
    have hr2 := hO2.row hr1 (by omega)
    have hK2 := hK1.trans (Kept.ofBut (But.ofOnly hO2) (by omega))
    have hs2 : w.heap.size ≤ w2.heap.size := hK2.size
    have hl2 := hr2.lt
    have hg2 := hC2.lt
    clear hC1 hO2 hK1 hr1
    have HZ : Hid _ := newInts w2 [0, 1, 2, 127, 128, 255] 3
    have hb4 : Below w2.heap.size w2 (w2.alloc (.cells #[.int .i64 0, .int .i64 1, .int .i64 2, .int .i64 127, .int .i64 128, .int .i64 255] 3)) := (Below.refl _ _).alloc (Nat.le_refl _) _
    go_wp2_with fail
    refine (l1Int_any g ao n cap f w2.heap.size 6 (fun i => [0, 1, 2, 127, 128, 255].getD i 0) _ hn (by omega) (by omega) HZ.out (by omega) (hC2.below hb4)).mono ?_
    rintro e w4 ⟨q, hq, rfl, hC4, hO4⟩
    have hmem : [(0 : Int), 1, 2, 127, 128, 255].getD q 0 ∈ [(0 : Int), 1, 2, 127, 128, 255] := getD_mem hq
    have hxb : 0 ≤ [(0 : Int), 1, 2, 127, 128, 255].getD q 0 ∧ [(0 : Int), 1, 2, 127, 128, 255].getD q 0 ≤ 255 := by
      simp only [List.mem_cons, List.not_mem_nil, or_false] at hmem
      omega
    clear hmem HZ
    generalize [(0 : Int), 1, 2, 127, 128, 255].getD q 0 = z at *
    obtain ⟨hz0', hz1'⟩ := hxb
    have hr4 := hO4.row (hr2.belowAll hb4) (by omega)
    have hK4 := hK2.trans ((Kept.ofBut (But.ofBelow hb4) (by omega)).trans (Kept.ofBut (But.ofOnly hO4) (by have := hb4.size; omega)))
    have hcj := hr4.cell (i := j) (by omega)
    have hfj := hr4.frozen j
    have HS : Hid (Row 5 (w4.setCell ⟨b, j, none⟩ (.int .u8 z)) b N (fun i => if i = j then z else l.getD i 0)) := hr4.set j z
    have HK : Hid (Kept B g w (w4.setCell ⟨b, j, none⟩ (.int .u8 z))) := hK4.setCell hb _
    have HC4 : Hid (Cur (w4.setCell ⟨b, j, none⟩ (.int .u8 z)) g ao n cap f) := hC4.kept (B := B) (fun k hk => Below.heap_setCell _ _ _ _ (by show k ≠ b; omega)) (by simp) hg HC.out
    have hw : IntKind.u8.wrap z = z := by rw [u8_wrap]; omega
    have hjz : (j : Int) < (N : Int) := by omega
    clear hr2 hr4 hK2 hK4 hC2 hC4 hb4 hO4
    go_wp2
    go_ret
    refine ⟨⟨b, c, N, _, rfl, by omega, hb, hbc, fun i hi => ?_, HS.out⟩, HC4.out, HK.out⟩
    have := HY.out i hi
    split <;> omega
  · by_cases h1 : x = 1
    · subst h1
      clear hr1
      go_wp2_with (at_builtin; go_must (refine wpList_append_own _ rfl (.tmp 25) (.tmp 26) 27 rfl B 5 i0 (.int .u8 0) 1 1 Try.underlying27 hi hz0 hz1 hz2 rfl (by decide) (.slice (some ⟨b, 0, none⟩) N c) _ _ rfl (hown1.alloc _) ⟨w1.heap.size, 0, none⟩ 1 1 [.int .u8 3] rfl rfl (cellNew _ _ _) (bl_one [3]) (by unfold maxLen; omega) (by omega) (by simp; omega) ?_); intro v2 w2 hown2 hgr2 hnil)
      have hb2 : Below w1.heap.size w1 (w1.alloc (.cells #[.int .u8 3] 5)) := (Below.refl _ _).alloc (Nat.le_refl _) _
      have hO2 : w2.ownsRow B 5 1 v2 (N + 1) (bl (l ++ [3])) := by rw [bl_append]; exact hown2
      obtain ⟨b2, c2, rfl, hbb, hbc2, hrow2⟩ := row_of_own hO2 (by omega)
      have hkk : ∀ k, k < B → w2.heap[k]? = w1.heap[k]? := fun k hk => by
        rw [hgr2.block k (by simp; omega) (fun e => by have := (hown1.lt k e.symm).1; omega), Below.heap_alloc _ _ _ (by omega)]
      have hss : w1.heap.size ≤ w2.heap.size := Nat.le_trans (by simp) hgr2.size
      have HK : Hid (Kept B g w w2) := hK1.trans ⟨hgr2.os, hgr2.tape, hgr2.output, hss, fun k hk _ => hkk k hk⟩
      have HC4 : Hid (Cur w2 g ao n cap f) := hC1.kept (B := B) hkk hss hg HC.out
      have HY2 : Hid (∀ i, i < N + 1 → 0 ≤ (l ++ [3]).getD i 0 ∧ (l ++ [3]).getD i 0 ≤ 255) := fun i hi => by
        refine getD_byte ?_ i (by rw [List.length_append, HL.out]; simpa using hi)
        intro y hy
        rcases List.mem_append.1 hy with hy | hy
        · exact HB.out y hy
        · simp at hy; omega
      clear hgr2 hnil hown1 hown2 hO2 hkk hb2 hC1 hK1
      go_wp2
      go_ret
      exact ⟨⟨b2, c2, N + 1, _, rfl, by omega, hbb, hbc2, HY2.out, hrow2⟩, HC4.out, HK.out⟩
    · by_cases h2 : x = 2
      · subst h2
        clear hown1
        go_wp2_with fail
        refine (l1Below_any g ao n cap f (N : Int) w1 hn (by omega) (by omega) hC1).mono ?_
        rintro e w2 ⟨y, rfl, hy0, hy1, hC2, hO2⟩
        obtain ⟨j, rfl⟩ := Int.eq_ofNat_of_zero_le hy0
        have hr2 := hO2.row hr1 (by omega)
        have HK : Hid (Kept B g w w2) := hK1.trans (Kept.ofBut (But.ofOnly hO2) (by omega))
        have HV : Hid (Row 5 w2 b j (fun i => l.getD i 0)) := by
          obtain ⟨cu, u1, u2, u3⟩ := hr2
          exact ⟨cu, u1, by omega, fun i hi => u3 i (by omega)⟩
        have hjc : (j : Int) ≤ (c : Int) := by omega
        clear hC1 hr1 hr2 hO2 hK1
        go_wp2
        go_ret
        exact ⟨⟨b, c, j, _, rfl, by omega, hb, by omega, fun i hi => HY.out i (by omega), HV.out⟩, hC2, HK.out⟩
      · have q0 : (x == 0) = false := by simpa using h0
        have q1 : (x == 1) = false := by simpa using h1
        have q2 : (x == 2) = false := by simpa using h2
        clear hown1
        go_wp2
        go_ret
        exact ⟨⟨b, c, N, _, rfl, by omega, hb, hbc, HY.out, hr1⟩, hC1, hK1⟩
theorem l1Bend_any (g : Nat) (ao : Option Addr) (n cap : Nat) (f : Nat → Int) (B : Nat) (v : Value) (N : Nat) (l : List Int) (w : World) (hn : n ≤ 1048576) (hN0 : 0 < N) (hN : N ≤ 1048576) (hC : Cur w g ao n cap f) (hown : w.ownsRow B 5 1 v N (bl l)) (hl : l.length = N) (hyb : ∀ y ∈ l, 0 ≤ y ∧ y ≤ 255) (hg : g < B) (hc : ∀ a, ao = some a → 0 < n → a.block < B) (hBw : B ≤ w.heap.size) :
    Calls Try.prog 95 #[.pointer (some ⟨g, 0, none⟩), v] w fun e w' => (∃ (b c m : Nat) (F : Nat → Int), Bent w' B N e b c m F) ∧ Cur w' g ao n cap f ∧ Kept B g w w' := by
  refine (l1Bend_row g ao n cap f B v N l w hn hN0 hN hC hown hl hyb hg hc hBw).mono ?_
  rintro e w' ⟨⟨b, c, m, F, h⟩, h1, h2⟩
  exact ⟨⟨b, c, m, F, h.to⟩, h1, h2⟩
end Go.Proofs.Ytdhfbblameiloaa

/-
  What DrawGetPage draws; a page that is bent or not.
-/
namespace Go.Proofs.Ytdhfbblameiloaa
open Go.RowKit
set_option maxRecDepth 4000

/-- The bytes of a page with few bytes inside. -/
theorem page_few {k : Int} {l : List Int} (hk : k = 1 ∨ k = 2) (hl : l.length ≤ 9) : 0 < (pageF k (strOfNums l)).length ∧ (pageF k (strOfNums l)).length ≤ 100 ∧ ∀ y ∈ pageF k (strOfNums l), 0 ≤ y ∧ y ≤ 255 := by
  have hs : (strOfNums l).size ≤ 9 := by rw [str_size]; exact hl
  have hF : pageF k (strOfNums l) = pageL k (strOfNums l) := by unfold pageF; rw [if_pos ⟨hk, by omega⟩]
  rw [hF]
  have hlen := pageL_len k (strOfNums l)
  rw [innL_len] at hlen
  have h1 := groups_len k
  have h2 := groups_len (strOfNums l).size
  exact ⟨by omega, by omega, pageL_byte hk (by omega)⟩

set_option maxHeartbeats 2000000 in
theorem drawGetPage_any (ao : Option Addr) (n cap : Nat) (f : Nat → Int) (w : World) (hn : n ≤ 1048576) (hv : View w ao n cap f) :
    Calls Try.prog 38 #[.slice ao n cap] w fun e w' => ∃ (b c m : Nat) (F : Nat → Int), e = .returned (.slice (some ⟨b, 0, none⟩) m c) ∧ m ≤ 101 ∧ View w' (some ⟨b, 0, none⟩) m c F ∧ Below w.heap.size w w' := by
  go_enter Try.func38, Try.ntmps38
  go_wp2_with fail
  refine (l1New_any ao n cap f w hn hv).mono ?_
  rintro e w1 ⟨rfl, hC1, hb1⟩
  have hl1 := hC1.lt
  have HC : Hid (∀ a, ao = some a → 0 < n → a.block < w1.heap.size) := hC1.code
  go_wp2_with fail
  refine (l1Below_any w.heap.size ao n cap f 2 w1 hn (by omega) (by omega) hC1).mono ?_
  rintro e w2 ⟨x, rfl, hx0, hx1, hC2, hO2⟩
  have hB2 : But w.heap.size w1 w2 := But.ofOnly hO2
  clear hC1 hO2
  go_wp2_with fail
  refine (l1Some_any w.heap.size ao n cap f w2 hn hC2).mono ?_
  rintro e w3 ⟨⟨b, c, m, l, hD⟩, hC3, hB3⟩
  obtain rfl := hD.ret
  have hD' : Own9 w2 w3 m b c l := ⟨hD.len, hD.byte, hD.new, hD.le, hD.row, hD.few⟩
  have hB13 := hB2.trans hB3
  have hs3 := hB13.size
  have hm := hD.few
  have hkk : (1 + x) = 1 ∨ (1 + x) = 2 := by omega
  have hP := putPage_own b 0 m c (fun i => l.getD i 0) (1 + x) w3 hD'.view hkk (by omega)
  have hfew := page_few (l := lof m (fun i => l.getD i 0)) hkk (by rw [lof_len]; omega)
  obtain ⟨L, hL⟩ : ∃ L, Hid (pageF (1 + x) (strOfNums (lof m (fun i => l.getD i 0))) = L) := ⟨_, rfl⟩
  rw [hL.out] at hP hfew
  obtain ⟨hf0, hf1, hf2⟩ := hfew
  have HY : Hid (∀ y ∈ L, 0 ≤ y ∧ y ≤ 255) := hf2
  clear hC2 hB2 hB3 hD hD' hL hf2 hkk
  go_wp2_with fail
  refine hP.mono ?_
  rintro e w4 ⟨v, rfl, hown, hb4⟩
  have hC4 := hC3.below hb4
  have hs4 := hb4.size
  have hK4 : Kept w3.heap.size w.heap.size w3 w4 := ⟨hb4.os, hb4.tape, hb4.output, hb4.size, fun k hk _ => hb4.block k hk⟩
  clear hP hC3 hb4
  obtain ⟨N, hN⟩ := hidEx L.length
  have HL : Hid (L.length = N) := hN
  rw [hN.out] at hown hf0 hf1
  clear hN
  go_wp2_with fail
  refine (l1Bend_any w.heap.size ao n cap f w3.heap.size v N L w4 hn hf0 (by omega) hC4 hown HL.out HY.out (by omega) (fun a ha h0 => by have := HC.out a ha h0; omega) hs4).mono ?_
  rintro e w5 ⟨⟨b5, c5, m5, F, hD⟩, hC5, hK5⟩
  obtain ⟨rfl, hm5, hbn, hV⟩ := hD
  have HB : Hid (Below w.heap.size w w5) := hb1.trans ((hB13.below (Nat.le_refl _) (by omega)).trans ((hK4.trans hK5).below (Nat.le_refl _) (by omega)))
  have HV : Hid (View w5 (some ⟨b5, 0, none⟩) m5 c5 F) := hV
  clear hown HL HY hC4 hK4 hK5 hC5 hV hB13
  go_wp2
  go_ret
  exact ⟨b5, c5, m5, F, rfl, by omega, HV.out, HB.out⟩
end Go.Proofs.Ytdhfbblameiloaa

/-
  A draw of yes or no.
-/
namespace Go.Proofs.Ytdhfbblameiloaa
open Go.RowKit
set_option maxRecDepth 4000

set_option maxHeartbeats 1000000 in
theorem l1Once_any (g : Nat) (ao : Option Addr) (n cap : Nat) (f : Nat → Int) (m : Int) (w : World) (hn : n ≤ 1048576) (hm : 0 < m) (hm1 : m ≤ 16777216) (hC : Cur w g ao n cap f) :
    Calls Try.prog 79 #[.pointer (some ⟨g, 0, none⟩), .int .i64 m] w fun e w' => ∃ b : Bool, e = .returned (.bool b) ∧ Cur w' g ao n cap f ∧ Only g w w' := by
  go_enter Try.func79, Try.ntmps79
  go_wp2_with fail
  refine (l1Below_any g ao n cap f m w hn hm hm1 hC).mono ?_
  rintro e w1 ⟨x, rfl, hx0, hx1, hC1, hO1⟩
  go_wp2
  go_ret
  exact ⟨_, rfl, hC1, hO1⟩
end Go.Proofs.Ytdhfbblameiloaa

/-
  The draw of a sector's number.
-/
namespace Go.Proofs.Ytdhfbblameiloaa
open Go.RowKit
set_option maxRecDepth 4000

set_option maxHeartbeats 2000000 in
theorem l12N_any (g : Nat) (ao : Option Addr) (n cap : Nat) (f : Nat → Int) (w : World) (hn : n ≤ 1048576) (hC : Cur w g ao n cap f) :
    Calls Try.prog 82 #[.pointer (some ⟨g, 0, none⟩)] w fun e w' => ∃ z : Int, e = .returned (.int .i64 z) ∧ -1 ≤ z ∧ z ≤ 48 ∧ Cur w' g ao n cap f ∧ But g w w' := by
  have hI := l1Int_mem g ao n cap f [0, 1, 2, 3, 5, -1, 48] w.heap.size w rfl hn (by simp) (by simp) hC
  clear hC
  go_enter Try.func82, Try.ntmps82
  go_wp2_with fail
  refine hI.mono ?_
  rintro e w1 ⟨z, rfl, hz, hC1, hB1⟩
  have HE : Hid (-1 ≤ z ∧ z ≤ 48 ∧ Cur w1 g ao n cap f ∧ But g w w1) := ⟨by simp at hz; omega, by simp at hz; omega, hC1, hB1⟩
  clear hI hz hC1 hB1
  go_wp2
  go_ret
  exact ⟨z, rfl, HE.out⟩

/-- A disk in a variable, the cursor, and the result's variable. -/
structure PA (w : World) (g : Nat) (ao : Option Addr) (n cap : Nat) (f : Nat → Int) (B X gs sc : Nat) (fa : Option Addr) (fc : Nat) (D : PDisk) (ca : Option Addr) (cc : Nat) (ss cs : List Value) (W : World) : Prop where
  ms : MS W B X gs sc ca cc fa fc ss cs D D.secs
  ml : ML D sc ca cc fa fc
  ok : KFine D
  few : 4 ≤ D.secs.length ∧ D.secs.length ≤ 48
  r : VN W w.heap.size 32 [.slice none 0 0, .slice none 0 0, .int .i64 0, .slice none 0 0, .bool false]
  cur : Cur W g ao n cap f
  below : Below w.heap.size w W
  rg : w.heap.size < g
  gB : g < B
  code : ∀ a, ao = some a → 0 < n → a.block < w.heap.size
  b : B ≤ W.heap.size
  x : B ≤ X
theorem PA.but {w : World} {g : Nat} {ao : Option Addr} {n cap : Nat} {f : Nat → Int} {B X gs sc : Nat} {fa : Option Addr} {fc : Nat} {D : PDisk} {ca : Option Addr} {cc : Nat} {ss cs : List Value} {W W' : World} (h : PA w g ao n cap f B X gs sc fa fc D ca cc ss cs W) (hC : Cur W' g ao n cap f) (hb : But g W W') : PA w g ao n cap f B X gs sc fa fc D ca cc ss cs W' :=
  have h1 := h.rg
  have h2 := h.below.size
  ⟨h.ms.up (Up.ofBut hb h.gB) h.x, h.ml, h.ok, h.few, h.r.block (hb.block _ h.r.lt (by omega)), hC, h.below.trans ⟨hb.os, hb.tape, hb.output, hb.size, fun k hk => hb.block k (by omega) (by omega)⟩, h.rg, h.gB, h.code, Nat.le_trans h.b hb.size, h.x⟩
theorem PA.drew {w : World} {g : Nat} {ao : Option Addr} {n cap : Nat} {f : Nat → Int} {B X gs sc : Nat} {fa : Option Addr} {fc : Nat} {D : PDisk} {ca : Option Addr} {cc : Nat} {ss cs : List Value} {W : World} (h : PA w g ao n cap f B X gs sc fa fc D ca cc ss cs W) : PA w g ao n cap f B X gs sc fa fc D ca cc ss cs W.drew :=
  ⟨h.ms.on (Below.refl _ _).drew, h.ml, h.ok, h.few, h.r.below (Below.refl _ _).drew, h.cur.drew, h.below.drew, h.rg, h.gB, h.code, h.b, h.x⟩
/-- A bent page comes into a sector. -/
theorem BentR.ob {W : World} {B B' N : Nat} {e : Ending} {b c m : Nat} {F : Nat → Int} (h : BentR W B' N e b c m F) (hB : B ≤ B') : OB W B (.slice (some ⟨b, 0, none⟩) m c) (lof m F) := by
  have hl := lof_len m F
  refine ⟨some ⟨b, 0, none⟩, c, by rw [hl], by rw [hl]; exact h.le, (fun e => by cases e), lof_byteS h.byte, .inr ⟨b, rfl, Nat.le_trans hB h.new, ?_⟩⟩
  obtain ⟨cu, u1, u2, u3⟩ := h.row
  refine ⟨cu, u1, by rw [hl]; exact u2, fun i hi => ?_⟩
  rw [hl] at hi
  rw [u3 i hi]
  congr 2
  exact (lof_get m F i hi).symm
end Go.Proofs.Ytdhfbblameiloaa

/-
  Five cells that are laid below a bound.
-/
namespace Go.Proofs.Ytdhfbblameiloaa
open Go.RowKit
set_option maxRecDepth 4000

theorem Up.five {B R : Nat} {w : World} (v0 v1 v2 v3 v4 : Value) (h : R < B) : Up B w (((((w.setCell ⟨R, 0, none⟩ v0).setCell ⟨R, 1, none⟩ v1).setCell ⟨R, 2, none⟩ v2).setCell ⟨R, 3, none⟩ v3).setCell ⟨R, 4, none⟩ v4) :=
  ((((Up.set h).trans (Up.set h)).trans (Up.set h)).trans (Up.set h)).trans (Up.set h)
end Go.Proofs.Ytdhfbblameiloaa

