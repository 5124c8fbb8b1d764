/-
  Together: DrawGetPart, DrawLessPart, Ahead, NumOrder, NumBack, EscOrder, EscRead
-/
import Derived.Test.YtbcgonfihdpjnacPack5
import Derived.Test.YtbcgonfihdpjnacPartPut
import Derived.Test.YtbcgonfihdpjnacPack2
import Derived.Test.YtbcgonfihdpjnacPack3
/-
  The draw of bytes that may be a part's, of that part and of a place, as far as a law leans on it.
-/
namespace Go.Proofs.Ytbcgonfihdpjnac
open Go.RowKit
set_option maxRecDepth 4000

theorem l1Bend_all (g : Nat) (ao : Option Addr) (n cap : Nat) (f : Nat → Int) (B : Nat) (v : Value) (N : Nat) (l : List Int) (w : World) (hn : n ≤ 1048576) (hN : N ≤ 1048576) (hC : Cur w g ao n cap f) (hown : w.ownsRow B 5 1 v N (bl l)) (hl : l.length = N) (hyb : ∀ y ∈ l, 0 ≤ y ∧ y ≤ 255) (hne : v ≠ .slice none 0 0) (hg : g < B) (hc : ∀ a, ao = some a → 0 < n → a.block < B) (hBw : B ≤ w.heap.size) :
    Calls Try.prog 16 #[.pointer (some ⟨g, 0, none⟩), v] w fun e w' => (∃ (b c m : Nat) (F : Nat → Int), Bent w' B N e b c m F) ∧ Cur w' g ao n cap f ∧ Kept B g w w' := by
  by_cases h0 : 0 < N
  · exact l1Bend_any g ao n cap f B v N l w hn h0 hN hC hown hl hyb hg hc hBw
  · obtain rfl : N = 0 := by omega
    obtain ⟨b, c, rfl, hb, hrow⟩ := RowC.ofOwn hown hne
    have HV : Hid (View w (some ⟨b, 0, none⟩) 0 c (fun i => l.getD i 0)) := ⟨Nat.zero_le _, fun i hi => absurd hi (Nat.not_lt_zero _), fun h => absurd h (Nat.lt_irrefl _)⟩
    clear hrow hown
    go_enter Try.func16, Try.ntmps16
    go_wp2
    go_ret
    exact ⟨⟨b, c, 0, _, rfl, Nat.zero_le _, hb, HV.out⟩, hC, ⟨rfl, rfl, rfl, Nat.le_refl _, fun _ _ _ => rfl⟩⟩
theorem view_past {W : World} {b m cc B : Nat} {g : Nat → Int} (h : View W (some ⟨b, 0, none⟩) m cc g) (h1 : b ≠ B) (c t : Int) (nul d : Bool) :
    View ((((W.setCell ⟨B, 0, none⟩ (.int .i64 c)).setCell ⟨B, 1, none⟩ (.int .i64 t)).setCell ⟨B, 2, none⟩ (.bool nul)).setCell ⟨B, 3, none⟩ (.bool d)) (some ⟨b, 0, none⟩) m cc g := by
  refine ⟨h.le, h.byte, fun hm => ?_⟩
  obtain ⟨b', off', e, hlt, hcl⟩ := h.cells hm
  cases e
  refine ⟨b, 0, rfl, by simpa using hlt, fun i hi => ?_⟩
  rw [World.cell?_of_block (w := W)]
  · exact hcl i hi
  · show _ = W.heap[b]?
    rw [Below.heap_setCell _ _ _ _ h1, Below.heap_setCell _ _ _ _ h1, Below.heap_setCell _ _ _ _ h1, Below.heap_setCell _ _ _ _ h1]
theorem below_past4 {w W : World} (h : Below w.heap.size w W) (c t : Int) (nul d : Bool) :
    Below w.heap.size w ((((W.setCell ⟨w.heap.size, 0, none⟩ (.int .i64 c)).setCell ⟨w.heap.size, 1, none⟩ (.int .i64 t)).setCell ⟨w.heap.size, 2, none⟩ (.bool nul)).setCell ⟨w.heap.size, 3, none⟩ (.bool d)) :=
  (((h.setCell (Nat.le_refl _) _).setCell (Nat.le_refl _) _).setCell (Nat.le_refl _) _).setCell (Nat.le_refl _) _

set_option linter.unusedSimpArgs false in
set_option maxHeartbeats 8000000 in
theorem drawGetPart_any (ao : Option Addr) (n cap : Nat) (f : Nat → Int) (w : World) (hn : n ≤ 1048576) (hv : View w ao n cap f) :
    Calls Try.prog 5 #[.slice ao n cap] w fun e w' => (∃ (b cc m : Nat) (F : Nat → Int) (c t : Int) (nul d : Bool) (z : Int), e = .returned (.tuple #[.slice (some ⟨b, 0, none⟩) m cc, .agg #[.int .i64 c, .int .i64 t, .bool nul, .bool d], .int .i64 z]) ∧ m ≤ 100 ∧ -1 ≤ z ∧ z ≤ 9223372036854775807 ∧ View w' (some ⟨b, 0, none⟩) m cc F) ∧ Below w.heap.size w w' := by
  have hb0 : Below w.heap.size w (w.alloc (.cells #[.int .i64 0, .int .i64 0, .bool false, .bool false] 25)) := (Below.refl _ _).alloc (Nat.le_refl _) _
  have hP0 := PBox.new w 0 0 false false
  have hv0 := hv.below hb0
  obtain ⟨A, hA⟩ : ∃ A, A = (w.alloc (.cells #[.int .i64 0, .int .i64 0, .bool false, .bool false] 25)).heap.size := ⟨_, rfl⟩
  have hA2 : A = w.heap.size + 1 := by rw [hA]; simp
  have hPA : w.heap.size < A := by omega
  clear hA2
  go_enter Try.func5, Try.ntmps5
  go_wp2_with fail
  refine (l1New_at A ao n cap f _ hA hn hv0).mono ?_
  rintro e w1 ⟨rfl, hC1, hb1⟩
  have hP1 := hP0.below hb1
  have hB1 : Below w.heap.size w w1 := hb0.trans (hb1.mono hb0.size)
  clear hb0 hb1 hP0 hv0 hA
  go_wp2_with fail
  refine (l5Any_any A ao n cap f w1 hn hC1).mono ?_
  rintro e w2 ⟨c, t, nul, d, rfl, hD⟩
  have hP2 := hP1.but hD.but (by omega)
  have hB2 : Below w.heap.size w w2 := hB1.trans (hD.but.below (by omega) hB1.size)
  have hC2 := hD.cur
  have HC : Hid (∀ a, ao = some a → 0 < n → a.block < w2.heap.size) := hC2.code
  clear hD hP1 hB1 hC1
  have hA2 := hC2.lt
  have hb3 : Below w2.heap.size w2 (w2.alloc (.cells #[.int .i64 c, .int .i64 t, .bool nul, .bool d] 25)) := (Below.refl _ _).alloc (Nat.le_refl _) _
  have hV3 := PBox.new w2 c t nul d
  have hP3 := hP2.below hb3
  have hC3 := hC2.below hb3
  have hB3 := hB2.trans (hb3.mono hB2.size)
  clear hP2 hB2 hC2 hb3
  have hG := fun W h => l5Val_any A ao n cap f c t nul d W hn h
  go_wp2_with fail
  refine wp_region_held_drew (S := fun W => PBox W w2.heap.size c t nul d) (by kernel_rfl) (hV3.drew) (fun hHeld => ?_)
  refine' wpAnyH_take (i := 0) (v := _) rfl (by kernel_rfl) (by kernel_rfl) (by kernel_rfl) (fun _ _ _ h => h) (Or.inl ⟨by kernel_rfl, ?ha0⟩) (by assumption) ?ra0
  case ha0 => intro W hW; go_simp; all_goals with_reducible rfl
  change wpAnyH _ _ _ _ _ _ _ (Act.put _ (some 12) _) _
  simp only [Act.put, List.setIfInBounds_toArray, List.set_cons_zero, List.set_cons_succ]
  refine' wpAnyH_take (i := 2) (v := _) rfl (by kernel_rfl) (by kernel_rfl) (by kernel_rfl) (fun _ _ _ h => h) (Or.inl ⟨by kernel_rfl, ?ha2⟩) (by assumption) ?ra2
  case ha2 => intro W hW; obtain ⟨c0, c1, c2, c3⟩ := PBox.cells hW; go_simp; all_goals with_reducible rfl
  change wpAnyH _ _ _ _ _ _ _ (Act.put _ (some 14) _) _
  simp only [Act.put, List.setIfInBounds_toArray, List.set_cons_zero, List.set_cons_succ]
  refine' wpAnyH_take (i := 3) (v := _) rfl (by kernel_rfl) (by kernel_rfl) (by kernel_rfl) (fun _ _ _ h => h) (Or.inl ⟨by kernel_rfl, ?ha3⟩) (by assumption) ?ra3
  case ha3 => intro W hW; go_simp; all_goals with_reducible rfl
  change wpAnyH _ _ _ _ _ _ _ (Act.put _ (some 15) _) _
  simp only [Act.put, List.setIfInBounds_toArray, List.set_cons_zero, List.set_cons_succ]
  refine' wpAnyH_take (i := 4) (v := _) rfl (by kernel_rfl) (by kernel_rfl) (by kernel_rfl) (fun _ _ _ h => h) (Or.inl ⟨by kernel_rfl, ?ha4⟩) (by assumption) ?ra4
  case ha4 => intro W hW; obtain ⟨c0, c1, c2, c3⟩ := PBox.cells hW; go_simp; all_goals with_reducible rfl
  change wpAnyH _ _ _ _ _ _ _ (Act.put _ (some 16) _) _
  simp only [Act.put, List.setIfInBounds_toArray, List.set_cons_zero, List.set_cons_succ]
  refine wpAnyH_ready (rs := [1, 5]) (by kernel_rfl) (by simp) ?_
  refine AllReadyH.cons rfl (fun KK hK => ?_) (AllReadyH.cons rfl (fun KK hK => ?_) AllReadyH.nil)
  ·
    go_simp
    refine hK.out _ _ (hV3.drew.below ((Below.refl _ _).alloc (Nat.le_refl _) _)) (fun hHeld => ?_)
    clear hK KK
    try simp only [Act.put, List.setIfInBounds_toArray, List.set_cons_zero, List.set_cons_succ]
    have hba : Below (w2.alloc (.cells #[.int .i64 c, .int .i64 t, .bool nul, .bool d] 25)).drew.heap.size (w2.alloc (.cells #[.int .i64 c, .int .i64 t, .bool nul, .bool d] 25)).drew ((w2.alloc (.cells #[.int .i64 c, .int .i64 t, .bool nul, .bool d] 25)).drew.alloc (.cells #[] 5)) := (Below.refl _ _).alloc (Nat.le_refl _) _
    have hVa := hV3.drew.below hba
    have hPa := hP3.drew.below hba
    have hCa := hC3.drew.below hba
    have hBa := hB3.drew.trans (hba.mono hB3.drew.size)
    clear hV3 hP3 hC3 hB3 hba
    refine wpAnyH_ready (rs := [5]) (by kernel_rfl) (by simp) ?_
    refine AllReadyH.cons rfl (fun KK hK => ?_) AllReadyH.nil
    go_simp
    refine (hG _ hCa).mono ?_
    rintro e w6 ⟨k, x, s, rfl, hD⟩
    have hV6 := hVa.but hD.but (by omega)
    have hP6 := hPa.but hD.but (by omega)
    have hB6 : Below w.heap.size w w6 := hBa.trans (hD.but.below (by omega) hBa.size)
    have hC6 := hD.cur
    have HX : Hid (I64 x ∧ s.size ≤ 40) := ⟨hD.m64, hD.few⟩
    have hs6 : w2.heap.size < w6.heap.size := hV6.lt
    clear hD hG
    go_wp2_with fail
    refine hK.out _ _ hV6 (fun hHeld => ?_)
    clear hK KK
    try simp only [Act.put, List.setIfInBounds_toArray, List.set_cons_zero, List.set_cons_succ]
    refine wpAnyH_ready (rs := [6]) (by kernel_rfl) (by simp) ?_
    refine AllReadyH.cons rfl (fun KK hK => ?_) AllReadyH.nil
    go_simp
    refine (putPart_own (w2.heap.size + 1) 0 0 0 (fun _ => 0) c t nul d k x s _ (view_nil _ _) (by omega) HX.out.1 (by have := HX.out.2; omega)).mono ?_
    rintro e w7 ⟨v, rfl, hne, hown, hb7⟩
    have hV7 := hV6.below hb7
    have hP7 := hP6.below hb7
    have hC7 := hC6.below hb7
    have hB7 := hB6.trans (hb7.mono hB6.size)
    have hBw := hb7.size
    have Hne : Hid (v ≠ .slice none 0 0) := hne
    rw [Nat.zero_add, show lof 0 (fun _ => (0 : Int)) = [] from rfl, List.nil_append] at hown
    have hpl := putPL_len c t nul d k x s
    have hs40 := HX.out.2
    have HY : Hid (∀ y ∈ putPL c t nul d k x s, 0 ≤ y ∧ y ≤ 255) := putPL_byte c t nul d k x s
    obtain ⟨BB, hBB⟩ : ∃ BB, BB = w6.heap.size := ⟨_, rfl⟩
    rw [← hBB] at hown hBw
    have hsB : w2.heap.size < BB := by rw [hBB]; omega
    have hcB : ∀ a, ao = some a → 0 < n → a.block < BB := fun a ha h0 => by have := HC.out a ha h0; omega
    generalize putPL c t nul d k x s = L at *
    clear hne hV6 hP6 hC6 hB6 hb7 hBB
    go_wp2_with fail
    refine hK.out _ _ hV7 (fun hHeld => ?_)
    clear hK KK
    try simp only [Act.put, List.setIfInBounds_toArray, List.set_cons_zero, List.set_cons_succ]
    refine wpAnyH_ready (rs := [7]) (by kernel_rfl) (by simp) ?_
    refine AllReadyH.cons rfl (fun KK hK => ?_) AllReadyH.nil
    go_simp
    refine (l1Bend_all A ao n cap f BB v L.length L w7 hn (by omega) hC7 hown rfl HY.out Hne.out (by omega) hcB hBw).mono ?_
    rintro e w8 ⟨⟨b, cc, m, F, hD⟩, hC8, hK8⟩
    obtain ⟨rfl, hm, hbn, hF⟩ := hD
    have hV8 : PBox w8 w2.heap.size c t nul d := hV7.of_block (hK8.block _ (by omega) (by omega))
    have hP8 : PBox w8 w.heap.size 0 0 false false := hP7.of_block (hK8.block _ (by omega) (by omega))
    have hB8 : Below w.heap.size w w8 := hB7.trans (hK8.below (by omega) (by omega))
    clear hV7 hP7 hC7 hB7 hK8 hown HY Hne hcB
    go_wp2_with fail
    refine hK.out _ _ hV8 (fun hHeld => ?_)
    clear hK KK
    try simp only [Act.put, List.setIfInBounds_toArray, List.set_cons_zero, List.set_cons_succ]
    refine' wpAnyH_take (i := 8) (v := _) rfl (by kernel_rfl) (by kernel_rfl) (by kernel_rfl) (fun _ _ _ h => h) (Or.inl ⟨by kernel_rfl, ?hb8⟩) (by assumption) ?rb8
    case hb8 => intro W hW; go_simp; all_goals with_reducible rfl
    change wpAnyH _ _ _ _ _ _ _ (Act.put _ (some 7) _) _
    simp only [Act.put, List.setIfInBounds_toArray, List.set_cons_zero, List.set_cons_succ]
    refine wpAnyH_done (by kernel_rfl) ?_ _
    go_wp2_with fail
    refine wp_region_held_drew (S := fun W => PBox W w2.heap.size c t nul d) (by kernel_rfl) (hV8.drew) (fun hHeld => ?_)
    refine' wpAnyH_take (i := 0) (v := _) rfl (by kernel_rfl) (by kernel_rfl) (by kernel_rfl) (fun _ _ _ h => h) (Or.inl ⟨by kernel_rfl, ?hbz0⟩) (by assumption) ?rbz0
    case hbz0 => intro W hW; go_simp; all_goals with_reducible rfl
    change wpAnyH _ _ _ _ _ _ _ (Act.put _ (some 20) _) _
    simp only [Act.put, List.setIfInBounds_toArray, List.set_cons_zero, List.set_cons_succ]
    refine' wpAnyH_take (i := 1) (v := _) rfl (by kernel_rfl) (by kernel_rfl) (by kernel_rfl) (fun _ _ _ h => h) (Or.inl ⟨by kernel_rfl, ?hbz1⟩) (by assumption) ?rbz1
    case hbz1 => intro W hW; obtain ⟨c0, c1, c2, c3⟩ := PBox.cells hW; go_simp; all_goals with_reducible rfl
    change wpAnyH _ _ _ _ _ _ _ (Act.put _ (some 21) _) _
    simp only [Act.put, List.setIfInBounds_toArray, List.set_cons_zero, List.set_cons_succ]
    refine' wpAnyH_take (i := 2) (v := _) rfl (by kernel_rfl) (by kernel_rfl) (by kernel_rfl) (fun _ _ _ h => h) (Or.inl ⟨by kernel_rfl, ?hbz2⟩) (by assumption) ?rbz2
    case hbz2 => intro W hW; go_simp; all_goals with_reducible rfl
    change wpAnyH _ _ _ _ _ _ _ (Act.put _ (some 22) _) _
    simp only [Act.put, List.setIfInBounds_toArray, List.set_cons_zero, List.set_cons_succ]
    refine' wpAnyH_take (i := 3) (v := _) rfl (by kernel_rfl) (by kernel_rfl) (by kernel_rfl) (fun _ _ _ h => h) (Or.inl ⟨by kernel_rfl, ?hbz3⟩) (by assumption) ?rbz3
    case hbz3 => intro W hW; go_simp; all_goals with_reducible rfl
    change wpAnyH _ _ _ _ _ _ _ (Act.put _ (some 23) _) _
    simp only [Act.put, List.setIfInBounds_toArray, List.set_cons_zero, List.set_cons_succ]
    refine wpAnyH_ready (rs := [4]) (by kernel_rfl) (by simp) ?_
    refine AllReadyH.cons rfl (fun KK hK => ?_) AllReadyH.nil
    go_simp
    refine (l1At_any A ao n cap f (some ⟨b, 0, none⟩) m cc _ hn (by omega) hC8.drew).mono ?_
    rintro e w9 ⟨z, rfl, hz0, hz1, -, hK9⟩
    have hV9 := hV8.drew.but hK9 (by omega)
    have hP9 := hP8.drew.but hK9 (by omega)
    have hF9 : View w9 (some ⟨b, 0, none⟩) m cc F := hK9.view hF.drew (fun a ha _ => by cases ha; show b ≠ A; omega)
    have hB9 : Below w.heap.size w w9 := hB8.drew.trans (hK9.below (by omega) hB8.drew.size)
    clear hV8 hP8 hB8 hC8 hK9 hF
    go_wp2_with fail
    refine hK.out _ _ hV9 (fun hHeld => ?_)
    clear hK KK
    try simp only [Act.put, List.setIfInBounds_toArray, List.set_cons_zero, List.set_cons_succ]
    refine' wpAnyH_take (i := 5) (v := _) rfl (by kernel_rfl) (by kernel_rfl) (by kernel_rfl) (fun _ _ _ h => h) (Or.inl ⟨by kernel_rfl, ?hbz5⟩) (by assumption) ?rbz5
    case hbz5 => intro W hW; go_simp; all_goals with_reducible rfl
    change wpAnyH _ _ _ _ _ _ _ (Act.put _ (some 2) _) _
    simp only [Act.put, List.setIfInBounds_toArray, List.set_cons_zero, List.set_cons_succ]
    obtain ⟨f0, f1, f2, f3⟩ := hP9.frozen
    obtain ⟨d0, d1, d2, d3⟩ := hP9.cells
    have hVs := hV9.others (D := w.heap.size) (by omega) c t nul d
    obtain ⟨g0, g1, g2, g3⟩ := (hP9.put c t nul d).cells
    have HF : Hid (View _ (some ⟨b, 0, none⟩) m cc F) := view_past hF9 (B := w.heap.size) (by omega) c t nul d
    have HB : Hid (Below w.heap.size w _) := below_past4 hB9 c t nul d
    clear hV9 hP9 hB9 hF9
    refine wpAnyH_ready (rs := [6]) (by kernel_rfl) (by simp) ?_
    refine AllReadyH.cons rfl (fun KK hK => ?_) AllReadyH.nil
    go_simp
    refine hK.out _ _ hVs (fun hHeld => ?_)
    clear hK KK
    try simp only [Act.put, List.setIfInBounds_toArray, List.set_cons_zero, List.set_cons_succ]
    refine' wpAnyH_take (i := 7) (v := _) rfl (by kernel_rfl) (by kernel_rfl) (by kernel_rfl) (fun _ _ _ h => h) (Or.inl ⟨by kernel_rfl, ?hbz7⟩) (by assumption) ?rbz7
    case hbz7 => intro W hW; go_simp; all_goals with_reducible rfl
    change wpAnyH _ _ _ _ _ _ _ (Act.put _ (some 4) _) _
    simp only [Act.put, List.setIfInBounds_toArray, List.set_cons_zero, List.set_cons_succ]
    refine wpAnyH_done (by kernel_rfl) ?_ _
    go_wp2
    exact bodyPost_ret (v := .tuple #[.slice (some ⟨b, 0, none⟩) m cc, .agg #[.int .i64 c, .int .i64 t, .bool nul, .bool d], .int .i64 z]) (by simp [results, Try.results5, go_sem, g0, g1, g2, g3]) rfl ⟨⟨b, cc, m, F, c, t, nul, d, z, rfl, by omega, hz0, hz1, HF.out⟩, HB.out⟩
  ·
    go_simp
    refine (hG _ hC3.drew).mono ?_
    rintro e w5 ⟨k, x, s, rfl, hD⟩
    have hV5 := hV3.drew.but hD.but (by omega)
    have hP5 := hP3.drew.but hD.but (by omega)
    have hB5 : Below w.heap.size w w5 := hB3.drew.trans (hD.but.below (by omega) hB3.drew.size)
    have hC5 := hD.cur
    have HX : Hid (I64 x ∧ s.size ≤ 40) := ⟨hD.m64, hD.few⟩
    have hs5 : w2.heap.size < w5.heap.size := hV5.lt
    clear hD hG hV3 hP3 hB3 hC3
    go_wp2_with fail
    refine hK.out _ _ hV5 (fun hHeld => ?_)
    clear hK KK
    try simp only [Act.put, List.setIfInBounds_toArray, List.set_cons_zero, List.set_cons_succ]
    have hba : Below w5.heap.size w5 (w5.alloc (.cells #[] 5)) := (Below.refl _ _).alloc (Nat.le_refl _) _
    have hV6 := hV5.below hba
    have hP6 := hP5.below hba
    have hC6 := hC5.below hba
    have hB6 := hB5.trans (hba.mono hB5.size)
    clear hV5 hP5 hC5 hB5 hba
    refine wpAnyH_ready (rs := [1]) (by kernel_rfl) (by simp) ?_
    refine AllReadyH.cons rfl (fun KK hK => ?_) AllReadyH.nil
    go_simp
    refine hK.out _ _ hV6 (fun hHeld => ?_)
    clear hK KK
    try simp only [Act.put, List.setIfInBounds_toArray, List.set_cons_zero, List.set_cons_succ]
    refine wpAnyH_ready (rs := [6]) (by kernel_rfl) (by simp) ?_
    refine AllReadyH.cons rfl (fun KK hK => ?_) AllReadyH.nil
    go_simp
    refine (putPart_own (w5.heap.size) 0 0 0 (fun _ => 0) c t nul d k x s _ (view_nil _ _) (by omega) HX.out.1 (by have := HX.out.2; omega)).mono ?_
    rintro e w7 ⟨v, rfl, hne, hown, hb7⟩
    have hV7 := hV6.below hb7
    have hP7 := hP6.below hb7
    have hC7 := hC6.below hb7
    have hB7 := hB6.trans (hb7.mono hB6.size)
    have hBw := hb7.size
    have Hne : Hid (v ≠ .slice none 0 0) := hne
    rw [Nat.zero_add, show lof 0 (fun _ => (0 : Int)) = [] from rfl, List.nil_append] at hown
    have hpl := putPL_len c t nul d k x s
    have hs40 := HX.out.2
    have HY : Hid (∀ y ∈ putPL c t nul d k x s, 0 ≤ y ∧ y ≤ 255) := putPL_byte c t nul d k x s
    obtain ⟨BB, hBB⟩ : ∃ BB, BB = (w5.alloc (.cells #[] 5)).heap.size := ⟨_, rfl⟩
    rw [← hBB] at hown hBw
    have hsB : w2.heap.size < BB := by rw [hBB]; (first | omega | (simp; omega))
    have hcB : ∀ a, ao = some a → 0 < n → a.block < BB := fun a ha h0 => by have := HC.out a ha h0; omega
    generalize putPL c t nul d k x s = L at *
    clear hne hV6 hP6 hC6 hB6 hb7 hBB
    go_wp2_with fail
    refine hK.out _ _ hV7 (fun hHeld => ?_)
    clear hK KK
    try simp only [Act.put, List.setIfInBounds_toArray, List.set_cons_zero, List.set_cons_succ]
    refine wpAnyH_ready (rs := [7]) (by kernel_rfl) (by simp) ?_
    refine AllReadyH.cons rfl (fun KK hK => ?_) AllReadyH.nil
    go_simp
    refine (l1Bend_all A ao n cap f BB v L.length L w7 hn (by omega) hC7 hown rfl HY.out Hne.out (by omega) hcB hBw).mono ?_
    rintro e w8 ⟨⟨b, cc, m, F, hD⟩, hC8, hK8⟩
    obtain ⟨rfl, hm, hbn, hF⟩ := hD
    have hV8 : PBox w8 w2.heap.size c t nul d := hV7.of_block (hK8.block _ (by omega) (by omega))
    have hP8 : PBox w8 w.heap.size 0 0 false false := hP7.of_block (hK8.block _ (by omega) (by omega))
    have hB8 : Below w.heap.size w w8 := hB7.trans (hK8.below (by omega) (by omega))
    clear hV7 hP7 hC7 hB7 hK8 hown HY Hne hcB
    go_wp2_with fail
    refine hK.out _ _ hV8 (fun hHeld => ?_)
    clear hK KK
    try simp only [Act.put, List.setIfInBounds_toArray, List.set_cons_zero, List.set_cons_succ]
    refine' wpAnyH_take (i := 8) (v := _) rfl (by kernel_rfl) (by kernel_rfl) (by kernel_rfl) (fun _ _ _ h => h) (Or.inl ⟨by kernel_rfl, ?hc8⟩) (by assumption) ?rc8
    case hc8 => intro W hW; go_simp; all_goals with_reducible rfl
    change wpAnyH _ _ _ _ _ _ _ (Act.put _ (some 7) _) _
    simp only [Act.put, List.setIfInBounds_toArray, List.set_cons_zero, List.set_cons_succ]
    refine wpAnyH_done (by kernel_rfl) ?_ _
    go_wp2_with fail
    refine wp_region_held_drew (S := fun W => PBox W w2.heap.size c t nul d) (by kernel_rfl) (hV8.drew) (fun hHeld => ?_)
    refine' wpAnyH_take (i := 0) (v := _) rfl (by kernel_rfl) (by kernel_rfl) (by kernel_rfl) (fun _ _ _ h => h) (Or.inl ⟨by kernel_rfl, ?hcz0⟩) (by assumption) ?rcz0
    case hcz0 => intro W hW; go_simp; all_goals with_reducible rfl
    change wpAnyH _ _ _ _ _ _ _ (Act.put _ (some 20) _) _
    simp only [Act.put, List.setIfInBounds_toArray, List.set_cons_zero, List.set_cons_succ]
    refine' wpAnyH_take (i := 1) (v := _) rfl (by kernel_rfl) (by kernel_rfl) (by kernel_rfl) (fun _ _ _ h => h) (Or.inl ⟨by kernel_rfl, ?hcz1⟩) (by assumption) ?rcz1
    case hcz1 => intro W hW; obtain ⟨c0, c1, c2, c3⟩ := PBox.cells hW; go_simp; all_goals with_reducible rfl
    change wpAnyH _ _ _ _ _ _ _ (Act.put _ (some 21) _) _
    simp only [Act.put, List.setIfInBounds_toArray, List.set_cons_zero, List.set_cons_succ]
    refine' wpAnyH_take (i := 2) (v := _) rfl (by kernel_rfl) (by kernel_rfl) (by kernel_rfl) (fun _ _ _ h => h) (Or.inl ⟨by kernel_rfl, ?hcz2⟩) (by assumption) ?rcz2
    case hcz2 => intro W hW; go_simp; all_goals with_reducible rfl
    change wpAnyH _ _ _ _ _ _ _ (Act.put _ (some 22) _) _
    simp only [Act.put, List.setIfInBounds_toArray, List.set_cons_zero, List.set_cons_succ]
    refine' wpAnyH_take (i := 3) (v := _) rfl (by kernel_rfl) (by kernel_rfl) (by kernel_rfl) (fun _ _ _ h => h) (Or.inl ⟨by kernel_rfl, ?hcz3⟩) (by assumption) ?rcz3
    case hcz3 => intro W hW; go_simp; all_goals with_reducible rfl
    change wpAnyH _ _ _ _ _ _ _ (Act.put _ (some 23) _) _
    simp only [Act.put, List.setIfInBounds_toArray, List.set_cons_zero, List.set_cons_succ]
    refine wpAnyH_ready (rs := [4]) (by kernel_rfl) (by simp) ?_
    refine AllReadyH.cons rfl (fun KK hK => ?_) AllReadyH.nil
    go_simp
    refine (l1At_any A ao n cap f (some ⟨b, 0, none⟩) m cc _ hn (by omega) hC8.drew).mono ?_
    rintro e w9 ⟨z, rfl, hz0, hz1, -, hK9⟩
    have hV9 := hV8.drew.but hK9 (by omega)
    have hP9 := hP8.drew.but hK9 (by omega)
    have hF9 : View w9 (some ⟨b, 0, none⟩) m cc F := hK9.view hF.drew (fun a ha _ => by cases ha; show b ≠ A; omega)
    have hB9 : Below w.heap.size w w9 := hB8.drew.trans (hK9.below (by omega) hB8.drew.size)
    clear hV8 hP8 hB8 hC8 hK9 hF
    go_wp2_with fail
    refine hK.out _ _ hV9 (fun hHeld => ?_)
    clear hK KK
    try simp only [Act.put, List.setIfInBounds_toArray, List.set_cons_zero, List.set_cons_succ]
    refine' wpAnyH_take (i := 5) (v := _) rfl (by kernel_rfl) (by kernel_rfl) (by kernel_rfl) (fun _ _ _ h => h) (Or.inl ⟨by kernel_rfl, ?hcz5⟩) (by assumption) ?rcz5
    case hcz5 => intro W hW; go_simp; all_goals with_reducible rfl
    change wpAnyH _ _ _ _ _ _ _ (Act.put _ (some 2) _) _
    simp only [Act.put, List.setIfInBounds_toArray, List.set_cons_zero, List.set_cons_succ]
    obtain ⟨f0, f1, f2, f3⟩ := hP9.frozen
    obtain ⟨d0, d1, d2, d3⟩ := hP9.cells
    have hVs := hV9.others (D := w.heap.size) (by omega) c t nul d
    obtain ⟨g0, g1, g2, g3⟩ := (hP9.put c t nul d).cells
    have HF : Hid (View _ (some ⟨b, 0, none⟩) m cc F) := view_past hF9 (B := w.heap.size) (by omega) c t nul d
    have HB : Hid (Below w.heap.size w _) := below_past4 hB9 c t nul d
    clear hV9 hP9 hB9 hF9
    refine wpAnyH_ready (rs := [6]) (by kernel_rfl) (by simp) ?_
    refine AllReadyH.cons rfl (fun KK hK => ?_) AllReadyH.nil
    go_simp
    refine hK.out _ _ hVs (fun hHeld => ?_)
    clear hK KK
    try simp only [Act.put, List.setIfInBounds_toArray, List.set_cons_zero, List.set_cons_succ]
    refine' wpAnyH_take (i := 7) (v := _) rfl (by kernel_rfl) (by kernel_rfl) (by kernel_rfl) (fun _ _ _ h => h) (Or.inl ⟨by kernel_rfl, ?hcz7⟩) (by assumption) ?rcz7
    case hcz7 => intro W hW; go_simp; all_goals with_reducible rfl
    change wpAnyH _ _ _ _ _ _ _ (Act.put _ (some 4) _) _
    simp only [Act.put, List.setIfInBounds_toArray, List.set_cons_zero, List.set_cons_succ]
    refine wpAnyH_done (by kernel_rfl) ?_ _
    go_wp2
    exact bodyPost_ret (v := .tuple #[.slice (some ⟨b, 0, none⟩) m cc, .agg #[.int .i64 c, .int .i64 t, .bool nul, .bool d], .int .i64 z]) (by simp [results, Try.results5, go_sem, g0, g1, g2, g3]) rfl ⟨⟨b, cc, m, F, c, t, nul, d, z, rfl, by omega, hz0, hz1, HF.out⟩, HB.out⟩
end Go.Proofs.Ytbcgonfihdpjnac

/-
  The draw of a part and two values, as far as a law leans on it.
-/
namespace Go.Proofs.Ytbcgonfihdpjnac
open Go.RowKit
set_option maxRecDepth 4000

theorem below_past10 {w W : World} (h : Below w.heap.size w W) (c t : Int) (nul d : Bool) (k x : Int) (s : ByteArray) (k' x' : Int) (s' : ByteArray) :
    Below w.heap.size w ((((((((((W.setCell ⟨w.heap.size, 0, none⟩ (.int .i64 c)).setCell ⟨w.heap.size, 1, none⟩ (.int .i64 t)).setCell ⟨w.heap.size, 2, none⟩ (.bool nul)).setCell ⟨w.heap.size, 3, none⟩ (.bool d)).setCell ⟨w.heap.size + 1, 0, none⟩ (.int .i64 k)).setCell ⟨w.heap.size + 1, 1, none⟩ (.int .i64 x)).setCell ⟨w.heap.size + 1, 2, none⟩ (.string s)).setCell ⟨w.heap.size + 2, 0, none⟩ (.int .i64 k')).setCell ⟨w.heap.size + 2, 1, none⟩ (.int .i64 x')).setCell ⟨w.heap.size + 2, 2, none⟩ (.string s')) :=
  (((below_past h c t nul d k x s).setCell (Nat.le_add_right _ _) _).setCell (Nat.le_add_right _ _) _).setCell (Nat.le_add_right _ _) _

set_option linter.unusedSimpArgs false in
set_option maxHeartbeats 8000000 in
theorem drawLessPart_any (ao : Option Addr) (n cap : Nat) (f : Nat → Int) (w : World) (hn : n ≤ 1048576) (hv : View w ao n cap f) :
    Calls Try.prog 8 #[.slice ao n cap] w fun e w' => (∃ (c t : Int) (nul d : Bool) (k x : Int) (s : ByteArray) (k' x' : Int) (s' : ByteArray), e = .returned (.tuple #[.agg #[.int .i64 c, .int .i64 t, .bool nul, .bool d], .agg #[.int .i64 k, .int .i64 x, .string s], .agg #[.int .i64 k', .int .i64 x', .string s']]) ∧ s.size ≤ 40 ∧ s'.size ≤ 40) ∧ Below w.heap.size w w' := by
  have hb0 : Below w.heap.size w (((w.alloc (.cells #[.int .i64 0, .int .i64 0, .bool false, .bool false] 25)).alloc (.cells #[.int .i64 0, .int .i64 0, .string ⟨#[]⟩] 29)).alloc (.cells #[.int .i64 0, .int .i64 0, .string ⟨#[]⟩] 29)) := (((Below.refl _ _).alloc (Nat.le_refl _) _).alloc (by simp) _).alloc (by simp; omega) _
  have hP0 := ((PBox.new w 0 0 false false).below ((Below.refl _ _).alloc (Nat.le_refl _) (.cells #[.int .i64 0, .int .i64 0, .string ⟨#[]⟩] 29))).below ((Below.refl _ _).alloc (Nat.le_refl _) (.cells #[.int .i64 0, .int .i64 0, .string ⟨#[]⟩] 29))
  have hQ0 := (Box.new (w.alloc (.cells #[.int .i64 0, .int .i64 0, .bool false, .bool false] 25)) 0 0 ⟨#[]⟩).below ((Below.refl _ _).alloc (Nat.le_refl _) (.cells #[.int .i64 0, .int .i64 0, .string ⟨#[]⟩] 29))
  have hU0 := Box.new ((w.alloc (.cells #[.int .i64 0, .int .i64 0, .bool false, .bool false] 25)).alloc (.cells #[.int .i64 0, .int .i64 0, .string ⟨#[]⟩] 29)) 0 0 ⟨#[]⟩
  have hv0 := hv.below hb0
  obtain ⟨A, hA⟩ : ∃ A, A = (((w.alloc (.cells #[.int .i64 0, .int .i64 0, .bool false, .bool false] 25)).alloc (.cells #[.int .i64 0, .int .i64 0, .string ⟨#[]⟩] 29)).alloc (.cells #[.int .i64 0, .int .i64 0, .string ⟨#[]⟩] 29)).heap.size := ⟨_, rfl⟩
  have hA2 : A = w.heap.size + 3 := by rw [hA]; simp
  rw [show (w.alloc (.cells #[.int .i64 0, .int .i64 0, .bool false, .bool false] 25)).heap.size = w.heap.size + 1 by simp] at hQ0
  rw [show ((w.alloc (.cells #[.int .i64 0, .int .i64 0, .bool false, .bool false] 25)).alloc (.cells #[.int .i64 0, .int .i64 0, .string ⟨#[]⟩] 29)).heap.size = w.heap.size + 2 by simp] at hU0
  have hPA : w.heap.size < A := by omega
  have hQA : w.heap.size + 1 < A := by omega
  have hUA : w.heap.size + 2 < A := by omega
  clear hA2
  go_enter Try.func8, Try.ntmps8
  go_wp2_with fail
  refine (l1New_at A ao n cap f _ hA hn hv0).mono ?_
  rintro e w1 ⟨rfl, hC1, hb1⟩
  have hP1 := hP0.below hb1
  have hQ1 := hQ0.below hb1
  have hU1 := hU0.below hb1
  have hB1 : Below w.heap.size w w1 := hb0.trans (hb1.mono hb0.size)
  clear hb0 hb1 hP0 hQ0 hU0 hv0 hA
  go_wp2_with fail
  refine (l5Any_any A ao n cap f w1 hn hC1).mono ?_
  rintro e w2 ⟨c, t, nul, d, rfl, hD⟩
  have hP2 := hP1.but hD.but (by omega)
  have hQ2 := hQ1.but hD.but (by omega)
  have hU2 := hU1.but hD.but (by omega)
  have hB2 : Below w.heap.size w w2 := hB1.trans (hD.but.below (by omega) hB1.size)
  have hC2 := hD.cur
  clear hD hP1 hQ1 hU1 hB1 hC1
  have hA2 := hC2.lt
  have hb3 : Below w2.heap.size w2 (w2.alloc (.cells #[.int .i64 c, .int .i64 t, .bool nul, .bool d] 25)) := (Below.refl _ _).alloc (Nat.le_refl _) _
  have hV3 := PBox.new w2 c t nul d
  have hP3 := hP2.below hb3
  have hQ3 := hQ2.below hb3
  have hU3 := hU2.below hb3
  have hC3 := hC2.below hb3
  have hB3 := hB2.trans (hb3.mono hB2.size)
  clear hP2 hQ2 hU2 hB2 hC2 hb3
  have hG := fun W h => l5Val_any A ao n cap f c t nul d W hn h
  go_wp2_with fail
  refine wp_region_held_drew (S := fun W => PBox W w2.heap.size c t nul d) (by kernel_rfl) (hV3.drew) (fun hHeld => ?_)
  refine' wpAnyH_take (i := 0) (v := _) rfl (by kernel_rfl) (by kernel_rfl) (by kernel_rfl) (fun _ _ _ h => h) (Or.inl ⟨by kernel_rfl, ?ha0⟩) (by assumption) ?ra0
  case ha0 => intro W hW; obtain ⟨c0, c1, c2, c3⟩ := PBox.cells hW; go_simp; all_goals with_reducible rfl
  change wpAnyH _ _ _ _ _ _ _ (Act.put _ (some 11) _) _
  simp only [Act.put, List.setIfInBounds_toArray, List.set_cons_zero, List.set_cons_succ]
  refine' wpAnyH_take (i := 1) (v := _) rfl (by kernel_rfl) (by kernel_rfl) (by kernel_rfl) (fun _ _ _ h => h) (Or.inl ⟨by kernel_rfl, ?ha1⟩) (by assumption) ?ra1
  case ha1 => intro W hW; go_simp; all_goals with_reducible rfl
  change wpAnyH _ _ _ _ _ _ _ (Act.put _ (some 12) _) _
  simp only [Act.put, List.setIfInBounds_toArray, List.set_cons_zero, List.set_cons_succ]
  refine' wpAnyH_take (i := 2) (v := _) rfl (by kernel_rfl) (by kernel_rfl) (by kernel_rfl) (fun _ _ _ h => h) (Or.inl ⟨by kernel_rfl, ?ha2⟩) (by assumption) ?ra2
  case ha2 => intro W hW; obtain ⟨c0, c1, c2, c3⟩ := PBox.cells hW; go_simp; all_goals with_reducible rfl
  change wpAnyH _ _ _ _ _ _ _ (Act.put _ (some 13) _) _
  simp only [Act.put, List.setIfInBounds_toArray, List.set_cons_zero, List.set_cons_succ]
  refine' wpAnyH_take (i := 4) (v := _) rfl (by kernel_rfl) (by kernel_rfl) (by kernel_rfl) (fun _ _ _ h => h) (Or.inl ⟨by kernel_rfl, ?ha4⟩) (by assumption) ?ra4
  case ha4 => intro W hW; go_simp; all_goals with_reducible rfl
  change wpAnyH _ _ _ _ _ _ _ (Act.put _ (some 15) _) _
  simp only [Act.put, List.setIfInBounds_toArray, List.set_cons_zero, List.set_cons_succ]
  refine' wpAnyH_take (i := 5) (v := _) rfl (by kernel_rfl) (by kernel_rfl) (by kernel_rfl) (fun _ _ _ h => h) (Or.inl ⟨by kernel_rfl, ?ha5⟩) (by assumption) ?ra5
  case ha5 => intro W hW; obtain ⟨c0, c1, c2, c3⟩ := PBox.cells hW; go_simp; all_goals with_reducible rfl
  change wpAnyH _ _ _ _ _ _ _ (Act.put _ (some 16) _) _
  simp only [Act.put, List.setIfInBounds_toArray, List.set_cons_zero, List.set_cons_succ]
  refine wpAnyH_ready (rs := [3]) (by kernel_rfl) (by simp) ?_
  refine AllReadyH.cons rfl (fun KK hK => ?_) AllReadyH.nil
  go_simp
  refine (hG _ hC3.drew).mono ?_
  rintro e w5 ⟨k, x, s, rfl, hD⟩
  have hV5 := hV3.drew.but hD.but (by omega)
  have hP5 := hP3.drew.but hD.but (by omega)
  have hQ5 := hQ3.drew.but hD.but (by omega)
  have hU5 := hU3.drew.but hD.but (by omega)
  have hB5 : Below w.heap.size w w5 := hB3.drew.trans (hD.but.below (by omega) hB3.drew.size)
  have hC5 := hD.cur
  have HS5 : Hid (s.size ≤ 40) := hD.few
  clear hD hV3 hP3 hQ3 hU3 hB3 hC3
  go_wp2_with fail
  refine hK.out _ _ hV5 (fun hHeld => ?_)
  clear hK KK
  try simp only [Act.put, List.setIfInBounds_toArray, List.set_cons_zero, List.set_cons_succ]
  refine wpAnyH_ready (rs := [6]) (by kernel_rfl) (by simp) ?_
  refine AllReadyH.cons rfl (fun KK hK => ?_) AllReadyH.nil
  go_simp
  refine (hG _ hC5).mono ?_
  rintro e w6 ⟨k', x', s', rfl, hD⟩
  have hV6 := hV5.but hD.but (by omega)
  have hP6 := hP5.but hD.but (by omega)
  have hQ6 := hQ5.but hD.but (by omega)
  have hU6 := hU5.but hD.but (by omega)
  have hB6 : Below w.heap.size w w6 := hB5.trans (hD.but.below (by omega) hB5.size)
  have hC6 := hD.cur
  have HS6 : Hid (s'.size ≤ 40) := hD.few
  clear hD hV5 hP5 hQ5 hU5 hB5 hC5
  go_wp2_with fail
  refine hK.out _ _ hV6 (fun hHeld => ?_)
  clear hK KK
  try simp only [Act.put, List.setIfInBounds_toArray, List.set_cons_zero, List.set_cons_succ]
  clear hC6 hG
  obtain ⟨f0, f1, f2, f3⟩ := hP6.frozen
  obtain ⟨d0, d1, d2, d3⟩ := hP6.cells
  have hVs := hV6.others (D := w.heap.size) (by omega) c t nul d
  have hQs := hQ6.others (D := w.heap.size) (by omega) c t nul d
  have hUs := hU6.others (D := w.heap.size) (by omega) c t nul d
  have hPs := hP6.put c t nul d
  have hVt := hVs.others3 (D := w.heap.size + 1) (by omega) k x s
  have hUt := hUs.others3 (D := w.heap.size + 1) (by omega) k x s
  have hPt := hPs.others3 (D := w.heap.size + 1) (by omega) k x s
  have hQt := hQs.put k x s
  have hVu := hVt.others3 (D := w.heap.size + 2) (by omega) k' x' s'
  have hPu := hPt.others3 (D := w.heap.size + 2) (by omega) k' x' s'
  have hQu := hQt.others3 (D := w.heap.size + 2) (by omega) k' x' s'
  have hUu := hUt.put k' x' s'
  obtain ⟨g0, g1, g2, g3⟩ := hPu.cells
  obtain ⟨m0, m1, m2⟩ := hQu.cells
  obtain ⟨n0, n1, n2⟩ := hUu.cells
  obtain ⟨i0, i1, i2⟩ := hQs.cells
  obtain ⟨j0, j1, j2⟩ := hQs.frozen
  obtain ⟨a0, a1, a2⟩ := hUt.cells
  obtain ⟨b0, b1, b2⟩ := hUt.frozen
  have HB : Hid (Below w.heap.size w _) := below_past10 hB6 c t nul d k x s k' x' s'
  clear hV6 hP6 hQ6 hU6 hB6 hPs hQs hUs hPt hQt hUt hPu hQu hUu
  refine wpAnyH_ready (rs := [7]) (by kernel_rfl) (by simp) ?_
  refine AllReadyH.cons rfl (fun KK hK => ?_) AllReadyH.nil
  go_simp
  refine hK.out _ _ hVs (fun hHeld => ?_)
  clear hK KK
  try simp only [Act.put, List.setIfInBounds_toArray, List.set_cons_zero, List.set_cons_succ]
  refine wpAnyH_ready (rs := [8]) (by kernel_rfl) (by simp) ?_
  refine AllReadyH.cons rfl (fun KK hK => ?_) AllReadyH.nil
  go_simp
  refine hK.out _ _ hVt (fun hHeld => ?_)
  clear hK KK
  try simp only [Act.put, List.setIfInBounds_toArray, List.set_cons_zero, List.set_cons_succ]
  refine wpAnyH_ready (rs := [9]) (by kernel_rfl) (by simp) ?_
  refine AllReadyH.cons rfl (fun KK hK => ?_) AllReadyH.nil
  go_simp
  refine hK.out _ _ hVu (fun hHeld => ?_)
  clear hK KK
  try simp only [Act.put, List.setIfInBounds_toArray, List.set_cons_zero, List.set_cons_succ]
  refine wpAnyH_done (by kernel_rfl) ?_ _
  go_wp2
  exact bodyPost_ret (v := .tuple #[.agg #[.int .i64 c, .int .i64 t, .bool nul, .bool d], .agg #[.int .i64 k, .int .i64 x, .string s], .agg #[.int .i64 k', .int .i64 x', .string s']]) (by simp [results, Try.results8, go_sem, g0, g1, g2, g3, m0, m1, m2, n0, n1, n2]) rfl ⟨⟨c, t, nul, d, k, x, s, k', x', s', rfl, HS5.out, HS6.out⟩, HB.out⟩
end Go.Proofs.Ytbcgonfihdpjnac

/-
  Whether bytes are ahead of others, as texts are.
-/
namespace Go.Proofs.Ytbcgonfihdpjnac
open Go.RowKit
set_option maxRecDepth 4000

/-- Whether the bytes of the one are ahead of the other's. -/
def ahead (l k : List Int) : Bool := Op.bytesLess (strOfNums l).toList (strOfNums k).toList
theorem toList_data (s : ByteArray) : s.toList = s.data.toList := ByteArray.toList_eq s
end Go.Proofs.Ytbcgonfihdpjnac

/-
  Numbers in order, plainly: the order of their bytes is theirs, none is the beginning of another one, and they come back.
-/
namespace Go.Proofs.Ytbcgonfihdpjnac
open Go.RowKit
set_option maxRecDepth 4000

def u8 (z : Int) : UInt8 := UInt8.ofNat z.toNat
theorem u8_lt {a b : Int} (ha : 0 ≤ a ∧ a ≤ 255) (hb : 0 ≤ b ∧ b ≤ 255) : u8 a < u8 b ↔ a < b := by
  unfold u8
  rw [UInt8.lt_iff_toNat_lt, UInt8.toNat_ofNat', UInt8.toNat_ofNat']
  omega
theorem u8_inj {a b : Int} (ha : 0 ≤ a ∧ a ≤ 255) (hb : 0 ≤ b ∧ b ≤ 255) : u8 a = u8 b ↔ a = b := by
  constructor
  · intro h
    have := congrArg UInt8.toNat h
    unfold u8 at this
    rw [UInt8.toNat_ofNat', UInt8.toNat_ofNat'] at this
    omega
  · intro h; rw [h]

theorem less_snoc (x y : UInt8) : ∀ a b : List UInt8, a.length = b.length → Op.bytesLess (a ++ [x]) (b ++ [y]) = (Op.bytesLess a b || (decide (a = b) && decide (x < y)))
  | [], [], _ => by
    by_cases h : x < y
    · simp [Op.bytesLess, h]
    · simp [Op.bytesLess, h]
  | p :: ps, q :: qs, h => by
    have ih := less_snoc x y ps qs (by simpa using h)
    simp only [List.cons_append, Op.bytesLess]
    by_cases h1 : p < q
    · simp [h1]
    · by_cases h2 : p = q
      · subst h2
        simp [h1, ih]
      · have hb : (p == q) = false := by simpa using h2
        simp [h1, h2, hb]

theorem ahead_eq (l k : List Int) : ahead l k = Op.bytesLess (l.map u8) (k.map u8) := by
  unfold ahead
  rw [toList_data, toList_data, strOfNums_data, strOfNums_data]
  rfl
theorem lof_snoc (k : Nat) (f : Nat → Int) : lof (k + 1) f = lof k f ++ [f k] := by simp [lof, List.range_succ]

theorem map_u8_inj : ∀ (l k : List Int), (∀ y ∈ l, 0 ≤ y ∧ y ≤ 255) → (∀ y ∈ k, 0 ≤ y ∧ y ≤ 255) → (l.map u8 = k.map u8 ↔ l = k)
  | [], [], _, _ => by simp
  | [], _ :: _, _, _ => by simp
  | _ :: _, [], _, _ => by simp
  | x :: xs, y :: ys, h1, h2 => by
    have ih := map_u8_inj xs ys (fun z hz => h1 z (by simp [hz])) (fun z hz => h2 z (by simp [hz]))
    simp only [List.map_cons, List.cons.injEq, ih, u8_inj (h1 x (by simp)) (h2 y (by simp))]

section
variable {f g : Nat → Int}
theorem valF_inj (k : Nat) (hf : ∀ i, i < k → 0 ≤ f i ∧ f i ≤ 255) (hg : ∀ i, i < k → 0 ≤ g i ∧ g i ≤ 255) : lof k f = lof k g ↔ valF k f = valF k g := by
  constructor
  · intro h
    apply valF_congr
    intro i hi
    rw [← lof_get k f i hi, ← lof_get k g i hi, h]
  · intro h
    unfold lof
    apply List.map_congr_left
    intro i hi
    have hi := List.mem_range.1 hi
    rw [← be_valF k f hf i hi, ← be_valF k g hg i hi, h]

/-- Of as many bytes the order is that of the numbers. -/
theorem ahead_valF : ∀ (k : Nat), (∀ i, i < k → 0 ≤ f i ∧ f i ≤ 255) → (∀ i, i < k → 0 ≤ g i ∧ g i ≤ 255) → ahead (lof k f) (lof k g) = decide (valF k f < valF k g)
  | 0, _, _ => by rw [ahead_eq]; rfl
  | k + 1, hf, hg => by
    have ih := ahead_valF k (fun i hi => hf i (by omega)) (fun i hi => hg i (by omega))
    have hj := valF_inj k (fun i hi => hf i (by omega)) (fun i hi => hg i (by omega))
    have hfk := hf k (by omega)
    have hgk := hg k (by omega)
    rw [ahead_eq] at ih ⊢
    rw [lof_snoc, lof_snoc, List.map_append, List.map_append]
    show Op.bytesLess ((lof k f).map u8 ++ [u8 (f k)]) ((lof k g).map u8 ++ [u8 (g k)]) = _
    rw [less_snoc _ _ _ _ (by simp [lof_len]), ih]
    have e1 : ((lof k f).map u8 = (lof k g).map u8) = (valF k f = valF k g) := propext ((map_u8_inj _ _ (lof_byte (fun i hi => hf i (by omega))) (lof_byte (fun i hi => hg i (by omega)))).trans hj)
    have e2 : (u8 (f k) < u8 (g k)) = (f k < g k) := propext (u8_lt hfk hgk)
    simp only [e1, e2, valF]
    rw [← Bool.decide_and, ← Bool.decide_or]
    apply decide_eq_decide.2
    omega
end

theorem ahead_cons (x y : Int) (l k : List Int) (hx : 0 ≤ x ∧ x ≤ 255) (hy : 0 ≤ y ∧ y ≤ 255) : ahead (x :: l) (y :: k) = if x < y then true else if x = y then ahead l k else false := by
  rw [ahead_eq, ahead_eq]
  simp only [List.map_cons, Op.bytesLess]
  by_cases h1 : x < y
  · simp [h1, (u8_lt hx hy).2 h1]
  · have n1 : ¬ u8 x < u8 y := fun h => h1 ((u8_lt hx hy).1 h)
    by_cases h2 : x = y
    · subst h2; simp
    · have n2 : u8 x ≠ u8 y := fun h => h2 ((u8_inj hx hy).1 h)
      simp [h1, h2, n1, n2]

theorem clampF_self (x : Int) (h : -2147483648 ≤ x ∧ x ≤ 2147483647) : clampF x = x := by unfold clampF; rw [if_neg (by omega), if_neg (by omega)]
theorem clampV_self (x : Int) (h : -1000000000000000 ≤ x ∧ x ≤ 1000000000000000) : clampV x = x := by unfold clampV; rw [if_neg (by omega), if_neg (by omega)]
theorem valF_fix (x : Int) : valF 4 (be 4 (clampF x + 2147483648)) = clampF x + 2147483648 := by
  have := clampF_bd x
  have e : (256 : Int) ^ 4 = 4294967296 := by decide
  exact valF_be 4 _ (by omega) (by omega)
theorem fix_ahead (x y : Int) : ahead (fixL x) (fixL y) = decide (clampF x < clampF y) := by
  unfold fixL
  rw [ahead_valF 4 (fun i _ => be_bd _ _ i) (fun i _ => be_bd _ _ i), valF_fix, valF_fix]
  apply decide_eq_decide.2
  omega
theorem fixL_clamp (x : Int) : fixL (clampF x) = fixL x := by unfold fixL; rw [clampF_self _ (clampF_bd x)]
theorem varL_clamp (x : Int) : varL (clampV x) = varL x := by unfold varL; rw [clampV_self _ (clampV_bd x)]

theorem behind (l k : List Int) (m i : Nat) (h : l.length = m) : (l ++ k).getD (m + i) 0 = k.getD i 0 := by
  rw [List.getD_eq_getElem?_getD, List.getD_eq_getElem?_getD, List.getElem?_append_right (by omega), show m + i - l.length = i by omega]

section
variable {x y : Int} (hx : -1000000000000000 ≤ x ∧ x ≤ 1000000000000000) (hy : -1000000000000000 ≤ y ∧ y ≤ 1000000000000000)
include hx
theorem size_lt : sizeV x < 256 ^ cnt (sizeV x) := cnt_lt _ (by have := sizeV_bd x hx; omega)
theorem size_back : valF (cnt (sizeV x)) (be (cnt (sizeV x)) (sizeV x)) = sizeV x := valF_be _ _ (sizeV_bd x hx).1 (size_lt hx)
/-- The digits, turned or not, as a number. -/
theorem tail_val : valF (cnt (sizeV x)) (tailV x) = if x < 0 then 256 ^ cnt (sizeV x) + x else x := by
  have hb := size_back hx
  by_cases h : x < 0
  · rw [if_pos h]
    have e : sizeV x = -1 - x := by unfold sizeV; rw [if_pos h]
    have key : ∀ k, valF k (tailV x) = 256 ^ k - 1 - valF k (be (cnt (sizeV x)) (sizeV x)) := by
      intro k
      induction k with
      | zero => rfl
      | succ k ih =>
        rw [valF, valF, ih, Int.pow_succ]
        unfold tailV
        rw [if_pos h]
        omega
    rw [key, hb, e]
    omega
  · rw [if_neg h]
    have e : sizeV x = x := by unfold sizeV; rw [if_neg h]
    have : valF (cnt (sizeV x)) (tailV x) = valF (cnt (sizeV x)) (be (cnt (sizeV x)) (sizeV x)) := by
      apply valF_congr
      intro i _
      unfold tailV
      rw [if_neg h]
    rw [this, hb, e]

include hy
theorem head_lt (h : headV x < headV y) : x < y := by
  have lx := size_lt hx
  have ly := size_lt hy
  unfold headV at h
  by_cases h1 : x < 0
  · by_cases h2 : y < 0
    · rw [if_pos h1, if_pos h2] at h
      have e1 : sizeV x = -1 - x := by unfold sizeV; rw [if_pos h1]
      have e2 : sizeV y = -1 - y := by unfold sizeV; rw [if_pos h2]
      have hg := cnt_ge (sizeV x) (by omega)
      have hm : (256 : Int) ^ cnt (sizeV y) ≤ 256 ^ (cnt (sizeV x) - 1) := pow_mono (by omega)
      omega
    · omega
  · by_cases h2 : y < 0
    · rw [if_neg h1, if_pos h2] at h
      omega
    · rw [if_neg h1, if_neg h2] at h
      have e1 : sizeV x = x := by unfold sizeV; rw [if_neg h1]
      have e2 : sizeV y = y := by unfold sizeV; rw [if_neg h2]
      have hg := cnt_ge (sizeV y) (by omega)
      have hm : (256 : Int) ^ cnt (sizeV x) ≤ 256 ^ (cnt (sizeV y) - 1) := pow_mono (by omega)
      omega
omit hx hy in
theorem head_same (h : headV x = headV y) : cnt (sizeV x) = cnt (sizeV y) ∧ (x < 0 ↔ y < 0) := by
  unfold headV at h
  (repeat' split at h) <;> omega
theorem kept_ahead : ahead (keptL x) (keptL y) = decide (x < y) := by
  unfold keptL
  rw [ahead_cons _ _ _ _ (headV_bd x) (headV_bd y)]
  by_cases h1 : headV x < headV y
  · rw [if_pos h1, decide_eq_true (head_lt hx hy h1)]
  · rw [if_neg h1]
    by_cases h2 : headV x = headV y
    · rw [if_pos h2]
      obtain ⟨hc, hs⟩ := head_same h2
      have tx := tail_val hx
      have ty := tail_val hy
      rw [← hc] at ty ⊢
      rw [ahead_valF _ (fun i _ => tailV_bd x i) (fun i _ => tailV_bd y i), tx, ty]
      apply decide_eq_decide.2
      by_cases h : x < 0
      · rw [if_pos h, if_pos (hs.1 h)]; omega
      · rw [if_neg h, if_neg (fun h' => h (hs.2 h'))]
    · rw [if_neg h2, decide_eq_false]
      intro h
      rcases Int.lt_trichotomy (headV x) (headV y) with h3 | h3 | h3
      · exact h1 h3
      · exact h2 h3
      · have := head_lt hy hx h3
        omega
theorem kept_same (h : headV x = headV y) (ht : lof (cnt (sizeV x)) (tailV x) = lof (cnt (sizeV y)) (tailV y)) : x = y := by
  obtain ⟨hc, hs⟩ := head_same h
  have tx := tail_val hx
  have ty := tail_val hy
  rw [← hc] at ty ht
  have e := (valF_inj _ (fun i _ => tailV_bd x i) (fun i _ => tailV_bd y i)).1 ht
  rw [tx, ty] at e
  by_cases h : x < 0
  · rw [if_pos h, if_pos (hs.1 h)] at e; omega
  · rw [if_neg h, if_neg (fun h' => h (hs.2 h'))] at e; exact e
theorem kept_prefix {r : List Int} (h : keptL x = keptL y ++ r) : x = y := by
  have hh : headV x = headV y := by unfold keptL at h; simpa using (List.cons.inj h).1
  have hl := congrArg List.length h
  rw [List.length_append, keptL_len, keptL_len, (head_same hh).1] at hl
  have : r = [] := List.eq_nil_of_length_eq_zero (by omega)
  rw [this, List.append_nil] at h
  unfold keptL at h
  exact kept_same hx hy hh (List.cons.inj h).2
end
end Go.Proofs.Ytbcgonfihdpjnac

/-
  Numbers in order, plainly: they come back of their bytes, and what is read of bytes has these.
-/
namespace Go.Proofs.Ytbcgonfihdpjnac
open Go.RowKit
set_option maxRecDepth 4000

theorem getF_put (l : List Int) (m : Nat) (x : Int) (hl : l.length = m) : getF (m + 4) (fun i => (l ++ fixL x).getD i 0) (m : Int) = (clampF x, (m : Int) + 4, true) := by
  rw [getF_is _ _ _ (Nat.le_refl _)]
  have e : valF 4 (fun i => (l ++ fixL x).getD (m + i) 0) = clampF x + 2147483648 := by
    rw [← valF_fix x]
    apply valF_congr
    intro i hi
    rw [behind _ _ _ _ hl]
    unfold fixL
    rw [lof_get 4 _ i hi]
  rw [e]
  simp only [Prod.mk.injEq, and_true]
  omega

theorem fix_read {n : Nat} {F : Nat → Int} {p a q : Int} (hb : ∀ i, i < n → 0 ≤ F i ∧ F i ≤ 255) (h : getF n F p = (a, q, true)) :
    ∃ i : Nat, p = (i : Int) ∧ q = (i : Int) + 4 ∧ i + 4 ≤ n ∧ -2147483648 ≤ a ∧ a ≤ 2147483647 ∧ fixL a = lof 4 (fun j => F (i + j)) := by
  unfold getF at h
  split at h
  · simp at h
  · obtain ⟨i, rfl⟩ := Int.eq_ofNat_of_zero_le (a := p) (by omega)
    simp only [Prod.mk.injEq, and_true, Int.toNat_natCast] at h
    obtain ⟨rfl, rfl⟩ := h
    have hbi : ∀ j, j < 4 → 0 ≤ F (i + j) ∧ F (i + j) ≤ 255 := fun j hj => hb _ (by omega)
    have hv := valF4_bd (fun j => F (i + j)) hbi
    refine ⟨i, rfl, rfl, by omega, by omega, by omega, ?_⟩
    unfold fixL
    rw [clampF_self _ (by omega), Int.sub_add_cancel]
    unfold lof
    apply List.map_congr_left
    intro j hj
    exact be_valF 4 _ hbi j (List.mem_range.1 hj)

theorem hcnt_head (x : Int) : hcnt (headV x) = cnt (sizeV x) ∧ (headV x < 128 ↔ x < 0) := by
  unfold headV hcnt
  (repeat' split) <;> omega

theorem getV_put (l : List Int) (m : Nat) (x : Int) (hl : l.length = m) : getV (m + (varL x).length) (fun i => (l ++ varL x).getD i 0) (m : Int) = (clampV x, (m : Int) + ((varL x).length : Int), true) := by
  have hy := clampV_bd x
  unfold varL
  generalize clampV x = y at *
  have hlen := keptL_len y
  obtain ⟨hh, hs⟩ := hcnt_head y
  have hF0 : (l ++ keptL y).getD m 0 = headV y := by
    have := behind l (keptL y) m 0 hl
    rw [Nat.add_zero] at this
    rw [this]
    rfl
  have hFt : ∀ j, j < cnt (sizeV y) → (l ++ keptL y).getD (m + 1 + j) 0 = tailV y j := by
    intro j hj
    rw [Nat.add_assoc, behind _ _ _ _ hl, Nat.add_comm 1 j]
    show (lof (cnt (sizeV y)) (tailV y)).getD j 0 = _
    exact lof_get _ _ j hj
  have hD : ∀ j, j < cnt (sizeV y) → digF (fun i => (l ++ keptL y).getD i 0) m j = be (cnt (sizeV y)) (sizeV y) j := by
    intro j hj
    unfold digF turnF
    simp only [hF0, hFt j hj]
    unfold tailV
    by_cases h : y < 0
    · rw [if_pos (by simpa using hs.2 h), if_pos h]; omega
    · rw [if_neg (by simpa using fun h' => h (hs.1 h')), if_neg h]
  have hv : valF (cnt (sizeV y)) (digF (fun i => (l ++ keptL y).getD i 0) m) = sizeV y := by
    rw [valF_congr _ _ _ hD]
    exact size_back hy
  have hn : numV (fun i => (l ++ keptL y).getD i 0) m = y := by
    unfold numV
    simp only [hF0, hh, hv]
    unfold sizeV
    by_cases h : y < 0
    · rw [if_pos (hs.2 h), if_pos h]; omega
    · rw [if_neg (fun h' => h (hs.1 h')), if_neg h]
  rw [getV_is]
  · simp only [hF0, hh, hn, hlen, Prod.mk.injEq, and_true, true_and]
    omega
  · omega
  · simp only [hF0, hh, hlen]
    have := cnt_le (sizeV y)
    omega
  · unfold badV
    simp only [hF0, hh, hn]
    have hc := (cnt_valF (cnt (sizeV y)) (be (cnt (sizeV y)) (sizeV y)) (cnt_le _) (fun i _ => be_bd _ _ i)).1 (by rw [size_back hy])
    rintro (⟨h0, h1⟩ | h | h)
    · rw [hD 0 h0] at h1
      exact hc ⟨h0, h1⟩
    · omega
    · omega

theorem var_read {n : Nat} {F : Nat → Int} {p a q : Int} (hb : ∀ i, i < n → 0 ≤ F i ∧ F i ≤ 255) (h : getV n F p = (a, q, true)) :
    ∃ i : Nat, p = (i : Int) ∧ q = (i : Int) + ((varL a).length : Int) ∧ i + (varL a).length ≤ n ∧ -1000000000000000 ≤ a ∧ a ≤ 1000000000000000 ∧ varL a = lof (varL a).length (fun j => F (i + j)) := by
  by_cases h1 : p < 0 ∨ (n : Int) ≤ p
  · rw [getV_out n F p h1] at h; simp at h
  obtain ⟨i, rfl⟩ := Int.eq_ofNat_of_zero_le (a := p) (by omega)
  have hin : i < n := by omega
  by_cases h2 : 7 < hcnt (F i) ∨ n < i + 1 + hcnt (F i)
  · rw [getV_few n F i hin h2] at h; simp at h
  by_cases h3 : badV F i
  · rw [getV_bad n F i hin h2 h3] at h; simp at h
  rw [getV_is n F i hin h2 h3] at h
  simp only [Prod.mk.injEq, and_true] at h
  obtain ⟨rfl, rfl⟩ := h
  unfold badV at h3
  have hhi := hb i hin
  have hD : ∀ j, j < hcnt (F i) → 0 ≤ digF F i j ∧ digF F i j ≤ 255 := turnF_bd _ (fun j hj => hb _ (by omega))
  have hv := valF7 (hcnt (F i)) (digF F i) (by omega) hD
  have hcv := (cnt_valF (hcnt (F i)) (digF F i) (by omega) hD).2 (fun h => h3 (Or.inl h))
  have hbe := be_valF (hcnt (F i)) (digF F i) hD
  have hrange : -1000000000000000 ≤ numV F i ∧ numV F i ≤ 1000000000000000 := by omega
  have hneg : numV F i < 0 ↔ F i < 128 := by unfold numV; split <;> omega
  have hsz : sizeV (numV F i) = valF (hcnt (F i)) (digF F i) := by
    unfold sizeV
    by_cases h : F i < 128
    · rw [if_pos (hneg.2 h)]; unfold numV; rw [if_pos h]; omega
    · rw [if_neg (fun h' => h (hneg.1 h'))]; unfold numV; rw [if_neg h]
  have hlen : (varL (numV F i)).length = hcnt (F i) + 1 := by unfold varL; rw [clampV_self _ hrange, keptL_len, hsz, hcv]
  refine ⟨i, rfl, by rw [hlen]; omega, by rw [hlen]; omega, hrange.1, hrange.2, ?_⟩
  rw [hlen, Nat.add_comm (hcnt (F i)) 1, lof_cons]
  unfold varL keptL
  rw [clampV_self _ hrange, hsz, hcv]
  congr 1
  · unfold headV
    rw [hsz, hcv, Nat.add_zero]
    unfold hcnt
    by_cases h : F i < 128
    · rw [if_pos (hneg.2 h), if_pos h]; omega
    · rw [if_neg (fun h' => h (hneg.1 h')), if_neg h]; omega
  · unfold lof
    apply List.map_congr_left
    intro j hj
    have hj := List.mem_range.1 hj
    unfold tailV
    rw [hsz, hcv, hbe j hj, show i + (j + 1) = i + 1 + j by omega]
    unfold digF turnF
    by_cases h : F i < 128
    · rw [if_pos (hneg.2 h), if_pos (by simpa using h)]
      show 255 - (255 - F (i + 1 + j)) = F (i + 1 + j)
      omega
    · rw [if_neg (fun h' => h (hneg.1 h')), if_neg (by simpa using h)]
end Go.Proofs.Ytbcgonfihdpjnac

/-
  Texts in order, plainly: they come back of their bytes; the order of the bytes is theirs; none is the beginning of another one.
-/
namespace Go.Proofs.Ytbcgonfihdpjnac
open Go.RowKit
set_option maxRecDepth 4000

theorem byteBack (b : UInt8) : UInt8.ofNat ((b.toNat : Int)).toNat = b := by simp
theorem strOfNums_sl (s : ByteArray) : strOfNums (sl s) = s := by
  apply ByteArray.ext
  apply Array.toList_inj.1
  rw [strOfNums_data]
  unfold sl
  rw [List.map_map]
  conv => rhs; rw [← List.map_id s.data.toList]
  apply List.map_congr_left
  intro b _
  exact byteBack b
theorem sl_inj {s t : ByteArray} (h : sl s = sl t) : s = t := by rw [← strOfNums_sl s, ← strOfNums_sl t, h]

def escU : List UInt8 → List UInt8
  | [] => []
  | x :: xs => (if x = 0 then [0, 255] else [x]) ++ escU xs

theorem less_esc : ∀ a b : List UInt8, Op.bytesLess (escU a ++ [0, 1]) (escU b ++ [0, 1]) = Op.bytesLess a b
  | [], [] => by decide
  | [], y :: ys => by
    by_cases h : y = 0
    · subst h; simp [escU, Op.bytesLess]
    · have h0 : (0 : UInt8) < y := by
        rw [UInt8.lt_iff_toNat_lt]
        have : y.toNat ≠ 0 := fun e => h (UInt8.toNat_inj.1 e)
        show 0 < y.toNat
        omega
      simp [escU, Op.bytesLess, h, h0]
  | x :: xs, [] => by
    by_cases h : x = 0
    · subst h; simp [escU, Op.bytesLess]
    · simp [escU, Op.bytesLess, h]
  | x :: xs, y :: ys => by
    have ih := less_esc xs ys
    by_cases hx : x = 0
    · by_cases hy : y = 0
      · subst hx hy
        simp [escU, Op.bytesLess, ih]
      · subst hx
        have h0 : (0 : UInt8) < y := by
          rw [UInt8.lt_iff_toNat_lt]
          have : y.toNat ≠ 0 := fun e => hy (UInt8.toNat_inj.1 e)
          show 0 < y.toNat
          omega
        simp [escU, Op.bytesLess, hy, h0]
    · by_cases hy : y = 0
      · subst hy
        have hb : (x == 0) = false := by simpa using hx
        simp [escU, Op.bytesLess, hx, hb]
      · simp [escU, Op.bytesLess, hx, hy, ih]

theorem escL_U : ∀ l : List UInt8, (escL (l.map (fun b => (b.toNat : Int)))).map (fun n => UInt8.ofNat n.toNat) = escU l
  | [] => rfl
  | x :: xs => by
    have ih := escL_U xs
    simp only [List.map_cons, escL, List.map_append, ih, escU]
    congr 1
    by_cases h : x = 0
    · subst h; simp [esc1]
    · have : ((x.toNat : Int)) ≠ 0 := by
        intro e
        apply h
        apply UInt8.toNat_inj.1
        show x.toNat = 0
        omega
      unfold esc1
      rw [if_neg this, if_neg h]
      simp

theorem esc_ahead (s t : ByteArray) : ahead (escL (sl s) ++ [0, 1]) (escL (sl t) ++ [0, 1]) = Op.bytesLess s.toList t.toList := by
  unfold ahead
  rw [toList_data, toList_data, toList_data, toList_data, strOfNums_data, strOfNums_data, List.map_append, List.map_append]
  unfold sl
  rw [escL_U, escL_U]
  exact less_esc _ _

theorem esc_prefix {a b rest : List Int} (h : escL a ++ [0, 1] = (escL b ++ [0, 1]) ++ rest) : a = b := by
  have h1 := readE_put a []
  have h2 := readE_put b rest
  rw [h, List.append_assoc] at h1
  rw [show [0, 1] ++ rest = 0 :: 1 :: rest from rfl, h2] at h1
  cases h1
  rfl

theorem fromL_drop (l : List Int) (k : Nat) : fromL l.length (fun i => l.getD i 0) k = l.drop k := by
  unfold fromL lof
  apply List.ext_getElem
  · simp
  · intro i h1 h2
    simp at h1
    have : k + i < l.length := by omega
    simp [this]

theorem getE_putE (m : Nat) (f : Nat → Int) (s : ByteArray) : getE (m + escN s) (fun i => (escT m f s).getD i 0) (m : Int) = (s, ((m + escN s : Nat) : Int), true) := by
  have h := fromL_drop (escT m f s) m
  rw [escT_len] at h
  have h2 : readE (fromL (m + escN s) (fun i => (escT m f s).getD i 0) m) = some (sl s, escN s) := by
    rw [h]
    unfold escT
    rw [List.drop_left' (lof_len m f)]
    exact readE_put (sl s) []
  rw [getE_some h2, strOfNums_sl]
  simp

end Go.Proofs.Ytbcgonfihdpjnac

/-
  What is read as a text in order has these bytes.
-/
namespace Go.Proofs.Ytbcgonfihdpjnac
open Go.RowKit
set_option maxRecDepth 4000

theorem mem_escL {t : List Int} {y : Int} (h : y ∈ t) : y ∈ escL t := by
  induction t with
  | nil => cases h
  | cons x xs ih =>
    rcases List.mem_cons.1 h with rfl | h
    · refine List.mem_append_left _ ?_
      unfold esc1
      split
      · rename_i e; subst e; simp
      · simp
    · exact List.mem_append_right _ (ih h)

theorem sl_strOfNums {t : List Int} (h : ∀ y ∈ t, 0 ≤ y ∧ y ≤ 255) : sl (strOfNums t) = t :=
  strOfNums_inj (sl_byte _) h (strOfNums_sl _)

theorem fromL_len (n : Nat) (f : Nat → Int) (k : Nat) : (fromL n f k).length = n - k := by unfold fromL; rw [lof_len]

theorem getE_back {m : Nat} {F : Nat → Int} {x : Int} {s : ByteArray} {q : Int} (hF : ∀ i, i < m → 0 ≤ F i ∧ F i ≤ 255) (h : getE m F x = (s, q, true)) :
    ∃ p K : Nat, x = (p : Int) ∧ q = (p : Int) + (K : Int) ∧ p + K ≤ m ∧ 2 ≤ K ∧ s.size ≤ K ∧ lof K (fun i => F (p + i)) = escL (sl s) ++ [0, 1] := by
  unfold getE at h
  by_cases hx : x < 0
  · rw [if_pos hx] at h; cases h
  · rw [if_neg hx] at h
    cases hr : readE (fromL m F x.toNat) with
    | none => rw [hr] at h; cases h
    | some r =>
      obtain ⟨t, K⟩ := r
      rw [hr] at h
      cases h
      obtain ⟨h1, h2⟩ := readE_is _ _ _ hr
      rw [fromL_len] at h1
      have hK : K = (escL t).length + 2 := by
        have := congrArg List.length h2
        rw [List.length_take, fromL_len, List.length_append] at this
        simp at this
        omega
      have hle := escL_len t
      have e1 : (fromL m F x.toNat).take K = lof K (fun i => F (x.toNat + i)) := by
        unfold fromL lof
        rw [← List.map_take, List.take_range, Nat.min_eq_left h1]
      rw [e1] at h2
      have hby : ∀ y ∈ t, 0 ≤ y ∧ y ≤ 255 := by
        intro y hy
        have hm : y ∈ lof K (fun i => F (x.toNat + i)) := by rw [h2]; exact List.mem_append_left _ (mem_escL hy)
        simp only [lof, List.mem_map, List.mem_range] at hm
        obtain ⟨j, hj, rfl⟩ := hm
        exact hF _ (by omega)
      refine ⟨x.toNat, K, by omega, by omega, by omega, by omega, ?_, ?_⟩
      · show (strOfNums t).size ≤ K
        rw [strOfNums_size]; omega
      · rw [sl_strOfNums hby]; exact h2
end Go.Proofs.Ytbcgonfihdpjnac

