/-
  The draws of two values, as far as a law leans on them.
-/
import Derived.Test.YthjddmhcppdleaaDrawAny
import Derived.Deep.RegionHeld3
namespace Go.Proofs.Ythjddmhcppdleaa
open Go.RowKit

theorem l1New_at (A : Nat) (ao : Option Addr) (n cap : Nat) (f : Nat → Int) (w : World) (hA : A = w.heap.size) (hn : n ≤ 1048576) (hv : View w ao n cap f) :
    Calls Try.prog 25 #[.slice ao n cap] w fun e w' => e = .returned (.pointer (some ⟨A, 0, none⟩)) ∧ Cur w' A ao n cap f ∧ Below w.heap.size w w' := by
  subst hA
  exact l1New_any ao n cap f w hn hv

theorem Box.drew {w : World} {B : Nat} {k n : Int} {s : ByteArray} (h : Box w B k n s) : Box w.drew B k n s := h

/-- Two values that are put into two variables. -/
theorem put2 {W : World} {P Q : Nat} {k0 m0 : Int} {s0 : ByteArray} {k1 m1 : Int} {s1 : ByteArray} (hP : Box W P k0 m0 s0) (hQ : Box W Q k1 m1 s1) (hne : P < Q) (k m : Int) (s : ByteArray) (k' m' : Int) (s' : ByteArray) :
    Box ((((((W.setCell ⟨P, 0, none⟩ (.int .i64 k)).setCell ⟨P, 1, none⟩ (.int .i64 m)).setCell ⟨P, 2, none⟩ (.string s)).setCell ⟨Q, 0, none⟩ (.int .i64 k')).setCell ⟨Q, 1, none⟩ (.int .i64 m')).setCell ⟨Q, 2, none⟩ (.string s')) P k m s ∧
    Box ((((((W.setCell ⟨P, 0, none⟩ (.int .i64 k)).setCell ⟨P, 1, none⟩ (.int .i64 m)).setCell ⟨P, 2, none⟩ (.string s)).setCell ⟨Q, 0, none⟩ (.int .i64 k')).setCell ⟨Q, 1, none⟩ (.int .i64 m')).setCell ⟨Q, 2, none⟩ (.string s')) Q k' m' s' :=
  ⟨(((hP.put k m s).other (by omega) _).other (by omega) _).other (by omega) _, (((hQ.other (D := P) (by omega) _).other (by omega) _).other (by omega) _).put k' m' s'⟩
theorem below2 {w W : World} {P Q : Nat} (h : Below w.heap.size w W) (hP : w.heap.size ≤ P) (hQ : w.heap.size ≤ Q) (a b c d e g : Value) :
    Below w.heap.size w ((((((W.setCell ⟨P, 0, none⟩ a).setCell ⟨P, 1, none⟩ b).setCell ⟨P, 2, none⟩ c).setCell ⟨Q, 0, none⟩ d).setCell ⟨Q, 1, none⟩ e).setCell ⟨Q, 2, none⟩ g) :=
  (((((h.setCell hP _).setCell hP _).setCell hP _).setCell hQ _).setCell hQ _).setCell hQ _

set_option linter.unusedSimpArgs false in
set_option maxHeartbeats 4000000 in
theorem drawSameVal_any (ao : Option Addr) (n cap : Nat) (f : Nat → Int) (w : World) (hn : n ≤ 1048576) (hv : View w ao n cap f) :
    Calls Try.prog 33 #[.slice ao n cap] w fun e w' => (∃ (k m : Int) (s : ByteArray) (k' m' : Int) (s' : ByteArray), e = .returned (.tuple #[.agg #[.int .i64 k, .int .i64 m, .string s], .agg #[.int .i64 k', .int .i64 m', .string s']])) ∧ Below w.heap.size w w' := by
  have hb0 : Below w.heap.size w ((w.alloc (.cells #[.int .i64 0, .int .i64 0, .string ⟨#[]⟩] 42)).alloc (.cells #[.int .i64 0, .int .i64 0, .string ⟨#[]⟩] 42)) := ((Below.refl _ _).alloc (Nat.le_refl _) _).alloc (by simp) _
  have hP0 := (Box.new w 0 0 ⟨#[]⟩).below ((Below.refl _ _).alloc (Nat.le_refl _) (.cells #[.int .i64 0, .int .i64 0, .string ⟨#[]⟩] 42))
  have hQ0 := Box.new (w.alloc (.cells #[.int .i64 0, .int .i64 0, .string ⟨#[]⟩] 42)) 0 0 ⟨#[]⟩
  have hv0 := hv.below hb0
  obtain ⟨A, hA⟩ : ∃ A, A = ((w.alloc (.cells #[.int .i64 0, .int .i64 0, .string ⟨#[]⟩] 42)).alloc (.cells #[.int .i64 0, .int .i64 0, .string ⟨#[]⟩] 42)).heap.size := ⟨_, rfl⟩
  have hA2 : A = w.heap.size + 2 := by rw [hA]; simp
  rw [show (w.alloc (.cells #[.int .i64 0, .int .i64 0, .string ⟨#[]⟩] 42)).heap.size = w.heap.size + 1 by simp] at hQ0
  have HA : Hid (A = w.heap.size + 2) := hA2
  have hPA : w.heap.size < A := by omega
  have hQA : w.heap.size + 1 < A := by omega
  clear hA2
  go_enter Try.func33, Try.ntmps33
  go_wp2_with fail
  refine (l1New_at A ao n cap f _ hA hn hv0).mono ?_
  rintro e w1 ⟨rfl, hC1, hb1⟩
  have hP1 := hP0.below hb1
  have hQ1 := hQ0.below hb1
  have hB1 : Below w.heap.size w w1 := hb0.trans (hb1.mono hb0.size)
  have hA1 := hC1.lt
  clear hb0 hb1 hP0 hQ0 hv0 hA
  go_wp2_with fail
  refine (l2Any_any A ao n cap f w1 hn hC1).mono ?_
  rintro e w2 ⟨k, m, s, rfl, hD⟩
  have hP2 := hP1.but hD.but (by omega)
  have hQ2 := hQ1.but hD.but (by omega)
  have hB2 : Below w.heap.size w w2 := hB1.trans (hD.but.below (by omega) hB1.size)
  have hC2 := hD.cur
  clear hD hP1 hQ1 hB1 hC1
  have hA2 := hC2.lt
  have hb3 : Below w2.heap.size w2 (w2.alloc (.cells #[.int .i64 k, .int .i64 m, .string s] 42)) := (Below.refl _ _).alloc (Nat.le_refl _) _
  go_wp2_with fail
  refine (l1Once_any A ao n cap f 4 (w2.alloc (.cells #[.int .i64 k, .int .i64 m, .string s] 42)) hn (by omega) (by omega) (hC2.below hb3)).mono ?_
  rintro e w4 ⟨b, rfl, hC4, hO4⟩
  have hV4 := (Box.new w2 k m s).but (But.ofOnly hO4) (by omega)
  have hP4 := (hP2.below hb3).but (But.ofOnly hO4) (by omega)
  have hQ4 := (hQ2.below hb3).but (But.ofOnly hO4) (by omega)
  have hB4 : Below w.heap.size w w4 := (hB2.trans (hb3.mono hB2.size)).trans ((But.ofOnly hO4).below (by omega) (by have := hB2.size; simp; omega))
  have hVP : w.heap.size < w2.heap.size := by omega
  have hVQ : w.heap.size + 1 < w2.heap.size := by omega
  clear hO4 hb3 hP2 hQ2 hB2 hC2
  cases b with
  | true =>
    obtain ⟨c0, c1, c2⟩ := hV4.cells
    obtain ⟨d0, d1, d2⟩ := hP4.cells
    obtain ⟨f0, f1, f2⟩ := hP4.frozen
    obtain ⟨p0, p1, p2⟩ := hQ4.cells
    obtain ⟨r0, r1, r2⟩ := hQ4.frozen
    have hG := put2 hP4 hQ4 (by omega) k m s k m s
    obtain ⟨g0, g1, g2⟩ := hG.1.cells
    obtain ⟨h0, h1, h2⟩ := hG.2.cells
    have HB : Hid (Below w.heap.size w _) := below2 hB4 (Nat.le_refl w.heap.size) (Nat.le_succ w.heap.size) (.int .i64 k) (.int .i64 m) (.string s) (.int .i64 k) (.int .i64 m) (.string s)
    clear hC4 hB4 hV4 hP4 hQ4 hG
    go_wp2
    go_region
    all_goals go_wp2
    all_goals exact bodyPost_ret (v := .tuple #[.agg #[_, _, _], .agg #[_, _, _]]) (by simp [results, Try.results33, go_sem, g0, g1, g2, h0, h1, h2]) rfl ⟨⟨k, m, s, k, m, s, rfl⟩, HB.out.drew⟩
  | false =>
    have hV := fun W h => l2Any_any A ao n cap f W hn h
    obtain ⟨c0, c1, c2⟩ := hV4.cells
    go_wp2_with fail
    clear c0 c1 c2
    refine wp_region_held_drew (S := fun W => Box W w2.heap.size k m s) (by kernel_rfl) hV4.drew (fun hHeld => ?_)
    refine' wpAnyH_take (i := 0) (v := _) rfl (by kernel_rfl) (by kernel_rfl) (by kernel_rfl) (fun _ _ _ h => h) (Or.inl ⟨by kernel_rfl, ?hy0⟩) (by assumption) ?rest0
    case hy0 => intro W hW; obtain ⟨c0, c1, c2⟩ := Box.cells hW; go_simp; all_goals with_reducible rfl
    change wpAnyH _ _ _ _ _ _ _ (Act.put _ (some 14) _) _
    simp only [Act.put, List.setIfInBounds_toArray, List.set_cons_zero, List.set_cons_succ]
    refine' wpAnyH_take (i := 1) (v := _) rfl (by kernel_rfl) (by kernel_rfl) (by kernel_rfl) (fun _ _ _ h => h) (Or.inl ⟨by kernel_rfl, ?hy1⟩) (by assumption) ?rest1
    case hy1 => intro W hW; go_simp; all_goals with_reducible rfl
    change wpAnyH _ _ _ _ _ _ _ (Act.put _ (some 15) _) _
    simp only [Act.put, List.setIfInBounds_toArray, List.set_cons_zero, List.set_cons_succ]
    refine wpAnyH_ready (rs := [2]) (by kernel_rfl) (by simp) ?_
    refine AllReadyH.cons rfl (fun KK hK => ?_) AllReadyH.nil
    go_simp
    refine (hV _ hC4.drew).mono ?_
    rintro e w5 ⟨k', m', s', rfl, hD⟩
    have hV5 := hV4.drew.but hD.but (by omega)
    have hP5 := hP4.drew.but hD.but (by omega)
    have hQ5 := hQ4.drew.but hD.but (by omega)
    have hB5 : Below w.heap.size w w5 := hB4.drew.trans (hD.but.below (by omega) hB4.drew.size)
    clear hD hV4 hP4 hQ4 hB4 hC4 hV
    go_wp2_with fail
    refine hK.out _ _ hV5 (fun hHeld => ?_)
    clear hK KK
    try simp only [Act.put, List.setIfInBounds_toArray, List.set_cons_zero, List.set_cons_succ]
    obtain ⟨f0, f1, f2⟩ := hP5.frozen
    obtain ⟨r0, r1, r2⟩ := hQ5.frozen
    obtain ⟨d0, d1, d2⟩ := hP5.cells
    obtain ⟨p0, p1, p2⟩ := hQ5.cells
    have hV6 := ((hV5.other (D := w.heap.size) (i := 0) (by omega) (.int .i64 k)).other (D := w.heap.size) (i := 1) (by omega) (.int .i64 m)).other (D := w.heap.size) (i := 2) (by omega) (.string s)
    have hV7 := ((hV6.other (D := w.heap.size + 1) (i := 0) (by omega) (.int .i64 k')).other (D := w.heap.size + 1) (i := 1) (by omega) (.int .i64 m')).other (D := w.heap.size + 1) (i := 2) (by omega) (.string s')
    have hG := put2 hP5 hQ5 (by omega) k m s k' m' s'
    obtain ⟨g0, g1, g2⟩ := hG.1.cells
    obtain ⟨h0, h1, h2⟩ := hG.2.cells
    have HB : Hid (Below w.heap.size w _) := below2 hB5 (Nat.le_refl w.heap.size) (Nat.le_succ w.heap.size) (.int .i64 k) (.int .i64 m) (.string s) (.int .i64 k') (.int .i64 m') (.string s')
    clear hV5 hP5 hQ5 hB5 hG
    refine wpAnyH_ready (rs := [3]) (by kernel_rfl) (by simp) ?_
    refine AllReadyH.cons rfl (fun KK hK => ?_) AllReadyH.nil
    go_simp
    refine hK.out _ _ hV6 (fun hHeld => ?_)
    clear hK KK
    try simp only [Act.put, List.setIfInBounds_toArray, List.set_cons_zero, List.set_cons_succ]
    refine wpAnyH_ready (rs := [4]) (by kernel_rfl) (by simp) ?_
    refine AllReadyH.cons rfl (fun KK hK => ?_) AllReadyH.nil
    go_simp
    refine hK.out _ _ hV7 (fun hHeld => ?_)
    clear hK KK
    try simp only [Act.put, List.setIfInBounds_toArray, List.set_cons_zero, List.set_cons_succ]
    refine wpAnyH_done (by kernel_rfl) ?_ _
    go_wp2
    exact bodyPost_ret (v := .tuple #[.agg #[_, _, _], .agg #[_, _, _]]) (by simp [results, Try.results33, go_sem, g0, g1, g2, h0, h1, h2]) rfl ⟨⟨k, m, s, k', m', s', rfl⟩, HB.out⟩

set_option maxHeartbeats 2000000 in
theorem drawLessVal_any (ao : Option Addr) (n cap : Nat) (f : Nat → Int) (w : World) (hn : n ≤ 1048576) (hv : View w ao n cap f) :
    Calls Try.prog 19 #[.slice ao n cap] w fun e w' => (∃ (k m : Int) (s : ByteArray) (k' m' : Int) (s' : ByteArray), e = .returned (.tuple #[.agg #[.int .i64 k, .int .i64 m, .string s], .agg #[.int .i64 k', .int .i64 m', .string s']])) ∧ Below w.heap.size w w' := by
  have hb0 : Below w.heap.size w ((w.alloc (.cells #[.int .i64 0, .int .i64 0, .string ⟨#[]⟩] 42)).alloc (.cells #[.int .i64 0, .int .i64 0, .string ⟨#[]⟩] 42)) := ((Below.refl _ _).alloc (Nat.le_refl _) _).alloc (by simp) _
  have hP0 := (Box.new w 0 0 ⟨#[]⟩).below ((Below.refl _ _).alloc (Nat.le_refl _) (.cells #[.int .i64 0, .int .i64 0, .string ⟨#[]⟩] 42))
  have hQ0 := Box.new (w.alloc (.cells #[.int .i64 0, .int .i64 0, .string ⟨#[]⟩] 42)) 0 0 ⟨#[]⟩
  have hv0 := hv.below hb0
  rw [show (w.alloc (.cells #[.int .i64 0, .int .i64 0, .string ⟨#[]⟩] 42)).heap.size = w.heap.size + 1 by simp] at hQ0
  go_enter Try.func19, Try.ntmps19
  go_wp2_with fail
  refine (drawSameVal_any ao n cap f _ hn hv0).mono ?_
  rintro e w1 ⟨⟨k, m, s, k', m', s', rfl⟩, hb1⟩
  have hP1 := hP0.below hb1
  have hQ1 := hQ0.below hb1
  have hB1 : Below w.heap.size w w1 := hb0.trans (hb1.mono hb0.size)
  clear hb0 hb1 hP0 hQ0 hv0
  have hPl : w.heap.size < w1.heap.size := hP1.lt
  have hQl : w.heap.size + 1 < w1.heap.size := hQ1.lt
  obtain ⟨d0, d1, d2⟩ := hP1.cells
  obtain ⟨f0, f1, f2⟩ := hP1.frozen
  obtain ⟨p0, p1, p2⟩ := hQ1.cells
  obtain ⟨r0, r1, r2⟩ := hQ1.frozen
  have hG := put2 hP1 hQ1 (by omega) k m s k' m' s'
  obtain ⟨g0, g1, g2⟩ := hG.1.cells
  obtain ⟨h0, h1, h2⟩ := hG.2.cells
  have HB : Hid (Below w.heap.size w _) := below2 hB1 (Nat.le_refl w.heap.size) (Nat.le_succ w.heap.size) (.int .i64 k) (.int .i64 m) (.string s) (.int .i64 k') (.int .i64 m') (.string s')
  clear hB1 hP1 hQ1 hG
  go_wp2
  exact bodyPost_ret (v := .tuple #[.agg #[_, _, _], .agg #[_, _, _]]) (by simp [results, Try.results19, go_sem, g0, g1, g2, h0, h1, h2]) rfl ⟨⟨k, m, s, k', m', s', rfl⟩, HB.out⟩
end Go.Proofs.Ythjddmhcppdleaa
