/-
  Together: MetaDraw, Big, At, SameB, LawMetas
-/
import Derived.Test.YtgnhlnlejkgnkaaMC3
import Derived.Test.YtgnhlnlejkgnkaaMC5
import Derived.Test.YtgnhlnlejkgnkaaMC6
import Derived.Test.YtgnhlnlejkgnkaaMC1
import Derived.Deep.RegionHeld3
/-
  What is drawn of roots.
-/
namespace Go.Proofs.Ytgnhlnlejkgnkaa
open Go.RowKit
set_option maxRecDepth 4000

theorem But.setNewM {g B i : Nat} {w w' : World} (h : But g w w') (hB : w.heap.size ≤ B) (u : Value) : But g w (w'.setCell ⟨B, i, none⟩ u) :=
  ⟨h.os, h.tape, h.output, by simpa using h.size, fun k hk hg => by rw [Below.heap_setCell _ _ _ _ (by show k ≠ B; omega)]; exact h.block k hk hg⟩
theorem Cur.setNewM {w : World} {g : Nat} {ao : Option Addr} {n cap : Nat} {f : Nat → Int} (h : Cur w g ao n cap f) {B i : Nat} (u : Value) (hg : g ≠ B) (hc : ∀ a, ao = some a → 0 < n → a.block ≠ B) : Cur (w.setCell ⟨B, i, none⟩ u) g ao n cap f := by
  obtain ⟨j, k, hr, h0, hi⟩ := h.cells
  refine ⟨⟨j, k, hr.of_block (Below.heap_setCell _ _ _ _ hg), h0, hi⟩, ⟨h.view.le, h.view.byte, fun hn => ?_⟩, h.apart⟩
  obtain ⟨b', off, e, hlt, hcc⟩ := h.view.cells hn
  refine ⟨b', off, e, by simpa using hlt, fun j hj => ?_⟩
  rw [World.cell?_of_block (w := w) (Below.heap_setCell _ _ _ _ (hc _ e hn))]
  exact hcc j hj

set_option maxHeartbeats 2000000 in
theorem l15Draw_any (g : Nat) (ao : Option Addr) (n cap : Nat) (f : Nat → Int) (w : World) (hn : n ≤ 1048576) (hC : Cur w g ao n cap f) :
    Calls Try.prog 41 #[.pointer (some ⟨g, 0, none⟩)] w fun e w' => ∃ a r : Int, e = .returned (.agg #[.int .i64 a, .int .i64 r]) ∧ metaOk a r = true ∧ Cur w' g ao n cap f ∧ But g w w' := by
  have hR := MBox.new w 0 0
  have hg := hC.lt
  have HCO : Hid (∀ x, ao = some x → 0 < n → x.block ≠ w.heap.size) := fun x hx h0 => by have := hC.code x hx h0; omega
  have hbA : Below w.heap.size w (w.alloc (.cells #[.int .i64 0, .int .i64 0] 25)) := (Below.refl _ _).alloc (Nat.le_refl _) _
  have hCA := hC.below hbA
  have hwl : w.heap.size < (w.alloc (.cells #[.int .i64 0, .int .i64 0] 25)).heap.size := by simp
  go_enter Try.func41, Try.ntmps41
  go_wp2_with fail
  obtain ⟨W1, hW1⟩ : ∃ x, Hid (w.alloc (.cells #[.int .i64 0, .int .i64 0] 25) = x) := ⟨_, rfl⟩
  have hsz : w.heap.size + 1 = W1.heap.size := by rw [← hW1.out]; simp
  rw [hW1.out] at hR hbA hCA hwl ⊢
  refine (l1Int_mem g ao n cap f [0, 1, 2, 3, 300, 1000000] (w.heap.size + 1) W1 hsz hn (by simp) (by simp) hCA).mono ?_
  rintro e w2 ⟨a, rfl, ha, hC2, hB2⟩
  have HA : Hid (0 ≤ a ∧ a ≤ 1000000) := by simp at ha; show _ ∧ _; omega
  replace hR := hR.but hB2 (by omega)
  have hB := (But.ofBelow (g := g) hbA).trans hB2
  have hl2 := hR.lt
  clear hW1 hsz hbA hCA hwl ha hB2
  have hI := l1Int_mem g ao n cap f [0, 2, 9, 47] w2.heap.size w2 rfl hn (by simp) (by simp) hC2
  go_wp2_with fail
  refine hI.mono ?_
  rintro e w3 ⟨r, rfl, hr, hC3, hB3⟩
  have HR : Hid (r = 0 ∨ 2 ≤ r ∧ r ≤ 47) := by simp at hr; show _ ∨ _; omega
  replace hR := hR.but hB3 (by omega)
  replace hB := hB.trans hB3
  obtain ⟨x0, x1⟩ := hR.cells
  obtain ⟨r0, r1⟩ := hR.frozen
  have hgs := stored2 (.int .i64 a) (.int .i64 r) x0 x1
  have HB : Hid (But g w ((w3.setCell ⟨w.heap.size, 0, none⟩ (.int .i64 a)).setCell ⟨w.heap.size, 1, none⟩ (.int .i64 r))) := (hB.setNewM (Nat.le_refl _) _).setNewM (Nat.le_refl _) _
  have HC : Hid (Cur ((w3.setCell ⟨w.heap.size, 0, none⟩ (.int .i64 a)).setCell ⟨w.heap.size, 1, none⟩ (.int .i64 r)) g ao n cap f) := (hC3.setNewM _ (by omega) HCO.out).setNewM _ (by omega) HCO.out
  clear hI hC2 hC3 hB3 hR hB hr hC
  go_wp2
  exact bodyPost_ret (v := .agg #[.int .i64 a, .int .i64 r]) (by simp [results, Try.results41, go_sem, hgs]) rfl ⟨a, r, rfl, metaOk_iff.2 ⟨HA.out, HR.out⟩, HC.out, HB.out⟩

/-- A root in a variable beside the cursor, what is laid there. -/
theorem lay2 {w W : World} {g B : Nat} {ao : Option Addr} {n cap : Nat} {f : Nat → Int} (a b : Value) (hB : But g w W) (hC : Cur W g ao n cap f) (hw : w.heap.size ≤ B) (hg : g ≠ B) (hc : ∀ x, ao = some x → 0 < n → x.block ≠ B) : But g w ((W.setCell ⟨B, 0, none⟩ a).setCell ⟨B, 1, none⟩ b) ∧ Cur ((W.setCell ⟨B, 0, none⟩ a).setCell ⟨B, 1, none⟩ b) g ao n cap f :=
  ⟨(hB.setNewM hw _).setNewM hw _, (hC.setNewM _ hg hc).setNewM _ hg hc⟩

set_option maxHeartbeats 4000000 in
theorem l15Any_any (g : Nat) (ao : Option Addr) (n cap : Nat) (f : Nat → Int) (w : World) (hn : n ≤ 1048576) (hC : Cur w g ao n cap f) :
    Calls Try.prog 37 #[.pointer (some ⟨g, 0, none⟩)] w fun e w' => ∃ a r : Int, e = .returned (.agg #[.int .i64 a, .int .i64 r]) ∧ (-1 ≤ a ∧ a ≤ 1000001 ∧ -1 ≤ r ∧ r ≤ 48) ∧ Cur w' g ao n cap f ∧ But g w w' := by
  have hR := MBox.new w 0 0
  have hg := hC.lt
  have HCO : Hid (∀ x, ao = some x → 0 < n → x.block ≠ w.heap.size) := fun x hx h0 => by have := hC.code x hx h0; omega
  have hbA : Below w.heap.size w (w.alloc (.cells #[.int .i64 0, .int .i64 0] 25)) := (Below.refl _ _).alloc (Nat.le_refl _) _
  have hCA := hC.below hbA
  go_enter Try.func37, Try.ntmps37
  go_wp2_with fail
  obtain ⟨W1, hW1⟩ : ∃ x, Hid (w.alloc (.cells #[.int .i64 0, .int .i64 0] 25) = x) := ⟨_, rfl⟩
  rw [hW1.out] at hR hbA hCA ⊢
  refine (l15Draw_any g ao n cap f W1 hn hCA).mono ?_
  rintro e w2 ⟨a, r, rfl, hok, hC2, hB2⟩
  have hok' := metaOk_iff.1 hok
  have hab : 0 ≤ a ∧ a ≤ 1000000 ∧ 0 ≤ r ∧ r ≤ 47 := by omega
  have hR2 : w.heap.size < w2.heap.size := (hR.but hB2 (by omega)).lt
  replace hR := hR.but hB2 (by omega)
  have hB := (But.ofBelow (g := g) hbA).trans hB2
  clear hW1 hbA hCA hB2 hok hok'
  have hbX : Below w2.heap.size w2 (w2.alloc (.cells #[.int .i64 a, .int .i64 r] 25)) := (Below.refl _ _).alloc (Nat.le_refl _) _
  have hX := MBox.new w2 a r
  replace hR := hR.below hbX
  have hC3 := hC2.below hbX
  replace hB := hB.trans (But.ofBelow hbX)
  have hXl : w.heap.size < w2.heap.size := hR2
  obtain ⟨W3, hW3⟩ : ∃ x, Hid (w2.alloc (.cells #[.int .i64 a, .int .i64 r] 25) = x) := ⟨_, rfl⟩
  obtain ⟨X, hXe⟩ : ∃ x, Hid (w2.heap.size = x) := ⟨_, rfl⟩
  have HCX : Hid (∀ x, ao = some x → 0 < n → x.block ≠ X) := fun x hx h0 => by have := hC.code x hx h0; rw [hXe.out] at hXl; omega
  rw [hXe.out] at hX hXl
  rw [hW3.out] at hX hR hC3 hB
  clear hC2 hbX hC hR2
  go_wp2_with fail
  rw [hXe.out, hW3.out]
  refine (l1Below_any g ao n cap f 8 W3 hn (by omega) (by omega) hC3).mono ?_
  rintro e w4 ⟨z, rfl, hz0, hz1, hC4, hO4⟩
  have hB4 := But.ofOnly hO4
  replace hX := hX.but hB4 (by omega)
  replace hR := hR.but hB4 (by omega)
  replace hB := hB.trans hB4
  clear hC3 hO4 hB4 hW3 hXe
  by_cases h0 : z = 0
  · subst h0
    have hI := l1Int_mem g ao n cap f [-1, 1000001] w4.heap.size w4 rfl hn (by simp) (by simp) hC4
    go_wp2_with fail
    refine hI.mono ?_
    rintro e w5 ⟨y, rfl, hy, hC5, hB5⟩
    have hy2 : -1 ≤ y ∧ y ≤ 1000001 := by simp at hy; omega
    have hX5 := hX.but hB5 (by omega)
    obtain ⟨o0, o1⟩ := hX5.cells
    obtain ⟨p0, p1⟩ := hX5.frozen
    obtain ⟨W6, hW6⟩ : ∃ x, Hid (w5.setCell ⟨X, 0, none⟩ (.int .i64 y) = x) := ⟨_, rfl⟩
    replace hX := hX5.set0 y
    replace hR := (hR.but hB5 (by omega)).other (i := 0) (D := X) (by omega) (.int .i64 y)
    replace hB := (hB.trans hB5).setNewM (B := X) (i := 0) (by omega) (.int .i64 y)
    have hC := hC5.setNewM (B := X) (i := 0) (.int .i64 y) (by omega) HCX.out
    rw [hW6.out] at hX hR hB hC
    clear hI hC4 hC5 hB5 hX5 hy
    obtain ⟨x0, x1⟩ := hX.cells
    obtain ⟨q0, q1⟩ := hR.cells
    obtain ⟨r0, r1⟩ := hR.frozen
    have hgs := stored2 (.int .i64 y) (.int .i64 r) q0 q1
    have HL : Hid _ := lay2 (B := w.heap.size) (.int .i64 y) (.int .i64 r) hB hC (Nat.le_refl _) (by omega) HCO.out
    clear hX hR hB hC
    go_wp2_with (rw [hW6.out])
    exact bodyPost_ret (v := .agg #[.int .i64 y, .int .i64 r]) (by simp [results, Try.results37, go_sem, hgs]) rfl ⟨y, r, rfl, by omega, HL.out.2, HL.out.1⟩
  · by_cases h1 : z = 1
    · subst h1
      have hI := l1Int_mem g ao n cap f [-1, 1, 48] w4.heap.size w4 rfl hn (by simp) (by simp) hC4
      go_wp2_with fail
      refine hI.mono ?_
      rintro e w5 ⟨y, rfl, hy, hC5, hB5⟩
      have hy2 : -1 ≤ y ∧ y ≤ 48 := by simp at hy; omega
      have hX5 := hX.but hB5 (by omega)
      obtain ⟨o0, o1⟩ := hX5.cells
      obtain ⟨p0, p1⟩ := hX5.frozen
      obtain ⟨W6, hW6⟩ : ∃ x, Hid (w5.setCell ⟨X, 1, none⟩ (.int .i64 y) = x) := ⟨_, rfl⟩
      replace hX := hX5.set1 y
      replace hR := (hR.but hB5 (by omega)).other (i := 1) (D := X) (by omega) (.int .i64 y)
      replace hB := (hB.trans hB5).setNewM (B := X) (i := 1) (by omega) (.int .i64 y)
      have hC := hC5.setNewM (B := X) (i := 1) (.int .i64 y) (by omega) HCX.out
      rw [hW6.out] at hX hR hB hC
      clear hI hC4 hC5 hB5 hX5 hy
      obtain ⟨x0, x1⟩ := hX.cells
      obtain ⟨q0, q1⟩ := hR.cells
      obtain ⟨r0, r1⟩ := hR.frozen
      have hgs := stored2 (.int .i64 a) (.int .i64 y) q0 q1
      have HL : Hid _ := lay2 (B := w.heap.size) (.int .i64 a) (.int .i64 y) hB hC (Nat.le_refl _) (by omega) HCO.out
      clear hX hR hB hC
      go_wp2_with (rw [hW6.out])
      exact bodyPost_ret (v := .agg #[.int .i64 a, .int .i64 y]) (by simp [results, Try.results37, go_sem, hgs]) rfl ⟨a, y, rfl, by omega, HL.out.2, HL.out.1⟩
    · have e0 : (z == 0) = false := beq_eq_false_iff_ne.2 h0
      have e1 : (z == 1) = false := beq_eq_false_iff_ne.2 h1
      have hC := hC4
      clear hC4
      obtain ⟨x0, x1⟩ := hX.cells
      obtain ⟨q0, q1⟩ := hR.cells
      obtain ⟨r0, r1⟩ := hR.frozen
      have hgs := stored2 (.int .i64 a) (.int .i64 r) q0 q1
      have HL : Hid _ := lay2 (B := w.heap.size) (.int .i64 a) (.int .i64 r) hB hC (Nat.le_refl _) (by omega) HCO.out
      clear hX hR hB hC
      go_wp2
      exact bodyPost_ret (v := .agg #[.int .i64 a, .int .i64 r]) (by simp [results, Try.results37, go_sem, hgs]) rfl ⟨a, r, rfl, by omega, HL.out.2, HL.out.1⟩

set_option maxHeartbeats 1000000 in
theorem drawPutMeta_any (ao : Option Addr) (n cap : Nat) (f : Nat → Int) (w : World) (hn : n ≤ 1048576) (hv : View w ao n cap f) :
    Calls Try.prog 20 #[.slice ao n cap] w fun e w' => ∃ a r : Int, e = .returned (.agg #[.int .i64 a, .int .i64 r]) ∧ (-1 ≤ a ∧ a ≤ 1000001 ∧ -1 ≤ r ∧ r ≤ 48) ∧ Below w.heap.size w w' := by
  have hbA : Below w.heap.size w (w.alloc (.cells #[.int .i64 0, .int .i64 0] 25)) := (Below.refl _ _).alloc (Nat.le_refl _) _
  have hR := MBox.new w 0 0
  have hvA := hv.below hbA
  go_enter Try.func20, Try.ntmps20
  go_wp2_with fail
  obtain ⟨W1, hW1⟩ : ∃ x, Hid (w.alloc (.cells #[.int .i64 0, .int .i64 0] 25) = x) := ⟨_, rfl⟩
  rw [hW1.out] at hbA hR hvA ⊢
  refine (l1New_any ao n cap f W1 hn hvA).mono ?_
  rintro e w1 ⟨rfl, hC1, hb1⟩
  replace hR := hR.below hb1
  have hB := hbA.trans (hb1.mono hbA.size)
  obtain ⟨g, hg⟩ : ∃ x, Hid (W1.heap.size = x) := ⟨_, rfl⟩
  have hgl : w.heap.size < W1.heap.size := by rw [← hW1.out]; simp
  rw [hg.out] at hC1 hgl ⊢
  clear hbA hvA hb1 hg hW1 hv
  go_wp2_with fail
  refine (l15Any_any g ao n cap f w1 hn hC1).mono ?_
  rintro e w2 ⟨a, r, rfl, hab, hC2, hB2⟩
  replace hR := hR.but hB2 (by omega)
  replace hB := hB.trans (⟨hB2.os, hB2.tape, hB2.output, hB2.size, fun k hk => hB2.block k (by have := hB.size; omega) (by omega)⟩ : Below w.heap.size w1 w2)
  obtain ⟨q0, q1⟩ := hR.cells
  obtain ⟨r0, r1⟩ := hR.frozen
  have hgs := stored2 (.int .i64 a) (.int .i64 r) q0 q1
  have HL : Hid (Below w.heap.size w ((w2.setCell ⟨w.heap.size, 0, none⟩ (.int .i64 a)).setCell ⟨w.heap.size, 1, none⟩ (.int .i64 r))) := (hB.setCell (Nat.le_refl _) _).setCell (Nat.le_refl _) _
  clear hC1 hC2 hB2 hB hR
  go_wp2
  exact bodyPost_ret (v := .agg #[.int .i64 a, .int .i64 r]) (by simp [results, Try.results20, go_sem, hgs]) rfl ⟨a, r, rfl, hab, HL.out⟩

/-- The model's PutMeta of a root that is right: its bytes are the call's own. -/
theorem putMeta_own (g r : Int) (hok : metaOk g r = true) (w : World) :
    Calls Try.prog 10 #[.agg #[.int .i64 g, .int .i64 r]] w fun e w' => ∃ v, e = .returned v ∧ w'.ownsRow w.heap.size 5 1 v (metaF g r).length (bl (metaF g r)) ∧ Below w.heap.size w w' := by
  have hB : Below w.heap.size w (w.alloc (.cells #[.int .i64 g, .int .i64 r] 25)) := (Below.refl _ _).alloc (Nat.le_refl _) _
  have hO := fun W => specMetaOk_any g r W
  have c0 : (w.alloc (.cells #[.int .i64 g, .int .i64 r] 25)).cell? ⟨w.heap.size, 0, none⟩ = some (.int .i64 g) := by simp
  have c1 : (w.alloc (.cells #[.int .i64 g, .int .i64 r] 25)).cell? ⟨w.heap.size, 1, none⟩ = some (.int .i64 r) := by simp [go_sem]
  rw [hok] at hO
  have HF : Hid (pageF 2 (strOfNums (metaB g r)) = metaF g r) := metaF_page hok
  have h' := metaOk_iff.1 hok
  obtain ⟨k1, k2⟩ := clamp_meta hok
  have hfew := metaB_few g r
  have hge := groups_len g
  have hre := groups_len r
  have HY1 : Hid (∀ y ∈ groups g, 0 ≤ y ∧ y ≤ 255) := groups_byte g (by omega) (by omega)
  have HY : Hid (∀ y ∈ metaB g r, 0 ≤ y ∧ y ≤ 255) := metaB_byte hok
  have HB : Hid (metaB g r = groups g ++ groups r) := rfl
  obtain ⟨L, hL⟩ : ∃ L, Hid (metaF g r = L) := ⟨_, rfl⟩
  obtain ⟨Q, hQ⟩ : ∃ Q, Hid (metaB g r = Q) := ⟨_, rfl⟩
  rw [hL.out, hQ.out] at HF
  rw [hQ.out] at HB hfew HY
  rw [hL.out]
  have hU1 : ∀ (W : World) (b : Nat), Calls Try.prog 28 #[.slice (some ⟨b, 0, none⟩) 0 0, .int .i64 g] W fun e w' => ∃ v, e = .returned v ∧ BR w' W.heap.size v (groups g) ∧ Below W.heap.size W w' := by
    intro W b
    refine (putU_spec b 0 0 0 (fun _ => 0) g W ⟨Nat.le_refl _, fun _ hi => absurd hi (Nat.not_lt_zero _), fun h => absurd h (Nat.lt_irrefl _)⟩ (by omega) (by omega) (by omega)).mono ?_
    rintro e w' ⟨v, rfl, hown, hb⟩
    rw [Nat.zero_add, show lof 0 (fun _ => (0 : Int)) = [] from rfl, List.nil_append, k1] at hown
    obtain ⟨g', c', rfl, hg', hgc', hrow⟩ := row_of_own hown (by omega)
    exact ⟨_, rfl, ⟨g', c', rfl, hg', hgc', hrow⟩, hb⟩
  have hU2 : ∀ (W : World) (v : Value) (B : Nat), BR W B v (groups g) → Calls Try.prog 28 #[v, .int .i64 r] W fun e w' => ∃ v, e = .returned v ∧ BR w' W.heap.size v Q ∧ Below W.heap.size W w' := by
    intro W v B h
    obtain ⟨b, c, rfl, hv⟩ := h.view HY1.out
    refine (putU_spec b 0 (groups g).length c (fun i => (groups g).getD i 0) r W hv (by omega) (by omega) (by omega)).mono ?_
    rintro e w' ⟨v, rfl, hown, hb⟩
    rw [lof_self, k2, ← HB.out, show (groups g).length + (groups r).length = Q.length by rw [HB.out, List.length_append]] at hown
    obtain ⟨g', c', rfl, hg', hgc', hrow⟩ := row_of_own hown (by omega)
    exact ⟨_, rfl, ⟨g', c', rfl, hg', hgc', hrow⟩, hb⟩
  have hP : ∀ (W : World) (v : Value) (B : Nat), BR W B v Q → Calls Try.prog 27 #[.int .i64 2, v] W fun e w' => ∃ v, e = .returned v ∧ w'.ownsRow W.heap.size 5 1 v L.length (bl L) ∧ Below W.heap.size W w' := by
    intro W v B h
    obtain ⟨b, c, rfl, hv⟩ := h.view HY.out
    have := putPage_own b 0 Q.length c (fun i => Q.getD i 0) 2 W hv (by omega) (by omega)
    rw [lof_self, HF.out] at this
    exact this
  clear hL hQ HB HY HY1 HF k1 k2 hok h'
  go_enter Try.func10, Try.ntmps10
  go_wp2_with fail
  refine (hO _).mono ?_
  rintro e w1 ⟨rfl, hb1⟩
  have hB1 := hB.trans (hb1.mono hB.size)
  have HX : Hid (∀ W, Below w1.heap.size w1 W → W.cell? ⟨w.heap.size, 0, none⟩ = some (.int .i64 g) ∧ W.cell? ⟨w.heap.size, 1, none⟩ = some (.int .i64 r)) := by
    intro W hW
    have h1 : (w.alloc (.cells #[.int .i64 g, .int .i64 r] 25)).heap.size ≤ w1.heap.size := hb1.size
    have h2 : w.heap.size < w1.heap.size := by simp at h1; omega
    refine ⟨?_, ?_⟩
    · rw [hW.cell h2, hb1.cell (by simp)]; exact c0
    · rw [hW.cell h2, hb1.cell (by simp)]; exact c1
  have hxl : w.heap.size < w1.heap.size := by have := hb1.size; simp at this; omega
  clear hO hb1 hB c0 c1
  obtain ⟨x0, x1⟩ := HX.out w1 (Below.refl _ _)
  go_wp2_with fail
  go_region_held3 (fun W => W.cell? ⟨w.heap.size, 0, none⟩ = some (.int .i64 g) ∧ W.cell? ⟨w.heap.size, 1, none⟩ = some (.int .i64 r)) (first | assumption | go_keep) (first
    | (go_at_call_of 28 (r); refine (hU2 _ _ _ (by first | exact hv2 | exact hv2.below (Below.refl _ _).drew | exact hv2.below (Below.refl _ _).drew.drew)).mono ?_; rintro e w3 ⟨v3, rfl, hv3, hb3⟩; have hb3' : Hid (Below w1.heap.size w1 w3) := Below.trans (by repeat (first | exact hb2'.out | refine Below.drew ?_)) (hb3.mono (by have := hb2'.out.size; simpa using this)); have hx3 := HX.out w3 hb3'.out)
    | (go_at_call_of 28 (g); refine (hU1 _ _).mono ?_; rintro e w2 ⟨v2, rfl, hv2, hb2⟩; have hb2' : Hid (Below w1.heap.size w1 w2) := Below.trans (by repeat (first | exact Below.refl _ _ | exact (Below.refl _ _).alloc (by simp) _ | refine Below.drew ?_)) (hb2.mono (by simp)); have hx2 := HX.out w2 hb2'.out)
    | (go_at_call 27; refine (hP _ _ _ (by first | exact hv3 | exact hv3.below (Below.refl _ _).drew | exact hv3.below (Below.refl _ _).drew.drew)).mono ?_; rintro e w4 ⟨v4, rfl, hr4, hb4⟩; have hb4' : Hid (Below w1.heap.size w1 w4) := Below.trans (by repeat (first | exact hb3'.out | refine Below.drew ?_)) (hb4.mono (by have := hb3'.out.size; simpa using this)); have hx4 := HX.out w4 hb4'.out))
  have hbw := hB1.trans (hb4'.out.mono hB1.size)
  have HO : Hid (w4.ownsRow w.heap.size 5 1 v4 L.length (bl L)) := own_loK hr4 (Nat.le_trans hB1.size hb3'.out.size)
  clear hx2 hx3 hx4 hv2 hv3 hb2 hb3 hb4 hU1 hU2 hP x0 x1 hr4
  go_wp2
  go_ret
  exact ⟨v4, rfl, HO.out, hbw⟩

set_option maxHeartbeats 2000000 in
theorem drawGetMeta_any (ao : Option Addr) (n cap : Nat) (f : Nat → Int) (w : World) (hn : n ≤ 1048576) (hv : View w ao n cap f) :
    Calls Try.prog 21 #[.slice ao n cap] w fun e w' => ∃ (b c m : Nat) (F : Nat → Int), e = .returned (.slice (some ⟨b, 0, none⟩) m c) ∧ m ≤ 300 ∧ View w' (some ⟨b, 0, none⟩) m c F ∧ Below w.heap.size w w' := by
  go_enter Try.func21, Try.ntmps21
  go_wp2_with fail
  refine (l1New_any ao n cap f w hn hv).mono ?_
  rintro e w1 ⟨rfl, hC1, hb1⟩
  have HC : Hid (∀ a, ao = some a → 0 < n → a.block < w1.heap.size) := hC1.code
  have hl1 := hC1.lt
  obtain ⟨g, hg⟩ : ∃ x, Hid (w.heap.size = x) := ⟨_, rfl⟩
  have hb1' : Below g w w1 := by rw [← hg.out]; exact hb1
  rw [hg.out] at hC1 hl1 ⊢
  clear hb1 hv
  go_wp2_with fail
  refine (l1Once_any g ao n cap f 6 w1 hn (by omega) (by omega) hC1).mono ?_
  rintro e w2 ⟨bo, rfl, hC2, hO2⟩
  have hB2 : But g w1 w2 := But.ofOnly hO2
  clear hC1 hO2
  cases bo with
  | true =>
    go_wp2_with fail
    refine (l1Some_any g ao n cap f w2 hn hC2).mono ?_
    rintro e w3 ⟨⟨b, c, m, l, hD⟩, hC3, hB3⟩
    obtain rfl := hD.ret
    have hD' : Own9 w2 w3 m b c l := ⟨hD.len, hD.byte, hD.new, hD.le, hD.row, hD.few⟩
    have hm := hD.few
    have hP := putPage_spec b 0 m c (fun i => l.getD i 0) 2 w3 hD'.view (by omega) (by omega) (by omega)
    have hL := pageF_len 2 (strOfNums (lof m (fun i => l.getD i 0)))
    have hY := pageF_byte 2 (strOfNums (lof m (fun i => l.getD i 0)))
    obtain ⟨L, hLe⟩ : ∃ x, Hid (pageF 2 (strOfNums (lof m (fun i => l.getD i 0))) = x) := ⟨_, rfl⟩
    rw [hLe.out] at hP hL hY
    have HY : Hid (∀ y ∈ L, 0 ≤ y ∧ y ≤ 255) := hY
    have hBB : Below g w w3 := hb1'.trans ((hB2.trans hB3).below (Nat.le_refl _) (by omega))
    clear hC2 hB2 hB3 hD hD' hLe hC3 hY
    go_wp2_with fail
    refine hP.mono ?_
    rintro e w4 ⟨g4, c4, rfl, hg4, hc4, hr4, hb4⟩
    have HV : Hid (View w4 (some ⟨g4, 0, none⟩) L.length c4 (fun i => L.getD i 0) ∧ Below g w w4) := ⟨hr4.view hc4 (bytes_of_list HY.out), hBB.trans (hb4.mono (by have := hBB.size; have := hg.out; omega))⟩
    clear hP hr4 hb4 hBB
    go_wp2
    go_ret
    exact ⟨g4, c4, L.length, _, rfl, by omega, HV.out.1, by rw [hg.out]; exact HV.out.2⟩
  | false =>
    go_wp2_with fail
    refine (l15Draw_any g ao n cap f w2 hn hC2).mono ?_
    rintro e w3 ⟨a, r, rfl, hok, hC3, hB3⟩
    have hB13 := hB2.trans hB3
    have hP := putMeta_own a r hok w3
    have hLn := metaF_len a r
    have hL0 : 0 < (metaF a r).length := by unfold metaF; rw [if_pos hok, pageL_len]; omega
    have hY := metaF_byte a r
    obtain ⟨L, hLe⟩ : ∃ x, Hid (metaF a r = x) := ⟨_, rfl⟩
    rw [hLe.out] at hP hLn hY hL0
    have HY : Hid (∀ y ∈ L, 0 ≤ y ∧ y ≤ 255) := hY
    clear hC2 hB2 hB3 hLe hY hok
    go_wp2_with fail
    refine hP.mono ?_
    rintro e w4 ⟨v, rfl, hown, hb4⟩
    have hC4 := hC3.below hb4
    have hs4 := hb4.size
    have hs3 := hB13.size
    have hK4 : Kept w3.heap.size g w3 w4 := ⟨hb4.os, hb4.tape, hb4.output, hb4.size, fun k hk _ => hb4.block k hk⟩
    obtain ⟨N, hN⟩ : ∃ x, Hid (L.length = x) := ⟨_, rfl⟩
    have HL : Hid (L.length = N) := hN
    rw [hN.out] at hown hLn hL0
    clear hP hC3 hb4 hN
    go_wp2_with fail
    refine (l1Bend_any g ao n cap f w3.heap.size v N L w4 hn hL0 (by omega) hC4 hown HL.out HY.out (by omega) (fun a ha h0 => by have := HC.out a ha h0; omega) hs4).mono ?_
    rintro e w5 ⟨⟨b5, c5, m5, F, hD⟩, hC5, hK5⟩
    obtain ⟨rfl, hm5, hbn, hV⟩ := hD
    have HB : Hid (Below g w w5) := hb1'.trans ((hB13.below (Nat.le_refl _) (by omega)).trans ((hK4.trans hK5).below (Nat.le_refl _) (by omega)))
    have HV : Hid (View w5 (some ⟨b5, 0, none⟩) m5 c5 F) := hV
    clear hown HL HY hC4 hK4 hK5 hC5 hV hB13
    go_wp2
    go_ret
    exact ⟨b5, c5, m5, F, rfl, by omega, HV.out, by rw [hg.out]; exact HB.out⟩
end Go.Proofs.Ytgnhlnlejkgnkaa

/-
  Whether a code is too long.
-/
namespace Go.Proofs.Ytgnhlnlejkgnkaa
open Go.RowKit
set_option maxRecDepth 4000

theorem big_any (ao : Option Addr) (n cap : Nat) (w : World) (_hn : n ≤ 9223372036854775807) :
    Calls Try.prog 19 #[.slice ao n cap] w fun e w' => e = .returned (.bool (decide ((1048576 : Int) < (n : Int)))) ∧ w = w' := by
  go_enter Try.func19, Try.ntmps19
  go_wp2
  go_ret
  exact ⟨rfl, rfl⟩

end Go.Proofs.Ytgnhlnlejkgnkaa

/-
  What the law's own helper at comes to: a byte of the code, or a number in its stead.
-/
namespace Go.Proofs.Ytgnhlnlejkgnkaa
open Go.RowKit
set_option maxRecDepth 4000

/-- The code's byte at a small place, or a number in its stead. -/
def atN (n : Nat) (f : Nat → Int) (i : Nat) : Nat := if i < n then (f i).toNat else (i * 31 + n * 7) % 256
theorem atN_le (n : Nat) (f : Nat → Int) (i : Nat) (hf : ∀ i, i < n → 0 ≤ f i ∧ f i ≤ 255) : atN n f i ≤ 255 := by
  unfold atN
  split
  · have := hf i (by assumption); omega
  · omega
theorem at_val (ao : Option Addr) (n cap : Nat) (f : Nat → Int) (i : Nat) (z : Int) (x : Nat) (w : World) (hx : Hid (atN n f i = x)) (hv : View w ao n cap f) (hn : n ≤ 1048576) (hi : i ≤ 64) (hz : z = (i : Int)) :
    Calls Try.prog 23 #[.slice ao n cap, .int .i64 z] w fun e w' => e = .returned (.int .i64 (x : Int)) ∧ w = w' := by
  subst hz
  by_cases hlt : i < n
  · have hx' : (f i).toNat = x := by have := hx.out; unfold atN at this; rw [if_pos hlt] at this; exact this
    clear hx
    obtain ⟨b, off, rfl, hb, hc⟩ := hv.cells (by omega)
    have hz : (i : Int) < (n : Int) := by omega
    have hc1 := hc i hlt
    have hbi := hv.byte i hlt
    rw [show f i = (x : Int) by omega] at hc1
    have hxb : x ≤ 255 := by omega
    clear hc hx' hbi
    go_enter Try.func23, Try.ntmps23
    go_wp2
    go_ret
    exact ⟨rfl, rfl⟩
  · have hx' : (i * 31 + n * 7) % 256 = x := by have := hx.out; unfold atN at this; rw [if_neg hlt] at this; exact this
    have HX : Hid ((i * 31 + n * 7) % 256 = x) := hx'
    clear hx hx'
    have hz : (n : Int) ≤ (i : Int) := by omega
    go_enter Try.func23, Try.ntmps23
    go_wp2
    go_ret
    have hE : ((i : Int) * 31 + (n : Int) * 7) % 256 = (x : Int) := by have := HX.out; omega
    rw [hE]
    exact ⟨rfl, rfl⟩
end Go.Proofs.Ytgnhlnlejkgnkaa

/-
  What the law's own helpers sameBytes and begins come to, at every two slices of bytes that read.
-/
namespace Go.Proofs.Ytgnhlnlejkgnkaa
open Go.RowKit
set_option maxRecDepth 4000

set_option maxHeartbeats 1000000 in
theorem sameBytes_any (a1 a2 : Option Addr) (n m c1 c2 : Nat) (f g : Nat → Int) (w : World) (h1 : View w a1 n c1 f) (h2 : View w a2 m c2 g) (hn : n ≤ 281474976710656) (hm : m ≤ 281474976710656) :
    Calls Try.prog 22 #[.slice a1 n c1, .slice a2 m c2] w fun e w' => e = .returned (.bool (decide (lof n f = lof m g))) ∧ Below w.heap.size w w' := by
  by_cases hnm : n = m
  · subst hnm
    have q0 : ((n : Int) != (n : Int)) = false := by simp
    go_enter Try.func22, Try.ntmps22
    go_wp2
    go_loopg [5] n (fun q i wr => ∃ k : Nat, k ≤ n ∧ q = n - k ∧ i = .int .i64 k ∧ Below w.heap.size w wr ∧ ∀ j, j < k → f j = g j)
    case atStart => exact ⟨0, Nat.zero_le _, rfl, rfl, Below.refl _ _, fun j hj => absurd hj (Nat.not_lt_zero _)⟩
    case round =>
      obtain ⟨k, hk, rfl, rfl, hB, hE⟩ := hrel
      have HE : Hid (∀ j, j < k → f j = g j) := hE
      clear hE
      by_cases hlt : k < n
      · obtain ⟨b1, o1, rfl, hb1, hc1⟩ := h1.cells (by omega)
        obtain ⟨b2, o2, rfl, hb2, hc2⟩ := h2.cells (by omega)
        have hkz : (k : Int) < (n : Int) := by omega
        have e1 : wr.cell? ⟨b1, o1 + k, none⟩ = some (.int .u8 (f k)) := by rw [hB.cell (p := ⟨b1, o1 + k, none⟩) hb1]; exact hc1 k hlt
        have e2 : wr.cell? ⟨b2, o2 + k, none⟩ = some (.int .u8 (g k)) := by rw [hB.cell (p := ⟨b2, o2 + k, none⟩) hb2]; exact hc2 k hlt
        clear hc1 hc2
        by_cases he : f k = g k
        · have q1 : (f k != g k) = false := by simpa using he
          have HE2 : Hid (∀ j, j < k + 1 → f j = g j) := fun j hj => by
            by_cases e : j = k
            · subst e; exact he
            · exact HE.out j (by omega)
          clear he
          go_wp2
          go_region
          all_goals go_wp2
          all_goals
            go_roundg (n - (k + 1))
            case measure => omega
            case rel => exact ⟨k + 1, by omega, rfl, by go_num, by first | exact hB.drew | exact hB, HE2.out⟩
        · have q1 : (f k != g k) = true := by simpa using he
          have HD : Hid (decide (lof n f = lof n g) = false) := by
            show _ = _
            rw [decide_eq_false_iff_not, lof_eq]
            exact fun h => he (h k hlt)
          clear he
          go_wp2
          go_region
          all_goals go_wp2
          all_goals
            go_ret
            exact ⟨by rw [HD.out]; rfl, by first | exact hB.drew | exact hB⟩
      · obtain rfl : k = n := by omega
        have HD : Hid (decide (lof k f = lof k g) = true) := by
          show _ = _
          rw [decide_eq_true_iff, lof_eq]
          exact HE.out
        go_wp2
        go_ret
        exact ⟨by rw [HD.out]; rfl, hB⟩
  · have q0 : ((n : Int) != (m : Int)) = true := by simp; omega
    have HD : Hid (decide (lof n f = lof m g) = false) := by
      show _ = _
      rw [decide_eq_false_iff_not]
      intro h
      have := congrArg List.length h
      rw [lof_len, lof_len] at this
      exact hnm this
    go_enter Try.func22, Try.ntmps22
    go_wp2
    go_ret
    exact ⟨by rw [HD.out]; rfl, Below.refl _ _⟩
end Go.Proofs.Ytgnhlnlejkgnkaa

/-
  The walk over the law FnMetas.
-/
namespace Go.Proofs.Ytgnhlnlejkgnkaa
open Go.RowKit
set_option maxRecDepth 4000

theorem putMeta_same (m : Nat) (F : Nat → Int) (g r : Int) (hF : ∀ i, i < m → 0 ≤ F i ∧ F i ≤ 255) (h : metaF g r = lof m F) (w : World) :
    Calls Try.prog 11 #[.agg #[.int .i64 g, .int .i64 r]] w fun e w' => ∃ a cc, e = .returned (.slice (some ⟨a, 0, none⟩) m cc) ∧ View w' (some ⟨a, 0, none⟩) m cc F ∧ Below w.heap.size w w' := by
  refine (implPutMeta_any g r w).mono ?_
  rw [h]
  rintro e w' ⟨a, cc, rfl, -, hcc, hr, hb⟩
  rw [lof_len] at *
  exact ⟨a, cc, rfl, (hr.congr (fun i hi => lof_get m F i hi)).view hcc hF, hb⟩

theorem eqM (a r : Int) (W : World) : (binOp .eql 25 (.agg #[.int .i64 a, .int .i64 r]) (.agg #[.int .i64 a, .int .i64 r])).run Try.prog W = .ok (.bool true) W := by
  simp [go_sem]

set_option maxHeartbeats 4000000 in
theorem lawMetas (ao : Option Addr) (n cap : Nat) (f : Nat → Int) (w : World) (hv : View w ao n cap f) (hn63 : n ≤ 9223372036854775807) :
    Calls Try.prog 6 #[.slice ao n cap] w fun e w' => e = .returned (.bool true) ∧ Below w.heap.size w w' := by
  by_cases hbig : 1048576 < n
  · have hd : decide ((1048576 : Int) < (n : Int)) = true := by simp; omega
    go_enter Try.func6, Try.ntmps6
    go_wp2_with fail
    refine (big_any ao n cap w hn63).mono ?_
    rw [hd]
    rintro e _ ⟨rfl, rfl⟩
    go_wp2
    go_ret
    exact ⟨rfl, Below.refl _ _⟩
  have hd : decide ((1048576 : Int) < (n : Int)) = false := by simp; omega
  have hn : n ≤ 1048576 := by omega
  clear hbig
  go_enter Try.func6, Try.ntmps6
  go_wp2_with fail
  refine (big_any ao n cap w hn63).mono ?_
  rw [hd]
  rintro e _ ⟨rfl, rfl⟩
  clear hd
  go_wp2_with fail
  refine (drawPutMeta_any ao n cap f w hn hv).mono ?_
  rintro e w1 ⟨a, r, rfl, hab, hB⟩
  have hbX : Below w1.heap.size w1 (w1.alloc (.cells #[.int .i64 a, .int .i64 r] 25)) := (Below.refl _ _).alloc (Nat.le_refl _) _
  have hX := MBox.new w1 a r
  replace hB := hB.trans (hbX.mono hB.size)
  clear hbX
  go_wp2_with fail
  obtain ⟨W1, hW1⟩ : ∃ x, Hid (w1.alloc (.cells #[.int .i64 a, .int .i64 r] 25) = x) := ⟨_, rfl⟩
  obtain ⟨X, hXe⟩ : ∃ x, Hid (w1.heap.size = x) := ⟨_, rfl⟩
  rw [hW1.out] at hX hB ⊢
  rw [hXe.out] at hX ⊢
  have hlen := metaF_len a r
  have HPB : Hid (∀ i, i < (metaF a r).length → 0 ≤ (metaF a r).getD i 0 ∧ (metaF a r).getD i 0 ≤ 255) := bytes_of_list (metaF_byte a r)
  have HOK : Hid (metaOk a r = true → (0 < (metaF a r).length ∧ getMe (metaF a r).length (fun i => (metaF a r).getD i 0) = (a, r, true)) ∧ ∀ j, j < (metaF a r).length → getMe j (fun i => (metaF a r).getD i 0) = (0, 0, false)) :=
    fun h => ⟨⟨by unfold metaF; rw [if_pos h, pageL_len]; omega, getMe_put h (fun _ _ => rfl)⟩, fun j hj => meta_cut h (fun _ _ => rfl) hj⟩
  have HNO : Hid (metaOk a r = false → (metaF a r).length = 0) := fun h => by rw [metaF_no h]; rfl
  have hP := implPutMeta_any a r W1
  unfold PageTo at hP
  obtain ⟨P, hPe⟩ : ∃ P : Nat → Int, Hid ((fun i => (metaF a r).getD i 0) = P) := ⟨_, rfl⟩
  have hPi : ∀ i, (metaF a r).getD i 0 = P i := fun i => by rw [← hPe.out]
  simp only [hPi] at HPB HOK hP
  obtain ⟨N, hN⟩ : ∃ N, Hid ((metaF a r).length = N) := ⟨_, rfl⟩
  rw [hN.out] at hlen HPB HNO
  simp only [hN.out] at HOK hP
  clear hW1 hXe hPe hPi hN
  refine hP.mono ?_
  rintro e w2 ⟨gp, cp, rfl, -, hcp, hrp, hb2⟩
  replace hX := hX.below hb2
  replace hB := hB.trans (hb2.mono hB.size)
  clear hP hb2
  go_wp2_with fail
  refine (drawGetMeta_any ao n cap f w2 hn (hv.below hB)).mono ?_
  rintro e w3 ⟨b, c, m, F, rfl, hm, hV, hb3⟩
  replace hX := hX.below hb3
  replace hrp := hrp.belowAll hb3
  replace hB := hB.trans (hb3.mono hB.size)
  clear hb3
  obtain ⟨y1, y2, is, hy⟩ : ∃ k s ok, Hid (getMe m F = (k, s, ok)) := ⟨_, _, _, rfl⟩
  have hFB : Hid (∀ i, i < m → 0 ≤ F i ∧ F i ≤ 255) := hV.byte
  have hI := implGetMeta_any (some ⟨b, 0, none⟩) m c F w3 (fun _ => ⟨b, rfl⟩) hV (by omega)
  rw [hy.out] at hI
  go_wp2_with fail
  refine hI.mono ?_
  rintro e w4 ⟨rfl, hb4⟩
  replace hX := hX.below hb4
  replace hrp := hrp.belowAll hb4
  replace hV := hV.below hb4
  replace hB := hB.trans (hb4.mono hB.size)
  have hbY : Below w4.heap.size w4 (w4.alloc (.cells #[.int .i64 y1, .int .i64 y2] 25)) := (Below.refl _ _).alloc (Nat.le_refl _) _
  have hY := MBox.new w4 y1 y2
  replace hX := hX.below hbY
  replace hrp := hrp.belowAll hbY
  replace hV := hV.below hbY
  replace hB := hB.trans (hbY.mono hB.size)
  clear hI hb4 hbY
  go_wp2_with fail
  obtain ⟨W4, hW4⟩ : ∃ x, Hid (w4.alloc (.cells #[.int .i64 y1, .int .i64 y2] 25) = x) := ⟨_, rfl⟩
  obtain ⟨Y, hYe⟩ : ∃ x, Hid (w4.heap.size = x) := ⟨_, rfl⟩
  rw [hW4.out] at hX hY hrp hV hB ⊢
  rw [hYe.out] at hY ⊢
  have hS := specGetMeta_any (some ⟨b, 0, none⟩) m c F W4 (fun _ => ⟨b, rfl⟩) hV (by omega)
  rw [hy.out] at hS
  refine hS.mono ?_
  rintro e w5 ⟨rfl, hb5⟩
  replace hX := hX.below hb5
  replace hY := hY.below hb5
  replace hrp := hrp.belowAll hb5
  replace hV := hV.below hb5
  replace hB := hB.trans (hb5.mono hB.size)
  have hbZ : Below w5.heap.size w5 (w5.alloc (.cells #[.int .i64 y1, .int .i64 y2] 25)) := (Below.refl _ _).alloc (Nat.le_refl _) _
  replace hX := hX.below hbZ
  replace hY := hY.below hbZ
  replace hrp := hrp.belowAll hbZ
  replace hV := hV.below hbZ
  replace hB := hB.trans (hbZ.mono hB.size)
  have hii : (is == is) = true := beq_self_eq_true _
  clear hS hb5 hbZ hW4 hYe
  obtain ⟨W6, hW6⟩ : ∃ x, Hid (w5.alloc (.cells #[.int .i64 y1, .int .i64 y2] 25) = x) := ⟨_, rfl⟩
  rw [hW6.out] at hX hY hrp hV hB
  cases is with
  | false =>
    clear hY hV hy
    obtain ⟨x0, x1⟩ := hX.cells
    go_wp2_with (rw [hW6.out])
    refine (specMetaOk_any a r W6).mono ?_
    rintro e wb ⟨rfl, hbb⟩
    replace hX := hX.below hbb
    replace hrp := hrp.belowAll hbb
    replace hB := hB.trans (hbb.mono hB.size)
    clear hbb x0 x1
    obtain ⟨x0, x1⟩ := hX.cells
    cases hok : metaOk a r with
    | false =>
      have hIM := implMetaOk_any a r wb
      rw [hok] at hIM
      obtain rfl := HNO.out hok
      clear HOK HNO hok hrp HPB
      go_wp2_with fail
      refine hIM.mono ?_
      rintro e wc ⟨rfl, hbc⟩
      replace hB := hB.trans (hbc.mono hB.size)
      clear hIM hbc hX x0 x1
      go_wp2
      go_ret
      exact ⟨rfl, hB⟩
    | true =>
      obtain ⟨⟨hN0, hget⟩, hcut⟩ := HOK.out hok
      have hNz : ((N : Int) == 0) = false := beq_eq_false_iff_ne.2 (by omega)
      have hNz1 : ¬ (N : Int) = 0 := by omega
      have hIG := implGetMeta_any (some ⟨gp, 0, none⟩) N cp P wb (fun _ => ⟨gp, rfl⟩) (hrp.view hcp HPB.out) (by omega)
      rw [hget] at hIG
      go_wp2_with fail
      refine hIG.mono ?_
      rintro e wc ⟨rfl, hbc⟩
      replace hX := hX.below hbc
      replace hrp := hrp.belowAll hbc
      replace hB := hB.trans (hbc.mono hB.size)
      have hbZ : Below wc.heap.size wc (wc.alloc (.cells #[.int .i64 a, .int .i64 r] 25)) := (Below.refl _ _).alloc (Nat.le_refl _) _
      have hZ := MBox.new wc a r
      replace hX := hX.below hbZ
      replace hrp := hrp.belowAll hbZ
      replace hB := hB.trans (hbZ.mono hB.size)
      clear hIG hbc hbZ x0 x1
      obtain ⟨wd, hwd⟩ : ∃ x, Hid (wc.alloc (.cells #[.int .i64 a, .int .i64 r] 25) = x) := ⟨_, rfl⟩
      obtain ⟨Z, hZe⟩ : ∃ x, Hid (wc.heap.size = x) := ⟨_, rfl⟩
      rw [hwd.out] at hX hZ hrp hB
      rw [hZe.out] at hZ
      obtain ⟨x2, hx2⟩ : ∃ x, Hid (atN n f 2 = x) := ⟨_, rfl⟩
      have hx2b : x2 ≤ 255 := by rw [← hx2.out]; exact atN_le n f 2 hv.byte
      obtain ⟨j, hj, hjm⟩ : ∃ j : Nat, j < N ∧ (x2 : Int) % (N : Int) = (j : Int) := ⟨x2 % N, Nat.mod_lt _ (by omega), by push_cast; rfl⟩
      have hjz : (j : Int) ≤ (cp : Int) := by omega
      have hV3 : Hid (View wd ao n cap f) := hv.below hB
      go_wp2_with (rw [hwd.out])
      try rw [hZe.out]
      refine (at_val ao n cap f 2 _ x2 wd hx2 hV3.out hn (by omega) rfl).mono ?_
      rintro e _ ⟨rfl, rfl⟩
      have hIC := implGetMeta_any (some ⟨gp, 0, none⟩) j cp P wd (fun _ => ⟨gp, rfl⟩) ((hrp.view hcp HPB.out).take (Nat.le_of_lt hj)) (by omega)
      rw [hcut j hj] at hIC
      clear hwd hZe hV3
      go_wp2_with fail
      refine hIC.mono ?_
      rintro e we ⟨rfl, hbe⟩
      replace hX := hX.below hbe
      replace hZ := hZ.below hbe
      replace hB := hB.trans (hbe.mono hB.size)
      have hxl := hX.lt
      have hzl := hZ.lt
      obtain ⟨x0, x1⟩ := hX.cells
      obtain ⟨z0, z1⟩ := hZ.cells
      have heq := fun W => eqM a r W
      have hIM : ∀ W, Below we.heap.size we W → Calls Try.prog 9 #[.agg #[.int .i64 a, .int .i64 r]] W fun e w' => e = .returned (.bool true) ∧ Below w.heap.size w w' := by
        intro W hW
        refine (implMetaOk_any a r W).mono ?_
        rw [hok]
        rintro e w' ⟨rfl, hb⟩
        have h1 := hB.trans (hW.mono hB.size)
        exact ⟨rfl, h1.trans (hb.mono h1.size)⟩
      clear hIC hbe hrp HPB hcut hget hX hZ hok
      go_wp2_with fail
      refine (hIM _ (by repeat (first | exact Below.refl _ _ | refine Below.alloc ?_ (by simp) _ | refine Below.drew ?_))).mono ?_
      rintro e wf ⟨rfl, hbf⟩
      clear hIM heq x0 x1 z0 z1
      go_wp2
      go_ret
      exact ⟨rfl, hbf⟩
  | true =>
    obtain ⟨hyo, hyF⟩ := getMe_read hFB.out hy.out
    obtain ⟨y0, y1'⟩ := hY.cells
    have hM := implMetaOk_any y1 y2 W6
    rw [hyo] at hM
    clear hyo hy
    go_wp2_with (rw [hW6.out])
    refine hM.mono ?_
    rintro e w7 ⟨rfl, hb7⟩
    replace hX := hX.below hb7
    replace hY := hY.below hb7
    replace hrp := hrp.belowAll hb7
    replace hV := hV.below hb7
    replace hB := hB.trans (hb7.mono hB.size)
    clear hM hb7 hW6 y0 y1'
    obtain ⟨y0, y1'⟩ := hY.cells
    have hPS := putMeta_same m F y1 y2 hFB.out hyF w7
    clear hyF
    go_wp2_with fail
    refine hPS.mono ?_
    rintro e w8 ⟨ga, gc, rfl, hgv, hb8⟩
    replace hX := hX.below hb8
    replace hrp := hrp.belowAll hb8
    replace hV := hV.below hb8
    replace hB := hB.trans (hb8.mono hB.size)
    have hsm := sameBytes_any (some ⟨ga, 0, none⟩) (some ⟨b, 0, none⟩) m m gc c F F w8 hgv hV (by omega) (by omega)
    rw [decide_eq_true rfl] at hsm
    clear hPS hb8 y0 y1' hY
    go_wp2_with fail
    refine hsm.mono ?_
    rintro e w9 ⟨rfl, hb9⟩
    replace hX := hX.below hb9
    replace hrp := hrp.belowAll hb9
    replace hB := hB.trans (hb9.mono hB.size)
    clear hsm hb9 hV hgv
    obtain ⟨x0, x1⟩ := hX.cells
    go_wp2_with fail
    refine (specMetaOk_any a r w9).mono ?_
    rintro e wb ⟨rfl, hbb⟩
    replace hX := hX.below hbb
    replace hrp := hrp.belowAll hbb
    replace hB := hB.trans (hbb.mono hB.size)
    clear hbb x0 x1
    obtain ⟨x0, x1⟩ := hX.cells
    cases hok : metaOk a r with
    | false =>
      have hIM := implMetaOk_any a r wb
      rw [hok] at hIM
      obtain rfl := HNO.out hok
      clear HOK HNO hok hrp HPB
      go_wp2_with fail
      refine hIM.mono ?_
      rintro e wc ⟨rfl, hbc⟩
      replace hB := hB.trans (hbc.mono hB.size)
      clear hIM hbc hX x0 x1
      go_wp2
      go_ret
      exact ⟨rfl, hB⟩
    | true =>
      obtain ⟨⟨hN0, hget⟩, hcut⟩ := HOK.out hok
      have hNz : ((N : Int) == 0) = false := beq_eq_false_iff_ne.2 (by omega)
      have hNz1 : ¬ (N : Int) = 0 := by omega
      have hIG := implGetMeta_any (some ⟨gp, 0, none⟩) N cp P wb (fun _ => ⟨gp, rfl⟩) (hrp.view hcp HPB.out) (by omega)
      rw [hget] at hIG
      go_wp2_with fail
      refine hIG.mono ?_
      rintro e wc ⟨rfl, hbc⟩
      replace hX := hX.below hbc
      replace hrp := hrp.belowAll hbc
      replace hB := hB.trans (hbc.mono hB.size)
      have hbZ : Below wc.heap.size wc (wc.alloc (.cells #[.int .i64 a, .int .i64 r] 25)) := (Below.refl _ _).alloc (Nat.le_refl _) _
      have hZ := MBox.new wc a r
      replace hX := hX.below hbZ
      replace hrp := hrp.belowAll hbZ
      replace hB := hB.trans (hbZ.mono hB.size)
      clear hIG hbc hbZ x0 x1
      obtain ⟨wd, hwd⟩ : ∃ x, Hid (wc.alloc (.cells #[.int .i64 a, .int .i64 r] 25) = x) := ⟨_, rfl⟩
      obtain ⟨Z, hZe⟩ : ∃ x, Hid (wc.heap.size = x) := ⟨_, rfl⟩
      rw [hwd.out] at hX hZ hrp hB
      rw [hZe.out] at hZ
      obtain ⟨x2, hx2⟩ : ∃ x, Hid (atN n f 2 = x) := ⟨_, rfl⟩
      have hx2b : x2 ≤ 255 := by rw [← hx2.out]; exact atN_le n f 2 hv.byte
      obtain ⟨j, hj, hjm⟩ : ∃ j : Nat, j < N ∧ (x2 : Int) % (N : Int) = (j : Int) := ⟨x2 % N, Nat.mod_lt _ (by omega), by push_cast; rfl⟩
      have hjz : (j : Int) ≤ (cp : Int) := by omega
      have hV3 : Hid (View wd ao n cap f) := hv.below hB
      go_wp2_with (rw [hwd.out])
      try rw [hZe.out]
      refine (at_val ao n cap f 2 _ x2 wd hx2 hV3.out hn (by omega) rfl).mono ?_
      rintro e _ ⟨rfl, rfl⟩
      have hIC := implGetMeta_any (some ⟨gp, 0, none⟩) j cp P wd (fun _ => ⟨gp, rfl⟩) ((hrp.view hcp HPB.out).take (Nat.le_of_lt hj)) (by omega)
      rw [hcut j hj] at hIC
      clear hwd hZe hV3
      go_wp2_with fail
      refine hIC.mono ?_
      rintro e we ⟨rfl, hbe⟩
      replace hX := hX.below hbe
      replace hZ := hZ.below hbe
      replace hB := hB.trans (hbe.mono hB.size)
      have hxl := hX.lt
      have hzl := hZ.lt
      obtain ⟨x0, x1⟩ := hX.cells
      obtain ⟨z0, z1⟩ := hZ.cells
      have heq := fun W => eqM a r W
      have hIM : ∀ W, Below we.heap.size we W → Calls Try.prog 9 #[.agg #[.int .i64 a, .int .i64 r]] W fun e w' => e = .returned (.bool true) ∧ Below w.heap.size w w' := by
        intro W hW
        refine (implMetaOk_any a r W).mono ?_
        rw [hok]
        rintro e w' ⟨rfl, hb⟩
        have h1 := hB.trans (hW.mono hB.size)
        exact ⟨rfl, h1.trans (hb.mono h1.size)⟩
      clear hIC hbe hrp HPB hcut hget hX hZ hok
      go_wp2_with fail
      refine (hIM _ (by repeat (first | exact Below.refl _ _ | refine Below.alloc ?_ (by simp) _ | refine Below.drew ?_))).mono ?_
      rintro e wf ⟨rfl, hbf⟩
      clear hIM heq x0 x1 z0 z1
      go_wp2
      go_ret
      exact ⟨rfl, hbf⟩
end Go.Proofs.Ytgnhlnlejkgnkaa

