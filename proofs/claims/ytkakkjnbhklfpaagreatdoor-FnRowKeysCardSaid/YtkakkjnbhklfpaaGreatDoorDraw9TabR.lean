/-
  Draw9TabR
-/
import Derived.Test.YtkakkjnbhklfpaaGreatDoorPackR16
import Derived.Test.YtkakkjnbhklfpaaGreatDoorPackR7
import Derived.Deep.LoopGhost
import Derived.Deep.DeepCutAuto
import Derived.Deep.RegionHeld3
/-
  The draw of a table, and what it is.
-/
namespace Go.Proofs.YtkakkjnbhklfpaaGreatDoor
open Go.RowKit
set_option maxRecDepth 4000

theorem uv_fewR : ∀ z ∈ uvR, z.size ≤ 1 := by
  intro z hz
  simp only [uvR, List.mem_cons, List.not_mem_nil, or_false] at hz
  rcases hz with rfl | rfl <;> exact Nat.le_refl _
/-- A slice. -/
def IsSlR (v : Value) : Prop := ∃ (a : Option Addr) (n c : Nat), v = .slice a n c
/-- What is known of a table that is being drawn. -/
def K1 (D : PDef) (s : ByteArray) : Prop := D.name = s ∧ RCol D
def K3 (D : PDef) (s : ByteArray) (b : Bool) : Prop := (D.name = s ∧ RCol D ∧ RPri D) ∧ (b = true → (D.col 1).null = false)
def K2 (D : PDef) (s : ByteArray) (k : Nat) : Prop := D.name = s ∧ RCol D ∧ RPri D ∧ RIdx D k
theorem K2.zero {D : PDef} {s : ByteArray} {k : Nat} (h : K2 D s k) (h0 : k = 0) : K2 D s 0 := by subst h0; exact h
/-- Columns are being drawn: k so far, behind the first. -/
def St1R (w : World) (g : Nat) (ao : Option Addr) (n cap : Nat) (f : Nat → Int) (Bd bn : Nat) (s : ByteArray) (k : Nat) (W : World) : Prop :=
  ∃ (bc cc : Nat) (D : PDef) (A C : Nat → Nat), K1 D s ∧ D.nc = 1 + k ∧ D.np = 0 ∧ D.ni = 0 ∧ Vd w w.heap.size (.string ⟨#[]⟩) (.slice none 0 0) (.slice none 0 0) (.slice none 0 0) W ∧ Vd w Bd (.string s) (.slice (some ⟨bc, 0, none⟩) D.nc cc) (.slice none 0 0) (.slice none 0 0) W ∧ Tb w (.slice (some ⟨bc, 0, none⟩) D.nc cc) (.slice none 0 0) (.slice none 0 0) D A C W ∧ Cr w g ao n cap f W ∧ Txs w bn abcR W
/-- The key is drawn, no index yet. -/
def St3R (w : World) (g : Nat) (ao : Option Addr) (n cap : Nat) (f : Nat → Int) (Bd bn : Nat) (s : ByteArray) (m : Nat) (bb : Bool) (W : World) : Prop :=
  ∃ (bc cc bp cp : Nat) (D : PDef) (A C : Nat → Nat), K3 D s bb ∧ (2 ≤ D.nc ∧ D.nc ≤ 4) ∧ (1 ≤ D.np ∧ D.np ≤ m) ∧ D.ni = 0 ∧ Vd w w.heap.size (.string ⟨#[]⟩) (.slice none 0 0) (.slice none 0 0) (.slice none 0 0) W ∧ Vd w Bd (.string s) (.slice (some ⟨bc, 0, none⟩) D.nc cc) (.slice (some ⟨bp, 0, none⟩) D.np cp) (.slice none 0 0) W ∧ Tb w (.slice (some ⟨bc, 0, none⟩) D.nc cc) (.slice (some ⟨bp, 0, none⟩) D.np cp) (.slice none 0 0) D A C W ∧ Cr w g ao n cap f W ∧ Txs w bn abcR W
/-- Indexes are being drawn: at most k more. -/
def St2R (w : World) (g : Nat) (ao : Option Addr) (n cap : Nat) (f : Nat → Int) (Bd bn : Nat) (s : ByteArray) (k : Nat) (W : World) : Prop :=
  ∃ (bc cc bp cp : Nat) (vi : Value) (D : PDef) (A C : Nat → Nat), K2 D s k ∧ (2 ≤ D.nc ∧ D.nc ≤ 4) ∧ (1 ≤ D.np ∧ D.np ≤ 2) ∧ D.ni + k ≤ 2 ∧ IsSlR vi ∧ Vd w w.heap.size (.string ⟨#[]⟩) (.slice none 0 0) (.slice none 0 0) (.slice none 0 0) W ∧ Vd w Bd (.string s) (.slice (some ⟨bc, 0, none⟩) D.nc cc) (.slice (some ⟨bp, 0, none⟩) D.np cp) vi W ∧ Tb w (.slice (some ⟨bc, 0, none⟩) D.nc cc) (.slice (some ⟨bp, 0, none⟩) D.np cp) vi D A C W ∧ Cr w g ao n cap f W ∧ Txs w bn abcR W
/-- A table that was drawn. -/
def DrewDR (w : World) (g : Nat) (ao : Option Addr) (n cap : Nat) (f : Nat → Int) (s : ByteArray) (bc cc bp cp N M : Nat) (vi : Value) (W : World) : Prop :=
  ∃ (D : PDef) (A C : Nat → Nat), K2 D s 0 ∧ D.nc = N ∧ D.np = M ∧ (2 ≤ N ∧ N ≤ 4) ∧ (1 ≤ M ∧ M ≤ 2) ∧ D.ni ≤ 2 ∧ IsSlR vi ∧ Tb w (.slice (some ⟨bc, 0, none⟩) N cc) (.slice (some ⟨bp, 0, none⟩) M cp) vi D A C W ∧ Cr w g ao n cap f W

theorem abc_atR {k : Nat} (h : k < 3) : ∃ s, abcR[k]? = some s ∧ s.size ≤ 1 := by
  match k, h with
  | 0, _ => exact ⟨_, rfl, Nat.le_refl _⟩
  | 1, _ => exact ⟨_, rfl, Nat.le_refl _⟩
  | 2, _ => exact ⟨_, rfl, Nat.le_refl _⟩

set_option maxRecDepth 20000 in
set_option maxHeartbeats 16000000 in
theorem l9Draw_anyR (g : Nat) (ao : Option Addr) (n cap : Nat) (f : Nat → Int) (s : ByteArray) (w : World) (hn : n ≤ 1048576) (hs : s.size ≤ 1000) (hC : Cur w g ao n cap f) :
    Calls Tryz.prog 54 #[.pointer (some ⟨g, 0, none⟩), .string s] w fun e w' => ∃ (bc cc bp cp N M : Nat) (vi : Value), e = .returned (.agg #[.string s, .slice (some ⟨bc, 0, none⟩) N cc, .slice (some ⟨bp, 0, none⟩) M cp, vi]) ∧ DrewDR w g ao n cap f s bc cc bp cp N M vi w' := by
  obtain ⟨iC, hiC⟩ := infoCol9
  obtain ⟨iB, hiB⟩ := infoBy9
  obtain ⟨iI, hiI⟩ := infoIdx9
  have hR := Cr.start hC
  have hg := hR.lt
  clear hC
  have hr := Vd.new (w := w) (W := w) (Nat.le_refl _) (.string ⟨#[]⟩) (.slice none 0 0) (.slice none 0 0) (.slice none 0 0)
  replace hR := hR.eff (Eff.alloc w 93 w (.cells #[.string ⟨#[]⟩, (.slice none 0 0), (.slice none 0 0), (.slice none 0 0)] 36))
  have hE := Eff.alloc w 93 (w.alloc (.cells #[.string ⟨#[]⟩, (.slice none 0 0), (.slice none 0 0), (.slice none 0 0)] 36)) (.cells #[.int .i64 1, .int .i64 1, .int .i64 3, .int .i64 2] 3)
  replace hr := hr.eff hE (by decide)
  replace hR := hR.eff hE
  clear hE
  obtain ⟨z, hzt, hz⟩ : ∃ z : Nat → Int, (∀ i, i < 4 → 1 ≤ z i ∧ z i ≤ 4) ∧ ∀ i, i < 4 → ((w.alloc (.cells #[.string ⟨#[]⟩, (.slice none 0 0), (.slice none 0 0), (.slice none 0 0)] 36)).alloc (.cells #[.int .i64 1, .int .i64 1, .int .i64 3, .int .i64 2] 3)).cell? ⟨w.heap.size + 1, i, none⟩ = some (.int .i64 (z i)) := by
    refine ⟨fun i => [1, 1, 3, 2].getD i 0, fun i hi => by
      match i, hi with
      | 0, _ => simp
      | 1, _ => simp
      | 2, _ => simp
      | 3, _ => simp, fun i hi => ?_⟩
    match i, hi with
    | 0, _ => simp
    | 1, _ => simp [go_sem]
    | 2, _ => simp [go_sem]
    | 3, _ => simp [go_sem]
  have hI := l1Int_any g ao n cap f (w.heap.size + 1) 4 z _ hn (by omega) (by omega) hz (by omega) hR.cur
  clear hz
  go_enter Tryz.func54, Tryz.ntmps54
  go_wp2_with fail
  refine hI.mono ?_
  rintro e w3 ⟨j, hj4, rfl, hC3, hO3⟩
  have htyp := hzt j hj4
  clear hzt
  replace hr := hr.but (But.ofOnly hO3) hg
  replace hR := hR.next hC3 (But.ofOnly hO3)
  clear hC3 hO3 hI
  have hRlt := hr.v.lt
  generalize z j = ty at htyp ⊢
  have hO1 := own_col1 (w := w) (W := w3) hR.size ⟨#[105, 100]⟩ ty false
  have hE1 := Eff.alloc w 93 w3 (.cells #[.string ⟨#[105, 100]⟩, .int .i64 ty, .bool false] 90)
  replace hr := hr.eff hE1 (by decide)
  replace hR := hR.eff hE1
  clear hE1
  have hT : Tb w (.slice (some ⟨w3.heap.size, 0, none⟩) 1 1) (.slice none 0 0) (.slice none 0 0) ⟨s, 1, fun _ => ⟨⟨#[105, 100]⟩, ty, false⟩, 0, fun _ => ⟨0, false⟩, 0, fun _ => ⟨⟨#[]⟩, false, 0, fun _ => ⟨0, false⟩⟩⟩ (fun _ => 0) (fun _ => 0) (w3.alloc (.cells #[.string ⟨#[105, 100]⟩, .int .i64 ty, .bool false] 90)) :=
    ⟨hO1, own_nil9, own_nil9, Pts.none _ _ _ _ _ _, ⟨hs, by show 1 ≤ 1000; omega, fun _ _ => by show (2 : Nat) ≤ 1000; omega, Nat.zero_le _, Nat.zero_le _, fun i hi => absurd hi (Nat.not_lt_zero _)⟩⟩
  clear hO1
  obtain ⟨w4, hw4⟩ : ∃ w4, Hid (w4 = w3.alloc (.cells #[.string ⟨#[105, 100]⟩, .int .i64 ty, .bool false] 90)) := ⟨_, rfl⟩
  obtain ⟨b0, hb0⟩ : ∃ b0, Hid (b0 = w3.heap.size) := ⟨_, rfl⟩
  have hs4 : w4.heap.size = w3.heap.size + 1 := by rw [hw4.out]; simp
  rw [← hw4.out] at hr hR hT
  rw [← hb0.out] at hT
  have hd := Vd.new (w := w) (W := w4) hR.size (.string s) (.slice (some ⟨b0, 0, none⟩) 1 1) (.slice none 0 0) (.slice none 0 0)
  have hE2 := Eff.alloc w 93 w4 (.cells #[.string s, .slice (some ⟨b0, 0, none⟩) 1 1, (.slice none 0 0), (.slice none 0 0)] 36)
  replace hr := hr.eff hE2 (by decide)
  replace hR := hR.eff hE2
  replace hT := hT.eff hE2 (by decide) (by decide) (by decide)
  clear hE2
  have hN := Txs.new (w := w) hR.size abcR
  have hE3 := Eff.alloc w 93 (w4.alloc (.cells #[.string s, .slice (some ⟨b0, 0, none⟩) 1 1, (.slice none 0 0), (.slice none 0 0)] 36)) (.cells (abcR.map Value.string).toArray 9)
  replace hr := hr.eff hE3 (by decide)
  replace hR := hR.eff hE3
  replace hT := hT.eff hE3 (by decide) (by decide) (by decide)
  replace hd := hd.eff hE3 (by decide)
  clear hE3
  have hS1 : St1R w g ao n cap f w4.heap.size (w4.alloc (.cells #[.string s, .slice (some ⟨b0, 0, none⟩) 1 1, (.slice none 0 0), (.slice none 0 0)] 36)).heap.size s 0 ((w4.alloc (.cells #[.string s, .slice (some ⟨b0, 0, none⟩) 1 1, (.slice none 0 0), (.slice none 0 0)] 36)).alloc (.cells (abcR.map Value.string).toArray 9)) :=
    ⟨b0, 1, ⟨s, 1, fun _ => ⟨⟨#[105, 100]⟩, ty, false⟩, 0, fun _ => ⟨0, false⟩, 0, fun _ => ⟨⟨#[]⟩, false, 0, fun _ => ⟨0, false⟩⟩⟩, fun _ => 0, fun _ => 0, ⟨rfl, fun i hi => by
      obtain rfl : i = 0 := by have : i < 1 := hi; omega
      exact ⟨rfl, htyp, fun _ => rfl⟩⟩, rfl, rfl, rfl, hr, hd, hT, hR, hN⟩
  clear hr hd hT hR hN
  rw [hw4.out, hb0.out] at hS1
  clear hs4 hw4 hb0
  simp only [World.size_alloc] at hS1
  obtain ⟨Bd, hBd⟩ : ∃ Bd, Hid (Bd = w3.heap.size + 1) := ⟨_, rfl⟩
  have hRB : w.heap.size < Bd := by rw [hBd.out]; omega
  rw [← hBd.out] at hS1
  clear hRlt
  go_wp2
  rw [← hBd.out]
  obtain ⟨bn, hbn⟩ : ∃ bn, Hid (bn = Bd + 1) := ⟨_, rfl⟩
  rw [← hbn.out] at hS1 ⊢
  rename_i KE hKE
  have key : ∀ (y1 y2 y3 y7 y8 y9 y10 y11 y12 y13 y14 y15 y16 y17 y18 y19 y20 y21 y22 y23 y24 y25 y26 y27 y28 y29 y30 y31 y32 y33 y34 y35 y36 y37 y38 y39 y40 y41 y42 y43 y44 y45 y46 y47 y48 y49 y50 y51 y52 y53 y54 y55 y56 y57 y58 y59 y60 y61 y62 y63 y64 y65 y66 y67 y68 y69 y70 y71 y72 y73 y74 y75 y76 y77 y78 y79 y80 y81 y82 y83 y84 y85 y86 y87 y88 y89 y90 y91 y92 y93 : Value) (k : Nat) (W : World), 1 ≤ k → k ≤ 3 → St1R w g ao n cap f Bd bn s k W → KE { tmps := #[.pointer (some ⟨g, 0, none⟩), y1, y2, y3, .pointer (some ⟨w.heap.size, 0, none⟩), .pointer (some ⟨Bd, 0, none⟩), .slice (some ⟨bn, 0, none⟩) 3 3, y7, y8, y9, y10, y11, y12, y13, y14, y15, y16, y17, y18, y19, y20, y21, y22, y23, y24, y25, y26, y27, y28, y29, y30, y31, y32, y33, y34, y35, y36, y37, y38, y39, y40, y41, y42, y43, y44, y45, y46, y47, y48, y49, y50, y51, y52, y53, y54, y55, y56, y57, y58, y59, y60, y61, y62, y63, y64, y65, y66, y67, y68, y69, y70, y71, y72, y73, y74, y75, y76, y77, y78, y79, y80, y81, y82, y83, y84, y85, y86, y87, y88, y89, y90, y91, y92, y93], defers := [] } W := by
    intro y1 y2 y3 y7 y8 y9 y10 y11 y12 y13 y14 y15 y16 y17 y18 y19 y20 y21 y22 y23 y24 y25 y26 y27 y28 y29 y30 y31 y32 y33 y34 y35 y36 y37 y38 y39 y40 y41 y42 y43 y44 y45 y46 y47 y48 y49 y50 y51 y52 y53 y54 y55 y56 y57 y58 y59 y60 y61 y62 y63 y64 y65 y66 y67 y68 y69 y70 y71 y72 y73 y74 y75 y76 y77 y78 y79 y80 y81 y82 y83 y84 y85 y86 y87 y88 y89 y90 y91 y92 y93 k W hk1 hk3 hS
    apply hKE
    clear hKE hS1
    obtain ⟨bc, cc, D, A, C, e1, e2, e3, e4, hr, hd, hT, hR, hN⟩ := hS
    have hnc4 : D.nc ≤ 4 := by omega
    have hnc1 : 2 ≤ D.nc := by omega
    have E2 : Hid (K1 D s ∧ D.nc = 1 + k ∧ D.np = 0 ∧ D.ni = 0) := ⟨e1, e2, e3, e4⟩
    clear e1 e2 e3 e4
    go_wp2_with fail
    refine (l1Once_any g ao n cap f 3 W hn (by omega) (by omega) hR.cur).mono ?_
    rintro e w6 ⟨o, rfl, hCx, hOx⟩
    replace hr := hr.but (But.ofOnly hOx) hg
    replace hd := hd.but (But.ofOnly hOx) hg
    replace hT := hT.but (But.ofOnly hOx) hg
    replace hN := hN.but (But.ofOnly hOx) hg
    replace hR := hR.next hCx (But.ofOnly hOx)
    clear hCx hOx
    obtain ⟨x0, x1, x2, x3⟩ := hd.v.cells
    obtain ⟨z0, z1, z2, z3⟩ := hd.v.fz
    have hBdl := hd.v.lt
    have hE1 := hd.effSet 2 (.slice (some ⟨w6.heap.size, 0, none⟩) 1 1)
    replace hN := hN.eff hE1 (by decide)
    replace hR := hR.eff hE1
    replace hT := hT.eff hE1 (by decide) (by decide) (by decide)
    replace hr := hr.other (C := Bd) (i := 2) (u := (.slice (some ⟨w6.heap.size, 0, none⟩) 1 1)) (by omega)
    replace hd := hd.set2 (.slice (some ⟨w6.heap.size, 0, none⟩) 1 1)
    have hz1 : (w6.setCell ⟨Bd, 2, none⟩ (.slice (some ⟨w6.heap.size, 0, none⟩) 1 1)).heap.size = w6.heap.size := by simp
    have hO6 := own_by1R (w := w) (W := (w6.setCell ⟨Bd, 2, none⟩ (.slice (some ⟨w6.heap.size, 0, none⟩) 1 1))) hR.size 0 o
    rw [hz1] at hO6
    have hE2 := Eff.alloc w 93 (w6.setCell ⟨Bd, 2, none⟩ (.slice (some ⟨w6.heap.size, 0, none⟩) 1 1)) (.cells #[.int .i64 0, .bool o] 67)
    replace hr := hr.eff hE2 (by decide)
    replace hd := hd.eff hE2 (by decide)
    replace hN := hN.eff hE2 (by decide)
    replace hT := hT.eff hE2 (by decide) (by decide) (by decide)
    replace hR := hR.eff hE2
    have hT2 := hT.setPri 1 (fun _ => ⟨0, o⟩) hO6 hT.cols hT.idx ⟨fun i hi => absurd hi (by have := E2.out.2.2.2; omega), fun i hi => absurd hi (by have := E2.out.2.2.2; omega)⟩ (by omega)
    clear hE1 hE2 hO6 hT hz1
    have HS0 : Hid (St3R w g ao n cap f Bd bn s 1 false ((w6.setCell ⟨Bd, 2, none⟩ (.slice (some ⟨w6.heap.size, 0, none⟩) 1 1)).alloc (.cells #[.int .i64 0, .bool o] 67))) := ⟨bc, cc, w6.heap.size, 1, { D with np := 1, pri := fun _ => ⟨0, o⟩ }, A, C, ⟨⟨E2.out.1.1, E2.out.1.2, RPri.one E2.out.1.2 (by omega) o⟩, fun h => by cases h⟩, ⟨hnc1, hnc4⟩, ⟨Nat.le_refl _, Nat.le_refl _⟩, E2.out.2.2.2, hr, hd, hT2, hR, hN⟩
    clear hr hd hT2 hR hN
    go_upto_region 8 with fail
    obtain ⟨w7, hw7⟩ : ∃ w7, Hid (w7 = ((w6.setCell ⟨Bd, 2, none⟩ (.slice (some ⟨w6.heap.size, 0, none⟩) 1 1)).alloc (.cells #[.int .i64 0, .bool o] 67))) := ⟨_, rfl⟩
    have HS1 : Hid (St3R w g ao n cap f Bd bn s 1 false w7) := by rw [hw7.out]; exact HS0.out
    rw [← hw7.out]
    clear HS0 x0 x1 x2 x3 z0 z1 z2 z3 hBdl E2 hnc1 hnc4 hw7
    clear D A C bc cc
    go_cut [57] (fun p wx => ∃ b : Bool, p = .bool b ∧ St3R w g ao n cap f Bd bn s 1 b wx)
    case first =>
      obtain ⟨bc, cc, bp, cp, D, A, C, e1, e2, e3, e4, hr, hd, hT, hR, hN⟩ := HS1.out
      obtain ⟨hbc, hncc, -, -, hnull⟩ := hT.colAt (i := 1) (by omega)
      have HQ : Hid (K3 D s false ∧ (2 ≤ D.nc ∧ D.nc ≤ 4) ∧ (1 ≤ D.np ∧ D.np ≤ 1) ∧ D.ni = 0) := ⟨e1, e2, e3, e4⟩
      have hnz1 : (1 : Int) < (D.nc : Int) := by omega
      clear e1 e2 e3 e4
      obtain ⟨x0, x1, x2, x3⟩ := hd.v.cells
      obtain ⟨nl, hnl⟩ : ∃ nl, Hid ((D.col 1).null = nl) := ⟨_, rfl⟩
      rw [hnl.out] at hnull
      cases nl with
      | true =>
        go_wp2_with fail
        go_meet
        exact ⟨false, rfl, HS1.out⟩
      | false =>
        go_wp2_with fail
        refine (l1Once_any g ao n cap f 2 w7 hn (by omega) (by omega) hR.cur).mono ?_
        rintro e w8 ⟨p, rfl, hCx, hOx⟩
        replace hr := hr.but (But.ofOnly hOx) hg
        replace hd := hd.but (But.ofOnly hOx) hg
        replace hT := hT.but (But.ofOnly hOx) hg
        replace hN := hN.but (But.ofOnly hOx) hg
        replace hR := hR.next hCx (But.ofOnly hOx)
        clear hCx hOx
        have HS3 : Hid (St3R w g ao n cap f Bd bn s 1 p w8) := ⟨bc, cc, bp, cp, D, A, C, ⟨HQ.out.1.1, fun _ => hnl.out⟩, HQ.out.2.1, HQ.out.2.2.1, HQ.out.2.2.2, hr, hd, hT, hR, hN⟩
        go_wp2_with fail
        go_meet
        exact ⟨p, rfl, HS3.out⟩
    case rest =>
      clear HS1 w7 w6 W
      obtain ⟨p, rfl, hSp⟩ := hcut
      have HS1 : Hid (St3R w g ao n cap f Bd bn s 1 p wc) := hSp
      clear hSp
      go_upto_if 57 with fail
      go_cut [] (fun wx => St3R w g ao n cap f Bd bn s 2 false wx)
      case first =>
        obtain ⟨bc, cc, bp, cp, D, A, C, e1, e2, e3, e4, hr, hd, hT, hR, hN⟩ := HS1.out
        have HQ : Hid (K3 D s p ∧ (2 ≤ D.nc ∧ D.nc ≤ 4) ∧ (1 ≤ D.np ∧ D.np ≤ 1) ∧ D.ni = 0) := ⟨e1, e2, e3, e4⟩
        have hnp : D.np ≤ 1 := e3.2
        clear e1 e2 e3 e4 HS1
        cases p with
        | false =>
          have HS3 : Hid (St3R w g ao n cap f Bd bn s 2 false wc) := ⟨bc, cc, bp, cp, D, A, C, ⟨HQ.out.1.1, fun h => by cases h⟩, HQ.out.2.1, ⟨HQ.out.2.2.1.1, by omega⟩, HQ.out.2.2.2, hr, hd, hT, hR, hN⟩
          clear hr hd hT hR hN HQ
          go_wp2_with fail
          go_meet
          exact HS3.out
        | true =>
          go_wp2_with fail
          as_aux_lemma =>
            have hEx : Eff w 93 wc wc.drew := Eff.ofBelow (Below.refl _ _).drew
            replace hr := hr.eff hEx (by decide)
            replace hd := hd.eff hEx (by decide)
            replace hT := hT.eff hEx (by decide) (by decide) (by decide)
            replace hN := hN.eff hEx (by decide)
            replace hR := hR.eff hEx
            clear hEx
            refine wp_region_held_drew (S := (fun _ => True)) (by kernel_rfl) trivial (fun hHeld => ?_)
            obtain ⟨wcd, hwcd⟩ : ∃ wcd, Hid (wcd = wc.drew) := ⟨_, rfl⟩
            rw [← hwcd.out] at hr hd hT hN hR ⊢
            refine' wpAnyH_take (i := 0) (v := _) rfl (by kernel_rfl) (by kernel_rfl) (by kernel_rfl) (fun _ _ _ h => h) (Or.inl ⟨by kernel_rfl, ?hdp1⟩) (by assumption) ?rdp1
            case hdp1 => intro W hW; go_simp; all_goals with_reducible rfl
            change wpAnyH _ _ _ _ _ _ _ (Act.put _ (some 58) _) _
            simp only [Act.put, List.setIfInBounds_toArray, List.set_cons_zero, List.set_cons_succ]
            refine' wpAnyH_take (i := 2) (v := _) rfl (by kernel_rfl) (by kernel_rfl) (by kernel_rfl) (fun _ _ _ h => h) (Or.inl ⟨by kernel_rfl, ?hdp2⟩) (by assumption) ?rdp2
            case hdp2 => intro W hW; go_simp; all_goals with_reducible rfl
            change wpAnyH _ _ _ _ _ _ _ (Act.put _ (some 60) _) _
            simp only [Act.put, List.setIfInBounds_toArray, List.set_cons_zero, List.set_cons_succ]
            refine wpAnyH_ready (rs := [1, 3]) (by kernel_rfl) (by simp) ?_
            refine AllReadyH.cons rfl (fun KK hK => ?_) (AllReadyH.cons rfl (fun KK hK => ?_) AllReadyH.nil)
            ·
              obtain ⟨k0, k1, k2, k3⟩ := hd.v.cells
              go_simp
              clear k0 k1 k2 k3
              refine hK.out _ _ trivial (fun hHeld => ?_)
              clear hK KK
              try simp only [Act.put, List.setIfInBounds_toArray, List.set_cons_zero, List.set_cons_succ]
              refine wpAnyH_ready (rs := [3]) (by kernel_rfl) (by simp) ?_
              refine AllReadyH.cons rfl (fun KK hK => ?_) AllReadyH.nil
              go_simp
              refine (l1Once_any g ao n cap f 2 _ hn (by omega) (by omega) hR.cur).mono ?_
              rintro e w9 ⟨q, rfl, hCx, hOx⟩
              replace hr := hr.but (But.ofOnly hOx) hg
              replace hd := hd.but (But.ofOnly hOx) hg
              replace hT := hT.but (But.ofOnly hOx) hg
              replace hN := hN.but (But.ofOnly hOx) hg
              replace hR := hR.next hCx (But.ofOnly hOx)
              clear hCx hOx
              go_wp2_with fail
              refine hK.out _ _ trivial (fun hHeld => ?_)
              clear hK KK
              try simp only [Act.put, List.setIfInBounds_toArray, List.set_cons_zero, List.set_cons_succ]
              refine' wpAnyH_take (i := 4) (v := _) rfl (by kernel_rfl) (by kernel_rfl) (by kernel_rfl) (fun _ _ _ h => h) (Or.inl ⟨by kernel_rfl, ?hdp3⟩) (by assumption) ?rdp3
              case hdp3 => intro W hW; go_simp; all_goals with_reducible rfl
              change wpAnyH _ _ _ _ _ _ _ (Act.put _ (some 62) _) _
              simp only [Act.put, List.setIfInBounds_toArray, List.set_cons_zero, List.set_cons_succ]
              refine wpAnyH_ready (rs := [5]) (by kernel_rfl) (by simp) ?_
              refine AllReadyH.cons rfl (fun KK hK => ?_) AllReadyH.nil
              go_simp
              have hcl := cells_by9 w9 1 q
              have hs9 := hR.size
              have hEx := Eff.alloc w 93 w9 (.cells #[.int .i64 1, .bool q] 67)
              replace hr := hr.eff hEx (by decide)
              replace hd := hd.eff hEx (by decide)
              replace hT := hT.eff hEx (by decide) (by decide) (by decide)
              replace hN := hN.eff hEx (by decide)
              replace hR := hR.eff hEx
              clear hEx
              refine hK.out _ _ trivial (fun hHeld => ?_)
              clear hK KK
              try simp only [Act.put, List.setIfInBounds_toArray, List.set_cons_zero, List.set_cons_succ]
              refine wpAnyH_ready (rs := [6]) (by kernel_rfl) (by simp) ?_
              refine AllReadyH.cons rfl (fun KK hK => ?_) AllReadyH.nil
              rw [if_pos (by kernel_rfl)]
              refine wp_append_own _ (.tmp 59) (.tmp 63) 33 rfl w.heap.size 67 iB (.agg #[.int .i64 0, .bool false]) 2 16 Tryz.underlying33 hiB.1 hiB.2.1 hiB.2.2.1 hiB.2.2.2 rfl (by decide) _ _ _ rfl hT.pri ⟨w9.heap.size, 0, none⟩ 1 1 [.int .i64 1, .bool q] rfl rfl hcl (one_by9 _ _) (by unfold maxLen; omega) (by omega) (by first | omega | (simp; omega)) ?_
              intro vX wa hOX hgX hnX
              have hEx := Eff.grown hT.pri hgX
              obtain ⟨b9, c9, rfl⟩ := own_succG hOX
              have hTa := hT.setPri (D.np + 1) (upd D.pri D.np ⟨1, q⟩) (W' := wa) (v' := .slice (some ⟨b9, 0, none⟩) (D.np + 1) c9) (by rw [rowG_updB]; exact hOX) (own_eff hT.cols hEx (by decide)) (own_eff hT.idx hEx (by decide)) ⟨fun i hi => absurd hi (by have := HQ.out.2.2.2; omega), fun i hi => absurd hi (by have := HQ.out.2.2.2; omega)⟩ (by omega)
              replace hr := hr.eff hEx (by decide)
              replace hd := hd.eff hEx (by decide)
              replace hN := hN.eff hEx (by decide)
              replace hR := hR.eff hEx
              clear hEx hT hOX hgX hnX hcl
              refine hK.out _ _ trivial (fun hHeld => ?_)
              clear hK KK
              change wpAnyH _ _ _ _ _ _ _ (Act.put _ (some 64) _) _
              try simp only [Act.put, List.setIfInBounds_toArray, List.set_cons_zero, List.set_cons_succ]
              refine' wpAnyH_take (i := 7) (v := _) rfl (by kernel_rfl) (by kernel_rfl) (by kernel_rfl) (fun _ _ _ h => h) (Or.inl ⟨by kernel_rfl, ?hdp4⟩) (by assumption) ?rdp4
              case hdp4 => intro W hW; go_simp; all_goals with_reducible rfl
              change wpAnyH _ _ _ _ _ _ _ (Act.put _ (some 65) _) _
              simp only [Act.put, List.setIfInBounds_toArray, List.set_cons_zero, List.set_cons_succ]
              refine wpAnyH_ready (rs := [8]) (by kernel_rfl) (by simp) ?_
              refine AllReadyH.cons rfl (fun KK hK => ?_) AllReadyH.nil
              obtain ⟨k0, k1, k2, k3⟩ := hd.v.cells
              obtain ⟨z0, z1, z2, z3⟩ := hd.v.fz
              go_simp
              clear k0 k1 k2 k3 z0 z1 z2 z3
              have hEx := hd.effSet 2 (.slice (some ⟨b9, 0, none⟩) (D.np + 1) c9)
              replace hN := hN.eff hEx (by decide)
              replace hR := hR.eff hEx
              replace hTa := hTa.eff hEx (by decide) (by decide) (by decide)
              replace hr := hr.other (C := Bd) (i := 2) (u := .slice (some ⟨b9, 0, none⟩) (D.np + 1) c9) (by omega)
              replace hd := hd.set2 (.slice (some ⟨b9, 0, none⟩) (D.np + 1) c9)
              clear hEx
              refine hK.out _ _ trivial (fun hHeld => ?_)
              clear hK KK
              try simp only [Act.put, List.setIfInBounds_toArray, List.set_cons_zero, List.set_cons_succ]
              refine wpAnyH_done (by kernel_rfl) ?_ _
              have HS3 : Hid (St3R w g ao n cap f Bd bn s 2 false _) := ⟨bc, cc, b9, c9, { D with np := D.np + 1, pri := upd D.pri D.np ⟨1, q⟩ }, A, C, ⟨⟨HQ.out.1.1.1, HQ.out.1.1.2.1, HQ.out.1.1.2.2.two (by have := HQ.out.2.2.1; omega) (HQ.out.1.2 rfl) _ upd_new (fun i hi => upd_old hi)⟩, fun h => by cases h⟩, HQ.out.2.1, ⟨by show 1 ≤ D.np + 1; omega, by show D.np + 1 ≤ 2; omega⟩, HQ.out.2.2.2, hr, hd, hTa, hR, hN⟩
              clear hr hd hTa hR hN hHeld
              go_wp2_with fail
              go_meet
              exact HS3.out
            ·
              go_simp
              refine (l1Once_any g ao n cap f 2 _ hn (by omega) (by omega) hR.cur).mono ?_
              rintro e w9 ⟨q, rfl, hCx, hOx⟩
              replace hr := hr.but (But.ofOnly hOx) hg
              replace hd := hd.but (But.ofOnly hOx) hg
              replace hT := hT.but (But.ofOnly hOx) hg
              replace hN := hN.but (But.ofOnly hOx) hg
              replace hR := hR.next hCx (But.ofOnly hOx)
              clear hCx hOx
              go_wp2_with fail
              refine hK.out _ _ trivial (fun hHeld => ?_)
              clear hK KK
              try simp only [Act.put, List.setIfInBounds_toArray, List.set_cons_zero, List.set_cons_succ]
              refine' wpAnyH_take (i := 4) (v := _) rfl (by kernel_rfl) (by kernel_rfl) (by kernel_rfl) (fun _ _ _ h => h) (Or.inl ⟨by kernel_rfl, ?hdp5⟩) (by assumption) ?rdp5
              case hdp5 => intro W hW; go_simp; all_goals with_reducible rfl
              change wpAnyH _ _ _ _ _ _ _ (Act.put _ (some 62) _) _
              simp only [Act.put, List.setIfInBounds_toArray, List.set_cons_zero, List.set_cons_succ]
              refine wpAnyH_ready (rs := [1, 5]) (by kernel_rfl) (by simp) ?_
              refine AllReadyH.cons rfl (fun KK hK => ?_) (AllReadyH.cons rfl (fun KK hK => ?_) AllReadyH.nil)
              ·
                obtain ⟨k0, k1, k2, k3⟩ := hd.v.cells
                go_simp
                clear k0 k1 k2 k3
                refine hK.out _ _ trivial (fun hHeld => ?_)
                clear hK KK
                try simp only [Act.put, List.setIfInBounds_toArray, List.set_cons_zero, List.set_cons_succ]
                refine wpAnyH_ready (rs := [5]) (by kernel_rfl) (by simp) ?_
                refine AllReadyH.cons rfl (fun KK hK => ?_) AllReadyH.nil
                go_simp
                have hcl := cells_by9 w9 1 q
                have hs9 := hR.size
                have hEx := Eff.alloc w 93 w9 (.cells #[.int .i64 1, .bool q] 67)
                replace hr := hr.eff hEx (by decide)
                replace hd := hd.eff hEx (by decide)
                replace hT := hT.eff hEx (by decide) (by decide) (by decide)
                replace hN := hN.eff hEx (by decide)
                replace hR := hR.eff hEx
                clear hEx
                refine hK.out _ _ trivial (fun hHeld => ?_)
                clear hK KK
                try simp only [Act.put, List.setIfInBounds_toArray, List.set_cons_zero, List.set_cons_succ]
                refine wpAnyH_ready (rs := [6]) (by kernel_rfl) (by simp) ?_
                refine AllReadyH.cons rfl (fun KK hK => ?_) AllReadyH.nil
                rw [if_pos (by kernel_rfl)]
                refine wp_append_own _ (.tmp 59) (.tmp 63) 33 rfl w.heap.size 67 iB (.agg #[.int .i64 0, .bool false]) 2 16 Tryz.underlying33 hiB.1 hiB.2.1 hiB.2.2.1 hiB.2.2.2 rfl (by decide) _ _ _ rfl hT.pri ⟨w9.heap.size, 0, none⟩ 1 1 [.int .i64 1, .bool q] rfl rfl hcl (one_by9 _ _) (by unfold maxLen; omega) (by omega) (by first | omega | (simp; omega)) ?_
                intro vX wa hOX hgX hnX
                have hEx := Eff.grown hT.pri hgX
                obtain ⟨b9, c9, rfl⟩ := own_succG hOX
                have hTa := hT.setPri (D.np + 1) (upd D.pri D.np ⟨1, q⟩) (W' := wa) (v' := .slice (some ⟨b9, 0, none⟩) (D.np + 1) c9) (by rw [rowG_updB]; exact hOX) (own_eff hT.cols hEx (by decide)) (own_eff hT.idx hEx (by decide)) ⟨fun i hi => absurd hi (by have := HQ.out.2.2.2; omega), fun i hi => absurd hi (by have := HQ.out.2.2.2; omega)⟩ (by omega)
                replace hr := hr.eff hEx (by decide)
                replace hd := hd.eff hEx (by decide)
                replace hN := hN.eff hEx (by decide)
                replace hR := hR.eff hEx
                clear hEx hT hOX hgX hnX hcl
                refine hK.out _ _ trivial (fun hHeld => ?_)
                clear hK KK
                change wpAnyH _ _ _ _ _ _ _ (Act.put _ (some 64) _) _
                try simp only [Act.put, List.setIfInBounds_toArray, List.set_cons_zero, List.set_cons_succ]
                refine' wpAnyH_take (i := 7) (v := _) rfl (by kernel_rfl) (by kernel_rfl) (by kernel_rfl) (fun _ _ _ h => h) (Or.inl ⟨by kernel_rfl, ?hdp6⟩) (by assumption) ?rdp6
                case hdp6 => intro W hW; go_simp; all_goals with_reducible rfl
                change wpAnyH _ _ _ _ _ _ _ (Act.put _ (some 65) _) _
                simp only [Act.put, List.setIfInBounds_toArray, List.set_cons_zero, List.set_cons_succ]
                refine wpAnyH_ready (rs := [8]) (by kernel_rfl) (by simp) ?_
                refine AllReadyH.cons rfl (fun KK hK => ?_) AllReadyH.nil
                obtain ⟨k0, k1, k2, k3⟩ := hd.v.cells
                obtain ⟨z0, z1, z2, z3⟩ := hd.v.fz
                go_simp
                clear k0 k1 k2 k3 z0 z1 z2 z3
                have hEx := hd.effSet 2 (.slice (some ⟨b9, 0, none⟩) (D.np + 1) c9)
                replace hN := hN.eff hEx (by decide)
                replace hR := hR.eff hEx
                replace hTa := hTa.eff hEx (by decide) (by decide) (by decide)
                replace hr := hr.other (C := Bd) (i := 2) (u := .slice (some ⟨b9, 0, none⟩) (D.np + 1) c9) (by omega)
                replace hd := hd.set2 (.slice (some ⟨b9, 0, none⟩) (D.np + 1) c9)
                clear hEx
                refine hK.out _ _ trivial (fun hHeld => ?_)
                clear hK KK
                try simp only [Act.put, List.setIfInBounds_toArray, List.set_cons_zero, List.set_cons_succ]
                refine wpAnyH_done (by kernel_rfl) ?_ _
                have HS3 : Hid (St3R w g ao n cap f Bd bn s 2 false _) := ⟨bc, cc, b9, c9, { D with np := D.np + 1, pri := upd D.pri D.np ⟨1, q⟩ }, A, C, ⟨⟨HQ.out.1.1.1, HQ.out.1.1.2.1, HQ.out.1.1.2.2.two (by have := HQ.out.2.2.1; omega) (HQ.out.1.2 rfl) _ upd_new (fun i hi => upd_old hi)⟩, fun h => by cases h⟩, HQ.out.2.1, ⟨by show 1 ≤ D.np + 1; omega, by show D.np + 1 ≤ 2; omega⟩, HQ.out.2.2.2, hr, hd, hTa, hR, hN⟩
                clear hr hd hTa hR hN hHeld
                go_wp2_with fail
                go_meet
                exact HS3.out
              ·
                go_simp
                have hcl := cells_by9 w9 1 q
                have hs9 := hR.size
                have hEx := Eff.alloc w 93 w9 (.cells #[.int .i64 1, .bool q] 67)
                replace hr := hr.eff hEx (by decide)
                replace hd := hd.eff hEx (by decide)
                replace hT := hT.eff hEx (by decide) (by decide) (by decide)
                replace hN := hN.eff hEx (by decide)
                replace hR := hR.eff hEx
                clear hEx
                refine hK.out _ _ trivial (fun hHeld => ?_)
                clear hK KK
                try simp only [Act.put, List.setIfInBounds_toArray, List.set_cons_zero, List.set_cons_succ]
                refine wpAnyH_ready (rs := [1]) (by kernel_rfl) (by simp) ?_
                refine AllReadyH.cons rfl (fun KK hK => ?_) AllReadyH.nil
                obtain ⟨k0, k1, k2, k3⟩ := hd.v.cells
                go_simp
                clear k0 k1 k2 k3
                refine hK.out _ _ trivial (fun hHeld => ?_)
                clear hK KK
                try simp only [Act.put, List.setIfInBounds_toArray, List.set_cons_zero, List.set_cons_succ]
                refine wpAnyH_ready (rs := [6]) (by kernel_rfl) (by simp) ?_
                refine AllReadyH.cons rfl (fun KK hK => ?_) AllReadyH.nil
                rw [if_pos (by kernel_rfl)]
                refine wp_append_own _ (.tmp 59) (.tmp 63) 33 rfl w.heap.size 67 iB (.agg #[.int .i64 0, .bool false]) 2 16 Tryz.underlying33 hiB.1 hiB.2.1 hiB.2.2.1 hiB.2.2.2 rfl (by decide) _ _ _ rfl hT.pri ⟨w9.heap.size, 0, none⟩ 1 1 [.int .i64 1, .bool q] rfl rfl hcl (one_by9 _ _) (by unfold maxLen; omega) (by omega) (by first | omega | (simp; omega)) ?_
                intro vX wa hOX hgX hnX
                have hEx := Eff.grown hT.pri hgX
                obtain ⟨b9, c9, rfl⟩ := own_succG hOX
                have hTa := hT.setPri (D.np + 1) (upd D.pri D.np ⟨1, q⟩) (W' := wa) (v' := .slice (some ⟨b9, 0, none⟩) (D.np + 1) c9) (by rw [rowG_updB]; exact hOX) (own_eff hT.cols hEx (by decide)) (own_eff hT.idx hEx (by decide)) ⟨fun i hi => absurd hi (by have := HQ.out.2.2.2; omega), fun i hi => absurd hi (by have := HQ.out.2.2.2; omega)⟩ (by omega)
                replace hr := hr.eff hEx (by decide)
                replace hd := hd.eff hEx (by decide)
                replace hN := hN.eff hEx (by decide)
                replace hR := hR.eff hEx
                clear hEx hT hOX hgX hnX hcl
                refine hK.out _ _ trivial (fun hHeld => ?_)
                clear hK KK
                change wpAnyH _ _ _ _ _ _ _ (Act.put _ (some 64) _) _
                try simp only [Act.put, List.setIfInBounds_toArray, List.set_cons_zero, List.set_cons_succ]
                refine' wpAnyH_take (i := 7) (v := _) rfl (by kernel_rfl) (by kernel_rfl) (by kernel_rfl) (fun _ _ _ h => h) (Or.inl ⟨by kernel_rfl, ?hdp7⟩) (by assumption) ?rdp7
                case hdp7 => intro W hW; go_simp; all_goals with_reducible rfl
                change wpAnyH _ _ _ _ _ _ _ (Act.put _ (some 65) _) _
                simp only [Act.put, List.setIfInBounds_toArray, List.set_cons_zero, List.set_cons_succ]
                refine wpAnyH_ready (rs := [8]) (by kernel_rfl) (by simp) ?_
                refine AllReadyH.cons rfl (fun KK hK => ?_) AllReadyH.nil
                obtain ⟨k0, k1, k2, k3⟩ := hd.v.cells
                obtain ⟨z0, z1, z2, z3⟩ := hd.v.fz
                go_simp
                clear k0 k1 k2 k3 z0 z1 z2 z3
                have hEx := hd.effSet 2 (.slice (some ⟨b9, 0, none⟩) (D.np + 1) c9)
                replace hN := hN.eff hEx (by decide)
                replace hR := hR.eff hEx
                replace hTa := hTa.eff hEx (by decide) (by decide) (by decide)
                replace hr := hr.other (C := Bd) (i := 2) (u := .slice (some ⟨b9, 0, none⟩) (D.np + 1) c9) (by omega)
                replace hd := hd.set2 (.slice (some ⟨b9, 0, none⟩) (D.np + 1) c9)
                clear hEx
                refine hK.out _ _ trivial (fun hHeld => ?_)
                clear hK KK
                try simp only [Act.put, List.setIfInBounds_toArray, List.set_cons_zero, List.set_cons_succ]
                refine wpAnyH_done (by kernel_rfl) ?_ _
                have HS3 : Hid (St3R w g ao n cap f Bd bn s 2 false _) := ⟨bc, cc, b9, c9, { D with np := D.np + 1, pri := upd D.pri D.np ⟨1, q⟩ }, A, C, ⟨⟨HQ.out.1.1.1, HQ.out.1.1.2.1, HQ.out.1.1.2.2.two (by have := HQ.out.2.2.1; omega) (HQ.out.1.2 rfl) _ upd_new (fun i hi => upd_old hi)⟩, fun h => by cases h⟩, HQ.out.2.1, ⟨by show 1 ≤ D.np + 1; omega, by show D.np + 1 ≤ 2; omega⟩, HQ.out.2.2.2, hr, hd, hTa, hR, hN⟩
                clear hr hd hTa hR hN hHeld
                go_wp2_with fail
                go_meet
                exact HS3.out
      case rest =>
        clear HS1
        have HS3 : Hid (St3R w g ao n cap f Bd bn s 2 false wc) := hcut
        clear hcut
        go_wp2_with fail
        obtain ⟨bc, cc, bp, cp, D, A, C, e1, e2, e3, e4, hr, hd, hT, hR, hN⟩ := HS3.out
        have HQ : Hid (K3 D s false ∧ (2 ≤ D.nc ∧ D.nc ≤ 4) ∧ (1 ≤ D.np ∧ D.np ≤ 2) ∧ D.ni = 0) := ⟨e1, e2, e3, e4⟩
        clear e1 e2 e3 e4 HS3
        refine (l1Below_any g ao n cap f 3 _ hn (by omega) (by omega) hR.cur).mono ?_
        rintro e wq ⟨x, rfl, hx0, hx1, hCx, hOx⟩
        replace hr := hr.but (But.ofOnly hOx) hg
        replace hd := hd.but (But.ofOnly hOx) hg
        replace hT := hT.but (But.ofOnly hOx) hg
        replace hN := hN.but (But.ofOnly hOx) hg
        replace hR := hR.next hCx (But.ofOnly hOx)
        clear hCx hOx
        obtain ⟨M, rfl⟩ : ∃ M : Nat, x = M := ⟨x.toNat, by omega⟩
        have hS2 : St2R w g ao n cap f Bd bn s M wq := ⟨bc, cc, bp, cp, .slice none 0 0, D, A, C, ⟨HQ.out.1.1.1, HQ.out.1.1.2.1, HQ.out.1.1.2.2, fun _ => 0, fun i hi => absurd hi (by have := HQ.out.2.2.2; omega), fun i j _ hj => absurd hj (by have := HQ.out.2.2.2; omega)⟩, HQ.out.2.1, HQ.out.2.2.1, by have := HQ.out.2.2.2; omega, ⟨_, _, _, rfl⟩, hr, hd, hT, hR, hN⟩
        clear hr hd hT hR hN HQ
        go_wp2
        go_loopg [8] M (fun q i wr => ∃ k : Nat, k ≤ 2 ∧ q = k ∧ i = .int .i64 k ∧ St2R w g ao n cap f Bd bn s k wr)
        case atStart => exact ⟨M, by omega, rfl, rfl, hS2⟩
        case round =>
          clear hS2
          obtain ⟨_, hk, rfl, rfl, bc, cc, bp, cp, vi, D, A, C, e1, e2, e3, e4, hsl, hr, hd, hT, hR, hN⟩ := hrel
          have hnc4 : D.nc ≤ 4 := e2.2
          have hnc1 : 2 ≤ D.nc := e2.1
          have hni2 : D.ni ≤ 2 := by omega
          have HQ : Hid (K2 D s gk ∧ (2 ≤ D.nc ∧ D.nc ≤ 4) ∧ (1 ≤ D.np ∧ D.np ≤ 2) ∧ D.ni + gk ≤ 2) := ⟨e1, e2, e3, e4⟩
          clear e1 e2 e3 e4
          by_cases hlt : 0 < gk
          · have hkz : (gk : Int) > 0 := by omega
            have hk3 : (gk : Int) < 3 := by omega
            obtain ⟨nm, hnm, hnz⟩ := abc_atR (k := gk) (by omega)
            have HNM : Hid (abcR[gk]? = some nm) := hnm
            go_wp2_with fail
            as_aux_lemma =>
              have hEx : Eff w 93 wr wr.drew := Eff.ofBelow (Below.refl _ _).drew
              replace hr := hr.eff hEx (by decide)
              replace hd := hd.eff hEx (by decide)
              replace hT := hT.eff hEx (by decide) (by decide) (by decide)
              replace hN := hN.eff hEx (by decide)
              replace hR := hR.eff hEx
              clear hEx
              refine wp_region_held_drew (S := (fun W => W.cell? ⟨Bd, 1, none⟩ = some (.slice (some ⟨bc, 0, none⟩) D.nc cc) ∧ Txs w bn abcR W)) (by kernel_rfl) ⟨hd.v.cells.2.1, hN⟩ (fun hHeld => ?_)
              obtain ⟨wrd, hwrd⟩ : ∃ wrd, Hid (wrd = wr.drew) := ⟨_, rfl⟩
              rw [← hwrd.out] at hHeld hr hd hT hN hR ⊢
              refine' wpAnyH_take (i := 0) (v := _) rfl (by kernel_rfl) (by kernel_rfl) (by kernel_rfl) (fun _ _ _ h => h) (Or.inl ⟨by kernel_rfl, ?hdi1⟩) (by assumption) ?rdi1
              case hdi1 => intro W hW; obtain ⟨c1, hNN⟩ := hW; have cn := Txs.cell hNN hnm; go_simp; all_goals with_reducible rfl
              change wpAnyH _ _ _ _ _ _ _ (Act.put _ (some 72) _) _
              simp only [Act.put, List.setIfInBounds_toArray, List.set_cons_zero, List.set_cons_succ]
              refine' wpAnyH_take (i := 2) (v := _) rfl (by kernel_rfl) (by kernel_rfl) (by kernel_rfl) (fun _ _ _ h => h) (Or.inl ⟨by kernel_rfl, ?hdi2⟩) (by assumption) ?rdi2
              case hdi2 => intro W hW; obtain ⟨c1, hNN⟩ := hW; have cn := Txs.cell hNN hnm; go_simp; all_goals with_reducible rfl
              change wpAnyH _ _ _ _ _ _ _ (Act.put _ (some 74) _) _
              simp only [Act.put, List.setIfInBounds_toArray, List.set_cons_zero, List.set_cons_succ]
              refine' wpAnyH_take (i := 5) (v := _) rfl (by kernel_rfl) (by kernel_rfl) (by kernel_rfl) (fun _ _ _ h => h) (Or.inl ⟨by kernel_rfl, ?hdi3⟩) (by assumption) ?rdi3
              case hdi3 => intro W hW; obtain ⟨c1, hNN⟩ := hW; have cn := Txs.cell hNN hnm; go_simp; all_goals with_reducible rfl
              change wpAnyH _ _ _ _ _ _ _ (Act.put _ (some 77) _) _
              simp only [Act.put, List.setIfInBounds_toArray, List.set_cons_zero, List.set_cons_succ]
              refine' wpAnyH_take (i := 6) (v := _) rfl (by kernel_rfl) (by kernel_rfl) (by kernel_rfl) (fun _ _ _ h => h) (Or.inl ⟨by kernel_rfl, ?hdi4⟩) (by assumption) ?rdi4
              case hdi4 => intro W hW; obtain ⟨c1, hNN⟩ := hW; have cn := Txs.cell hNN hnm; go_simp; all_goals with_reducible rfl
              change wpAnyH _ _ _ _ _ _ _ (Act.put _ (some 78) _) _
              simp only [Act.put, List.setIfInBounds_toArray, List.set_cons_zero, List.set_cons_succ]
              refine' wpAnyH_take (i := 7) (v := _) rfl (by kernel_rfl) (by kernel_rfl) (by kernel_rfl) (fun _ _ _ h => h) (Or.inl ⟨by kernel_rfl, ?hdi5⟩) (by assumption) ?rdi5
              case hdi5 => intro W hW; obtain ⟨c1, hNN⟩ := hW; have cn := Txs.cell hNN hnm; go_simp; all_goals with_reducible rfl
              change wpAnyH _ _ _ _ _ _ _ (Act.put _ (some 79) _) _
              simp only [Act.put, List.setIfInBounds_toArray, List.set_cons_zero, List.set_cons_succ]
              refine' wpAnyH_take (i := 8) (v := _) rfl (by kernel_rfl) (by kernel_rfl) (by kernel_rfl) (fun _ _ _ h => h) (Or.inl ⟨by kernel_rfl, ?hdi6⟩) (by assumption) ?rdi6
              case hdi6 => intro W hW; obtain ⟨c1, hNN⟩ := hW; have cn := Txs.cell hNN hnm; go_simp; all_goals with_reducible rfl
              change wpAnyH _ _ _ _ _ _ _ (Act.put _ (some 80) _) _
              simp only [Act.put, List.setIfInBounds_toArray, List.set_cons_zero, List.set_cons_succ]
              refine' wpAnyH_take (i := 10) (v := _) rfl (by kernel_rfl) (by kernel_rfl) (by kernel_rfl) (fun _ _ _ h => h) (Or.inl ⟨by kernel_rfl, ?hdi7⟩) (by assumption) ?rdi7
              case hdi7 => intro W hW; obtain ⟨c1, hNN⟩ := hW; have cn := Txs.cell hNN hnm; go_simp; all_goals with_reducible rfl
              change wpAnyH _ _ _ _ _ _ _ (Act.put _ (some 82) _) _
              simp only [Act.put, List.setIfInBounds_toArray, List.set_cons_zero, List.set_cons_succ]
              refine' wpAnyH_take (i := 12) (v := _) rfl (by kernel_rfl) (by kernel_rfl) (by kernel_rfl) (fun _ _ _ h => h) (Or.inl ⟨by kernel_rfl, ?hdi8⟩) (by assumption) ?rdi8
              case hdi8 => intro W hW; obtain ⟨c1, hNN⟩ := hW; have cn := Txs.cell hNN hnm; go_simp; all_goals with_reducible rfl
              change wpAnyH _ _ _ _ _ _ _ (Act.put _ (some 84) _) _
              simp only [Act.put, List.setIfInBounds_toArray, List.set_cons_zero, List.set_cons_succ]
              refine' wpAnyH_take (i := 13) (v := _) rfl (by kernel_rfl) (by kernel_rfl) (by kernel_rfl) (fun _ _ _ h => h) (Or.inl ⟨by kernel_rfl, ?hdi9⟩) (by assumption) ?rdi9
              case hdi9 => intro W hW; obtain ⟨c1, hNN⟩ := hW; have cn := Txs.cell hNN hnm; go_simp; all_goals with_reducible rfl
              change wpAnyH _ _ _ _ _ _ _ (Act.put _ (some 85) _) _
              simp only [Act.put, List.setIfInBounds_toArray, List.set_cons_zero, List.set_cons_succ]
              refine' wpAnyH_take (i := 14) (v := _) rfl (by kernel_rfl) (by kernel_rfl) (by kernel_rfl) (fun _ _ _ h => h) (Or.inl ⟨by kernel_rfl, ?hdi10⟩) (by assumption) ?rdi10
              case hdi10 => intro W hW; obtain ⟨c1, hNN⟩ := hW; have cn := Txs.cell hNN hnm; go_simp; all_goals with_reducible rfl
              change wpAnyH _ _ _ _ _ _ _ (Act.put _ (some 86) _) _
              simp only [Act.put, List.setIfInBounds_toArray, List.set_cons_zero, List.set_cons_succ]
              refine' wpAnyH_take (i := 15) (v := _) rfl (by kernel_rfl) (by kernel_rfl) (by kernel_rfl) (fun _ _ _ h => h) (Or.inl ⟨by kernel_rfl, ?hdi11⟩) (by assumption) ?rdi11
              case hdi11 => intro W hW; obtain ⟨c1, hNN⟩ := hW; have cn := Txs.cell hNN hnm; go_simp; all_goals with_reducible rfl
              change wpAnyH _ _ _ _ _ _ _ (Act.put _ (some 87) _) _
              simp only [Act.put, List.setIfInBounds_toArray, List.set_cons_zero, List.set_cons_succ]
              refine wpAnyH_ready (rs := [1, 3]) (by kernel_rfl) (by simp) ?_
              refine AllReadyH.cons rfl (fun KK hK => ?_) (AllReadyH.cons rfl (fun KK hK => ?_) AllReadyH.nil)
              ·
                obtain ⟨k0, k1, k2, k3⟩ := hd.v.cells
                go_simp
                clear k0 k1 k2 k3
                refine hK.out _ _ ⟨hd.v.cells.2.1, hN⟩ (fun hHeld => ?_)
                clear hK KK
                try simp only [Act.put, List.setIfInBounds_toArray, List.set_cons_zero, List.set_cons_succ]
                refine wpAnyH_ready (rs := [3]) (by kernel_rfl) (by simp) ?_
                refine AllReadyH.cons rfl (fun KK hK => ?_) AllReadyH.nil
                go_simp
                have hEy := Eff.alloc w 93 wrd (.cells #[.string ⟨#[117]⟩, .string ⟨#[118]⟩] 9)
                refine hK.out _ _ ⟨(hd.eff hEy (by decide)).v.cells.2.1, hN.eff hEy (by decide)⟩ (fun hHeld => ?_)
                clear hK KK
                try simp only [Act.put, List.setIfInBounds_toArray, List.set_cons_zero, List.set_cons_succ]
                refine wpAnyH_ready (rs := [4]) (by kernel_rfl) (by simp) ?_
                refine AllReadyH.cons rfl (fun KK hK => ?_) AllReadyH.nil
                have hSt := l1Str_mem g ao n cap f uvR wrd.heap.size wrd rfl hn (by decide) (by decide) hR.cur
                unfold uvR at hSt
                go_simp
                refine hSt.mono ?_
                rintro e w6 ⟨z, rfl, hz, hCx, hBx⟩
                replace hr := hr.but hBx hg
                replace hd := hd.but hBx hg
                replace hT := hT.but hBx hg
                replace hN := hN.but hBx hg
                replace hR := hR.next hCx hBx
                have hzs : z.size ≤ 1 := uv_fewR z hz
                have HZ : Hid (z ∈ uvR) := hz
                clear hCx hBx hSt hz hEy
                have hzl : ¬ (z.size + nm.size > 9223372036854775807) := by omega
                go_wp2_with fail
                refine hK.out _ _ ⟨hd.v.cells.2.1, hN⟩ (fun hHeld => ?_)
                clear hK KK
                try simp only [Act.put, List.setIfInBounds_toArray, List.set_cons_zero, List.set_cons_succ]
                refine' wpAnyH_take (i := 9) (v := _) rfl (by kernel_rfl) (by kernel_rfl) (by kernel_rfl) (fun _ _ _ h => h) (Or.inl ⟨by kernel_rfl, ?hdi12⟩) (by assumption) ?rdi12
                case hdi12 => intro W hW; obtain ⟨c1, hNN⟩ := hW; have cn := Txs.cell hNN hnm; go_simp; all_goals with_reducible rfl
                change wpAnyH _ _ _ _ _ _ _ (Act.put _ (some 81) _) _
                simp only [Act.put, List.setIfInBounds_toArray, List.set_cons_zero, List.set_cons_succ]
                refine wpAnyH_ready (rs := [11]) (by kernel_rfl) (by simp) ?_
                refine AllReadyH.cons rfl (fun KK hK => ?_) AllReadyH.nil
                go_simp
                refine (l1Once_any g ao n cap f 2 _ hn (by omega) (by omega) hR.cur).mono ?_
                rintro e w7 ⟨u, rfl, hCx, hOx⟩
                replace hr := hr.but (But.ofOnly hOx) hg
                replace hd := hd.but (But.ofOnly hOx) hg
                replace hT := hT.but (But.ofOnly hOx) hg
                replace hN := hN.but (But.ofOnly hOx) hg
                replace hR := hR.next hCx (But.ofOnly hOx)
                clear hCx hOx
                go_wp2_with fail
                refine hK.out _ _ ⟨hd.v.cells.2.1, hN⟩ (fun hHeld => ?_)
                clear hK KK
                try simp only [Act.put, List.setIfInBounds_toArray, List.set_cons_zero, List.set_cons_succ]
                refine wpAnyH_ready (rs := [16]) (by kernel_rfl) (by simp) ?_
                refine AllReadyH.cons rfl (fun KK hK => ?_) AllReadyH.nil
                go_simp
                refine (l9Draw2R_any g ao n cap f (D.nc : Int) w7 hn (by omega) (by omega) hR.cur).mono ?_
                rintro e w8 ⟨b8, c8, N8, rfl, h8, hPR8, hO8, hC8, hB8⟩
                have hN8 := hPR8.1
                have HPR : Hid (PtR (D.nc : Int) N8 h8) := hPR8
                clear hPR8
                have hbp := (own_lt9 hT.pri).1
                have hb8 := (own_lt9 hO8).2
                have hP : PtAt w b8 c8 ⟨z ++ nm, u, N8, h8⟩ w8 := ⟨own_down9 hO8 hR.size⟩
                replace hr := hr.but hB8 hg
                replace hd := hd.but hB8 hg
                replace hT := hT.but hB8 hg
                replace hN := hN.but hB8 hg
                replace hR := hR.next hC8 hB8
                clear hC8 hB8 hO8
                go_wp2_with fail
                refine hK.out _ _ ⟨hd.v.cells.2.1, hN⟩ (fun hHeld => ?_)
                clear hK KK
                try simp only [Act.put, List.setIfInBounds_toArray, List.set_cons_zero, List.set_cons_succ]
                refine' wpAnyH_take (i := 17) (v := _) rfl (by kernel_rfl) (by kernel_rfl) (by kernel_rfl) (fun _ _ _ h => h) (Or.inl ⟨by kernel_rfl, ?hdi13⟩) (by assumption) ?rdi13
                case hdi13 => intro W hW; obtain ⟨c1, hNN⟩ := hW; have cn := Txs.cell hNN hnm; go_simp; all_goals with_reducible rfl
                change wpAnyH _ _ _ _ _ _ _ (Act.put _ (some 89) _) _
                simp only [Act.put, List.setIfInBounds_toArray, List.set_cons_zero, List.set_cons_succ]
                refine wpAnyH_ready (rs := [18]) (by kernel_rfl) (by simp) ?_
                refine AllReadyH.cons rfl (fun KK hK => ?_) AllReadyH.nil
                go_simp
                have hcl := cells_idx9 w8 (z ++ nm) u (some ⟨b8, 0, none⟩) N8 c8
                have hs8 := hR.size
                have hEx := Eff.alloc w 93 w8 (.cells #[.string (z ++ nm), .bool u, .slice (some ⟨b8, 0, none⟩) N8 c8] 48)
                replace hr := hr.eff hEx (by decide)
                replace hd := hd.eff hEx (by decide)
                replace hT := hT.eff hEx (by decide) (by decide) (by decide)
                replace hN := hN.eff hEx (by decide)
                replace hP : PtAt _ _ _ _ _ := ⟨own_eff hP.own hEx (by decide)⟩
                replace hR := hR.eff hEx
                clear hEx
                refine hK.out _ _ ⟨hd.v.cells.2.1, hN⟩ (fun hHeld => ?_)
                clear hK KK
                try simp only [Act.put, List.setIfInBounds_toArray, List.set_cons_zero, List.set_cons_succ]
                refine wpAnyH_ready (rs := [19]) (by kernel_rfl) (by simp) ?_
                refine AllReadyH.cons rfl (fun KK hK => ?_) AllReadyH.nil
                rw [if_pos (by kernel_rfl)]
                refine wp_append_own _ (.tmp 73) (.tmp 90) 34 rfl w.heap.size 48 iI (.agg #[.string ⟨#[]⟩, .bool false, .slice none 0 0]) 3 48 Tryz.underlying34 hiI.1 hiI.2.1 hiI.2.2.1 hiI.2.2.2 rfl (by decide) _ _ _ rfl hT.idx ⟨w8.heap.size, 0, none⟩ 1 1 [.string (z ++ nm), .bool u, .slice (some ⟨b8, 0, none⟩) N8 c8] rfl rfl hcl (one_idx9 _ _ _ _ _) (by unfold maxLen; omega) (by omega) (by first | omega | (simp; omega)) ?_
                intro vX w9 hOX hgX hnX
                have hEx := Eff.grown hT.idx hgX
                have hT9 := hT.addIdx ⟨z ++ nm, u, N8, h8⟩ b8 c8 hOX hP (by simp only [Value.ownBlock, ne_eq, Option.some.injEq]; omega) hEx ⟨by show (z ++ nm).size ≤ 1000; rw [ByteArray.size_append]; omega, by show N8 ≤ 1000; omega⟩ (by omega)
                obtain ⟨b9, c9, rfl⟩ := own_succG hOX
                replace hr := hr.eff hEx (by decide)
                replace hd := hd.eff hEx (by decide)
                replace hN := hN.eff hEx (by decide)
                replace hR := hR.eff hEx
                clear hEx hT hOX hgX hnX hcl hP
                refine hK.out _ _ ⟨hd.v.cells.2.1, hN⟩ (fun hHeld => ?_)
                clear hK KK
                change wpAnyH _ _ _ _ _ _ _ (Act.put _ (some 91) _) _
                try simp only [Act.put, List.setIfInBounds_toArray, List.set_cons_zero, List.set_cons_succ]
                refine' wpAnyH_take (i := 20) (v := _) rfl (by kernel_rfl) (by kernel_rfl) (by kernel_rfl) (fun _ _ _ h => h) (Or.inl ⟨by kernel_rfl, ?hdi14⟩) (by assumption) ?rdi14
                case hdi14 => intro W hW; obtain ⟨c1, hNN⟩ := hW; have cn := Txs.cell hNN hnm; go_simp; all_goals with_reducible rfl
                change wpAnyH _ _ _ _ _ _ _ (Act.put _ (some 92) _) _
                simp only [Act.put, List.setIfInBounds_toArray, List.set_cons_zero, List.set_cons_succ]
                refine wpAnyH_ready (rs := [21]) (by kernel_rfl) (by simp) ?_
                refine AllReadyH.cons rfl (fun KK hK => ?_) AllReadyH.nil
                obtain ⟨k0, k1, k2, k3⟩ := hd.v.cells
                obtain ⟨z0, z1, z2, z3⟩ := hd.v.fz
                go_simp
                clear k0 k1 k2 k3 z0 z1 z2 z3
                have hEx := hd.effSet 3 (.slice (some ⟨b9, 0, none⟩) (D.ni + 1) c9)
                replace hN := hN.eff hEx (by decide)
                replace hR := hR.eff hEx
                replace hT9 := hT9.eff hEx (by decide) (by decide) (by decide)
                replace hr := hr.other (C := Bd) (i := 3) (u := .slice (some ⟨b9, 0, none⟩) (D.ni + 1) c9) (by omega)
                replace hd := hd.set3 (.slice (some ⟨b9, 0, none⟩) (D.ni + 1) c9)
                clear hEx
                refine hK.out _ _ ⟨hd.v.cells.2.1, hN⟩ (fun hHeld => ?_)
                clear hK KK
                try simp only [Act.put, List.setIfInBounds_toArray, List.set_cons_zero, List.set_cons_succ]
                refine wpAnyH_done (by kernel_rfl) ?_ _
                have HS : Hid (St2R w g ao n cap f Bd bn s (gk - 1) _) := ⟨bc, cc, bp, cp, .slice (some ⟨b9, 0, none⟩) (D.ni + 1) c9, { D with ni := D.ni + 1, idx := upd D.idx D.ni ⟨z ++ nm, u, N8, h8⟩ }, upd A D.ni b8, upd C D.ni c8, ⟨HQ.out.1.1, HQ.out.1.2.1, HQ.out.1.2.2.1, HQ.out.1.2.2.2.add hlt (by omega) HZ.out HNM.out HPR.out _ upd_new (fun i hi => upd_old hi)⟩, HQ.out.2.1, HQ.out.2.2.1, by show D.ni + 1 + (gk - 1) ≤ 2; have := HQ.out.2.2.2; omega, ⟨_, _, _, rfl⟩, hr, hd, hT9, hR, hN⟩
                clear hr hd hT9 hR hN hHeld
                have hkk : (gk : Int) - 1 = ((gk - 1 : Nat) : Int) := by omega
                go_wp2
                go_roundg (gk - 1)
                case measure => omega
                case rel => exact ⟨gk - 1, by omega, rfl, by first | (rw [hkk]) | go_num | simp [hkk], HS.out⟩
              ·
                go_simp
                have hEy := Eff.alloc w 93 wrd (.cells #[.string ⟨#[117]⟩, .string ⟨#[118]⟩] 9)
                refine hK.out _ _ ⟨(hd.eff hEy (by decide)).v.cells.2.1, hN.eff hEy (by decide)⟩ (fun hHeld => ?_)
                clear hK KK
                try simp only [Act.put, List.setIfInBounds_toArray, List.set_cons_zero, List.set_cons_succ]
                refine wpAnyH_ready (rs := [1, 4]) (by kernel_rfl) (by simp) ?_
                refine AllReadyH.cons rfl (fun KK hK => ?_) (AllReadyH.cons rfl (fun KK hK => ?_) AllReadyH.nil)
                ·
                  obtain ⟨k0, k1, k2, k3⟩ := (hd.eff hEy (by decide)).v.cells
                  go_simp
                  clear k0 k1 k2 k3
                  refine hK.out _ _ ⟨(hd.eff hEy (by decide)).v.cells.2.1, hN.eff hEy (by decide)⟩ (fun hHeld => ?_)
                  clear hK KK
                  try simp only [Act.put, List.setIfInBounds_toArray, List.set_cons_zero, List.set_cons_succ]
                  refine wpAnyH_ready (rs := [4]) (by kernel_rfl) (by simp) ?_
                  refine AllReadyH.cons rfl (fun KK hK => ?_) AllReadyH.nil
                  have hSt := l1Str_mem g ao n cap f uvR wrd.heap.size wrd rfl hn (by decide) (by decide) hR.cur
                  unfold uvR at hSt
                  go_simp
                  refine hSt.mono ?_
                  rintro e w6 ⟨z, rfl, hz, hCx, hBx⟩
                  replace hr := hr.but hBx hg
                  replace hd := hd.but hBx hg
                  replace hT := hT.but hBx hg
                  replace hN := hN.but hBx hg
                  replace hR := hR.next hCx hBx
                  have hzs : z.size ≤ 1 := uv_fewR z hz
                  have HZ : Hid (z ∈ uvR) := hz
                  clear hCx hBx hSt hz hEy
                  have hzl : ¬ (z.size + nm.size > 9223372036854775807) := by omega
                  go_wp2_with fail
                  refine hK.out _ _ ⟨hd.v.cells.2.1, hN⟩ (fun hHeld => ?_)
                  clear hK KK
                  try simp only [Act.put, List.setIfInBounds_toArray, List.set_cons_zero, List.set_cons_succ]
                  refine' wpAnyH_take (i := 9) (v := _) rfl (by kernel_rfl) (by kernel_rfl) (by kernel_rfl) (fun _ _ _ h => h) (Or.inl ⟨by kernel_rfl, ?hdi15⟩) (by assumption) ?rdi15
                  case hdi15 => intro W hW; obtain ⟨c1, hNN⟩ := hW; have cn := Txs.cell hNN hnm; go_simp; all_goals with_reducible rfl
                  change wpAnyH _ _ _ _ _ _ _ (Act.put _ (some 81) _) _
                  simp only [Act.put, List.setIfInBounds_toArray, List.set_cons_zero, List.set_cons_succ]
                  refine wpAnyH_ready (rs := [11]) (by kernel_rfl) (by simp) ?_
                  refine AllReadyH.cons rfl (fun KK hK => ?_) AllReadyH.nil
                  go_simp
                  refine (l1Once_any g ao n cap f 2 _ hn (by omega) (by omega) hR.cur).mono ?_
                  rintro e w7 ⟨u, rfl, hCx, hOx⟩
                  replace hr := hr.but (But.ofOnly hOx) hg
                  replace hd := hd.but (But.ofOnly hOx) hg
                  replace hT := hT.but (But.ofOnly hOx) hg
                  replace hN := hN.but (But.ofOnly hOx) hg
                  replace hR := hR.next hCx (But.ofOnly hOx)
                  clear hCx hOx
                  go_wp2_with fail
                  refine hK.out _ _ ⟨hd.v.cells.2.1, hN⟩ (fun hHeld => ?_)
                  clear hK KK
                  try simp only [Act.put, List.setIfInBounds_toArray, List.set_cons_zero, List.set_cons_succ]
                  refine wpAnyH_ready (rs := [16]) (by kernel_rfl) (by simp) ?_
                  refine AllReadyH.cons rfl (fun KK hK => ?_) AllReadyH.nil
                  go_simp
                  refine (l9Draw2R_any g ao n cap f (D.nc : Int) w7 hn (by omega) (by omega) hR.cur).mono ?_
                  rintro e w8 ⟨b8, c8, N8, rfl, h8, hPR8, hO8, hC8, hB8⟩
                  have hN8 := hPR8.1
                  have HPR : Hid (PtR (D.nc : Int) N8 h8) := hPR8
                  clear hPR8
                  have hbp := (own_lt9 hT.pri).1
                  have hb8 := (own_lt9 hO8).2
                  have hP : PtAt w b8 c8 ⟨z ++ nm, u, N8, h8⟩ w8 := ⟨own_down9 hO8 hR.size⟩
                  replace hr := hr.but hB8 hg
                  replace hd := hd.but hB8 hg
                  replace hT := hT.but hB8 hg
                  replace hN := hN.but hB8 hg
                  replace hR := hR.next hC8 hB8
                  clear hC8 hB8 hO8
                  go_wp2_with fail
                  refine hK.out _ _ ⟨hd.v.cells.2.1, hN⟩ (fun hHeld => ?_)
                  clear hK KK
                  try simp only [Act.put, List.setIfInBounds_toArray, List.set_cons_zero, List.set_cons_succ]
                  refine' wpAnyH_take (i := 17) (v := _) rfl (by kernel_rfl) (by kernel_rfl) (by kernel_rfl) (fun _ _ _ h => h) (Or.inl ⟨by kernel_rfl, ?hdi16⟩) (by assumption) ?rdi16
                  case hdi16 => intro W hW; obtain ⟨c1, hNN⟩ := hW; have cn := Txs.cell hNN hnm; go_simp; all_goals with_reducible rfl
                  change wpAnyH _ _ _ _ _ _ _ (Act.put _ (some 89) _) _
                  simp only [Act.put, List.setIfInBounds_toArray, List.set_cons_zero, List.set_cons_succ]
                  refine wpAnyH_ready (rs := [18]) (by kernel_rfl) (by simp) ?_
                  refine AllReadyH.cons rfl (fun KK hK => ?_) AllReadyH.nil
                  go_simp
                  have hcl := cells_idx9 w8 (z ++ nm) u (some ⟨b8, 0, none⟩) N8 c8
                  have hs8 := hR.size
                  have hEx := Eff.alloc w 93 w8 (.cells #[.string (z ++ nm), .bool u, .slice (some ⟨b8, 0, none⟩) N8 c8] 48)
                  replace hr := hr.eff hEx (by decide)
                  replace hd := hd.eff hEx (by decide)
                  replace hT := hT.eff hEx (by decide) (by decide) (by decide)
                  replace hN := hN.eff hEx (by decide)
                  replace hP : PtAt _ _ _ _ _ := ⟨own_eff hP.own hEx (by decide)⟩
                  replace hR := hR.eff hEx
                  clear hEx
                  refine hK.out _ _ ⟨hd.v.cells.2.1, hN⟩ (fun hHeld => ?_)
                  clear hK KK
                  try simp only [Act.put, List.setIfInBounds_toArray, List.set_cons_zero, List.set_cons_succ]
                  refine wpAnyH_ready (rs := [19]) (by kernel_rfl) (by simp) ?_
                  refine AllReadyH.cons rfl (fun KK hK => ?_) AllReadyH.nil
                  rw [if_pos (by kernel_rfl)]
                  refine wp_append_own _ (.tmp 73) (.tmp 90) 34 rfl w.heap.size 48 iI (.agg #[.string ⟨#[]⟩, .bool false, .slice none 0 0]) 3 48 Tryz.underlying34 hiI.1 hiI.2.1 hiI.2.2.1 hiI.2.2.2 rfl (by decide) _ _ _ rfl hT.idx ⟨w8.heap.size, 0, none⟩ 1 1 [.string (z ++ nm), .bool u, .slice (some ⟨b8, 0, none⟩) N8 c8] rfl rfl hcl (one_idx9 _ _ _ _ _) (by unfold maxLen; omega) (by omega) (by first | omega | (simp; omega)) ?_
                  intro vX w9 hOX hgX hnX
                  have hEx := Eff.grown hT.idx hgX
                  have hT9 := hT.addIdx ⟨z ++ nm, u, N8, h8⟩ b8 c8 hOX hP (by simp only [Value.ownBlock, ne_eq, Option.some.injEq]; omega) hEx ⟨by show (z ++ nm).size ≤ 1000; rw [ByteArray.size_append]; omega, by show N8 ≤ 1000; omega⟩ (by omega)
                  obtain ⟨b9, c9, rfl⟩ := own_succG hOX
                  replace hr := hr.eff hEx (by decide)
                  replace hd := hd.eff hEx (by decide)
                  replace hN := hN.eff hEx (by decide)
                  replace hR := hR.eff hEx
                  clear hEx hT hOX hgX hnX hcl hP
                  refine hK.out _ _ ⟨hd.v.cells.2.1, hN⟩ (fun hHeld => ?_)
                  clear hK KK
                  change wpAnyH _ _ _ _ _ _ _ (Act.put _ (some 91) _) _
                  try simp only [Act.put, List.setIfInBounds_toArray, List.set_cons_zero, List.set_cons_succ]
                  refine' wpAnyH_take (i := 20) (v := _) rfl (by kernel_rfl) (by kernel_rfl) (by kernel_rfl) (fun _ _ _ h => h) (Or.inl ⟨by kernel_rfl, ?hdi17⟩) (by assumption) ?rdi17
                  case hdi17 => intro W hW; obtain ⟨c1, hNN⟩ := hW; have cn := Txs.cell hNN hnm; go_simp; all_goals with_reducible rfl
                  change wpAnyH _ _ _ _ _ _ _ (Act.put _ (some 92) _) _
                  simp only [Act.put, List.setIfInBounds_toArray, List.set_cons_zero, List.set_cons_succ]
                  refine wpAnyH_ready (rs := [21]) (by kernel_rfl) (by simp) ?_
                  refine AllReadyH.cons rfl (fun KK hK => ?_) AllReadyH.nil
                  obtain ⟨k0, k1, k2, k3⟩ := hd.v.cells
                  obtain ⟨z0, z1, z2, z3⟩ := hd.v.fz
                  go_simp
                  clear k0 k1 k2 k3 z0 z1 z2 z3
                  have hEx := hd.effSet 3 (.slice (some ⟨b9, 0, none⟩) (D.ni + 1) c9)
                  replace hN := hN.eff hEx (by decide)
                  replace hR := hR.eff hEx
                  replace hT9 := hT9.eff hEx (by decide) (by decide) (by decide)
                  replace hr := hr.other (C := Bd) (i := 3) (u := .slice (some ⟨b9, 0, none⟩) (D.ni + 1) c9) (by omega)
                  replace hd := hd.set3 (.slice (some ⟨b9, 0, none⟩) (D.ni + 1) c9)
                  clear hEx
                  refine hK.out _ _ ⟨hd.v.cells.2.1, hN⟩ (fun hHeld => ?_)
                  clear hK KK
                  try simp only [Act.put, List.setIfInBounds_toArray, List.set_cons_zero, List.set_cons_succ]
                  refine wpAnyH_done (by kernel_rfl) ?_ _
                  have HS : Hid (St2R w g ao n cap f Bd bn s (gk - 1) _) := ⟨bc, cc, bp, cp, .slice (some ⟨b9, 0, none⟩) (D.ni + 1) c9, { D with ni := D.ni + 1, idx := upd D.idx D.ni ⟨z ++ nm, u, N8, h8⟩ }, upd A D.ni b8, upd C D.ni c8, ⟨HQ.out.1.1, HQ.out.1.2.1, HQ.out.1.2.2.1, HQ.out.1.2.2.2.add hlt (by omega) HZ.out HNM.out HPR.out _ upd_new (fun i hi => upd_old hi)⟩, HQ.out.2.1, HQ.out.2.2.1, by show D.ni + 1 + (gk - 1) ≤ 2; have := HQ.out.2.2.2; omega, ⟨_, _, _, rfl⟩, hr, hd, hT9, hR, hN⟩
                  clear hr hd hT9 hR hN hHeld
                  have hkk : (gk : Int) - 1 = ((gk - 1 : Nat) : Int) := by omega
                  go_wp2
                  go_roundg (gk - 1)
                  case measure => omega
                  case rel => exact ⟨gk - 1, by omega, rfl, by first | (rw [hkk]) | go_num | simp [hkk], HS.out⟩
                ·
                  have hSt := l1Str_mem g ao n cap f uvR wrd.heap.size wrd rfl hn (by decide) (by decide) hR.cur
                  unfold uvR at hSt
                  go_simp
                  refine hSt.mono ?_
                  rintro e w6 ⟨z, rfl, hz, hCx, hBx⟩
                  replace hr := hr.but hBx hg
                  replace hd := hd.but hBx hg
                  replace hT := hT.but hBx hg
                  replace hN := hN.but hBx hg
                  replace hR := hR.next hCx hBx
                  have hzs : z.size ≤ 1 := uv_fewR z hz
                  have HZ : Hid (z ∈ uvR) := hz
                  clear hCx hBx hSt hz hEy
                  have hzl : ¬ (z.size + nm.size > 9223372036854775807) := by omega
                  go_wp2_with fail
                  refine hK.out _ _ ⟨hd.v.cells.2.1, hN⟩ (fun hHeld => ?_)
                  clear hK KK
                  try simp only [Act.put, List.setIfInBounds_toArray, List.set_cons_zero, List.set_cons_succ]
                  refine' wpAnyH_take (i := 9) (v := _) rfl (by kernel_rfl) (by kernel_rfl) (by kernel_rfl) (fun _ _ _ h => h) (Or.inl ⟨by kernel_rfl, ?hdi18⟩) (by assumption) ?rdi18
                  case hdi18 => intro W hW; obtain ⟨c1, hNN⟩ := hW; have cn := Txs.cell hNN hnm; go_simp; all_goals with_reducible rfl
                  change wpAnyH _ _ _ _ _ _ _ (Act.put _ (some 81) _) _
                  simp only [Act.put, List.setIfInBounds_toArray, List.set_cons_zero, List.set_cons_succ]
                  refine wpAnyH_ready (rs := [1, 11]) (by kernel_rfl) (by simp) ?_
                  refine AllReadyH.cons rfl (fun KK hK => ?_) (AllReadyH.cons rfl (fun KK hK => ?_) AllReadyH.nil)
                  ·
                    obtain ⟨k0, k1, k2, k3⟩ := hd.v.cells
                    go_simp
                    clear k0 k1 k2 k3
                    refine hK.out _ _ ⟨hd.v.cells.2.1, hN⟩ (fun hHeld => ?_)
                    clear hK KK
                    try simp only [Act.put, List.setIfInBounds_toArray, List.set_cons_zero, List.set_cons_succ]
                    refine wpAnyH_ready (rs := [11]) (by kernel_rfl) (by simp) ?_
                    refine AllReadyH.cons rfl (fun KK hK => ?_) AllReadyH.nil
                    go_simp
                    refine (l1Once_any g ao n cap f 2 _ hn (by omega) (by omega) hR.cur).mono ?_
                    rintro e w7 ⟨u, rfl, hCx, hOx⟩
                    replace hr := hr.but (But.ofOnly hOx) hg
                    replace hd := hd.but (But.ofOnly hOx) hg
                    replace hT := hT.but (But.ofOnly hOx) hg
                    replace hN := hN.but (But.ofOnly hOx) hg
                    replace hR := hR.next hCx (But.ofOnly hOx)
                    clear hCx hOx
                    go_wp2_with fail
                    refine hK.out _ _ ⟨hd.v.cells.2.1, hN⟩ (fun hHeld => ?_)
                    clear hK KK
                    try simp only [Act.put, List.setIfInBounds_toArray, List.set_cons_zero, List.set_cons_succ]
                    refine wpAnyH_ready (rs := [16]) (by kernel_rfl) (by simp) ?_
                    refine AllReadyH.cons rfl (fun KK hK => ?_) AllReadyH.nil
                    go_simp
                    refine (l9Draw2R_any g ao n cap f (D.nc : Int) w7 hn (by omega) (by omega) hR.cur).mono ?_
                    rintro e w8 ⟨b8, c8, N8, rfl, h8, hPR8, hO8, hC8, hB8⟩
                    have hN8 := hPR8.1
                    have HPR : Hid (PtR (D.nc : Int) N8 h8) := hPR8
                    clear hPR8
                    have hbp := (own_lt9 hT.pri).1
                    have hb8 := (own_lt9 hO8).2
                    have hP : PtAt w b8 c8 ⟨z ++ nm, u, N8, h8⟩ w8 := ⟨own_down9 hO8 hR.size⟩
                    replace hr := hr.but hB8 hg
                    replace hd := hd.but hB8 hg
                    replace hT := hT.but hB8 hg
                    replace hN := hN.but hB8 hg
                    replace hR := hR.next hC8 hB8
                    clear hC8 hB8 hO8
                    go_wp2_with fail
                    refine hK.out _ _ ⟨hd.v.cells.2.1, hN⟩ (fun hHeld => ?_)
                    clear hK KK
                    try simp only [Act.put, List.setIfInBounds_toArray, List.set_cons_zero, List.set_cons_succ]
                    refine' wpAnyH_take (i := 17) (v := _) rfl (by kernel_rfl) (by kernel_rfl) (by kernel_rfl) (fun _ _ _ h => h) (Or.inl ⟨by kernel_rfl, ?hdi19⟩) (by assumption) ?rdi19
                    case hdi19 => intro W hW; obtain ⟨c1, hNN⟩ := hW; have cn := Txs.cell hNN hnm; go_simp; all_goals with_reducible rfl
                    change wpAnyH _ _ _ _ _ _ _ (Act.put _ (some 89) _) _
                    simp only [Act.put, List.setIfInBounds_toArray, List.set_cons_zero, List.set_cons_succ]
                    refine wpAnyH_ready (rs := [18]) (by kernel_rfl) (by simp) ?_
                    refine AllReadyH.cons rfl (fun KK hK => ?_) AllReadyH.nil
                    go_simp
                    have hcl := cells_idx9 w8 (z ++ nm) u (some ⟨b8, 0, none⟩) N8 c8
                    have hs8 := hR.size
                    have hEx := Eff.alloc w 93 w8 (.cells #[.string (z ++ nm), .bool u, .slice (some ⟨b8, 0, none⟩) N8 c8] 48)
                    replace hr := hr.eff hEx (by decide)
                    replace hd := hd.eff hEx (by decide)
                    replace hT := hT.eff hEx (by decide) (by decide) (by decide)
                    replace hN := hN.eff hEx (by decide)
                    replace hP : PtAt _ _ _ _ _ := ⟨own_eff hP.own hEx (by decide)⟩
                    replace hR := hR.eff hEx
                    clear hEx
                    refine hK.out _ _ ⟨hd.v.cells.2.1, hN⟩ (fun hHeld => ?_)
                    clear hK KK
                    try simp only [Act.put, List.setIfInBounds_toArray, List.set_cons_zero, List.set_cons_succ]
                    refine wpAnyH_ready (rs := [19]) (by kernel_rfl) (by simp) ?_
                    refine AllReadyH.cons rfl (fun KK hK => ?_) AllReadyH.nil
                    rw [if_pos (by kernel_rfl)]
                    refine wp_append_own _ (.tmp 73) (.tmp 90) 34 rfl w.heap.size 48 iI (.agg #[.string ⟨#[]⟩, .bool false, .slice none 0 0]) 3 48 Tryz.underlying34 hiI.1 hiI.2.1 hiI.2.2.1 hiI.2.2.2 rfl (by decide) _ _ _ rfl hT.idx ⟨w8.heap.size, 0, none⟩ 1 1 [.string (z ++ nm), .bool u, .slice (some ⟨b8, 0, none⟩) N8 c8] rfl rfl hcl (one_idx9 _ _ _ _ _) (by unfold maxLen; omega) (by omega) (by first | omega | (simp; omega)) ?_
                    intro vX w9 hOX hgX hnX
                    have hEx := Eff.grown hT.idx hgX
                    have hT9 := hT.addIdx ⟨z ++ nm, u, N8, h8⟩ b8 c8 hOX hP (by simp only [Value.ownBlock, ne_eq, Option.some.injEq]; omega) hEx ⟨by show (z ++ nm).size ≤ 1000; rw [ByteArray.size_append]; omega, by show N8 ≤ 1000; omega⟩ (by omega)
                    obtain ⟨b9, c9, rfl⟩ := own_succG hOX
                    replace hr := hr.eff hEx (by decide)
                    replace hd := hd.eff hEx (by decide)
                    replace hN := hN.eff hEx (by decide)
                    replace hR := hR.eff hEx
                    clear hEx hT hOX hgX hnX hcl hP
                    refine hK.out _ _ ⟨hd.v.cells.2.1, hN⟩ (fun hHeld => ?_)
                    clear hK KK
                    change wpAnyH _ _ _ _ _ _ _ (Act.put _ (some 91) _) _
                    try simp only [Act.put, List.setIfInBounds_toArray, List.set_cons_zero, List.set_cons_succ]
                    refine' wpAnyH_take (i := 20) (v := _) rfl (by kernel_rfl) (by kernel_rfl) (by kernel_rfl) (fun _ _ _ h => h) (Or.inl ⟨by kernel_rfl, ?hdi20⟩) (by assumption) ?rdi20
                    case hdi20 => intro W hW; obtain ⟨c1, hNN⟩ := hW; have cn := Txs.cell hNN hnm; go_simp; all_goals with_reducible rfl
                    change wpAnyH _ _ _ _ _ _ _ (Act.put _ (some 92) _) _
                    simp only [Act.put, List.setIfInBounds_toArray, List.set_cons_zero, List.set_cons_succ]
                    refine wpAnyH_ready (rs := [21]) (by kernel_rfl) (by simp) ?_
                    refine AllReadyH.cons rfl (fun KK hK => ?_) AllReadyH.nil
                    obtain ⟨k0, k1, k2, k3⟩ := hd.v.cells
                    obtain ⟨z0, z1, z2, z3⟩ := hd.v.fz
                    go_simp
                    clear k0 k1 k2 k3 z0 z1 z2 z3
                    have hEx := hd.effSet 3 (.slice (some ⟨b9, 0, none⟩) (D.ni + 1) c9)
                    replace hN := hN.eff hEx (by decide)
                    replace hR := hR.eff hEx
                    replace hT9 := hT9.eff hEx (by decide) (by decide) (by decide)
                    replace hr := hr.other (C := Bd) (i := 3) (u := .slice (some ⟨b9, 0, none⟩) (D.ni + 1) c9) (by omega)
                    replace hd := hd.set3 (.slice (some ⟨b9, 0, none⟩) (D.ni + 1) c9)
                    clear hEx
                    refine hK.out _ _ ⟨hd.v.cells.2.1, hN⟩ (fun hHeld => ?_)
                    clear hK KK
                    try simp only [Act.put, List.setIfInBounds_toArray, List.set_cons_zero, List.set_cons_succ]
                    refine wpAnyH_done (by kernel_rfl) ?_ _
                    have HS : Hid (St2R w g ao n cap f Bd bn s (gk - 1) _) := ⟨bc, cc, bp, cp, .slice (some ⟨b9, 0, none⟩) (D.ni + 1) c9, { D with ni := D.ni + 1, idx := upd D.idx D.ni ⟨z ++ nm, u, N8, h8⟩ }, upd A D.ni b8, upd C D.ni c8, ⟨HQ.out.1.1, HQ.out.1.2.1, HQ.out.1.2.2.1, HQ.out.1.2.2.2.add hlt (by omega) HZ.out HNM.out HPR.out _ upd_new (fun i hi => upd_old hi)⟩, HQ.out.2.1, HQ.out.2.2.1, by show D.ni + 1 + (gk - 1) ≤ 2; have := HQ.out.2.2.2; omega, ⟨_, _, _, rfl⟩, hr, hd, hT9, hR, hN⟩
                    clear hr hd hT9 hR hN hHeld
                    have hkk : (gk : Int) - 1 = ((gk - 1 : Nat) : Int) := by omega
                    go_wp2
                    go_roundg (gk - 1)
                    case measure => omega
                    case rel => exact ⟨gk - 1, by omega, rfl, by first | (rw [hkk]) | go_num | simp [hkk], HS.out⟩
                  ·
                    go_simp
                    refine (l1Once_any g ao n cap f 2 _ hn (by omega) (by omega) hR.cur).mono ?_
                    rintro e w7 ⟨u, rfl, hCx, hOx⟩
                    replace hr := hr.but (But.ofOnly hOx) hg
                    replace hd := hd.but (But.ofOnly hOx) hg
                    replace hT := hT.but (But.ofOnly hOx) hg
                    replace hN := hN.but (But.ofOnly hOx) hg
                    replace hR := hR.next hCx (But.ofOnly hOx)
                    clear hCx hOx
                    go_wp2_with fail
                    refine hK.out _ _ ⟨hd.v.cells.2.1, hN⟩ (fun hHeld => ?_)
                    clear hK KK
                    try simp only [Act.put, List.setIfInBounds_toArray, List.set_cons_zero, List.set_cons_succ]
                    refine wpAnyH_ready (rs := [1, 16]) (by kernel_rfl) (by simp) ?_
                    refine AllReadyH.cons rfl (fun KK hK => ?_) (AllReadyH.cons rfl (fun KK hK => ?_) AllReadyH.nil)
                    ·
                      obtain ⟨k0, k1, k2, k3⟩ := hd.v.cells
                      go_simp
                      clear k0 k1 k2 k3
                      refine hK.out _ _ ⟨hd.v.cells.2.1, hN⟩ (fun hHeld => ?_)
                      clear hK KK
                      try simp only [Act.put, List.setIfInBounds_toArray, List.set_cons_zero, List.set_cons_succ]
                      refine wpAnyH_ready (rs := [16]) (by kernel_rfl) (by simp) ?_
                      refine AllReadyH.cons rfl (fun KK hK => ?_) AllReadyH.nil
                      go_simp
                      refine (l9Draw2R_any g ao n cap f (D.nc : Int) w7 hn (by omega) (by omega) hR.cur).mono ?_
                      rintro e w8 ⟨b8, c8, N8, rfl, h8, hPR8, hO8, hC8, hB8⟩
                      have hN8 := hPR8.1
                      have HPR : Hid (PtR (D.nc : Int) N8 h8) := hPR8
                      clear hPR8
                      have hbp := (own_lt9 hT.pri).1
                      have hb8 := (own_lt9 hO8).2
                      have hP : PtAt w b8 c8 ⟨z ++ nm, u, N8, h8⟩ w8 := ⟨own_down9 hO8 hR.size⟩
                      replace hr := hr.but hB8 hg
                      replace hd := hd.but hB8 hg
                      replace hT := hT.but hB8 hg
                      replace hN := hN.but hB8 hg
                      replace hR := hR.next hC8 hB8
                      clear hC8 hB8 hO8
                      go_wp2_with fail
                      refine hK.out _ _ ⟨hd.v.cells.2.1, hN⟩ (fun hHeld => ?_)
                      clear hK KK
                      try simp only [Act.put, List.setIfInBounds_toArray, List.set_cons_zero, List.set_cons_succ]
                      refine' wpAnyH_take (i := 17) (v := _) rfl (by kernel_rfl) (by kernel_rfl) (by kernel_rfl) (fun _ _ _ h => h) (Or.inl ⟨by kernel_rfl, ?hdi21⟩) (by assumption) ?rdi21
                      case hdi21 => intro W hW; obtain ⟨c1, hNN⟩ := hW; have cn := Txs.cell hNN hnm; go_simp; all_goals with_reducible rfl
                      change wpAnyH _ _ _ _ _ _ _ (Act.put _ (some 89) _) _
                      simp only [Act.put, List.setIfInBounds_toArray, List.set_cons_zero, List.set_cons_succ]
                      refine wpAnyH_ready (rs := [18]) (by kernel_rfl) (by simp) ?_
                      refine AllReadyH.cons rfl (fun KK hK => ?_) AllReadyH.nil
                      go_simp
                      have hcl := cells_idx9 w8 (z ++ nm) u (some ⟨b8, 0, none⟩) N8 c8
                      have hs8 := hR.size
                      have hEx := Eff.alloc w 93 w8 (.cells #[.string (z ++ nm), .bool u, .slice (some ⟨b8, 0, none⟩) N8 c8] 48)
                      replace hr := hr.eff hEx (by decide)
                      replace hd := hd.eff hEx (by decide)
                      replace hT := hT.eff hEx (by decide) (by decide) (by decide)
                      replace hN := hN.eff hEx (by decide)
                      replace hP : PtAt _ _ _ _ _ := ⟨own_eff hP.own hEx (by decide)⟩
                      replace hR := hR.eff hEx
                      clear hEx
                      refine hK.out _ _ ⟨hd.v.cells.2.1, hN⟩ (fun hHeld => ?_)
                      clear hK KK
                      try simp only [Act.put, List.setIfInBounds_toArray, List.set_cons_zero, List.set_cons_succ]
                      refine wpAnyH_ready (rs := [19]) (by kernel_rfl) (by simp) ?_
                      refine AllReadyH.cons rfl (fun KK hK => ?_) AllReadyH.nil
                      rw [if_pos (by kernel_rfl)]
                      refine wp_append_own _ (.tmp 73) (.tmp 90) 34 rfl w.heap.size 48 iI (.agg #[.string ⟨#[]⟩, .bool false, .slice none 0 0]) 3 48 Tryz.underlying34 hiI.1 hiI.2.1 hiI.2.2.1 hiI.2.2.2 rfl (by decide) _ _ _ rfl hT.idx ⟨w8.heap.size, 0, none⟩ 1 1 [.string (z ++ nm), .bool u, .slice (some ⟨b8, 0, none⟩) N8 c8] rfl rfl hcl (one_idx9 _ _ _ _ _) (by unfold maxLen; omega) (by omega) (by first | omega | (simp; omega)) ?_
                      intro vX w9 hOX hgX hnX
                      have hEx := Eff.grown hT.idx hgX
                      have hT9 := hT.addIdx ⟨z ++ nm, u, N8, h8⟩ b8 c8 hOX hP (by simp only [Value.ownBlock, ne_eq, Option.some.injEq]; omega) hEx ⟨by show (z ++ nm).size ≤ 1000; rw [ByteArray.size_append]; omega, by show N8 ≤ 1000; omega⟩ (by omega)
                      obtain ⟨b9, c9, rfl⟩ := own_succG hOX
                      replace hr := hr.eff hEx (by decide)
                      replace hd := hd.eff hEx (by decide)
                      replace hN := hN.eff hEx (by decide)
                      replace hR := hR.eff hEx
                      clear hEx hT hOX hgX hnX hcl hP
                      refine hK.out _ _ ⟨hd.v.cells.2.1, hN⟩ (fun hHeld => ?_)
                      clear hK KK
                      change wpAnyH _ _ _ _ _ _ _ (Act.put _ (some 91) _) _
                      try simp only [Act.put, List.setIfInBounds_toArray, List.set_cons_zero, List.set_cons_succ]
                      refine' wpAnyH_take (i := 20) (v := _) rfl (by kernel_rfl) (by kernel_rfl) (by kernel_rfl) (fun _ _ _ h => h) (Or.inl ⟨by kernel_rfl, ?hdi22⟩) (by assumption) ?rdi22
                      case hdi22 => intro W hW; obtain ⟨c1, hNN⟩ := hW; have cn := Txs.cell hNN hnm; go_simp; all_goals with_reducible rfl
                      change wpAnyH _ _ _ _ _ _ _ (Act.put _ (some 92) _) _
                      simp only [Act.put, List.setIfInBounds_toArray, List.set_cons_zero, List.set_cons_succ]
                      refine wpAnyH_ready (rs := [21]) (by kernel_rfl) (by simp) ?_
                      refine AllReadyH.cons rfl (fun KK hK => ?_) AllReadyH.nil
                      obtain ⟨k0, k1, k2, k3⟩ := hd.v.cells
                      obtain ⟨z0, z1, z2, z3⟩ := hd.v.fz
                      go_simp
                      clear k0 k1 k2 k3 z0 z1 z2 z3
                      have hEx := hd.effSet 3 (.slice (some ⟨b9, 0, none⟩) (D.ni + 1) c9)
                      replace hN := hN.eff hEx (by decide)
                      replace hR := hR.eff hEx
                      replace hT9 := hT9.eff hEx (by decide) (by decide) (by decide)
                      replace hr := hr.other (C := Bd) (i := 3) (u := .slice (some ⟨b9, 0, none⟩) (D.ni + 1) c9) (by omega)
                      replace hd := hd.set3 (.slice (some ⟨b9, 0, none⟩) (D.ni + 1) c9)
                      clear hEx
                      refine hK.out _ _ ⟨hd.v.cells.2.1, hN⟩ (fun hHeld => ?_)
                      clear hK KK
                      try simp only [Act.put, List.setIfInBounds_toArray, List.set_cons_zero, List.set_cons_succ]
                      refine wpAnyH_done (by kernel_rfl) ?_ _
                      have HS : Hid (St2R w g ao n cap f Bd bn s (gk - 1) _) := ⟨bc, cc, bp, cp, .slice (some ⟨b9, 0, none⟩) (D.ni + 1) c9, { D with ni := D.ni + 1, idx := upd D.idx D.ni ⟨z ++ nm, u, N8, h8⟩ }, upd A D.ni b8, upd C D.ni c8, ⟨HQ.out.1.1, HQ.out.1.2.1, HQ.out.1.2.2.1, HQ.out.1.2.2.2.add hlt (by omega) HZ.out HNM.out HPR.out _ upd_new (fun i hi => upd_old hi)⟩, HQ.out.2.1, HQ.out.2.2.1, by show D.ni + 1 + (gk - 1) ≤ 2; have := HQ.out.2.2.2; omega, ⟨_, _, _, rfl⟩, hr, hd, hT9, hR, hN⟩
                      clear hr hd hT9 hR hN hHeld
                      have hkk : (gk : Int) - 1 = ((gk - 1 : Nat) : Int) := by omega
                      go_wp2
                      go_roundg (gk - 1)
                      case measure => omega
                      case rel => exact ⟨gk - 1, by omega, rfl, by first | (rw [hkk]) | go_num | simp [hkk], HS.out⟩
                    ·
                      go_simp
                      refine (l9Draw2R_any g ao n cap f (D.nc : Int) w7 hn (by omega) (by omega) hR.cur).mono ?_
                      rintro e w8 ⟨b8, c8, N8, rfl, h8, hPR8, hO8, hC8, hB8⟩
                      have hN8 := hPR8.1
                      have HPR : Hid (PtR (D.nc : Int) N8 h8) := hPR8
                      clear hPR8
                      have hbp := (own_lt9 hT.pri).1
                      have hb8 := (own_lt9 hO8).2
                      have hP : PtAt w b8 c8 ⟨z ++ nm, u, N8, h8⟩ w8 := ⟨own_down9 hO8 hR.size⟩
                      replace hr := hr.but hB8 hg
                      replace hd := hd.but hB8 hg
                      replace hT := hT.but hB8 hg
                      replace hN := hN.but hB8 hg
                      replace hR := hR.next hC8 hB8
                      clear hC8 hB8 hO8
                      go_wp2_with fail
                      refine hK.out _ _ ⟨hd.v.cells.2.1, hN⟩ (fun hHeld => ?_)
                      clear hK KK
                      try simp only [Act.put, List.setIfInBounds_toArray, List.set_cons_zero, List.set_cons_succ]
                      refine' wpAnyH_take (i := 17) (v := _) rfl (by kernel_rfl) (by kernel_rfl) (by kernel_rfl) (fun _ _ _ h => h) (Or.inl ⟨by kernel_rfl, ?hdi23⟩) (by assumption) ?rdi23
                      case hdi23 => intro W hW; obtain ⟨c1, hNN⟩ := hW; have cn := Txs.cell hNN hnm; go_simp; all_goals with_reducible rfl
                      change wpAnyH _ _ _ _ _ _ _ (Act.put _ (some 89) _) _
                      simp only [Act.put, List.setIfInBounds_toArray, List.set_cons_zero, List.set_cons_succ]
                      refine wpAnyH_ready (rs := [1, 18]) (by kernel_rfl) (by simp) ?_
                      refine AllReadyH.cons rfl (fun KK hK => ?_) (AllReadyH.cons rfl (fun KK hK => ?_) AllReadyH.nil)
                      ·
                        obtain ⟨k0, k1, k2, k3⟩ := hd.v.cells
                        go_simp
                        clear k0 k1 k2 k3
                        refine hK.out _ _ ⟨hd.v.cells.2.1, hN⟩ (fun hHeld => ?_)
                        clear hK KK
                        try simp only [Act.put, List.setIfInBounds_toArray, List.set_cons_zero, List.set_cons_succ]
                        refine wpAnyH_ready (rs := [18]) (by kernel_rfl) (by simp) ?_
                        refine AllReadyH.cons rfl (fun KK hK => ?_) AllReadyH.nil
                        go_simp
                        have hcl := cells_idx9 w8 (z ++ nm) u (some ⟨b8, 0, none⟩) N8 c8
                        have hs8 := hR.size
                        have hEx := Eff.alloc w 93 w8 (.cells #[.string (z ++ nm), .bool u, .slice (some ⟨b8, 0, none⟩) N8 c8] 48)
                        replace hr := hr.eff hEx (by decide)
                        replace hd := hd.eff hEx (by decide)
                        replace hT := hT.eff hEx (by decide) (by decide) (by decide)
                        replace hN := hN.eff hEx (by decide)
                        replace hP : PtAt _ _ _ _ _ := ⟨own_eff hP.own hEx (by decide)⟩
                        replace hR := hR.eff hEx
                        clear hEx
                        refine hK.out _ _ ⟨hd.v.cells.2.1, hN⟩ (fun hHeld => ?_)
                        clear hK KK
                        try simp only [Act.put, List.setIfInBounds_toArray, List.set_cons_zero, List.set_cons_succ]
                        refine wpAnyH_ready (rs := [19]) (by kernel_rfl) (by simp) ?_
                        refine AllReadyH.cons rfl (fun KK hK => ?_) AllReadyH.nil
                        rw [if_pos (by kernel_rfl)]
                        refine wp_append_own _ (.tmp 73) (.tmp 90) 34 rfl w.heap.size 48 iI (.agg #[.string ⟨#[]⟩, .bool false, .slice none 0 0]) 3 48 Tryz.underlying34 hiI.1 hiI.2.1 hiI.2.2.1 hiI.2.2.2 rfl (by decide) _ _ _ rfl hT.idx ⟨w8.heap.size, 0, none⟩ 1 1 [.string (z ++ nm), .bool u, .slice (some ⟨b8, 0, none⟩) N8 c8] rfl rfl hcl (one_idx9 _ _ _ _ _) (by unfold maxLen; omega) (by omega) (by first | omega | (simp; omega)) ?_
                        intro vX w9 hOX hgX hnX
                        have hEx := Eff.grown hT.idx hgX
                        have hT9 := hT.addIdx ⟨z ++ nm, u, N8, h8⟩ b8 c8 hOX hP (by simp only [Value.ownBlock, ne_eq, Option.some.injEq]; omega) hEx ⟨by show (z ++ nm).size ≤ 1000; rw [ByteArray.size_append]; omega, by show N8 ≤ 1000; omega⟩ (by omega)
                        obtain ⟨b9, c9, rfl⟩ := own_succG hOX
                        replace hr := hr.eff hEx (by decide)
                        replace hd := hd.eff hEx (by decide)
                        replace hN := hN.eff hEx (by decide)
                        replace hR := hR.eff hEx
                        clear hEx hT hOX hgX hnX hcl hP
                        refine hK.out _ _ ⟨hd.v.cells.2.1, hN⟩ (fun hHeld => ?_)
                        clear hK KK
                        change wpAnyH _ _ _ _ _ _ _ (Act.put _ (some 91) _) _
                        try simp only [Act.put, List.setIfInBounds_toArray, List.set_cons_zero, List.set_cons_succ]
                        refine' wpAnyH_take (i := 20) (v := _) rfl (by kernel_rfl) (by kernel_rfl) (by kernel_rfl) (fun _ _ _ h => h) (Or.inl ⟨by kernel_rfl, ?hdi24⟩) (by assumption) ?rdi24
                        case hdi24 => intro W hW; obtain ⟨c1, hNN⟩ := hW; have cn := Txs.cell hNN hnm; go_simp; all_goals with_reducible rfl
                        change wpAnyH _ _ _ _ _ _ _ (Act.put _ (some 92) _) _
                        simp only [Act.put, List.setIfInBounds_toArray, List.set_cons_zero, List.set_cons_succ]
                        refine wpAnyH_ready (rs := [21]) (by kernel_rfl) (by simp) ?_
                        refine AllReadyH.cons rfl (fun KK hK => ?_) AllReadyH.nil
                        obtain ⟨k0, k1, k2, k3⟩ := hd.v.cells
                        obtain ⟨z0, z1, z2, z3⟩ := hd.v.fz
                        go_simp
                        clear k0 k1 k2 k3 z0 z1 z2 z3
                        have hEx := hd.effSet 3 (.slice (some ⟨b9, 0, none⟩) (D.ni + 1) c9)
                        replace hN := hN.eff hEx (by decide)
                        replace hR := hR.eff hEx
                        replace hT9 := hT9.eff hEx (by decide) (by decide) (by decide)
                        replace hr := hr.other (C := Bd) (i := 3) (u := .slice (some ⟨b9, 0, none⟩) (D.ni + 1) c9) (by omega)
                        replace hd := hd.set3 (.slice (some ⟨b9, 0, none⟩) (D.ni + 1) c9)
                        clear hEx
                        refine hK.out _ _ ⟨hd.v.cells.2.1, hN⟩ (fun hHeld => ?_)
                        clear hK KK
                        try simp only [Act.put, List.setIfInBounds_toArray, List.set_cons_zero, List.set_cons_succ]
                        refine wpAnyH_done (by kernel_rfl) ?_ _
                        have HS : Hid (St2R w g ao n cap f Bd bn s (gk - 1) _) := ⟨bc, cc, bp, cp, .slice (some ⟨b9, 0, none⟩) (D.ni + 1) c9, { D with ni := D.ni + 1, idx := upd D.idx D.ni ⟨z ++ nm, u, N8, h8⟩ }, upd A D.ni b8, upd C D.ni c8, ⟨HQ.out.1.1, HQ.out.1.2.1, HQ.out.1.2.2.1, HQ.out.1.2.2.2.add hlt (by omega) HZ.out HNM.out HPR.out _ upd_new (fun i hi => upd_old hi)⟩, HQ.out.2.1, HQ.out.2.2.1, by show D.ni + 1 + (gk - 1) ≤ 2; have := HQ.out.2.2.2; omega, ⟨_, _, _, rfl⟩, hr, hd, hT9, hR, hN⟩
                        clear hr hd hT9 hR hN hHeld
                        have hkk : (gk : Int) - 1 = ((gk - 1 : Nat) : Int) := by omega
                        go_wp2
                        go_roundg (gk - 1)
                        case measure => omega
                        case rel => exact ⟨gk - 1, by omega, rfl, by first | (rw [hkk]) | go_num | simp [hkk], HS.out⟩
                      ·
                        go_simp
                        have hcl := cells_idx9 w8 (z ++ nm) u (some ⟨b8, 0, none⟩) N8 c8
                        have hs8 := hR.size
                        have hEx := Eff.alloc w 93 w8 (.cells #[.string (z ++ nm), .bool u, .slice (some ⟨b8, 0, none⟩) N8 c8] 48)
                        replace hr := hr.eff hEx (by decide)
                        replace hd := hd.eff hEx (by decide)
                        replace hT := hT.eff hEx (by decide) (by decide) (by decide)
                        replace hN := hN.eff hEx (by decide)
                        replace hP : PtAt _ _ _ _ _ := ⟨own_eff hP.own hEx (by decide)⟩
                        replace hR := hR.eff hEx
                        clear hEx
                        refine hK.out _ _ ⟨hd.v.cells.2.1, hN⟩ (fun hHeld => ?_)
                        clear hK KK
                        try simp only [Act.put, List.setIfInBounds_toArray, List.set_cons_zero, List.set_cons_succ]
                        refine wpAnyH_ready (rs := [1]) (by kernel_rfl) (by simp) ?_
                        refine AllReadyH.cons rfl (fun KK hK => ?_) AllReadyH.nil
                        obtain ⟨k0, k1, k2, k3⟩ := hd.v.cells
                        go_simp
                        clear k0 k1 k2 k3
                        refine hK.out _ _ ⟨hd.v.cells.2.1, hN⟩ (fun hHeld => ?_)
                        clear hK KK
                        try simp only [Act.put, List.setIfInBounds_toArray, List.set_cons_zero, List.set_cons_succ]
                        refine wpAnyH_ready (rs := [19]) (by kernel_rfl) (by simp) ?_
                        refine AllReadyH.cons rfl (fun KK hK => ?_) AllReadyH.nil
                        rw [if_pos (by kernel_rfl)]
                        refine wp_append_own _ (.tmp 73) (.tmp 90) 34 rfl w.heap.size 48 iI (.agg #[.string ⟨#[]⟩, .bool false, .slice none 0 0]) 3 48 Tryz.underlying34 hiI.1 hiI.2.1 hiI.2.2.1 hiI.2.2.2 rfl (by decide) _ _ _ rfl hT.idx ⟨w8.heap.size, 0, none⟩ 1 1 [.string (z ++ nm), .bool u, .slice (some ⟨b8, 0, none⟩) N8 c8] rfl rfl hcl (one_idx9 _ _ _ _ _) (by unfold maxLen; omega) (by omega) (by first | omega | (simp; omega)) ?_
                        intro vX w9 hOX hgX hnX
                        have hEx := Eff.grown hT.idx hgX
                        have hT9 := hT.addIdx ⟨z ++ nm, u, N8, h8⟩ b8 c8 hOX hP (by simp only [Value.ownBlock, ne_eq, Option.some.injEq]; omega) hEx ⟨by show (z ++ nm).size ≤ 1000; rw [ByteArray.size_append]; omega, by show N8 ≤ 1000; omega⟩ (by omega)
                        obtain ⟨b9, c9, rfl⟩ := own_succG hOX
                        replace hr := hr.eff hEx (by decide)
                        replace hd := hd.eff hEx (by decide)
                        replace hN := hN.eff hEx (by decide)
                        replace hR := hR.eff hEx
                        clear hEx hT hOX hgX hnX hcl hP
                        refine hK.out _ _ ⟨hd.v.cells.2.1, hN⟩ (fun hHeld => ?_)
                        clear hK KK
                        change wpAnyH _ _ _ _ _ _ _ (Act.put _ (some 91) _) _
                        try simp only [Act.put, List.setIfInBounds_toArray, List.set_cons_zero, List.set_cons_succ]
                        refine' wpAnyH_take (i := 20) (v := _) rfl (by kernel_rfl) (by kernel_rfl) (by kernel_rfl) (fun _ _ _ h => h) (Or.inl ⟨by kernel_rfl, ?hdi25⟩) (by assumption) ?rdi25
                        case hdi25 => intro W hW; obtain ⟨c1, hNN⟩ := hW; have cn := Txs.cell hNN hnm; go_simp; all_goals with_reducible rfl
                        change wpAnyH _ _ _ _ _ _ _ (Act.put _ (some 92) _) _
                        simp only [Act.put, List.setIfInBounds_toArray, List.set_cons_zero, List.set_cons_succ]
                        refine wpAnyH_ready (rs := [21]) (by kernel_rfl) (by simp) ?_
                        refine AllReadyH.cons rfl (fun KK hK => ?_) AllReadyH.nil
                        obtain ⟨k0, k1, k2, k3⟩ := hd.v.cells
                        obtain ⟨z0, z1, z2, z3⟩ := hd.v.fz
                        go_simp
                        clear k0 k1 k2 k3 z0 z1 z2 z3
                        have hEx := hd.effSet 3 (.slice (some ⟨b9, 0, none⟩) (D.ni + 1) c9)
                        replace hN := hN.eff hEx (by decide)
                        replace hR := hR.eff hEx
                        replace hT9 := hT9.eff hEx (by decide) (by decide) (by decide)
                        replace hr := hr.other (C := Bd) (i := 3) (u := .slice (some ⟨b9, 0, none⟩) (D.ni + 1) c9) (by omega)
                        replace hd := hd.set3 (.slice (some ⟨b9, 0, none⟩) (D.ni + 1) c9)
                        clear hEx
                        refine hK.out _ _ ⟨hd.v.cells.2.1, hN⟩ (fun hHeld => ?_)
                        clear hK KK
                        try simp only [Act.put, List.setIfInBounds_toArray, List.set_cons_zero, List.set_cons_succ]
                        refine wpAnyH_done (by kernel_rfl) ?_ _
                        have HS : Hid (St2R w g ao n cap f Bd bn s (gk - 1) _) := ⟨bc, cc, bp, cp, .slice (some ⟨b9, 0, none⟩) (D.ni + 1) c9, { D with ni := D.ni + 1, idx := upd D.idx D.ni ⟨z ++ nm, u, N8, h8⟩ }, upd A D.ni b8, upd C D.ni c8, ⟨HQ.out.1.1, HQ.out.1.2.1, HQ.out.1.2.2.1, HQ.out.1.2.2.2.add hlt (by omega) HZ.out HNM.out HPR.out _ upd_new (fun i hi => upd_old hi)⟩, HQ.out.2.1, HQ.out.2.2.1, by show D.ni + 1 + (gk - 1) ≤ 2; have := HQ.out.2.2.2; omega, ⟨_, _, _, rfl⟩, hr, hd, hT9, hR, hN⟩
                        clear hr hd hT9 hR hN hHeld
                        have hkk : (gk : Int) - 1 = ((gk - 1 : Nat) : Int) := by omega
                        go_wp2
                        go_roundg (gk - 1)
                        case measure => omega
                        case rel => exact ⟨gk - 1, by omega, rfl, by first | (rw [hkk]) | go_num | simp [hkk], HS.out⟩
          · have hkz : ¬ (gk : Int) > 0 := by omega
            obtain ⟨ia, nn, ic, rfl⟩ := hsl
            obtain ⟨x0, x1, x2, x3⟩ := hd.v.cells
            obtain ⟨p0, p1, p2, p3⟩ := hr.v.cells
            obtain ⟨z0, z1, z2, z3⟩ := hr.v.fz
            obtain ⟨g0, g1, g2, g3⟩ := ((((hr.set0 (.string s)).set1 (.slice (some ⟨bc, 0, none⟩) D.nc cc)).set2 (.slice (some ⟨bp, 0, none⟩) D.np cp)).set3 (.slice ia nn ic)).v.cells
            have q1 := hr.effSet 0 (.string s)
            have q2 := (hr.set0 (.string s)).effSet 1 (.slice (some ⟨bc, 0, none⟩) D.nc cc)
            have q3 := ((hr.set0 (.string s)).set1 (.slice (some ⟨bc, 0, none⟩) D.nc cc)).effSet 2 (.slice (some ⟨bp, 0, none⟩) D.np cp)
            have q4 := (((hr.set0 (.string s)).set1 (.slice (some ⟨bc, 0, none⟩) D.nc cc)).set2 (.slice (some ⟨bp, 0, none⟩) D.np cp)).effSet 3 (.slice ia nn ic)
            have hE := ((q1.trans q2).trans q3).trans q4
            have HD : Hid (DrewDR w g ao n cap f s bc cc bp cp D.nc D.np (.slice ia nn ic) _) := ⟨D, A, C, HQ.out.1.zero (by omega), rfl, rfl, HQ.out.2.1, HQ.out.2.2.1, hni2, ⟨_, _, _, rfl⟩, hT.eff hE (by decide) (by decide) (by decide), hR.eff hE⟩
            have hRB2 : ¬ (Bd = w.heap.size) := by omega
            clear q1 q2 q3 q4 hE hr hd hT hR hN HQ
            go_wp2
            exact bodyPost_ret (v := .agg #[.string s, .slice (some ⟨bc, 0, none⟩) D.nc cc, .slice (some ⟨bp, 0, none⟩) D.np cp, .slice ia nn ic]) (by simp [results, Tryz.results54, go_sem, g0, g1, g2, g3]) rfl ⟨bc, cc, bp, cp, D.nc, D.np, _, rfl, HD.out⟩
  clear hKE
  go_loopg [7] 3 (fun q i wr => ∃ k : Nat, k ≤ 3 ∧ q = 3 - k ∧ i = .int .i64 k ∧ St1R w g ao n cap f Bd bn s k wr)
  case atStart => exact ⟨0, by omega, rfl, rfl, hS1⟩
  case round =>
    clear hS1 hbn hBd
    obtain ⟨k, hk, rfl, rfl, bc, cc, D, A, C, e1, e2, e3, e4, hr, hd, hT, hR, hN⟩ := hrel
    have hnc4 : D.nc ≤ 4 := by omega
    have hnc1 : 1 ≤ D.nc := by omega
    have E2 : Hid (K1 D s ∧ D.nc = 1 + k ∧ D.np = 0 ∧ D.ni = 0) := ⟨e1, e2, e3, e4⟩
    clear e1 e2 e3 e4
    go_wp2_with fail
    refine (l1Below_any g ao n cap f 3 wr hn (by omega) (by omega) hR.cur).mono ?_
    rintro e w5 ⟨x, rfl, hx0, hx1, hCx, hOx⟩
    replace hr := hr.but (But.ofOnly hOx) hg
    replace hd := hd.but (But.ofOnly hOx) hg
    replace hT := hT.but (But.ofOnly hOx) hg
    replace hN := hN.but (But.ofOnly hOx) hg
    replace hR := hR.next hCx (But.ofOnly hOx)
    clear hCx hOx
    by_cases h1 : (k : Int) < 1 + x
    · by_cases h2 : (k : Int) < 3
      · obtain ⟨nm, hnm, hnz⟩ := abc_atR (k := k) (by omega)
        have HNM : Hid (abcR[k]? = some nm) := hnm
        go_wp2_with fail
        as_aux_lemma =>
          have hEx : Eff w 93 w5 w5.drew := Eff.ofBelow (Below.refl _ _).drew
          replace hr := hr.eff hEx (by decide)
          replace hd := hd.eff hEx (by decide)
          replace hT := hT.eff hEx (by decide) (by decide) (by decide)
          replace hN := hN.eff hEx (by decide)
          replace hR := hR.eff hEx
          clear hEx
          refine wp_region_held_drew (S := (Txs w bn abcR)) (by kernel_rfl) hN (fun hHeld => ?_)
          obtain ⟨w5d, hw5d⟩ : ∃ w5d, Hid (w5d = w5.drew) := ⟨_, rfl⟩
          rw [← hw5d.out] at hHeld hr hd hT hN hR ⊢
          refine' wpAnyH_take (i := 0) (v := _) rfl (by kernel_rfl) (by kernel_rfl) (by kernel_rfl) (fun _ _ _ h => h) (Or.inl ⟨by kernel_rfl, ?hdc1⟩) (by assumption) ?rdc1
          case hdc1 => intro W hW; have cn := Txs.cell hW hnm; go_simp; all_goals with_reducible rfl
          change wpAnyH _ _ _ _ _ _ _ (Act.put _ (some 28) _) _
          simp only [Act.put, List.setIfInBounds_toArray, List.set_cons_zero, List.set_cons_succ]
          refine' wpAnyH_take (i := 2) (v := _) rfl (by kernel_rfl) (by kernel_rfl) (by kernel_rfl) (fun _ _ _ h => h) (Or.inl ⟨by kernel_rfl, ?hdc2⟩) (by assumption) ?rdc2
          case hdc2 => intro W hW; have cn := Txs.cell hW hnm; go_simp; all_goals with_reducible rfl
          change wpAnyH _ _ _ _ _ _ _ (Act.put _ (some 30) _) _
          simp only [Act.put, List.setIfInBounds_toArray, List.set_cons_zero, List.set_cons_succ]
          refine' wpAnyH_take (i := 3) (v := _) rfl (by kernel_rfl) (by kernel_rfl) (by kernel_rfl) (fun _ _ _ h => h) (Or.inl ⟨by kernel_rfl, ?hdc3⟩) (by assumption) ?rdc3
          case hdc3 => intro W hW; have cn := Txs.cell hW hnm; go_simp; all_goals with_reducible rfl
          change wpAnyH _ _ _ _ _ _ _ (Act.put _ (some 31) _) _
          simp only [Act.put, List.setIfInBounds_toArray, List.set_cons_zero, List.set_cons_succ]
          refine' wpAnyH_take (i := 4) (v := _) rfl (by kernel_rfl) (by kernel_rfl) (by kernel_rfl) (fun _ _ _ h => h) (Or.inl ⟨by kernel_rfl, ?hdc4⟩) (by assumption) ?rdc4
          case hdc4 => intro W hW; have cn := Txs.cell hW hnm; go_simp; all_goals with_reducible rfl
          change wpAnyH _ _ _ _ _ _ _ (Act.put _ (some 32) _) _
          simp only [Act.put, List.setIfInBounds_toArray, List.set_cons_zero, List.set_cons_succ]
          refine' wpAnyH_take (i := 5) (v := _) rfl (by kernel_rfl) (by kernel_rfl) (by kernel_rfl) (fun _ _ _ h => h) (Or.inl ⟨by kernel_rfl, ?hdc5⟩) (by assumption) ?rdc5
          case hdc5 => intro W hW; have cn := Txs.cell hW hnm; go_simp; all_goals with_reducible rfl
          change wpAnyH _ _ _ _ _ _ _ (Act.put _ (some 33) _) _
          simp only [Act.put, List.setIfInBounds_toArray, List.set_cons_zero, List.set_cons_succ]
          refine' wpAnyH_take (i := 6) (v := _) rfl (by kernel_rfl) (by kernel_rfl) (by kernel_rfl) (fun _ _ _ h => h) (Or.inl ⟨by kernel_rfl, ?hdc6⟩) (by assumption) ?rdc6
          case hdc6 => intro W hW; have cn := Txs.cell hW hnm; go_simp; all_goals with_reducible rfl
          change wpAnyH _ _ _ _ _ _ _ (Act.put _ (some 34) _) _
          simp only [Act.put, List.setIfInBounds_toArray, List.set_cons_zero, List.set_cons_succ]
          refine' wpAnyH_take (i := 9) (v := _) rfl (by kernel_rfl) (by kernel_rfl) (by kernel_rfl) (fun _ _ _ h => h) (Or.inl ⟨by kernel_rfl, ?hdc7⟩) (by assumption) ?rdc7
          case hdc7 => intro W hW; have cn := Txs.cell hW hnm; go_simp; all_goals with_reducible rfl
          change wpAnyH _ _ _ _ _ _ _ (Act.put _ (some 37) _) _
          simp only [Act.put, List.setIfInBounds_toArray, List.set_cons_zero, List.set_cons_succ]
          refine wpAnyH_ready (rs := [1, 7]) (by kernel_rfl) (by simp) ?_
          refine AllReadyH.cons rfl (fun KK hK => ?_) (AllReadyH.cons rfl (fun KK hK => ?_) AllReadyH.nil)
          ·
            obtain ⟨k0, k1, k2, k3⟩ := hd.v.cells
            go_simp
            clear k0 k1 k2 k3
            refine hK.out _ _ hN (fun hHeld => ?_)
            clear hK KK
            try simp only [Act.put, List.setIfInBounds_toArray, List.set_cons_zero, List.set_cons_succ]
            refine wpAnyH_ready (rs := [7]) (by kernel_rfl) (by simp) ?_
            refine AllReadyH.cons rfl (fun KK hK => ?_) AllReadyH.nil
            go_simp
            refine (l1Below_any g ao n cap f 4 _ hn (by omega) (by omega) hR.cur).mono ?_
            rintro e w6 ⟨y, rfl, hy0, hy1, hCx, hOx⟩
            replace hr := hr.but (But.ofOnly hOx) hg
            replace hd := hd.but (But.ofOnly hOx) hg
            replace hT := hT.but (But.ofOnly hOx) hg
            replace hN := hN.but (But.ofOnly hOx) hg
            replace hR := hR.next hCx (But.ofOnly hOx)
            clear hCx hOx
            have hwy : IntKind.i64.wrap (1 + y) = 1 + y := by rw [IntKind.wrap_i64]; omega
            go_wp2_with fail
            refine hK.out _ _ hN (fun hHeld => ?_)
            clear hK KK
            try simp only [Act.put, List.setIfInBounds_toArray, List.set_cons_zero, List.set_cons_succ]
            refine' wpAnyH_take (i := 8) (v := _) rfl (by kernel_rfl) (by kernel_rfl) (by kernel_rfl) (fun _ _ _ h => h) (Or.inl ⟨by kernel_rfl, ?hdc8⟩) (by assumption) ?rdc8
            case hdc8 => intro W hW; have cn := Txs.cell hW hnm; go_simp; all_goals with_reducible rfl
            change wpAnyH _ _ _ _ _ _ _ (Act.put _ (some 36) _) _
            simp only [Act.put, List.setIfInBounds_toArray, List.set_cons_zero, List.set_cons_succ]
            refine wpAnyH_ready (rs := [10]) (by kernel_rfl) (by simp) ?_
            refine AllReadyH.cons rfl (fun KK hK => ?_) AllReadyH.nil
            go_simp
            refine (l1Once_any g ao n cap f 2 _ hn (by omega) (by omega) hR.cur).mono ?_
            rintro e w7 ⟨nl, rfl, hCx, hOx⟩
            replace hr := hr.but (But.ofOnly hOx) hg
            replace hd := hd.but (But.ofOnly hOx) hg
            replace hT := hT.but (But.ofOnly hOx) hg
            replace hN := hN.but (But.ofOnly hOx) hg
            replace hR := hR.next hCx (But.ofOnly hOx)
            clear hCx hOx
            go_wp2_with fail
            refine hK.out _ _ hN (fun hHeld => ?_)
            clear hK KK
            try simp only [Act.put, List.setIfInBounds_toArray, List.set_cons_zero, List.set_cons_succ]
            refine' wpAnyH_take (i := 11) (v := _) rfl (by kernel_rfl) (by kernel_rfl) (by kernel_rfl) (fun _ _ _ h => h) (Or.inl ⟨by kernel_rfl, ?hdc9⟩) (by assumption) ?rdc9
            case hdc9 => intro W hW; have cn := Txs.cell hW hnm; go_simp; all_goals with_reducible rfl
            change wpAnyH _ _ _ _ _ _ _ (Act.put _ (some 39) _) _
            simp only [Act.put, List.setIfInBounds_toArray, List.set_cons_zero, List.set_cons_succ]
            refine wpAnyH_ready (rs := [12]) (by kernel_rfl) (by simp) ?_
            refine AllReadyH.cons rfl (fun KK hK => ?_) AllReadyH.nil
            go_simp
            have hcl := cells_col9 w7 nm (1 + y) nl
            have hs7 := hR.size
            have hEx := Eff.alloc w 93 w7 (.cells #[.string nm, .int .i64 (1 + y), .bool nl] 90)
            replace hr := hr.eff hEx (by decide)
            replace hd := hd.eff hEx (by decide)
            replace hT := hT.eff hEx (by decide) (by decide) (by decide)
            replace hN := hN.eff hEx (by decide)
            replace hR := hR.eff hEx
            clear hEx
            refine hK.out _ _ hN (fun hHeld => ?_)
            clear hK KK
            try simp only [Act.put, List.setIfInBounds_toArray, List.set_cons_zero, List.set_cons_succ]
            refine wpAnyH_ready (rs := [13]) (by kernel_rfl) (by simp) ?_
            refine AllReadyH.cons rfl (fun KK hK => ?_) AllReadyH.nil
            rw [if_pos (by kernel_rfl)]
            refine wp_append_own _ (.tmp 29) (.tmp 40) 32 rfl w.heap.size 90 iC (.agg #[.string ⟨#[]⟩, .int .i64 0, .bool false]) 3 32 Tryz.underlying32 hiC.1 hiC.2.1 hiC.2.2.1 hiC.2.2.2 rfl (by decide) _ _ _ rfl hT.cols ⟨w7.heap.size, 0, none⟩ 1 1 [.string nm, .int .i64 (1 + y), .bool nl] rfl rfl hcl (one_col9 _ _ _) (by unfold maxLen; omega) (by omega) (by first | omega | (simp; omega)) ?_
            intro vX w8 hOX hgX hnX
            have hEx := Eff.grown hT.cols hgX
            have hT8 := hT.addCol ⟨nm, 1 + y, nl⟩ hOX hEx (by show nm.size ≤ 1000; omega) (by omega)
            obtain ⟨b8, c8, rfl⟩ := own_succG hOX
            replace hr := hr.eff hEx (by decide)
            replace hd := hd.eff hEx (by decide)
            replace hN := hN.eff hEx (by decide)
            replace hR := hR.eff hEx
            clear hEx hT hOX hgX hnX hcl
            refine hK.out _ _ hN (fun hHeld => ?_)
            clear hK KK
            change wpAnyH _ _ _ _ _ _ _ (Act.put _ (some 41) _) _
            try simp only [Act.put, List.setIfInBounds_toArray, List.set_cons_zero, List.set_cons_succ]
            refine' wpAnyH_take (i := 14) (v := _) rfl (by kernel_rfl) (by kernel_rfl) (by kernel_rfl) (fun _ _ _ h => h) (Or.inl ⟨by kernel_rfl, ?hdc10⟩) (by assumption) ?rdc10
            case hdc10 => intro W hW; have cn := Txs.cell hW hnm; go_simp; all_goals with_reducible rfl
            change wpAnyH _ _ _ _ _ _ _ (Act.put _ (some 42) _) _
            simp only [Act.put, List.setIfInBounds_toArray, List.set_cons_zero, List.set_cons_succ]
            refine wpAnyH_ready (rs := [15]) (by kernel_rfl) (by simp) ?_
            refine AllReadyH.cons rfl (fun KK hK => ?_) AllReadyH.nil
            obtain ⟨k0, k1, k2, k3⟩ := hd.v.cells
            obtain ⟨z0, z1, z2, z3⟩ := hd.v.fz
            go_simp
            clear k0 k1 k2 k3 z0 z1 z2 z3
            have hEx := hd.effSet 1 (.slice (some ⟨b8, 0, none⟩) (D.nc + 1) c8)
            replace hN := hN.eff hEx (by decide)
            replace hR := hR.eff hEx
            replace hT8 := hT8.eff hEx (by decide) (by decide) (by decide)
            replace hr := hr.other (C := Bd) (i := 1) (u := .slice (some ⟨b8, 0, none⟩) (D.nc + 1) c8) (by omega)
            replace hd := hd.set1 (.slice (some ⟨b8, 0, none⟩) (D.nc + 1) c8)
            clear hEx
            refine hK.out _ _ hN (fun hHeld => ?_)
            clear hK KK
            try simp only [Act.put, List.setIfInBounds_toArray, List.set_cons_zero, List.set_cons_succ]
            refine wpAnyH_done (by kernel_rfl) ?_ _
            have HS : Hid (St1R w g ao n cap f Bd bn s (k + 1) _) := ⟨b8, c8, { D with nc := D.nc + 1, col := upd D.col D.nc ⟨nm, 1 + y, nl⟩ }, A, C, ⟨E2.out.1.1, E2.out.1.2.add E2.out.2.1 HNM.out hy0 hy1 _ upd_new (fun i hi => upd_old hi)⟩, by show D.nc + 1 = 1 + (k + 1); have := E2.out.2.1; omega, E2.out.2.2.1, E2.out.2.2.2, hr, hd, hT8, hR, hN⟩
            clear hr hd hT8 hR hN hHeld
            go_wp2
            go_roundg (3 - (k + 1))
            case measure => omega
            case rel => exact ⟨k + 1, by omega, rfl, by go_num, HS.out⟩
          ·
            go_simp
            refine (l1Below_any g ao n cap f 4 _ hn (by omega) (by omega) hR.cur).mono ?_
            rintro e w6 ⟨y, rfl, hy0, hy1, hCx, hOx⟩
            replace hr := hr.but (But.ofOnly hOx) hg
            replace hd := hd.but (But.ofOnly hOx) hg
            replace hT := hT.but (But.ofOnly hOx) hg
            replace hN := hN.but (But.ofOnly hOx) hg
            replace hR := hR.next hCx (But.ofOnly hOx)
            clear hCx hOx
            have hwy : IntKind.i64.wrap (1 + y) = 1 + y := by rw [IntKind.wrap_i64]; omega
            go_wp2_with fail
            refine hK.out _ _ hN (fun hHeld => ?_)
            clear hK KK
            try simp only [Act.put, List.setIfInBounds_toArray, List.set_cons_zero, List.set_cons_succ]
            refine' wpAnyH_take (i := 8) (v := _) rfl (by kernel_rfl) (by kernel_rfl) (by kernel_rfl) (fun _ _ _ h => h) (Or.inl ⟨by kernel_rfl, ?hdc11⟩) (by assumption) ?rdc11
            case hdc11 => intro W hW; have cn := Txs.cell hW hnm; go_simp; all_goals with_reducible rfl
            change wpAnyH _ _ _ _ _ _ _ (Act.put _ (some 36) _) _
            simp only [Act.put, List.setIfInBounds_toArray, List.set_cons_zero, List.set_cons_succ]
            refine wpAnyH_ready (rs := [1, 10]) (by kernel_rfl) (by simp) ?_
            refine AllReadyH.cons rfl (fun KK hK => ?_) (AllReadyH.cons rfl (fun KK hK => ?_) AllReadyH.nil)
            ·
              obtain ⟨k0, k1, k2, k3⟩ := hd.v.cells
              go_simp
              clear k0 k1 k2 k3
              refine hK.out _ _ hN (fun hHeld => ?_)
              clear hK KK
              try simp only [Act.put, List.setIfInBounds_toArray, List.set_cons_zero, List.set_cons_succ]
              refine wpAnyH_ready (rs := [10]) (by kernel_rfl) (by simp) ?_
              refine AllReadyH.cons rfl (fun KK hK => ?_) AllReadyH.nil
              go_simp
              refine (l1Once_any g ao n cap f 2 _ hn (by omega) (by omega) hR.cur).mono ?_
              rintro e w7 ⟨nl, rfl, hCx, hOx⟩
              replace hr := hr.but (But.ofOnly hOx) hg
              replace hd := hd.but (But.ofOnly hOx) hg
              replace hT := hT.but (But.ofOnly hOx) hg
              replace hN := hN.but (But.ofOnly hOx) hg
              replace hR := hR.next hCx (But.ofOnly hOx)
              clear hCx hOx
              go_wp2_with fail
              refine hK.out _ _ hN (fun hHeld => ?_)
              clear hK KK
              try simp only [Act.put, List.setIfInBounds_toArray, List.set_cons_zero, List.set_cons_succ]
              refine' wpAnyH_take (i := 11) (v := _) rfl (by kernel_rfl) (by kernel_rfl) (by kernel_rfl) (fun _ _ _ h => h) (Or.inl ⟨by kernel_rfl, ?hdc12⟩) (by assumption) ?rdc12
              case hdc12 => intro W hW; have cn := Txs.cell hW hnm; go_simp; all_goals with_reducible rfl
              change wpAnyH _ _ _ _ _ _ _ (Act.put _ (some 39) _) _
              simp only [Act.put, List.setIfInBounds_toArray, List.set_cons_zero, List.set_cons_succ]
              refine wpAnyH_ready (rs := [12]) (by kernel_rfl) (by simp) ?_
              refine AllReadyH.cons rfl (fun KK hK => ?_) AllReadyH.nil
              go_simp
              have hcl := cells_col9 w7 nm (1 + y) nl
              have hs7 := hR.size
              have hEx := Eff.alloc w 93 w7 (.cells #[.string nm, .int .i64 (1 + y), .bool nl] 90)
              replace hr := hr.eff hEx (by decide)
              replace hd := hd.eff hEx (by decide)
              replace hT := hT.eff hEx (by decide) (by decide) (by decide)
              replace hN := hN.eff hEx (by decide)
              replace hR := hR.eff hEx
              clear hEx
              refine hK.out _ _ hN (fun hHeld => ?_)
              clear hK KK
              try simp only [Act.put, List.setIfInBounds_toArray, List.set_cons_zero, List.set_cons_succ]
              refine wpAnyH_ready (rs := [13]) (by kernel_rfl) (by simp) ?_
              refine AllReadyH.cons rfl (fun KK hK => ?_) AllReadyH.nil
              rw [if_pos (by kernel_rfl)]
              refine wp_append_own _ (.tmp 29) (.tmp 40) 32 rfl w.heap.size 90 iC (.agg #[.string ⟨#[]⟩, .int .i64 0, .bool false]) 3 32 Tryz.underlying32 hiC.1 hiC.2.1 hiC.2.2.1 hiC.2.2.2 rfl (by decide) _ _ _ rfl hT.cols ⟨w7.heap.size, 0, none⟩ 1 1 [.string nm, .int .i64 (1 + y), .bool nl] rfl rfl hcl (one_col9 _ _ _) (by unfold maxLen; omega) (by omega) (by first | omega | (simp; omega)) ?_
              intro vX w8 hOX hgX hnX
              have hEx := Eff.grown hT.cols hgX
              have hT8 := hT.addCol ⟨nm, 1 + y, nl⟩ hOX hEx (by show nm.size ≤ 1000; omega) (by omega)
              obtain ⟨b8, c8, rfl⟩ := own_succG hOX
              replace hr := hr.eff hEx (by decide)
              replace hd := hd.eff hEx (by decide)
              replace hN := hN.eff hEx (by decide)
              replace hR := hR.eff hEx
              clear hEx hT hOX hgX hnX hcl
              refine hK.out _ _ hN (fun hHeld => ?_)
              clear hK KK
              change wpAnyH _ _ _ _ _ _ _ (Act.put _ (some 41) _) _
              try simp only [Act.put, List.setIfInBounds_toArray, List.set_cons_zero, List.set_cons_succ]
              refine' wpAnyH_take (i := 14) (v := _) rfl (by kernel_rfl) (by kernel_rfl) (by kernel_rfl) (fun _ _ _ h => h) (Or.inl ⟨by kernel_rfl, ?hdc13⟩) (by assumption) ?rdc13
              case hdc13 => intro W hW; have cn := Txs.cell hW hnm; go_simp; all_goals with_reducible rfl
              change wpAnyH _ _ _ _ _ _ _ (Act.put _ (some 42) _) _
              simp only [Act.put, List.setIfInBounds_toArray, List.set_cons_zero, List.set_cons_succ]
              refine wpAnyH_ready (rs := [15]) (by kernel_rfl) (by simp) ?_
              refine AllReadyH.cons rfl (fun KK hK => ?_) AllReadyH.nil
              obtain ⟨k0, k1, k2, k3⟩ := hd.v.cells
              obtain ⟨z0, z1, z2, z3⟩ := hd.v.fz
              go_simp
              clear k0 k1 k2 k3 z0 z1 z2 z3
              have hEx := hd.effSet 1 (.slice (some ⟨b8, 0, none⟩) (D.nc + 1) c8)
              replace hN := hN.eff hEx (by decide)
              replace hR := hR.eff hEx
              replace hT8 := hT8.eff hEx (by decide) (by decide) (by decide)
              replace hr := hr.other (C := Bd) (i := 1) (u := .slice (some ⟨b8, 0, none⟩) (D.nc + 1) c8) (by omega)
              replace hd := hd.set1 (.slice (some ⟨b8, 0, none⟩) (D.nc + 1) c8)
              clear hEx
              refine hK.out _ _ hN (fun hHeld => ?_)
              clear hK KK
              try simp only [Act.put, List.setIfInBounds_toArray, List.set_cons_zero, List.set_cons_succ]
              refine wpAnyH_done (by kernel_rfl) ?_ _
              have HS : Hid (St1R w g ao n cap f Bd bn s (k + 1) _) := ⟨b8, c8, { D with nc := D.nc + 1, col := upd D.col D.nc ⟨nm, 1 + y, nl⟩ }, A, C, ⟨E2.out.1.1, E2.out.1.2.add E2.out.2.1 HNM.out hy0 hy1 _ upd_new (fun i hi => upd_old hi)⟩, by show D.nc + 1 = 1 + (k + 1); have := E2.out.2.1; omega, E2.out.2.2.1, E2.out.2.2.2, hr, hd, hT8, hR, hN⟩
              clear hr hd hT8 hR hN hHeld
              go_wp2
              go_roundg (3 - (k + 1))
              case measure => omega
              case rel => exact ⟨k + 1, by omega, rfl, by go_num, HS.out⟩
            ·
              go_simp
              refine (l1Once_any g ao n cap f 2 _ hn (by omega) (by omega) hR.cur).mono ?_
              rintro e w7 ⟨nl, rfl, hCx, hOx⟩
              replace hr := hr.but (But.ofOnly hOx) hg
              replace hd := hd.but (But.ofOnly hOx) hg
              replace hT := hT.but (But.ofOnly hOx) hg
              replace hN := hN.but (But.ofOnly hOx) hg
              replace hR := hR.next hCx (But.ofOnly hOx)
              clear hCx hOx
              go_wp2_with fail
              refine hK.out _ _ hN (fun hHeld => ?_)
              clear hK KK
              try simp only [Act.put, List.setIfInBounds_toArray, List.set_cons_zero, List.set_cons_succ]
              refine' wpAnyH_take (i := 11) (v := _) rfl (by kernel_rfl) (by kernel_rfl) (by kernel_rfl) (fun _ _ _ h => h) (Or.inl ⟨by kernel_rfl, ?hdc14⟩) (by assumption) ?rdc14
              case hdc14 => intro W hW; have cn := Txs.cell hW hnm; go_simp; all_goals with_reducible rfl
              change wpAnyH _ _ _ _ _ _ _ (Act.put _ (some 39) _) _
              simp only [Act.put, List.setIfInBounds_toArray, List.set_cons_zero, List.set_cons_succ]
              refine wpAnyH_ready (rs := [1, 12]) (by kernel_rfl) (by simp) ?_
              refine AllReadyH.cons rfl (fun KK hK => ?_) (AllReadyH.cons rfl (fun KK hK => ?_) AllReadyH.nil)
              ·
                obtain ⟨k0, k1, k2, k3⟩ := hd.v.cells
                go_simp
                clear k0 k1 k2 k3
                refine hK.out _ _ hN (fun hHeld => ?_)
                clear hK KK
                try simp only [Act.put, List.setIfInBounds_toArray, List.set_cons_zero, List.set_cons_succ]
                refine wpAnyH_ready (rs := [12]) (by kernel_rfl) (by simp) ?_
                refine AllReadyH.cons rfl (fun KK hK => ?_) AllReadyH.nil
                go_simp
                have hcl := cells_col9 w7 nm (1 + y) nl
                have hs7 := hR.size
                have hEx := Eff.alloc w 93 w7 (.cells #[.string nm, .int .i64 (1 + y), .bool nl] 90)
                replace hr := hr.eff hEx (by decide)
                replace hd := hd.eff hEx (by decide)
                replace hT := hT.eff hEx (by decide) (by decide) (by decide)
                replace hN := hN.eff hEx (by decide)
                replace hR := hR.eff hEx
                clear hEx
                refine hK.out _ _ hN (fun hHeld => ?_)
                clear hK KK
                try simp only [Act.put, List.setIfInBounds_toArray, List.set_cons_zero, List.set_cons_succ]
                refine wpAnyH_ready (rs := [13]) (by kernel_rfl) (by simp) ?_
                refine AllReadyH.cons rfl (fun KK hK => ?_) AllReadyH.nil
                rw [if_pos (by kernel_rfl)]
                refine wp_append_own _ (.tmp 29) (.tmp 40) 32 rfl w.heap.size 90 iC (.agg #[.string ⟨#[]⟩, .int .i64 0, .bool false]) 3 32 Tryz.underlying32 hiC.1 hiC.2.1 hiC.2.2.1 hiC.2.2.2 rfl (by decide) _ _ _ rfl hT.cols ⟨w7.heap.size, 0, none⟩ 1 1 [.string nm, .int .i64 (1 + y), .bool nl] rfl rfl hcl (one_col9 _ _ _) (by unfold maxLen; omega) (by omega) (by first | omega | (simp; omega)) ?_
                intro vX w8 hOX hgX hnX
                have hEx := Eff.grown hT.cols hgX
                have hT8 := hT.addCol ⟨nm, 1 + y, nl⟩ hOX hEx (by show nm.size ≤ 1000; omega) (by omega)
                obtain ⟨b8, c8, rfl⟩ := own_succG hOX
                replace hr := hr.eff hEx (by decide)
                replace hd := hd.eff hEx (by decide)
                replace hN := hN.eff hEx (by decide)
                replace hR := hR.eff hEx
                clear hEx hT hOX hgX hnX hcl
                refine hK.out _ _ hN (fun hHeld => ?_)
                clear hK KK
                change wpAnyH _ _ _ _ _ _ _ (Act.put _ (some 41) _) _
                try simp only [Act.put, List.setIfInBounds_toArray, List.set_cons_zero, List.set_cons_succ]
                refine' wpAnyH_take (i := 14) (v := _) rfl (by kernel_rfl) (by kernel_rfl) (by kernel_rfl) (fun _ _ _ h => h) (Or.inl ⟨by kernel_rfl, ?hdc15⟩) (by assumption) ?rdc15
                case hdc15 => intro W hW; have cn := Txs.cell hW hnm; go_simp; all_goals with_reducible rfl
                change wpAnyH _ _ _ _ _ _ _ (Act.put _ (some 42) _) _
                simp only [Act.put, List.setIfInBounds_toArray, List.set_cons_zero, List.set_cons_succ]
                refine wpAnyH_ready (rs := [15]) (by kernel_rfl) (by simp) ?_
                refine AllReadyH.cons rfl (fun KK hK => ?_) AllReadyH.nil
                obtain ⟨k0, k1, k2, k3⟩ := hd.v.cells
                obtain ⟨z0, z1, z2, z3⟩ := hd.v.fz
                go_simp
                clear k0 k1 k2 k3 z0 z1 z2 z3
                have hEx := hd.effSet 1 (.slice (some ⟨b8, 0, none⟩) (D.nc + 1) c8)
                replace hN := hN.eff hEx (by decide)
                replace hR := hR.eff hEx
                replace hT8 := hT8.eff hEx (by decide) (by decide) (by decide)
                replace hr := hr.other (C := Bd) (i := 1) (u := .slice (some ⟨b8, 0, none⟩) (D.nc + 1) c8) (by omega)
                replace hd := hd.set1 (.slice (some ⟨b8, 0, none⟩) (D.nc + 1) c8)
                clear hEx
                refine hK.out _ _ hN (fun hHeld => ?_)
                clear hK KK
                try simp only [Act.put, List.setIfInBounds_toArray, List.set_cons_zero, List.set_cons_succ]
                refine wpAnyH_done (by kernel_rfl) ?_ _
                have HS : Hid (St1R w g ao n cap f Bd bn s (k + 1) _) := ⟨b8, c8, { D with nc := D.nc + 1, col := upd D.col D.nc ⟨nm, 1 + y, nl⟩ }, A, C, ⟨E2.out.1.1, E2.out.1.2.add E2.out.2.1 HNM.out hy0 hy1 _ upd_new (fun i hi => upd_old hi)⟩, by show D.nc + 1 = 1 + (k + 1); have := E2.out.2.1; omega, E2.out.2.2.1, E2.out.2.2.2, hr, hd, hT8, hR, hN⟩
                clear hr hd hT8 hR hN hHeld
                go_wp2
                go_roundg (3 - (k + 1))
                case measure => omega
                case rel => exact ⟨k + 1, by omega, rfl, by go_num, HS.out⟩
              ·
                go_simp
                have hcl := cells_col9 w7 nm (1 + y) nl
                have hs7 := hR.size
                have hEx := Eff.alloc w 93 w7 (.cells #[.string nm, .int .i64 (1 + y), .bool nl] 90)
                replace hr := hr.eff hEx (by decide)
                replace hd := hd.eff hEx (by decide)
                replace hT := hT.eff hEx (by decide) (by decide) (by decide)
                replace hN := hN.eff hEx (by decide)
                replace hR := hR.eff hEx
                clear hEx
                refine hK.out _ _ hN (fun hHeld => ?_)
                clear hK KK
                try simp only [Act.put, List.setIfInBounds_toArray, List.set_cons_zero, List.set_cons_succ]
                refine wpAnyH_ready (rs := [1]) (by kernel_rfl) (by simp) ?_
                refine AllReadyH.cons rfl (fun KK hK => ?_) AllReadyH.nil
                obtain ⟨k0, k1, k2, k3⟩ := hd.v.cells
                go_simp
                clear k0 k1 k2 k3
                refine hK.out _ _ hN (fun hHeld => ?_)
                clear hK KK
                try simp only [Act.put, List.setIfInBounds_toArray, List.set_cons_zero, List.set_cons_succ]
                refine wpAnyH_ready (rs := [13]) (by kernel_rfl) (by simp) ?_
                refine AllReadyH.cons rfl (fun KK hK => ?_) AllReadyH.nil
                rw [if_pos (by kernel_rfl)]
                refine wp_append_own _ (.tmp 29) (.tmp 40) 32 rfl w.heap.size 90 iC (.agg #[.string ⟨#[]⟩, .int .i64 0, .bool false]) 3 32 Tryz.underlying32 hiC.1 hiC.2.1 hiC.2.2.1 hiC.2.2.2 rfl (by decide) _ _ _ rfl hT.cols ⟨w7.heap.size, 0, none⟩ 1 1 [.string nm, .int .i64 (1 + y), .bool nl] rfl rfl hcl (one_col9 _ _ _) (by unfold maxLen; omega) (by omega) (by first | omega | (simp; omega)) ?_
                intro vX w8 hOX hgX hnX
                have hEx := Eff.grown hT.cols hgX
                have hT8 := hT.addCol ⟨nm, 1 + y, nl⟩ hOX hEx (by show nm.size ≤ 1000; omega) (by omega)
                obtain ⟨b8, c8, rfl⟩ := own_succG hOX
                replace hr := hr.eff hEx (by decide)
                replace hd := hd.eff hEx (by decide)
                replace hN := hN.eff hEx (by decide)
                replace hR := hR.eff hEx
                clear hEx hT hOX hgX hnX hcl
                refine hK.out _ _ hN (fun hHeld => ?_)
                clear hK KK
                change wpAnyH _ _ _ _ _ _ _ (Act.put _ (some 41) _) _
                try simp only [Act.put, List.setIfInBounds_toArray, List.set_cons_zero, List.set_cons_succ]
                refine' wpAnyH_take (i := 14) (v := _) rfl (by kernel_rfl) (by kernel_rfl) (by kernel_rfl) (fun _ _ _ h => h) (Or.inl ⟨by kernel_rfl, ?hdc16⟩) (by assumption) ?rdc16
                case hdc16 => intro W hW; have cn := Txs.cell hW hnm; go_simp; all_goals with_reducible rfl
                change wpAnyH _ _ _ _ _ _ _ (Act.put _ (some 42) _) _
                simp only [Act.put, List.setIfInBounds_toArray, List.set_cons_zero, List.set_cons_succ]
                refine wpAnyH_ready (rs := [15]) (by kernel_rfl) (by simp) ?_
                refine AllReadyH.cons rfl (fun KK hK => ?_) AllReadyH.nil
                obtain ⟨k0, k1, k2, k3⟩ := hd.v.cells
                obtain ⟨z0, z1, z2, z3⟩ := hd.v.fz
                go_simp
                clear k0 k1 k2 k3 z0 z1 z2 z3
                have hEx := hd.effSet 1 (.slice (some ⟨b8, 0, none⟩) (D.nc + 1) c8)
                replace hN := hN.eff hEx (by decide)
                replace hR := hR.eff hEx
                replace hT8 := hT8.eff hEx (by decide) (by decide) (by decide)
                replace hr := hr.other (C := Bd) (i := 1) (u := .slice (some ⟨b8, 0, none⟩) (D.nc + 1) c8) (by omega)
                replace hd := hd.set1 (.slice (some ⟨b8, 0, none⟩) (D.nc + 1) c8)
                clear hEx
                refine hK.out _ _ hN (fun hHeld => ?_)
                clear hK KK
                try simp only [Act.put, List.setIfInBounds_toArray, List.set_cons_zero, List.set_cons_succ]
                refine wpAnyH_done (by kernel_rfl) ?_ _
                have HS : Hid (St1R w g ao n cap f Bd bn s (k + 1) _) := ⟨b8, c8, { D with nc := D.nc + 1, col := upd D.col D.nc ⟨nm, 1 + y, nl⟩ }, A, C, ⟨E2.out.1.1, E2.out.1.2.add E2.out.2.1 HNM.out hy0 hy1 _ upd_new (fun i hi => upd_old hi)⟩, by show D.nc + 1 = 1 + (k + 1); have := E2.out.2.1; omega, E2.out.2.2.1, E2.out.2.2.2, hr, hd, hT8, hR, hN⟩
                clear hr hd hT8 hR hN hHeld
                go_wp2
                go_roundg (3 - (k + 1))
                case measure => omega
                case rel => exact ⟨k + 1, by omega, rfl, by go_num, HS.out⟩
      · exfalso; omega
    · have hk1 : 1 ≤ k := by omega
      have HS : Hid (St1R w g ao n cap f Bd bn s k w5) := ⟨bc, cc, D, A, C, E2.out.1, E2.out.2.1, E2.out.2.2.1, E2.out.2.2.2, hr, hd, hT, hR, hN⟩
      clear hr hd hT hR hN
      go_wp2
      exact key _ _ _ _ _ _ _ _ _ _ _ _ _ _ _ _ _ _ _ _ _ _ _ _ _ _ _ _ _ _ _ _ _ _ _ _ _ _ _ _ _ _ _ _ _ _ _ _ _ _ _ _ _ _ _ _ _ _ _ _ _ _ _ _ _ _ _ _ _ _ _ _ _ _ _ _ _ _ _ _ _ _ _ _ _ _ _ _ _ _ k w5 hk1 hk HS.out
end Go.Proofs.YtkakkjnbhklfpaaGreatDoor

