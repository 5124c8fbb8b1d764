/-
  LawDefs
-/
import Derived.Test.YtnpfgamlncfikaaGreatDoorPackF32
import Derived.Test.YtnpfgamlncfikaaGreatDoorPackF34
import Derived.Test.YtnpfgamlncfikaaGreatDoorPackF25
import Derived.Test.YtnpfgamlncfikaaGreatDoorPackF36
import Derived.Test.YtnpfgamlncfikaaGreatDoorPackF37
import Derived.Test.YtnpfgamlncfikaaGreatDoorPackF38
import Derived.Deep.LoopGhost
import Derived.Deep.RegionHeld3
/-
  The law FnDefs, walked.
-/
namespace Go.Proofs.YtnpfgamlncfikaaGreatDoor
open Go.RowKit
set_option maxRecDepth 4000

set_option maxHeartbeats 8000000 in
theorem lawDefs (ao : Option Addr) (N cap : Nat) (f : Nat → Int) (w : World) (hv0 : View w ao N cap f) (hlen : N ≤ 9223372036854775807) (hgE : ErrT w) (hty : TyN w) (hu : ErrU w) :
    Calls Tryz.prog 3 #[.slice ao N cap] w fun e w' => e = .returned (.bool true) ∧ Below w.heap.size w w' := by
  have hCk : ∀ (W : World) (v : Value) (D : PDef), Below w.heap.size w W → DView W v D → DFine D → Calls Tryz.prog 29 #[v] W fun e w' => e = .returned (.int .i64 (checkF D)) ∧ Below W.heap.size W w' := fun W v D hb hD hf => implCheck_any v D W hD hf (hgE.below hb)
  have hTx : ∀ (W : World) (v : Value) (D : PDef), Below w.heap.size w W → DView W v D → DFine D → Calls Tryz.prog 27 #[v] W fun e w' => e = .returned (.string (defText D)) ∧ Below W.heap.size W w' := fun W v D hb hD hf => implText_any v D W hD hf (hgE.below hb) (hty.below hb)
  by_cases hbig : (1048576 : Int) < (N : Int)
  · have hd : decide ((1048576 : Int) < (N : Int)) = true := decide_eq_true hbig
    clear hv0 hCk hTx
    go_enter Tryz.func3, Tryz.ntmps3
    go_wp2_with fail
    refine (big_any ao N cap w hlen).mono ?_
    rintro e w1 ⟨rfl, rfl⟩
    rw [hd]
    go_wp2
    go_ret
    exact ⟨rfl, Below.refl _ _⟩
  have hN : N ≤ 1048576 := by omega
  have hd : decide ((1048576 : Int) < (N : Int)) = false := decide_eq_false hbig
  go_enter Tryz.func3, Tryz.ntmps3
  go_wp2_with fail
  refine (big_any ao N cap w hlen).mono ?_
  rintro e w0 ⟨rfl, rfl⟩
  rw [hd]
  go_wp2_with fail
  refine (drawDefs_any ao N cap f w hN hv0).mono ?_
  rintro e w1 ⟨a, m, k, F, rfl, hV1, ⟨hm, hsm⟩, hb1⟩
  have hF : LFine m F := ⟨by omega, fun i hi => (hsm i hi).fine⟩
  have hTs := implTexts_any a m k F w1 hV1 hF (fun W v D hb hD hf => hTx W v D (hb1.trans (hb.mono hb1.size)) hD hf)
  have hds := defsT_size F m
  have HHIT : Hid (firstF F m = -1 → parseF (defsT F m) = some (backL F m)) := fun h => parse_hit h
  have HIN : Hid (firstF F m ≠ -1 → 0 ≤ firstF F m ∧ firstF F m < m) := fun h => first_in h
  obtain ⟨tx, htx⟩ : ∃ tx, Hid (defsT F m = tx) := ⟨_, rfl⟩
  rw [htx.out] at hTs hds HHIT
  clear hv0 hTx
  go_wp2_with fail
  refine hTs.mono ?_
  rintro e w2 ⟨rfl, hb2⟩
  have hB2 := hb1.trans (hb2.mono hb1.size)
  have hV2 := hV1.below hb2
  have hFi := implFirst_any a m k F w2 hV2 hF (fun W v D hb hD hf => hCk W v D (hB2.trans (hb.mono hB2.size)) hD hf)
  obtain ⟨fz, hfz⟩ : ∃ x, Hid (firstF F m = x) := ⟨_, rfl⟩
  rw [hfz.out] at hFi HHIT HIN
  clear hTs hb1 hb2 hV1
  go_wp2_with fail
  refine hFi.mono ?_
  rintro e w3 ⟨rfl, hb3⟩
  have hB3 := hB2.trans (hb3.mono hB2.size)
  have hV3 := hV2.below hb3
  have hFs := specFirst_any a m k F w3 hV3 hF
  rw [hfz.out] at hFs
  clear hFi hb3 hB2 hV2
  go_wp2_with fail
  refine hFs.mono ?_
  rintro e w4 ⟨rfl, hb4⟩
  have hB4 := hB3.trans (hb4.mono hB3.size)
  have hV4 := hV3.below hb4
  have hTs := specTexts_any a m k F w4 hV4 hF
  rw [htx.out] at hTs
  have hq1 : (fz != fz) = false := bne_self_eq_false _
  have hq2 := bytes_eq (a := tx) rfl
  clear hFs hb4 hB3 hV3
  go_wp2_with fail
  refine hTs.mono ?_
  rintro e w5 ⟨rfl, hb5⟩
  have hB5 := hB4.trans (hb5.mono hB4.size)
  have hV5 := hV4.below hb5
  have hP := implParse_any tx w5 (by omega) (hu.below hB5) (hty.below hB5) (fun W v D hb hD hf => hCk W v D (hB5.trans (hb.mono hB5.size)) hD hf)
  clear hTs hb5 hB4 hV4 hCk
  go_wp2_with fail
  refine hP.mono ?_
  rintro e w6 ⟨v, wB, rfl, hb6, hwB, hT6, h3, a6, k6, rfl⟩
  have hB6 := hB5.trans (hb6.mono hB5.size)
  have hV6 := hV5.below hb6
  clear hP hb6 hB5 hV5 hgE hty hu
  by_cases hz : fz = -1
  · subst hz
    have hpar := HHIT.out rfl
    rw [hpar] at hT6 h3 ⊢
    obtain ⟨ax, kx, ex, hX6⟩ := hT6.tabs.view
    have hXf := hT6.tabs.fine (by omega)
    cases ex
    have hX6' : LView w6 (some ⟨a6, 0, none⟩) (backL F m).length k6 (atD (backL F m)) := hX6
    have hXf' : LFine (backL F m).length (atD (backL F m)) := hXf
    have HE : Hid ((Option.getD (some (backL F m)) []).length = m) := backL_len F m
    rw [HE.out]
    rw [backL_len] at hX6' hXf'
    have HAT : Hid (∀ i, i < m → atD (backL F m) i = offD (F i)) := fun i hi => backL_at F hi
    clear hT6 hX6 hXf hpar HHIT HIN hwB h3
    go_wp2
    go_loopg [8] m (fun q i wr => ∃ j : Nat, j ≤ m ∧ q = m - j ∧ i = .int .i64 j ∧ Below w.heap.size w wr ∧ LView wr a m k F ∧ LView wr (some ⟨a6, 0, none⟩) m k6 (atD (backL F m)))
    case atStart => exact ⟨0, Nat.zero_le _, rfl, rfl, hB6, hV6, hX6'⟩
    case round =>
      clear hB6 hV6 hX6'
      obtain ⟨j, hj, rfl, rfl, hB, hA, hX⟩ := hrel
      by_cases hlt : j < m
      · have hjz : (j : Int) < (m : Int) := by omega
        obtain ⟨b1, o1, rfl, hb1, hc1⟩ := hA.cells (by omega)
        obtain ⟨b2, o2, e2, hb2, hc2⟩ := hX.cells (by omega)
        cases e2
        obtain ⟨y1, y2, y3, u0, u1, u2, u3, hvA⟩ := hc1 j hlt
        obtain ⟨z1, z2, z3, x0, x1, x2, x3, hvX⟩ := hc2 j hlt
        have hV := fun W (hb : Below wr.heap.size wr W) => implSame_any _ _ (atD (backL F m) j) (F j) W (hvX.below hb) (hvA.below hb) (hXf'.at_ j hlt)
        have hsame : sameF (atD (backL F m) j) (F j) = true := by rw [HAT.out j hlt]; exact same_off (F j)
        rw [hsame] at hV
        obtain ⟨p0, hp0⟩ : ∃ x, Hid ((F j).name = x) := ⟨_, rfl⟩
        obtain ⟨p1, hp1⟩ : ∃ x, Hid ((atD (backL F m) j).name = x) := ⟨_, rfl⟩
        simp only [hp0.out, hp1.out] at hV
        rw [hp0.out] at u0
        rw [hp1.out] at x0
        simp only [Nat.zero_add] at x0 x1 x2 x3
        have HKP : Hid (∀ W, Below wr.heap.size wr W → Below w.heap.size w W ∧ LView W (some ⟨b1, o1, none⟩) m k F ∧ LView W (some ⟨a6, 0, none⟩) m k6 (atD (backL F m))) := fun W hb => ⟨hB.trans (hb.mono hB.size), hA.below hb, hX.below hb⟩
        have HWK : Hid (∀ W, Below wr.heap.size wr W → (W.cell? ⟨a6, j * 4, none⟩ = some (.string p1) ∧ W.cell? ⟨a6, j * 4 + 1, none⟩ = some z1 ∧ W.cell? ⟨a6, j * 4 + 2, none⟩ = some z2 ∧ W.cell? ⟨a6, j * 4 + 3, none⟩ = some z3) ∧ (W.cell? ⟨b1, o1 + j * 4, none⟩ = some (.string p0) ∧ W.cell? ⟨b1, o1 + j * 4 + 1, none⟩ = some y1 ∧ W.cell? ⟨b1, o1 + j * 4 + 2, none⟩ = some y2 ∧ W.cell? ⟨b1, o1 + j * 4 + 3, none⟩ = some y3)) := by
          intro W hb
          refine ⟨⟨?_, ?_, ?_, ?_⟩, ⟨?_, ?_, ?_, ?_⟩⟩ <;> (rw [hb.cell (by first | exact hb1 | exact hb2)]; assumption)
        clear hc1 hc2 hA hX hB hvA hvX hsame
        go_wp2_with fail
        go_region_held3 (fun W => (W.cell? ⟨a6, j * 4, none⟩ = some (.string p1) ∧ W.cell? ⟨a6, j * 4 + 1, none⟩ = some z1 ∧ W.cell? ⟨a6, j * 4 + 2, none⟩ = some z2 ∧ W.cell? ⟨a6, j * 4 + 3, none⟩ = some z3) ∧ (W.cell? ⟨b1, o1 + j * 4, none⟩ = some (.string p0) ∧ W.cell? ⟨b1, o1 + j * 4 + 1, none⟩ = some y1 ∧ W.cell? ⟨b1, o1 + j * 4 + 2, none⟩ = some y2 ∧ W.cell? ⟨b1, o1 + j * 4 + 3, none⟩ = some y3)) (first | assumption | go_keep) (first | (go_at_call 15; refine (hV _ (by repeat (first | exact Below.refl _ _ | refine Below.drew ?_))).mono ?_; rintro e w8 ⟨rfl, hB8⟩; have hcells : (w8.cell? ⟨a6, j * 4, none⟩ = some (.string p1) ∧ w8.cell? ⟨a6, j * 4 + 1, none⟩ = some z1 ∧ w8.cell? ⟨a6, j * 4 + 2, none⟩ = some z2 ∧ w8.cell? ⟨a6, j * 4 + 3, none⟩ = some z3) ∧ (w8.cell? ⟨b1, o1 + j * 4, none⟩ = some (.string p0) ∧ w8.cell? ⟨b1, o1 + j * 4 + 1, none⟩ = some y1 ∧ w8.cell? ⟨b1, o1 + j * 4 + 2, none⟩ = some y2 ∧ w8.cell? ⟨b1, o1 + j * 4 + 3, none⟩ = some y3) := HWK.out _ (Below.trans (by repeat (first | exact Below.refl _ _ | refine Below.drew ?_)) hB8)))
        all_goals
          have HB9 : Hid (Below wr.heap.size wr w8) := Below.trans (by repeat (first | exact Below.refl _ _ | refine Below.drew ?_)) hB8
          clear hcells HWK hV hB8
          go_wp2
          go_roundg (m - (j + 1))
          case measure => omega
          case rel => exact ⟨j + 1, by omega, rfl, by go_num, by first | exact (HKP.out _ HB9.out).1 | exact (HKP.out _ HB9.out.drew).1, by first | exact (HKP.out _ HB9.out).2.1 | exact (HKP.out _ HB9.out.drew).2.1, by first | exact (HKP.out _ HB9.out).2.2 | exact (HKP.out _ HB9.out.drew).2.2⟩
      · have hjz : ¬ (j : Int) < (m : Int) := by omega
        clear hA hX
        go_wp2
        go_ret
        exact ⟨rfl, hB⟩
  · have hz' : (fz != -1) = true := by simpa using hz
    obtain ⟨q1, q2⟩ := HIN.out hz
    have HB : Hid (Below w.heap.size w w6) := hB6
    clear hT6 hV6 HHIT HIN hB6
    go_wp2
    go_ret
    exact ⟨rfl, HB.out⟩
end Go.Proofs.YtnpfgamlncfikaaGreatDoor

