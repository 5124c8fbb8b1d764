/-
  Together: DefTextImpl, TextsSize, TextsImpl
-/
import Derived.Test.YtnpfgamlncfikaaGreatDoorPackF35
import Derived.Test.YtnpfgamlncfikaaGreatDoorPackF30
import Derived.Test.YtnpfgamlncfikaaGreatDoorPackF8
import Derived.Test.YtnpfgamlncfikaaGreatDoorPackF16
import Derived.Test.YtnpfgamlncfikaaGreatDoorPackF12
import Derived.Deep.LoopGhost
/-
  The program's DefText comes to the plain one.
-/
namespace Go.Proofs.YtnpfgamlncfikaaGreatDoor
open Go.RowKit
set_option maxRecDepth 4000

theorem cells_app (a b : ByteArray) : Lib.byteCells (a ++ b).data.toList = Lib.byteCells a.data.toList ++ Lib.strCells b := by
  rw [ByteArray.data_append, Array.toList_append, Lib.byteCells_append, Lib.strCells_eq]
theorem cells_len (a : ByteArray) : (Lib.byteCells a.data.toList).length = a.size := by rw [Lib.byteCells_length]; rfl
/-- A builder that holds a text. -/
def Bld (b : Nat) (s : ByteArray) (w : World) : Prop := Lib.IsBuilder 54 5 b b (Lib.byteCells s.data.toList) w
theorem Bld.below {b : Nat} {s : ByteArray} {w w' : World} (h : Bld b s w) (hb : Below w.heap.size w w') : Bld b s w' := builder_below h hb
theorem Bld.lt {b : Nat} {s : ByteArray} {w : World} (h : Bld b s w) : b < w.heap.size := by
  rcases h with h | h
  · exact h.lt
  · exact h.lt
theorem Bld.write {b : Nat} {s : ByteArray} {w : World} (h : Bld b s w) (u : ByteArray) (hl : s.size + u.size ≤ 140737488355328) :
    Calls Tryz.prog 26 #[.pointer (some ⟨b, 0, none⟩), .string u] w fun e w' => e = .returned (.tuple #[.int .i64 u.size, .nilIface]) ∧ Bld b (s ++ u) w' ∧ Below b w w' := by
  refine (writeString_any b b _ u w h (by rw [cells_len]; exact hl) (Nat.le_of_lt h.lt)).mono ?_
  rintro e w' ⟨rfl, h1, h2⟩
  exact ⟨rfl, by unfold Bld; rw [cells_app]; exact h1, h2⟩

set_option maxHeartbeats 8000000 in
theorem implText_any (v : Value) (D : PDef) (w : World) (h : DView w v D) (hf : DFine D) (hg : ErrT w) (hty : TyN w) :
    Calls Tryz.prog 27 #[v] w fun e w' => e = .returned (.string (defText D)) ∧ Below w.heap.size w w' := by
  have hv := h
  obtain ⟨ac, cc, ap, cp, ai, ci, rfl, hcv, hpv, hiv⟩ := h.is
  clear h
  have hB0 : Below w.heap.size w (w.alloc (.cells #[.string D.name, .slice ac D.nc cc, .slice ap D.np cp, .slice ai D.ni ci] 35)) := (Below.refl _ _).alloc (Nat.le_refl _) _
  have hD0 := D4.new w 35 (.string D.name) (.slice ac D.nc cc) (.slice ap D.np cp) (.slice ai D.ni ci)
  have hC := implCheck_any _ D _ (hv.below hB0) hf (hg.below hB0)
  by_cases hgood : checkF D = 0
  · have HD : Hid (defText D = idxT D D.ni ++ (⟨#[125]⟩ : ByteArray)) := by show _ = _; unfold defText; rw [if_pos hgood]; rfl
    rw [hgood] at hC
    obtain ⟨-, g2, -, g4, g5, -⟩ := checkF_good hgood
    unfold typesF at g2
    have G2 := of_decide_eq_true g2
    unfold allPartsF at g5
    have G5 := of_decide_eq_true g5
    have hnc6 : D.nc ≤ 6 := G2.2.2
    have hnp2 := partsF_two G5.2
    have HT : Hid (∀ i, i < D.nc → 1 ≤ (D.col i).type ∧ (D.col i).type ≤ 4) := G2.1
    have HIN : Hid (∀ i, i < D.np → 0 ≤ (D.pri i).col ∧ (D.pri i).col < D.nc) := fun i hi => partsF_in G5.2 hi
    have HIX : Hid (∀ k, k < D.ni → (1 ≤ (D.idx k).n ∧ (D.idx k).n ≤ 2) ∧ ∀ i, i < (D.idx k).n → 0 ≤ ((D.idx k).part i).col ∧ ((D.idx k).part i).col < D.nc) := fun k hk => ⟨partsF_two (G5.1 k hk), fun i hi => partsF_in (G5.1 k hk) hi⟩
    have HCZ : Hid (∀ i, i < D.nc → (D.col i).name.size ≤ 1048576) := hf.col
    have HXZ : Hid (∀ i, i < D.ni → (D.idx i).name.size ≤ 1048576) := fun i hi => (hf.idx i hi).1
    have hnz := hf.name
    have HS1 : Hid (∀ k, k ≤ D.nc → (colsT D.name D.col k).size ≤ 7340116) := fun k hk => by
      have h1 := colsT_size hf.name hf.col k hk
      have h2 : (k + 1) * (1048576 + 12) ≤ 7 * (1048576 + 12) := Nat.mul_le_mul_right _ (by omega)
      omega
    have HP1 : Hid ((partsE D.col D.np D.pri).size ≤ 2097168) := partsE_size (B := 1048576) (fun i hi => hf.col _ (by have := HIN.out i hi; omega)) hnp2.2
    have HP2 : Hid (∀ k, k < D.ni → (partsE D.col (D.idx k).n (D.idx k).part).size ≤ 2097168) := fun k hk => partsE_size (B := 1048576) (fun i hi => hf.col _ (by have := (HIX.out k hk).2 i hi; omega)) (HIX.out k hk).1.2
    have HS2 : Hid (∀ k, k ≤ D.ni → (idxT D k).size ≤ 15728848) := fun k hk => by
      have h1 := idxT_size (B := 1048576) hf.name hf.col hnc6 HP1.out (fun i hi => ⟨HXZ.out i hi, HP2.out i hi⟩) k hk
      have h2 : k * (3 * 1048576 + 24) ≤ 2 * (3 * 1048576 + 24) := Nat.mul_le_mul_right _ (by omega)
      omega
    have HCV : Hid (CView w ac D.nc cc D.col) := hcv
    have HPV : Hid (BView w ap D.np cp D.pri) := hpv
    have HIV : Hid (IView w ai D.ni ci D.idx) := hiv
    have HTY : Hid (TyN w) := hty
    have hnc := hf.nc
    have hni := hf.ni
    clear hf g2 G2 g5 G5 hcv hpv hiv hty hg hv hgood
    go_enter Tryz.func27, Tryz.ntmps27
    go_wp2_with fail
    refine hC.mono ?_
    rintro e w1 ⟨rfl, hb1⟩
    have hD1 := hD0.below hb1
    have hB1 : Below w.heap.size w w1 := hB0.trans (hb1.mono hB0.size)
    have hBL : Bld w1.heap.size ⟨#[]⟩ (w1.alloc (.cells #[.pointer none, .slice none 0 0] 54)) := Lib.fresh_isBuilder _ _ w1
    have hbA : Below w1.heap.size w1 (w1.alloc (.cells #[.pointer none, .slice none 0 0] 54)) := (Below.refl _ _).alloc (Nat.le_refl _) _
    have HT0 : Hid (colsT D.name D.col 0 = (⟨#[]⟩ : ByteArray) ++ ((⟨#[116, 97, 98, 108, 101, 32]⟩ : ByteArray) ++ D.name ++ (⟨#[32, 123, 32]⟩ : ByteArray))) := by
      show _ = _
      apply ByteArray.ext
      apply Array.ext'
      simp [colsT]
    have hW := hBL.write ((⟨#[116, 97, 98, 108, 101, 32]⟩ : ByteArray) ++ D.name ++ (⟨#[32, 123, 32]⟩ : ByteArray)) (by
      have a1 : (⟨#[116, 97, 98, 108, 101, 32]⟩ : ByteArray).size = 6 := rfl
      have a2 : (⟨#[32, 123, 32]⟩ : ByteArray).size = 3 := rfl
      have a3 : (⟨#[]⟩ : ByteArray).size = 0 := rfl
      rw [ByteArray.size_append, ByteArray.size_append]; omega)
    rw [← HT0.out] at hW
    have hDA := hD1.below hbA
    have a1 : (⟨#[116, 97, 98, 108, 101, 32]⟩ : ByteArray).size = 6 := rfl
    have a2 : (⟨#[32, 123, 32]⟩ : ByteArray).size = 3 := rfl
    have a3 : ((⟨#[116, 97, 98, 108, 101, 32]⟩ : ByteArray) ++ D.name).size = 6 + D.name.size := by rw [ByteArray.size_append]; rfl
    have a4 : ¬ (6 + D.name.size > 9223372036854775807) := by omega
    have a5 : ¬ (6 + D.name.size + 3 > 9223372036854775807) := by omega
    have HD1 : Hid (D4 w.heap.size (.string D.name) (.slice ac D.nc cc) (.slice ap D.np cp) (.slice ai D.ni ci) w1) := hD1
    have HB1 : Hid (Below w.heap.size w w1) := hB1
    have HBA : Hid (Below w1.heap.size w1 (w1.alloc (.cells #[.pointer none, .slice none 0 0] 54))) := hbA
    obtain ⟨lt1, y0, y1, y2, y3⟩ := hD1
    obtain ⟨lt0, x0, x1, x2, x3⟩ := hDA
    clear hC hb1 hB0 hD0 hB1 hBL hbA
    go_wp2_with fail
    refine hW.mono ?_
    rintro e w2 ⟨rfl, hL2, hb2⟩
    have hB2 : Below w1.heap.size w1 w2 := HBA.out.trans hb2
    have hdb : w.heap.size < w1.heap.size := lt1
    have HD4 : Hid (∀ W, Below w1.heap.size w1 W → D4 w.heap.size (.string D.name) (.slice ac D.nc cc) (.slice ap D.np cp) (.slice ai D.ni ci) W) := fun W h => HD1.out.below h
    have HUP : Hid (∀ W, Below w1.heap.size w1 W → Below w.heap.size w W) := fun W h => HB1.out.trans (h.mono (Nat.le_of_lt hdb))
    clear hW hb2 HBA x0 x1 x2 x3 lt0 y0 y1 y2 y3 lt1 HD1 HB1
    obtain ⟨b, hb⟩ : ∃ b, Hid (w1.heap.size = b) := ⟨_, rfl⟩
    rw [hb.out] at hL2 hB2 hdb HD4 HUP ⊢
    obtain ⟨lt2, x0, x1, x2, x3⟩ := HD4.out _ hB2
    go_wp2
    clear a1 a2 a3 a4 a5 x0 x1 x2 x3 lt2
    go_loopg [19] D.nc (fun q i wr => ∃ k : Nat, k ≤ D.nc ∧ q = D.nc - k ∧ i = .int .i64 k ∧ Bld b (colsT D.name D.col k) wr ∧ Below b w1 wr)
    case atStart => exact ⟨0, Nat.zero_le _, rfl, rfl, hL2, hB2⟩
    case round =>
      clear hL2 hB2
      obtain ⟨k, hk, rfl, rfl, hL, hB⟩ := hrel
      have hBw := HUP.out _ hB
      by_cases hlt : k < D.nc
      · have hkz : (k : Int) < (D.nc : Int) := by omega
        obtain ⟨b1, o1, eb, hb1, hcc⟩ := (HCV.out.below hBw).cells (by omega)
        obtain ⟨z0, z1, z2⟩ := hcc k hlt
        obtain ⟨t1, t4⟩ := HT.out k hlt
        have hCT := fun W (hb : Below wr.heap.size wr W) => colText_any (D.col k).name (D.col k).type (D.col k).null W t1 t4 (HCZ.out k hlt) ((HTY.out.below hBw).below hb)
        have HN : Hid (colsT D.name D.col (k + 1) = colsT D.name D.col k ++ colT (D.col k).name (D.col k).type (D.col k).null) := colsT_colT _ _ _
        have hjz := HS1.out (k + 1) (by omega)
        have HSZ : Hid ((colsT D.name D.col k).size + (colT (D.col k).name (D.col k).type (D.col k).null).size ≤ 7340116) := by
          have := HN.out
          rw [this, ByteArray.size_append] at hjz
          exact hjz
        obtain ⟨J, hJ⟩ : ∃ J, Hid (colsT D.name D.col k = J) := ⟨_, rfl⟩
        obtain ⟨T, hT⟩ : ∃ T, Hid (colT (D.col k).name (D.col k).type (D.col k).null = T) := ⟨_, rfl⟩
        obtain ⟨s0, hs0⟩ : ∃ p, Hid ((D.col k).name = p) := ⟨_, rfl⟩
        obtain ⟨s1, hs1⟩ : ∃ t, Hid ((D.col k).type = t) := ⟨_, rfl⟩
        obtain ⟨s2, hs2⟩ : ∃ b, Hid ((D.col k).null = b) := ⟨_, rfl⟩
        rw [hJ.out, hT.out] at HSZ HN
        rw [hJ.out] at hL
        simp only [hT.out] at hCT
        simp only [hs0.out, hs1.out, hs2.out] at hCT
        rw [hs0.out] at z0
        rw [hs1.out] at z1
        rw [hs2.out] at z2
        have hbc : Below wr.heap.size wr (wr.alloc (.cells #[.string s0, .int .i64 s1, .bool s2] 67)) := (Below.refl _ _).alloc (Nat.le_refl _) _
        have hC1 := hCT _ hbc
        have hL1 := hL.below hbc
        have hsb : b ≤ wr.heap.size := Nat.le_of_lt hL.lt
        have hBc := hB.trans (hbc.mono hsb)
        subst eb
        clear hcc hB hBw hCT hL hbc hjz t1 t4
        go_wp2_with fail
        refine hC1.mono ?_
        rintro e w3 ⟨rfl, hb3⟩
        have hL3 := hL1.below hb3
        have hB3 := hBc.trans (hb3.mono (by have := hBc.size; first | (simp at this ⊢; omega) | omega))
        have hW := hL3.write T (by have := HSZ.out; omega)
        rw [← HN.out] at hW
        clear hC1 hb3 hL3 hL1 hBc z0 z1 z2
        go_wp2_with fail
        refine hW.mono ?_
        rintro e w4 ⟨rfl, hL4, hb4⟩
        have HR : Hid (Bld b (colsT D.name D.col (k + 1)) w4 ∧ Below b w1 w4) := ⟨hL4, hB3.trans hb4⟩
        clear hW hL4 hb4 hB3
        go_wp2
        go_roundg (D.nc - (k + 1))
        case measure => omega
        case rel => exact ⟨k + 1, by omega, rfl, by go_num, HR.out.1, HR.out.2⟩
      · have hkz : ¬ (k : Int) < (D.nc : Int) := by omega
        obtain rfl : k = D.nc := by omega
        have hPT := partsText_any ac D.nc cc D.col ap D.np cp D.pri wr (HCV.out.below hBw) (HPV.out.below hBw) hnp2.1 hnp2.2 hnc HIN.out HCZ.out
        have hpz := HP1.out
        have hjz := HS1.out D.nc (Nat.le_refl _)
        have HI0 : Hid (idxT D 0 = colsT D.name D.col D.nc ++ ((⟨#[112, 114, 105, 109, 97, 114, 121, 32]⟩ : ByteArray) ++ partsE D.col D.np D.pri)) := by show _ = _; rw [idxT]
        obtain ⟨J, hJ⟩ : ∃ J, Hid (colsT D.name D.col D.nc = J) := ⟨_, rfl⟩
        obtain ⟨q, hq⟩ : ∃ q, Hid (partsE D.col D.np D.pri = q) := ⟨_, rfl⟩
        rw [hJ.out, hq.out] at HI0
        rw [hJ.out] at hL hjz
        rw [hq.out] at hPT hpz
        have hsb : b ≤ wr.heap.size := Nat.le_of_lt hL.lt
        have e1 : (⟨#[112, 114, 105, 109, 97, 114, 121, 32]⟩ : ByteArray).size = 8 := rfl
        have s1 : ¬ (8 + q.size > 9223372036854775807) := by omega
        obtain ⟨lt2, x0, x1, x2, x3⟩ := HD4.out _ hB
        clear hBw HT HS1
        go_wp2_with fail
        refine hPT.mono ?_
        rintro e w3 ⟨rfl, hb3⟩
        have hL3 := hL.below hb3
        have hB3 := hB.trans (hb3.mono hsb)
        have hW := hL3.write ((⟨#[112, 114, 105, 109, 97, 114, 121, 32]⟩ : ByteArray) ++ q) (by rw [ByteArray.size_append]; omega)
        rw [← HI0.out] at hW
        clear hPT hb3 hL3 hL hB x0 x1 x2 x3 lt2
        go_wp2_with fail
        refine hW.mono ?_
        rintro e w4 ⟨rfl, hL4, hb4⟩
        have hB4 := hB3.trans hb4
        obtain ⟨lt2, x0, x1, x2, x3⟩ := HD4.out _ hB4
        clear hW hb4 hB3 e1 s1
        go_wp2
        clear x0 x1 x2 x3 lt2
        go_loopg [37] D.ni (fun q i wr => ∃ k : Nat, k ≤ D.ni ∧ q = D.ni - k ∧ i = .int .i64 k ∧ Bld b (idxT D k) wr ∧ Below b w1 wr)
        case atStart => exact ⟨0, Nat.zero_le _, rfl, rfl, hL4, hB4⟩
        case round =>
          clear hL4 hB4
          obtain ⟨k, hk, rfl, rfl, hL, hB⟩ := hrel
          have hBw := HUP.out _ hB
          have hsb : b ≤ wr.heap.size := Nat.le_of_lt hL.lt
          by_cases hlt : k < D.ni
          · have hkz : (k : Int) < (D.ni : Int) := by omega
            obtain ⟨b1, o1, eb, hb1, hcc⟩ := (HIV.out.below hBw).cells (by omega)
            obtain ⟨z0, z1, a3, c3, z2, hv3⟩ := hcc k hlt
            have hIT := fun W (hb : Below wr.heap.size wr W) => indexText_any ac D.nc cc D.col (D.idx k) a3 c3 W ((HCV.out.below hBw).below hb) (hv3.below hb) (HIX.out k hlt).1.1 (HIX.out k hlt).1.2 hnc (HIX.out k hlt).2 HCZ.out (HXZ.out k hlt)
            have HN : Hid (idxT D (k + 1) = idxT D k ++ idxE D.col (D.idx k)) := idxT_idxE D k
            have hjz := HS2.out (k + 1) (by omega)
            have HSZ : Hid ((idxT D k).size + (idxE D.col (D.idx k)).size ≤ 15728848) := by
              have := HN.out
              rw [this, ByteArray.size_append] at hjz
              exact hjz
            obtain ⟨J, hJ⟩ : ∃ J, Hid (idxT D k = J) := ⟨_, rfl⟩
            obtain ⟨T, hT⟩ : ∃ T, Hid (idxE D.col (D.idx k) = T) := ⟨_, rfl⟩
            obtain ⟨s0, hs0⟩ : ∃ p, Hid ((D.idx k).name = p) := ⟨_, rfl⟩
            obtain ⟨s1, hs1⟩ : ∃ t, Hid ((D.idx k).uniq = t) := ⟨_, rfl⟩
            obtain ⟨s2, hs2⟩ : ∃ b, Hid ((D.idx k).n = b) := ⟨_, rfl⟩
            rw [hJ.out, hT.out] at HSZ HN
            rw [hJ.out] at hL
            simp only [hT.out] at hIT
            simp only [hs0.out, hs1.out, hs2.out] at hIT
            rw [hs0.out] at z0
            rw [hs1.out] at z1
            rw [hs2.out] at z2
            have hbc : Below wr.heap.size wr (wr.alloc (.cells #[.string s0, .bool s1, .slice a3 s2 c3] 73)) := (Below.refl _ _).alloc (Nat.le_refl _) _
            have hC1 := hIT _ hbc
            have hL1 := hL.below hbc
            have hBc := hB.trans (hbc.mono hsb)
            obtain ⟨lt2, x0, x1, x2, x3⟩ := HD4.out _ hB
            have hA2 : w.heap.size < wr.heap.size := lt2
            subst eb
            clear hcc hB hBw hIT hL hbc hjz hv3
            go_wp2_with fail
            refine hC1.mono ?_
            rintro e w3 ⟨rfl, hb3⟩
            have hL3 := hL1.below hb3
            have hB3 := hBc.trans (hb3.mono (by have := hBc.size; first | (simp at this ⊢; omega) | omega))
            have hW := hL3.write T (by have := HSZ.out; omega)
            rw [← HN.out] at hW
            clear hC1 hb3 hL3 hL1 hBc z0 z1 z2 x0 x1 x2 x3 lt2 hA2
            go_wp2_with fail
            refine hW.mono ?_
            rintro e w4 ⟨rfl, hL4, hb4⟩
            have HR : Hid (Bld b (idxT D (k + 1)) w4 ∧ Below b w1 w4) := ⟨hL4, hB3.trans hb4⟩
            clear hW hL4 hb4 hB3
            go_wp2
            go_roundg (D.ni - (k + 1))
            case measure => omega
            case rel => exact ⟨k + 1, by omega, rfl, by go_num, HR.out.1, HR.out.2⟩
          · have hkz : ¬ (k : Int) < (D.ni : Int) := by omega
            obtain rfl : k = D.ni := by omega
            have hjz := HS2.out D.ni (Nat.le_refl _)
            have hW := hL.write (⟨#[125]⟩ : ByteArray) (by have e1 : (⟨#[125]⟩ : ByteArray).size = 1 := rfl; omega)
            rw [← HD.out] at hW
            obtain ⟨z, hz⟩ : ∃ z, Hid (defText D = z) := ⟨_, rfl⟩
            rw [hz.out] at hW
            clear hL hBw
            go_wp2_with fail
            refine hW.mono ?_
            rintro e w3 ⟨rfl, hL3, hb3⟩
            have hB3 := hB.trans hb3
            have hS := Tryz.Builder_String_any b b _ w3 hL3 (Nat.le_of_lt hL3.lt)
            clear hW hb3 hB
            go_wp2_with fail
            refine hS.mono ?_
            rintro e w4 ⟨rfl, hb4⟩
            have HR : Hid (Below w.heap.size w w4) := HUP.out _ (hB3.trans hb4)
            clear hS hb4 hB3 hL3
            go_wp2
            go_ret
            exact ⟨by rw [hz.out]; rfl, HR.out⟩
  · have HD : Hid (defText D = ⟨#[]⟩) := by show _ = _; unfold defText; rw [if_neg hgood]
    have hne : (checkF D != 0) = true := by simpa using hgood
    obtain ⟨z, hz⟩ : ∃ z, Hid (checkF D = z) := ⟨_, rfl⟩
    rw [hz.out] at hC hne
    clear hf hcv hpv hiv hty hg hv hgood
    go_enter Tryz.func27, Tryz.ntmps27
    go_wp2_with fail
    refine hC.mono ?_
    rintro e w1 ⟨rfl, hb1⟩
    have HB : Hid (Below w.heap.size w w1) := hB0.trans (hb1.mono hB0.size)
    clear hC hb1
    go_wp2
    go_ret
    exact ⟨by rw [HD.out]; rfl, HB.out⟩
end Go.Proofs.YtnpfgamlncfikaaGreatDoor

/-
  The text of tables is not long.
-/
namespace Go.Proofs.YtnpfgamlncfikaaGreatDoor
open Go.RowKit
set_option maxRecDepth 4000

/-- A table's text, whatever its names. -/
theorem defText_size (D : PDef) : (defText D).size ≤ 2000 := by
  unfold defText
  split
  · rename_i h
    obtain ⟨g1, g2, -, g4, g5, -⟩ := checkF_good h
    unfold namesF at g1
    unfold typesF at g2
    unfold allPartsF at g5
    obtain ⟨hw, hi, hn⟩ := of_decide_eq_true g1
    obtain ⟨ht, hc1, hc6⟩ := of_decide_eq_true g2
    obtain ⟨hpi, hpp⟩ := of_decide_eq_true g5
    have h8 : ∀ {s}, wordOk s = true → s.size ≤ 8 := fun hs => by
      have := word_name hs
      unfold nameOk at this
      exact (of_decide_eq_true this).2.1
    have hcol : ∀ i, i < D.nc → (D.col i).name.size ≤ 8 := fun i h => h8 (hw i h)
    have hpp' : (partsE D.col D.np D.pri).size ≤ 2 * 8 + 16 := partsE_size (fun i h => hcol _ (by have := partsF_in hpp h; omega)) (partsF_two hpp).2
    have := idxT_size (B := 8) (h8 hn) hcol hc6 hpp' (fun i h => ⟨h8 (hi i h), partsE_size (fun j hj => hcol _ (by have := partsF_in (hpi i h) hj; omega)) (partsF_two (hpi i h)).2⟩) D.ni (Nat.le_refl _)
    have hni : D.ni ≤ 2 := g4
    have h3 : D.ni * (3 * 8 + 24) ≤ 2 * (3 * 8 + 24) := Nat.mul_le_mul_right _ hni
    unfold textG
    rw [ByteArray.size_append]
    have e : (⟨#[125]⟩ : ByteArray).size = 1 := rfl
    omega
  · exact Nat.zero_le _
theorem defsT_size (f : Nat → PDef) : ∀ k, (defsT f k).size ≤ k * 2001
  | 0 => Nat.zero_le _
  | k + 1 => by
    have ih := defsT_size f k
    have h := defText_size (f k)
    have e : (⟨#[10]⟩ : ByteArray).size = 1 := rfl
    rw [defsT, ByteArray.size_append, ByteArray.size_append]
    omega
end Go.Proofs.YtnpfgamlncfikaaGreatDoor

/-
  The program's DefsText comes to the plain one.
-/
namespace Go.Proofs.YtnpfgamlncfikaaGreatDoor
open Go.RowKit
set_option maxRecDepth 4000

set_option maxHeartbeats 4000000 in
theorem implTexts_any (a : Option Addr) (n cap : Nat) (f : Nat → PDef) (w : World) (h : LView w a n cap f) (hf : LFine n f)
    (hI : ∀ (W : World) (v : Value) (D : PDef), Below w.heap.size w W → DView W v D → DFine D → Calls Tryz.prog 27 #[v] W fun e w' => e = .returned (.string (defText D)) ∧ Below W.heap.size W w') :
    Calls Tryz.prog 10 #[.slice a n cap] w fun e w' => e = .returned (.string (defsT f n)) ∧ Below w.heap.size w w' := by
  have hn := hf.few
  have hBL : Bld w.heap.size ⟨#[]⟩ (w.alloc (.cells #[.pointer none, .slice none 0 0] 54)) := Lib.fresh_isBuilder _ _ w
  have hbA : Below w.heap.size w (w.alloc (.cells #[.pointer none, .slice none 0 0] 54)) := (Below.refl _ _).alloc (Nat.le_refl _) _
  go_enter Tryz.func10, Tryz.ntmps10
  go_wp2
  go_loopg [8] n (fun q i wr => ∃ k : Nat, k ≤ n ∧ q = n - k ∧ i = .int .i64 k ∧ Bld w.heap.size (defsT f k) wr ∧ Below w.heap.size w wr)
  case atStart => exact ⟨0, Nat.zero_le _, rfl, rfl, hBL, hbA⟩
  case round =>
    clear hBL hbA
    obtain ⟨k, hk, rfl, rfl, hL, hB⟩ := hrel
    by_cases hlt : k < n
    · have hkz : (k : Int) < (n : Int) := by omega
      obtain ⟨b1, o1, rfl, hb1, hc1⟩ := (h.below hB).cells (by omega)
      obtain ⟨y1, y2, y3, x0, x1, x2, x3, hv⟩ := hc1 k hlt
      obtain ⟨ac, cc, ap, cp, ai, ci, -, rfl, rfl, rfl, -, -, -⟩ := hv.parts
      obtain ⟨n1, hn1⟩ : ∃ x, Hid ((f k).nc = x) := ⟨_, rfl⟩
      obtain ⟨n2, hn2⟩ : ∃ x, Hid ((f k).np = x) := ⟨_, rfl⟩
      obtain ⟨n3, hn3⟩ : ∃ x, Hid ((f k).ni = x) := ⟨_, rfl⟩
      simp only [hn1.out, hn2.out, hn3.out] at x1 x2 x3 hv
      obtain ⟨p0, hp0⟩ : ∃ x, Hid ((f k).name = x) := ⟨_, rfl⟩
      simp only [hp0.out] at x0 hv
      have hb2 : Below wr.heap.size wr (wr.alloc (.cells #[.string p0, .slice ac n1 cc, .slice ap n2 cp, .slice ai n3 ci] 35)) := (Below.refl _ _).alloc (Nat.le_refl _) _
      have HB2 : Hid (Below w.heap.size w (wr.alloc (.cells #[.string p0, .slice ac n1 cc, .slice ap n2 cp, .slice ai n3 ci] 35))) := hB.trans (hb2.mono hB.size)
      have hC := hI _ _ (f k) HB2.out (hv.below hb2) (hf.at_ k hlt)
      obtain ⟨c, hc⟩ : ∃ c, Hid (defText (f k) = c) := ⟨_, rfl⟩
      have hcs : c.size ≤ 2000 := by rw [← hc.out]; exact defText_size _
      have hts := defsT_size f k
      have HN : Hid (defsT f (k + 1) = defsT f k ++ (c ++ (⟨#[10]⟩ : ByteArray))) := by
        show defsT f k ++ defText (f k) ++ (⟨#[10]⟩ : ByteArray) = _
        rw [hc.out]
        apply ByteArray.ext
        apply Array.ext'
        simp
      have e10 : (⟨#[10]⟩ : ByteArray).size = 1 := rfl
      have hcc : (c ++ (⟨#[10]⟩ : ByteArray)).size = c.size + 1 := by rw [ByteArray.size_append, e10]
      have hg : ¬ (c.size + 1 > 9223372036854775807) := by omega
      obtain ⟨J, hJ⟩ : ∃ J, Hid (defsT f k = J) := ⟨_, rfl⟩
      rw [hJ.out] at hL HN hts
      simp only [hc.out] at hC
      have hL2 := hL.below hb2
      clear hI hv hf h hc1 hL hb2
      go_wp2_with fail
      refine hC.mono ?_
      rintro e w2 ⟨rfl, hb3⟩
      have HB3 : Hid (Below w.heap.size w w2) := HB2.out.trans (hb3.mono HB2.out.size)
      have hL3 := hL2.below hb3
      have hW := hL3.write (c ++ (⟨#[10]⟩ : ByteArray)) (by rw [hcc]; omega)
      rw [← HN.out] at hW
      obtain ⟨Z, hZ⟩ : ∃ Z, Hid (defsT f (k + 1) = Z) := ⟨_, rfl⟩
      rw [hZ.out] at hW
      clear hC hb3 hL2 hL3 HB2 x0 x1 x2 x3 hB HN
      go_wp2_with fail
      refine hW.mono ?_
      rintro e w4 ⟨rfl, hL4, hb4⟩
      have HR : Hid (Bld w.heap.size (defsT f (k + 1)) w4 ∧ Below w.heap.size w w4) := ⟨by rw [hZ.out]; exact hL4, HB3.out.trans hb4⟩
      clear hW hL4 hb4
      go_wp2
      go_roundg (n - (k + 1))
      case measure => omega
      case rel => exact ⟨k + 1, by omega, rfl, by go_num, HR.out.1, HR.out.2⟩
    · have hkz : ¬ (k : Int) < (n : Int) := by omega
      obtain rfl : k = n := by omega
      have hS := Tryz.Builder_String_any w.heap.size w.heap.size _ wr hL (Nat.le_of_lt hL.lt)
      obtain ⟨Z, hZ⟩ : ∃ Z, Hid (defsT f k = Z) := ⟨_, rfl⟩
      rw [hZ.out] at hS
      clear h hf hI hL
      go_wp2_with fail
      refine hS.mono ?_
      rintro e w4 ⟨rfl, hb4⟩
      have HR : Hid (Below w.heap.size w w4) := hB.trans hb4
      clear hS hb4 hB
      go_wp2
      go_ret
      exact ⟨by rw [hZ.out]; rfl, HR.out⟩
end Go.Proofs.YtnpfgamlncfikaaGreatDoor

