/-
  Together: DefTextSpec, TextsSpec, SameEq9
-/
import Derived.Test.YtnpfgamlncfikaaGreatDoorPackF19
import Derived.Test.YtnpfgamlncfikaaGreatDoorPackF23
import Derived.Test.YtnpfgamlncfikaaGreatDoorPackF12
import Derived.Test.YtnpfgamlncfikaaGreatDoorPackF36
import Derived.Deep.LoopGhost
import Derived.Test.YtnpfgamlncfikaaGreatDoorPackF4
import Derived.Test.YtnpfgamlncfikaaGreatDoorPackF5
import Derived.Deep.QuietTactic
import Derived.BigQuiet
import Derived.Laws.StructEq
/-
  The model's DefText comes to the plain one.
-/
namespace Go.Proofs.YtnpfgamlncfikaaGreatDoor
open Go.RowKit
set_option maxRecDepth 4000

set_option maxHeartbeats 4000000 in
theorem specText_any (v : Value) (D : PDef) (w : World) (h : DView w v D) (hf : DFine D) :
    Calls Tryz.prog 32 #[v] w fun e w' => e = .returned (.string (defText D)) ∧ Below w.heap.size w w' := by
  have hv := h
  obtain ⟨ac, cc, ap, cp, ai, ci, rfl, hc, hp, hi⟩ := h.is
  clear h
  have hB0 := box4_start w (.cells #[.string D.name, .slice ac D.nc cc, .slice ap D.np cp, .slice ai D.ni ci] 35)
  obtain ⟨hBw0, -⟩ := box4_below hB0
  have hC := specCheck_any _ D _ (hv.below hBw0) hf
  by_cases hg : checkF D = 0
  · have HD : Hid (defText D = idxT D D.ni ++ (⟨#[125]⟩ : ByteArray)) := by show _ = _; unfold defText; rw [if_pos hg]; rfl
    rw [hg] at hC
    obtain ⟨-, g2, -, g4, g5, -⟩ := checkF_good hg
    unfold typesF at g2
    have G2 := of_decide_eq_true g2
    unfold allPartsF at g5
    have G5 := of_decide_eq_true g5
    have hnc6 : D.nc ≤ 6 := G2.2.2
    have hnp2 := (partsF_two G5.2).2
    have HT : Hid (∀ i, i < D.nc → 1 ≤ (D.col i).type ∧ (D.col i).type ≤ 4) := G2.1
    have HIN : Hid (∀ i, i < D.np → 0 ≤ (D.pri i).col ∧ (D.pri i).col < D.nc) := fun i hi => partsF_in G5.2 hi
    have HIX : Hid (∀ k, k < D.ni → (D.idx k).n ≤ 2 ∧ ∀ i, i < (D.idx k).n → 0 ≤ ((D.idx k).part i).col ∧ ((D.idx k).part i).col < D.nc) := fun k hk => ⟨(partsF_two (G5.1 k hk)).2, fun i hi => partsF_in (G5.1 k hk) hi⟩
    have HCZ : Hid (∀ i, i < D.nc → (D.col i).name.size ≤ 1048576) := hf.col
    have HXZ : Hid (∀ i, i < D.ni → (D.idx i).name.size ≤ 1048576) := fun i hi => (hf.idx i hi).1
    have hnz := hf.name
    have HS1 : Hid (∀ k, k ≤ D.nc → (colsT D.name D.col k).size ≤ 7340116) := fun k hk => by
      have h1 := colsT_size hf.name hf.col k hk
      have h2 : (k + 1) * (1048576 + 12) ≤ 7 * (1048576 + 12) := Nat.mul_le_mul_right _ (by omega)
      omega
    have HP1 : Hid ((partsE D.col D.np D.pri).size ≤ 2097168) := partsE_size (B := 1048576) (fun i hi => hf.col _ (by have := HIN.out i hi; omega)) hnp2
    have HP2 : Hid (∀ k, k < D.ni → (partsE D.col (D.idx k).n (D.idx k).part).size ≤ 2097168) := fun k hk => partsE_size (B := 1048576) (fun i hi => hf.col _ (by have := (HIX.out k hk).2 i hi; omega)) (HIX.out k hk).1
    have HS2 : Hid (∀ k, k ≤ D.ni → (idxT D k).size ≤ 15728848) := fun k hk => by
      have h1 := idxT_size (B := 1048576) hf.name hf.col hnc6 HP1.out (fun i hi => ⟨HXZ.out i hi, HP2.out i hi⟩) k hk
      have h2 : k * (3 * 1048576 + 24) ≤ 2 * (3 * 1048576 + 24) := Nat.mul_le_mul_right _ (by omega)
      omega
    clear hf g2 G2 g5 G5
    go_enter Tryz.func32, Tryz.ntmps32
    go_wp2_with fail
    refine hC.mono ?_
    rintro e w1 ⟨rfl, hb1⟩
    have hB1 := box4_on hB0 hb1
    obtain ⟨x0, x1, x2, x3⟩ := box4 hB1
    have a1 : (⟨#[116, 97, 98, 108, 101, 32]⟩ : ByteArray).size = 6 := rfl
    have a2 : (⟨#[32, 123, 32]⟩ : ByteArray).size = 3 := rfl
    have a3 : ((⟨#[116, 97, 98, 108, 101, 32]⟩ : ByteArray) ++ D.name).size = 6 + D.name.size := by rw [ByteArray.size_append]; rfl
    have a4 : ¬ (6 + D.name.size > 9223372036854775807) := by omega
    have a5 : ¬ (6 + D.name.size + 3 > 9223372036854775807) := by omega
    clear hC hb1 hB0 hBw0
    go_wp2
    clear a1 a2 a3 a4 a5
    go_loopg [3, 4] D.nc (fun q s i wr => ∃ k : Nat, k ≤ D.nc ∧ q = D.nc - k ∧ i = .int .i64 k ∧ s = .string (colsT D.name D.col k) ∧ Below (w.heap.size + 1) (w.alloc (.cells #[.string D.name, .slice ac D.nc cc, .slice ap D.np cp, .slice ai D.ni ci] 35)) wr)
    case atStart => exact ⟨0, Nat.zero_le _, rfl, rfl, rfl, hB1⟩
    case round =>
      clear hB1 x0 x1 x2 x3
      obtain ⟨k, hk, rfl, rfl, rfl, hB⟩ := hrel
      obtain ⟨x0, x1, x2, x3⟩ := box4 hB
      obtain ⟨hBw, hsz⟩ := box4_below hB
      by_cases hlt : k < D.nc
      · have hkz : (k : Int) < (D.nc : Int) := by omega
        obtain ⟨b1, o1, rfl, hb1, hcc⟩ := (hc.below hBw).cells (by omega)
        obtain ⟨z0, z1, z2⟩ := hcc k hlt
        have hzk := HCZ.out k hlt
        obtain ⟨t1, t4⟩ := HT.out k hlt
        have hjz := HS1.out k hk
        have HN : Hid (colsT D.name D.col (k + 1) = (let s := colsT D.name D.col k ++ (D.col k).name ++ (⟨#[32]⟩ : ByteArray) ++ typeW (D.col k).type; (if (D.col k).null then s ++ (⟨#[32, 110, 117, 108, 108]⟩ : ByteArray) else s) ++ (⟨#[59, 32]⟩ : ByteArray))) := rfl
        obtain ⟨J, hJ⟩ : ∃ J, Hid (colsT D.name D.col k = J) := ⟨_, rfl⟩
        obtain ⟨z, hz⟩ : ∃ p, Hid ((D.col k).name = p) := ⟨_, rfl⟩
        obtain ⟨t, ht⟩ : ∃ t, Hid ((D.col k).type = t) := ⟨_, rfl⟩
        obtain ⟨nl, hnl⟩ : ∃ b, Hid ((D.col k).null = b) := ⟨_, rfl⟩
        rw [hJ.out] at HN hjz ⊢
        rw [hz.out] at HN z0 hzk
        rw [ht.out] at HN z1 t1 t4
        rw [hnl.out] at HN z2
        have hL := fun W => l9Type_any t W t1 t4
        have htz := typeW_size t
        obtain ⟨ty, hty⟩ : ∃ s, Hid (typeW t = s) := ⟨_, rfl⟩
        rw [hty.out] at HN htz
        simp only [hty.out] at hL
        have HB : Hid (Below (w.heap.size + 1) (w.alloc (.cells #[.string D.name, .slice (some ⟨b1, o1, none⟩) D.nc cc, .slice ap D.np cp, .slice ai D.ni ci] 35)) wr) := hB
        have e1 : (⟨#[32]⟩ : ByteArray).size = 1 := rfl
        have e2 : (⟨#[32, 110, 117, 108, 108]⟩ : ByteArray).size = 5 := rfl
        have e3 : (⟨#[59, 32]⟩ : ByteArray).size = 2 := rfl
        have s1 : ¬ (J.size + z.size > 9223372036854775807) := by omega
        have s2 : (J ++ z).size = J.size + z.size := by rw [ByteArray.size_append]
        have s3 : ¬ (J.size + z.size + 1 > 9223372036854775807) := by omega
        have s4 : (J ++ z ++ (⟨#[32]⟩ : ByteArray)).size = J.size + z.size + 1 := by rw [ByteArray.size_append, s2]; rfl
        have s5 : ¬ (J.size + z.size + 1 + ty.size > 9223372036854775807) := by omega
        have s6 : (J ++ z ++ (⟨#[32]⟩ : ByteArray) ++ ty).size = J.size + z.size + 1 + ty.size := by rw [ByteArray.size_append, s4]
        have s7 : ¬ (J.size + z.size + 1 + ty.size + 5 > 9223372036854775807) := by omega
        have s8 : (J ++ z ++ (⟨#[32]⟩ : ByteArray) ++ ty ++ (⟨#[32, 110, 117, 108, 108]⟩ : ByteArray)).size = J.size + z.size + 1 + ty.size + 5 := by rw [ByteArray.size_append, s6]; rfl
        have s9 : ¬ (J.size + z.size + 1 + ty.size + 5 + 2 > 9223372036854775807) := by omega
        have s10 : ¬ (J.size + z.size + 1 + ty.size + 2 > 9223372036854775807) := by omega
        have HWK : Hid (∀ W, Below wr.heap.size wr W → (W.cell? ⟨w.heap.size, 0, none⟩ = some (.string D.name) ∧ W.cell? ⟨w.heap.size, 1, none⟩ = some (.slice (some ⟨b1, o1, none⟩) D.nc cc) ∧ W.cell? ⟨w.heap.size, 2, none⟩ = some (.slice ap D.np cp) ∧ W.cell? ⟨w.heap.size, 3, none⟩ = some (.slice ai D.ni ci)) ∧ (W.cell? ⟨b1, o1 + k * 3, none⟩ = some (.string z) ∧ W.cell? ⟨b1, o1 + k * 3 + 1, none⟩ = some (.int .i64 t) ∧ W.cell? ⟨b1, o1 + k * 3 + 2, none⟩ = some (.bool nl))) := by
          intro W hb
          refine ⟨⟨?_, ?_, ?_, ?_⟩, ?_, ?_, ?_⟩ <;> (rw [hb.cell (by first | exact hsz | exact hb1)]; assumption)
        clear hcc hc hp hi hB hBw HT HIN HIX HCZ HXZ HS1 HP1 HP2 HS2 hv
        go_wp2_with fail
        go_region_held3 (fun WW => (WW.cell? ⟨w.heap.size, 0, none⟩ = some (.string D.name) ∧ WW.cell? ⟨w.heap.size, 1, none⟩ = some (.slice (some ⟨b1, o1, none⟩) D.nc cc) ∧ WW.cell? ⟨w.heap.size, 2, none⟩ = some (.slice ap D.np cp) ∧ WW.cell? ⟨w.heap.size, 3, none⟩ = some (.slice ai D.ni ci)) ∧ (WW.cell? ⟨b1, o1 + k * 3, none⟩ = some (.string z) ∧ WW.cell? ⟨b1, o1 + k * 3 + 1, none⟩ = some (.int .i64 t) ∧ WW.cell? ⟨b1, o1 + k * 3 + 2, none⟩ = some (.bool nl))) (first | assumption | go_keep) (first | (go_at_call 72; refine (hL _).mono ?_; rintro e w2 ⟨rfl, hB2⟩; have hcells : (w2.cell? ⟨w.heap.size, 0, none⟩ = some (.string D.name) ∧ w2.cell? ⟨w.heap.size, 1, none⟩ = some (.slice (some ⟨b1, o1, none⟩) D.nc cc) ∧ w2.cell? ⟨w.heap.size, 2, none⟩ = some (.slice ap D.np cp) ∧ w2.cell? ⟨w.heap.size, 3, none⟩ = some (.slice ai D.ni ci)) ∧ (w2.cell? ⟨b1, o1 + k * 3, none⟩ = some (.string z) ∧ w2.cell? ⟨b1, o1 + k * 3 + 1, none⟩ = some (.int .i64 t) ∧ w2.cell? ⟨b1, o1 + k * 3 + 2, none⟩ = some (.bool nl)) := HWK.out _ (Below.trans (by repeat (first | exact Below.refl _ _ | refine Below.drew ?_)) hB2)))
        all_goals
          have hb2 : Below wr.heap.size wr w2 := Below.trans (by repeat (first | exact Below.refl _ _ | refine Below.drew ?_)) hB2
          have HB2 : Hid (Below (w.heap.size + 1) (w.alloc (.cells #[.string D.name, .slice (some ⟨b1, o1, none⟩) D.nc cc, .slice ap D.np cp, .slice ai D.ni ci] 35)) w2) := box4_on HB.out hb2
          obtain ⟨⟨x0, x1, x2, x3⟩, z0, z1, z2⟩ := hcells
          clear hB2 hb2 hL HB HWK
          cases nl with
          | true =>
            have HN' : Hid (colsT D.name D.col (k + 1) = J ++ z ++ (⟨#[32]⟩ : ByteArray) ++ ty ++ (⟨#[32, 110, 117, 108, 108]⟩ : ByteArray) ++ (⟨#[59, 32]⟩ : ByteArray)) := HN.out
            clear HN
            go_wp2
            go_roundg (D.nc - (k + 1))
            case measure => omega
            case rel => exact ⟨k + 1, by omega, rfl, by go_num, by rw [HN'.out], by first | exact HB2.out | exact HB2.out.drew⟩
          | false =>
            have HN' : Hid (colsT D.name D.col (k + 1) = J ++ z ++ (⟨#[32]⟩ : ByteArray) ++ ty ++ (⟨#[59, 32]⟩ : ByteArray)) := HN.out
            clear HN
            go_wp2
            go_roundg (D.nc - (k + 1))
            case measure => omega
            case rel => exact ⟨k + 1, by omega, rfl, by go_num, by rw [HN'.out], by first | exact HB2.out | exact HB2.out.drew⟩
      · have hkz : ¬ (k : Int) < (D.nc : Int) := by omega
        obtain rfl : k = D.nc := by omega
        have hL := l9PartsText_any _ D ap D.np cp D.pri wr (hv.below hBw) (hp.below hBw) (by omega) (by omega) HIN.out HCZ.out
        have hjz := HS1.out D.nc hk
        have hpz := HP1.out
        have HI0 : Hid (idxT D 0 = colsT D.name D.col D.nc ++ (⟨#[112, 114, 105, 109, 97, 114, 121, 32]⟩ : ByteArray) ++ partsE D.col D.np D.pri) := by
          show _ = _
          rw [idxT, ByteArray.append_assoc]
        obtain ⟨J, hJ⟩ : ∃ J, Hid (colsT D.name D.col D.nc = J) := ⟨_, rfl⟩
        obtain ⟨q, hq⟩ : ∃ q, Hid (partsE D.col D.np D.pri = q) := ⟨_, rfl⟩
        rw [hJ.out] at HI0 hjz ⊢
        rw [hq.out] at HI0 hpz hL
        have e1 : (⟨#[112, 114, 105, 109, 97, 114, 121, 32]⟩ : ByteArray).size = 8 := rfl
        have s1 : ¬ (J.size + 8 > 9223372036854775807) := by omega
        have s2 : (J ++ (⟨#[112, 114, 105, 109, 97, 114, 121, 32]⟩ : ByteArray)).size = J.size + 8 := by rw [ByteArray.size_append]; rfl
        have s3 : ¬ (J.size + 8 + q.size > 9223372036854775807) := by omega
        clear HT HS1 HP1 hc hp HIN
        go_wp2_with fail
        refine hL.mono ?_
        rintro e w3 ⟨rfl, hb3⟩
        have hB3 := box4_on hB hb3
        clear hL hb3 hB hBw x0 x1 x2 x3
        go_wp2
        clear e1 s1 s2 s3
        go_loopg [3, 5] D.ni (fun q s i wr => ∃ k : Nat, k ≤ D.ni ∧ q = D.ni - k ∧ i = .int .i64 k ∧ s = .string (idxT D k) ∧ Below (w.heap.size + 1) (w.alloc (.cells #[.string D.name, .slice ac D.nc cc, .slice ap D.np cp, .slice ai D.ni ci] 35)) wr)
        case atStart => exact ⟨0, Nat.zero_le _, rfl, rfl, by rw [HI0.out], hB3⟩
        case round =>
          clear hB3 hjz hpz HI0 hJ hq hkz hlt hk
          obtain ⟨k, hk, rfl, rfl, rfl, hB⟩ := hrel
          obtain ⟨x0, x1, x2, x3⟩ := box4 hB
          obtain ⟨hBw, hsz⟩ := box4_below hB
          by_cases hlt : k < D.ni
          · have hkz : (k : Int) < (D.ni : Int) := by omega
            obtain ⟨b1, o1, rfl, hb1, hcc⟩ := (hi.below hBw).cells (by omega)
            obtain ⟨z0, z1, a2, c2, z2, hv2⟩ := hcc k hlt
            have hzk := HXZ.out k hlt
            have hpz := HP2.out k hlt
            obtain ⟨n2x, hinx⟩ := HIX.out k hlt
            have hjz := HS2.out k hk
            have hL := fun W (hb : Below w.heap.size w W) (hw : Below wr.heap.size wr W) => l9PartsText_any _ D a2 (D.idx k).n c2 (D.idx k).part W (hv.below hb) (hv2.below hw) (by omega) (by omega) hinx HCZ.out
            have HN : Hid (idxT D (k + 1) = idxT D k ++ (if (D.idx k).uniq then (⟨#[117, 110, 105, 113, 117, 101, 32]⟩ : ByteArray) else (⟨#[105, 110, 100, 101, 120, 32]⟩ : ByteArray)) ++ (D.idx k).name ++ (⟨#[32]⟩ : ByteArray) ++ partsE D.col (D.idx k).n (D.idx k).part) := rfl
            obtain ⟨J, hJ⟩ : ∃ J, Hid (idxT D k = J) := ⟨_, rfl⟩
            obtain ⟨z, hz⟩ : ∃ p, Hid ((D.idx k).name = p) := ⟨_, rfl⟩
            obtain ⟨nl, hnl⟩ : ∃ b, Hid ((D.idx k).uniq = b) := ⟨_, rfl⟩
            obtain ⟨q, hq⟩ : ∃ q, Hid (partsE D.col (D.idx k).n (D.idx k).part = q) := ⟨_, rfl⟩
            rw [hJ.out] at HN hjz ⊢
            rw [hz.out] at HN z0 hzk
            rw [hnl.out] at HN z1
            rw [hq.out] at HN hpz
            simp only [hq.out] at hL
            obtain ⟨n2, hn2⟩ : ∃ n, Hid ((D.idx k).n = n) := ⟨_, rfl⟩
            rw [hn2.out] at z2
            simp only [hn2.out] at hL
            have HB : Hid (Below (w.heap.size + 1) (w.alloc (.cells #[.string D.name, .slice ac D.nc cc, .slice ap D.np cp, .slice (some ⟨b1, o1, none⟩) D.ni ci] 35)) wr) := hB
            have HBw : Hid (Below w.heap.size w wr) := hBw
            have HWK : Hid (∀ W, Below wr.heap.size wr W → (W.cell? ⟨w.heap.size, 0, none⟩ = some (.string D.name) ∧ W.cell? ⟨w.heap.size, 1, none⟩ = some (.slice ac D.nc cc) ∧ W.cell? ⟨w.heap.size, 2, none⟩ = some (.slice ap D.np cp) ∧ W.cell? ⟨w.heap.size, 3, none⟩ = some (.slice (some ⟨b1, o1, none⟩) D.ni ci)) ∧ (W.cell? ⟨b1, o1 + k * 3, none⟩ = some (.string z) ∧ W.cell? ⟨b1, o1 + k * 3 + 2, none⟩ = some (.slice a2 n2 c2))) := by
              intro W hb
              refine ⟨⟨?_, ?_, ?_, ?_⟩, ?_, ?_⟩ <;> (rw [hb.cell (by first | exact hsz | exact hb1)]; assumption)
            have e1 : (⟨#[32]⟩ : ByteArray).size = 1 := rfl
            have e2 : (⟨#[117, 110, 105, 113, 117, 101, 32]⟩ : ByteArray).size = 7 := rfl
            have e3 : (⟨#[105, 110, 100, 101, 120, 32]⟩ : ByteArray).size = 6 := rfl
            clear hcc hi hB hBw HIX HCZ HXZ HP2 HS2 hv hv2 hinx n2x
            cases nl with
            | true =>
              have HN' : Hid (idxT D (k + 1) = J ++ (⟨#[117, 110, 105, 113, 117, 101, 32]⟩ : ByteArray) ++ z ++ (⟨#[32]⟩ : ByteArray) ++ q) := HN.out
              clear HN
              have s1 : ¬ (J.size + 7 > 9223372036854775807) := by omega
              have s2 : (J ++ (⟨#[117, 110, 105, 113, 117, 101, 32]⟩ : ByteArray)).size = J.size + 7 := by rw [ByteArray.size_append]; rfl
              have s3 : ¬ (J.size + 7 + z.size > 9223372036854775807) := by omega
              have s4 : (J ++ (⟨#[117, 110, 105, 113, 117, 101, 32]⟩ : ByteArray) ++ z).size = J.size + 7 + z.size := by rw [ByteArray.size_append, s2]
              have s5 : ¬ (J.size + 7 + z.size + 1 > 9223372036854775807) := by omega
              have s6 : (J ++ (⟨#[117, 110, 105, 113, 117, 101, 32]⟩ : ByteArray) ++ z ++ (⟨#[32]⟩ : ByteArray)).size = J.size + 7 + z.size + 1 := by rw [ByteArray.size_append, s4]; rfl
              have s7 : ¬ (J.size + 7 + z.size + 1 + q.size > 9223372036854775807) := by omega
              go_wp2_with fail
              go_region_held3 (fun WW => (WW.cell? ⟨w.heap.size, 0, none⟩ = some (.string D.name) ∧ WW.cell? ⟨w.heap.size, 1, none⟩ = some (.slice ac D.nc cc) ∧ WW.cell? ⟨w.heap.size, 2, none⟩ = some (.slice ap D.np cp) ∧ WW.cell? ⟨w.heap.size, 3, none⟩ = some (.slice (some ⟨b1, o1, none⟩) D.ni ci)) ∧ (WW.cell? ⟨b1, o1 + k * 3, none⟩ = some (.string z) ∧ WW.cell? ⟨b1, o1 + k * 3 + 2, none⟩ = some (.slice a2 n2 c2))) (first | assumption | go_keep) (first | (go_at_call 73; refine (hL _ (by repeat (first | exact HBw.out | refine Below.drew ?_)) (by repeat (first | exact Below.refl _ _ | refine Below.drew ?_))).mono ?_; rintro e w2 ⟨rfl, hB2⟩; have hcells : (w2.cell? ⟨w.heap.size, 0, none⟩ = some (.string D.name) ∧ w2.cell? ⟨w.heap.size, 1, none⟩ = some (.slice ac D.nc cc) ∧ w2.cell? ⟨w.heap.size, 2, none⟩ = some (.slice ap D.np cp) ∧ w2.cell? ⟨w.heap.size, 3, none⟩ = some (.slice (some ⟨b1, o1, none⟩) D.ni ci)) ∧ (w2.cell? ⟨b1, o1 + k * 3, none⟩ = some (.string z) ∧ w2.cell? ⟨b1, o1 + k * 3 + 2, none⟩ = some (.slice a2 n2 c2)) := HWK.out _ (Below.trans (by repeat (first | exact Below.refl _ _ | refine Below.drew ?_)) hB2)))
              all_goals
                have hb2 : Below wr.heap.size wr w2 := Below.trans (by repeat (first | exact Below.refl _ _ | refine Below.drew ?_)) hB2
                have HB2 : Hid (Below (w.heap.size + 1) (w.alloc (.cells #[.string D.name, .slice ac D.nc cc, .slice ap D.np cp, .slice (some ⟨b1, o1, none⟩) D.ni ci] 35)) w2) := box4_on HB.out hb2
                clear hB2 hb2 hL HB HWK hcells
                go_wp2
                go_roundg (D.ni - (k + 1))
                case measure => omega
                case rel => exact ⟨k + 1, by omega, rfl, by go_num, by rw [HN'.out], by first | exact HB2.out | exact HB2.out.drew⟩
            | false =>
              have HN' : Hid (idxT D (k + 1) = J ++ (⟨#[105, 110, 100, 101, 120, 32]⟩ : ByteArray) ++ z ++ (⟨#[32]⟩ : ByteArray) ++ q) := HN.out
              clear HN
              have s1 : ¬ (J.size + 6 > 9223372036854775807) := by omega
              have s2 : (J ++ (⟨#[105, 110, 100, 101, 120, 32]⟩ : ByteArray)).size = J.size + 6 := by rw [ByteArray.size_append]; rfl
              have s3 : ¬ (J.size + 6 + z.size > 9223372036854775807) := by omega
              have s4 : (J ++ (⟨#[105, 110, 100, 101, 120, 32]⟩ : ByteArray) ++ z).size = J.size + 6 + z.size := by rw [ByteArray.size_append, s2]
              have s5 : ¬ (J.size + 6 + z.size + 1 > 9223372036854775807) := by omega
              have s6 : (J ++ (⟨#[105, 110, 100, 101, 120, 32]⟩ : ByteArray) ++ z ++ (⟨#[32]⟩ : ByteArray)).size = J.size + 6 + z.size + 1 := by rw [ByteArray.size_append, s4]; rfl
              have s7 : ¬ (J.size + 6 + z.size + 1 + q.size > 9223372036854775807) := by omega
              go_wp2_with fail
              go_region_held3 (fun WW => (WW.cell? ⟨w.heap.size, 0, none⟩ = some (.string D.name) ∧ WW.cell? ⟨w.heap.size, 1, none⟩ = some (.slice ac D.nc cc) ∧ WW.cell? ⟨w.heap.size, 2, none⟩ = some (.slice ap D.np cp) ∧ WW.cell? ⟨w.heap.size, 3, none⟩ = some (.slice (some ⟨b1, o1, none⟩) D.ni ci)) ∧ (WW.cell? ⟨b1, o1 + k * 3, none⟩ = some (.string z) ∧ WW.cell? ⟨b1, o1 + k * 3 + 2, none⟩ = some (.slice a2 n2 c2))) (first | assumption | go_keep) (first | (go_at_call 73; refine (hL _ (by repeat (first | exact HBw.out | refine Below.drew ?_)) (by repeat (first | exact Below.refl _ _ | refine Below.drew ?_))).mono ?_; rintro e w2 ⟨rfl, hB2⟩; have hcells : (w2.cell? ⟨w.heap.size, 0, none⟩ = some (.string D.name) ∧ w2.cell? ⟨w.heap.size, 1, none⟩ = some (.slice ac D.nc cc) ∧ w2.cell? ⟨w.heap.size, 2, none⟩ = some (.slice ap D.np cp) ∧ w2.cell? ⟨w.heap.size, 3, none⟩ = some (.slice (some ⟨b1, o1, none⟩) D.ni ci)) ∧ (w2.cell? ⟨b1, o1 + k * 3, none⟩ = some (.string z) ∧ w2.cell? ⟨b1, o1 + k * 3 + 2, none⟩ = some (.slice a2 n2 c2)) := HWK.out _ (Below.trans (by repeat (first | exact Below.refl _ _ | refine Below.drew ?_)) hB2)))
              all_goals
                have hb2 : Below wr.heap.size wr w2 := Below.trans (by repeat (first | exact Below.refl _ _ | refine Below.drew ?_)) hB2
                have HB2 : Hid (Below (w.heap.size + 1) (w.alloc (.cells #[.string D.name, .slice ac D.nc cc, .slice ap D.np cp, .slice (some ⟨b1, o1, none⟩) D.ni ci] 35)) w2) := box4_on HB.out hb2
                clear hB2 hb2 hL HB HWK hcells
                go_wp2
                go_roundg (D.ni - (k + 1))
                case measure => omega
                case rel => exact ⟨k + 1, by omega, rfl, by go_num, by rw [HN'.out], by first | exact HB2.out | exact HB2.out.drew⟩
          · have hkz : ¬ (k : Int) < (D.ni : Int) := by omega
            obtain rfl : k = D.ni := by omega
            have hjz := HS2.out D.ni hk
            obtain ⟨J, hJ⟩ : ∃ J, Hid (idxT D D.ni = J) := ⟨_, rfl⟩
            rw [hJ.out] at HD hjz ⊢
            have e1 : (⟨#[125]⟩ : ByteArray).size = 1 := rfl
            have s1 : ¬ (J.size + 1 > 9223372036854775807) := by omega
            have HBw : Hid (Below w.heap.size w wr) := hBw
            clear hi hB hBw HIX HCZ HXZ HP2 HS2 hv
            go_wp2
            go_ret
            exact ⟨by rw [HD.out]; rfl, HBw.out⟩
  · have HD : Hid (defText D = (⟨#[]⟩ : ByteArray)) := by show _ = _; unfold defText; rw [if_neg hg]
    obtain ⟨r, hr⟩ : ∃ r, Hid (checkF D = r) := ⟨_, rfl⟩
    rw [hr.out] at hC hg
    have hq : (r != 0) = true := by simpa using hg
    clear hc hp hi hv hf hg
    go_enter Tryz.func32, Tryz.ntmps32
    go_wp2_with fail
    refine hC.mono ?_
    rintro e w1 ⟨rfl, hb1⟩
    have HB : Hid (Below w.heap.size w w1) := hBw0.trans (hb1.mono (by simp))
    clear hC hb1 hBw0 hB0
    go_wp2
    go_ret
    exact ⟨by rw [HD.out]; rfl, HB.out⟩
end Go.Proofs.YtnpfgamlncfikaaGreatDoor

/-
  spec.DefsText, walked.
-/
namespace Go.Proofs.YtnpfgamlncfikaaGreatDoor
open Go.RowKit
set_option maxRecDepth 4000

set_option maxHeartbeats 4000000 in
theorem specTexts_any (a : Option Addr) (n cap : Nat) (f : Nat → PDef) (w : World) (h : LView w a n cap f) (hf : LFine n f) :
    Calls Tryz.prog 13 #[.slice a n cap] w fun e w' => e = .returned (.string (defsT f n)) ∧ Below w.heap.size w w' := by
  have hn := hf.few
  go_enter Tryz.func13, Tryz.ntmps13
  go_wp2
  go_loopg [3, 4] n (fun q s i wr => ∃ (k : Nat) (t : ByteArray), k ≤ n ∧ q = n - k ∧ s = .string t ∧ i = .int .i64 k ∧ Below w.heap.size w wr ∧ Hid (t = defsT f k))
  case atStart => exact ⟨0, _, Nat.zero_le _, rfl, rfl, rfl, Below.refl _ _, rfl⟩
  case round =>
    obtain ⟨k, t, hk, rfl, rfl, rfl, hB, HA⟩ := hrel
    by_cases hlt : k < n
    · obtain ⟨b1, o1, rfl, hb1, hc1⟩ := (h.below hB).cells (by omega)
      obtain ⟨y1, y2, y3, x0, x1, x2, x3, hv⟩ := hc1 k hlt
      have hkz : (k : Int) < (n : Int) := by omega
      have hS := specText_any _ (f k) wr hv (hf.at_ k hlt)
      obtain ⟨c, hc⟩ : ∃ c, Hid (defText (f k) = c) := ⟨_, rfl⟩
      have hcs : c.size ≤ 2000 := by rw [← hc.out]; exact defText_size _
      have hts : t.size ≤ 2099249152 := by rw [HA.out]; have := defsT_size f k; omega
      rw [hc.out] at hS
      obtain ⟨p0, hp0⟩ : ∃ x, Hid ((f k).name = x) := ⟨_, rfl⟩
      rw [hp0.out] at x0
      simp only [hp0.out] at hS
      clear hv hf h hc1
      go_wp2_with fail
      refine hS.mono ?_
      rintro e w1 ⟨rfl, hb⟩
      have HB : Hid (Below w.heap.size w w1) := hB.trans (hb.mono hB.size)
      clear hS hb hB x0 x1 x2 x3 hb1
      go_wp2
      go_roundg (n - (k + 1))
      case measure => omega
      case rel => exact ⟨k + 1, _, by omega, rfl, rfl, by go_num, HB.out, by show _ = defsT f k ++ defText (f k) ++ _; rw [hc.out, ← HA.out]⟩
    · have hkz : ¬ (k : Int) < (n : Int) := by omega
      clear h hf
      go_wp2
      go_ret
      obtain rfl : k = n := by omega
      exact ⟨by rw [← HA.out]; rfl, hB⟩
end Go.Proofs.YtnpfgamlncfikaaGreatDoor

/-
  Parts and columns held against each other.
-/
namespace Go.Proofs.YtnpfgamlncfikaaGreatDoor
open Go.RowKit
set_option maxRecDepth 4000

def eqBy (a b : PBy) : Bool := decide (a.col = b.col) && decide (a.desc = b.desc)
def eqCol (a b : PCol) : Bool := decide (a.name = b.name) && decide (a.type = b.type) && decide (a.null = b.null)
theorem neBy_run (a b : PBy) (W : World) : (binOp .neq 70 (.agg #[.int .i64 a.col, .bool a.desc]) (.agg #[.int .i64 b.col, .bool b.desc])).run Tryz.prog W = .ok (.bool (!eqBy a b)) W := by
  obtain ⟨c, d⟩ := a
  obtain ⟨c', d'⟩ := b
  by_cases h1 : c = c' <;> cases d <;> cases d' <;> simp [go_sem, h1, eqBy]
theorem neCol_run (a b : PCol) (W : World) : (binOp .neq 67 (.agg #[.string a.name, .int .i64 a.type, .bool a.null]) (.agg #[.string b.name, .int .i64 b.type, .bool b.null])).run Tryz.prog W = .ok (.bool (!eqCol a b)) W := by
  obtain ⟨s, c, d⟩ := a
  obtain ⟨s', c', d'⟩ := b
  by_cases h1 : c = c' <;> by_cases h2 : s = s' <;> cases d <;> cases d' <;> simp [go_sem, h1, h2, eqCol, bytes_inj]
end Go.Proofs.YtnpfgamlncfikaaGreatDoor

