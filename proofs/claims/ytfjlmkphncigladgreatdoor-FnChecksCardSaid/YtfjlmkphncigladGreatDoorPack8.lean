/-
  Together: DefTextSpec, SameDefSpec, Big
-/
import Derived.Test.YtfjlmkphncigladGreatDoorPack7
import Derived.Test.YtfjlmkphncigladGreatDoorPack6
import Derived.Test.YtfjlmkphncigladGreatDoorPack1
/-
  The model's DefText comes to the plain one.
-/
namespace Go.Proofs.YtfjlmkphncigladGreatDoor
open Go.RowKit
set_option maxRecDepth 4000

set_option maxHeartbeats 4000000 in
theorem specText_any (v : Value) (D : PDef) (w : World) (h : DView w v D) (hf : DFine D) :
    Calls Tryz.prog 10 #[v] w fun e w' => e = .returned (.string (defText D)) ∧ Below w.heap.size w w' := by
  have hv := h
  obtain ⟨ac, cc, ap, cp, ai, ci, rfl, hc, hp, hi⟩ := h.is
  clear h
  have hB0 := box4_start w (.cells #[.string D.name, .slice ac D.nc cc, .slice ap D.np cp, .slice ai D.ni ci] 28)
  obtain ⟨hBw0, -⟩ := box4_below hB0
  have hC := specCheck_any _ D _ (hv.below hBw0) hf
  by_cases hg : checkF D = 0
  · have HD : Hid (defText D = idxT D D.ni ++ (⟨#[125]⟩ : ByteArray)) := by show _ = _; unfold defText; rw [if_pos hg]; rfl
    rw [hg] at hC
    obtain ⟨-, g2, -, g4, g5, -⟩ := checkF_good hg
    unfold typesF at g2
    have G2 := of_decide_eq_true g2
    unfold allPartsF at g5
    have G5 := of_decide_eq_true g5
    have hnc6 : D.nc ≤ 6 := G2.2.2
    have hnp2 := (partsF_two G5.2).2
    have HT : Hid (∀ i, i < D.nc → 1 ≤ (D.col i).type ∧ (D.col i).type ≤ 4) := G2.1
    have HIN : Hid (∀ i, i < D.np → 0 ≤ (D.pri i).col ∧ (D.pri i).col < D.nc) := fun i hi => partsF_in G5.2 hi
    have HIX : Hid (∀ k, k < D.ni → (D.idx k).n ≤ 2 ∧ ∀ i, i < (D.idx k).n → 0 ≤ ((D.idx k).part i).col ∧ ((D.idx k).part i).col < D.nc) := fun k hk => ⟨(partsF_two (G5.1 k hk)).2, fun i hi => partsF_in (G5.1 k hk) hi⟩
    have HCZ : Hid (∀ i, i < D.nc → (D.col i).name.size ≤ 1048576) := hf.col
    have HXZ : Hid (∀ i, i < D.ni → (D.idx i).name.size ≤ 1048576) := fun i hi => (hf.idx i hi).1
    have hnz := hf.name
    have HS1 : Hid (∀ k, k ≤ D.nc → (colsT D.name D.col k).size ≤ 7340116) := fun k hk => by
      have h1 := colsT_size hf.name hf.col k hk
      have h2 : (k + 1) * (1048576 + 12) ≤ 7 * (1048576 + 12) := Nat.mul_le_mul_right _ (by omega)
      omega
    have HP1 : Hid ((partsE D.col D.np D.pri).size ≤ 2097168) := partsE_size (B := 1048576) (fun i hi => hf.col _ (by have := HIN.out i hi; omega)) hnp2
    have HP2 : Hid (∀ k, k < D.ni → (partsE D.col (D.idx k).n (D.idx k).part).size ≤ 2097168) := fun k hk => partsE_size (B := 1048576) (fun i hi => hf.col _ (by have := (HIX.out k hk).2 i hi; omega)) (HIX.out k hk).1
    have HS2 : Hid (∀ k, k ≤ D.ni → (idxT D k).size ≤ 15728848) := fun k hk => by
      have h1 := idxT_size (B := 1048576) hf.name hf.col hnc6 HP1.out (fun i hi => ⟨HXZ.out i hi, HP2.out i hi⟩) k hk
      have h2 : k * (3 * 1048576 + 24) ≤ 2 * (3 * 1048576 + 24) := Nat.mul_le_mul_right _ (by omega)
      omega
    clear hf g2 G2 g5 G5
    go_enter Tryz.func10, Tryz.ntmps10
    go_wp2_with fail
    refine hC.mono ?_
    rintro e w1 ⟨rfl, hb1⟩
    have hB1 := box4_on hB0 hb1
    obtain ⟨x0, x1, x2, x3⟩ := box4 hB1
    have a1 : (⟨#[116, 97, 98, 108, 101, 32]⟩ : ByteArray).size = 6 := rfl
    have a2 : (⟨#[32, 123, 32]⟩ : ByteArray).size = 3 := rfl
    have a3 : ((⟨#[116, 97, 98, 108, 101, 32]⟩ : ByteArray) ++ D.name).size = 6 + D.name.size := by rw [ByteArray.size_append]; rfl
    have a4 : ¬ (6 + D.name.size > 9223372036854775807) := by omega
    have a5 : ¬ (6 + D.name.size + 3 > 9223372036854775807) := by omega
    clear hC hb1 hB0 hBw0
    go_wp2
    clear a1 a2 a3 a4 a5
    go_loopg [3, 4] D.nc (fun q s i wr => ∃ k : Nat, k ≤ D.nc ∧ q = D.nc - k ∧ i = .int .i64 k ∧ s = .string (colsT D.name D.col k) ∧ Below (w.heap.size + 1) (w.alloc (.cells #[.string D.name, .slice ac D.nc cc, .slice ap D.np cp, .slice ai D.ni ci] 28)) wr)
    case atStart => exact ⟨0, Nat.zero_le _, rfl, rfl, rfl, hB1⟩
    case round =>
      clear hB1 x0 x1 x2 x3
      obtain ⟨k, hk, rfl, rfl, rfl, hB⟩ := hrel
      obtain ⟨x0, x1, x2, x3⟩ := box4 hB
      obtain ⟨hBw, hsz⟩ := box4_below hB
      by_cases hlt : k < D.nc
      · have hkz : (k : Int) < (D.nc : Int) := by omega
        obtain ⟨b1, o1, rfl, hb1, hcc⟩ := (hc.below hBw).cells (by omega)
        obtain ⟨z0, z1, z2⟩ := hcc k hlt
        have hzk := HCZ.out k hlt
        obtain ⟨t1, t4⟩ := HT.out k hlt
        have hjz := HS1.out k hk
        have HN : Hid (colsT D.name D.col (k + 1) = (let s := colsT D.name D.col k ++ (D.col k).name ++ (⟨#[32]⟩ : ByteArray) ++ typeW (D.col k).type; (if (D.col k).null then s ++ (⟨#[32, 110, 117, 108, 108]⟩ : ByteArray) else s) ++ (⟨#[59, 32]⟩ : ByteArray))) := rfl
        obtain ⟨J, hJ⟩ : ∃ J, Hid (colsT D.name D.col k = J) := ⟨_, rfl⟩
        obtain ⟨z, hz⟩ : ∃ p, Hid ((D.col k).name = p) := ⟨_, rfl⟩
        obtain ⟨t, ht⟩ : ∃ t, Hid ((D.col k).type = t) := ⟨_, rfl⟩
        obtain ⟨nl, hnl⟩ : ∃ b, Hid ((D.col k).null = b) := ⟨_, rfl⟩
        rw [hJ.out] at HN hjz ⊢
        rw [hz.out] at HN z0 hzk
        rw [ht.out] at HN z1 t1 t4
        rw [hnl.out] at HN z2
        have hL := fun W => l9Type_any t W t1 t4
        have htz := typeW_size t
        obtain ⟨ty, hty⟩ : ∃ s, Hid (typeW t = s) := ⟨_, rfl⟩
        rw [hty.out] at HN htz
        simp only [hty.out] at hL
        have HB : Hid (Below (w.heap.size + 1) (w.alloc (.cells #[.string D.name, .slice (some ⟨b1, o1, none⟩) D.nc cc, .slice ap D.np cp, .slice ai D.ni ci] 28)) wr) := hB
        have e1 : (⟨#[32]⟩ : ByteArray).size = 1 := rfl
        have e2 : (⟨#[32, 110, 117, 108, 108]⟩ : ByteArray).size = 5 := rfl
        have e3 : (⟨#[59, 32]⟩ : ByteArray).size = 2 := rfl
        have s1 : ¬ (J.size + z.size > 9223372036854775807) := by omega
        have s2 : (J ++ z).size = J.size + z.size := by rw [ByteArray.size_append]
        have s3 : ¬ (J.size + z.size + 1 > 9223372036854775807) := by omega
        have s4 : (J ++ z ++ (⟨#[32]⟩ : ByteArray)).size = J.size + z.size + 1 := by rw [ByteArray.size_append, s2]; rfl
        have s5 : ¬ (J.size + z.size + 1 + ty.size > 9223372036854775807) := by omega
        have s6 : (J ++ z ++ (⟨#[32]⟩ : ByteArray) ++ ty).size = J.size + z.size + 1 + ty.size := by rw [ByteArray.size_append, s4]
        have s7 : ¬ (J.size + z.size + 1 + ty.size + 5 > 9223372036854775807) := by omega
        have s8 : (J ++ z ++ (⟨#[32]⟩ : ByteArray) ++ ty ++ (⟨#[32, 110, 117, 108, 108]⟩ : ByteArray)).size = J.size + z.size + 1 + ty.size + 5 := by rw [ByteArray.size_append, s6]; rfl
        have s9 : ¬ (J.size + z.size + 1 + ty.size + 5 + 2 > 9223372036854775807) := by omega
        have s10 : ¬ (J.size + z.size + 1 + ty.size + 2 > 9223372036854775807) := by omega
        have HWK : Hid (∀ W, Below wr.heap.size wr W → (W.cell? ⟨w.heap.size, 0, none⟩ = some (.string D.name) ∧ W.cell? ⟨w.heap.size, 1, none⟩ = some (.slice (some ⟨b1, o1, none⟩) D.nc cc) ∧ W.cell? ⟨w.heap.size, 2, none⟩ = some (.slice ap D.np cp) ∧ W.cell? ⟨w.heap.size, 3, none⟩ = some (.slice ai D.ni ci)) ∧ (W.cell? ⟨b1, o1 + k * 3, none⟩ = some (.string z) ∧ W.cell? ⟨b1, o1 + k * 3 + 1, none⟩ = some (.int .i64 t) ∧ W.cell? ⟨b1, o1 + k * 3 + 2, none⟩ = some (.bool nl))) := by
          intro W hb
          refine ⟨⟨?_, ?_, ?_, ?_⟩, ?_, ?_, ?_⟩ <;> (rw [hb.cell (by first | exact hsz | exact hb1)]; assumption)
        clear hcc hc hp hi hB hBw HT HIN HIX HCZ HXZ HS1 HP1 HP2 HS2 hv
        go_wp2_with fail
        go_region_held3 (fun WW => (WW.cell? ⟨w.heap.size, 0, none⟩ = some (.string D.name) ∧ WW.cell? ⟨w.heap.size, 1, none⟩ = some (.slice (some ⟨b1, o1, none⟩) D.nc cc) ∧ WW.cell? ⟨w.heap.size, 2, none⟩ = some (.slice ap D.np cp) ∧ WW.cell? ⟨w.heap.size, 3, none⟩ = some (.slice ai D.ni ci)) ∧ (WW.cell? ⟨b1, o1 + k * 3, none⟩ = some (.string z) ∧ WW.cell? ⟨b1, o1 + k * 3 + 1, none⟩ = some (.int .i64 t) ∧ WW.cell? ⟨b1, o1 + k * 3 + 2, none⟩ = some (.bool nl))) (first | assumption | go_keep) (first | (go_at_call 28; refine (hL _).mono ?_; rintro e w2 ⟨rfl, hB2⟩; have hcells : (w2.cell? ⟨w.heap.size, 0, none⟩ = some (.string D.name) ∧ w2.cell? ⟨w.heap.size, 1, none⟩ = some (.slice (some ⟨b1, o1, none⟩) D.nc cc) ∧ w2.cell? ⟨w.heap.size, 2, none⟩ = some (.slice ap D.np cp) ∧ w2.cell? ⟨w.heap.size, 3, none⟩ = some (.slice ai D.ni ci)) ∧ (w2.cell? ⟨b1, o1 + k * 3, none⟩ = some (.string z) ∧ w2.cell? ⟨b1, o1 + k * 3 + 1, none⟩ = some (.int .i64 t) ∧ w2.cell? ⟨b1, o1 + k * 3 + 2, none⟩ = some (.bool nl)) := HWK.out _ (Below.trans (by repeat (first | exact Below.refl _ _ | refine Below.drew ?_)) hB2)))
        all_goals
          have hb2 : Below wr.heap.size wr w2 := Below.trans (by repeat (first | exact Below.refl _ _ | refine Below.drew ?_)) hB2
          have HB2 : Hid (Below (w.heap.size + 1) (w.alloc (.cells #[.string D.name, .slice (some ⟨b1, o1, none⟩) D.nc cc, .slice ap D.np cp, .slice ai D.ni ci] 28)) w2) := box4_on HB.out hb2
          obtain ⟨⟨x0, x1, x2, x3⟩, z0, z1, z2⟩ := hcells
          clear hB2 hb2 hL HB HWK
          cases nl with
          | true =>
            have HN' : Hid (colsT D.name D.col (k + 1) = J ++ z ++ (⟨#[32]⟩ : ByteArray) ++ ty ++ (⟨#[32, 110, 117, 108, 108]⟩ : ByteArray) ++ (⟨#[59, 32]⟩ : ByteArray)) := HN.out
            clear HN
            go_wp2
            go_roundg (D.nc - (k + 1))
            case measure => omega
            case rel => exact ⟨k + 1, by omega, rfl, by go_num, by rw [HN'.out], by first | exact HB2.out | exact HB2.out.drew⟩
          | false =>
            have HN' : Hid (colsT D.name D.col (k + 1) = J ++ z ++ (⟨#[32]⟩ : ByteArray) ++ ty ++ (⟨#[59, 32]⟩ : ByteArray)) := HN.out
            clear HN
            go_wp2
            go_roundg (D.nc - (k + 1))
            case measure => omega
            case rel => exact ⟨k + 1, by omega, rfl, by go_num, by rw [HN'.out], by first | exact HB2.out | exact HB2.out.drew⟩
      · have hkz : ¬ (k : Int) < (D.nc : Int) := by omega
        obtain rfl : k = D.nc := by omega
        have hL := l9PartsText_any _ D ap D.np cp D.pri wr (hv.below hBw) (hp.below hBw) (by omega) (by omega) HIN.out HCZ.out
        have hjz := HS1.out D.nc hk
        have hpz := HP1.out
        have HI0 : Hid (idxT D 0 = colsT D.name D.col D.nc ++ (⟨#[112, 114, 105, 109, 97, 114, 121, 32]⟩ : ByteArray) ++ partsE D.col D.np D.pri) := by
          show _ = _
          rw [idxT, ByteArray.append_assoc]
        obtain ⟨J, hJ⟩ : ∃ J, Hid (colsT D.name D.col D.nc = J) := ⟨_, rfl⟩
        obtain ⟨q, hq⟩ : ∃ q, Hid (partsE D.col D.np D.pri = q) := ⟨_, rfl⟩
        rw [hJ.out] at HI0 hjz ⊢
        rw [hq.out] at HI0 hpz hL
        have e1 : (⟨#[112, 114, 105, 109, 97, 114, 121, 32]⟩ : ByteArray).size = 8 := rfl
        have s1 : ¬ (J.size + 8 > 9223372036854775807) := by omega
        have s2 : (J ++ (⟨#[112, 114, 105, 109, 97, 114, 121, 32]⟩ : ByteArray)).size = J.size + 8 := by rw [ByteArray.size_append]; rfl
        have s3 : ¬ (J.size + 8 + q.size > 9223372036854775807) := by omega
        clear HT HS1 HP1 hc hp HIN
        go_wp2_with fail
        refine hL.mono ?_
        rintro e w3 ⟨rfl, hb3⟩
        have hB3 := box4_on hB hb3
        clear hL hb3 hB hBw x0 x1 x2 x3
        go_wp2
        clear e1 s1 s2 s3
        go_loopg [3, 5] D.ni (fun q s i wr => ∃ k : Nat, k ≤ D.ni ∧ q = D.ni - k ∧ i = .int .i64 k ∧ s = .string (idxT D k) ∧ Below (w.heap.size + 1) (w.alloc (.cells #[.string D.name, .slice ac D.nc cc, .slice ap D.np cp, .slice ai D.ni ci] 28)) wr)
        case atStart => exact ⟨0, Nat.zero_le _, rfl, rfl, by rw [HI0.out], hB3⟩
        case round =>
          clear hB3 hjz hpz HI0 hJ hq hkz hlt hk
          obtain ⟨k, hk, rfl, rfl, rfl, hB⟩ := hrel
          obtain ⟨x0, x1, x2, x3⟩ := box4 hB
          obtain ⟨hBw, hsz⟩ := box4_below hB
          by_cases hlt : k < D.ni
          · have hkz : (k : Int) < (D.ni : Int) := by omega
            obtain ⟨b1, o1, rfl, hb1, hcc⟩ := (hi.below hBw).cells (by omega)
            obtain ⟨z0, z1, a2, c2, z2, hv2⟩ := hcc k hlt
            have hzk := HXZ.out k hlt
            have hpz := HP2.out k hlt
            obtain ⟨n2x, hinx⟩ := HIX.out k hlt
            have hjz := HS2.out k hk
            have hL := fun W (hb : Below w.heap.size w W) (hw : Below wr.heap.size wr W) => l9PartsText_any _ D a2 (D.idx k).n c2 (D.idx k).part W (hv.below hb) (hv2.below hw) (by omega) (by omega) hinx HCZ.out
            have HN : Hid (idxT D (k + 1) = idxT D k ++ (if (D.idx k).uniq then (⟨#[117, 110, 105, 113, 117, 101, 32]⟩ : ByteArray) else (⟨#[105, 110, 100, 101, 120, 32]⟩ : ByteArray)) ++ (D.idx k).name ++ (⟨#[32]⟩ : ByteArray) ++ partsE D.col (D.idx k).n (D.idx k).part) := rfl
            obtain ⟨J, hJ⟩ : ∃ J, Hid (idxT D k = J) := ⟨_, rfl⟩
            obtain ⟨z, hz⟩ : ∃ p, Hid ((D.idx k).name = p) := ⟨_, rfl⟩
            obtain ⟨nl, hnl⟩ : ∃ b, Hid ((D.idx k).uniq = b) := ⟨_, rfl⟩
            obtain ⟨q, hq⟩ : ∃ q, Hid (partsE D.col (D.idx k).n (D.idx k).part = q) := ⟨_, rfl⟩
            rw [hJ.out] at HN hjz ⊢
            rw [hz.out] at HN z0 hzk
            rw [hnl.out] at HN z1
            rw [hq.out] at HN hpz
            simp only [hq.out] at hL
            obtain ⟨n2, hn2⟩ : ∃ n, Hid ((D.idx k).n = n) := ⟨_, rfl⟩
            rw [hn2.out] at z2
            simp only [hn2.out] at hL
            have HB : Hid (Below (w.heap.size + 1) (w.alloc (.cells #[.string D.name, .slice ac D.nc cc, .slice ap D.np cp, .slice (some ⟨b1, o1, none⟩) D.ni ci] 28)) wr) := hB
            have HBw : Hid (Below w.heap.size w wr) := hBw
            have HWK : Hid (∀ W, Below wr.heap.size wr W → (W.cell? ⟨w.heap.size, 0, none⟩ = some (.string D.name) ∧ W.cell? ⟨w.heap.size, 1, none⟩ = some (.slice ac D.nc cc) ∧ W.cell? ⟨w.heap.size, 2, none⟩ = some (.slice ap D.np cp) ∧ W.cell? ⟨w.heap.size, 3, none⟩ = some (.slice (some ⟨b1, o1, none⟩) D.ni ci)) ∧ (W.cell? ⟨b1, o1 + k * 3, none⟩ = some (.string z) ∧ W.cell? ⟨b1, o1 + k * 3 + 2, none⟩ = some (.slice a2 n2 c2))) := by
              intro W hb
              refine ⟨⟨?_, ?_, ?_, ?_⟩, ?_, ?_⟩ <;> (rw [hb.cell (by first | exact hsz | exact hb1)]; assumption)
            have e1 : (⟨#[32]⟩ : ByteArray).size = 1 := rfl
            have e2 : (⟨#[117, 110, 105, 113, 117, 101, 32]⟩ : ByteArray).size = 7 := rfl
            have e3 : (⟨#[105, 110, 100, 101, 120, 32]⟩ : ByteArray).size = 6 := rfl
            clear hcc hi hB hBw HIX HCZ HXZ HP2 HS2 hv hv2 hinx n2x
            cases nl with
            | true =>
              have HN' : Hid (idxT D (k + 1) = J ++ (⟨#[117, 110, 105, 113, 117, 101, 32]⟩ : ByteArray) ++ z ++ (⟨#[32]⟩ : ByteArray) ++ q) := HN.out
              clear HN
              have s1 : ¬ (J.size + 7 > 9223372036854775807) := by omega
              have s2 : (J ++ (⟨#[117, 110, 105, 113, 117, 101, 32]⟩ : ByteArray)).size = J.size + 7 := by rw [ByteArray.size_append]; rfl
              have s3 : ¬ (J.size + 7 + z.size > 9223372036854775807) := by omega
              have s4 : (J ++ (⟨#[117, 110, 105, 113, 117, 101, 32]⟩ : ByteArray) ++ z).size = J.size + 7 + z.size := by rw [ByteArray.size_append, s2]
              have s5 : ¬ (J.size + 7 + z.size + 1 > 9223372036854775807) := by omega
              have s6 : (J ++ (⟨#[117, 110, 105, 113, 117, 101, 32]⟩ : ByteArray) ++ z ++ (⟨#[32]⟩ : ByteArray)).size = J.size + 7 + z.size + 1 := by rw [ByteArray.size_append, s4]; rfl
              have s7 : ¬ (J.size + 7 + z.size + 1 + q.size > 9223372036854775807) := by omega
              go_wp2_with fail
              go_region_held3 (fun WW => (WW.cell? ⟨w.heap.size, 0, none⟩ = some (.string D.name) ∧ WW.cell? ⟨w.heap.size, 1, none⟩ = some (.slice ac D.nc cc) ∧ WW.cell? ⟨w.heap.size, 2, none⟩ = some (.slice ap D.np cp) ∧ WW.cell? ⟨w.heap.size, 3, none⟩ = some (.slice (some ⟨b1, o1, none⟩) D.ni ci)) ∧ (WW.cell? ⟨b1, o1 + k * 3, none⟩ = some (.string z) ∧ WW.cell? ⟨b1, o1 + k * 3 + 2, none⟩ = some (.slice a2 n2 c2))) (first | assumption | go_keep) (first | (go_at_call 29; refine (hL _ (by repeat (first | exact HBw.out | refine Below.drew ?_)) (by repeat (first | exact Below.refl _ _ | refine Below.drew ?_))).mono ?_; rintro e w2 ⟨rfl, hB2⟩; have hcells : (w2.cell? ⟨w.heap.size, 0, none⟩ = some (.string D.name) ∧ w2.cell? ⟨w.heap.size, 1, none⟩ = some (.slice ac D.nc cc) ∧ w2.cell? ⟨w.heap.size, 2, none⟩ = some (.slice ap D.np cp) ∧ w2.cell? ⟨w.heap.size, 3, none⟩ = some (.slice (some ⟨b1, o1, none⟩) D.ni ci)) ∧ (w2.cell? ⟨b1, o1 + k * 3, none⟩ = some (.string z) ∧ w2.cell? ⟨b1, o1 + k * 3 + 2, none⟩ = some (.slice a2 n2 c2)) := HWK.out _ (Below.trans (by repeat (first | exact Below.refl _ _ | refine Below.drew ?_)) hB2)))
              all_goals
                have hb2 : Below wr.heap.size wr w2 := Below.trans (by repeat (first | exact Below.refl _ _ | refine Below.drew ?_)) hB2
                have HB2 : Hid (Below (w.heap.size + 1) (w.alloc (.cells #[.string D.name, .slice ac D.nc cc, .slice ap D.np cp, .slice (some ⟨b1, o1, none⟩) D.ni ci] 28)) w2) := box4_on HB.out hb2
                clear hB2 hb2 hL HB HWK hcells
                go_wp2
                go_roundg (D.ni - (k + 1))
                case measure => omega
                case rel => exact ⟨k + 1, by omega, rfl, by go_num, by rw [HN'.out], by first | exact HB2.out | exact HB2.out.drew⟩
            | false =>
              have HN' : Hid (idxT D (k + 1) = J ++ (⟨#[105, 110, 100, 101, 120, 32]⟩ : ByteArray) ++ z ++ (⟨#[32]⟩ : ByteArray) ++ q) := HN.out
              clear HN
              have s1 : ¬ (J.size + 6 > 9223372036854775807) := by omega
              have s2 : (J ++ (⟨#[105, 110, 100, 101, 120, 32]⟩ : ByteArray)).size = J.size + 6 := by rw [ByteArray.size_append]; rfl
              have s3 : ¬ (J.size + 6 + z.size > 9223372036854775807) := by omega
              have s4 : (J ++ (⟨#[105, 110, 100, 101, 120, 32]⟩ : ByteArray) ++ z).size = J.size + 6 + z.size := by rw [ByteArray.size_append, s2]
              have s5 : ¬ (J.size + 6 + z.size + 1 > 9223372036854775807) := by omega
              have s6 : (J ++ (⟨#[105, 110, 100, 101, 120, 32]⟩ : ByteArray) ++ z ++ (⟨#[32]⟩ : ByteArray)).size = J.size + 6 + z.size + 1 := by rw [ByteArray.size_append, s4]; rfl
              have s7 : ¬ (J.size + 6 + z.size + 1 + q.size > 9223372036854775807) := by omega
              go_wp2_with fail
              go_region_held3 (fun WW => (WW.cell? ⟨w.heap.size, 0, none⟩ = some (.string D.name) ∧ WW.cell? ⟨w.heap.size, 1, none⟩ = some (.slice ac D.nc cc) ∧ WW.cell? ⟨w.heap.size, 2, none⟩ = some (.slice ap D.np cp) ∧ WW.cell? ⟨w.heap.size, 3, none⟩ = some (.slice (some ⟨b1, o1, none⟩) D.ni ci)) ∧ (WW.cell? ⟨b1, o1 + k * 3, none⟩ = some (.string z) ∧ WW.cell? ⟨b1, o1 + k * 3 + 2, none⟩ = some (.slice a2 n2 c2))) (first | assumption | go_keep) (first | (go_at_call 29; refine (hL _ (by repeat (first | exact HBw.out | refine Below.drew ?_)) (by repeat (first | exact Below.refl _ _ | refine Below.drew ?_))).mono ?_; rintro e w2 ⟨rfl, hB2⟩; have hcells : (w2.cell? ⟨w.heap.size, 0, none⟩ = some (.string D.name) ∧ w2.cell? ⟨w.heap.size, 1, none⟩ = some (.slice ac D.nc cc) ∧ w2.cell? ⟨w.heap.size, 2, none⟩ = some (.slice ap D.np cp) ∧ w2.cell? ⟨w.heap.size, 3, none⟩ = some (.slice (some ⟨b1, o1, none⟩) D.ni ci)) ∧ (w2.cell? ⟨b1, o1 + k * 3, none⟩ = some (.string z) ∧ w2.cell? ⟨b1, o1 + k * 3 + 2, none⟩ = some (.slice a2 n2 c2)) := HWK.out _ (Below.trans (by repeat (first | exact Below.refl _ _ | refine Below.drew ?_)) hB2)))
              all_goals
                have hb2 : Below wr.heap.size wr w2 := Below.trans (by repeat (first | exact Below.refl _ _ | refine Below.drew ?_)) hB2
                have HB2 : Hid (Below (w.heap.size + 1) (w.alloc (.cells #[.string D.name, .slice ac D.nc cc, .slice ap D.np cp, .slice (some ⟨b1, o1, none⟩) D.ni ci] 28)) w2) := box4_on HB.out hb2
                clear hB2 hb2 hL HB HWK hcells
                go_wp2
                go_roundg (D.ni - (k + 1))
                case measure => omega
                case rel => exact ⟨k + 1, by omega, rfl, by go_num, by rw [HN'.out], by first | exact HB2.out | exact HB2.out.drew⟩
          · have hkz : ¬ (k : Int) < (D.ni : Int) := by omega
            obtain rfl : k = D.ni := by omega
            have hjz := HS2.out D.ni hk
            obtain ⟨J, hJ⟩ : ∃ J, Hid (idxT D D.ni = J) := ⟨_, rfl⟩
            rw [hJ.out] at HD hjz ⊢
            have e1 : (⟨#[125]⟩ : ByteArray).size = 1 := rfl
            have s1 : ¬ (J.size + 1 > 9223372036854775807) := by omega
            have HBw : Hid (Below w.heap.size w wr) := hBw
            clear hi hB hBw HIX HCZ HXZ HP2 HS2 hv
            go_wp2
            go_ret
            exact ⟨by rw [HD.out]; rfl, HBw.out⟩
  · have HD : Hid (defText D = (⟨#[]⟩ : ByteArray)) := by show _ = _; unfold defText; rw [if_neg hg]
    obtain ⟨r, hr⟩ : ∃ r, Hid (checkF D = r) := ⟨_, rfl⟩
    rw [hr.out] at hC hg
    have hq : (r != 0) = true := by simpa using hg
    clear hc hp hi hv hf hg
    go_enter Tryz.func10, Tryz.ntmps10
    go_wp2_with fail
    refine hC.mono ?_
    rintro e w1 ⟨rfl, hb1⟩
    have HB : Hid (Below w.heap.size w w1) := hBw0.trans (hb1.mono (by simp))
    clear hC hb1 hBw0 hB0
    go_wp2
    go_ret
    exact ⟨by rw [HD.out]; rfl, HB.out⟩
end Go.Proofs.YtfjlmkphncigladGreatDoor

/-
  The model's SameDef comes to the plain one.
-/
namespace Go.Proofs.YtfjlmkphncigladGreatDoor
open Go.RowKit
set_option maxRecDepth 4000

set_option maxHeartbeats 4000000 in
theorem specSame_any (u v : Value) (D E : PDef) (w : World) (h1 : DView w u D) (h2 : DView w v E) (hf : DFine D) :
    Calls Tryz.prog 12 #[u, v] w fun e w' => e = .returned (.bool (sameF D E)) ∧ Below w.heap.size w w' := by
  have hnc := hf.nc
  have hni := hf.ni
  have hnp := hf.np
  have HIX : Hid (∀ i, i < D.ni → (D.idx i).n ≤ 1048576) := fun i hi => (hf.idx i hi).2
  clear hf
  obtain ⟨ac, cc, ap, cp, ai, ci, rfl, hc1, hp1, hi1⟩ := h1.is
  obtain ⟨bc, dc, bp, dp, bi, di, rfl, hc2, hp2, hi2⟩ := h2.is
  clear h1 h2
  have hB0 : Below (w.heap.size + 1 + 1) ((w.alloc (.cells #[.string D.name, .slice ac D.nc cc, .slice ap D.np cp, .slice ai D.ni ci] 28)).alloc (.cells #[.string E.name, .slice bc E.nc dc, .slice bp E.np dp, .slice bi E.ni di] 28)) ((w.alloc (.cells #[.string D.name, .slice ac D.nc cc, .slice ap D.np cp, .slice ai D.ni ci] 28)).alloc (.cells #[.string E.name, .slice bc E.nc dc, .slice bp E.np dp, .slice bi E.ni di] 28)) := Below.refl _ _
  obtain ⟨hBw0, -⟩ := box44_below hB0
  have HO : Hid (sameF D E = true ↔ (D.name = E.name ∧ D.nc = E.nc ∧ D.ni = E.ni ∧ sameByF D.np D.pri E.np E.pri = true ∧ (∀ i, i < D.nc → (D.col i).name = (E.col i).name ∧ (D.col i).type = (E.col i).type ∧ (D.col i).null = (E.col i).null)
    ∧ (∀ i, i < D.ni → (D.idx i).name = (E.idx i).name ∧ (D.idx i).uniq = (E.idx i).uniq ∧ sameByF (D.idx i).n (D.idx i).part (E.idx i).n (E.idx i).part = true))) := by show _ ↔ _; unfold sameF; exact decide_eq_true_iff
  have HNO : Hid (¬ (sameF D E = true) → sameF D E = false) := fun h => by cases e : sameF D E with | true => exact absurd e h | false => rfl
  by_cases q1 : D.name = E.name
  · have r1 := bytes_eq q1
    by_cases q2 : D.nc = E.nc
    · have r2 : ((D.nc : Int) != (E.nc : Int)) = false := by rw [q2]; exact bne_self_eq_false _
      by_cases q3 : D.ni = E.ni
      · have r3 : ((D.ni : Int) != (E.ni : Int)) = false := by rw [q3]; exact bne_self_eq_false _
        have hS := fun W (hb : Below w.heap.size w W) => l9SameParts_any ap bp D.np cp E.np dp D.pri E.pri W (hp1.below hb) (hp2.below hb) hnp
        have HQ : Hid (D.name = E.name ∧ D.nc = E.nc ∧ D.ni = E.ni) := ⟨q1, q2, q3⟩
        clear q1 q2 q3
        go_enter Tryz.func12, Tryz.ntmps12
        go_wp2_with fail
        refine (hS _ hBw0).mono ?_
        cases q4 : sameByF D.np D.pri E.np E.pri with
        | false =>
          rintro e w1 ⟨rfl, hb1⟩
          have HB : Hid (Below w.heap.size w w1) := (box44_below (box44_on hB0 hb1)).1
          have HF : Hid (sameF D E = false) := HNO.out (fun h => by have := (HO.out.1 h).2.2.2.1; rw [q4] at this; cases this)
          clear hb1 hS hc1 hc2 hp1 hp2 hi1 hi2 HO HNO
          go_wp2
          go_ret
          exact ⟨by rw [HF.out]; rfl, HB.out⟩
        | true =>
          rintro e w1 ⟨rfl, hb1⟩
          have hB1 := box44_on hB0 hb1
          have HE1 : Hid (D.name = E.name ∧ D.nc = E.nc ∧ D.ni = E.ni ∧ sameByF D.np D.pri E.np E.pri = true) := ⟨HQ.out.1, HQ.out.2.1, HQ.out.2.2, q4⟩
          clear hb1 hS hp1 hp2 hB0 hBw0 HQ q4 r1 r2 r3
          go_wp2
          go_loopg [5] D.nc (fun q i wr => ∃ k : Nat, k ≤ D.nc ∧ q = D.nc - k ∧ i = .int .i64 k ∧ Below (w.heap.size + 1 + 1) ((w.alloc (.cells #[.string D.name, .slice ac D.nc cc, .slice ap D.np cp, .slice ai D.ni ci] 28)).alloc (.cells #[.string E.name, .slice bc E.nc dc, .slice bp E.np dp, .slice bi E.ni di] 28)) wr ∧ Hid (∀ i, i < k → (D.col i).name = (E.col i).name ∧ (D.col i).type = (E.col i).type ∧ (D.col i).null = (E.col i).null))
          case atStart => exact ⟨0, Nat.zero_le _, rfl, rfl, hB1, fun j hj => absurd hj (Nat.not_lt_zero _)⟩
          case round =>
            clear hB1
            obtain ⟨k, hk, rfl, rfl, hB, HA⟩ := hrel
            obtain ⟨⟨x0, x1, x2, x3⟩, y0, y1, y2, y3⟩ := box44 hB
            obtain ⟨hBw, hsz⟩ := box44_below hB
            by_cases hlt : k < D.nc
            · have hkz : (k : Int) < (D.nc : Int) := by omega
              have hkz2 : (k : Int) < (E.nc : Int) := by have := HE1.out.2.1; omega
              obtain ⟨b1, o1, e1, hb1, hcs⟩ := (hc1.below hBw).cells (by omega)
              obtain ⟨b2, o2, e2, hb2, hcs2⟩ := (hc2.below hBw).cells (by omega)
              rw [e1] at x1
              rw [e2] at y1
              obtain ⟨f0, f1, f2⟩ := hcs k hlt
              obtain ⟨g0, g1, g2⟩ := hcs2 k (by omega)
              have hQ := neCol_run (D.col k) (E.col k)
              have HE : Hid (eqCol (D.col k) (E.col k) = true ↔ ((D.col k).name = (E.col k).name ∧ (D.col k).type = (E.col k).type ∧ (D.col k).null = (E.col k).null)) := by show _ ↔ _; simp [eqCol, and_assoc]
              have HB : Hid (Below (w.heap.size + 1 + 1) ((w.alloc (.cells #[.string D.name, .slice ac D.nc cc, .slice ap D.np cp, .slice ai D.ni ci] 28)).alloc (.cells #[.string E.name, .slice bc E.nc dc, .slice bp E.np dp, .slice bi E.ni di] 28)) wr) := hB
              have HBw : Hid (Below w.heap.size w wr) := hBw
              have HL : Hid (eqCol (D.col k) (E.col k) = true → ∀ i, i < k + 1 → (D.col i).name = (E.col i).name ∧ (D.col i).type = (E.col i).type ∧ (D.col i).null = (E.col i).null) := by
                intro ho i hi
                by_cases e : i < k
                · exact HA.out i e
                · obtain rfl : i = k := by omega
                  exact HE.out.1 ho
              have HL2 : Hid (eqCol (D.col k) (E.col k) = false → sameF D E = false) := fun ho => HNO.out (fun h => by
                have := HE.out.2 ((HO.out.1 h).2.2.2.2.1 k hlt)
                rw [ho] at this; cases this)
              obtain ⟨s0, hs0⟩ : ∃ x, Hid ((D.col k).name = x) := ⟨_, rfl⟩
              obtain ⟨s1, hs1⟩ : ∃ x, Hid ((D.col k).type = x) := ⟨_, rfl⟩
              obtain ⟨s2, hs2⟩ : ∃ x, Hid ((D.col k).null = x) := ⟨_, rfl⟩
              obtain ⟨t0, ht0⟩ : ∃ x, Hid ((E.col k).name = x) := ⟨_, rfl⟩
              obtain ⟨t1, ht1⟩ : ∃ x, Hid ((E.col k).type = x) := ⟨_, rfl⟩
              obtain ⟨t2, ht2⟩ : ∃ x, Hid ((E.col k).null = x) := ⟨_, rfl⟩
              obtain ⟨o, ho⟩ : ∃ x, Hid (eqCol (D.col k) (E.col k) = x) := ⟨_, rfl⟩
              simp only [hs0.out, hs1.out, hs2.out, ht0.out, ht1.out, ht2.out, ho.out] at hQ
              rw [hs0.out] at f0
              rw [hs1.out] at f1
              rw [hs2.out] at f2
              rw [ht0.out] at g0
              rw [ht1.out] at g1
              rw [ht2.out] at g2
              rw [ho.out] at HL HL2
              clear hcs hcs2 hc1 hc2 hi1 hi2 hB hBw HA HE HO HNO e1 e2
              cases o with
              | true =>
                have HN : Hid (∀ i, i < k + 1 → (D.col i).name = (E.col i).name ∧ (D.col i).type = (E.col i).type ∧ (D.col i).null = (E.col i).null) := HL.out rfl
                clear HL HL2
                go_wp2_with fail
                go_quiet (fail)
                go_wp2
                go_roundg (D.nc - (k + 1))
                case measure => omega
                case rel => exact ⟨k + 1, by omega, rfl, by go_num, HB.out.trans ⟨rfl, rfl, rfl, Nat.le_refl _, fun _ _ => rfl⟩, HN⟩
              | false =>
                have HF : Hid (sameF D E = false) := HL2.out rfl
                clear HL HL2
                go_wp2_with fail
                go_quiet (fail)
                go_wp2
                go_ret
                exact ⟨by rw [HF.out]; rfl, HBw.out.trans ⟨rfl, rfl, rfl, Nat.le_refl _, fun _ _ => rfl⟩⟩
            · have hkz : ¬ (k : Int) < (D.nc : Int) := by omega
              obtain rfl : k = D.nc := by omega
              clear hc1 hc2
              go_wp2
              go_loopg [6] D.ni (fun q i wr => ∃ k : Nat, k ≤ D.ni ∧ q = D.ni - k ∧ i = .int .i64 k ∧ Below (w.heap.size + 1 + 1) ((w.alloc (.cells #[.string D.name, .slice ac D.nc cc, .slice ap D.np cp, .slice ai D.ni ci] 28)).alloc (.cells #[.string E.name, .slice bc E.nc dc, .slice bp E.np dp, .slice bi E.ni di] 28)) wr ∧ Hid (∀ i, i < k → (D.idx i).name = (E.idx i).name ∧ (D.idx i).uniq = (E.idx i).uniq ∧ sameByF (D.idx i).n (D.idx i).part (E.idx i).n (E.idx i).part = true))
              case atStart => exact ⟨0, Nat.zero_le _, rfl, rfl, hB, fun j hj => absurd hj (Nat.not_lt_zero _)⟩
              case round =>
                clear hB hBw hsz x0 x1 x2 x3 y0 y1 y2 y3 hkz hlt hk
                obtain ⟨k, hk, rfl, rfl, hB, HI⟩ := hrel
                obtain ⟨⟨x0, x1, x2, x3⟩, y0, y1, y2, y3⟩ := box44 hB
                obtain ⟨hBw, hsz⟩ := box44_below hB
                by_cases hlt : k < D.ni
                · have hkz : (k : Int) < (D.ni : Int) := by omega
                  have hkz2 : (k : Int) < (E.ni : Int) := by have := HE1.out.2.2.1; omega
                  obtain ⟨b1, o1, e1, hb1, hcs⟩ := (hi1.below hBw).cells (by omega)
                  obtain ⟨b2, o2, e2, hb2, hcs2⟩ := (hi2.below hBw).cells (by omega)
                  rw [e1] at x3
                  rw [e2] at y3
                  obtain ⟨f0, f1, a3, c3, f2, hv3⟩ := hcs k hlt
                  obtain ⟨g0, g1, a4, c4, g2, hv4⟩ := hcs2 k (by omega)
                  have hS := fun W (hb : Below wr.heap.size wr W) => l9SameParts_any a3 a4 (D.idx k).n c3 (E.idx k).n c4 (D.idx k).part (E.idx k).part W (hv3.below hb) (hv4.below hb) (HIX.out k hlt)
                  have HB : Hid (Below (w.heap.size + 1 + 1) ((w.alloc (.cells #[.string D.name, .slice ac D.nc cc, .slice ap D.np cp, .slice ai D.ni ci] 28)).alloc (.cells #[.string E.name, .slice bc E.nc dc, .slice bp E.np dp, .slice bi E.ni di] 28)) wr) := hB
                  have HBw : Hid (Below w.heap.size w wr) := hBw
                  have HL : Hid ((D.idx k).name = (E.idx k).name ∧ (D.idx k).uniq = (E.idx k).uniq ∧ sameByF (D.idx k).n (D.idx k).part (E.idx k).n (E.idx k).part = true → ∀ i, i < k + 1 → (D.idx i).name = (E.idx i).name ∧ (D.idx i).uniq = (E.idx i).uniq ∧ sameByF (D.idx i).n (D.idx i).part (E.idx i).n (E.idx i).part = true) := by
                    intro ho i hi
                    by_cases e : i < k
                    · exact HI.out i e
                    · obtain rfl : i = k := by omega
                      exact ho
                  have HL2 : Hid (¬ ((D.idx k).name = (E.idx k).name ∧ (D.idx k).uniq = (E.idx k).uniq ∧ sameByF (D.idx k).n (D.idx k).part (E.idx k).n (E.idx k).part = true) → sameF D E = false) := fun hn => HNO.out (fun h => hn ((HO.out.1 h).2.2.2.2.2 k hlt))
                  obtain ⟨s0, hs0⟩ : ∃ x, Hid ((D.idx k).name = x) := ⟨_, rfl⟩
                  obtain ⟨s1, hs1⟩ : ∃ x, Hid ((D.idx k).uniq = x) := ⟨_, rfl⟩
                  obtain ⟨s2, hs2⟩ : ∃ x, Hid ((D.idx k).n = x) := ⟨_, rfl⟩
                  obtain ⟨t0, ht0⟩ : ∃ x, Hid ((E.idx k).name = x) := ⟨_, rfl⟩
                  obtain ⟨t1, ht1⟩ : ∃ x, Hid ((E.idx k).uniq = x) := ⟨_, rfl⟩
                  obtain ⟨t2, ht2⟩ : ∃ x, Hid ((E.idx k).n = x) := ⟨_, rfl⟩
                  obtain ⟨o, ho⟩ : ∃ x, Hid (sameByF (D.idx k).n (D.idx k).part (E.idx k).n (E.idx k).part = x) := ⟨_, rfl⟩
                  simp only [ho.out] at hS
                  simp only [hs2.out, ht2.out] at hS
                  rw [ho.out] at HL HL2
                  rw [hs0.out] at f0 HL HL2
                  rw [hs1.out] at f1 HL HL2
                  rw [hs2.out] at f2
                  rw [ht0.out] at g0 HL HL2
                  rw [ht1.out] at g1 HL HL2
                  rw [ht2.out] at g2
                  clear hcs hcs2 hi1 hi2 hB hBw HA HI HO HNO e1 e2 hv3 hv4
                  have hA1 : Below wr.heap.size wr ((wr.alloc (.cells #[.string s0, .bool s1, .slice a3 s2 c3] 60)).alloc (.cells #[.string t0, .bool t1, .slice a4 t2 c4] 60)) := ((Below.refl _ _).alloc (Nat.le_refl _) _).alloc (by simp) _
                  have HA1 : Hid (Below wr.heap.size wr ((wr.alloc (.cells #[.string s0, .bool s1, .slice a3 s2 c3] 60)).alloc (.cells #[.string t0, .bool t1, .slice a4 t2 c4] 60))) := hA1
                  have hS1 := hS _ hA1
                  clear hS hA1
                  have HY : Hid (∀ j, ⟨w.heap.size + 1, j, none⟩ = (⟨w.heap.size + 1, j, none⟩ : Addr)) := fun _ => rfl
                  have y3' : (wr.alloc (.cells #[.string s0, .bool s1, .slice a3 s2 c3] 60)).cell? ⟨w.heap.size + 1, 3, none⟩ = some (.slice (some ⟨b2, o2, none⟩) E.ni di) := by rw [World.cell?_alloc_lt _ _ _ (by show w.heap.size + 1 < _; omega)]; exact y3
                  have g0' : (wr.alloc (.cells #[.string s0, .bool s1, .slice a3 s2 c3] 60)).cell? ⟨b2, o2 + k * 3, none⟩ = some (.string t0) := by rw [World.cell?_alloc_lt _ _ _ hb2]; exact g0
                  have g1' : (wr.alloc (.cells #[.string s0, .bool s1, .slice a3 s2 c3] 60)).cell? ⟨b2, o2 + k * 3 + 1, none⟩ = some (.bool t1) := by rw [World.cell?_alloc_lt _ _ _ hb2]; exact g1
                  have g2' : (wr.alloc (.cells #[.string s0, .bool s1, .slice a3 s2 c3] 60)).cell? ⟨b2, o2 + k * 3 + 2, none⟩ = some (.slice a4 t2 c4) := by rw [World.cell?_alloc_lt _ _ _ hb2]; exact g2
                  by_cases p1 : s0 = t0
                  · have m1 := bytes_eq p1
                    by_cases p2 : s1 = t1
                    · subst p2
                      cases o with
                      | true =>
                        have HN : Hid (∀ i, i < k + 1 → (D.idx i).name = (E.idx i).name ∧ (D.idx i).uniq = (E.idx i).uniq ∧ sameByF (D.idx i).n (D.idx i).part (E.idx i).n (E.idx i).part = true) := HL.out ⟨p1, rfl, rfl⟩
                        clear HL HL2 p1
                        go_wp2_with fail
                        refine hS1.mono ?_
                        rintro e w2 ⟨rfl, hb2'⟩
                        have HB2 : Hid (Below (w.heap.size + 1 + 1) ((w.alloc (.cells #[.string D.name, .slice ac D.nc cc, .slice ap D.np cp, .slice ai D.ni ci] 28)).alloc (.cells #[.string E.name, .slice bc E.nc dc, .slice bp E.np dp, .slice bi E.ni di] 28)) w2) := box44_on HB.out (HA1.out.trans (hb2'.mono HA1.out.size))
                        clear hS1 hb2' HA1
                        go_wp2
                        go_roundg (D.ni - (k + 1))
                        case measure => omega
                        case rel => exact ⟨k + 1, by omega, rfl, by go_num, HB2.out, HN⟩
                      | false =>
                        have HF : Hid (sameF D E = false) := HL2.out (fun h => by cases h.2.2)
                        clear HL HL2 p1
                        go_wp2_with fail
                        refine hS1.mono ?_
                        rintro e w2 ⟨rfl, hb2'⟩
                        have HB2 : Hid (Below w.heap.size w w2) := HBw.out.trans ((HA1.out.trans (hb2'.mono HA1.out.size)).mono (by omega))
                        clear hS1 hb2' HA1
                        go_wp2
                        go_ret
                        exact ⟨by rw [HF.out]; rfl, HB2.out⟩
                    · have HF : Hid (sameF D E = false) := HL2.out (fun h => p2 h.2.1)
                      have HB2 : Hid (Below w.heap.size w _) := HBw.out.trans (HA1.out.mono (by omega))
                      obtain rfl : t1 = !s1 := bool_ne p2
                      clear HL HL2 p1 p2 hS1
                      cases s1
                      all_goals
                        go_wp2
                        go_ret
                        exact ⟨by rw [HF.out]; rfl, HB2.out⟩
                  · have m1 := bytes_ne p1
                    have HF : Hid (sameF D E = false) := HL2.out (fun h => p1 h.1)
                    have HB2 : Hid (Below w.heap.size w _) := HBw.out.trans (HA1.out.mono (by omega))
                    clear HL HL2 p1 hS1
                    go_wp2
                    go_ret
                    exact ⟨by rw [HF.out]; rfl, HB2.out⟩
                · have hkz : ¬ (k : Int) < (D.ni : Int) := by omega
                  obtain rfl : k = D.ni := by omega
                  have HF : Hid (sameF D E = true) := HO.out.2 ⟨HE1.out.1, HE1.out.2.1, HE1.out.2.2.1, HE1.out.2.2.2, HA.out, HI.out⟩
                  clear hi1 hi2 HO HNO HA HI hB
                  go_wp2
                  go_ret
                  exact ⟨by rw [HF.out]; rfl, hBw⟩
      · have r3 : ((D.ni : Int) != (E.ni : Int)) = true := by simp; omega
        have HF : Hid (sameF D E = false) := HNO.out (fun h => q3 (HO.out.1 h).2.2.1)
        clear hc1 hc2 hp1 hp2 hi1 hi2 HO HNO q1 q2 q3
        go_enter Tryz.func12, Tryz.ntmps12
        go_wp2
        go_ret
        exact ⟨by rw [HF.out]; rfl, hBw0⟩
    · have r2 : ((D.nc : Int) != (E.nc : Int)) = true := by simp; omega
      have HF : Hid (sameF D E = false) := HNO.out (fun h => q2 (HO.out.1 h).2.1)
      clear hc1 hc2 hp1 hp2 hi1 hi2 HO HNO q1 q2
      go_enter Tryz.func12, Tryz.ntmps12
      go_wp2
      go_ret
      exact ⟨by rw [HF.out]; rfl, hBw0⟩
  · have r1 := bytes_ne q1
    have HF : Hid (sameF D E = false) := HNO.out (fun h => q1 (HO.out.1 h).1)
    clear hc1 hc2 hp1 hp2 hi1 hi2 HO HNO q1
    go_enter Tryz.func12, Tryz.ntmps12
    go_wp2
    go_ret
    exact ⟨by rw [HF.out]; rfl, hBw0⟩
end Go.Proofs.YtfjlmkphncigladGreatDoor

/-
  Whether a code is too long.
-/
namespace Go.Proofs.YtfjlmkphncigladGreatDoor
open Go.RowKit
set_option maxRecDepth 4000

theorem big_any (ao : Option Addr) (n cap : Nat) (w : World) (_hn : n ≤ 9223372036854775807) :
    Calls Tryz.prog 4 #[.slice ao n cap] w fun e w' => e = .returned (.bool (decide ((1048576 : Int) < (n : Int)))) ∧ w = w' := by
  go_enter Tryz.func4, Tryz.ntmps4
  go_wp2
  go_ret
  exact ⟨rfl, rfl⟩

end Go.Proofs.YtfjlmkphncigladGreatDoor

