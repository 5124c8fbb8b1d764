/-
  Together: MarkDefsW, HeldDefs
-/
import Derived.Test.YtnpfgamlncfikaaGreatDoorPackF13
import Derived.Test.YtnpfgamlncfikaaGreatDoorPackF5
import Derived.Deep.RegionHeld3
/-
  markDefS, walked.
-/
namespace Go.Proofs.YtnpfgamlncfikaaGreatDoor
open Go.RowKit
set_option maxRecDepth 4000

theorem kD4_le {D : PDef} {K : Int} (h1 : D.nc ≤ 6) (h2 : D.np ≤ 2) (h3 : D.ni ≤ 2) (h4 : ∀ j, j < D.ni → (D.idx j).n ≤ 2) : K ≤ kD4 D K ∧ kD4 D K ≤ K + 5000 := by
  have := kI_le (f := D.idx) (k := kD3 D K) (n := D.ni) (fun i hi => by have := h4 i hi; omega) D.ni (Nat.le_refl _)
  unfold kD4
  unfold kD3 kD2 kD1 at this ⊢
  omega
theorem own_some {W : World} {base T c N : Nat} {v : Value} {enc : Nat → List Value} (he : ∀ i, (enc i).length = c) (h : W.ownsRow base T c v N (rowG enc N)) (hN : 0 < N) : ∃ b k, v = .slice (some ⟨b, 0, none⟩) N k := by
  obtain ⟨a, k, e, -, h1⟩ := own_cells he h
  obtain ⟨g, ea, -⟩ := h1 hN
  exact ⟨g, k, by rw [e, ea]⟩
/-- What marking asks of a table. -/
structure Gd (D : PDef) (vp : Value) (A : Nat → Nat) : Prop where
  nc : 1 ≤ D.nc ∧ D.nc ≤ 6
  np : 1 ≤ D.np ∧ D.np ≤ 2
  ni : D.ni ≤ 2
  n : ∀ j, j < D.ni → (D.idx j).n ≤ 2
  dj : ∀ x y, x < y → y < D.ni → A x ≠ A y
  pn : ∀ x, x < D.ni → vp.ownBlock ≠ some (A x)
theorem kDs_le {f : Nat → PDef} {V : Nat → Value × Value × Value} {A : Nat → Nat → Nat} {k : Int} {n : Nat} (h : ∀ i, i < n → Gd (f i) (V i).2.1 (A i)) : ∀ i, i ≤ n → k ≤ kDs f k i ∧ kDs f k i ≤ k + 5000 * i
  | 0, _ => by simp [kDs]
  | i + 1, hi => by
    have ih := kDs_le (k := k) h i (by omega)
    have g := h i (by omega)
    have := kD4_le (K := kDs f k i) g.nc.2 g.np.2 g.ni g.n
    rw [kDs]
    push_cast
    omega

set_option maxHeartbeats 8000000 in
theorem markDefS_any {base a n cap : Nat} {V : Nat → Value × Value × Value} {A C : Nat → Nat → Nat} {β : Nat → Nat} {f : Nat → PDef} (k : Int) (w : World) (h : TM base a n cap V A C β f w) (hG : ∀ i, i < n → Gd (f i) (V i).2.1 (A i)) (hn : n ≤ 3) (hk0 : 0 ≤ k) (hk1 : k ≤ 1000) (hb0 : ∀ i, i < n → ∀ q, inT (V i).1 (V i).2.1 (V i).2.2 (f i).ni (A i) q → base ≤ q) (hba : base ≤ a) :
    Calls Tryz.prog 20 #[.slice (some ⟨a, 0, none⟩) n cap, .int .i64 k] w fun e w' => e = .returned (.int .i64 (kDs f k n)) ∧ TM base a n cap V A C β (fun i => mkdD (f i) (kDs f k i)) w' ∧ Fr (fun q => base ≤ q) w w' := by
  go_enter Tryz.func20, Tryz.ntmps20
  go_wp2
  go_loopg [1, 5] n (fun g s i wr => ∃ j : Nat, j ≤ n ∧ g = n - j ∧ s = .int .i64 (kDs f k j) ∧ i = .int .i64 j ∧ TM base a n cap V A C β (fun i => if i < j then mkdD (f i) (kDs f k i) else f i) wr ∧ Fr (fun q => base ≤ q) w wr)
  case atStart => exact ⟨0, Nat.zero_le _, rfl, rfl, rfl, h.congr (fun i _ => by simp), Fr.refl _ _⟩
  case round =>
    clear h
    obtain ⟨j, hj, rfl, rfl, rfl, hM, hF⟩ := hrel
    by_cases hlt : j < n
    · have hjz : (j : Int) < (n : Int) := by omega
      have g := hG j hlt
      have hkj := kDs_le (k := k) hG j hj
      have HKN : Hid (kDs f k (j + 1) = kD4 (f j) (kDs f k j)) := rfl
      obtain ⟨K, hK⟩ : ∃ x, Hid (kDs f k j = x) := ⟨_, rfl⟩
      rw [hK.out] at hkj HKN ⊢
      have hFj : (fun i => if i < j then mkdD (f i) (kDs f k i) else f i) j = f j := by simp
      obtain ⟨F0, hF0⟩ : ∃ x, Hid ((fun i => if i < j then mkdD (f i) (kDs f k i) else f i) = x) := ⟨_, rfl⟩
      rw [hF0.out] at hM hFj
      have HFA : Hid (∀ i, i < n → (if i < j + 1 then mkdD (f i) (kDs f k i) else f i) = if i = j then mkdD (f j) K else F0 i) := fun i hi => by
        rw [← hF0.out]
        by_cases e : i = j
        · subst e; simp [hK.out]
        · have h1 : (i < j + 1) = (i < j) := by simp; omega
          simp [e, h1]
      have hMt := markText_any K wr (by omega)
      go_wp2_with fail
      refine hMt.mono ?_
      rintro e w2 ⟨rfl, hb2⟩
      have hM2 := hM.below hb2
      have hF2 := hF.trans (Fr.ofBelow hb2)
      obtain ⟨z0, -, -, -⟩ := hM2.cells hlt
      have f0 := own_fz9 hM2.row (j * 4)
      have hM3 := hM2.name hlt (markT K)
      have hbn : But a w2 (w2.setCell ⟨a, j * 4, none⟩ (.string (markT K))) := (But.refl _ _).set _ _
      obtain ⟨W3, hW3⟩ : ∃ W3, Hid (w2.setCell ⟨a, j * 4, none⟩ (.string (markT K)) = W3) := ⟨_, rfl⟩
      rw [hW3.out] at hM3 hbn
      rw [hFj] at hM3
      have hF3 := hF2.trans (Fr.ofBut hbn hba)
      obtain ⟨-, z1, -, -⟩ := hM3.cells hlt
      have T3 := hM3.tab j hlt
      simp only [putD, if_true] at T3
      obtain ⟨bc, kc, ec⟩ := own_some (c := 3) (enc := encC (f j).col) (fun _ => rfl) (show W3.ownsRow base 67 3 (V j).1 (f j).nc (rowG (encC (f j).col) (f j).nc) from T3.cols) (Nat.lt_of_lt_of_le Nat.zero_lt_one g.nc.1)
      rw [ec] at z1
      have hCo := markColS_own base bc (f j).nc kc (f j).col (K + 1) W3 (by rw [← ec]; exact T3.cols) (by omega) (by have := g.nc.2; omega)
      have HK3 : Hid (TM base a n cap V A C β (putD F0 j { f j with name := markT K }) W3 ∧ Fr (fun q => base ≤ q) w W3) := ⟨hM3, hF3⟩
      have HEC : Hid ((V j).1 = .slice (some ⟨bc, 0, none⟩) (f j).nc kc) := ec
      obtain ⟨N1, hN1⟩ : ∃ x, Hid ((f j).nc = x) := ⟨_, rfl⟩
      have hn1 : N1 ≤ 6 := by rw [← hN1.out]; exact g.nc.2
      rw [hN1.out] at hCo z1 HEC
      clear hMt hb2 hM hF hM2 hF2 hM3 hbn hF3 T3 ec
      go_wp2_with (rw [hW3.out])
      refine hCo.mono ?_
      rintro e w4 ⟨rfl, hB4, hO4⟩
      obtain ⟨hM3, hF3⟩ := HK3.out
      have T3 := hM3.tab j hlt
      simp only [putD, if_true] at T3
      have hin4 : ∀ q, q = bc → inT (V j).1 (V j).2.1 (V j).2.2 (f j).ni (A j) q := fun q hq => .inl (by rw [HEC.out, hq]; simp [Value.ownBlock])
      have fr4 : Fr (fun q => q = bc) W3 w4 := Fr.ofBut hB4 rfl
      have hbo : (V j).1.ownBlock = some bc := by rw [HEC.out]; simp [Value.ownBlock]
      have T4 : Tr base (V j).1 (V j).2.1 (V j).2.2 { f j with name := markT K, col := mkdC (K + 1) } (A j) (C j) w4 :=
        ⟨by show w4.ownsRow _ _ _ _ (f j).nc (rowG (encC (mkdC (K + 1))) (f j).nc); rw [HEC.out, hN1.out]; exact hO4,
         own_fr T3.pri fr4 (fun q hq e => own_ne T3.cols T3.pri (by decide) hbo hq (by rw [e])),
         own_fr T3.idx fr4 (fun q hq e => own_ne T3.cols T3.idx (by decide) hbo hq (by rw [e])),
         fun i hi => own_fr (T3.pts i hi) fr4 (fun q hq e => own_ne T3.cols (T3.pts i hi) (by decide) hbo hq (by rw [e]))⟩
      have hM4 := hM3.turn hlt (D := { f j with name := markT K, col := mkdC (K + 1) }) fr4 (fun q hq => by simpa [putD] using hin4 q hq) T4 (by simp [putD]) (by simp [putD])
      have hF4 := hF3.trans (fr4.mono (fun q hq => hb0 j hlt q (hin4 q hq)))
      clear z1
      obtain ⟨-, -, z2, -⟩ := hM4.cells hlt
      obtain ⟨bp, kp, ep⟩ := own_some (c := 2) (enc := encB (f j).pri) (fun _ => rfl) (show w4.ownsRow base 70 2 (V j).2.1 (f j).np (rowG (encB (f j).pri) (f j).np) from T4.pri) (Nat.lt_of_lt_of_le Nat.zero_lt_one g.np.1)
      rw [ep] at z2
      have hBy := markByS_own base bp (f j).np kp (f j).pri (K + 1 + 3 * N1) w4 (by rw [← ep]; exact T4.pri) (by omega) (by have := g.np.2; omega)
      have HK4 : Hid (TM base a n cap V A C β (putD (putD F0 j { f j with name := markT K }) j { f j with name := markT K, col := mkdC (K + 1) }) w4 ∧ Fr (fun q => base ≤ q) w w4 ∧ Tr base (V j).1 (V j).2.1 (V j).2.2 { f j with name := markT K, col := mkdC (K + 1) } (A j) (C j) w4) := ⟨hM4, hF4, T4⟩
      have HEP : Hid ((V j).2.1 = .slice (some ⟨bp, 0, none⟩) (f j).np kp) := ep
      obtain ⟨N2, hN2⟩ : ∃ x, Hid ((f j).np = x) := ⟨_, rfl⟩
      have hn2 : N2 ≤ 2 := by rw [← hN2.out]; exact g.np.2
      rw [hN2.out] at hBy z2 HEP
      clear hCo hB4 hO4 HK3 hM3 hF3 T3 hin4 fr4 hbo T4 hM4 hF4 ep z0 f0
      go_wp2_with fail
      refine hBy.mono ?_
      rintro e w5 ⟨rfl, hB5, hO5⟩
      obtain ⟨hM4, hF4, T4⟩ := HK4.out
      have hbo : (V j).2.1.ownBlock = some bp := by rw [HEP.out]; simp [Value.ownBlock]
      have hin5 : ∀ q, q = bp → inT (V j).1 (V j).2.1 (V j).2.2 (f j).ni (A j) q := fun q hq => .inr (.inl (by rw [hbo, hq]))
      have fr5 : Fr (fun q => q = bp) w4 w5 := Fr.ofBut hB5 rfl
      have T5 : Tr base (V j).1 (V j).2.1 (V j).2.2 { f j with name := markT K, col := mkdC (K + 1), pri := mkdB (K + 1 + 3 * N1) } (A j) (C j) w5 :=
        ⟨own_fr T4.cols fr5 (fun q hq e => own_ne T4.pri T4.cols (by decide) hbo hq (by rw [e])),
         by show w5.ownsRow _ _ _ _ (f j).np (rowG (encB (mkdB (K + 1 + 3 * N1))) (f j).np); rw [HEP.out, hN2.out]; exact hO5,
         own_fr T4.idx fr5 (fun q hq e => own_ne T4.pri T4.idx (by decide) hbo hq (by rw [e])),
         fun i hi => own_fr (T4.pts i hi) fr5 (fun q hq e => by
           have h1 : A j i = q := by simpa [Value.ownBlock] using hq
           exact g.pn i hi (by rw [hbo, h1, e]))⟩
      have hM5 := hM4.turn hlt (D := { f j with name := markT K, col := mkdC (K + 1), pri := mkdB (K + 1 + 3 * N1) }) fr5 (fun q hq => by simpa [putD] using hin5 q hq) T5 (by simp [putD]) (by simp [putD])
      have hF5 := hF4.trans (fr5.mono (fun q hq => hb0 j hlt q (hin5 q hq)))
      clear z2
      obtain ⟨-, -, -, z3⟩ := hM5.cells hlt
      have HK5 : Hid (TM base a n cap V A C β (putD (putD (putD F0 j { f j with name := markT K }) j { f j with name := markT K, col := mkdC (K + 1) }) j { f j with name := markT K, col := mkdC (K + 1), pri := mkdB (K + 1 + 3 * N1) }) w5 ∧ Fr (fun q => base ≤ q) w w5 ∧ Tr base (V j).1 (V j).2.1 (V j).2.2 { f j with name := markT K, col := mkdC (K + 1), pri := mkdB (K + 1 + 3 * N1) } (A j) (C j) w5) := ⟨hM5, hF5, T5⟩
      have HFIN : Hid (∀ W, TM base a n cap V A C β (putD (putD (putD (putD F0 j { f j with name := markT K }) j { f j with name := markT K, col := mkdC (K + 1) }) j { f j with name := markT K, col := mkdC (K + 1), pri := mkdB (K + 1 + 3 * N1) }) j (mkdD (f j) K)) W → TM base a n cap V A C β (fun i => if i < j + 1 then mkdD (f i) (kDs f k i) else f i) W) := fun W hW => hW.congr (fun i hi => by
        rw [HFA.out i hi]
        by_cases e : i = j
        · simp [putD, e]
        · simp [putD, e])
      have HMK : Hid (mkdD (f j) K = { f j with name := markT K, col := mkdC (K + 1), pri := mkdB (K + 1 + 3 * N1), idx := mkdI (f j).idx (K + 1 + 3 * N1 + 2 * N2) }) := by
        show _ = _
        rw [← hN1.out, ← hN2.out]
        rfl
      have HKE : Hid (kD4 (f j) K = kI (f j).idx (K + 1 + 3 * N1 + 2 * N2) (f j).ni) := by
        show _ = _
        unfold kD4 kD3 kD2 kD1
        rw [hN1.out, hN2.out]
      clear hBy hB5 hO5 HK4 hM4 hF4 T4 hbo hin5 fr5 T5 hM5 hF5 HFA hFj hF0
      by_cases hni : (f j).ni = 0
      · have T5 := HK5.out.2.2
        obtain ⟨ai, ki, ei, -, -⟩ := own_cells (c := 3) (fun _ => rfl) T5.idx
        have ei' : (V j).2.2 = .slice ai 0 ki := by rw [ei]; show Value.slice ai (f j).ni ki = _; rw [hni]
        rw [ei'] at z3
        have hIx := markIndexS_none ai ki (K + 1 + 3 * N1 + 2 * N2) w5
        have HR : Hid (TM base a n cap V A C β (fun i => if i < j + 1 then mkdD (f i) (kDs f k i) else f i) w5 ∧ Fr (fun q => base ≤ q) w w5) := by
          refine ⟨HFIN.out w5 (HK5.out.1.turn hlt (S := fun _ => False) (D := mkdD (f j) K) (Fr.refl _ _) (fun q hq => absurd hq id) ⟨?_, ?_, ?_, ?_⟩ ?_ ?_), HK5.out.2.1⟩
          · rw [HMK.out]; exact T5.cols
          · rw [HMK.out]; exact T5.pri
          · rw [HMK.out]
            show w5.ownsRow _ _ _ _ (f j).ni (rowG _ (f j).ni)
            have := T5.idx
            simp only [hni] at this ⊢
            exact this
          · intro i hi
            have : i < (f j).ni := hi
            omega
          · simp [putD, mkdD]
          · simp [putD, mkdD]
        have HKZ : Hid (kDs f k (j + 1) = K + 1 + 3 * N1 + 2 * N2) := by show _ = _; rw [HKN.out, HKE.out, hni]; rfl
        clear HK5 T5 ei HFIN HMK HKE
        go_wp2_with fail
        refine hIx.mono ?_
        rintro e w6 ⟨rfl, rfl⟩
        clear hIx
        go_wp2
        go_roundg (n - (j + 1))
        case measure => omega
        case rel => exact ⟨j + 1, by omega, rfl, by rw [HKZ.out], by go_num, HR.out.1, HR.out.2⟩
      · have T5 := HK5.out.2.2
        obtain ⟨bi, ki, ei⟩ := own_some (c := 3) (enc := encI (f j).idx (A j) (C j)) (fun _ => rfl) (show w5.ownsRow base 73 3 (V j).2.2 (f j).ni (rowG (encI (f j).idx (A j) (C j)) (f j).ni) from T5.idx) (Nat.pos_of_ne_zero hni)
        have ei' : (V j).2.2 = .slice (some ⟨bi, 0, none⟩) (f j).ni ki := ei
        rw [ei'] at z3
        have hIx := markIndexS_own base bi (f j).ni ki (f j).idx (A j) (C j) (K + 1 + 3 * N1 + 2 * N2) w5 (by rw [← ei']; exact T5.idx) T5.pts g.dj (fun i hi => by have := g.n i hi; omega) (by have := g.ni; omega) (by omega) (by omega)
        obtain ⟨N3, hN3⟩ : ∃ x, Hid ((f j).ni = x) := ⟨_, rfl⟩
        have HEI : Hid ((V j).2.2 = .slice (some ⟨bi, 0, none⟩) N3 ki) := by show _ = _; rw [ei', hN3.out]
        rw [hN3.out] at hIx z3 HKE
        obtain ⟨KE, hKE⟩ : ∃ x, Hid (kI (f j).idx (K + 1 + 3 * N1 + 2 * N2) N3 = x) := ⟨_, rfl⟩
        rw [hKE.out] at hIx HKE
        clear T5 ei ei'
        go_wp2_with fail
        refine hIx.mono ?_
        rintro e w6 ⟨rfl, fr6, hO6, hP6⟩
        obtain ⟨hM5, hF5, T5⟩ := HK5.out
        have hbo : (V j).2.2.ownBlock = some bi := by rw [HEI.out]; simp [Value.ownBlock]
        have hin6 : ∀ q, (q = bi ∨ ∃ i, i < N3 ∧ q = A j i) → inT (V j).1 (V j).2.1 (V j).2.2 (f j).ni (A j) q := fun q hq => by
          rcases hq with rfl | ⟨i, hi, rfl⟩
          · exact .inr (.inr (.inl hbo))
          · exact .inr (.inr (.inr ⟨i, by rw [hN3.out]; exact hi, rfl⟩))
        have T6 : Tr base (V j).1 (V j).2.1 (V j).2.2 (mkdD (f j) K) (A j) (C j) w6 := by
          rw [HMK.out]
          refine ⟨own_fr T5.cols fr6 (fun q hq e => ?_), own_fr T5.pri fr6 (fun q hq e => ?_), ?_, fun i hi => ?_⟩
          · rcases e with rfl | ⟨i, hi, rfl⟩
            · exact own_ne T5.cols T5.idx (by decide) hq hbo rfl
            · exact own_ne T5.cols (T5.pts i (by show i < (f j).ni; rw [hN3.out]; exact hi)) (by decide) hq (by simp [Value.ownBlock]) rfl
          · rcases e with rfl | ⟨i, hi, rfl⟩
            · exact own_ne T5.pri T5.idx (by decide) hq hbo rfl
            · exact g.pn i (by rw [hN3.out]; exact hi) hq
          · show w6.ownsRow _ _ _ _ (f j).ni (rowG (encI (mkdI (f j).idx (K + 1 + 3 * N1 + 2 * N2)) (A j) (C j)) (f j).ni)
            rw [HEI.out, hN3.out]; exact hO6
          · exact hP6 i (by have : i < (f j).ni := hi; rw [hN3.out] at this; exact this)
        have HR : Hid (TM base a n cap V A C β (fun i => if i < j + 1 then mkdD (f i) (kDs f k i) else f i) w6 ∧ Fr (fun q => base ≤ q) w w6) :=
          ⟨HFIN.out w6 (hM5.turn hlt (D := mkdD (f j) K) fr6 (fun q hq => by simpa [putD] using hin6 q hq) T6 (by simp [putD, mkdD]) (by simp [putD, mkdD])), hF5.trans (fr6.mono (fun q hq => hb0 j hlt q (hin6 q hq)))⟩
        have HKZ : Hid (kDs f k (j + 1) = KE) := by show _ = _; rw [HKN.out, HKE.out]
        clear hIx fr6 hO6 hP6 hM5 hF5 T5 hbo hin6 T6 HK5 HFIN HMK HKE
        go_wp2
        go_roundg (n - (j + 1))
        case measure => omega
        case rel => exact ⟨j + 1, by omega, rfl, by rw [HKZ.out], by go_num, HR.out.1, HR.out.2⟩
    · obtain rfl : j = n := by omega
      have HR : Hid (TM base a j cap V A C β (fun i => mkdD (f i) (kDs f k i)) wr ∧ Fr (fun q => base ≤ q) w wr) := ⟨hM.congr (fun i hi => by simp [hi]), hF⟩
      clear hM hF
      go_wp2
      go_ret
      exact ⟨rfl, HR.out.1, HR.out.2⟩
end Go.Proofs.YtnpfgamlncfikaaGreatDoor

/-
  What the law's own helpers heldColS, heldByS, heldIndexS, heldDefS come to on rows that were marked.
-/
namespace Go.Proofs.YtnpfgamlncfikaaGreatDoor
open Go.RowKit
set_option maxRecDepth 4000

set_option maxHeartbeats 4000000 in
theorem heldColS_any (ao : Option Addr) (n cap : Nat) (k : Int) (w : World) (hv : CView w ao n cap (mkdC k)) (hk : 0 ≤ k) (hk1 : k + 3 * n ≤ 4611686018427387904) :
    Calls Tryz.prog 54 #[.slice ao n cap, .int .i64 k] w fun e w' => e = .returned (.int .i64 (k + 3 * n)) ∧ Below w.heap.size w w' := by
  go_enter Tryz.func54, Tryz.ntmps54
  go_wp2
  go_loopg [1, 5] n (fun g s i wr => ∃ j : Nat, j ≤ n ∧ g = n - j ∧ s = .int .i64 (k + 3 * j) ∧ i = .int .i64 j ∧ Below w.heap.size w wr)
  case atStart => exact ⟨0, Nat.zero_le _, rfl, by simp, rfl, Below.refl _ _⟩
  case round =>
    obtain ⟨j, hj, rfl, rfl, rfl, hB⟩ := hrel
    by_cases hlt : j < n
    · obtain ⟨b, off, rfl, hb, hc⟩ := (hv.below hB).cells (by omega)
      have hjz : (j : Int) < (n : Int) := by omega
      obtain ⟨x0, x1, x2⟩ := hc j hlt
      have x0' : wr.cell? ⟨b, off + j * 3, none⟩ = some (.string (markT (k + 3 * j))) := x0
      have x1' : wr.cell? ⟨b, off + j * 3 + 1, none⟩ = some (.int .i64 (k + 3 * j + 1)) := x1
      have x2' : wr.cell? ⟨b, off + j * 3 + 2, none⟩ = some (.bool ((k + 3 * (j : Int) + 1 + 1) % 3 == 0)) := x2
      have hT := fun W => markText_any (k + 3 * j) W (by omega)
      obtain ⟨s, hs⟩ : ∃ s, Hid (markT (k + 3 * j) = s) := ⟨_, rfl⟩
      rw [hs.out] at x0'
      simp only [hs.out] at hT
      have hq := bytes_eq (a := s) rfl
      have HWK : Hid (∀ W, Below wr.heap.size wr W → W.cell? ⟨b, off + j * 3, none⟩ = some (.string s) ∧ W.cell? ⟨b, off + j * 3 + 1, none⟩ = some (.int .i64 (k + 3 * j + 1)) ∧ W.cell? ⟨b, off + j * 3 + 2, none⟩ = some (.bool ((k + 3 * (j : Int) + 1 + 1) % 3 == 0))) := by
        intro W hw
        refine ⟨?_, ?_, ?_⟩ <;> (rw [hw.cell (by exact hb)]; assumption)
      clear hc hv x0 x1 x2
      go_wp2_with fail
      go_region_held3 (fun W => W.cell? ⟨b, off + j * 3, none⟩ = some (.string s) ∧ W.cell? ⟨b, off + j * 3 + 1, none⟩ = some (.int .i64 (k + 3 * j + 1)) ∧ W.cell? ⟨b, off + j * 3 + 2, none⟩ = some (.bool ((k + 3 * (j : Int) + 1 + 1) % 3 == 0))) (first | assumption | go_keep) (first | (go_at_call 50; refine (hT _).mono ?_; rintro e w2 ⟨rfl, hB2⟩; have hcells : w2.cell? ⟨b, off + j * 3, none⟩ = some (.string s) ∧ w2.cell? ⟨b, off + j * 3 + 1, none⟩ = some (.int .i64 (k + 3 * j + 1)) ∧ w2.cell? ⟨b, off + j * 3 + 2, none⟩ = some (.bool ((k + 3 * (j : Int) + 1 + 1) % 3 == 0)) := HWK.out _ (Below.trans (by repeat (first | exact Below.refl _ _ | refine Below.drew ?_)) hB2)))
      all_goals
        have HB3 : Hid (Below w.heap.size w w2) := hB.trans (Below.trans (by repeat (first | exact Below.refl _ _ | refine Below.drew ?_)) (hB2.mono (by have := hB.size; exact this)))
        obtain ⟨y0, y1, y2⟩ := hcells
        clear HWK hT x0' x1' x2' hB hB2
        go_wp2
        go_roundg (n - (j + 1))
        case measure => omega
        case rel => exact ⟨j + 1, by omega, rfl, by go_num, by go_num, by first | exact HB3.out | exact HB3.out.drew⟩
    · obtain rfl : j = n := by omega
      clear hv
      go_wp2
      go_ret
      exact ⟨rfl, hB⟩
set_option maxHeartbeats 4000000 in
theorem heldByS_any (ao : Option Addr) (n cap : Nat) (k : Int) (w : World) (hv : BView w ao n cap (mkdB k)) (hk : 0 ≤ k) (hk1 : k + 2 * n ≤ 4611686018427387904) :
    Calls Tryz.prog 55 #[.slice ao n cap, .int .i64 k] w fun e w' => e = .returned (.int .i64 (k + 2 * n)) ∧ Below w.heap.size w w' := by
  go_enter Tryz.func55, Tryz.ntmps55
  go_wp2
  go_loopg [1, 5] n (fun g s i wr => ∃ j : Nat, j ≤ n ∧ g = n - j ∧ s = .int .i64 (k + 2 * j) ∧ i = .int .i64 j ∧ Below w.heap.size w wr)
  case atStart => exact ⟨0, Nat.zero_le _, rfl, by simp, rfl, Below.refl _ _⟩
  case round =>
    obtain ⟨j, hj, rfl, rfl, rfl, hB⟩ := hrel
    by_cases hlt : j < n
    · obtain ⟨b, off, rfl, hb, hc⟩ := (hv.below hB).cells (by omega)
      have hjz : (j : Int) < (n : Int) := by omega
      obtain ⟨x0, x1⟩ := hc j hlt
      have x0' : wr.cell? ⟨b, off + j * 2, none⟩ = some (.int .i64 (k + 2 * j)) := x0
      have x1' : wr.cell? ⟨b, off + j * 2 + 1, none⟩ = some (.bool ((k + 2 * (j : Int) + 1) % 3 == 0)) := x1
      clear hc hv x0 x1
      go_wp2
      go_roundg (n - (j + 1))
      case measure => omega
      case rel => exact ⟨j + 1, by omega, rfl, by go_num, by go_num, hB⟩
    · obtain rfl : j = n := by omega
      clear hv
      go_wp2
      go_ret
      exact ⟨rfl, hB⟩
set_option maxHeartbeats 4000000 in
theorem heldIndexS_any (ao : Option Addr) (n cap : Nat) (f : Nat → PIdx) (k : Int) (w : World) (hv : IView w ao n cap (mkdI f k)) (hfew : ∀ i, i < n → (f i).n ≤ 1000) (hn : n ≤ 1000) (hk : 0 ≤ k) (hk1 : k ≤ 1000000000) :
    Calls Tryz.prog 56 #[.slice ao n cap, .int .i64 k] w fun e w' => e = .returned (.int .i64 (kI f k n)) ∧ Below w.heap.size w w' := by
  go_enter Tryz.func56, Tryz.ntmps56
  go_wp2
  go_loopg [1, 5] n (fun g s i wr => ∃ j : Nat, j ≤ n ∧ g = n - j ∧ s = .int .i64 (kI f k j) ∧ i = .int .i64 j ∧ Below w.heap.size w wr)
  case atStart => exact ⟨0, Nat.zero_le _, rfl, rfl, rfl, Below.refl _ _⟩
  case round =>
    obtain ⟨j, hj, rfl, rfl, rfl, hB⟩ := hrel
    by_cases hlt : j < n
    · obtain ⟨b, off, rfl, hb, hc⟩ := (hv.below hB).cells (by omega)
      have hjz : (j : Int) < (n : Int) := by omega
      have hkj := kI_le (k := k) hfew j hj
      have hfj := hfew j hlt
      have HKN : Hid (kI f k (j + 1) = kI f k j + 1 + 1 + 2 * (f j).n) := rfl
      obtain ⟨x0, x1, pa, pc, x2, hvp⟩ := hc j hlt
      have x0' : wr.cell? ⟨b, off + j * 3, none⟩ = some (.string (markT (kI f k j))) := x0
      have x1' : wr.cell? ⟨b, off + j * 3 + 1, none⟩ = some (.bool ((kI f k j + 1) % 3 == 0)) := x1
      have x2' : wr.cell? ⟨b, off + j * 3 + 2, none⟩ = some (.slice pa (f j).n pc) := x2
      have hvp' : BView wr pa (f j).n pc (mkdB (kI f k j + 1 + 1)) := hvp
      obtain ⟨K, hK⟩ : ∃ x, Hid (kI f k j = x) := ⟨_, rfl⟩
      rw [hK.out] at hkj HKN x0' x1' hvp' ⊢
      obtain ⟨nj, hnj⟩ : ∃ x, Hid ((f j).n = x) := ⟨_, rfl⟩
      rw [hnj.out] at HKN x2' hvp' hfj
      have hT := fun W => markText_any K W (by omega)
      obtain ⟨s, hs⟩ : ∃ s, Hid (markT K = s) := ⟨_, rfl⟩
      rw [hs.out] at x0'
      simp only [hs.out] at hT
      have hq := bytes_eq (a := s) rfl
      have HBy : Hid (∀ W, Below wr.heap.size wr W → Calls Tryz.prog 55 #[.slice pa nj pc, .int .i64 (K + 1 + 1)] W fun e w' => e = .returned (.int .i64 (K + 1 + 1 + 2 * nj)) ∧ Below W.heap.size W w') := fun W hw => heldByS_any pa nj pc (K + 1 + 1) W (hvp'.below hw) (by omega) (by omega)
      have HWK : Hid (∀ W, Below wr.heap.size wr W → W.cell? ⟨b, off + j * 3, none⟩ = some (.string s) ∧ W.cell? ⟨b, off + j * 3 + 1, none⟩ = some (.bool ((K + 1) % 3 == 0)) ∧ W.cell? ⟨b, off + j * 3 + 2, none⟩ = some (.slice pa nj pc)) := by
        intro W hw
        refine ⟨?_, ?_, ?_⟩ <;> (rw [hw.cell (by exact hb)]; assumption)
      clear hc hv x0 x1 x2 hvp hvp'
      go_wp2_with fail
      go_region_held3 (fun W => W.cell? ⟨b, off + j * 3, none⟩ = some (.string s) ∧ W.cell? ⟨b, off + j * 3 + 1, none⟩ = some (.bool ((K + 1) % 3 == 0)) ∧ W.cell? ⟨b, off + j * 3 + 2, none⟩ = some (.slice pa nj pc)) (first | assumption | go_keep) (first | (go_at_call 50; refine (hT _).mono ?_; rintro e w2 ⟨rfl, hB2⟩; have hcells : w2.cell? ⟨b, off + j * 3, none⟩ = some (.string s) ∧ w2.cell? ⟨b, off + j * 3 + 1, none⟩ = some (.bool ((K + 1) % 3 == 0)) ∧ w2.cell? ⟨b, off + j * 3 + 2, none⟩ = some (.slice pa nj pc) := HWK.out _ (Below.trans (by repeat (first | exact Below.refl _ _ | refine Below.drew ?_)) hB2)))
      all_goals
        have HBW : Hid (Below wr.heap.size wr w2) := Below.trans (by repeat (first | exact Below.refl _ _ | refine Below.drew ?_)) hB2
        obtain ⟨y0, y1, y2⟩ := hcells
        have hBy := fun W (hw : Below w2.heap.size w2 W) => HBy.out W (HBW.out.trans (hw.mono HBW.out.size))
        have HB3 : Hid (Below w.heap.size w w2) := hB.trans (HBW.out.mono hB.size)
        clear HWK hT x0' x1' x2' hB hB2 HBy HBW
        go_wp2_with fail
        refine (hBy _ (by repeat (first | exact Below.refl _ _ | refine Below.drew ?_))).mono ?_
        rintro e w4 ⟨rfl, hB4⟩
        have HB4 : Hid (Below w.heap.size w w4) := HB3.out.trans (Below.trans (by repeat (first | exact Below.refl _ _ | refine Below.drew ?_)) (hB4.mono (by have := HB3.out.size; exact this)))
        have hnl : ¬ (K + 1 + 1 + 2 * (nj : Int) < 0) := by omega
        clear hBy hB4 HB3 y0 y1 y2
        go_wp2
        go_roundg (n - (j + 1))
        case measure => omega
        case rel => exact ⟨j + 1, by omega, rfl, by rw [HKN.out], by go_num, HB4.out⟩
    · obtain rfl : j = n := by omega
      clear hv
      go_wp2
      go_ret
      exact ⟨rfl, hB⟩
end Go.Proofs.YtnpfgamlncfikaaGreatDoor

