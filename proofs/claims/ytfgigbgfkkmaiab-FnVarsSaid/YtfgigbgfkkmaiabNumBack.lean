/-
  Numbers in order, plainly: they come back of their bytes, and what is read of bytes has these.
-/
import Derived.Test.YtfgigbgfkkmaiabNumOrder
import Derived.Test.YtfgigbgfkkmaiabGetFixWalks
namespace Go.Proofs.Ytfgigbgfkkmaiab
open Go.RowKit

theorem getF_put (l : List Int) (m : Nat) (x : Int) (hl : l.length = m) : getF (m + 4) (fun i => (l ++ fixL x).getD i 0) (m : Int) = (clampF x, (m : Int) + 4, true) := by
  rw [getF_is _ _ _ (Nat.le_refl _)]
  have e : valF 4 (fun i => (l ++ fixL x).getD (m + i) 0) = clampF x + 2147483648 := by
    rw [← valF_fix x]
    apply valF_congr
    intro i hi
    rw [behind _ _ _ _ hl]
    unfold fixL
    rw [lof_get 4 _ i hi]
  rw [e]
  simp only [Prod.mk.injEq, and_true]
  omega

theorem fix_read {n : Nat} {F : Nat → Int} {p a q : Int} (hb : ∀ i, i < n → 0 ≤ F i ∧ F i ≤ 255) (h : getF n F p = (a, q, true)) :
    ∃ i : Nat, p = (i : Int) ∧ q = (i : Int) + 4 ∧ i + 4 ≤ n ∧ -2147483648 ≤ a ∧ a ≤ 2147483647 ∧ fixL a = lof 4 (fun j => F (i + j)) := by
  unfold getF at h
  split at h
  · simp at h
  · obtain ⟨i, rfl⟩ := Int.eq_ofNat_of_zero_le (a := p) (by omega)
    simp only [Prod.mk.injEq, and_true, Int.toNat_natCast] at h
    obtain ⟨rfl, rfl⟩ := h
    have hbi : ∀ j, j < 4 → 0 ≤ F (i + j) ∧ F (i + j) ≤ 255 := fun j hj => hb _ (by omega)
    have hv := valF4_bd (fun j => F (i + j)) hbi
    refine ⟨i, rfl, rfl, by omega, by omega, by omega, ?_⟩
    unfold fixL
    rw [clampF_self _ (by omega), Int.sub_add_cancel]
    unfold lof
    apply List.map_congr_left
    intro j hj
    exact be_valF 4 _ hbi j (List.mem_range.1 hj)

theorem hcnt_head (x : Int) : hcnt (headV x) = cnt (sizeV x) ∧ (headV x < 128 ↔ x < 0) := by
  unfold headV hcnt
  (repeat' split) <;> omega

theorem getV_put (l : List Int) (m : Nat) (x : Int) (hl : l.length = m) : getV (m + (varL x).length) (fun i => (l ++ varL x).getD i 0) (m : Int) = (clampV x, (m : Int) + ((varL x).length : Int), true) := by
  have hy := clampV_bd x
  unfold varL
  generalize clampV x = y at *
  have hlen := keptL_len y
  obtain ⟨hh, hs⟩ := hcnt_head y
  have hF0 : (l ++ keptL y).getD m 0 = headV y := by
    have := behind l (keptL y) m 0 hl
    rw [Nat.add_zero] at this
    rw [this]
    rfl
  have hFt : ∀ j, j < cnt (sizeV y) → (l ++ keptL y).getD (m + 1 + j) 0 = tailV y j := by
    intro j hj
    rw [Nat.add_assoc, behind _ _ _ _ hl, Nat.add_comm 1 j]
    show (lof (cnt (sizeV y)) (tailV y)).getD j 0 = _
    exact lof_get _ _ j hj
  have hD : ∀ j, j < cnt (sizeV y) → digF (fun i => (l ++ keptL y).getD i 0) m j = be (cnt (sizeV y)) (sizeV y) j := by
    intro j hj
    unfold digF turnF
    simp only [hF0, hFt j hj]
    unfold tailV
    by_cases h : y < 0
    · rw [if_pos (by simpa using hs.2 h), if_pos h]; omega
    · rw [if_neg (by simpa using fun h' => h (hs.1 h')), if_neg h]
  have hv : valF (cnt (sizeV y)) (digF (fun i => (l ++ keptL y).getD i 0) m) = sizeV y := by
    rw [valF_congr _ _ _ hD]
    exact size_back hy
  have hn : numV (fun i => (l ++ keptL y).getD i 0) m = y := by
    unfold numV
    simp only [hF0, hh, hv]
    unfold sizeV
    by_cases h : y < 0
    · rw [if_pos (hs.2 h), if_pos h]; omega
    · rw [if_neg (fun h' => h (hs.1 h')), if_neg h]
  rw [getV_is]
  · simp only [hF0, hh, hn, hlen, Prod.mk.injEq, and_true, true_and]
    omega
  · omega
  · simp only [hF0, hh, hlen]
    have := cnt_le (sizeV y)
    omega
  · unfold badV
    simp only [hF0, hh, hn]
    have hc := (cnt_valF (cnt (sizeV y)) (be (cnt (sizeV y)) (sizeV y)) (cnt_le _) (fun i _ => be_bd _ _ i)).1 (by rw [size_back hy])
    rintro (⟨h0, h1⟩ | h | h)
    · rw [hD 0 h0] at h1
      exact hc ⟨h0, h1⟩
    · omega
    · omega

theorem var_read {n : Nat} {F : Nat → Int} {p a q : Int} (hb : ∀ i, i < n → 0 ≤ F i ∧ F i ≤ 255) (h : getV n F p = (a, q, true)) :
    ∃ i : Nat, p = (i : Int) ∧ q = (i : Int) + ((varL a).length : Int) ∧ i + (varL a).length ≤ n ∧ -1000000000000000 ≤ a ∧ a ≤ 1000000000000000 ∧ varL a = lof (varL a).length (fun j => F (i + j)) := by
  by_cases h1 : p < 0 ∨ (n : Int) ≤ p
  · rw [getV_out n F p h1] at h; simp at h
  obtain ⟨i, rfl⟩ := Int.eq_ofNat_of_zero_le (a := p) (by omega)
  have hin : i < n := by omega
  by_cases h2 : 7 < hcnt (F i) ∨ n < i + 1 + hcnt (F i)
  · rw [getV_few n F i hin h2] at h; simp at h
  by_cases h3 : badV F i
  · rw [getV_bad n F i hin h2 h3] at h; simp at h
  rw [getV_is n F i hin h2 h3] at h
  simp only [Prod.mk.injEq, and_true] at h
  obtain ⟨rfl, rfl⟩ := h
  unfold badV at h3
  have hhi := hb i hin
  have hD : ∀ j, j < hcnt (F i) → 0 ≤ digF F i j ∧ digF F i j ≤ 255 := turnF_bd _ (fun j hj => hb _ (by omega))
  have hv := valF7 (hcnt (F i)) (digF F i) (by omega) hD
  have hcv := (cnt_valF (hcnt (F i)) (digF F i) (by omega) hD).2 (fun h => h3 (Or.inl h))
  have hbe := be_valF (hcnt (F i)) (digF F i) hD
  have hrange : -1000000000000000 ≤ numV F i ∧ numV F i ≤ 1000000000000000 := by omega
  have hneg : numV F i < 0 ↔ F i < 128 := by unfold numV; split <;> omega
  have hsz : sizeV (numV F i) = valF (hcnt (F i)) (digF F i) := by
    unfold sizeV
    by_cases h : F i < 128
    · rw [if_pos (hneg.2 h)]; unfold numV; rw [if_pos h]; omega
    · rw [if_neg (fun h' => h (hneg.1 h'))]; unfold numV; rw [if_neg h]
  have hlen : (varL (numV F i)).length = hcnt (F i) + 1 := by unfold varL; rw [clampV_self _ hrange, keptL_len, hsz, hcv]
  refine ⟨i, rfl, by rw [hlen]; omega, by rw [hlen]; omega, hrange.1, hrange.2, ?_⟩
  rw [hlen, Nat.add_comm (hcnt (F i)) 1, lof_cons]
  unfold varL keptL
  rw [clampV_self _ hrange, hsz, hcv]
  congr 1
  · unfold headV
    rw [hsz, hcv, Nat.add_zero]
    unfold hcnt
    by_cases h : F i < 128
    · rw [if_pos (hneg.2 h), if_pos h]; omega
    · rw [if_neg (fun h' => h (hneg.1 h')), if_neg h]; omega
  · unfold lof
    apply List.map_congr_left
    intro j hj
    have hj := List.mem_range.1 hj
    unfold tailV
    rw [hsz, hcv, hbe j hj, show i + (j + 1) = i + 1 + j by omega]
    unfold digF turnF
    by_cases h : F i < 128
    · rw [if_pos (hneg.2 h), if_pos (by simpa using h)]
      show 255 - (255 - F (i + 1 + j)) = F (i + 1 + j)
      omega
    · rw [if_neg (fun h' => h (hneg.1 h')), if_neg (by simpa using h)]
end Go.Proofs.Ytfgigbgfkkmaiab
