/-
  Together: NumBack, VarMore, LofEq, RowB, CrcPlain, SumPlain, RowBytes, GotRet, RowRead, RowDec, CrcBits, CrcImpl, SumImpl, Equal, GetSum, SumsPlain, OkFKinds, RowBack, RowDecs, RowTurned, RowEncLen, RowOkSpec, GetBit, RowReadI
-/
import Derived.Test.YtikopeihkbpjhacPack4
import Derived.Test.YtikopeihkbpjhacPack2
import Derived.Test.YtikopeihkbpjhacPack1
import Derived.Test.YtikopeihkbpjhacPack3
/-
  Numbers in order, plainly: they come back of their bytes, and what is read of bytes has these.
-/
namespace Go.Proofs.Ytikopeihkbpjhac
open Go.RowKit
set_option maxRecDepth 4000

theorem getF_put (l : List Int) (m : Nat) (x : Int) (hl : l.length = m) : getF (m + 4) (fun i => (l ++ fixL x).getD i 0) (m : Int) = (clampF x, (m : Int) + 4, true) := by
  rw [getF_is _ _ _ (Nat.le_refl _)]
  have e : valF 4 (fun i => (l ++ fixL x).getD (m + i) 0) = clampF x + 2147483648 := by
    rw [← valF_fix x]
    apply valF_congr
    intro i hi
    rw [behind _ _ _ _ hl]
    unfold fixL
    rw [lof_get 4 _ i hi]
  rw [e]
  simp only [Prod.mk.injEq, and_true]
  omega

theorem fix_read {n : Nat} {F : Nat → Int} {p a q : Int} (hb : ∀ i, i < n → 0 ≤ F i ∧ F i ≤ 255) (h : getF n F p = (a, q, true)) :
    ∃ i : Nat, p = (i : Int) ∧ q = (i : Int) + 4 ∧ i + 4 ≤ n ∧ -2147483648 ≤ a ∧ a ≤ 2147483647 ∧ fixL a = lof 4 (fun j => F (i + j)) := by
  unfold getF at h
  split at h
  · simp at h
  · obtain ⟨i, rfl⟩ := Int.eq_ofNat_of_zero_le (a := p) (by omega)
    simp only [Prod.mk.injEq, and_true, Int.toNat_natCast] at h
    obtain ⟨rfl, rfl⟩ := h
    have hbi : ∀ j, j < 4 → 0 ≤ F (i + j) ∧ F (i + j) ≤ 255 := fun j hj => hb _ (by omega)
    have hv := valF4_bd (fun j => F (i + j)) hbi
    refine ⟨i, rfl, rfl, by omega, by omega, by omega, ?_⟩
    unfold fixL
    rw [clampF_self _ (by omega), Int.sub_add_cancel]
    unfold lof
    apply List.map_congr_left
    intro j hj
    exact be_valF 4 _ hbi j (List.mem_range.1 hj)

theorem hcnt_head (x : Int) : hcnt (headV x) = cnt (sizeV x) ∧ (headV x < 128 ↔ x < 0) := by
  unfold headV hcnt
  (repeat' split) <;> omega

theorem getV_put (l : List Int) (m : Nat) (x : Int) (hl : l.length = m) : getV (m + (varL x).length) (fun i => (l ++ varL x).getD i 0) (m : Int) = (clampV x, (m : Int) + ((varL x).length : Int), true) := by
  have hy := clampV_bd x
  unfold varL
  generalize clampV x = y at *
  have hlen := keptL_len y
  obtain ⟨hh, hs⟩ := hcnt_head y
  have hF0 : (l ++ keptL y).getD m 0 = headV y := by
    have := behind l (keptL y) m 0 hl
    rw [Nat.add_zero] at this
    rw [this]
    rfl
  have hFt : ∀ j, j < cnt (sizeV y) → (l ++ keptL y).getD (m + 1 + j) 0 = tailV y j := by
    intro j hj
    rw [Nat.add_assoc, behind _ _ _ _ hl, Nat.add_comm 1 j]
    show (lof (cnt (sizeV y)) (tailV y)).getD j 0 = _
    exact lof_get _ _ j hj
  have hD : ∀ j, j < cnt (sizeV y) → digF (fun i => (l ++ keptL y).getD i 0) m j = be (cnt (sizeV y)) (sizeV y) j := by
    intro j hj
    unfold digF turnF
    simp only [hF0, hFt j hj]
    unfold tailV
    by_cases h : y < 0
    · rw [if_pos (by simpa using hs.2 h), if_pos h]; omega
    · rw [if_neg (by simpa using fun h' => h (hs.1 h')), if_neg h]
  have hv : valF (cnt (sizeV y)) (digF (fun i => (l ++ keptL y).getD i 0) m) = sizeV y := by
    rw [valF_congr _ _ _ hD]
    exact size_back hy
  have hn : numV (fun i => (l ++ keptL y).getD i 0) m = y := by
    unfold numV
    simp only [hF0, hh, hv]
    unfold sizeV
    by_cases h : y < 0
    · rw [if_pos (hs.2 h), if_pos h]; omega
    · rw [if_neg (fun h' => h (hs.1 h')), if_neg h]
  rw [getV_is]
  · simp only [hF0, hh, hn, hlen, Prod.mk.injEq, and_true, true_and]
    omega
  · omega
  · simp only [hF0, hh, hlen]
    have := cnt_le (sizeV y)
    omega
  · unfold badV
    simp only [hF0, hh, hn]
    have hc := (cnt_valF (cnt (sizeV y)) (be (cnt (sizeV y)) (sizeV y)) (cnt_le _) (fun i _ => be_bd _ _ i)).1 (by rw [size_back hy])
    rintro (⟨h0, h1⟩ | h | h)
    · rw [hD 0 h0] at h1
      exact hc ⟨h0, h1⟩
    · omega
    · omega

theorem var_read {n : Nat} {F : Nat → Int} {p a q : Int} (hb : ∀ i, i < n → 0 ≤ F i ∧ F i ≤ 255) (h : getV n F p = (a, q, true)) :
    ∃ i : Nat, p = (i : Int) ∧ q = (i : Int) + ((varL a).length : Int) ∧ i + (varL a).length ≤ n ∧ -1000000000000000 ≤ a ∧ a ≤ 1000000000000000 ∧ varL a = lof (varL a).length (fun j => F (i + j)) := by
  by_cases h1 : p < 0 ∨ (n : Int) ≤ p
  · rw [getV_out n F p h1] at h; simp at h
  obtain ⟨i, rfl⟩ := Int.eq_ofNat_of_zero_le (a := p) (by omega)
  have hin : i < n := by omega
  by_cases h2 : 7 < hcnt (F i) ∨ n < i + 1 + hcnt (F i)
  · rw [getV_few n F i hin h2] at h; simp at h
  by_cases h3 : badV F i
  · rw [getV_bad n F i hin h2 h3] at h; simp at h
  rw [getV_is n F i hin h2 h3] at h
  simp only [Prod.mk.injEq, and_true] at h
  obtain ⟨rfl, rfl⟩ := h
  unfold badV at h3
  have hhi := hb i hin
  have hD : ∀ j, j < hcnt (F i) → 0 ≤ digF F i j ∧ digF F i j ≤ 255 := turnF_bd _ (fun j hj => hb _ (by omega))
  have hv := valF7 (hcnt (F i)) (digF F i) (by omega) hD
  have hcv := (cnt_valF (hcnt (F i)) (digF F i) (by omega) hD).2 (fun h => h3 (Or.inl h))
  have hbe := be_valF (hcnt (F i)) (digF F i) hD
  have hrange : -1000000000000000 ≤ numV F i ∧ numV F i ≤ 1000000000000000 := by omega
  have hneg : numV F i < 0 ↔ F i < 128 := by unfold numV; split <;> omega
  have hsz : sizeV (numV F i) = valF (hcnt (F i)) (digF F i) := by
    unfold sizeV
    by_cases h : F i < 128
    · rw [if_pos (hneg.2 h)]; unfold numV; rw [if_pos h]; omega
    · rw [if_neg (fun h' => h (hneg.1 h'))]; unfold numV; rw [if_neg h]
  have hlen : (varL (numV F i)).length = hcnt (F i) + 1 := by unfold varL; rw [clampV_self _ hrange, keptL_len, hsz, hcv]
  refine ⟨i, rfl, by rw [hlen]; omega, by rw [hlen]; omega, hrange.1, hrange.2, ?_⟩
  rw [hlen, Nat.add_comm (hcnt (F i)) 1, lof_cons]
  unfold varL keptL
  rw [clampV_self _ hrange, hsz, hcv]
  congr 1
  · unfold headV
    rw [hsz, hcv, Nat.add_zero]
    unfold hcnt
    by_cases h : F i < 128
    · rw [if_pos (hneg.2 h), if_pos h]; omega
    · rw [if_neg (fun h' => h (hneg.1 h')), if_neg h]; omega
  · unfold lof
    apply List.map_congr_left
    intro j hj
    have hj := List.mem_range.1 hj
    unfold tailV
    rw [hsz, hcv, hbe j hj, show i + (j + 1) = i + 1 + j by omega]
    unfold digF turnF
    by_cases h : F i < 128
    · rw [if_pos (hneg.2 h), if_pos (by simpa using h)]
      show 255 - (255 - F (i + 1 + j)) = F (i + 1 + j)
      omega
    · rw [if_neg (fun h' => h (hneg.1 h')), if_neg (by simpa using h)]
end Go.Proofs.Ytikopeihkbpjhac

/-
  A number that was read of bytes is read of them with others behind, too.
-/
namespace Go.Proofs.Ytikopeihkbpjhac
open Go.RowKit
set_option maxRecDepth 4000

section
variable {N M : Nat} {F G : Nat → Int} {p : Int}
theorem getF_more {a q : Int} (hN : N ≤ M) (hFG : ∀ i, i < N → F i = G i) (h : getF N F p = (a, q, true)) : getF M G p = (a, q, true) := by
  unfold getF at h ⊢
  by_cases hp : p < 0 ∨ (N : Int) - p < 4
  · rw [if_pos hp] at h; simp at h
  · rw [if_neg hp] at h
    rw [if_neg (by omega), ← h]
    rw [valF_congr 4 (fun i => F (p.toNat + i)) (fun i => G (p.toNat + i)) (fun i hi => hFG _ (by omega))]
theorem getV_more {a q : Int} (hN : N ≤ M) (hFG : ∀ i, i < N → F i = G i) (h : getV N F p = (a, q, true)) : getV M G p = (a, q, true) := by
  unfold getV at h ⊢
  by_cases hp : p < 0 ∨ (N : Int) ≤ p
  · rw [if_pos hp] at h; simp at h
  · rw [if_neg hp] at h
    rw [if_neg (by omega)]
    have h0 : F p.toNat = G p.toNat := hFG _ (by omega)
    by_cases h1 : 7 < hcnt (F p.toNat) ∨ N < p.toNat + 1 + hcnt (F p.toNat)
    · rw [if_pos h1] at h; simp at h
    · rw [if_neg h1] at h
      have hd : ∀ j, j < hcnt (F p.toNat) → digF F p.toNat j = digF G p.toNat j := by
        intro j hj
        have e : F (p.toNat + 1 + j) = G (p.toNat + 1 + j) := hFG _ (by omega)
        unfold digF turnF
        dsimp only
        rw [h0, e]
      have hm : numV F p.toNat = numV G p.toNat := by
        unfold numV
        rw [valF_congr _ (digF F p.toNat) (digF G p.toNat) hd, h0]
      have hb : badV F p.toNat ↔ badV G p.toNat := by
        unfold badV
        rw [← hm, ← h0]
        constructor
        · rintro (⟨h2, h3⟩ | h2)
          · exact .inl ⟨h2, by rw [← hd 0 h2]; exact h3⟩
          · exact .inr h2
        · rintro (⟨h2, h3⟩ | h2)
          · exact .inl ⟨h2, by rw [hd 0 h2]; exact h3⟩
          · exact .inr h2
      by_cases h2 : badV F p.toNat
      · rw [if_pos h2] at h; simp at h
      · rw [if_neg h2] at h
        rw [← h0, if_neg (by omega), if_neg (fun e => h2 (hb.2 e)), ← hm]
        exact h
end
end Go.Proofs.Ytikopeihkbpjhac

/-
  Lists of a function's first values are alike just where it is.
-/
namespace Go.Proofs.Ytikopeihkbpjhac
open Go.RowKit
set_option maxRecDepth 4000

theorem lof_eq {n : Nat} {f g : Nat → Int} : lof n f = lof n g ↔ ∀ i, i < n → f i = g i := by
  constructor
  · intro h i hi
    rw [← lof_get n f i hi, ← lof_get n g i hi, h]
  · intro h
    unfold lof
    apply List.map_congr_left
    intro i hi
    exact h i (List.mem_range.1 hi)
end Go.Proofs.Ytikopeihkbpjhac

/-
  Rows as bytes, plainly: what stands at a place, what is read there.
-/
namespace Go.Proofs.Ytikopeihkbpjhac
open Go.RowKit
set_option maxRecDepth 4000

/-- The bytes L stand at place i of the N bytes F. -/
structure AtF (N : Nat) (F : Nat → Int) (i : Nat) (L : List Int) : Prop where
  le : i + L.length ≤ N
  at' : ∀ j, j < L.length → F (i + j) = L.getD j 0
theorem AtF.left {N : Nat} {F : Nat → Int} {i : Nat} {L K : List Int} (h : AtF N F i (L ++ K)) : AtF N F i L :=
  ⟨by have := h.le; rw [List.length_append] at this; omega, fun j hj => by rw [h.at' j (by rw [List.length_append]; omega), getD_left _ _ _ hj]⟩
theorem AtF.right {N : Nat} {F : Nat → Int} {i : Nat} {L K : List Int} (h : AtF N F i (L ++ K)) : AtF N F (i + L.length) K :=
  ⟨by have := h.le; rw [List.length_append] at this; omega, fun j hj => by rw [Nat.add_assoc, h.at' (L.length + j) (by rw [List.length_append]; omega), getD_right]⟩
theorem AtF.append {N : Nat} {F : Nat → Int} {i : Nat} {L K : List Int} (h : AtF N F i L) (k : AtF N F (i + L.length) K) : AtF N F i (L ++ K) :=
  ⟨by have := k.le; rw [List.length_append]; omega, fun j hj => by
    rw [List.length_append] at hj
    by_cases e : j < L.length
    · rw [h.at' j e, getD_left _ _ _ e]
    · obtain ⟨m, rfl⟩ : ∃ m, j = L.length + m := ⟨j - L.length, by omega⟩
      rw [← Nat.add_assoc, k.at' m (by omega), getD_right]⟩
theorem AtF.nil {N : Nat} {F : Nat → Int} {i : Nat} (h : i ≤ N) : AtF N F i [] := ⟨by simpa using h, fun j hj => absurd hj (Nat.not_lt_zero _)⟩
/-- It is these bytes. -/
theorem AtF.lof {N : Nat} {F : Nat → Int} {i : Nat} {L : List Int} (h : AtF N F i L) : lof L.length (fun j => F (i + j)) = L := by
  rw [← lof_self L]
  conv => lhs; rw [show (Go.Proofs.Ytikopeihkbpjhac.lof L.length fun i => L.getD i 0).length = L.length by rw [lof_len]]
  rw [lof_eq]
  exact fun j hj => h.at' j hj
theorem AtF.ofLof {N : Nat} {F : Nat → Int} {i : Nat} {L : List Int} (hle : i + L.length ≤ N) (h : L = Go.Proofs.Ytikopeihkbpjhac.lof L.length (fun j => F (i + j))) : AtF N F i L :=
  ⟨hle, fun j hj => by
    conv => rhs; rw [h]
    rw [lof_get _ _ _ hj]⟩

theorem getU_at {N : Nat} {F : Nat → Int} {i : Nat} {x : Int} (h0 : 0 ≤ x) (h1 : x ≤ 1000000) (h : AtF N F i (groups x)) : getU N F (i : Int) = (x, (i : Int) + ((groups x).length : Int), true) :=
  getU_put i N F x h0 h1 h.at' h.le
theorem getU_read {N : Nat} {F : Nat → Int} {p a q : Int} (hb : ∀ i, i < N → 0 ≤ F i ∧ F i ≤ 255) (h : getU N F p = (a, q, true)) : ∃ i : Nat, p = (i : Int) ∧ AtF N F i (groups a) ∧ q = (i : Int) + ((groups a).length : Int) ∧ 0 ≤ a ∧ a ≤ 1000000 := by
  obtain ⟨ha0, ha1, -, -⟩ := getU_bd hb h
  by_cases h1 : p < 0 ∨ (N : Int) ≤ p
  · unfold getU at h; rw [if_pos h1] at h; cases h
  obtain ⟨i, rfl⟩ := Int.eq_ofNat_of_zero_le (a := p) (by omega)
  have hin : i < N := by omega
  have b0 := hb i hin
  refine ⟨i, rfl, ?_⟩
  by_cases c1 : F i < 128
  · rw [getU_1 N F i hin c1] at h
    cases h
    have e : groups (F i) = [F i] := groups_last _ c1
    rw [e]
    refine ⟨⟨by simp; omega, fun j hj => ?_⟩, rfl, ha0, ha1⟩
    match j, hj with
    | 0, _ => rfl
  by_cases c2 : N ≤ i + 1
  · rw [getU_2end N F i hin (by omega) c2] at h; cases h
  have b1 := hb (i + 1) (by omega)
  by_cases c3 : F (i + 1) < 128
  · by_cases c4 : F (i + 1) = 0
    · rw [getU_2zero N F i (by omega) (by omega) c4] at h; cases h
    rw [getU_2 N F i (by omega) (by omega) c3 c4] at h
    cases h
    have e : groups (F i - 128 + F (i + 1) * 128) = [F i, F (i + 1)] := by
      unfold groups
      rw [if_neg (by omega), if_pos (by omega)]
      congr 1
      · omega
      · congr 1; omega
    rw [e]
    refine ⟨⟨by simp; omega, fun j hj => ?_⟩, rfl, ha0, ha1⟩
    match j, hj with
    | 0, _ => rfl
    | 1, _ => rfl
  by_cases c5 : N ≤ i + 2
  · rw [getU_3end N F i (by omega) (by omega) (by omega) c5] at h; cases h
  have b2 := hb (i + 2) (by omega)
  by_cases c6 : F (i + 2) < 128
  · by_cases c7 : F (i + 2) = 0 ∨ 1000000 < F i - 128 + (F (i + 1) - 128) * 128 + F (i + 2) * 16384
    · rw [getU_3no N F i (by omega) (by omega) (by omega) c6 c7] at h; cases h
    rw [getU_3 N F i (by omega) (by omega) (by omega) c6 c7] at h
    cases h
    have e : groups (F i - 128 + (F (i + 1) - 128) * 128 + F (i + 2) * 16384) = [F i, F (i + 1), F (i + 2)] := by
      unfold groups
      rw [if_neg (by omega), if_neg (by omega)]
      congr 1
      · omega
      · congr 1
        · omega
        · congr 1; omega
    rw [e]
    refine ⟨⟨by simp; omega, fun j hj => ?_⟩, rfl, ha0, ha1⟩
    match j, hj with
    | 0, _ => rfl
    | 1, _ => rfl
    | 2, _ => rfl
  · rw [getU_long N F i (by omega) (by omega) (by omega) (by omega)] at h; cases h

theorem getV_at {N : Nat} {F : Nat → Int} {i : Nat} {x : Int} (h0 : -1000000000000000 ≤ x) (h1 : x ≤ 1000000000000000) (h : AtF N F i (varL x)) : getV N F (i : Int) = (x, (i : Int) + ((varL x).length : Int), true) := by
  have hc : clampV x = x := by unfold clampV; rw [if_neg (by omega), if_neg (by omega)]
  have e := getV_put (Go.Proofs.Ytikopeihkbpjhac.lof i F) i x (lof_len i F)
  rw [hc] at e
  refine getV_more (N := i + (varL x).length) h.le (fun j hj => ?_) e
  by_cases ej : j < i
  · rw [getD_left _ _ _ (by rw [lof_len]; exact ej), lof_get _ _ _ ej]
  · obtain ⟨m, rfl⟩ : ∃ m, j = i + m := ⟨j - i, by omega⟩
    have := getD_right (Go.Proofs.Ytikopeihkbpjhac.lof i F) (varL x) m
    rw [lof_len] at this
    rw [this, h.at' m (by omega)]
theorem getV_read {N : Nat} {F : Nat → Int} {p a q : Int} (hb : ∀ i, i < N → 0 ≤ F i ∧ F i ≤ 255) (h : getV N F p = (a, q, true)) : ∃ i : Nat, p = (i : Int) ∧ AtF N F i (varL a) ∧ q = (i : Int) + ((varL a).length : Int) ∧ -1000000000000000 ≤ a ∧ a ≤ 1000000000000000 := by
  obtain ⟨i, rfl, hq, hle, h0, h1, e⟩ := var_read hb h
  exact ⟨i, rfl, AtF.ofLof hle e, hq, h0, h1⟩

/-- A text as bytes. -/
def txtL (s : ByteArray) : List Int := groups s.size ++ sl s
theorem getText_at {N : Nat} {F : Nat → Int} {i : Nat} {s : ByteArray} (hs : s.size ≤ 1000000) (h : AtF N F i (txtL s)) : getText N F (i : Int) = (s, (i : Int) + ((txtL s).length : Int), true) := by
  have h1 := getU_at (x := s.size) (by omega) (by omega) h.left
  have h2 := h.right
  have hl2 := h2.le
  rw [sl_len] at hl2
  unfold getText
  rw [h1]
  simp only
  rw [if_pos ⟨trivial, by omega⟩]
  have e : (i : Int) + ((groups s.size).length : Int) = ((i + (groups (s.size : Int)).length : Nat) : Int) := by push_cast; rfl
  rw [e]
  simp only [Int.toNat_natCast]
  have e2 := h2.lof
  rw [sl_len] at e2
  rw [e2, strOfNums_sl]
  refine Prod.ext rfl (Prod.ext ?_ rfl)
  show _ = _
  unfold txtL
  rw [List.length_append, sl_len]
  push_cast
  omega
theorem getText_read {N : Nat} {F : Nat → Int} {p q : Int} {s : ByteArray} (hb : ∀ i, i < N → 0 ≤ F i ∧ F i ≤ 255) (h : getText N F p = (s, q, true)) : ∃ i : Nat, p = (i : Int) ∧ AtF N F i (txtL s) ∧ q = (i : Int) + ((txtL s).length : Int) ∧ s.size ≤ 1000000 := by
  unfold getText at h
  by_cases c : (getU N F p).2.2 = true ∧ (getU N F p).1 ≤ N - (getU N F p).2.1
  · rw [if_pos c] at h
    obtain ⟨a, q1, ok, hu⟩ : ∃ a q1 ok, getU N F p = (a, q1, ok) := ⟨_, _, _, rfl⟩
    rw [hu] at c h
    simp only at c h
    obtain ⟨rfl, hle⟩ := c
    obtain ⟨i, rfl, hA, rfl, h0, h1⟩ := getU_read hb hu
    obtain ⟨A, rfl⟩ := Int.eq_ofNat_of_zero_le h0
    have e : (i : Int) + ((groups (A : Int)).length : Int) = ((i + (groups (A : Int)).length : Nat) : Int) := by push_cast; rfl
    rw [e] at h hle
    simp only [Int.toNat_natCast, Prod.mk.injEq, and_true] at h
    obtain ⟨hs, hq⟩ := h
    have hbl : ∀ y ∈ Go.Proofs.Ytikopeihkbpjhac.lof A (fun j => F (i + (groups (A : Int)).length + j)), 0 ≤ y ∧ y ≤ 255 := by
      intro y hy
      obtain ⟨j, hj, rfl⟩ := List.mem_map.1 hy
      exact hb _ (by have := List.mem_range.1 hj; omega)
    have hsl : sl s = Go.Proofs.Ytikopeihkbpjhac.lof A (fun j => F (i + (groups (A : Int)).length + j)) := by
      rw [← hs]; exact sl_strOfNums hbl
    have hsz : s.size = A := by rw [← sl_len, hsl, lof_len]
    refine ⟨i, rfl, ?_, ?_, by omega⟩
    · unfold txtL
      rw [hsz]
      refine hA.append ⟨by rw [sl_len, hsz]; omega, fun j hj => ?_⟩
      rw [sl_len, hsz] at hj
      rw [hsl, lof_get _ _ _ hj]
    · rw [← hq]
      unfold txtL
      rw [List.length_append, sl_len, hsz]
      push_cast
      omega
  · rw [if_neg c] at h
    simp at h
end Go.Proofs.Ytikopeihkbpjhac

/-
  The sum of bytes, plainly; that it stays below 2^32; that one byte turned turns it.
-/
namespace Go.Proofs.Ytikopeihkbpjhac

def crcBit (x : Nat) : Nat := if x % 2 = 1 then x / 2 ^^^ 2197175160 else x / 2
def crcBits : Nat → Nat → Nat
  | 0, x => x
  | k + 1, x => crcBit (crcBits k x)
def crcTo (f : Nat → Int) : Nat → Nat
  | 0 => 4294967295
  | k + 1 => crcBits 8 (crcTo f k ^^^ (f k).toNat)
def crc (n : Nat) (f : Nat → Int) : Nat := crcTo f n ^^^ 4294967295

theorem crcBit_lt {x : Nat} (h : x < 4294967296) : crcBit x < 4294967296 := by
  unfold crcBit
  split
  · exact Nat.xor_lt_two_pow (n := 32) (by omega) (by decide)
  · omega
theorem crcBits_lt {k x : Nat} (h : x < 4294967296) : crcBits k x < 4294967296 := by
  induction k with
  | zero => exact h
  | succ k ih => exact crcBit_lt ih
theorem xorByte_lt {x : Nat} {b : Int} (h : x < 4294967296) (h0 : 0 ≤ b ∧ b ≤ 255) : x ^^^ b.toNat < 4294967296 :=
  Nat.xor_lt_two_pow (n := 32) h (by omega)
theorem crcTo_lt {f : Nat → Int} {k : Nat} (h : ∀ i, i < k → 0 ≤ f i ∧ f i ≤ 255) : crcTo f k < 4294967296 := by
  induction k with
  | zero => show 4294967295 < 4294967296; decide
  | succ k ih => exact crcBits_lt (xorByte_lt (ih fun i hi => h i (by omega)) (h k (by omega)))
theorem crc_lt {f : Nat → Int} {n : Nat} (h : ∀ i, i < n → 0 ≤ f i ∧ f i ≤ 255) : crc n f < 4294967296 :=
  Nat.xor_lt_two_pow (n := 32) (crcTo_lt h) (by decide)

theorem xor_cancel {a b c : Nat} (h : a ^^^ c = b ^^^ c) : a = b := by
  have := congrArg (· ^^^ c) h
  simpa [Nat.xor_assoc] using this

theorem crcBit_inj {x y : Nat} (hx : x < 4294967296) (hy : y < 4294967296) (h : crcBit x = crcBit y) : x = y := by
  have t : ∀ z, z < 4294967296 → (crcBit z).testBit 31 = decide (z % 2 = 1) := by
    intro z hz
    have hz2 : (z / 2).testBit 31 = false := Nat.testBit_lt_two_pow (by omega)
    unfold crcBit
    by_cases e : z % 2 = 1
    · rw [if_pos e, Nat.testBit_xor, hz2]; simp [e]; decide
    · rw [if_neg e, hz2]; simp [e]
  have tx := t x hx
  have ty := t y hy
  rw [h, ty] at tx
  have par : (y % 2 = 1) ↔ (x % 2 = 1) := by simpa using tx
  unfold crcBit at h
  by_cases e : x % 2 = 1
  · rw [if_pos e, if_pos (par.2 e)] at h
    have := xor_cancel h
    have := par.2 e
    omega
  · rw [if_neg e, if_neg (fun k => e (par.1 k))] at h
    have : ¬ y % 2 = 1 := fun k => e (par.1 k)
    omega

theorem crcBits_inj {k x y : Nat} (hx : x < 4294967296) (hy : y < 4294967296) (h : crcBits k x = crcBits k y) : x = y := by
  induction k with
  | zero => exact h
  | succ k ih => exact ih (crcBit_inj (crcBits_lt hx) (crcBits_lt hy) h)

theorem crcTo_congr {f g : Nat → Int} {k : Nat} (h : ∀ i, i < k → f i = g i) : crcTo f k = crcTo g k := by
  induction k with
  | zero => rfl
  | succ k ih => show crcBits 8 _ = crcBits 8 _; rw [ih fun i hi => h i (by omega), h k (by omega)]
theorem crc_congr {f g : Nat → Int} {n : Nat} (h : ∀ i, i < n → f i = g i) : crc n f = crc n g := by unfold crc; rw [crcTo_congr h]

/-- Where two rows of bytes part at one place alone, their sums part. -/
theorem crcTo_parts {f g : Nat → Int} {n j : Nat} (hf : ∀ i, i < n → 0 ≤ f i ∧ f i ≤ 255) (hg : ∀ i, i < n → 0 ≤ g i ∧ g i ≤ 255) (hj : j < n) (hne : f j ≠ g j) (hs : ∀ i, i < n → i ≠ j → f i = g i) : crcTo f n ≠ crcTo g n := by
  induction n with
  | zero => omega
  | succ n ih =>
    intro e
    have e' : crcTo f n ^^^ (f n).toNat = crcTo g n ^^^ (g n).toNat :=
      crcBits_inj (k := 8) (xorByte_lt (crcTo_lt fun i hi => hf i (by omega)) (hf n (by omega))) (xorByte_lt (crcTo_lt fun i hi => hg i (by omega)) (hg n (by omega))) e
    by_cases hjn : j = n
    · subst hjn
      rw [crcTo_congr (g := g) fun i hi => hs i (by omega) (by omega), Nat.xor_comm, Nat.xor_comm (crcTo g j)] at e'
      have := xor_cancel e'
      have a := hf j (by omega)
      have b := hg j (by omega)
      omega
    · rw [hs n (by omega) (by omega)] at e'
      exact ih (fun i hi => hf i (by omega)) (fun i hi => hg i (by omega)) (by omega) (fun i hi => hs i (by omega)) (xor_cancel e')

theorem crc_parts {f g : Nat → Int} {n j : Nat} (hf : ∀ i, i < n → 0 ≤ f i ∧ f i ≤ 255) (hg : ∀ i, i < n → 0 ≤ g i ∧ g i ≤ 255) (hj : j < n) (hne : f j ≠ g j) (hs : ∀ i, i < n → i ≠ j → f i = g i) : crc n f ≠ crc n g :=
  fun e => crcTo_parts hf hg hj hne hs (xor_cancel e)

end Go.Proofs.Ytikopeihkbpjhac

/-
  The four bytes of a sum; new rows of bytes.
-/
namespace Go.Proofs.Ytikopeihkbpjhac
open Go.RowKit
set_option maxRecDepth 4000

def sumL (c : Nat) : List Int := [(c : Int) / 16777216 % 256, (c : Int) / 65536 % 256, (c : Int) / 256 % 256, (c : Int) % 256]
theorem sumL_len (c : Nat) : (sumL c).length = 4 := rfl
theorem sumL_byte (c : Nat) : ∀ y ∈ sumL c, 0 ≤ y ∧ y ≤ 255 := by
  intro y hy
  simp only [sumL, List.mem_cons, List.not_mem_nil, or_false] at hy
  rcases hy with rfl | rfl | rfl | rfl <;> omega

theorem lof_sumL (c : Nat) : lof 4 (fun i => (sumL c).getD i 0) = sumL c := lof_self (sumL c)

/-- New cells. -/
theorem cellNews (w : World) (l : List Value) (t : TypeId) : ∀ j u, l[j]? = some u → (w.alloc (.cells l.toArray t)).cell? ((⟨w.heap.size, 0, none⟩ : Addr).add j) = some u := by
  intro j u hj
  have e : (⟨w.heap.size, 0, none⟩ : Addr).add j = ⟨w.heap.size, j, none⟩ := by unfold Addr.add; split <;> simp_all
  rw [e]
  simp [hj]

theorem newRow (w : World) (l : List Int) (t : TypeId) : Row t (w.alloc (.cells (l.map (Value.int .u8)).toArray t)) w.heap.size l.length (fun i => l.getD i 0) :=
  Row.ofIs ⟨_, Deep.blk_alloc_new _ _, by simp, fun i hi => by simp [hi]⟩

theorem bytes_of_list {l : List Int} (h : ∀ y ∈ l, 0 ≤ y ∧ y ≤ 255) : ∀ i, i < l.length → 0 ≤ l.getD i 0 ∧ l.getD i 0 ≤ 255 := by
  intro i hi
  have := h _ (List.getElem_mem hi)
  simpa [hi] using this

end Go.Proofs.Ytikopeihkbpjhac

/-
  The bytes of a row, plainly.
-/
namespace Go.Proofs.Ytikopeihkbpjhac
open Go.RowKit
set_option maxRecDepth 4000

/-- The bytes of a value behind its kind. -/
def bodyB (k n : Int) (s : ByteArray) : List Int := if k = 1 ∨ k = 2 then varL n else if k = 3 then groups (clampN s.size) ++ sl s else if k = 4 then [n % 256] else []
/-- The bytes of a value. -/
def valB (k n : Int) (s : ByteArray) : List Int := groups (clampN k) ++ bodyB k n s
/-- The bytes of a row's values, with their count ahead. -/
def rowB (m : Nat) (fk fn : Nat → Int) (fs : Nat → ByteArray) : List Int := groups (clampN m) ++ keyT (fun i => valB (fk i) (fn i) (fs i)) m
/-- Whether values are a row of a plan. -/
def rowOk (n : Nat) (fc ft : Nat → Int) (fu : Nat → Bool) (m : Nat) (fk fn : Nat → Int) (fs : Nat → ByteArray) : Bool := planOk n fc ft && (decide (m = n) && fitsAll n m ft fu fk fn fs)
/-- Bytes with their sum behind. -/
def sumB (L : List Int) : List Int := L ++ sumL (crc L.length (fun i => L.getD i 0))
/-- What EncodeRow answers. -/
def encB (n : Nat) (fc ft : Nat → Int) (fu : Nat → Bool) (m : Nat) (fk fn : Nat → Int) (fs : Nat → ByteArray) : List Int := if rowOk n fc ft fu m fk fn fs then sumB (rowB m fk fn fs) else []

theorem bodyB_len (k n : Int) (s : ByteArray) : (bodyB k n s).length ≤ 8 + s.size := by
  unfold bodyB
  split
  · have := (varL_len n).2; omega
  · split
    · rw [List.length_append, sl_len]; have := (groups_len (clampN s.size)).2; omega
    · split <;> simp <;> omega
theorem bodyB_byte (k n : Int) (s : ByteArray) : ∀ y ∈ bodyB k n s, 0 ≤ y ∧ y ≤ 255 := by
  unfold bodyB
  split
  · exact varL_byte n
  · split
    · intro y hy
      rcases List.mem_append.1 hy with h | h
      · exact groups_byte _ (clampN_bd _).1 (clampN_bd _).2 y h
      · exact sl_byte s y h
    · split
      · intro y hy; simp at hy; omega
      · intro y hy; cases hy
theorem valB_byte (k n : Int) (s : ByteArray) : ∀ y ∈ valB k n s, 0 ≤ y ∧ y ≤ 255 := by
  intro y hy
  unfold valB at hy
  rcases List.mem_append.1 hy with h | h
  · exact groups_byte _ (clampN_bd _).1 (clampN_bd _).2 y h
  · exact bodyB_byte k n s y h
theorem valB_len (k n : Int) (s : ByteArray) : (valB k n s).length ≤ 11 + s.size := by
  unfold valB
  rw [List.length_append]
  have := bodyB_len k n s
  have := (groups_len (clampN k)).2
  omega
theorem rowB_byte (m : Nat) (fk fn : Nat → Int) (fs : Nat → ByteArray) : ∀ y ∈ rowB m fk fn fs, 0 ≤ y ∧ y ≤ 255 := by
  intro y hy
  unfold rowB at hy
  rcases List.mem_append.1 hy with h | h
  · exact groups_byte _ (clampN_bd _).1 (clampN_bd _).2 y h
  · exact keyT_byte (fun i _ => valB_byte _ _ _) y h
end Go.Proofs.Ytikopeihkbpjhac

/-
  A value, a place and a word, as they are handed back.
-/
namespace Go.Proofs.Ytikopeihkbpjhac
open Go.RowKit
set_option maxRecDepth 4000

def gotRet (g : Got) : Ending := .returned (.tuple #[.agg #[.int .i64 g.k, .int .i64 g.n, .string g.s], .int .i64 g.q, .bool g.ok])
end Go.Proofs.Ytikopeihkbpjhac

/-
  A value of a row, as it is read: plainly.
-/
namespace Go.Proofs.Ytikopeihkbpjhac
open Go.RowKit
set_option maxRecDepth 4000

/-- What is read as a value of a row. -/
def getR (N : Nat) (F : Nat → Int) (p : Int) : Got :=
  if (getU N F p).1 = 1 ∨ (getU N F p).1 = 2 then ⟨(getU N F p).1, (getV N F (getU N F p).2.1).1, noBytes, (getV N F (getU N F p).2.1).2.1, (getU N F p).2.2 && (getV N F (getU N F p).2.1).2.2⟩
  else if (getU N F p).1 = 3 then ⟨3, 0, (getText N F (getU N F p).2.1).1, (getText N F (getU N F p).2.1).2.1, (getU N F p).2.2 && (getText N F (getU N F p).2.1).2.2⟩
  else if (getU N F p).1 = 4 then (if (getU N F p).2.1 < N then ⟨4, F (getU N F p).2.1.toNat, noBytes, (getU N F p).2.1 + 1, (getU N F p).2.2⟩ else ⟨4, 0, noBytes, (getU N F p).2.1, false⟩)
  else ⟨(getU N F p).1, 0, noBytes, (getU N F p).2.1, (getU N F p).2.2⟩

theorem getU_none {n : Nat} {f : Nat → Int} {p a q : Int} (h : getU n f p = (a, q, false)) : a = 0 ∧ q = 0 := by
  unfold getU at h
  repeat' split at h
  all_goals first | (simp at h; done) | (cases h; exact ⟨rfl, rfl⟩)
theorem clampN_id {x : Int} (h0 : 0 ≤ x) (h1 : x ≤ 1000000) : clampN x = x := by unfold clampN; rw [if_neg (by omega), if_neg (by omega)]
/-- A right value comes back of its bytes. -/
theorem getR_at {N : Nat} {F : Nat → Int} {i : Nat} {k n : Int} {s : ByteArray} (hk : (k = 0 ∧ n = 0 ∧ s = noBytes) ∨ (k = 1 ∧ (-2147483648 ≤ n ∧ n ≤ 2147483647) ∧ s = noBytes) ∨ (k = 2 ∧ (-1000000000000000 ≤ n ∧ n ≤ 1000000000000000) ∧ s = noBytes) ∨ (k = 3 ∧ n = 0 ∧ s.size ≤ 30) ∨ (k = 4 ∧ (0 ≤ n ∧ n ≤ 1) ∧ s = noBytes)) (h : AtF N F i (valB k n s)) :
    getR N F (i : Int) = ⟨k, n, s, (i : Int) + ((valB k n s).length : Int), true⟩ := by
  have hk04 : 0 ≤ k ∧ k ≤ 4 := by omega
  unfold valB at h ⊢
  rw [clampN_id hk04.1 (by omega)] at h ⊢
  have hg : groups k = [k] := groups_last _ (by omega)
  have hU := getU_at hk04.1 (by omega) h.left
  have hr := h.right
  rw [hg] at hU hr ⊢
  have hlen : (([k] ++ bodyB k n s).length : Int) = 1 + ((bodyB k n s).length : Int) := by simp; omega
  have e1 : (i : Int) + (([k] : List Int).length : Int) = ((i + 1 : Nat) : Int) := by simp
  rw [e1] at hU
  have e2 : i + ([k] : List Int).length = i + 1 := by simp
  rw [e2] at hr
  rw [hlen]
  unfold getR
  rw [hU]
  simp only
  rcases hk with ⟨rfl, rfl, rfl⟩ | ⟨rfl, hn, rfl⟩ | ⟨rfl, hn, rfl⟩ | ⟨rfl, rfl, hs⟩ | ⟨rfl, hn, rfl⟩
  · simp [bodyB]
  · have e : bodyB 1 n noBytes = varL n := by simp [bodyB]
    rw [e] at hr ⊢
    rw [getV_at (by omega) (by omega) hr]
    simp; omega
  · have e : bodyB 2 n noBytes = varL n := by simp [bodyB]
    rw [e] at hr ⊢
    rw [getV_at (by omega) (by omega) hr]
    simp; omega
  · have e : bodyB 3 0 s = txtL s := by simp [bodyB, txtL, clampN_id (x := s.size) (by omega) (by omega)]
    rw [e] at hr ⊢
    rw [getText_at (by omega) hr]
    simp; omega
  · have e : bodyB 4 n noBytes = [n] := by simp [bodyB]; omega
    rw [e] at hr ⊢
    have h1 := hr.le
    have h2 := hr.at' 0 (by simp)
    simp at h1 h2
    have h3 : ((i + 1 : Nat) : Int) < (N : Int) := by omega
    rw [if_neg (by decide), if_neg (by decide), if_pos rfl, if_pos h3]
    simp only [Int.toNat_natCast]
    rw [h2]
    simp; omega
/-- What is read has these bytes. -/
theorem getR_read {N : Nat} {F : Nat → Int} {p k n q : Int} {s : ByteArray} (hb : ∀ i, i < N → 0 ≤ F i ∧ F i ≤ 255) (h : getR N F p = ⟨k, n, s, q, true⟩) :
    ∃ i : Nat, p = (i : Int) ∧ AtF N F i (valB k n s) ∧ q = (i : Int) + ((valB k n s).length : Int) ∧ 0 ≤ k ∧ k ≤ 1000000 := by
  obtain ⟨a, q1, ok, hu⟩ : ∃ a q1 ok, getU N F p = (a, q1, ok) := ⟨_, _, _, rfl⟩
  unfold getR at h
  rw [hu] at h
  simp only at h
  have hok : ok = true := by
    by_cases c1 : a = 1 ∨ a = 2
    · rw [if_pos c1] at h
      simp only [Got.mk.injEq, Bool.and_eq_true] at h
      exact h.2.2.2.2.1
    rw [if_neg c1] at h
    by_cases c2 : a = 3
    · rw [if_pos c2] at h
      simp only [Got.mk.injEq, Bool.and_eq_true] at h
      exact h.2.2.2.2.1
    rw [if_neg c2] at h
    by_cases c3 : a = 4
    · rw [if_pos c3] at h
      by_cases c4 : q1 < N
      · rw [if_pos c4] at h
        simp only [Got.mk.injEq] at h
        exact h.2.2.2.2
      · rw [if_neg c4] at h
        simp at h
    · rw [if_neg c3] at h
      simp only [Got.mk.injEq] at h
      exact h.2.2.2.2
  subst hok
  obtain ⟨i, rfl, hA, rfl, h0, h1⟩ := getU_read hb hu
  have e1 : (i : Int) + ((groups a).length : Int) = ((i + (groups a).length : Nat) : Int) := by push_cast; rfl
  have fin : ∀ (B : List Int), AtF N F (i + (groups a).length) B → k = a → bodyB a n s = B → q = (i : Int) + ((groups a).length : Int) + (B.length : Int) →
      ∃ j : Nat, (i : Int) = (j : Int) ∧ AtF N F j (valB k n s) ∧ q = (j : Int) + ((valB k n s).length : Int) ∧ 0 ≤ k ∧ k ≤ 1000000 := by
    rintro B hB rfl hbd hq
    refine ⟨i, rfl, ?_, ?_, h0, h1⟩
    · unfold valB
      rw [clampN_id h0 h1, hbd]
      exact hA.append hB
    · unfold valB
      rw [clampN_id h0 h1, hbd, List.length_append, hq]
      push_cast
      omega
  by_cases c1 : a = 1 ∨ a = 2
  · rw [if_pos c1, e1] at h
    obtain ⟨v, q2, o2, hv⟩ : ∃ v q2 o2, getV N F ((i + (groups a).length : Nat) : Int) = (v, q2, o2) := ⟨_, _, _, rfl⟩
    rw [hv] at h
    simp only [Got.mk.injEq, Bool.true_and] at h
    obtain ⟨rfl, rfl, rfl, rfl, rfl⟩ := h
    obtain ⟨j, ej, hV, hq, -, -⟩ := getV_read hb hv
    have ej' : i + (groups a).length = j := by omega
    subst ej'
    exact fin (varL v) hV rfl (by unfold bodyB; rw [if_pos c1]) (by rw [hq]; push_cast; omega)
  rw [if_neg c1] at h
  by_cases c2 : a = 3
  · rw [if_pos c2, e1] at h
    obtain ⟨v, q2, o2, hv⟩ : ∃ v q2 o2, getText N F ((i + (groups a).length : Nat) : Int) = (v, q2, o2) := ⟨_, _, _, rfl⟩
    rw [hv] at h
    simp only [Got.mk.injEq, Bool.true_and] at h
    obtain ⟨hk, rfl, rfl, rfl, rfl⟩ := h
    obtain ⟨j, ej, hV, hq, hsz⟩ := getText_read hb hv
    have ej' : i + (groups a).length = j := by omega
    subst ej'
    exact fin (txtL v) hV (by omega) (by unfold bodyB; rw [if_neg c1, if_pos c2, clampN_id (by omega) (by omega)]; rfl) (by rw [hq]; push_cast; omega)
  rw [if_neg c2] at h
  by_cases c3 : a = 4
  · rw [if_pos c3] at h
    by_cases c4 : (i : Int) + ((groups a).length : Int) < N
    · rw [if_pos c4, e1] at h
      simp only [Got.mk.injEq, Int.toNat_natCast] at h
      obtain ⟨hk, hn, rfl, rfl, -⟩ := h
      have hbb := hb (i + (groups a).length) (by omega)
      refine fin [n] ⟨by simp; omega, fun j hj => ?_⟩ (by omega) (by unfold bodyB; rw [if_neg c1, if_neg c2, if_pos c3]; congr 1; omega) (by simp)
      obtain rfl : j = 0 := by simpa using hj
      simpa using hn
    · rw [if_neg c4] at h
      simp at h
  · rw [if_neg c3] at h
    simp only [Got.mk.injEq] at h
    obtain ⟨hk, rfl, rfl, rfl, -⟩ := h
    exact fin [] (AtF.nil (by have := hA.le; omega)) hk.symm (by unfold bodyB; rw [if_neg c1, if_neg c2, if_neg c3]) (by simp)
end Go.Proofs.Ytikopeihkbpjhac

/-
  A row as it is read of bytes: plainly.
-/
namespace Go.Proofs.Ytikopeihkbpjhac
open Go.RowKit
set_option maxRecDepth 4000

section
variable (M : Nat) (F : Nat → Int)
/-- The place behind the first k values, as they are read. -/
def rQ : Nat → Option Int
  | 0 => some (getU M F 0).2.1
  | k + 1 => (rQ k).bind (fun p => if (getR M F p).ok then some (getR M F p).q else none)
/-- The value that is read at a place of the row. -/
def rG (k : Nat) : Got := getR M F ((rQ M F k).getD 0)
def rK (i : Nat) : Int := (rG M F i).k
def rN (i : Nat) : Int := (rG M F i).n
def rS (i : Nat) : ByteArray := (rG M F i).s
/-- How many values there are said to be. -/
def rCnt : Nat := (getU M F 0).1.toNat
/-- Whether the bytes are a row of the plan. -/
def rowRd (n : Nat) (fc ft : Nat → Int) (fu : Nat → Bool) : Bool := (getU M F 0).2.2 && (decide (rCnt M F ≤ 7 ∧ rQ M F (rCnt M F) = some (M : Int)) && rowOk n fc ft fu (rCnt M F) (rK M F) (rN M F) (rS M F))
end
theorem rQ_succ {M : Nat} {F : Nat → Int} {k : Nat} {q : Int} (h : rQ M F (k + 1) = some q) : ∃ p, rQ M F k = some p ∧ (getR M F p).ok = true ∧ (getR M F p).q = q := by
  rw [rQ] at h
  obtain ⟨p, h1, h2⟩ := Option.bind_eq_some_iff.1 h
  by_cases e : (getR M F p).ok = true
  · rw [if_pos e] at h2
    exact ⟨p, h1, e, Option.some.inj h2⟩
  · rw [if_neg e] at h2; cases h2
theorem rQ_none {M : Nat} {F : Nat → Int} {k : Nat} (h : rQ M F k = none) : ∀ j, rQ M F (k + j) = none
  | 0 => h
  | j + 1 => by rw [← Nat.add_assoc, rQ, rQ_none h j]; rfl
/-- The places lie within, and texts are short. -/
theorem rQ_bd {M : Nat} {F : Nat → Int} (hb : ∀ i, i < M → 0 ≤ F i ∧ F i ≤ 255) (h0 : (getU M F 0).2.2 = true) : ∀ {k : Nat} {p : Int}, rQ M F k = some p → 0 ≤ p ∧ p ≤ M
  | 0, p, h => by
    rw [rQ] at h
    obtain ⟨a, q, ok, hu⟩ : ∃ a q ok, getU M F 0 = (a, q, ok) := ⟨_, _, _, rfl⟩
    rw [hu] at h h0
    have e := Option.some.inj h
    simp only at e h0
    subst h0
    have := getU_bd hb hu
    omega
  | k + 1, p, h => by
    obtain ⟨p', h1, h2, h3⟩ := rQ_succ h
    obtain ⟨kk, y, s, q, ok, hg⟩ : ∃ kk y s q ok, getR M F p' = ⟨kk, y, s, q, ok⟩ := ⟨_, _, _, _, _, rfl⟩
    rw [hg] at h2 h3
    simp only at h2 h3
    subst h2 h3
    obtain ⟨i, _, hA, hq, _⟩ := getR_read hb hg
    have := hA.le
    omega
theorem rS_short {M : Nat} {F : Nat → Int} (hb : ∀ i, i < M → 0 ≤ F i ∧ F i ≤ 255) {k : Nat} {p : Int} (h : rQ M F k = some p) : ∀ i, i < k → (rS M F i).size ≤ M := by
  intro i hi
  have hsome : ∀ j, j ≤ k → ∃ q, rQ M F j = some q := by
    intro j hj
    cases e : rQ M F j with
    | some q => exact ⟨q, rfl⟩
    | none =>
      have := rQ_none e (k - j)
      rw [show j + (k - j) = k by omega, h] at this
      cases this
  obtain ⟨q1, h1⟩ := hsome (i + 1) (by omega)
  obtain ⟨p', h2, h3, h4⟩ := rQ_succ h1
  have eg : rG M F i = getR M F p' := by unfold rG; rw [h2]; rfl
  unfold rS
  rw [eg]
  obtain ⟨kk, y, s, q, ok, hg⟩ : ∃ kk y s q ok, getR M F p' = ⟨kk, y, s, q, ok⟩ := ⟨_, _, _, _, _, rfl⟩
  rw [hg] at h3 ⊢
  simp only at h3 ⊢
  subst h3
  obtain ⟨i', _, hA, _, _⟩ := getR_read hb hg
  have hle := hA.le
  have hg2 := hg
  unfold getR at hg2
  by_cases hk : kk = 3
  · subst hk
    unfold valB bodyB at hle
    rw [if_neg (by decide), if_pos rfl, List.length_append, List.length_append, sl_len] at hle
    omega
  · have hsz : s.size = 0 := by
      by_cases c1 : (getU M F p').1 = 1 ∨ (getU M F p').1 = 2
      · rw [if_pos c1] at hg2; simp only [Got.mk.injEq] at hg2; rw [← hg2.2.2.1]; rfl
      rw [if_neg c1] at hg2
      by_cases c2 : (getU M F p').1 = 3
      · rw [if_pos c2] at hg2; simp only [Got.mk.injEq] at hg2; exact absurd hg2.1.symm hk
      rw [if_neg c2] at hg2
      by_cases c3 : (getU M F p').1 = 4
      · rw [if_pos c3] at hg2
        split at hg2 <;> (simp only [Got.mk.injEq] at hg2; rw [← hg2.2.2.1]; rfl)
      · rw [if_neg c3] at hg2; simp only [Got.mk.injEq] at hg2; rw [← hg2.2.2.1]; rfl
    omega
end Go.Proofs.Ytikopeihkbpjhac

/-
  Plain facts on the sum, in the forms in which the walks meet them.
-/
namespace Go.Proofs.Ytikopeihkbpjhac
open Go.RowKit
set_option maxRecDepth 4000

theorem u32_one (y : Nat) (h : y < 4294967296) : bits .and .u32 (y : Int) 1 = ((y % 2 : Nat) : Int) := by
  have := u32_and_nat y 1 h (by decide)
  rw [nat_mask1] at this; exact this
theorem u32_turn (y : Nat) (h : y < 4294967296) : bits .xor .u32 ((y : Int) / 2) 2197175160 = ((y / 2 ^^^ 2197175160 : Nat) : Int) := by
  have := u32_xor_nat (y / 2) 2197175160 (by omega) (by decide)
  rw [← this]; rfl
theorem i64_turn (y : Nat) (h : y < 4294967296) : bits .xor .i64 ((y : Int) / 2) 2197175160 = ((y / 2 ^^^ 2197175160 : Nat) : Int) := by
  have := i64_xor_nat (y / 2) 2197175160 (by omega) (by decide)
  rw [← this]; rfl
theorem i64_last (y : Nat) (h : y < 4294967296) : bits .xor .i64 (y : Int) 4294967295 = ((y ^^^ 4294967295 : Nat) : Int) := i64_xor_nat y 4294967295 (by omega) (by decide)
theorem u32_last (y : Nat) (h : y < 4294967296) : bits .xor .u32 IntKind.u32.max (y : Int) = ((y ^^^ 4294967295 : Nat) : Int) := by
  have e : IntKind.u32.max = ((4294967295 : Nat) : Int) := by simp [IntKind.max, IntKind.signed, IntKind.bits]
  rw [Nat.xor_comm, e]; exact u32_xor_nat 4294967295 y (by decide) h
theorem i64_in (y : Nat) (b : Int) (h : y < 4294967296) (h0 : 0 ≤ b ∧ b ≤ 255) : bits .xor .i64 (y : Int) b = ((y ^^^ b.toNat : Nat) : Int) := by
  obtain ⟨c, rfl⟩ := Int.eq_ofNat_of_zero_le h0.1
  rw [Int.toNat_natCast]; exact i64_xor_nat y c (by omega) (by omega)
theorem u32_in (y : Nat) (b : Int) (h : y < 4294967296) (h0 : 0 ≤ b ∧ b ≤ 255) : bits .xor .u32 (y : Int) b = ((y ^^^ b.toNat : Nat) : Int) := by
  obtain ⟨c, rfl⟩ := Int.eq_ofNat_of_zero_le h0.1
  rw [Int.toNat_natCast]; exact u32_xor_nat y c (by omega) (by omega)
theorem crcBit_odd (y : Nat) (h : y % 2 = 1) : crcBit y = y / 2 ^^^ 2197175160 := by unfold crcBit; rw [if_pos h]
theorem crcBit_even (y : Nat) (h : ¬ y % 2 = 1) : crcBit y = y / 2 := by unfold crcBit; rw [if_neg h]

theorem retInt {k : IntKind} {a b : Int} (h : a = b) : Ending.returned (.int k a) = .returned (.int k b) := by rw [h]

end Go.Proofs.Ytikopeihkbpjhac

/-
  The program's Crc comes to the plain sum, at every slice of bytes that reads.
-/
namespace Go.Proofs.Ytikopeihkbpjhac
open Go.RowKit
set_option maxRecDepth 4000

set_option maxHeartbeats 1000000 in
theorem crcStep_any (x : Nat) (w : World) (hx : x < 4294967296) :
    Calls Try.prog 141 #[.int .u32 (x : Int)] w fun e w' => e = .returned (.int .u32 ((crcBits 8 x : Nat) : Int)) ∧ w = w' := by
  go_enter Try.func141, Try.ntmps141
  go_wp2
  go_loopg [0, 4] 8 (fun g s i wr => w = wr ∧ ∃ k y : Nat, k ≤ 8 ∧ g = 8 - k ∧ s = .int .u32 (y : Int) ∧ i = .int .i64 k ∧ y < 4294967296 ∧ y = crcBits k x)
  case atStart => exact ⟨rfl, 0, x, by omega, rfl, rfl, rfl, hx, rfl⟩
  case round =>
    obtain ⟨rfl, k, y, hk, rfl, rfl, rfl, hy, hyk⟩ := hrel
    have HY : Hid (y = crcBits k x) := hyk
    clear hyk
    by_cases hlt : k < 8
    · have hkz : (k : Int) < 8 := by omega
      by_cases hodd : y % 2 = 1
      · have q1 : bits .and .u32 (y : Int) 1 = 1 := by rw [u32_one y hy, hodd]; rfl
        have q2 := u32_turn y hy
        have HO : Hid (y % 2 = 1) := hodd
        clear hodd
        go_wp2
        go_roundg (8 - (k + 1))
        case measure => omega
        case rel => exact ⟨rfl, k + 1, y / 2 ^^^ 2197175160, by omega, rfl, rfl, by go_num, Nat.xor_lt_two_pow (n := 32) (by omega) (by decide), by rw [← crcBit_odd y HO.out, HY.out]; rfl⟩
      · have q1 : bits .and .u32 (y : Int) 1 = 0 := by rw [u32_one y hy, show y % 2 = 0 by omega]; rfl
        have HO : Hid (¬ y % 2 = 1) := hodd
        clear hodd
        go_wp2
        go_roundg (8 - (k + 1))
        case measure => omega
        case rel => exact ⟨rfl, k + 1, y / 2, by omega, rfl, by go_num, by go_num, by omega, by rw [← crcBit_even y HO.out, HY.out]; rfl⟩
    · obtain rfl : k = 8 := by omega
      go_wp2
      go_ret
      exact ⟨retInt (congrArg Int.ofNat HY.out), rfl⟩

set_option maxHeartbeats 1000000 in
theorem crc_impl (ao : Option Addr) (n cap : Nat) (f : Nat → Int) (w : World) (hv : View w ao n cap f) (hn : n ≤ 281474976710656) :
    Calls Try.prog 120 #[.slice ao n cap] w fun e w' => e = .returned (.int .i64 ((crc n f : Nat) : Int)) ∧ w = w' := by
  go_enter Try.func120, Try.ntmps120
  go_wp2
  go_loopg [3, 8] n (fun g s i wr => w = wr ∧ ∃ k y : Nat, k ≤ n ∧ g = n - k ∧ s = .int .u32 (y : Int) ∧ i = .int .i64 k ∧ y < 4294967296 ∧ y = crcTo f k)
  case atStart => exact ⟨rfl, 0, 4294967295, by omega, rfl, rfl, rfl, by decide, rfl⟩
  case round =>
    obtain ⟨rfl, k, y, hk, rfl, rfl, rfl, hy, hyk⟩ := hrel
    have HY : Hid (y = crcTo f k) := hyk
    clear hyk
    by_cases hlt : k < n
    · obtain ⟨b, off, rfl, hb, hc⟩ := hv.cells (by omega)
      have hkz : (k : Int) < (n : Int) := by omega
      have hc1 := hc k hlt
      have hbk := hv.byte k hlt
      have q1 := u32_in y (f k) hy hbk
      have hlt2 := xorByte_lt hy hbk
      obtain ⟨hbk0, hbk1⟩ := hbk
      clear hc
      go_wp2_with fail
      refine (crcStep_any _ _ hlt2).mono ?_
      rintro e _ ⟨rfl, rfl⟩
      go_wp2
      go_roundg (n - (k + 1))
      case measure => omega
      case rel => exact ⟨rfl, k + 1, crcBits 8 (y ^^^ (f k).toNat), by omega, rfl, rfl, by go_num, crcBits_lt hlt2, by rw [HY.out]; rfl⟩
    · obtain rfl : k = n := by omega
      have q1 := u32_last y hy
      have q2 : y ^^^ 4294967295 < 4294967296 := Nat.xor_lt_two_pow (n := 32) hy (by decide)
      have q3 : wrap64 ((y ^^^ 4294967295 : Nat) : Int) = ((y ^^^ 4294967295 : Nat) : Int) := by
        generalize y ^^^ 4294967295 = z at q2
        exact IntWalk.wrap64_in _ ⟨by omega, by omega⟩
      go_wp2
      go_ret
      exact ⟨retInt (congrArg (fun z : Nat => ((z ^^^ 4294967295 : Nat) : Int)) HY.out), rfl⟩

theorem crc_impl' {c : Nat} (ao : Option Addr) (n cap : Nat) (f : Nat → Int) (w : World) (hg : Hid (crc n f = c)) (hv : View w ao n cap f) (hn : n ≤ 281474976710656) :
    Calls Try.prog 120 #[.slice ao n cap] w fun e w' => e = .returned (.int .i64 (c : Int)) ∧ w = w' := by
  have h := crc_impl ao n cap f w hv hn
  rw [hg.out] at h; exact h
end Go.Proofs.Ytikopeihkbpjhac

/-
  The program's PutSum: what was there, and behind it the four bytes of its sum, in memory of its own.
-/
namespace Go.Proofs.Ytikopeihkbpjhac
open Go.RowKit
set_option maxRecDepth 4000

set_option maxHeartbeats 1000000 in
theorem putSum_impl (b off n cap : Nat) (f : Nat → Int) (w : World) (hv : View w (some ⟨b, off, none⟩) n cap f) (hn : n ≤ 35184372088832) :
    Calls Try.prog 84 #[.slice (some ⟨b, off, none⟩) n cap] w fun e w' => ∃ g c, e = .returned (.slice (some ⟨g, 0, none⟩) (n + 4) c) ∧ w.heap.size ≤ g ∧ n + 4 ≤ c ∧ Row 5 w' g (n + 4) (fun i => (lof n f ++ sumL (crc n f)).getD i 0) ∧ Below w.heap.size w w' := by
  have hlt := crc_lt hv.byte
  obtain ⟨c, hc⟩ : ∃ c, Hid (crc n f = c) := ⟨_, rfl⟩
  rw [hc.out] at hlt
  have hcz : (c : Int) < 4294967296 := by omega
  have hw : ∀ x : Int, IntKind.u8.wrap x = x % 256 := u8_wrap
  go_enter Try.func84, Try.ntmps84
  go_wp2_with fail
  refine (crc_impl' _ n cap f w hc hv (by omega)).mono ?_
  rintro e _ ⟨rfl, rfl⟩
  go_wp2_with fail
  have hb1 : Below w.heap.size w (w.alloc (.cells #[.int .u8 ((c : Int) / 16777216 % 256), .int .u8 ((c : Int) / 65536 % 256), .int .u8 ((c : Int) / 256 % 256), .int .u8 ((c : Int) % 256)] 5)) := (Below.refl _ _).alloc (Nat.le_refl _) _
  have hr : Row 5 (w.alloc (.cells #[.int .u8 ((c : Int) / 16777216 % 256), .int .u8 ((c : Int) / 65536 % 256), .int .u8 ((c : Int) / 256 % 256), .int .u8 ((c : Int) % 256)] 5)) w.heap.size 4 (fun i => (sumL c).getD i 0) := newRow w (sumL c) 5
  refine (putBytes_any b off n cap f (some ⟨w.heap.size, 0, none⟩) 4 4 (fun i => (sumL c).getD i 0) _ (hv.below hb1) (hr.view (by omega) (bytes_of_list (sumL_byte c))) (by intro h; cases h) (by omega)).mono ?_
  rintro e w2 ⟨rfl, hown, hb2⟩
  rw [lof_sumL] at hown
  rw [show (w.alloc (.cells #[.int .u8 ((c : Int) / 16777216 % 256), .int .u8 ((c : Int) / 65536 % 256), .int .u8 ((c : Int) / 256 % 256), .int .u8 ((c : Int) % 256)] 5)).heap.size = w.heap.size + 1 from by simp] at hown
  go_wp2
  go_ret
  rw [hc.out]
  exact ⟨_, n + 4, rfl, by simp, by omega, row_of_owned hown, hb1.trans (hb2.mono hb1.size)⟩

end Go.Proofs.Ytikopeihkbpjhac

/-
  bytes.Equal at two slices of bytes that read.
-/
namespace Go.Proofs.Ytikopeihkbpjhac
open Go.RowKit
set_option maxRecDepth 4000

set_option maxHeartbeats 400000 in
theorem equal_any (b1 o1 n c1 : Nat) (f : Nat → Int) (b2 o2 m c2 : Nat) (g : Nat → Int) (w : World) (h1 : View w (some ⟨b1, o1, none⟩) n c1 f) (h2 : View w (some ⟨b2, o2, none⟩) m c2 g) :
    Calls Try.prog 88 #[.slice (some ⟨b1, o1, none⟩) n c1, .slice (some ⟨b2, o2, none⟩) m c2] w fun e w' => e = .returned (.bool ((strOfNums (lof n f)).toList == (strOfNums (lof m g)).toList)) ∧ w = w' := by
  have q1 := conv_view h1
  have q2 := conv_view h2
  go_enter Try.func88, Try.ntmps88
  go_wp2
  go_ret
  exact ⟨rfl, rfl⟩
end Go.Proofs.Ytikopeihkbpjhac

/-
  The program's GetSum and the model's: both answer what stands ahead of the last four bytes, and true, just where these are its sum; else nothing and false.
-/
namespace Go.Proofs.Ytikopeihkbpjhac
open Go.RowKit
set_option maxRecDepth 4000

/-- The last four bytes as a number. -/
def last4 (m : Nat) (f : Nat → Int) : Int := ((f m * 256 + f (m + 1)) * 256 + f (m + 2)) * 256 + f (m + 3)

theorem lof_succ (m : Nat) (f : Nat → Int) : lof (m + 1) f = lof m f ++ [f m] := by simp [lof, List.range_succ]
theorem lof_four (m : Nat) (f : Nat → Int) : lof (m + 4) f = lof m f ++ [f m, f (m + 1), f (m + 2), f (m + 3)] := by
  rw [lof_succ (m + 3), lof_succ (m + 2), lof_succ (m + 1), lof_succ m]
  simp
theorem lof_byteS {n : Nat} {f : Nat → Int} (h : ∀ i, i < n → 0 ≤ f i ∧ f i ≤ 255) : ∀ y ∈ lof n f, 0 ≤ y ∧ y ≤ 255 := by
  intro y hy
  simp only [lof, List.mem_map, List.mem_range] at hy
  obtain ⟨i, hi, rfl⟩ := hy
  exact h i hi

theorem sum_iff {m c : Nat} {f : Nat → Int} (hf : ∀ i, i < m + 4 → 0 ≤ f i ∧ f i ≤ 255) (hc : c < 4294967296) : lof m f ++ sumL c = lof (m + 4) f ↔ last4 m f = (c : Int) := by
  have h0 := hf m (by omega)
  have h1 := hf (m + 1) (by omega)
  have h2 := hf (m + 2) (by omega)
  have h3 := hf (m + 3) (by omega)
  rw [lof_four, List.append_right_inj]
  unfold sumL last4
  simp only [List.cons.injEq, and_true]
  constructor
  · rintro ⟨a, b, c, d⟩; omega
  · intro h; refine ⟨?_, ?_, ?_, ?_⟩ <;> omega

/-- What n bytes come to: how many are handed back, and whether they are right. -/
def sumGood (n : Nat) (f : Nat → Int) : Bool := decide (4 ≤ n ∧ last4 (n - 4) f = (crc (n - 4) f : Int))

def Gives (fn : Nat) (n : Nat) (f : Nat → Int) (N : Nat) (B : Bool) : Prop :=
  ∀ (b cap : Nat) (w : World), View w (some ⟨b, 0, none⟩) n cap f → Calls Try.prog fn #[.slice (some ⟨b, 0, none⟩) n cap] w fun e w' =>
    ∃ g c, e = .returned (.tuple #[.slice (some ⟨g, 0, none⟩) N c, .bool B]) ∧ w.heap.size ≤ g ∧ N ≤ c ∧ Row 5 w' g N f ∧ Below w.heap.size w w'

theorem noRow (w : World) (t : TypeId) (f : Nat → Int) : Row t (w.alloc (.cells #[] t)) w.heap.size 0 f := ⟨#[], Deep.blk_alloc_new _ _, Nat.le_refl _, fun _ hi => absurd hi (Nat.not_lt_zero _)⟩
theorem noView (w : World) (f : Nat → Int) : View w none 0 0 f := ⟨Nat.le_refl _, fun _ hi => absurd hi (Nat.not_lt_zero _), fun h => absurd h (Nat.lt_irrefl _)⟩

set_option maxHeartbeats 1000000 in
theorem getSum_impl_few (n : Nat) (f : Nat → Int) (hn : n < 4) : Gives 85 n f 0 false := by
  intro b cap w hv
  have hz : (n : Int) - 4 < 0 := by omega
  go_enter Try.func85, Try.ntmps85
  go_wp2
  go_ret2
  exact ⟨_, _, rfl, Nat.le_refl _, Nat.le_refl _, noRow _ _ _, (Below.refl _ _).alloc (Nat.le_refl _) _⟩

set_option maxHeartbeats 1000000 in
theorem getSum_impl_yes (m : Nat) (f : Nat → Int) (hn : m + 4 ≤ 1048576) (hf : ∀ i, i < m + 4 → 0 ≤ f i ∧ f i ≤ 255) (hs : last4 m f = (crc m f : Int)) : Gives 85 (m + 4) f m true := by
  intro b cap w hv
  have hz : (0 : Int) ≤ (m : Int) := by omega
  have hcl : (m : Int) ≤ (cap : Int) := by have := hv.le; omega
  have HQ : Hid (((strOfNums (lof (m + 4) (fun i => (lof m f ++ sumL (crc m f)).getD i 0))).toList == (strOfNums (lof (m + 4) f)).toList) = true) := by
    show _ = true
    have e : lof (m + 4) (fun i => (lof m f ++ sumL (crc m f)).getD i 0) = lof m f ++ sumL (crc m f) := by
      have := lof_self (lof m f ++ sumL (crc m f))
      rw [List.length_append, lof_len, sumL_len] at this
      exact this
    rw [e, (sum_iff hf (crc_lt (fun i hi => hf i (by omega)))).2 hs]
    simp
  have HP : Hid (∀ i, i < m + 4 → 0 ≤ (lof m f ++ sumL (crc m f)).getD i 0 ∧ (lof m f ++ sumL (crc m f)).getD i 0 ≤ 255) := put_byte m f _ (fun i hi => hf i (by omega)) (sumL_byte _)
  clear hs hf
  go_enter Try.func85, Try.ntmps85
  go_wp2_with fail
  refine (putSum_impl b 0 m cap f w (hv.take (by omega)) (by omega)).mono ?_
  rintro e w1 ⟨g, c, rfl, hg, hgc, hr, hb1⟩
  go_wp2_with fail
  refine (equal_any g 0 (m + 4) c _ b 0 (m + 4) cap f w1 (hr.view hgc HP.out) (hv.below hb1)).mono ?_
  rintro e _ ⟨he, rfl⟩
  rw [HQ.out] at he
  subst he
  clear hr HP HQ
  go_wp2_with fail
  refine (putBytes_any b 0 m cap f none 0 0 (fun _ => 0) w1 ((hv.below hb1).take (by omega)) (noView _ _) (fun _ => ⟨rfl, rfl⟩) (by omega)).mono ?_
  rintro e w2 ⟨rfl, hown, hb2⟩
  rw [show lof 0 (fun _ => 0) = [] from rfl, List.append_nil, Nat.add_zero] at hown
  have hrow : Row 5 w2 w1.heap.size m f := (row_of_owned hown).congr (fun i hi => lof_get m f i hi)
  go_wp2
  go_ret2
  exact ⟨_, _, rfl, hb1.size, Nat.le_refl _, hrow, hb1.trans (hb2.mono hb1.size)⟩

set_option maxHeartbeats 1000000 in
theorem getSum_impl_no (m : Nat) (f : Nat → Int) (hn : m + 4 ≤ 1048576) (hf : ∀ i, i < m + 4 → 0 ≤ f i ∧ f i ≤ 255) (hs : last4 m f ≠ (crc m f : Int)) : Gives 85 (m + 4) f 0 false := by
  intro b cap w hv
  have hz : (0 : Int) ≤ (m : Int) := by omega
  have hcl : (m : Int) ≤ (cap : Int) := by have := hv.le; omega
  have HQ : Hid (((strOfNums (lof (m + 4) (fun i => (lof m f ++ sumL (crc m f)).getD i 0))).toList == (strOfNums (lof (m + 4) f)).toList) = false) := by
    show _ = false
    have e : lof (m + 4) (fun i => (lof m f ++ sumL (crc m f)).getD i 0) = lof m f ++ sumL (crc m f) := by
      have := lof_self (lof m f ++ sumL (crc m f))
      rw [List.length_append, lof_len, sumL_len] at this
      exact this
    rw [e, beq_eq_false_iff_ne]
    intro h
    refine hs ((sum_iff hf (crc_lt (fun i hi => hf i (by omega)))).1 (strOfNums_inj ?_ (lof_byteS hf) ?_))
    · intro y hy
      rcases List.mem_append.1 hy with hy | hy
      · exact lof_byteS (fun i hi => hf i (by omega)) y hy
      · exact sumL_byte _ y hy
    · rw [ByteArray.toList_eq, ByteArray.toList_eq] at h; exact ByteArray.ext (Array.ext' h)
  have HP : Hid (∀ i, i < m + 4 → 0 ≤ (lof m f ++ sumL (crc m f)).getD i 0 ∧ (lof m f ++ sumL (crc m f)).getD i 0 ≤ 255) := put_byte m f _ (fun i hi => hf i (by omega)) (sumL_byte _)
  clear hs hf
  go_enter Try.func85, Try.ntmps85
  go_wp2_with fail
  refine (putSum_impl b 0 m cap f w (hv.take (by omega)) (by omega)).mono ?_
  rintro e w1 ⟨g, c, rfl, hg, hgc, hr, hb1⟩
  go_wp2_with fail
  refine (equal_any g 0 (m + 4) c _ b 0 (m + 4) cap f w1 (hr.view hgc HP.out) (hv.below hb1)).mono ?_
  rintro e _ ⟨he, rfl⟩
  rw [HQ.out] at he
  subst he
  clear hr HP HQ
  go_wp2
  go_ret2
  exact ⟨_, _, rfl, hb1.size, Nat.le_refl _, noRow _ _ _, hb1.alloc hb1.size _⟩
end Go.Proofs.Ytikopeihkbpjhac

/-
  Bytes behind which their sum stands, plainly: they are right; with one byte turned they are not.
-/
namespace Go.Proofs.Ytikopeihkbpjhac
open Go.RowKit
set_option maxRecDepth 4000

theorem sum_turned {m j : Nat} {F : Nat → Int} {v : Int} (hF : ∀ i, i < m + 4 → 0 ≤ F i ∧ F i ≤ 255) (hg : last4 m F = (crc m F : Int)) (hj : j < m + 4) (hv : 0 ≤ v ∧ v ≤ 255) (hne : v ≠ F j) :
    last4 m (fun i => if i = j then v else F i) ≠ (crc m (fun i => if i = j then v else F i) : Int) := by
  by_cases h : j < m
  · have hc : crc m (fun i => if i = j then v else F i) ≠ crc m F := by
      refine crc_parts (j := j) (fun i hi => ?_) (fun i hi => hF i (by omega)) h ?_ (fun i hi hij => ?_)
      · by_cases e : i = j
        · simp only [e, if_true]; exact hv
        · simp only [e, if_false]; exact hF i (by omega)
      · simp only [if_true]; exact hne
      · simp only [hij, if_false]
    have hl : last4 m (fun i => if i = j then v else F i) = last4 m F := by
      unfold last4
      dsimp only
      rw [if_neg (by omega), if_neg (by omega), if_neg (by omega), if_neg (by omega)]
    rw [hl, hg]
    intro e
    exact hc (by omega)
  · have hc : crc m (fun i => if i = j then v else F i) = crc m F := crc_congr (fun i hi => by rw [if_neg (by omega)])
    rw [hc, ← hg]
    have h0 := hF m (by omega)
    have h1 := hF (m + 1) (by omega)
    have h2 := hF (m + 2) (by omega)
    have h3 := hF (m + 3) (by omega)
    unfold last4
    dsimp only
    rcases (show j = m ∨ j = m + 1 ∨ j = m + 2 ∨ j = m + 3 by omega) with rfl | rfl | rfl | rfl
    · rw [if_pos rfl, if_neg (by omega), if_neg (by omega), if_neg (by omega)]; omega
    · rw [if_neg (by omega), if_pos rfl, if_neg (by omega), if_neg (by omega)]; omega
    · rw [if_neg (by omega), if_neg (by omega), if_pos rfl, if_neg (by omega)]; omega
    · rw [if_neg (by omega), if_neg (by omega), if_neg (by omega), if_pos rfl]; omega

/-- What PutSum lays is right. -/
theorem sum_put (m : Nat) (f : Nat → Int) (hf : ∀ i, i < m → 0 ≤ f i ∧ f i ≤ 255) : last4 m (fun i => (lof m f ++ sumL (crc m f)).getD i 0) = (crc m (fun i => (lof m f ++ sumL (crc m f)).getD i 0) : Int) := by
  have hl : ∀ i, i < m → (lof m f ++ sumL (crc m f)).getD i 0 = f i := by
    intro i hi
    rw [← lof_get m f i hi, List.getD_eq_getElem?_getD, List.getD_eq_getElem?_getD, List.getElem?_append_left (by rw [lof_len]; exact hi)]
  have hr : ∀ i, (lof m f ++ sumL (crc m f)).getD (m + i) 0 = (sumL (crc m f)).getD i 0 := by
    intro i
    rw [List.getD_eq_getElem?_getD, List.getD_eq_getElem?_getD, List.getElem?_append_right (by rw [lof_len]; omega), lof_len]
    congr 2
    omega
  have hc : crc m (fun i => (lof m f ++ sumL (crc m f)).getD i 0) = crc m f := crc_congr hl
  rw [hc]
  have hlt := crc_lt hf
  have r0 := hr 0
  have r1 := hr 1
  have r2 := hr 2
  have r3 := hr 3
  unfold last4
  dsimp only
  rw [Nat.add_zero] at r0
  rw [r0, r1, r2, r3]
  generalize crc m f = c at hlt
  show ((((c : Int) / 16777216 % 256) * 256 + (c : Int) / 65536 % 256) * 256 + (c : Int) / 256 % 256) * 256 + (c : Int) % 256 = (c : Int)
  omega

/-- A byte with one bit turned is another byte. -/
theorem bit_turned (x : Int) (k : Nat) (h : 0 ≤ x ∧ x ≤ 255) (hk : k < 8) : (0 ≤ bits .xor .u8 x (2 ^ k) ∧ bits .xor .u8 x (2 ^ k) ≤ 255) ∧ bits .xor .u8 x (2 ^ k) ≠ x := by
  obtain ⟨n, rfl⟩ := Int.eq_ofNat_of_zero_le h.1
  have hn : n < 256 := by omega
  have hp : 2 ^ k < 256 := Nat.lt_of_lt_of_le (Nat.pow_lt_pow_right (by decide) hk) (by decide)
  have e : bits .xor .u8 (n : Int) (2 ^ k) = ((n ^^^ 2 ^ k : Nat) : Int) := by
    have := u8_xor_nat n (2 ^ k) hn hp
    rw [← this]
    simp
  rw [e]
  have hlt : n ^^^ 2 ^ k < 256 := Nat.xor_lt_two_pow (n := 8) hn hp
  refine ⟨by omega, fun h => ?_⟩
  have h' : n ^^^ 2 ^ k = n := by omega
  have h2 := congrArg (fun z => z.testBit k) h'
  simp only [Nat.testBit_xor, Nat.testBit_two_pow_self, Bool.xor_true] at h2
  cases hb : n.testBit k <;> simp [hb] at h2

theorem small_pow (x : Nat) : (2 : Int) ^ min (x % 8) 8 % 256 = 2 ^ (x % 8) := by
  have hk : x % 8 < 8 := Nat.mod_lt _ (by decide)
  rw [Nat.min_eq_left (by omega)]
  rcases (show x % 8 = 0 ∨ x % 8 = 1 ∨ x % 8 = 2 ∨ x % 8 = 3 ∨ x % 8 = 4 ∨ x % 8 = 5 ∨ x % 8 = 6 ∨ x % 8 = 7 by omega) with h | h | h | h | h | h | h | h <;> rw [h] <;> rfl
end Go.Proofs.Ytikopeihkbpjhac

/-
  Right values, kind by kind.
-/
namespace Go.Proofs.Ytikopeihkbpjhac
open Go.RowKit
set_option maxRecDepth 4000

theorem okF_kinds {k n : Int} {s : ByteArray} (h : okF k n s = true) : (k = 0 ∧ n = 0 ∧ s = noBytes) ∨ (k = 1 ∧ (-2147483648 ≤ n ∧ n ≤ 2147483647) ∧ s = noBytes) ∨ (k = 2 ∧ (-1000000000000000 ≤ n ∧ n ≤ 1000000000000000) ∧ s = noBytes) ∨ (k = 3 ∧ n = 0 ∧ s.size ≤ 30) ∨ (k = 4 ∧ (0 ≤ n ∧ n ≤ 1) ∧ s = noBytes) := by
  by_cases h0 : k = 0
  · subst h0; rw [okF_spec0] at h; simp at h; exact .inl ⟨rfl, h⟩
  by_cases h1 : k = 1
  · subst h1; rw [okF_spec1] at h; simp at h; exact .inr (.inl ⟨rfl, h⟩)
  by_cases h2 : k = 2
  · subst h2; rw [okF_spec2] at h; simp at h; exact .inr (.inr (.inl ⟨rfl, h⟩))
  by_cases h3 : k = 3
  · subst h3; rw [okF_spec3] at h; simp at h; exact .inr (.inr (.inr (.inl ⟨rfl, h.2, h.1⟩)))
  by_cases h4 : k = 4
  · subst h4; rw [okF_spec4] at h; simp at h; exact .inr (.inr (.inr (.inr ⟨rfl, h⟩)))
  · rw [okF_specX n s h0 h1 h2 h3 h4] at h; cases h
end Go.Proofs.Ytikopeihkbpjhac

/-
  Rows come back of their bytes, plainly; what is read has these bytes; with one byte turned it is no row.
-/
namespace Go.Proofs.Ytikopeihkbpjhac
open Go.RowKit
set_option maxRecDepth 4000

theorem rowOk_iff {n : Nat} {fc ft : Nat → Int} {fu : Nat → Bool} {m : Nat} {fk fn : Nat → Int} {fs : Nat → ByteArray} : rowOk n fc ft fu m fk fn fs = true ↔ planOk n fc ft = true ∧ m = n ∧ fitsAll n m ft fu fk fn fs = true := by
  unfold rowOk; simp
theorem rowOk_congr {n : Nat} {fc ft : Nat → Int} {fu : Nat → Bool} {m : Nat} {fk fn : Nat → Int} {fs : Nat → ByteArray} {gk gn : Nat → Int} {gs : Nat → ByteArray} (h : ∀ i, i < m → fk i = gk i ∧ fn i = gn i ∧ fs i = gs i) : rowOk n fc ft fu m fk fn fs = rowOk n fc ft fu m gk gn gs := by
  rw [Bool.eq_iff_iff, rowOk_iff, rowOk_iff, fitsAll_iff, fitsAll_iff]
  constructor
  · rintro ⟨h1, h2, h3, h4⟩
    exact ⟨h1, h2, h3, fun i hi => by obtain ⟨e1, e2, e3⟩ := h i hi; rw [← e1, ← e2, ← e3]; exact h4 i hi⟩
  · rintro ⟨h1, h2, h3, h4⟩
    exact ⟨h1, h2, h3, fun i hi => by obtain ⟨e1, e2, e3⟩ := h i hi; rw [e1, e2, e3]; exact h4 i hi⟩
theorem sumB_len (R : List Int) : (sumB R).length = R.length + 4 := by unfold sumB; rw [List.length_append]; rfl
theorem sumB_byte {R : List Int} (h : ∀ y ∈ R, 0 ≤ y ∧ y ≤ 255) : ∀ y ∈ sumB R, 0 ≤ y ∧ y ≤ 255 := fun y hy => by
  unfold sumB at hy
  rcases List.mem_append.1 hy with hy | hy
  · exact h y hy
  · exact sumL_byte _ y hy
theorem sumB_good {R : List Int} (h : ∀ y ∈ R, 0 ≤ y ∧ y ≤ 255) : sumGood (sumB R).length (fun i => (sumB R).getD i 0) = true := by
  have e := sum_put R.length (fun i => R.getD i 0) (bytes_of_list h)
  rw [lof_self] at e
  unfold sumGood
  rw [sumB_len, show R.length + 4 - 4 = R.length by omega]
  apply decide_eq_true
  exact ⟨by omega, e⟩
theorem sumB_at (R : List Int) : AtF R.length (fun i => (sumB R).getD i 0) 0 R := ⟨by omega, fun j hj => by
  rw [Nat.zero_add]
  unfold sumB
  exact getD_left _ _ _ hj⟩

/-- The values of a row of which the bytes stand in F are read. -/
theorem rQ_at {M m : Nat} {F : Nat → Int} {fk fn : Nat → Int} {fs : Nat → ByteArray} (hm : m ≤ 6) (hok : ∀ i, i < m → okF (fk i) (fn i) (fs i) = true) (h : AtF M F 0 (rowB m fk fn fs)) :
    getU M F 0 = ((m : Int), ((groups (m : Int)).length : Int), true) ∧ ∀ k, k ≤ m → rQ M F k = some (((groups (m : Int)).length + (keyT (fun i => valB (fk i) (fn i) (fs i)) k).length : Nat) : Int) ∧ ∀ i, i < k → rG M F i = ⟨fk i, fn i, fs i, (((groups (m : Int)).length + (keyT (fun i => valB (fk i) (fn i) (fs i)) (i + 1)).length : Nat) : Int), true⟩ := by
  have hc : clampN (m : Int) = m := clampN_id (by omega) (by omega)
  unfold rowB at h
  rw [hc] at h
  have hu := getU_at (N := M) (F := F) (i := 0) (x := m) (by omega) (by omega) h.left
  have hr := h.right
  rw [Nat.zero_add] at hr
  have hu' : getU M F 0 = ((m : Int), ((groups (m : Int)).length : Int), true) := by
    have : ((0 : Nat) : Int) = (0 : Int) := rfl
    rw [this] at hu
    rw [hu]; simp
  refine ⟨hu', fun k => ?_⟩
  induction k with
  | zero => intro _; exact ⟨by rw [rQ, hu']; simp [keyT], fun i hi => absurd hi (Nat.not_lt_zero _)⟩
  | succ k ih =>
    intro hk
    obtain ⟨h1, h2⟩ := ih (by omega)
    have hsplit := keyT_split (fun i => valB (fk i) (fn i) (fs i)) k (m - k)
    rw [show k + (m - k) = m by omega] at hsplit
    rw [hsplit] at hr
    have hr2 := hr.right
    rw [show m - k = 1 + (m - k - 1) by omega, keyT_split] at hr2
    have hr3 := hr2.left
    have e1 : keyT (fun i => valB (fk (k + i)) (fn (k + i)) (fs (k + i))) 1 = valB (fk k) (fn k) (fs k) := by simp [keyT]
    rw [e1] at hr3
    have hg := getR_at (okF_kinds (hok k (by omega))) hr3
    have e2 : (((groups (m : Int)).length + (keyT (fun i => valB (fk i) (fn i) (fs i)) k).length : Nat) : Int) + ((valB (fk k) (fn k) (fs k)).length : Int) = (((groups (m : Int)).length + (keyT (fun i => valB (fk i) (fn i) (fs i)) (k + 1)).length : Nat) : Int) := by
      rw [keyT, List.length_append]; push_cast; omega
    rw [e2] at hg
    refine ⟨?_, fun i hi => ?_⟩
    · rw [rQ, h1]
      show (if (getR M F _).ok = true then _ else _) = _
      rw [hg]; rfl
    · by_cases e : i < k
      · exact h2 i e
      · obtain rfl : i = k := by omega
        unfold rG
        rw [h1]
        exact hg

/-- Rows come back. -/
theorem row_back {n : Nat} {fc ft : Nat → Int} {fu : Nat → Bool} {m : Nat} {fk fn : Nat → Int} {fs : Nat → ByteArray} (h : rowOk n fc ft fu m fk fn fs = true) (L : List Int) (hL : L = encB n fc ft fu m fk fn fs) :
    4 < L.length ∧ sumGood L.length (fun i => L.getD i 0) = true ∧ rowRd (L.length - 4) (fun i => L.getD i 0) n fc ft fu = true ∧ rCnt (L.length - 4) (fun i => L.getD i 0) = m ∧ ∀ i, i < m → rK (L.length - 4) (fun i => L.getD i 0) i = fk i ∧ rN (L.length - 4) (fun i => L.getD i 0) i = fn i ∧ rS (L.length - 4) (fun i => L.getD i 0) i = fs i := by
  have hL2 : L = sumB (rowB m fk fn fs) := by rw [hL]; unfold encB; rw [h]; rfl
  obtain ⟨hpk, hmn, hfa⟩ := rowOk_iff.1 h
  have hm6 : m ≤ 6 := by have := (planOk_iff.1 hpk).2; omega
  have hok : ∀ i, i < m → okF (fk i) (fn i) (fs i) = true := fun i hi => by have := (fitsAll_iff.1 hfa).2 i hi; unfold fitsP at this; simp only [Bool.and_eq_true] at this; exact this.1
  have hR := rowB_byte m fk fn fs
  have hgood := sumB_good hR
  have hat := sumB_at (rowB m fk fn fs)
  have hlen : L.length - 4 = (rowB m fk fn fs).length := by rw [hL2, sumB_len]; omega
  have hpos : 0 < (rowB m fk fn fs).length := by unfold rowB; rw [List.length_append]; have := (groups_len (clampN (m : Int))).1; omega
  rw [← hL2] at hgood hat
  rw [← hlen] at hat
  obtain ⟨hu, hq⟩ := rQ_at hm6 hok hat
  obtain ⟨hq1, hq2⟩ := hq m (Nat.le_refl _)
  have hcnt : rCnt (L.length - 4) (fun i => L.getD i 0) = m := by unfold rCnt; rw [hu]; simp
  have hvals : ∀ i, i < m → rK (L.length - 4) (fun i => L.getD i 0) i = fk i ∧ rN (L.length - 4) (fun i => L.getD i 0) i = fn i ∧ rS (L.length - 4) (fun i => L.getD i 0) i = fs i := fun i hi => by
    unfold rK rN rS; rw [hq2 i hi]; exact ⟨rfl, rfl, rfl⟩
  refine ⟨by rw [hL2, sumB_len]; omega, hgood, ?_, hcnt, hvals⟩
  unfold rowRd
  rw [hu, hcnt, hq1, rowOk_congr hvals, h]
  have e : (((groups (m : Int)).length + (keyT (fun i => valB (fk i) (fn i) (fs i)) m).length : Nat) : Int) = ((L.length - 4 : Nat) : Int) := by
    rw [hlen]; unfold rowB; rw [List.length_append, clampN_id (x := (m : Int)) (by omega) (by omega)]
  rw [e]
  simp; omega
/-- What is read of the first bytes. -/
theorem rQ_read {M : Nat} {F : Nat → Int} (hb : ∀ i, i < M → 0 ≤ F i ∧ F i ≤ 255) (h0 : (getU M F 0).2.2 = true) : ∀ {k : Nat} {p : Int}, rQ M F k = some p → AtF M F 0 (groups (getU M F 0).1 ++ keyT (fun i => valB (rK M F i) (rN M F i) (rS M F i)) k) ∧ p = ((groups (getU M F 0).1 ++ keyT (fun i => valB (rK M F i) (rN M F i) (rS M F i)) k).length : Int)
  | 0, p, h => by
    obtain ⟨a, q, ok, hu⟩ : ∃ a q ok, getU M F 0 = (a, q, ok) := ⟨_, _, _, rfl⟩
    rw [rQ] at h
    rw [hu] at h h0 ⊢
    simp only at h h0 ⊢
    subst h0
    obtain ⟨i, e, hA, hq, -, -⟩ := getU_read hb hu
    have ei : i = 0 := by omega
    subst ei
    have e2 := Option.some.inj h
    simp only [keyT, List.append_nil]
    exact ⟨hA, by omega⟩
  | k + 1, p, h => by
    obtain ⟨p', h1, h2, h3⟩ := rQ_succ h
    obtain ⟨hA, hp⟩ := rQ_read hb h0 h1
    have eg : rG M F k = getR M F p' := by unfold rG; rw [h1]; rfl
    obtain ⟨kk, y, s, q, ok, hg⟩ : ∃ kk y s q ok, getR M F p' = ⟨kk, y, s, q, ok⟩ := ⟨_, _, _, _, _, rfl⟩
    have ek : rK M F k = kk ∧ rN M F k = y ∧ rS M F k = s := by unfold rK rN rS; rw [eg, hg]; exact ⟨rfl, rfl, rfl⟩
    rw [hg] at h2 h3
    simp only at h2 h3
    subst h2 h3
    obtain ⟨i, ei, hV, hq, -, -⟩ := getR_read hb hg
    have ei2 : i = (groups (getU M F 0).1 ++ keyT (fun i => valB (rK M F i) (rN M F i) (rS M F i)) k).length := by omega
    rw [keyT, ← List.append_assoc, ek.1, ek.2.1, ek.2.2]
    refine ⟨hA.append ?_, ?_⟩
    · rw [Nat.zero_add, ← ei2]; exact hV
    · rw [List.length_append, ← ei2, hq]; push_cast; rfl
/-- What is read has these bytes. -/
theorem row_read {N : Nat} {F : Nat → Int} {n : Nat} {fc ft : Nat → Int} {fu : Nat → Bool} (hb : ∀ i, i < N → 0 ≤ F i ∧ F i ≤ 255) (hg : sumGood N F = true) (h : rowRd (N - 4) F n fc ft fu = true) :
    rowOk n fc ft fu (rCnt (N - 4) F) (rK (N - 4) F) (rN (N - 4) F) (rS (N - 4) F) = true ∧ encB n fc ft fu (rCnt (N - 4) F) (rK (N - 4) F) (rN (N - 4) F) (rS (N - 4) F) = lof N F := by
  unfold sumGood at hg
  simp only [decide_eq_true_eq] at hg
  obtain ⟨M, rfl⟩ : ∃ M, N = M + 4 := ⟨N - 4, by omega⟩
  rw [show M + 4 - 4 = M by omega] at *
  unfold rowRd at h
  simp only [Bool.and_eq_true, decide_eq_true_eq] at h
  obtain ⟨h0, ⟨h7, hq⟩, hr⟩ := h
  refine ⟨hr, ?_⟩
  unfold encB
  rw [hr]
  obtain ⟨hA, hp⟩ := rQ_read (fun i hi => hb i (by omega)) h0 hq
  have ec : clampN (rCnt M F : Int) = (getU M F 0).1 := by
    obtain ⟨a, q, ok, hu⟩ : ∃ a q ok, getU M F 0 = (a, q, ok) := ⟨_, _, _, rfl⟩
    unfold rCnt
    rw [hu] at h0 ⊢
    simp only at h0 ⊢
    subst h0
    have := getU_bd (fun i hi => hb i (by omega)) hu
    rw [Int.toNat_of_nonneg this.1]
    exact clampN_id this.1 this.2.1
  have eR : rowB (rCnt M F) (rK M F) (rN M F) (rS M F) = lof M F := by
    have e := hA.lof
    unfold rowB
    rw [ec]
    rw [← e]
    have el : (groups (getU M F 0).1 ++ keyT (fun i => valB (rK M F i) (rN M F i) (rS M F i)) (rCnt M F)).length = M := by omega
    rw [el]
    congr 1
    funext j
    rw [Nat.zero_add]
  show sumB _ = _
  rw [eR]
  unfold sumB
  have e3 : crc (lof M F).length (fun i => (lof M F).getD i 0) = crc M F := by
    rw [lof_len]
    exact crc_congr (fun i hi => lof_get M F i hi)
  rw [e3]
  exact (sum_iff hb (crc_lt (fun i hi => hb i (by omega)))).2 hg.2
end Go.Proofs.Ytikopeihkbpjhac

/-
  What DecodeRow comes to.
-/
namespace Go.Proofs.Ytikopeihkbpjhac
open Go.RowKit
set_option maxRecDepth 4000

/-- How many bytes are before the sum, where it is right. -/
def sumN (N : Nat) (F : Nat → Int) : Nat := if sumGood N F then N - 4 else 0
/-- Whether bytes are a row of the plan, with its sum. -/
def decROk (N : Nat) (F : Nat → Int) (n : Nat) (fc ft : Nat → Int) (fu : Nat → Bool) : Bool := sumGood N F && rowRd (N - 4) F n fc ft fu
/-- What DecodeRow comes to. -/
def DecsR (w : World) (n N : Nat) (F : Nat → Int) (fc ft : Nat → Int) (fu : Nat → Bool) (e : Ending) (w' : World) : Prop :=
  ∃ v M, e = .returned (.tuple #[v, .bool (decROk N F n fc ft fu)]) ∧ v ≠ .slice none 0 0 ∧ M = (if decROk N F n fc ft fu then rCnt (N - 4) F else 0) ∧ w'.ownsRow w.heap.size 29 3 v M (rowC (rK (N - 4) F) (rN (N - 4) F) (rS (N - 4) F) M) ∧ Below w.heap.size w w'

/-- A row of bytes is no row of values. -/
theorem Row.not_own {w : World} {g n : Nat} {f : Nat → Int} {base size k : Nat} {v : Value} {xs : List Value} {t e : TypeId} (h : Row t w g n f) (hte : t ≠ e) (hr : w.ownsRow base e size v k xs) : some g ≠ v.ownBlock := by
  obtain ⟨c, hb, _⟩ := h
  rcases hr.2 with ⟨rfl, _⟩ | ⟨g', cap, cur, rfl, _, hgb, _⟩
  · simp [Value.ownBlock]
  · intro e'
    obtain rfl : g = g' := by simpa [Value.ownBlock] using e'
    rw [hb] at hgb
    simp at hgb
    exact hte hgb.2
end Go.Proofs.Ytikopeihkbpjhac

/-
  A row with one byte changed is no row.
-/
namespace Go.Proofs.Ytikopeihkbpjhac
open Go.RowKit
set_option maxRecDepth 4000

theorem row_turned {n : Nat} {fc ft : Nat → Int} {fu : Nat → Bool} {m : Nat} {fk fn : Nat → Int} {fs : Nat → ByteArray} (h : rowOk n fc ft fu m fk fn fs = true) (L : List Int) (hL : L = encB n fc ft fu m fk fn fs) {j : Nat} {v : Int} (hj : j < L.length) (hv : 0 ≤ v ∧ v ≤ 255) (hne : v ≠ L.getD j 0) (hb : ∀ i, i < L.length → 0 ≤ L.getD i 0 ∧ L.getD i 0 ≤ 255) :
    decROk L.length (fun i => if i = j then v else L.getD i 0) n fc ft fu = false := by
  obtain ⟨h4, hg, -⟩ := row_back h L hL
  obtain ⟨M, hM⟩ : ∃ M, L.length = M + 4 := ⟨L.length - 4, by omega⟩
  rw [hM] at hg hj hb ⊢
  unfold sumGood at hg
  simp only [decide_eq_true_eq, Nat.add_sub_cancel] at hg
  have e := sum_turned (m := M) (j := j) (F := fun i => L.getD i 0) (v := v) hb hg.2 hj hv hne
  unfold decROk sumGood
  rw [show M + 4 - 4 = M by omega, decide_eq_false (fun h => e h.2), Bool.false_and]
end Go.Proofs.Ytikopeihkbpjhac

/-
  The bytes of a row: bytes, and few of them.
-/
namespace Go.Proofs.Ytikopeihkbpjhac
open Go.RowKit
set_option maxRecDepth 4000

theorem encB_byte (n : Nat) (fc ft : Nat → Int) (fu : Nat → Bool) (m : Nat) (fk fn : Nat → Int) (fs : Nat → ByteArray) : ∀ y ∈ encB n fc ft fu m fk fn fs, 0 ≤ y ∧ y ≤ 255 := by
  unfold encB
  cases rowOk n fc ft fu m fk fn fs with
  | false => intro y hy; cases hy
  | true => exact sumB_byte (rowB_byte m fk fn fs)
theorem encB_few (n : Nat) (fc ft : Nat → Int) (fu : Nat → Bool) (m : Nat) (fk fn : Nat → Int) (fs : Nat → ByteArray) : (encB n fc ft fu m fk fn fs).length ≤ 1004 := by
  unfold encB
  cases hok : rowOk n fc ft fu m fk fn fs with
  | false => exact Nat.zero_le _
  | true =>
    have hrk := hok
    unfold rowOk at hrk
    simp only [Bool.and_eq_true, decide_eq_true_eq] at hrk
    obtain ⟨hpk, hmn, hfa⟩ := hrk
    obtain ⟨-, hfit⟩ := fitsAll_iff.1 hfa
    have hm6 : m ≤ 6 := by have := (planOk_iff.1 hpk).2; omega
    have hOK : ∀ i, i < m → okF (fk i) (fn i) (fs i) = true := fun i hi => by have := hfit i hi; unfold fitsP at this; simp only [Bool.and_eq_true] at this; exact this.1
    show (sumB (rowB m fk fn fs)).length ≤ 1004
    rw [sumB_len]
    have h1 : (keyT (fun i => valB (fk i) (fn i) (fs i)) m).length ≤ m * 69 := keyT_len (fun i hi => by
      have h3 := valB_len (fk i) (fn i) (fs i)
      have h4 := okF_few (hOK i hi)
      show (valB (fk i) (fn i) (fs i)).length ≤ 69
      omega)
    have h2 := (groups_len (clampN (m : Int))).2
    have h3 : (rowB m fk fn fs).length = (groups (clampN (m : Int))).length + (keyT (fun i => valB (fk i) (fn i) (fs i)) m).length := by
      show (groups (clampN (m : Int)) ++ _).length = _
      rw [List.length_append]
    omega
end Go.Proofs.Ytikopeihkbpjhac

/-
  The model's RowOk comes to the plain one.
-/
namespace Go.Proofs.Ytikopeihkbpjhac
open Go.RowKit
set_option maxRecDepth 4000

set_option maxHeartbeats 2000000 in
theorem specRowOk_any (a : Option Addr) (n cap : Nat) (fc ft : Nat → Int) (fu fd : Nat → Bool) (a2 : Option Addr) (m cap2 : Nat) (fk fn : Nat → Int) (fs : Nat → ByteArray) (w : World) (h : PView w a n cap fc ft fu fd) (h2 : VView w a2 m cap2 fk fn fs) (hn : n ≤ 1048576) (hm : m ≤ 1048576) (hs : ∀ i, i < m → (fs i).size ≤ 1048576) :
    Calls Try.prog 43 #[.slice a n cap, .slice a2 m cap2] w fun e w' => e = .returned (.bool (rowOk n fc ft fu m fk fn fs)) ∧ Below w.heap.size w w' := by
  have hF := fun W (hb : Below w.heap.size w W) => specFitsAll_any a n cap fc ft fu fd a2 m cap2 fk fn fs W (h.below hb) (h2.below hb) hn hm hs
  go_enter Try.func43, Try.ntmps43
  go_wp2_with fail
  refine (specPlanOk_any a n cap fc ft fu fd w h hn).mono ?_
  clear h h2
  cases hpk : planOk n fc ft with
  | false =>
    have HR : Hid (rowOk n fc ft fu m fk fn fs = false) := by show _ = _; unfold rowOk; rw [hpk]; rfl
    rintro e w1 ⟨rfl, hb⟩
    clear hF
    go_wp2
    go_ret
    exact ⟨by rw [HR.out]; rfl, hb⟩
  | true =>
    rintro e w1 ⟨rfl, hb⟩
    replace hF := hF w1 hb
    by_cases hmn : m = n
    · have hmz : (m : Int) = (n : Int) := by omega
      obtain ⟨o, ho⟩ : ∃ o, Hid (fitsAll n m ft fu fk fn fs = o) := ⟨_, rfl⟩
      have HR : Hid (rowOk n fc ft fu m fk fn fs = o) := by show _ = _; unfold rowOk; rw [hpk, decide_eq_true hmn, ho.out]; rfl
      rw [ho.out] at hF
      subst hmn
      go_wp2_with fail
      refine hF.mono ?_
      rintro e w2 ⟨rfl, hb2⟩
      have hB := hb.trans (hb2.mono hb.size)
      clear hF hb hb2
      go_wp2
      go_ret
      exact ⟨by rw [HR.out]; rfl, hB⟩
    · have hmz : ¬ (m : Int) = (n : Int) := by omega
      have HR : Hid (rowOk n fc ft fu m fk fn fs = false) := by show _ = _; unfold rowOk; rw [hpk, decide_eq_false hmn]; rfl
      clear hF
      go_wp2
      go_ret
      exact ⟨by rw [HR.out]; rfl, hb⟩
end Go.Proofs.Ytikopeihkbpjhac

/-
  The program's getBit: a byte of 0 or 1 at a place.
-/
namespace Go.Proofs.Ytikopeihkbpjhac
open Go.RowKit
set_option maxRecDepth 4000

/-- A byte of 0 or 1 at a place. -/
def getB (n : Nat) (f : Nat → Int) (p : Int) : Int × Int × Bool := if p < 0 ∨ (n : Int) ≤ p ∨ 1 < f p.toNat then (0, 0, false) else (f p.toNat, p + 1, true)

set_option maxHeartbeats 1000000 in
theorem getBit_any {a q : Int} {ok : Bool} (b off n cap : Nat) (f : Nat → Int) (p : Int) (w : World) (hg : Hid (getB n f p = (a, q, ok))) (hv : View w (some ⟨b, off, none⟩) n cap f) (hn : n ≤ 70368744177664) (hp1 : p ≤ 9223372036854775807) :
    Calls Try.prog 54 #[.slice (some ⟨b, off, none⟩) n cap, .int .i64 p] w fun e w' => e = .returned (.tuple #[.int .i64 a, .int .i64 q, .bool ok]) ∧ Below w.heap.size w w' := by
  by_cases hp : p < 0
  · have e := hg.out
    unfold getB at e
    rw [if_pos (Or.inl hp)] at e
    obtain ⟨rfl, rfl, rfl⟩ : 0 = a ∧ 0 = q ∧ false = ok := by simpa using e
    clear hg e hv
    go_enter Try.func54, Try.ntmps54
    go_wp2
    exact bodyPost_ret (v := .tuple #[_, _, _]) (by simp [results, Try.results54, go_sem]) rfl ⟨rfl, Below.refl _ _⟩
  by_cases hq : (n : Int) ≤ p
  · have e := hg.out
    unfold getB at e
    rw [if_pos (Or.inr (Or.inl hq))] at e
    obtain ⟨rfl, rfl, rfl⟩ : 0 = a ∧ 0 = q ∧ false = ok := by simpa using e
    clear hg e hv
    go_enter Try.func54, Try.ntmps54
    go_wp2
    exact bodyPost_ret (v := .tuple #[_, _, _]) (by simp [results, Try.results54, go_sem]) rfl ⟨rfl, Below.refl _ _⟩
  obtain ⟨i, rfl⟩ : ∃ i : Nat, p = i := ⟨p.toNat, by omega⟩
  have hi : i < n := by omega
  obtain ⟨b', off', eb, -, hc⟩ := hv.cells (by omega)
  cases eb
  have hci := hc i hi
  have hby := hv.byte i hi
  obtain ⟨y, hy⟩ : ∃ y, y = f i := ⟨_, rfl⟩
  rw [← hy] at hci hby
  have e := hg.out
  unfold getB at e
  rw [Int.toNat_natCast, ← hy] at e
  clear hg hc hv hy
  by_cases h1 : 1 < y
  · rw [if_pos (Or.inr (Or.inr h1))] at e
    obtain ⟨rfl, rfl, rfl⟩ : 0 = a ∧ 0 = q ∧ false = ok := by simpa using e
    clear e
    go_enter Try.func54, Try.ntmps54
    go_wp2
    exact bodyPost_ret (v := .tuple #[_, _, _]) (by simp [results, Try.results54, go_sem]) rfl ⟨rfl, Below.refl _ _⟩
  · rw [if_neg (by omega)] at e
    obtain ⟨rfl, rfl, rfl⟩ : y = a ∧ (i : Int) + 1 = q ∧ true = ok := by simpa using e
    clear e
    go_enter Try.func54, Try.ntmps54
    go_wp2
    exact bodyPost_ret (v := .tuple #[_, _, _]) (by simp [results, Try.results54, go_sem]) rfl ⟨rfl, Below.refl _ _⟩

end Go.Proofs.Ytikopeihkbpjhac

/-
  A value of a row, as the program reads it: plainly.
-/
namespace Go.Proofs.Ytikopeihkbpjhac
open Go.RowKit
set_option maxRecDepth 4000

/-- What the program reads as a value of a row. -/
def getRI (N : Nat) (F : Nat → Int) (p : Int) : Got :=
  if (getU N F p).2.2 = false then ⟨0, 0, noBytes, p, false⟩
  else if (getU N F p).1 = 1 ∨ (getU N F p).1 = 2 then ⟨(getU N F p).1, (getV N F (getU N F p).2.1).1, noBytes, (getV N F (getU N F p).2.1).2.1, (getV N F (getU N F p).2.1).2.2⟩
  else if (getU N F p).1 = 3 then ⟨3, 0, (getText N F (getU N F p).2.1).1, (getText N F (getU N F p).2.1).2.1, (getText N F (getU N F p).2.1).2.2⟩
  else if (getU N F p).1 = 4 then ⟨4, (getB N F (getU N F p).2.1).1, noBytes, (getB N F (getU N F p).2.1).2.1, (getB N F (getU N F p).2.1).2.2⟩
  else ⟨(getU N F p).1, 0, noBytes, (getU N F p).2.1, true⟩

/-- What it reads is the value. -/
theorem getRI_yes {N : Nat} {F : Nat → Int} {p : Int} (h : (getRI N F p).ok = true) : getR N F p = getRI N F p := by
  unfold getRI getR at *
  by_cases c0 : (getU N F p).2.2 = false
  · rw [if_pos c0] at h; cases h
  rw [if_neg c0] at h ⊢
  have c0' : (getU N F p).2.2 = true := by simpa using c0
  by_cases c1 : (getU N F p).1 = 1 ∨ (getU N F p).1 = 2
  · rw [if_pos c1, if_pos c1, c0', Bool.true_and]
  rw [if_neg c1] at h ⊢
  rw [if_neg c1]
  by_cases c2 : (getU N F p).1 = 3
  · rw [if_pos c2, if_pos c2, c0', Bool.true_and]
  rw [if_neg c2] at h ⊢
  rw [if_neg c2]
  by_cases c3 : (getU N F p).1 = 4
  · rw [if_pos c3] at h ⊢
    rw [if_pos c3]
    simp only at h
    unfold getB at *
    by_cases c4 : (getU N F p).2.1 < 0 ∨ (N : Int) ≤ (getU N F p).2.1 ∨ 1 < F (getU N F p).2.1.toNat
    · rw [if_pos c4] at h; cases h
    · rw [if_neg c4, if_pos (by omega), c0']
  · rw [if_neg c3, if_neg c3, c0']
/-- What it does not read is no right value. -/
theorem getRI_no {N : Nat} {F : Nat → Int} {p : Int} (hb : ∀ i, i < N → 0 ≤ F i ∧ F i ≤ 255) (h : (getRI N F p).ok = false) : (getR N F p).ok = false ∨ okF (getR N F p).k (getR N F p).n (getR N F p).s = false := by
  unfold getRI at h
  by_cases c0 : (getU N F p).2.2 = false
  · left
    unfold getR
    rw [c0]
    by_cases c1 : (getU N F p).1 = 1 ∨ (getU N F p).1 = 2
    · rw [if_pos c1]; rfl
    rw [if_neg c1]
    by_cases c2 : (getU N F p).1 = 3
    · rw [if_pos c2]; rfl
    rw [if_neg c2]
    by_cases c3 : (getU N F p).1 = 4
    · rw [if_pos c3]; split <;> rfl
    rw [if_neg c3]
  rw [if_neg c0] at h
  have c0' : (getU N F p).2.2 = true := by simpa using c0
  obtain ⟨a, q, ok, hu⟩ : ∃ a q ok, getU N F p = (a, q, ok) := ⟨_, _, _, rfl⟩
  rw [hu] at c0' h
  simp only at c0' h
  subst c0'
  have hbd := getU_bd hb hu
  unfold getR
  rw [hu]
  simp only
  by_cases c1 : a = 1 ∨ a = 2
  · rw [if_pos c1] at h ⊢
    simp only at h ⊢
    left; rw [h]; rfl
  rw [if_neg c1] at h ⊢
  by_cases c2 : a = 3
  · rw [if_pos c2] at h ⊢
    simp only at h ⊢
    left; rw [h]; rfl
  rw [if_neg c2] at h ⊢
  by_cases c3 : a = 4
  · rw [if_pos c3] at h ⊢
    simp only at h
    unfold getB at h
    by_cases c4 : q < 0 ∨ (N : Int) ≤ q ∨ 1 < F q.toNat
    · by_cases c5 : q < N
      · rw [if_pos c5]
        right
        simp only
        have h1 : 1 < F q.toNat := by omega
        cases e : okF 4 (F q.toNat) noBytes with
        | false => rfl
        | true => have := okF_kinds e; omega
      · rw [if_neg c5]; left; rfl
    · rw [if_neg c4] at h; cases h
  · rw [if_neg c3] at h; cases h

/-- Where it reads no value there is no row. -/
theorem rowRd_no {M : Nat} {F : Nat → Int} {n : Nat} {fc ft : Nat → Int} {fu : Nat → Bool} {k : Nat} {p : Int} (hb : ∀ i, i < M → 0 ≤ F i ∧ F i ≤ 255) (hq : rQ M F k = some p) (hk : k < rCnt M F) (h : (getRI M F p).ok = false) : rowRd M F n fc ft fu = false := by
  cases e : rowRd M F n fc ft fu with
  | false => rfl
  | true =>
    exfalso
    unfold rowRd at e
    simp only [Bool.and_eq_true, decide_eq_true_eq] at e
    obtain ⟨-, ⟨-, e1⟩, e2⟩ := e
    rcases getRI_no hb h with h1 | h1
    · have h2 : rQ M F (k + 1) = none := by
        rw [rQ, hq]
        show (if (getR M F p).ok = true then _ else _) = _
        rw [h1]; rfl
      have h3 := rQ_none h2 (rCnt M F - (k + 1))
      rw [show k + 1 + (rCnt M F - (k + 1)) = rCnt M F by omega, e1] at h3
      cases h3
    · obtain ⟨-, -, h4⟩ := rowOk_iff.1 e2
      have h5 := (fitsAll_iff.1 h4).2 k hk
      unfold fitsP at h5
      simp only [Bool.and_eq_true] at h5
      have eg : rG M F k = getR M F p := by unfold rG; rw [hq]; rfl
      have h6 := h5.1
      unfold rK rN rS at h6
      rw [eg, h1] at h6
      cases h6

/-- A row is read just where it has these bytes. -/
theorem dec_eq {N : Nat} {F : Nat → Int} {n : Nat} {fc ft : Nat → Int} {fu : Nat → Bool} {p : Int} (hb : ∀ i, i < N → 0 ≤ F i ∧ F i ≤ 255) (hg : sumGood N F = true) (hu : (getU (N - 4) F 0).2.2 = true) (hc : rCnt (N - 4) F = n) (hq : rQ (N - 4) F n = some p) (hr : rowOk n fc ft fu n (rK (N - 4) F) (rN (N - 4) F) (rS (N - 4) F) = true) :
    (encB n fc ft fu n (rK (N - 4) F) (rN (N - 4) F) (rS (N - 4) F) = lof N F) ↔ rowRd (N - 4) F n fc ft fu = true := by
  have hn6 : n ≤ 6 := (planOk_iff.1 (rowOk_iff.1 hr).1).2
  constructor
  · intro h
    have h1 := congrArg List.length h
    unfold encB at h1
    rw [hr, lof_len] at h1
    simp only [if_true] at h1
    rw [sumB_len] at h1
    obtain ⟨hA, hp⟩ := rQ_read (fun i hi => hb i (by omega)) hu hq
    have ec : clampN (n : Int) = (getU (N - 4) F 0).1 := by
      obtain ⟨a, q, ok, hu2⟩ : ∃ a q ok, getU (N - 4) F 0 = (a, q, ok) := ⟨_, _, _, rfl⟩
      rw [← hc]
      unfold rCnt
      rw [hu2] at hu ⊢
      simp only at hu ⊢
      subst hu
      have := getU_bd (fun i hi => hb i (by omega)) hu2
      rw [Int.toNat_of_nonneg this.1]
      exact clampN_id this.1 this.2.1
    unfold rowB at h1
    rw [ec] at h1
    have hpM : p = ((N - 4 : Nat) : Int) := by omega
    unfold rowRd
    rw [hu, hc, hq, hr, hpM]
    simp; omega
  · intro h
    have := (row_read hb hg h).2
    rw [hc] at this
    exact this
end Go.Proofs.Ytikopeihkbpjhac

