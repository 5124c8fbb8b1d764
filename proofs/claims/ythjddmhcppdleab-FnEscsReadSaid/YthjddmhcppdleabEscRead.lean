/-
  What is read as a text in order has these bytes.
-/
import Derived.Test.YthjddmhcppdleabEscOrder
namespace Go.Proofs.Ythjddmhcppdleab
open Go.RowKit

theorem mem_escL {t : List Int} {y : Int} (h : y ∈ t) : y ∈ escL t := by
  induction t with
  | nil => cases h
  | cons x xs ih =>
    rcases List.mem_cons.1 h with rfl | h
    · refine List.mem_append_left _ ?_
      unfold esc1
      split
      · rename_i e; subst e; simp
      · simp
    · exact List.mem_append_right _ (ih h)

theorem sl_strOfNums {t : List Int} (h : ∀ y ∈ t, 0 ≤ y ∧ y ≤ 255) : sl (strOfNums t) = t :=
  strOfNums_inj (sl_byte _) h (strOfNums_sl _)

theorem fromL_len (n : Nat) (f : Nat → Int) (k : Nat) : (fromL n f k).length = n - k := by unfold fromL; rw [lof_len]

theorem getE_back {m : Nat} {F : Nat → Int} {x : Int} {s : ByteArray} {q : Int} (hF : ∀ i, i < m → 0 ≤ F i ∧ F i ≤ 255) (h : getE m F x = (s, q, true)) :
    ∃ p K : Nat, x = (p : Int) ∧ q = (p : Int) + (K : Int) ∧ p + K ≤ m ∧ 2 ≤ K ∧ s.size ≤ K ∧ lof K (fun i => F (p + i)) = escL (sl s) ++ [0, 1] := by
  unfold getE at h
  by_cases hx : x < 0
  · rw [if_pos hx] at h; cases h
  · rw [if_neg hx] at h
    cases hr : readE (fromL m F x.toNat) with
    | none => rw [hr] at h; cases h
    | some r =>
      obtain ⟨t, K⟩ := r
      rw [hr] at h
      cases h
      obtain ⟨h1, h2⟩ := readE_is _ _ _ hr
      rw [fromL_len] at h1
      have hK : K = (escL t).length + 2 := by
        have := congrArg List.length h2
        rw [List.length_take, fromL_len, List.length_append] at this
        simp at this
        omega
      have hle := escL_len t
      have e1 : (fromL m F x.toNat).take K = lof K (fun i => F (x.toNat + i)) := by
        unfold fromL lof
        rw [← List.map_take, List.take_range, Nat.min_eq_left h1]
      rw [e1] at h2
      have hby : ∀ y ∈ t, 0 ≤ y ∧ y ≤ 255 := by
        intro y hy
        have hm : y ∈ lof K (fun i => F (x.toNat + i)) := by rw [h2]; exact List.mem_append_left _ (mem_escL hy)
        simp only [lof, List.mem_map, List.mem_range] at hm
        obtain ⟨j, hj, rfl⟩ := hm
        exact hF _ (by omega)
      refine ⟨x.toNat, K, by omega, by omega, by omega, by omega, ?_, ?_⟩
      · show (strOfNums t).size ≤ K
        rw [strOfNums_size]; omega
      · rw [sl_strOfNums hby]; exact h2
end Go.Proofs.Ythjddmhcppdleab
