/-
  What was there, and behind it bytes that are turned.
-/
import Derived.Test.YtbcgonfihdpjnaqPutPlain
import Derived.Test.YtbcgonfihdpjnaqFlipWalks
namespace Go.Proofs.Ytbcgonfihdpjnaq
open Go.RowKit
set_option maxRecDepth 4000

theorem turn_list (n : Nat) (f : Nat → Int) (p : List Int) : lof (n + p.length) (flipF (fun i => (lof n f ++ p).getD i 0) (n : Int)) = lof n f ++ p.map (fun y => 255 - y) := by
  apply List.ext_getElem?
  intro i
  by_cases h1 : i < n
  · rw [List.getElem?_append_left (by rw [lof_len]; exact h1)]
    simp only [lof, List.getElem?_map, List.getElem?_range (show i < n + p.length by omega), List.getElem?_range h1, Option.map_some]
    unfold flipF
    rw [if_neg (by omega)]
    dsimp only
    rw [List.getD_eq_getElem?_getD, List.getElem?_append_left (by simpa using h1)]
    simp [h1]
  · by_cases h2 : i < n + p.length
    · obtain ⟨j, rfl⟩ : ∃ j, i = n + j := ⟨i - n, by omega⟩
      have hj : j < p.length := by omega
      rw [List.getElem?_append_right (by rw [lof_len]; omega), lof_len, Nat.add_sub_cancel_left]
      simp only [lof, List.getElem?_map, List.getElem?_range h2, Option.map_some, List.getElem?_eq_getElem hj]
      unfold flipF
      rw [if_pos (by omega)]
      dsimp only
      rw [List.getD_eq_getElem?_getD, List.getElem?_append_right (by simp)]
      simp [hj]
    · rw [List.getElem?_eq_none (by rw [lof_len]; omega), List.getElem?_eq_none (by simp [lof_len]; omega)]

/-- Bytes behind those that are there, in a row of the call's own. -/
theorem turn_row {t : TypeId} {w : World} {g n N : Nat} {f : Nat → Int} {p : List Int} {F : Nat → Int} (hN : N = n + p.length) (hF : ∀ i, i < N → F i = (lof n f ++ p).getD i 0) (h : Row t w g N (flipF F (n : Int))) : Row t w g (n + (p.map (fun y => 255 - y)).length) (fun i => (lof n f ++ p.map (fun y => 255 - y)).getD i 0) := by
  subst hN
  rw [List.length_map]
  refine h.congr (fun i hi => ?_)
  show flipF F n i = (lof n f ++ p.map (fun y => 255 - y)).getD i 0
  rw [← turn_list n f p, lof_get _ _ i hi]
  unfold flipF
  rw [hF i hi]
end Go.Proofs.Ytbcgonfihdpjnaq
