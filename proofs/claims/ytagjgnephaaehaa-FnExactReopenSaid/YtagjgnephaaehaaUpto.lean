/-
  A list of which the first elements are turned.
-/
namespace Go.Proofs.Ytagjgnephaaehaa

/-- The first j elements are turned. -/
def upto {α : Type} (f : Nat → α → α) (l : List α) (j : Nat) : List α := l.mapIdx (fun i x => if i < j then f i x else x)
theorem upto_get {α : Type} (f : Nat → α → α) (l : List α) (j i : Nat) : (upto f l j)[i]? = (l[i]?).map (fun x => if i < j then f i x else x) := by simp [upto, List.getElem?_mapIdx]
theorem upto_len {α : Type} (f : Nat → α → α) (l : List α) (j : Nat) : (upto f l j).length = l.length := by simp [upto]
theorem upto_zero {α : Type} (f : Nat → α → α) (l : List α) : upto f l 0 = l := by
  refine List.ext_getElem? (fun i => ?_)
  rw [upto_get]
  simp
theorem upto_set {α : Type} (f : Nat → α → α) (l : List α) (j : Nat) (h : j < l.length) : (upto f l j).set j (f j l[j]) = upto f l (j + 1) := by
  refine List.ext_getElem? (fun i => ?_)
  rw [List.getElem?_set, upto_get, upto_len, upto_get]
  by_cases e : j = i
  · subst e
    simp [h]
  · rw [if_neg e]
    by_cases hi : i < j
    · simp [hi, show i < j + 1 by omega]
    · simp [hi, show ¬ i < j + 1 by omega]
theorem upto_all {α : Type} (f : Nat → α → α) (l : List α) (j : Nat) (h : l.length ≤ j) : upto f l j = l.mapIdx f := by
  refine List.ext_getElem? (fun i => ?_)
  rw [upto_get, List.getElem?_mapIdx]
  by_cases hi : i < l.length
  · rw [List.getElem?_eq_getElem hi]
    simp [show i < j by omega]
  · rw [List.getElem?_eq_none (by omega)]
    rfl
end Go.Proofs.Ytagjgnephaaehaa
