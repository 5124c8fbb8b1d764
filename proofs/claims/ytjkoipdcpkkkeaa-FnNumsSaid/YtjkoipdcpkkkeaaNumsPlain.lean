/-
  What was put comes back, plainly: a number of its groups, a text of its bytes; cut by one byte the number does not.
-/
import Derived.Test.YtjkoipdcpkkkeaaGetTextPlain
import Derived.Test.YtjkoipdcpkkkeaaTextPlain
namespace Go.Proofs.Ytjkoipdcpkkkeaa
open Go.RowKit

theorem getD_left (l k : List Int) (i : Nat) (h : i < l.length) : (l ++ k).getD i 0 = l.getD i 0 := by
  rw [List.getD_eq_getElem?_getD, List.getD_eq_getElem?_getD, List.getElem?_append_left h]
theorem getD_right (l k : List Int) (i : Nat) : (l ++ k).getD (l.length + i) 0 = k.getD i 0 := by
  rw [List.getD_eq_getElem?_getD, List.getD_eq_getElem?_getD, List.getElem?_append_right (by omega)]
  congr 2
  omega

/-- A number that lies as its groups from n on is read there. -/
theorem getU_put (n N : Nat) (F : Nat → Int) (x : Int) (h0 : 0 ≤ x) (h1 : x ≤ 1000000) (hF : ∀ i, i < (groups x).length → F (n + i) = (groups x).getD i 0) (hN : n + (groups x).length ≤ N) :
    getU N F (n : Int) = (x, (n : Int) + (groups x).length, true) := by
  by_cases a : x < 128
  · have e : groups x = [x] := by unfold groups; rw [if_pos a]
    rw [e] at hF hN ⊢
    have f0 : F n = x := by have := hF 0 (by simp); simpa using this
    simp only [List.length_cons, List.length_nil] at hN
    rw [getU_1 N F n (by omega) (by omega), f0]
    rfl
  · by_cases b : x < 16384
    · have e : groups x = [x % 128 + 128, x / 128] := by unfold groups; rw [if_neg a, if_pos b]
      rw [e] at hF hN ⊢
      have f0 : F n = x % 128 + 128 := by have := hF 0 (by simp); simpa using this
      have f1 : F (n + 1) = x / 128 := by have := hF 1 (by simp); simpa using this
      simp only [List.length_cons, List.length_nil] at hN
      rw [getU_2 N F n (by omega) (by omega) (by omega) (by omega), f0, f1]
      have : x % 128 + 128 - 128 + x / 128 * 128 = x := by omega
      rw [this]
      rfl
    · have e : groups x = [x % 128 + 128, x / 128 % 128 + 128, x / 16384] := by unfold groups; rw [if_neg a, if_neg b]
      rw [e] at hF hN ⊢
      have f0 : F n = x % 128 + 128 := by have := hF 0 (by simp); simpa using this
      have f1 : F (n + 1) = x / 128 % 128 + 128 := by have := hF 1 (by simp); simpa using this
      have f2 : F (n + 2) = x / 16384 := by have := hF 2 (by simp); simpa using this
      simp only [List.length_cons, List.length_nil] at hN
      have v : F n - 128 + (F (n + 1) - 128) * 128 + F (n + 2) * 16384 = x := by rw [f0, f1, f2]; omega
      rw [getU_3 N F n (by omega) (by omega) (by omega) (by omega) (by omega), v]
      rfl

theorem getU_cutoff (n N : Nat) (F : Nat → Int) (x : Int) (_h0 : 0 ≤ x) (hF : ∀ i, i < (groups x).length → F (n + i) = (groups x).getD i 0) (hN : n + (groups x).length = N + 1) :
    getU N F (n : Int) = (0, 0, false) := by
  by_cases a : x < 128
  · have e : groups x = [x] := by unfold groups; rw [if_pos a]
    rw [e] at hN
    simp only [List.length_cons, List.length_nil] at hN
    exact getU_past N F n (by omega)
  · by_cases b : x < 16384
    · have e : groups x = [x % 128 + 128, x / 128] := by unfold groups; rw [if_neg a, if_pos b]
      rw [e] at hF hN
      have f0 : F n = x % 128 + 128 := by have := hF 0 (by simp); simpa using this
      simp only [List.length_cons, List.length_nil] at hN
      exact getU_2end N F n (by omega) (by omega) (by omega)
    · have e : groups x = [x % 128 + 128, x / 128 % 128 + 128, x / 16384] := by unfold groups; rw [if_neg a, if_neg b]
      rw [e] at hF hN
      have f0 : F n = x % 128 + 128 := by have := hF 0 (by simp); simpa using this
      have f1 : F (n + 1) = x / 128 % 128 + 128 := by have := hF 1 (by simp); simpa using this
      simp only [List.length_cons, List.length_nil] at hN
      exact getU_3end N F n (by omega) (by omega) (by omega) (by omega)

theorem strOfNums_sl (s : ByteArray) : strOfNums (sl s) = s := by
  apply ByteArray.ext
  apply Array.ext'
  show ((sl s).map fun n => UInt8.ofNat n.toNat) = s.data.toList
  unfold sl
  rw [List.map_map]
  conv => rhs; rw [← List.map_id s.data.toList]
  apply List.map_congr_left
  intro b _
  simp

/-- A text that was put comes back. -/
theorem getText_put (n : Nat) (f : Nat → Int) (s : ByteArray) (hs : s.size ≤ 1000000) :
    getText (n + (groups (clampN s.size)).length + s.size) (fun i => (textL n f s).getD i 0) (n : Int) = (s, ((n + (groups (clampN s.size)).length + s.size : Nat) : Int), true) := by
  have hc : clampN s.size = s.size := by unfold clampN; rw [if_neg (by omega), if_neg (by omega)]
  rw [hc]
  have e1 : ∀ i, i < (groups s.size).length → (textL n f s).getD (n + i) 0 = (groups s.size).getD i 0 := by
    intro i hi
    unfold textL
    rw [hc, List.append_assoc]
    have := getD_right (lof n f) (groups s.size ++ sl s) i
    rw [lof_len] at this
    rw [this, getD_left _ _ _ hi]
  have hu := getU_put n (n + (groups s.size).length + s.size) (fun i => (textL n f s).getD i 0) s.size (by omega) (by omega) e1 (by omega)
  have e2 : ∀ i, (textL n f s).getD (n + (groups s.size).length + i) 0 = (sl s).getD i 0 := by
    intro i
    unfold textL
    rw [hc]
    have := getD_right (lof n f ++ groups s.size) (sl s) i
    rw [List.length_append, lof_len] at this
    exact this
  unfold getText
  rw [hu]
  have et : ((n : Int) + ((groups s.size).length : Int)).toNat = n + (groups s.size).length := by omega
  rw [if_pos ⟨rfl, by show (s.size : Int) ≤ _; push_cast; omega⟩]
  simp only [Int.toNat_natCast, et]
  have el : lof s.size (fun i => (textL n f s).getD (n + (groups s.size).length + i) 0) = sl s := by
    have h1 := lof_self (sl s)
    rw [sl_len] at h1
    rw [← h1]
    unfold lof
    apply List.map_congr_left
    intro i _
    exact e2 i
  rw [el, strOfNums_sl]
  simp only [Prod.mk.injEq, true_and, and_true]
  push_cast
  omega
end Go.Proofs.Ytjkoipdcpkkkeaa
