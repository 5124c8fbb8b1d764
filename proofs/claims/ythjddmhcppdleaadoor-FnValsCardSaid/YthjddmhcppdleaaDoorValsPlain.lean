/-
  A value that has a text comes back of it, plainly; texts of values are short.
-/
import Derived.Test.YthjddmhcppdleaaDoorParsePlain
namespace Go.Proofs.YthjddmhcppdleaaDoor
open Go.RowKit Go.Lib

theorem itoa_len {n : Int} (h0 : -10000000000000000 < n) (h1 : n < 10000000000000000) : (itoa n).length ≤ 17 := by
  by_cases hn : n < 0
  · rw [itoa_min hn, List.length_cons]
    have := digits_len (u := n.natAbs) (by omega)
    omega
  · rw [itoa_pos (by omega)]
    have := digits_len (u := n.toNat) (by omega)
    omega

theorem txt_len {v : V} (h : v.rng = true) : v.txt.length ≤ 40 := by
  cases v with
  | null => decide
  | int n =>
    simp only [V.rng, Bool.and_eq_true, decide_eq_true_eq] at h
    have := itoa_len (n := n) (by omega) (by omega)
    simp only [V.txt, List.length_cons]
    omega
  | num n =>
    simp only [V.rng, Bool.and_eq_true, decide_eq_true_eq] at h
    have := itoa_len (n := n) (by omega) (by omega)
    simp only [V.txt, List.length_cons]
    omega
  | text s =>
    simp only [V.rng, decide_eq_true_eq] at h
    simp only [V.txt, quotedL]
    have hs : s.data.toList.length = s.size := by simp
    split
    · simp only [List.length_cons, List.length_append, List.length_nil]
      omega
    · simp
  | bool b => cases b <;> decide

theorem textF_len (k n : Int) (s : ByteArray) : (textF k n s).length ≤ 40 := by
  by_cases h : okF k n s = true
  · obtain ⟨v, hv, rfl, rfl, rfl⟩ := okF_iff.1 h
    rw [textF_v hv]
    exact txt_len hv
  · unfold textF
    rw [if_neg h]
    simp

theorem textF_parsed {k n : Int} {s : ByteArray} (h : textF k n s ≠ []) : Parsed (textF k n s) k n s true := by
  refine .inl ⟨rfl, ?_, rfl, h⟩
  cases ho : okF k n s with
  | true => rfl
  | false =>
    exfalso
    apply h
    unfold textF
    rw [ho]
    rfl

theorem bytesOf_size (l : List UInt8) : (bytesOf l).size = l.length := by simp [bytesOf, ByteArray.size]
theorem bytesOf_back (t : ByteArray) : bytesOf t.data.toList = t := by simp [bytesOf]
theorem bytesOf_list (l : List UInt8) : (bytesOf l).data.toList = l := by simp [bytesOf]
end Go.Proofs.YthjddmhcppdleaaDoor
