/-
  What a range over a text steps over: a 0 by itself, or bytes of which none is 0.
-/
import Derived.Test.YtbcgonfihdpjnaqPutEscSpec
import Derived.Lib.DecodeN
import Derived.Lib.OthersKept
namespace Go.Proofs.Ytbcgonfihdpjnaq
open Go.RowKit
set_option maxRecDepth 4000

theorem decN (n b0 b1 b2 b3 : Nat) (h : b0 ≠ 0) (hn : 1 ≤ n) : (Lib.decodeN n b0 b1 b2 b3).1 ≠ 0 ∧ 1 ≤ (Lib.decodeN n b0 b1 b2 b3).2 ∧ (Lib.decodeN n b0 b1 b2 b3).2 ≤ n ∧ (Lib.decodeN n b0 b1 b2 b3).2 ≤ 4 ∧
    (1 < (Lib.decodeN n b0 b1 b2 b3).2 → b1 ≠ 0) ∧ (2 < (Lib.decodeN n b0 b1 b2 b3).2 → b2 ≠ 0) ∧ (3 < (Lib.decodeN n b0 b1 b2 b3).2 → b3 ≠ 0) := by
  unfold Lib.decodeN
  repeat' split
  all_goals (refine ⟨?_, ?_, ?_, ?_, ?_, ?_, ?_⟩ <;> simp only <;> omega)

theorem get_sl (s : ByteArray) (j : Nat) (h : j < s.size) : (s.get! j).toNat = s[j].toNat := by
  simp [ByteArray.get!, getElem!_pos, h]
  rfl

theorem sl_at (s : ByteArray) (j : Nat) (h : j < s.size) : (sl s)[j]'(by rw [sl_len]; exact h) = (s[j].toNat : Int) := by
  simp [sl]
  rfl

/-- The bytes from a up to b. -/
def seg (s : ByteArray) (a b : Nat) : List Int := ((sl s).take b).drop a
theorem seg_len (s : ByteArray) (a b : Nat) (h : b ≤ s.size) : (seg s a b).length = b - a := by
  unfold seg; rw [List.length_drop, List.length_take, sl_len]; omega
theorem seg_cut (s : ByteArray) (a b c : Nat) (h1 : a ≤ b) (h2 : b ≤ c) (h3 : c ≤ s.size) : seg s a c = seg s a b ++ seg s b c := by
  unfold seg
  have e : (sl s).take c = (sl s).take b ++ ((sl s).take c).drop b := by
    have := List.take_append_drop b ((sl s).take c)
    rw [List.take_take, Nat.min_eq_left h2] at this
    exact this.symm
  have hl : ((sl s).take b).length = b := by rw [List.length_take, sl_len]; omega
  conv => lhs; rw [e]
  rw [List.drop_append_of_le_length (by omega)]
theorem seg_head (s : ByteArray) (b : Nat) : seg s 0 b = (sl s).take b := rfl
theorem seg_none (s : ByteArray) (a : Nat) : seg s a a = [] := by
  unfold seg
  apply List.drop_eq_nil_of_le
  rw [List.length_take]; omega
theorem seg_sl (s : ByteArray) (a b : Nat) : sl (s.extract a b) = seg s a b := by
  unfold seg sl
  rw [ByteArray.data_extract, Array.toList_extract, List.extract_eq_take_drop, ← List.map_take, ← List.map_drop, List.drop_take]
theorem seg_mem (s : ByteArray) (a b : Nat) (h : b ≤ s.size) (y : Int) (hy : y ∈ seg s a b) : ∃ j, ∃ hj : j < s.size, a ≤ j ∧ j < b ∧ y = (s[j].toNat : Int) := by
  unfold seg at hy
  obtain ⟨i, hi, rfl⟩ := List.getElem_of_mem hy
  have hi' := hi
  rw [List.length_drop, List.length_take, sl_len] at hi'
  refine ⟨a + i, by omega, by omega, by omega, ?_⟩
  rw [List.getElem_drop, List.getElem_take, sl_at]

/-- A rune that is not 0: none of its bytes is. -/
theorem rune_nz (s : ByteArray) (pos : Nat) (h : pos < s.size) (h0 : (s[pos].toNat : Int) ≠ 0) :
    (Utf8.decode s pos).1 ≠ 0 ∧ 1 ≤ (Utf8.decode s pos).2 ∧ pos + (Utf8.decode s pos).2 ≤ s.size ∧ ∀ y ∈ seg s pos (pos + (Utf8.decode s pos).2), y ≠ 0 := by
  have hb0 : (s.get! pos).toNat ≠ 0 := by rw [get_sl s pos h]; omega
  have hd := decN (s.size - pos) (s.get! pos).toNat (s.get! (pos + 1)).toNat (s.get! (pos + 2)).toNat (s.get! (pos + 3)).toNat hb0 (by omega)
  rw [← Lib.decode_at] at hd
  obtain ⟨d0, d1, d2, d3, d4, d5, d6⟩ := hd
  refine ⟨d0, d1, by omega, ?_⟩
  intro y hy
  obtain ⟨j, hj, hj0, hj1, rfl⟩ := seg_mem s _ _ (by omega) y hy
  rcases (show j = pos ∨ j = pos + 1 ∨ j = pos + 2 ∨ j = pos + 3 by omega) with rfl | rfl | rfl | rfl
  · exact h0
  · have := d4 (by omega); rw [get_sl s _ hj] at this; omega
  · have := d5 (by omega); rw [get_sl s _ hj] at this; omega
  · have := d6 (by omega); rw [get_sl s _ hj] at this; omega

theorem rune_z (s : ByteArray) (pos : Nat) (h : pos < s.size) (h0 : (s[pos].toNat : Int) = 0) : Utf8.decode s pos = (0, 1) := by
  rw [decode_ascii s pos h (by omega)]
  simp only [Prod.mk.injEq, and_true]
  omega

/-- Of the bytes up to pos: acc is put, those from 'a' on are still to be. -/
structure Ranged (s : ByteArray) (a pos : Nat) (acc : List Int) : Prop where
  le : a ≤ pos
  sz : pos ≤ s.size
  put : escL (seg s 0 pos) = acc ++ seg s a pos
theorem Ranged.start (s : ByteArray) : Ranged s 0 0 [] := ⟨Nat.le_refl _, Nat.zero_le _, by rw [seg_none]; rfl⟩
theorem Ranged.zero {s : ByteArray} {a pos : Nat} {acc : List Int} (h : Ranged s a pos acc) (hp : pos < s.size) (h0 : (s[pos].toNat : Int) = 0) : Ranged s (pos + 1) (pos + 1) ((acc ++ seg s a pos) ++ [0, 255]) := by
  have := h.le
  refine ⟨Nat.le_refl _, hp, ?_⟩
  rw [seg_head, sl_take s pos hp, escL_append, escL_one, ← seg_head, h.put, seg_none, List.append_nil, h0]
  rfl
theorem Ranged.plain {s : ByteArray} {a pos : Nat} {acc : List Int} (h : Ranged s a pos acc) (K : Nat) (hK : pos + K ≤ s.size) (hz : ∀ y ∈ seg s pos (pos + K), y ≠ 0) : Ranged s a (pos + K) acc := by
  have := h.le
  refine ⟨by omega, hK, ?_⟩
  rw [seg_cut s 0 pos (pos + K) (Nat.zero_le _) (by omega) hK, escL_append, h.put, escL_plain _ hz, List.append_assoc, ← seg_cut s a pos (pos + K) h.le (by omega) hK]
theorem Ranged.done {s : ByteArray} {a pos : Nat} {acc : List Int} (h : Ranged s a pos acc) (hp : pos = s.size) : escL (sl s) = acc ++ seg s a s.size := by
  subst hp
  rw [← h.put, seg_head, sl_all]
theorem Ranged.len {s : ByteArray} {a pos : Nat} {acc : List Int} (h : Ranged s a pos acc) : acc.length ≤ 2 * pos := by
  have h1 := escK_len s pos h.sz
  rw [← seg_head, h.put, List.length_append] at h1
  omega

end Go.Proofs.Ytbcgonfihdpjnaq
