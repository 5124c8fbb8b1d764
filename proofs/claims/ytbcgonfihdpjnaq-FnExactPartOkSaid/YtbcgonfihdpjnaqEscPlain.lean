/-
  Texts in order, plainly: each 0 is followed by 255, and 0 and 1 end the text; what is read of bytes as such a text.
-/
import Derived.Test.YtbcgonfihdpjnaqTextPlain
namespace Go.Proofs.Ytbcgonfihdpjnaq
open Go.RowKit
set_option maxRecDepth 4000

/-- One byte, as it is put. -/
def esc1 (x : Int) : List Int := if x = 0 then [0, 255] else [x]
/-- The bytes of a text, each as it is put. -/
def escL : List Int → List Int
  | [] => []
  | x :: xs => esc1 x ++ escL xs

theorem escL_append (a b : List Int) : escL (a ++ b) = escL a ++ escL b := by
  induction a with
  | nil => rfl
  | cons x xs ih => simp [escL, ih]
theorem escL_one (x : Int) : escL [x] = esc1 x := by simp [escL]
theorem escL_len (a : List Int) : a.length ≤ (escL a).length ∧ (escL a).length ≤ 2 * a.length := by
  induction a with
  | nil => simp [escL]
  | cons x xs ih =>
    have : (esc1 x).length = 1 ∨ (esc1 x).length = 2 := by unfold esc1; split <;> simp
    simp only [escL, List.length_append, List.length_cons]
    omega
theorem escL_byte (a : List Int) (h : ∀ y ∈ a, 0 ≤ y ∧ y ≤ 255) : ∀ y ∈ escL a, 0 ≤ y ∧ y ≤ 255 := by
  induction a with
  | nil => intro y hy; cases hy
  | cons x xs ih =>
    intro y hy
    rcases List.mem_append.1 hy with hy | hy
    · have hx := h x (by simp)
      unfold esc1 at hy
      split at hy
      · simp at hy; omega
      · simp at hy; omega
    · exact ih (fun z hz => h z (by simp [hz])) y hy
/-- Where no byte is 0 a text is put as it is. -/
theorem escL_plain (a : List Int) (h : ∀ y ∈ a, y ≠ 0) : escL a = a := by
  induction a with
  | nil => rfl
  | cons x xs ih =>
    have hx := h x (by simp)
    simp only [escL, esc1, if_neg hx, ih (fun z hz => h z (by simp [hz]))]
    rfl

/-- What is put of a text behind n bytes. -/
def escT (n : Nat) (f : Nat → Int) (s : ByteArray) : List Int := lof n f ++ (escL (sl s) ++ [0, 1])
def escN (s : ByteArray) : Nat := (escL (sl s)).length + 2
theorem escT_len (n : Nat) (f : Nat → Int) (s : ByteArray) : (escT n f s).length = n + escN s := by simp [escT, escN, lof_len]
theorem escN_le (s : ByteArray) : escN s ≤ 2 * s.size + 2 := by unfold escN; have := (escL_len (sl s)).2; rw [sl_len] at this; omega
theorem escT_byte (n : Nat) (f : Nat → Int) (s : ByteArray) (hf : ∀ i, i < n → 0 ≤ f i ∧ f i ≤ 255) : ∀ y ∈ escT n f s, 0 ≤ y ∧ y ≤ 255 := by
  intro y hy
  rcases List.mem_append.1 hy with hy | hy
  · simp only [lof, List.mem_map, List.mem_range] at hy
    obtain ⟨j, hj, rfl⟩ := hy
    exact hf j hj
  · rcases List.mem_append.1 hy with hy | hy
    · exact escL_byte _ (sl_byte s) y hy
    · simp at hy; omega
theorem escT_at (n : Nat) (f : Nat → Int) (s : ByteArray) (hf : ∀ i, i < n → 0 ≤ f i ∧ f i ≤ 255) : ∀ i, i < n + escN s → 0 ≤ (escT n f s).getD i 0 ∧ (escT n f s).getD i 0 ≤ 255 := by
  intro i hi
  have hi' : i < (escT n f s).length := by rw [escT_len]; exact hi
  have := escT_byte n f s hf _ (List.getElem_mem hi')
  simpa [hi'] using this

/-- What is read of bytes as a text: its bytes, and how many were read. -/
def readE : List Int → Option (List Int × Nat)
  | [] => none
  | [_] => none
  | x :: y :: ys => if x ≠ 0 then (readE (y :: ys)).map (fun r => (x :: r.1, r.2 + 1)) else if y = 1 then some ([], 2) else if y = 255 then (readE ys).map (fun r => (0 :: r.1, r.2 + 2)) else none

theorem readE_put (t rest : List Int) : readE (escL t ++ 0 :: 1 :: rest) = some (t, (escL t).length + 2) := by
  induction t with
  | nil => simp [escL, readE]
  | cons x xs ih =>
    by_cases hx : x = 0
    · subst hx
      have e : escL (0 :: xs) ++ 0 :: 1 :: rest = 0 :: 255 :: (escL xs ++ 0 :: 1 :: rest) := by simp [escL, esc1]
      rw [e, readE, ih]
      simp [escL, esc1]
    · have e : escL (x :: xs) ++ 0 :: 1 :: rest = x :: (escL xs ++ 0 :: 1 :: rest) := by simp [escL, esc1, hx]
      have ne : escL xs ++ 0 :: 1 :: rest ≠ [] := by simp
      obtain ⟨y, ys, hy⟩ := List.exists_cons_of_ne_nil ne
      rw [e, hy, readE, if_pos hx, ← hy, ih]
      simp [escL, esc1, hx]

theorem readE_is : ∀ (l : List Int) (t : List Int) (k : Nat), readE l = some (t, k) → k ≤ l.length ∧ l.take k = escL t ++ [0, 1]
  | [], t, k, h => by simp [readE] at h
  | [x], t, k, h => by simp [readE] at h
  | x :: y :: ys, t, k, h => by
    rw [readE] at h
    by_cases hx : x = 0
    · rw [if_neg (by simp [hx])] at h
      by_cases h1 : y = 1
      · rw [if_pos h1] at h
        cases h
        subst hx h1
        exact ⟨by simp, by simp [escL]⟩
      · rw [if_neg h1] at h
        by_cases h2 : y = 255
        · rw [if_pos h2] at h
          cases hr : readE ys with
          | none => rw [hr] at h; cases h
          | some r =>
            obtain ⟨t', k'⟩ := r
            rw [hr] at h
            cases h
            have ih := readE_is ys t' k' hr
            subst hx h2
            refine ⟨by simp; omega, ?_⟩
            show (0 :: 255 :: ys).take (k' + 2) = _
            simp [escL, esc1, ih.2]
        · rw [if_neg h2] at h; cases h
    · rw [if_pos hx] at h
      cases hr : readE (y :: ys) with
      | none => rw [hr] at h; cases h
      | some r =>
        obtain ⟨t', k'⟩ := r
        rw [hr] at h
        cases h
        have ih := readE_is (y :: ys) t' k' hr
        refine ⟨by simpa using ih.1, ?_⟩
        show (x :: y :: ys).take (k' + 1) = _
        rw [List.take_succ_cons, ih.2]
        simp [escL, esc1, hx]

/-- The bytes from the place k on. -/
def fromL (n : Nat) (f : Nat → Int) (k : Nat) : List Int := lof (n - k) (fun i => f (k + i))
theorem fromL_end (n : Nat) (f : Nat → Int) (k : Nat) (h : n ≤ k) : fromL n f k = [] := by
  unfold fromL; rw [show n - k = 0 by omega]; rfl
theorem fromL_step (n : Nat) (f : Nat → Int) (k : Nat) (h : k < n) : fromL n f k = f k :: fromL n f (k + 1) := by
  unfold fromL lof
  obtain ⟨m, hm⟩ : ∃ m, n - k = m + 1 := ⟨n - k - 1, by omega⟩
  rw [hm, show n - (k + 1) = m by omega, List.range_succ_eq_map]
  simp only [List.map_cons, List.map_map, Nat.add_zero, List.cons.injEq, true_and]
  apply List.map_congr_left
  intro i _
  simp only [Function.comp]
  rw [show k + 1 + i = k + (i + 1) by omega]

/-- What is read from the place p on is what is read from k on, with acc ahead. -/
def Seen (n : Nat) (f : Nat → Int) (p k : Nat) (acc : List Int) : Prop :=
  p ≤ k ∧ readE (fromL n f p) = (readE (fromL n f k)).map (fun r => (acc ++ r.1, (k - p) + r.2))
theorem Seen.start (n : Nat) (f : Nat → Int) (p : Nat) : Seen n f p p [] := by
  refine ⟨Nat.le_refl _, ?_⟩
  cases readE (fromL n f p) <;> simp
theorem Seen.past {n : Nat} {f : Nat → Int} {p k : Nat} {acc : List Int} (h : Seen n f p k acc) (hk : n ≤ k + 1) : readE (fromL n f p) = none := by
  rw [h.2]
  by_cases h1 : n ≤ k
  · rw [fromL_end n f k h1]; rfl
  · rw [fromL_step n f k (by omega), fromL_end n f (k + 1) hk]; rfl
theorem Seen.plain {n : Nat} {f : Nat → Int} {p k : Nat} {acc : List Int} (h : Seen n f p k acc) (hk : k + 1 < n) (h0 : f k ≠ 0) : Seen n f p (k + 1) (acc ++ [f k]) := by
  have := h.1
  refine ⟨by omega, ?_⟩
  rw [h.2, fromL_step n f k (by omega), fromL_step n f (k + 1) hk, readE, if_pos h0]
  cases readE (f (k + 1) :: fromL n f (k + 1 + 1)) with
  | none => rfl
  | some r => simp; omega
/-- The last byte alone ends nothing. -/
theorem Seen.last {n : Nat} {f : Nat → Int} {p k : Nat} {acc : List Int} (h : Seen n f p k acc) (hk : k + 1 = n) (acc' : List Int) : Seen n f p (k + 1) acc' := by
  have := h.1
  refine ⟨by omega, ?_⟩
  rw [h.past (by omega), fromL_end n f (k + 1) (by omega)]; rfl
theorem Seen.ends {n : Nat} {f : Nat → Int} {p k : Nat} {acc : List Int} (h : Seen n f p k acc) (hk : k + 1 < n) (h0 : f k = 0) (h1 : f (k + 1) = 1) : readE (fromL n f p) = some (acc, k + 2 - p) := by
  have := h.1
  rw [h.2, fromL_step n f k (by omega), fromL_step n f (k + 1) hk, readE, if_neg (by simp [h0]), if_pos h1]
  simp; omega
theorem Seen.goes {n : Nat} {f : Nat → Int} {p k : Nat} {acc : List Int} (h : Seen n f p k acc) (hk : k + 1 < n) (h0 : f k = 0) (h1 : f (k + 1) = 255) : Seen n f p (k + 2) (acc ++ [0]) := by
  have := h.1
  refine ⟨by omega, ?_⟩
  rw [h.2, fromL_step n f k (by omega), fromL_step n f (k + 1) hk, readE, if_neg (by simp [h0]), if_neg (by omega), if_pos h1]
  cases readE (fromL n f (k + 1 + 1)) with
  | none => rfl
  | some r => simp; omega
theorem Seen.wrong {n : Nat} {f : Nat → Int} {p k : Nat} {acc : List Int} (h : Seen n f p k acc) (hk : k + 1 < n) (h0 : f k = 0) (h1 : f (k + 1) ≠ 1) (h2 : f (k + 1) ≠ 255) : readE (fromL n f p) = none := by
  rw [h.2, fromL_step n f k (by omega), fromL_step n f (k + 1) hk, readE, if_neg (by simp [h0]), if_neg h1, if_neg h2]
  rfl

/-- What is read as a text in order: the text, the place behind, whether it is one. -/
def getE (n : Nat) (f : Nat → Int) (p : Int) : ByteArray × Int × Bool :=
  if p < 0 then (strOfNums [], 0, false) else
  match readE (fromL n f p.toNat) with
  | none => (strOfNums [], 0, false)
  | some r => (strOfNums r.1, p + r.2, true)
theorem getE_neg (n : Nat) (f : Nat → Int) (p : Int) (h : p < 0) : getE n f p = (strOfNums [], 0, false) := by unfold getE; rw [if_pos h]
theorem getE_none {n : Nat} {f : Nat → Int} {p : Nat} (h : readE (fromL n f p) = none) : getE n f (p : Int) = (strOfNums [], 0, false) := by
  unfold getE; rw [if_neg (by omega), Int.toNat_natCast, h]
theorem getE_some {n : Nat} {f : Nat → Int} {p k : Nat} {t : List Int} (h : readE (fromL n f p) = some (t, k)) : getE n f (p : Int) = (strOfNums t, (p : Int) + k, true) := by
  unfold getE; rw [if_neg (by omega), Int.toNat_natCast, h]

end Go.Proofs.Ytbcgonfihdpjnaq
