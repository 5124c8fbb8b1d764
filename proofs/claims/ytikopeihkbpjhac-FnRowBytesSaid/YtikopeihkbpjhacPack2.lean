/-
  Together: EscPlain, NumPlain, GetVarPlain, GetFixPlain, PartPlain, ValOkSpec, DrawFit, DrawDraw, FlipPlain, NumRead, Parts, PutBytes, FlipWalks
-/
import Derived.Test.YtikopeihkbpjhacPack1
import Derived.WalkSpells
/-
  Texts in order, plainly: each 0 is followed by 255, and 0 and 1 end the text; what is read of bytes as such a text.
-/
namespace Go.Proofs.Ytikopeihkbpjhac
open Go.RowKit
set_option maxRecDepth 4000

/-- One byte, as it is put. -/
def esc1 (x : Int) : List Int := if x = 0 then [0, 255] else [x]
/-- The bytes of a text, each as it is put. -/
def escL : List Int → List Int
  | [] => []
  | x :: xs => esc1 x ++ escL xs

theorem escL_append (a b : List Int) : escL (a ++ b) = escL a ++ escL b := by
  induction a with
  | nil => rfl
  | cons x xs ih => simp [escL, ih]
theorem escL_one (x : Int) : escL [x] = esc1 x := by simp [escL]
theorem escL_len (a : List Int) : a.length ≤ (escL a).length ∧ (escL a).length ≤ 2 * a.length := by
  induction a with
  | nil => simp [escL]
  | cons x xs ih =>
    have : (esc1 x).length = 1 ∨ (esc1 x).length = 2 := by unfold esc1; split <;> simp
    simp only [escL, List.length_append, List.length_cons]
    omega
theorem escL_byte (a : List Int) (h : ∀ y ∈ a, 0 ≤ y ∧ y ≤ 255) : ∀ y ∈ escL a, 0 ≤ y ∧ y ≤ 255 := by
  induction a with
  | nil => intro y hy; cases hy
  | cons x xs ih =>
    intro y hy
    rcases List.mem_append.1 hy with hy | hy
    · have hx := h x (by simp)
      unfold esc1 at hy
      split at hy
      · simp at hy; omega
      · simp at hy; omega
    · exact ih (fun z hz => h z (by simp [hz])) y hy
/-- Where no byte is 0 a text is put as it is. -/
theorem escL_plain (a : List Int) (h : ∀ y ∈ a, y ≠ 0) : escL a = a := by
  induction a with
  | nil => rfl
  | cons x xs ih =>
    have hx := h x (by simp)
    simp only [escL, esc1, if_neg hx, ih (fun z hz => h z (by simp [hz]))]
    rfl

/-- What is put of a text behind n bytes. -/
def escT (n : Nat) (f : Nat → Int) (s : ByteArray) : List Int := lof n f ++ (escL (sl s) ++ [0, 1])
def escN (s : ByteArray) : Nat := (escL (sl s)).length + 2
theorem escT_len (n : Nat) (f : Nat → Int) (s : ByteArray) : (escT n f s).length = n + escN s := by simp [escT, escN, lof_len]
theorem escN_le (s : ByteArray) : escN s ≤ 2 * s.size + 2 := by unfold escN; have := (escL_len (sl s)).2; rw [sl_len] at this; omega
theorem escT_byte (n : Nat) (f : Nat → Int) (s : ByteArray) (hf : ∀ i, i < n → 0 ≤ f i ∧ f i ≤ 255) : ∀ y ∈ escT n f s, 0 ≤ y ∧ y ≤ 255 := by
  intro y hy
  rcases List.mem_append.1 hy with hy | hy
  · simp only [lof, List.mem_map, List.mem_range] at hy
    obtain ⟨j, hj, rfl⟩ := hy
    exact hf j hj
  · rcases List.mem_append.1 hy with hy | hy
    · exact escL_byte _ (sl_byte s) y hy
    · simp at hy; omega
theorem escT_at (n : Nat) (f : Nat → Int) (s : ByteArray) (hf : ∀ i, i < n → 0 ≤ f i ∧ f i ≤ 255) : ∀ i, i < n + escN s → 0 ≤ (escT n f s).getD i 0 ∧ (escT n f s).getD i 0 ≤ 255 := by
  intro i hi
  have hi' : i < (escT n f s).length := by rw [escT_len]; exact hi
  have := escT_byte n f s hf _ (List.getElem_mem hi')
  simpa [hi'] using this

/-- What is read of bytes as a text: its bytes, and how many were read. -/
def readE : List Int → Option (List Int × Nat)
  | [] => none
  | [_] => none
  | x :: y :: ys => if x ≠ 0 then (readE (y :: ys)).map (fun r => (x :: r.1, r.2 + 1)) else if y = 1 then some ([], 2) else if y = 255 then (readE ys).map (fun r => (0 :: r.1, r.2 + 2)) else none

theorem readE_put (t rest : List Int) : readE (escL t ++ 0 :: 1 :: rest) = some (t, (escL t).length + 2) := by
  induction t with
  | nil => simp [escL, readE]
  | cons x xs ih =>
    by_cases hx : x = 0
    · subst hx
      have e : escL (0 :: xs) ++ 0 :: 1 :: rest = 0 :: 255 :: (escL xs ++ 0 :: 1 :: rest) := by simp [escL, esc1]
      rw [e, readE, ih]
      simp [escL, esc1]
    · have e : escL (x :: xs) ++ 0 :: 1 :: rest = x :: (escL xs ++ 0 :: 1 :: rest) := by simp [escL, esc1, hx]
      have ne : escL xs ++ 0 :: 1 :: rest ≠ [] := by simp
      obtain ⟨y, ys, hy⟩ := List.exists_cons_of_ne_nil ne
      rw [e, hy, readE, if_pos hx, ← hy, ih]
      simp [escL, esc1, hx]

theorem readE_is : ∀ (l : List Int) (t : List Int) (k : Nat), readE l = some (t, k) → k ≤ l.length ∧ l.take k = escL t ++ [0, 1]
  | [], t, k, h => by simp [readE] at h
  | [x], t, k, h => by simp [readE] at h
  | x :: y :: ys, t, k, h => by
    rw [readE] at h
    by_cases hx : x = 0
    · rw [if_neg (by simp [hx])] at h
      by_cases h1 : y = 1
      · rw [if_pos h1] at h
        cases h
        subst hx h1
        exact ⟨by simp, by simp [escL]⟩
      · rw [if_neg h1] at h
        by_cases h2 : y = 255
        · rw [if_pos h2] at h
          cases hr : readE ys with
          | none => rw [hr] at h; cases h
          | some r =>
            obtain ⟨t', k'⟩ := r
            rw [hr] at h
            cases h
            have ih := readE_is ys t' k' hr
            subst hx h2
            refine ⟨by simp; omega, ?_⟩
            show (0 :: 255 :: ys).take (k' + 2) = _
            simp [escL, esc1, ih.2]
        · rw [if_neg h2] at h; cases h
    · rw [if_pos hx] at h
      cases hr : readE (y :: ys) with
      | none => rw [hr] at h; cases h
      | some r =>
        obtain ⟨t', k'⟩ := r
        rw [hr] at h
        cases h
        have ih := readE_is (y :: ys) t' k' hr
        refine ⟨by simpa using ih.1, ?_⟩
        show (x :: y :: ys).take (k' + 1) = _
        rw [List.take_succ_cons, ih.2]
        simp [escL, esc1, hx]

/-- The bytes from the place k on. -/
def fromL (n : Nat) (f : Nat → Int) (k : Nat) : List Int := lof (n - k) (fun i => f (k + i))
theorem fromL_end (n : Nat) (f : Nat → Int) (k : Nat) (h : n ≤ k) : fromL n f k = [] := by
  unfold fromL; rw [show n - k = 0 by omega]; rfl
theorem fromL_step (n : Nat) (f : Nat → Int) (k : Nat) (h : k < n) : fromL n f k = f k :: fromL n f (k + 1) := by
  unfold fromL lof
  obtain ⟨m, hm⟩ : ∃ m, n - k = m + 1 := ⟨n - k - 1, by omega⟩
  rw [hm, show n - (k + 1) = m by omega, List.range_succ_eq_map]
  simp only [List.map_cons, List.map_map, Nat.add_zero, List.cons.injEq, true_and]
  apply List.map_congr_left
  intro i _
  simp only [Function.comp]
  rw [show k + 1 + i = k + (i + 1) by omega]

/-- What is read from the place p on is what is read from k on, with acc ahead. -/
def Seen (n : Nat) (f : Nat → Int) (p k : Nat) (acc : List Int) : Prop :=
  p ≤ k ∧ readE (fromL n f p) = (readE (fromL n f k)).map (fun r => (acc ++ r.1, (k - p) + r.2))
theorem Seen.start (n : Nat) (f : Nat → Int) (p : Nat) : Seen n f p p [] := by
  refine ⟨Nat.le_refl _, ?_⟩
  cases readE (fromL n f p) <;> simp
theorem Seen.past {n : Nat} {f : Nat → Int} {p k : Nat} {acc : List Int} (h : Seen n f p k acc) (hk : n ≤ k + 1) : readE (fromL n f p) = none := by
  rw [h.2]
  by_cases h1 : n ≤ k
  · rw [fromL_end n f k h1]; rfl
  · rw [fromL_step n f k (by omega), fromL_end n f (k + 1) hk]; rfl
theorem Seen.plain {n : Nat} {f : Nat → Int} {p k : Nat} {acc : List Int} (h : Seen n f p k acc) (hk : k + 1 < n) (h0 : f k ≠ 0) : Seen n f p (k + 1) (acc ++ [f k]) := by
  have := h.1
  refine ⟨by omega, ?_⟩
  rw [h.2, fromL_step n f k (by omega), fromL_step n f (k + 1) hk, readE, if_pos h0]
  cases readE (f (k + 1) :: fromL n f (k + 1 + 1)) with
  | none => rfl
  | some r => simp; omega
/-- The last byte alone ends nothing. -/
theorem Seen.last {n : Nat} {f : Nat → Int} {p k : Nat} {acc : List Int} (h : Seen n f p k acc) (hk : k + 1 = n) (acc' : List Int) : Seen n f p (k + 1) acc' := by
  have := h.1
  refine ⟨by omega, ?_⟩
  rw [h.past (by omega), fromL_end n f (k + 1) (by omega)]; rfl
theorem Seen.ends {n : Nat} {f : Nat → Int} {p k : Nat} {acc : List Int} (h : Seen n f p k acc) (hk : k + 1 < n) (h0 : f k = 0) (h1 : f (k + 1) = 1) : readE (fromL n f p) = some (acc, k + 2 - p) := by
  have := h.1
  rw [h.2, fromL_step n f k (by omega), fromL_step n f (k + 1) hk, readE, if_neg (by simp [h0]), if_pos h1]
  simp; omega
theorem Seen.goes {n : Nat} {f : Nat → Int} {p k : Nat} {acc : List Int} (h : Seen n f p k acc) (hk : k + 1 < n) (h0 : f k = 0) (h1 : f (k + 1) = 255) : Seen n f p (k + 2) (acc ++ [0]) := by
  have := h.1
  refine ⟨by omega, ?_⟩
  rw [h.2, fromL_step n f k (by omega), fromL_step n f (k + 1) hk, readE, if_neg (by simp [h0]), if_neg (by omega), if_pos h1]
  cases readE (fromL n f (k + 1 + 1)) with
  | none => rfl
  | some r => simp; omega
theorem Seen.wrong {n : Nat} {f : Nat → Int} {p k : Nat} {acc : List Int} (h : Seen n f p k acc) (hk : k + 1 < n) (h0 : f k = 0) (h1 : f (k + 1) ≠ 1) (h2 : f (k + 1) ≠ 255) : readE (fromL n f p) = none := by
  rw [h.2, fromL_step n f k (by omega), fromL_step n f (k + 1) hk, readE, if_neg (by simp [h0]), if_neg h1, if_neg h2]
  rfl

/-- What is read as a text in order: the text, the place behind, whether it is one. -/
def getE (n : Nat) (f : Nat → Int) (p : Int) : ByteArray × Int × Bool :=
  if p < 0 then (strOfNums [], 0, false) else
  match readE (fromL n f p.toNat) with
  | none => (strOfNums [], 0, false)
  | some r => (strOfNums r.1, p + r.2, true)
theorem getE_neg (n : Nat) (f : Nat → Int) (p : Int) (h : p < 0) : getE n f p = (strOfNums [], 0, false) := by unfold getE; rw [if_pos h]
theorem getE_none {n : Nat} {f : Nat → Int} {p : Nat} (h : readE (fromL n f p) = none) : getE n f (p : Int) = (strOfNums [], 0, false) := by
  unfold getE; rw [if_neg (by omega), Int.toNat_natCast, h]
theorem getE_some {n : Nat} {f : Nat → Int} {p k : Nat} {t : List Int} (h : readE (fromL n f p) = some (t, k)) : getE n f (p : Int) = (strOfNums t, (p : Int) + k, true) := by
  unfold getE; rw [if_neg (by omega), Int.toNat_natCast, h]

end Go.Proofs.Ytikopeihkbpjhac

/-
  Numbers as bytes that keep their order, plainly: a number's bytes, the highest first, and what is read of them.
-/
namespace Go.Proofs.Ytikopeihkbpjhac
open Go.RowKit
set_option maxRecDepth 4000

/-- A number's byte that lies j from its end. -/
def dg (n : Int) (j : Nat) : Int := n / 256 ^ j % 256
theorem dg_bd (n : Int) (j : Nat) : 0 ≤ dg n j ∧ dg n j ≤ 255 := by unfold dg; omega
theorem dg_zero (n : Int) : dg n 0 = n % 256 := by unfold dg; simp
theorem div_pow_succ (n : Int) (j : Nat) : n / 256 ^ j / 256 = n / 256 ^ (j + 1) := by
  rw [Int.pow_succ, Int.ediv_ediv_of_nonneg (Int.le_of_lt (Int.pow_pos (by decide)))]
theorem dg_succ (n : Int) (j : Nat) : dg n (j + 1) = dg (n / 256) j := by
  unfold dg
  rw [Int.pow_succ, Int.mul_comm, ← Int.ediv_ediv_of_nonneg (by decide)]
/-- The last k bytes of a number, the highest first. -/
def be (k : Nat) (n : Int) (i : Nat) : Int := dg n (k - 1 - i)
theorem be_bd (k : Nat) (n : Int) (i : Nat) : 0 ≤ be k n i ∧ be k n i ≤ 255 := dg_bd _ _

/-- What k bytes are as a number. -/
def valF : Nat → (Nat → Int) → Int
  | 0, _ => 0
  | k + 1, f => valF k f * 256 + f k
theorem valF_bd : ∀ (k : Nat) (f : Nat → Int), (∀ i, i < k → 0 ≤ f i ∧ f i ≤ 255) → 0 ≤ valF k f ∧ valF k f < 256 ^ k
  | 0, _, _ => by simp [valF]
  | k + 1, f, h => by
    have ih := valF_bd k f (fun i hi => h i (by omega))
    have := h k (by omega)
    rw [valF, Int.pow_succ]
    omega
theorem valF_congr : ∀ (k : Nat) (f g : Nat → Int), (∀ i, i < k → f i = g i) → valF k f = valF k g
  | 0, _, _, _ => rfl
  | k + 1, f, g, h => by rw [valF, valF, valF_congr k f g (fun i hi => h i (by omega)), h k (by omega)]

theorem mod_split (a m : Int) (hm : 0 < m) : a % (m * 256) = a / 256 % m * 256 + a % 256 := by
  have h1 : a = 256 * (a / 256) + a % 256 := (Int.mul_ediv_add_emod a 256).symm
  have h2 : a / 256 = m * (a / 256 / m) + a / 256 % m := (Int.mul_ediv_add_emod (a / 256) m).symm
  have b1 := Int.emod_nonneg (a / 256) (Int.ne_of_gt hm)
  have b2 := Int.emod_lt_of_pos (a / 256) hm
  generalize a / 256 / m = q at *
  generalize a / 256 % m = t at *
  have e : a = (t * 256 + a % 256) + m * 256 * q := by
    have : m * 256 * q = 256 * (m * q) := by rw [Int.mul_comm m 256, Int.mul_assoc]
    rw [this]
    omega
  conv => lhs; rw [e]
  rw [Int.add_mul_emod_self_left]
  exact Int.emod_eq_of_lt (by omega) (by omega)

theorem valF_be' (k : Nat) (n : Int) : ∀ j, j ≤ k → valF j (be k n) = n / 256 ^ (k - j) % 256 ^ j
  | 0, _ => by simp [valF, Int.emod_one]
  | j + 1, h => by
    have ih := valF_be' k n j (by omega)
    have e : k - j = (k - (j + 1)) + 1 := by omega
    rw [valF, ih, e, ← div_pow_succ, Int.pow_succ, mod_split _ _ (Int.pow_pos (by decide))]
    unfold be dg
    rw [show k - 1 - j = k - (j + 1) by omega]
theorem valF_be (k : Nat) (n : Int) (h0 : 0 ≤ n) (h1 : n < 256 ^ k) : valF k (be k n) = n := by
  rw [valF_be' k n k (Nat.le_refl _), Nat.sub_self]
  simp only [Int.pow_zero, Int.ediv_one]
  exact Int.emod_eq_of_lt h0 h1

/-- What bytes are as a number has these bytes. -/
theorem be_valF : ∀ (k : Nat) (f : Nat → Int), (∀ i, i < k → 0 ≤ f i ∧ f i ≤ 255) → ∀ i, i < k → be k (valF k f) i = f i
  | 0, _, _, i, hi => absurd hi (Nat.not_lt_zero _)
  | k + 1, f, h, i, hi => by
    have hk := h k (by omega)
    unfold be
    by_cases e : i = k
    · subst e
      rw [show i + 1 - 1 - i = 0 by omega, dg_zero, valF]
      omega
    · have ih := be_valF k f (fun j hj => h j (by omega)) i (by omega)
      rw [show k + 1 - 1 - i = (k - 1 - i) + 1 by omega, dg_succ, valF]
      rw [show (valF k f * 256 + f k) / 256 = valF k f by omega]
      exact ih

/-- How many bytes a number has (0 of 0). -/
def cnt (n : Int) : Nat :=
  if n < 1 then 0 else if n < 256 then 1 else if n < 65536 then 2 else if n < 16777216 then 3 else if n < 4294967296 then 4 else if n < 1099511627776 then 5 else if n < 281474976710656 then 6 else 7
theorem cnt_le (n : Int) : cnt n ≤ 7 := by
  unfold cnt
  repeat (first | omega | split)
theorem cnt_lt (n : Int) (h1 : n < 72057594037927936) : n < 256 ^ cnt n := by
  unfold cnt
  repeat (first | (simp only [Int.reducePow, Int.pow_zero]; omega) | split)
theorem cnt_ge (n : Int) (h : 0 < cnt n) : 256 ^ (cnt n - 1) ≤ n := by
  unfold cnt at h ⊢
  split
  · rename_i h1; rw [if_pos h1] at h; omega
  · repeat (first | (simp only [Nat.reduceSub, Int.pow_zero, Nat.sub_self, Int.pow_succ]; omega) | split)
theorem cnt_pos (n : Int) : 0 < cnt n ↔ 0 < n := by
  unfold cnt
  split
  · omega
  · constructor
    · intro _; omega
    · intro _; repeat (first | omega | split)
theorem pow_mono {a b : Nat} (h : a ≤ b) : (256 : Int) ^ a ≤ 256 ^ b := by
  have h1 : 256 ^ a ≤ 256 ^ b := Nat.pow_le_pow_right (by decide) h
  have e1 : ((256 ^ a : Nat) : Int) = 256 ^ a := by simp
  have e2 : ((256 ^ b : Nat) : Int) = 256 ^ b := by simp
  rw [← e1, ← e2]
  exact Int.ofNat_le.2 h1
theorem cnt_is (n : Int) (k : Nat) (hk : k ≤ 7) (h1 : n < 256 ^ k) (h2 : 0 < k → 256 ^ (k - 1) ≤ n) : cnt n = k := by
  have hc := cnt_lt n (by
    have : (256 : Int) ^ k ≤ 256 ^ 7 := pow_mono hk
    have e : (256 : Int) ^ 7 = 72057594037927936 := by decide
    omega)
  rcases Nat.lt_trichotomy (cnt n) k with h | h | h
  · have := h2 (by omega)
    have e : (256 : Int) ^ cnt n ≤ 256 ^ (k - 1) := pow_mono (by omega)
    omega
  · exact h
  · have := cnt_ge n (by omega)
    have e : (256 : Int) ^ k ≤ 256 ^ (cnt n - 1) := pow_mono (by omega)
    omega

theorem lof_cons (k : Nat) (f : Nat → Int) : lof (1 + k) f = f 0 :: lof k (fun i => f (i + 1)) := by
  unfold lof
  rw [Nat.add_comm, List.range_succ_eq_map, List.map_cons, List.map_map]
  rfl
/-- The nearest number that four bytes have. -/
def clampF (x : Int) : Int := if x < -2147483648 then -2147483648 else if 2147483647 < x then 2147483647 else x
theorem clampF_bd (x : Int) : -2147483648 ≤ clampF x ∧ clampF x ≤ 2147483647 := by unfold clampF; split <;> (try split) <;> omega
/-- The nearest number that is kept. -/
def clampV (x : Int) : Int := if x < -1000000000000000 then -1000000000000000 else if 1000000000000000 < x then 1000000000000000 else x
theorem clampV_bd (x : Int) : -1000000000000000 ≤ clampV x ∧ clampV x ≤ 1000000000000000 := by unfold clampV; split <;> (try split) <;> omega

/-- The four bytes of a number. -/
def fixL (x : Int) : List Int := lof 4 (be 4 (clampF x + 2147483648))
theorem fixL_len (x : Int) : (fixL x).length = 4 := lof_len _ _
theorem getD_in {l : List Int} {i : Nat} (h : i < l.length) : l.getD i 0 ∈ l := by
  rw [List.getD_eq_getElem?_getD, List.getElem?_eq_getElem h]
  exact List.getElem_mem h
theorem lof_byte {k : Nat} {f : Nat → Int} (h : ∀ i, i < k → 0 ≤ f i ∧ f i ≤ 255) : ∀ y ∈ lof k f, 0 ≤ y ∧ y ≤ 255 := by
  intro y hy
  simp only [lof, List.mem_map, List.mem_range] at hy
  obtain ⟨j, hj, rfl⟩ := hy
  exact h j hj
theorem fixL_byte (x : Int) : ∀ y ∈ fixL x, 0 ≤ y ∧ y ≤ 255 := lof_byte (fun i _ => be_bd _ _ i)

/-- A number without its sign: what its bytes are of. -/
def sizeV (x : Int) : Int := if x < 0 then -1 - x else x
theorem sizeV_bd (x : Int) (h : -1000000000000000 ≤ x ∧ x ≤ 1000000000000000) : 0 ≤ sizeV x ∧ sizeV x ≤ 1000000000000000 := by unfold sizeV; split <;> omega
/-- Its first byte. -/
def headV (x : Int) : Int := if x < 0 then 127 - (cnt (sizeV x) : Int) else 128 + (cnt (sizeV x) : Int)
/-- Those behind it. -/
def tailV (x : Int) (i : Nat) : Int := if x < 0 then 255 - be (cnt (sizeV x)) (sizeV x) i else be (cnt (sizeV x)) (sizeV x) i
/-- A kept number's bytes. -/
def keptL (x : Int) : List Int := headV x :: lof (cnt (sizeV x)) (tailV x)
def varL (x : Int) : List Int := keptL (clampV x)
theorem keptL_len (x : Int) : (keptL x).length = cnt (sizeV x) + 1 := by simp [keptL, lof_len]
theorem headV_bd (x : Int) : 0 ≤ headV x ∧ headV x ≤ 255 := by
  have := cnt_le (sizeV x)
  unfold headV
  split <;> omega
theorem tailV_bd (x : Int) (i : Nat) : 0 ≤ tailV x i ∧ tailV x i ≤ 255 := by
  have := be_bd (cnt (sizeV x)) (sizeV x) i
  unfold tailV
  split <;> omega
theorem keptL_byte (x : Int) : ∀ y ∈ keptL x, 0 ≤ y ∧ y ≤ 255 := by
  intro y hy
  rcases List.mem_cons.1 hy with rfl | hy
  · exact headV_bd x
  · exact lof_byte (fun i _ => tailV_bd x i) y hy
theorem varL_len (x : Int) : 1 ≤ (varL x).length ∧ (varL x).length ≤ 8 := by
  have := cnt_le (sizeV (clampV x))
  unfold varL
  rw [keptL_len]
  omega
theorem varL_byte (x : Int) : ∀ y ∈ varL x, 0 ≤ y ∧ y ≤ 255 := keptL_byte _
end Go.Proofs.Ytikopeihkbpjhac

/-
  What is read of bytes as a number of the kept ones, plainly.
-/
namespace Go.Proofs.Ytikopeihkbpjhac
open Go.RowKit
set_option maxRecDepth 4000

/-- The byte as it is, or turned. -/
def turnF (t : Bool) (f : Nat → Int) (i : Nat) : Int := if t then 255 - f i else f i
theorem turnF_bd (t : Bool) {k : Nat} {f : Nat → Int} (h : ∀ i, i < k → 0 ≤ f i ∧ f i ≤ 255) : ∀ i, i < k → 0 ≤ turnF t f i ∧ turnF t f i ≤ 255 := by
  intro i hi
  have := h i hi
  unfold turnF
  split <;> omega

/-- How many bytes a head says. -/
def hcnt (h : Int) : Nat := (if h < 128 then 127 - h else h - 128).toNat
/-- The digits behind the head at i. -/
def digF (f : Nat → Int) (i : Nat) : Nat → Int := turnF (decide (f i < 128)) (fun j => f (i + 1 + j))
/-- The number that head and digits say. -/
def numV (f : Nat → Int) (i : Nat) : Int := if f i < 128 then -1 - valF (hcnt (f i)) (digF f i) else valF (hcnt (f i)) (digF f i)
/-- What is there whole, and is not to be read. -/
def badV (f : Nat → Int) (i : Nat) : Prop := (0 < hcnt (f i) ∧ digF f i 0 = 0) ∨ numV f i < -1000000000000000 ∨ 1000000000000000 < numV f i
instance (f : Nat → Int) (i : Nat) : Decidable (badV f i) := by unfold badV; infer_instance

def getV (n : Nat) (f : Nat → Int) (p : Int) : Int × Int × Bool :=
  if p < 0 ∨ (n : Int) ≤ p then (0, 0, false)
  else if 7 < hcnt (f p.toNat) ∨ n < p.toNat + 1 + hcnt (f p.toNat) then (0, 0, false)
  else if badV f p.toNat then (0, 0, false)
  else (numV f p.toNat, p + 1 + (hcnt (f p.toNat) : Int), true)
theorem getV_out (n : Nat) (f : Nat → Int) (p : Int) (h : p < 0 ∨ (n : Int) ≤ p) : getV n f p = (0, 0, false) := by unfold getV; rw [if_pos h]
theorem getV_few (n : Nat) (f : Nat → Int) (i : Nat) (h : i < n) (h1 : 7 < hcnt (f i) ∨ n < i + 1 + hcnt (f i)) : getV n f (i : Int) = (0, 0, false) := by
  unfold getV; rw [if_neg (by omega), Int.toNat_natCast, if_pos h1]
theorem getV_bad (n : Nat) (f : Nat → Int) (i : Nat) (h : i < n) (h1 : ¬ (7 < hcnt (f i) ∨ n < i + 1 + hcnt (f i))) (h2 : badV f i) : getV n f (i : Int) = (0, 0, false) := by
  unfold getV; rw [if_neg (by omega), Int.toNat_natCast, if_neg h1, if_pos h2]
theorem getV_is (n : Nat) (f : Nat → Int) (i : Nat) (h : i < n) (h1 : ¬ (7 < hcnt (f i) ∨ n < i + 1 + hcnt (f i))) (h2 : ¬ badV f i) : getV n f (i : Int) = (numV f i, (i : Int) + 1 + (hcnt (f i) : Int), true) := by
  unfold getV; rw [if_neg (by omega), Int.toNat_natCast, if_neg h1, if_neg h2]

theorem valF7 (k : Nat) (f : Nat → Int) (hk : k ≤ 7) (h : ∀ i, i < k → 0 ≤ f i ∧ f i ≤ 255) : 0 ≤ valF k f ∧ valF k f < 72057594037927936 := by
  have h1 := valF_bd k f h
  have h2 : (256 : Int) ^ k ≤ 256 ^ 7 := pow_mono hk
  have e : (256 : Int) ^ 7 = 72057594037927936 := by decide
  omega

/-- The first byte says whether a number has as many bytes. -/
theorem valF_first : ∀ (k : Nat) (f : Nat → Int), (∀ i, i < k + 1 → 0 ≤ f i ∧ f i ≤ 255) → (256 ^ k ≤ valF (k + 1) f ↔ f 0 ≠ 0)
  | 0, f, h => by
    have := h 0 (by omega)
    simp only [valF, Int.pow_zero]
    omega
  | k + 1, f, h => by
    have ih := valF_first k f (fun i hi => h i (by omega))
    have := h (k + 1) (by omega)
    rw [← ih]
    show 256 ^ (k + 1) ≤ valF (k + 1) f * 256 + f (k + 1) ↔ _
    rw [Int.pow_succ]
    omega
theorem cnt_valF (c : Nat) (f : Nat → Int) (hc : c ≤ 7) (h : ∀ i, i < c → 0 ≤ f i ∧ f i ≤ 255) : cnt (valF c f) = c ↔ ¬ (0 < c ∧ f 0 = 0) := by
  have hb := valF_bd c f h
  constructor
  · rintro e ⟨h0, hf⟩
    obtain ⟨k, rfl⟩ : ∃ k, c = k + 1 := ⟨c - 1, by omega⟩
    have h1 := cnt_ge (valF (k + 1) f) (by omega)
    rw [e] at h1
    exact ((valF_first k f h).1 h1) hf
  · intro hn
    refine cnt_is _ c hc hb.2 (fun h0 => ?_)
    obtain ⟨k, rfl⟩ : ∃ k, c = k + 1 := ⟨c - 1, by omega⟩
    exact (valF_first k f h).2 (fun e => hn ⟨by omega, e⟩)
end Go.Proofs.Ytikopeihkbpjhac

/-
  Four bytes as a number, plainly.
-/
namespace Go.Proofs.Ytikopeihkbpjhac
open Go.RowKit
set_option maxRecDepth 4000

def getF (n : Nat) (f : Nat → Int) (p : Int) : Int × Int × Bool := if p < 0 ∨ (n : Int) - p < 4 then (0, 0, false) else (valF 4 (fun i => f (p.toNat + i)) - 2147483648, p + 4, true)
theorem getF_no (n : Nat) (f : Nat → Int) (p : Int) (h : p < 0 ∨ (n : Int) - p < 4) : getF n f p = (0, 0, false) := by unfold getF; rw [if_pos h]
theorem getF_is (n : Nat) (f : Nat → Int) (p : Nat) (h : p + 4 ≤ n) : getF n f (p : Int) = (valF 4 (fun i => f (p + i)) - 2147483648, (p : Int) + 4, true) := by
  unfold getF; rw [if_neg (by omega), Int.toNat_natCast]
theorem valF4_bd (f : Nat → Int) (h : ∀ i, i < 4 → 0 ≤ f i ∧ f i ≤ 255) : 0 ≤ valF 4 f ∧ valF 4 f ≤ 4294967295 := by
  have h1 := valF_bd 4 f h
  have e : (256 : Int) ^ 4 = 4294967296 := by decide
  omega
end Go.Proofs.Ytikopeihkbpjhac

/-
  One value in a key, plainly: which parts are right, what fits, its bytes, and what is read of bytes.
-/
namespace Go.Proofs.Ytikopeihkbpjhac
open Go.RowKit
set_option maxRecDepth 4000

def partOk (c t : Int) : Bool := decide (0 ≤ c) && decide (c ≤ 9) && (decide (1 ≤ t) && decide (t ≤ 4))
def fitsP (t : Int) (nul : Bool) (k n : Int) (s : ByteArray) : Bool := okF k n s && ((decide (k = t) && decide (k ≠ 0)) || (decide (k = 0) && nul))

/-- The bytes of a value that is there. -/
def valL (k n : Int) (s : ByteArray) : List Int := if k = 1 then fixL n else if k = 2 then varL n else if k = 3 then escL (sl s) ++ [0, 1] else [n % 256]
/-- The bytes of a value that fits. -/
def partL (nul : Bool) (k n : Int) (s : ByteArray) : List Int := if k = 0 then [0] else if nul then 1 :: valL k n s else valL k n s
def turnL (d : Bool) (l : List Int) : List Int := if d then l.map (fun y => 255 - y) else l
/-- What is put. -/
def putPL (c t : Int) (nul d : Bool) (k n : Int) (s : ByteArray) : List Int := if partOk c t && fitsP t nul k n s then turnL d (partL nul k n s) else []

/-- A value, a place and whether there is one. -/
structure Got where
  k : Int
  n : Int
  s : ByteArray
  q : Int
  ok : Bool
def Got.no : Got := ⟨0, 0, noBytes, 0, false⟩
def Got.chk (g : Got) : Got := if g.ok && okF g.k g.n g.s then g else .no

/-- A value of a type, as it is read. -/
def rawT (n : Nat) (f : Nat → Int) (t : Int) (p : Int) : Got :=
  if t = 1 then ⟨1, (getF n f p).1, noBytes, (getF n f p).2.1, (getF n f p).2.2⟩
  else if t = 2 then ⟨2, (getV n f p).1, noBytes, (getV n f p).2.1, (getV n f p).2.2⟩
  else if t = 3 then ⟨3, 0, (getE n f p).1, (getE n f p).2.1, (getE n f p).2.2⟩
  else if 0 ≤ p ∧ p < n then ⟨t, f p.toNat, noBytes, p + 1, true⟩ else ⟨t, 0, noBytes, 0, false⟩
def getT (n : Nat) (f : Nat → Int) (t : Int) (p : Int) : Got := (rawT n f t p).chk
/-- Behind a byte of 0 or 1, where it may be nothing. -/
def getN (n : Nat) (f : Nat → Int) (nul : Bool) (t : Int) (p : Int) : Got :=
  if nul then (if p = n ∨ 1 < f p.toNat then .no else if f p.toNat = 0 then ⟨0, 0, noBytes, p + 1, true⟩ else getT n f t (p + 1)) else getT n f t p
def turned (d : Bool) (f : Nat → Int) : Nat → Int := if d then fun i => 255 - f i else f
def getP (n : Nat) (f : Nat → Int) (c t : Int) (nul d : Bool) (p : Int) : Got :=
  if partOk c t = false ∨ p < 0 ∨ (n : Int) < p then .no else getN n (turned d f) nul t p

theorem okF_few {k n : Int} {s : ByteArray} (h : okF k n s = true) : s.size ≤ 30 := by
  obtain ⟨v, hr, rfl, rfl, rfl⟩ := okF_iff.1 h
  cases v with
  | text s => simpa [V.rng, V.s] using hr
  | _ => exact Nat.zero_le _
theorem valL_byte (k n : Int) (s : ByteArray) : ∀ y ∈ valL k n s, 0 ≤ y ∧ y ≤ 255 := by
  intro y hy
  unfold valL at hy
  split at hy
  · exact fixL_byte n y hy
  · split at hy
    · exact varL_byte n y hy
    · split at hy
      · rcases List.mem_append.1 hy with hy | hy
        · exact escL_byte _ (sl_byte s) y hy
        · simp at hy; omega
      · simp at hy; omega
theorem partL_byte (nul : Bool) (k n : Int) (s : ByteArray) : ∀ y ∈ partL nul k n s, 0 ≤ y ∧ y ≤ 255 := by
  intro y hy
  unfold partL at hy
  split at hy
  · simp at hy; omega
  · split at hy
    · rcases List.mem_cons.1 hy with rfl | hy
      · omega
      · exact valL_byte k n s y hy
    · exact valL_byte k n s y hy
theorem turnL_byte (d : Bool) (l : List Int) (h : ∀ y ∈ l, 0 ≤ y ∧ y ≤ 255) : ∀ y ∈ turnL d l, 0 ≤ y ∧ y ≤ 255 := by
  intro y hy
  unfold turnL at hy
  split at hy
  · obtain ⟨z, hz, rfl⟩ := List.mem_map.1 hy
    have := h z hz
    omega
  · exact h y hy
theorem turnL_len (d : Bool) (l : List Int) : (turnL d l).length = l.length := by unfold turnL; split <;> simp
theorem putPL_byte (c t : Int) (nul d : Bool) (k n : Int) (s : ByteArray) : ∀ y ∈ putPL c t nul d k n s, 0 ≤ y ∧ y ≤ 255 := by
  intro y hy
  unfold putPL at hy
  split at hy
  · exact turnL_byte d _ (partL_byte nul k n s) y hy
  · cases hy
theorem valL_len (k n : Int) (s : ByteArray) : 1 ≤ (valL k n s).length ∧ (valL k n s).length ≤ 2 * s.size + 8 := by
  unfold valL
  split
  · rw [fixL_len]; omega
  · split
    · have := varL_len n; omega
    · split
      · have := (escL_len (sl s)).2
        rw [sl_len] at this
        rw [List.length_append]
        simp
        omega
      · simp
theorem partL_len (nul : Bool) (k n : Int) (s : ByteArray) : 1 ≤ (partL nul k n s).length ∧ (partL nul k n s).length ≤ 2 * s.size + 9 := by
  have := valL_len k n s
  unfold partL
  split
  · simp
  · split
    · rw [List.length_cons]; omega
    · omega
theorem putPL_len (c t : Int) (nul d : Bool) (k n : Int) (s : ByteArray) : (putPL c t nul d k n s).length ≤ 2 * s.size + 9 := by
  have := partL_len nul k n s
  unfold putPL
  split
  · rw [turnL_len]; omega
  · simp
end Go.Proofs.Ytikopeihkbpjhac

/-
  The model's soundness of a value comes to the plain one.
-/
namespace Go.Proofs.Ytikopeihkbpjhac
open Go.RowKit
set_option maxRecDepth 4000

/-- What the model asks, kind by kind. -/
theorem okF_spec0 (n : Int) (s : ByteArray) : okF 0 n s = (decide (n = 0) && decide (s = noBytes)) := by
  simp [okF, ofFields, V.rng, V.k, V.n, V.s, eq_comm]
theorem okF_spec1 (n : Int) (s : ByteArray) : okF 1 n s = (decide (-2147483648 ≤ n) && decide (n ≤ 2147483647) && decide (s = noBytes)) := by
  simp [okF, ofFields, V.rng, V.k, V.n, V.s, eq_comm]
theorem okF_spec2 (n : Int) (s : ByteArray) : okF 2 n s = (decide (-1000000000000000 ≤ n) && decide (n ≤ 1000000000000000) && decide (s = noBytes)) := by
  simp [okF, ofFields, V.rng, V.k, V.n, V.s, eq_comm]
theorem okF_spec3 (n : Int) (s : ByteArray) : okF 3 n s = (decide (s.size ≤ 30) && decide (n = 0)) := by
  simp [okF, ofFields, V.rng, V.k, V.n, V.s, eq_comm]
theorem okF_spec4 (n : Int) (s : ByteArray) : okF 4 n s = (decide (0 ≤ n) && decide (n ≤ 1) && decide (s = noBytes)) := by
  by_cases h0 : n = 0
  · subst h0; simp [okF, ofFields, V.rng, V.k, V.n, V.s, eq_comm]
  · by_cases h1 : n = 1
    · subst h1; simp [okF, ofFields, V.rng, V.k, V.n, V.s, eq_comm]
    · have e : (decide (0 ≤ n) && decide (n ≤ 1)) = false := by simp; omega
      rw [e]
      simp [okF, ofFields, V.rng, V.k, V.n, V.s, h0]
      intro h; omega
theorem okF_specX {k : Int} (n : Int) (s : ByteArray) (h0 : k ≠ 0) (h1 : k ≠ 1) (h2 : k ≠ 2) (h3 : k ≠ 3) (h4 : k ≠ 4) : okF k n s = false := by
  simp [okF, ofFields, h0, h1, h2, h3, h4]

theorem isE (s : ByteArray) : s.toList.isEmpty = decide (s = noBytes) := by
  rw [ByteArray.toList_eq]
  obtain ⟨⟨l⟩⟩ := s
  cases l with
  | nil => simp [noBytes]
  | cons c r => simp [noBytes]

set_option maxHeartbeats 1000000 in
theorem specValOk_any (k n : Int) (s : ByteArray) (w : World) (hs : s.size ≤ 281474976710656) :
    Calls Try.prog 59 #[valAgg k n s] w fun e w' => e = .returned (.bool (okF k n s)) ∧ Below w.heap.size w w' := by
  unfold valAgg
  by_cases k0 : k = 0
  · subst k0
    rw [okF_spec0]
    go_enter Try.func59, Try.ntmps59
    go_wp2
    all_goals
      go_ret
      refine ⟨congrArg (fun b => Ending.returned (.bool b)) ?_, (Below.refl _ _).alloc (Nat.le_refl _) _⟩
      first | rfl | (simp [isE, *] <;> omega) | (simp_all [isE] <;> omega)
  by_cases k1 : k = 1
  · subst k1
    rw [okF_spec1]
    go_enter Try.func59, Try.ntmps59
    go_wp2
    all_goals
      go_ret
      refine ⟨congrArg (fun b => Ending.returned (.bool b)) ?_, (Below.refl _ _).alloc (Nat.le_refl _) _⟩
      first | rfl | (simp [isE, *] <;> omega) | (simp_all [isE] <;> omega)
  by_cases k2 : k = 2
  · subst k2
    rw [okF_spec2]
    go_enter Try.func59, Try.ntmps59
    go_wp2
    all_goals
      go_ret
      refine ⟨congrArg (fun b => Ending.returned (.bool b)) ?_, (Below.refl _ _).alloc (Nat.le_refl _) _⟩
      first | rfl | (simp [isE, *] <;> omega) | (simp_all [isE] <;> omega)
  by_cases k3 : k = 3
  · subst k3
    rw [okF_spec3]
    go_enter Try.func59, Try.ntmps59
    go_wp2
    all_goals
      go_ret
      refine ⟨congrArg (fun b => Ending.returned (.bool b)) ?_, (Below.refl _ _).alloc (Nat.le_refl _) _⟩
      (rw [Bool.eq_iff_iff]; simp; omega)
  by_cases k4 : k = 4
  · subst k4
    rw [okF_spec4]
    go_enter Try.func59, Try.ntmps59
    go_wp2
    all_goals
      go_ret
      refine ⟨congrArg (fun b => Ending.returned (.bool b)) ?_, (Below.refl _ _).alloc (Nat.le_refl _) _⟩
      first | rfl | (simp [isE, *] <;> omega) | (simp_all [isE] <;> omega)
  rw [okF_specX n s k0 k1 k2 k3 k4]
  have q0 : (k == 0) = false := by simpa using k0
  have q1 : (k == 1) = false := by simpa using k1
  have q2 : (k == 2) = false := by simpa using k2
  have q3 : (k == 3) = false := by simpa using k3
  have q4 : (k == 4) = false := by simpa using k4
  clear k0 k1 k2 k3 k4
  go_enter Try.func59, Try.ntmps59
  go_wp2
  go_ret
  exact ⟨rfl, (Below.refl _ _).alloc (Nat.le_refl _) _⟩
end Go.Proofs.Ytikopeihkbpjhac

/-
  The draws of values of a type once more: what is drawn fits.
-/
namespace Go.Proofs.Ytikopeihkbpjhac
open Go.RowKit
set_option maxRecDepth 4000

theorem fits_int (nul : Bool) {x : Int} (h : -2147483648 ≤ x ∧ x ≤ 2147483647) : fitsP 1 nul 1 x ⟨#[]⟩ = true := by
  unfold fitsP; rw [okF_spec1]; simp [h, noBytes]
theorem fits_num (nul : Bool) {x : Int} (h : -1000000000000000 ≤ x ∧ x ≤ 1000000000000000) : fitsP 2 nul 2 x ⟨#[]⟩ = true := by
  unfold fitsP; rw [okF_spec2]; simp [h, noBytes]
theorem fits_text (nul : Bool) {s : ByteArray} (h : s.size ≤ 30) : fitsP 3 nul 3 0 s = true := by
  unfold fitsP; rw [okF_spec3]; simp [h]
theorem fits_bool (nul : Bool) {x : Int} (h : 0 ≤ x ∧ x < 2) : fitsP 4 nul 4 x ⟨#[]⟩ = true := by
  unfold fitsP; rw [okF_spec4]; simp [noBytes]; omega
theorem fits_null (t : Int) : fitsP t true 0 0 ⟨#[]⟩ = true := by
  unfold fitsP; rw [okF_spec0]; simp [noBytes]

theorem l1Int_mem (g : Nat) (ao : Option Addr) (n cap : Nat) (f : Nat → Int) (l : List Int) (A : Nat) (w : World) (hA : A = w.heap.size) (hn : n ≤ 1048576) (h0 : 0 < l.length) (h1 : l.length ≤ 1000) (_hl : ∀ y ∈ l, I64 y) (hC : Cur w g ao n cap f) :
    Calls Try.prog 91 #[.pointer (some ⟨g, 0, none⟩), .slice (some ⟨A, 0, none⟩) l.length l.length] (w.alloc (.cells (l.map (Value.int .i64)).toArray 3)) fun e w' => ∃ x : Int, e = .returned (.int .i64 x) ∧ x ∈ l ∧ Cur w' g ao n cap f ∧ But g w w' := by
  subst hA
  have hb : Below w.heap.size w (w.alloc (.cells (l.map (Value.int .i64)).toArray 3)) := (Below.refl _ _).alloc (Nat.le_refl _) _
  have hg := hC.lt
  refine (l1Int_any g ao n cap f w.heap.size l.length (fun i => l.getD i 0) _ hn h0 (by omega) (newInts w l 3) (by omega) (hC.below hb)).mono ?_
  rintro e w' ⟨j, hj, rfl, hC2, hO2⟩
  exact ⟨_, rfl, getD_mem hj, hC2, (But.ofBelow hb).trans (But.ofOnly hO2)⟩

set_option maxHeartbeats 2000000 in
theorem l2Of_fit (g : Nat) (ao : Option Addr) (n cap : Nat) (f : Nat → Int) (t : Int) (w : World) (hn : n ≤ 1048576) (ht0 : 1 ≤ t) (ht1 : t ≤ 4) (hC : Cur w g ao n cap f) :
    Calls Try.prog 94 #[.pointer (some ⟨g, 0, none⟩), .int .i64 t, .bool true] w fun e w' => ∃ (k m : Int) (s : ByteArray), e = .returned (.agg #[.int .i64 k, .int .i64 m, .string s]) ∧ DrewV w g ao n cap f k m s w' ∧ fitsP t true k m s = true := by
  have hg := hC.lt
  have HC : Hid (∀ a, ao = some a → 0 < n → a.block < w.heap.size) := hC.code
  have hb0 : Below w.heap.size w (w.alloc (.cells #[.int .i64 0, .int .i64 0, .string ⟨#[]⟩] 29)) := (Below.refl _ _).alloc (Nat.le_refl _) _
  have hR0 := Box.new w 0 0 ⟨#[]⟩
  have hC0 := hC.below hb0
  have hB0 : But g w (w.alloc (.cells #[.int .i64 0, .int .i64 0, .string ⟨#[]⟩] 29)) := But.ofBelow hb0
  clear hb0 hC
  go_enter Try.func94, Try.ntmps94
  go_wp2_with fail
  refine (l1Once_any g ao n cap f 4 _ hn (by omega) (by omega) hC0).mono ?_
  rintro e w1 ⟨b, rfl, hC1, hO1⟩
  have hB1 := hB0.trans (But.ofOnly hO1)
  have hR1 := hR0.but (But.ofOnly hO1) (by omega)
  clear hC0 hO1 hR0 hB0
  cases b with
  | true =>
    obtain ⟨c0, c1, c2⟩ := hR1.cells
    obtain ⟨f0, f1, f2⟩ := hR1.frozen
    have hgs := stored3 (.int .i64 0) (.int .i64 0) (.string ⟨#[]⟩) c0 c1 c2
    have HD : Hid (DrewV w g ao n cap f 0 0 ⟨#[]⟩ _) := DrewV.put (by unfold I64; omega) (by unfold I64; omega) (by decide) hC1 hB1 hg HC.out
    clear hC1 hB1 hR1
    go_wp2
    exact bodyPost_ret (v := .agg #[_, _, _]) (by simp [results, Try.results94, go_sem, hgs]) rfl ⟨0, 0, ⟨#[]⟩, rfl, HD.out, fits_null t⟩
  | false =>
    have hlt1 : w.heap.size < w1.heap.size := hR1.lt
    have hb2 : Below w1.heap.size w1 (w1.alloc (.cells #[.int .i64 t, .int .i64 0, .string ⟨#[]⟩] 29)) := (Below.refl _ _).alloc (Nat.le_refl _) _
    have hV2 := Box.new w1 t 0 ⟨#[]⟩
    have hR2 := hR1.below hb2
    have hC2 := hC1.below hb2
    have hB2 := hB1.trans (But.ofBelow (g := g) hb2)
    clear hb2 hC1 hB1 hR1
    obtain rfl | rfl | rfl | rfl : t = 1 ∨ t = 2 ∨ t = 3 ∨ t = 4 := by omega
    · have HL : Hid (∀ u ∈ [0, 1, 2, 3, -1, 255, 256, 2147483647, -2147483648], I64 u) := by
        intro u hu
        simp only [List.mem_cons, List.not_mem_nil, or_false] at hu
        unfold I64
        omega
      go_wp2_with fail
      refine (l1Int_mem g ao n cap f [0, 1, 2, 3, -1, 255, 256, 2147483647, -2147483648] (w1.heap.size + 1) (w1.alloc (.cells #[.int .i64 1, .int .i64 0, .string ⟨#[]⟩] 29)) (by simp) hn (by simp) (by simp) HL.out hC2).mono ?_
      rintro e w3 ⟨x, rfl, hx, hC3, hB3⟩
      have HX : Hid (I64 x) := HL.out x hx
      have HF : Hid (fitsP 1 true 1 x ⟨#[]⟩ = true) := by
        simp only [List.mem_cons, List.not_mem_nil, or_false] at hx
        exact fits_int true (by omega)
      clear HL hx
      have hV3 := hV2.but hB3 (by omega)
      have hR3 := hR2.but hB3 (by omega)
      have hB4 := hB2.trans hB3
      obtain ⟨c0, c1, c2⟩ := hV3.cells
      obtain ⟨f0, f1, f2⟩ := hV3.frozen
      have hR4 := hR3.other (D := w1.heap.size) (i := 1) (by omega) (.int .i64 x)
      obtain ⟨d0, d1, d2⟩ := hR4.cells
      obtain ⟨r0, r1, r2⟩ := hR3.frozen
      obtain ⟨p0, p1, p2⟩ := hR3.cells
      have hgs := stored3 (.int .i64 1) (.int .i64 x) (.string ⟨#[]⟩) d0 d1 d2
      have HD : Hid (DrewV w g ao n cap f 1 x ⟨#[]⟩ _) := DrewV.put (by unfold I64; omega) HX.out (by decide) (hC3.setNew (B := w1.heap.size) (i := 1) (.int .i64 x) (by omega) (fun a ha h0 => by have := HC.out a ha h0; omega)) (hB4.setNew (Nat.le_of_lt hlt1) _) hg HC.out
      clear hC3 hB3 hB4 hB2 hC2 hV2 hR2 hV3 hR3 hR4
      go_wp2
      exact bodyPost_ret (v := .agg #[_, _, _]) (by simp [results, Try.results94, go_sem, hgs]) rfl ⟨1, x, ⟨#[]⟩, rfl, HD.out, HF.out⟩
    · go_wp2_with fail
      refine (l1Below_any g ao n cap f 100000 (w1.alloc (.cells #[.int .i64 2, .int .i64 0, .string ⟨#[]⟩] 29)) hn (by omega) (by omega) hC2).mono ?_
      rintro e w2 ⟨y, rfl, hy0, hy1, hCy, hOy⟩
      have HL : Hid (∀ u ∈ [0, 1, -1, 255, 256, -256, -257, 65535, 1000000000000000, -1000000000000000, -y], I64 u) := by
        intro u hu
        simp only [List.mem_cons, List.not_mem_nil, or_false] at hu
        unfold I64
        omega
      have hBy : But g _ w2 := But.ofOnly hOy
      clear hOy
      go_wp2_with fail
      refine (l1Int_mem g ao n cap f [0, 1, -1, 255, 256, -256, -257, 65535, 1000000000000000, -1000000000000000, -y] w2.heap.size w2 rfl hn (by simp) (by simp) HL.out hCy).mono ?_
      rintro e w3 ⟨x, rfl, hx, hC3, hB3⟩
      have HX : Hid (I64 x) := HL.out x hx
      have HF : Hid (fitsP 2 true 2 x ⟨#[]⟩ = true) := by
        simp only [List.mem_cons, List.not_mem_nil, or_false] at hx
        exact fits_num true (by omega)
      replace hB3 := hBy.trans hB3
      clear HL hx hBy hCy
      have hV3 := hV2.but hB3 (by omega)
      have hR3 := hR2.but hB3 (by omega)
      have hB4 := hB2.trans hB3
      obtain ⟨c0, c1, c2⟩ := hV3.cells
      obtain ⟨f0, f1, f2⟩ := hV3.frozen
      have hR4 := hR3.other (D := w1.heap.size) (i := 1) (by omega) (.int .i64 x)
      obtain ⟨d0, d1, d2⟩ := hR4.cells
      obtain ⟨r0, r1, r2⟩ := hR3.frozen
      obtain ⟨p0, p1, p2⟩ := hR3.cells
      have hgs := stored3 (.int .i64 2) (.int .i64 x) (.string ⟨#[]⟩) d0 d1 d2
      have HD : Hid (DrewV w g ao n cap f 2 x ⟨#[]⟩ _) := DrewV.put (by unfold I64; omega) HX.out (by decide) (hC3.setNew (B := w1.heap.size) (i := 1) (.int .i64 x) (by omega) (fun a ha h0 => by have := HC.out a ha h0; omega)) (hB4.setNew (Nat.le_of_lt hlt1) _) hg HC.out
      clear hC3 hB3 hB4 hB2 hC2 hV2 hR2 hV3 hR3 hR4
      go_wp2
      exact bodyPost_ret (v := .agg #[_, _, _]) (by simp [results, Try.results94, go_sem, hgs]) rfl ⟨2, x, ⟨#[]⟩, rfl, HD.out, HF.out⟩
    · go_wp2_with fail
      refine (l2Text_any g ao n cap f (w1.alloc (.cells #[.int .i64 3, .int .i64 0, .string ⟨#[]⟩] 29)) hn hC2).mono ?_
      rintro e w3 ⟨s, rfl, hs, hC3, hB3⟩
      have hV3 := hV2.but hB3 (by omega)
      have hR3 := hR2.but hB3 (by omega)
      have hB4 := hB2.trans hB3
      obtain ⟨c0, c1, c2⟩ := hV3.cells
      obtain ⟨f0, f1, f2⟩ := hV3.frozen
      have hR4 := hR3.other (D := w1.heap.size) (i := 2) (by omega) (.string s)
      obtain ⟨d0, d1, d2⟩ := hR4.cells
      obtain ⟨r0, r1, r2⟩ := hR3.frozen
      obtain ⟨p0, p1, p2⟩ := hR3.cells
      have hgs := stored3 (.int .i64 3) (.int .i64 0) (.string s) d0 d1 d2
      have HD : Hid (DrewV w g ao n cap f 3 0 s _) := DrewV.put (by unfold I64; omega) (by unfold I64; omega) (by omega) (hC3.setNew (B := w1.heap.size) (i := 2) (.string s) (by omega) (fun a ha h0 => by have := HC.out a ha h0; omega)) (hB4.setNew (Nat.le_of_lt hlt1) _) hg HC.out
      clear hC3 hB3 hB4 hB2 hC2 hV2 hR2 hV3 hR3 hR4
      go_wp2
      exact bodyPost_ret (v := .agg #[_, _, _]) (by simp [results, Try.results94, go_sem, hgs]) rfl ⟨3, 0, s, rfl, HD.out, fits_text true (by omega)⟩
    · go_wp2_with fail
      refine (l1Below_any g ao n cap f 2 (w1.alloc (.cells #[.int .i64 4, .int .i64 0, .string ⟨#[]⟩] 29)) hn (by omega) (by omega) hC2).mono ?_
      rintro e w3 ⟨x, rfl, hy0, hy1, hC3, hO3⟩
      have HX : Hid (I64 x) := by show I64 x; unfold I64; omega
      have hB3 : But g _ w3 := But.ofOnly hO3
      clear hO3
      have hV3 := hV2.but hB3 (by omega)
      have hR3 := hR2.but hB3 (by omega)
      have hB4 := hB2.trans hB3
      obtain ⟨c0, c1, c2⟩ := hV3.cells
      obtain ⟨f0, f1, f2⟩ := hV3.frozen
      have hR4 := hR3.other (D := w1.heap.size) (i := 1) (by omega) (.int .i64 x)
      obtain ⟨d0, d1, d2⟩ := hR4.cells
      obtain ⟨r0, r1, r2⟩ := hR3.frozen
      obtain ⟨p0, p1, p2⟩ := hR3.cells
      have hgs := stored3 (.int .i64 4) (.int .i64 x) (.string ⟨#[]⟩) d0 d1 d2
      have HD : Hid (DrewV w g ao n cap f 4 x ⟨#[]⟩ _) := DrewV.put (by unfold I64; omega) HX.out (by decide) (hC3.setNew (B := w1.heap.size) (i := 1) (.int .i64 x) (by omega) (fun a ha h0 => by have := HC.out a ha h0; omega)) (hB4.setNew (Nat.le_of_lt hlt1) _) hg HC.out
      clear hC3 hB3 hB4 hB2 hC2 hV2 hR2 hV3 hR3 hR4
      go_wp2
      exact bodyPost_ret (v := .agg #[_, _, _]) (by simp [results, Try.results94, go_sem, hgs]) rfl ⟨4, x, ⟨#[]⟩, rfl, HD.out, fits_bool true (by omega)⟩

set_option maxHeartbeats 2000000 in
theorem l2Of_fitNo (g : Nat) (ao : Option Addr) (n cap : Nat) (f : Nat → Int) (t : Int) (w : World) (hn : n ≤ 1048576) (ht0 : 1 ≤ t) (ht1 : t ≤ 4) (hC : Cur w g ao n cap f) :
    Calls Try.prog 94 #[.pointer (some ⟨g, 0, none⟩), .int .i64 t, .bool false] w fun e w' => ∃ (k m : Int) (s : ByteArray), e = .returned (.agg #[.int .i64 k, .int .i64 m, .string s]) ∧ DrewV w g ao n cap f k m s w' ∧ fitsP t false k m s = true := by
  have hg := hC.lt
  have HC : Hid (∀ a, ao = some a → 0 < n → a.block < w.heap.size) := hC.code
  have hlt1 : w.heap.size < w.heap.size + 1 := Nat.lt_succ_self _
  obtain ⟨hR2, hV2, hb2⟩ := boxes2 w t
  have hC2 := hC.below hb2
  have hB2 : But g w _ := But.ofBelow hb2
  clear hb2 hC
  obtain rfl | rfl | rfl | rfl : t = 1 ∨ t = 2 ∨ t = 3 ∨ t = 4 := by omega
  · have HL : Hid (∀ u ∈ [0, 1, 2, 3, -1, 255, 256, 2147483647, -2147483648], I64 u) := by
      intro u hu
      simp only [List.mem_cons, List.not_mem_nil, or_false] at hu
      unfold I64
      omega
    go_enter Try.func94, Try.ntmps94
    go_wp2_with fail
    refine (l1Int_mem g ao n cap f [0, 1, 2, 3, -1, 255, 256, 2147483647, -2147483648] (w.heap.size + 2) ((w.alloc (.cells #[.int .i64 0, .int .i64 0, .string ⟨#[]⟩] 29)).alloc (.cells #[.int .i64 1, .int .i64 0, .string ⟨#[]⟩] 29)) (by simp) hn (by simp) (by simp) HL.out hC2).mono ?_
    rintro e w3 ⟨x, rfl, hx, hC3, hB3⟩
    have HX : Hid (I64 x) := HL.out x hx
    have HF : Hid (fitsP 1 false 1 x ⟨#[]⟩ = true) := by
      simp only [List.mem_cons, List.not_mem_nil, or_false] at hx
      exact fits_int false (by omega)
    clear HL hx
    have hV3 := hV2.but hB3 (by omega)
    have hR3 := hR2.but hB3 (by omega)
    have hB4 := hB2.trans hB3
    obtain ⟨c0, c1, c2⟩ := hV3.cells
    obtain ⟨f0, f1, f2⟩ := hV3.frozen
    have hR4 := hR3.other (D := w.heap.size + 1) (i := 1) (by omega) (.int .i64 x)
    obtain ⟨d0, d1, d2⟩ := hR4.cells
    obtain ⟨r0, r1, r2⟩ := hR3.frozen
    obtain ⟨p0, p1, p2⟩ := hR3.cells
    have hgs := stored3 (.int .i64 1) (.int .i64 x) (.string ⟨#[]⟩) d0 d1 d2
    have HD : Hid (DrewV w g ao n cap f 1 x ⟨#[]⟩ _) := DrewV.put (by unfold I64; omega) HX.out (by decide) (hC3.setNew (B := w.heap.size + 1) (i := 1) (.int .i64 x) (by omega) (fun a ha h0 => by have := HC.out a ha h0; omega)) (hB4.setNew (Nat.le_of_lt hlt1) _) hg HC.out
    clear hC3 hB3 hB4 hB2 hC2 hV2 hR2 hV3 hR3 hR4
    go_wp2
    exact bodyPost_ret (v := .agg #[_, _, _]) (by simp [results, Try.results94, go_sem, hgs]) rfl ⟨1, x, ⟨#[]⟩, rfl, HD.out, HF.out⟩
  · go_enter Try.func94, Try.ntmps94
    go_wp2_with fail
    refine (l1Below_any g ao n cap f 100000 ((w.alloc (.cells #[.int .i64 0, .int .i64 0, .string ⟨#[]⟩] 29)).alloc (.cells #[.int .i64 2, .int .i64 0, .string ⟨#[]⟩] 29)) hn (by omega) (by omega) hC2).mono ?_
    rintro e w2 ⟨y, rfl, hy0, hy1, hCy, hOy⟩
    have HL : Hid (∀ u ∈ [0, 1, -1, 255, 256, -256, -257, 65535, 1000000000000000, -1000000000000000, -y], I64 u) := by
      intro u hu
      simp only [List.mem_cons, List.not_mem_nil, or_false] at hu
      unfold I64
      omega
    have hBy : But g _ w2 := But.ofOnly hOy
    clear hOy
    go_wp2_with fail
    refine (l1Int_mem g ao n cap f [0, 1, -1, 255, 256, -256, -257, 65535, 1000000000000000, -1000000000000000, -y] w2.heap.size w2 rfl hn (by simp) (by simp) HL.out hCy).mono ?_
    rintro e w3 ⟨x, rfl, hx, hC3, hB3⟩
    have HX : Hid (I64 x) := HL.out x hx
    have HF : Hid (fitsP 2 false 2 x ⟨#[]⟩ = true) := by
      simp only [List.mem_cons, List.not_mem_nil, or_false] at hx
      exact fits_num false (by omega)
    replace hB3 := hBy.trans hB3
    clear HL hx hBy hCy
    have hV3 := hV2.but hB3 (by omega)
    have hR3 := hR2.but hB3 (by omega)
    have hB4 := hB2.trans hB3
    obtain ⟨c0, c1, c2⟩ := hV3.cells
    obtain ⟨f0, f1, f2⟩ := hV3.frozen
    have hR4 := hR3.other (D := w.heap.size + 1) (i := 1) (by omega) (.int .i64 x)
    obtain ⟨d0, d1, d2⟩ := hR4.cells
    obtain ⟨r0, r1, r2⟩ := hR3.frozen
    obtain ⟨p0, p1, p2⟩ := hR3.cells
    have hgs := stored3 (.int .i64 2) (.int .i64 x) (.string ⟨#[]⟩) d0 d1 d2
    have HD : Hid (DrewV w g ao n cap f 2 x ⟨#[]⟩ _) := DrewV.put (by unfold I64; omega) HX.out (by decide) (hC3.setNew (B := w.heap.size + 1) (i := 1) (.int .i64 x) (by omega) (fun a ha h0 => by have := HC.out a ha h0; omega)) (hB4.setNew (Nat.le_of_lt hlt1) _) hg HC.out
    clear hC3 hB3 hB4 hB2 hC2 hV2 hR2 hV3 hR3 hR4
    go_wp2
    exact bodyPost_ret (v := .agg #[_, _, _]) (by simp [results, Try.results94, go_sem, hgs]) rfl ⟨2, x, ⟨#[]⟩, rfl, HD.out, HF.out⟩
  · go_enter Try.func94, Try.ntmps94
    go_wp2_with fail
    refine (l2Text_any g ao n cap f ((w.alloc (.cells #[.int .i64 0, .int .i64 0, .string ⟨#[]⟩] 29)).alloc (.cells #[.int .i64 3, .int .i64 0, .string ⟨#[]⟩] 29)) hn hC2).mono ?_
    rintro e w3 ⟨s, rfl, hs, hC3, hB3⟩
    have hV3 := hV2.but hB3 (by omega)
    have hR3 := hR2.but hB3 (by omega)
    have hB4 := hB2.trans hB3
    obtain ⟨c0, c1, c2⟩ := hV3.cells
    obtain ⟨f0, f1, f2⟩ := hV3.frozen
    have hR4 := hR3.other (D := w.heap.size + 1) (i := 2) (by omega) (.string s)
    obtain ⟨d0, d1, d2⟩ := hR4.cells
    obtain ⟨r0, r1, r2⟩ := hR3.frozen
    obtain ⟨p0, p1, p2⟩ := hR3.cells
    have hgs := stored3 (.int .i64 3) (.int .i64 0) (.string s) d0 d1 d2
    have HD : Hid (DrewV w g ao n cap f 3 0 s _) := DrewV.put (by unfold I64; omega) (by unfold I64; omega) (by omega) (hC3.setNew (B := w.heap.size + 1) (i := 2) (.string s) (by omega) (fun a ha h0 => by have := HC.out a ha h0; omega)) (hB4.setNew (Nat.le_of_lt hlt1) _) hg HC.out
    clear hC3 hB3 hB4 hB2 hC2 hV2 hR2 hV3 hR3 hR4
    go_wp2
    exact bodyPost_ret (v := .agg #[_, _, _]) (by simp [results, Try.results94, go_sem, hgs]) rfl ⟨3, 0, s, rfl, HD.out, fits_text false (by omega)⟩
  · go_enter Try.func94, Try.ntmps94
    go_wp2_with fail
    refine (l1Below_any g ao n cap f 2 ((w.alloc (.cells #[.int .i64 0, .int .i64 0, .string ⟨#[]⟩] 29)).alloc (.cells #[.int .i64 4, .int .i64 0, .string ⟨#[]⟩] 29)) hn (by omega) (by omega) hC2).mono ?_
    rintro e w3 ⟨x, rfl, hy0, hy1, hC3, hO3⟩
    have HX : Hid (I64 x) := by show I64 x; unfold I64; omega
    have hB3 : But g _ w3 := But.ofOnly hO3
    clear hO3
    have hV3 := hV2.but hB3 (by omega)
    have hR3 := hR2.but hB3 (by omega)
    have hB4 := hB2.trans hB3
    obtain ⟨c0, c1, c2⟩ := hV3.cells
    obtain ⟨f0, f1, f2⟩ := hV3.frozen
    have hR4 := hR3.other (D := w.heap.size + 1) (i := 1) (by omega) (.int .i64 x)
    obtain ⟨d0, d1, d2⟩ := hR4.cells
    obtain ⟨r0, r1, r2⟩ := hR3.frozen
    obtain ⟨p0, p1, p2⟩ := hR3.cells
    have hgs := stored3 (.int .i64 4) (.int .i64 x) (.string ⟨#[]⟩) d0 d1 d2
    have HD : Hid (DrewV w g ao n cap f 4 x ⟨#[]⟩ _) := DrewV.put (by unfold I64; omega) HX.out (by decide) (hC3.setNew (B := w.heap.size + 1) (i := 1) (.int .i64 x) (by omega) (fun a ha h0 => by have := HC.out a ha h0; omega)) (hB4.setNew (Nat.le_of_lt hlt1) _) hg HC.out
    clear hC3 hB3 hB4 hB2 hC2 hV2 hR2 hV3 hR3 hR4
    go_wp2
    exact bodyPost_ret (v := .agg #[_, _, _]) (by simp [results, Try.results94, go_sem, hgs]) rfl ⟨4, x, ⟨#[]⟩, rfl, HD.out, fits_bool false (by omega)⟩
end Go.Proofs.Ytikopeihkbpjhac

/-
  The draw of a right value, as far as a law leans on it.
-/
namespace Go.Proofs.Ytikopeihkbpjhac
open Go.RowKit
set_option maxRecDepth 4000

theorem DrewV.alloc {w w' : World} {g : Nat} {ao : Option Addr} {n cap : Nat} {f : Nat → Int} {k m : Int} {s : ByteArray} (h : DrewV w g ao n cap f k m s w') (o : Obj) : DrewV w g ao n cap f k m s (w'.alloc o) :=
  ⟨h.k64, h.m64, h.few, h.cur.below ((Below.refl _ _).alloc (Nat.le_refl _) _), h.but.trans (But.alloc g w' o)⟩

theorem getD_memS {l : List ByteArray} {j : Nat} (h : j < l.length) : l.getD j ⟨#[]⟩ ∈ l := by simp [h]

/-- One of a list of texts that is laid anew. -/
theorem l1Str_of (g : Nat) (ao : Option Addr) (n cap : Nat) (f : Nat → Int) (l : List ByteArray) (A : Nat) (w : World) (hA : A = w.heap.size) (hn : n ≤ 1048576) (h0 : 0 < l.length) (h1 : l.length ≤ 1000) (hl : ∀ y ∈ l, y.size ≤ 40) (hC : Cur w g ao n cap f) :
    Calls Try.prog 114 #[.pointer (some ⟨g, 0, none⟩), .slice (some ⟨A, 0, none⟩) l.length l.length] (w.alloc (.cells (l.map Value.string).toArray 9)) fun e w' => ∃ z : ByteArray, e = .returned (.string z) ∧ z.size ≤ 40 ∧ Cur w' g ao n cap f ∧ But g w w' := by
  subst hA
  have hb : Below w.heap.size w (w.alloc (.cells (l.map Value.string).toArray 9)) := (Below.refl _ _).alloc (Nat.le_refl _) _
  have hg := hC.lt
  refine (l1Str_any g ao n cap f w.heap.size l.length (fun i => l.getD i ⟨#[]⟩) _ hn h0 (by omega) (newStrs w l 9) (by omega) (hC.below hb)).mono ?_
  rintro e w' ⟨j, hj, rfl, hC2, hO2⟩
  exact ⟨_, rfl, hl _ (getD_memS hj), hC2, (But.ofBelow hb).trans (But.ofOnly hO2)⟩

set_option maxHeartbeats 2000000 in
theorem l2Draw_any (g : Nat) (ao : Option Addr) (n cap : Nat) (f : Nat → Int) (w : World) (hn : n ≤ 1048576) (hC : Cur w g ao n cap f) :
    Calls Try.prog 93 #[.pointer (some ⟨g, 0, none⟩)] w fun e w' => ∃ (k m : Int) (s : ByteArray), e = .returned (.agg #[.int .i64 k, .int .i64 m, .string s]) ∧ DrewV w g ao n cap f k m s w' := by
  have hg := hC.lt
  have HC : Hid (∀ a, ao = some a → 0 < n → a.block < w.heap.size) := hC.code
  have hb0 : Below w.heap.size w (w.alloc (.cells #[.int .i64 0, .int .i64 0, .string ⟨#[]⟩] 29)) := (Below.refl _ _).alloc (Nat.le_refl _) _
  have hR0 := Box.new w 0 0 ⟨#[]⟩
  have hC0 := hC.below hb0
  have hB0 : But g w (w.alloc (.cells #[.int .i64 0, .int .i64 0, .string ⟨#[]⟩] 29)) := But.ofBelow hb0
  clear hb0 hC
  go_enter Try.func93, Try.ntmps93
  go_wp2_with fail
  refine (l1Below_any g ao n cap f 4 _ hn (by omega) (by omega) hC0).mono ?_
  rintro e w1 ⟨x, rfl, hx0, hx1, hC1, hO1⟩
  have hB1 := hB0.trans (But.ofOnly hO1)
  have hR1 := hR0.but (But.ofOnly hO1) (by omega)
  clear hC0 hO1 hR0 hB0
  go_wp2_with fail
  refine (l2Of_any g ao n cap f (1 + x) w1 hn (by omega) (by omega) hC1).mono ?_
  rintro e w2 ⟨k, m, s, rfl, hD⟩
  have hR2 := hR1.but hD.but (by omega)
  have HD : Hid (DrewV w g ao n cap f k m s _) := DrewV.put hD.k64 hD.m64 hD.few hD.cur (hB1.trans hD.but) hg HC.out
  obtain ⟨c0, c1, c2⟩ := hR2.cells
  obtain ⟨f0, f1, f2⟩ := hR2.frozen
  have hgs := stored3 (.int .i64 k) (.int .i64 m) (.string s) c0 c1 c2
  clear hC1 hB1 hR1 hD hR2
  go_wp2
  exact bodyPost_ret (v := .agg #[_, _, _]) (by simp [results, Try.results93, go_sem, hgs]) rfl ⟨k, m, s, rfl, HD.out⟩
end Go.Proofs.Ytikopeihkbpjhac

/-
  All bits of a byte turned.
-/
namespace Go.Proofs.Ytikopeihkbpjhac
open Go.RowKit
set_option maxRecDepth 4000

theorem u8_not (x : Int) (h0 : 0 ≤ x) (h1 : x ≤ 255) : bits .xor .u8 IntKind.u8.max x = 255 - x := by
  obtain ⟨n, rfl⟩ := Int.eq_ofNat_of_zero_le h0
  have key : ∀ n : Fin 256, bits .xor .u8 IntKind.u8.max (n.val : Int) = 255 - (n.val : Int) := by decide +kernel
  exact key ⟨n, by omega⟩
end Go.Proofs.Ytikopeihkbpjhac

/-
  The program's numberOf and the model's l4Read: bytes as a number, the highest first.
-/
namespace Go.Proofs.Ytikopeihkbpjhac
open Go.RowKit
set_option maxRecDepth 4000

theorem or_low (x y : Int) (h0 : 0 ≤ x) (h1 : x < 36028797018963968) (h2 : 0 ≤ y) (h3 : y ≤ 255) : bits .or .i64 (x * 256) y = x * 256 + y := by
  have e : bits .or .i64 (x * 256) y = bits .or .i64 y (x * 256) := by
    show IntKind.i64.wrap ((BitVec.ofInt 64 (x * 256) ||| BitVec.ofInt 64 y).toNat : Nat) = IntKind.i64.wrap ((BitVec.ofInt 64 y ||| BitVec.ofInt 64 (x * 256)).toNat : Nat)
    rw [BitVec.or_comm]
  rw [e, i64_or_add 8 y (x * 256) h2 (by show _ < (256 : Int); omega) (by omega) (by show _ % (256 : Int) = 0; omega) (by omega) (by decide)]
  omega

theorem valF_step (k : Nat) (f : Nat → Int) : valF (k + 1) f = valF k f * 256 + f k := rfl
/-- As many bytes as there may be are a number that an int has. -/
theorem valF_lim (k : Nat) (f : Nat → Int) (hk : k ≤ 6) (h : ∀ i, i < k → 0 ≤ f i ∧ f i ≤ 255) : 0 ≤ valF k f ∧ valF k f < 281474976710656 := by
  have h1 := valF_bd k f h
  have h2 : (256 : Int) ^ k ≤ 256 ^ 6 := pow_mono hk
  have e : (256 : Int) ^ 6 = 281474976710656 := by decide
  omega

set_option maxHeartbeats 1000000 in
theorem numberOf_any (ao : Option Addr) (k c : Nat) (f : Nat → Int) (w : World) (hv : View w ao k c f) (hk : k ≤ 7) :
    Calls Try.prog 143 #[.slice ao k c] w fun e w' => e = .returned (.int .i64 (valF k f)) ∧ w = w' := by
  go_enter Try.func143, Try.ntmps143
  go_wp2
  go_loopg [3, 8] k (fun q s i wr => w = wr ∧ ∃ j : Nat, j ≤ k ∧ q = k - j ∧ s = .int .i64 (valF j f) ∧ i = .int .i64 j)
  case atStart => exact ⟨rfl, 0, Nat.zero_le _, rfl, rfl, rfl⟩
  case round =>
    obtain ⟨rfl, j, hj, rfl, rfl, rfl⟩ := hrel
    by_cases hlt : j < k
    · have hb := hv.byte j hlt
      obtain ⟨b, off, rfl, hbl, hc⟩ := hv.cells (by omega)
      have hcj := hc j hlt
      have hl := valF_lim j f (by omega) (fun i hi => hv.byte i (by omega))
      have HE : Hid (valF (j + 1) f = valF j f * 256 + f j) := rfl
      have hq := or_low (valF j f) (f j) hl.1 (by omega) hb.1 hb.2
      have hjz : (j : Int) < (k : Int) := by omega
      clear hc hv
      generalize valF j f = x at *
      go_wp2
      go_roundg (k - (j + 1))
      case measure => omega
      case rel => exact ⟨rfl, j + 1, by omega, rfl, by rw [HE.out], by go_num⟩
    · obtain rfl : j = k := by omega
      clear hv
      go_wp2
      go_ret
      exact ⟨rfl, rfl⟩

set_option maxHeartbeats 1000000 in
theorem l4Read_any (ao : Option Addr) (n c : Nat) (f : Nat → Int) (p k : Nat) (t : Bool) (w : World) (hv : View w ao n c f) (hn : n ≤ 281474976710656) (hk : k ≤ 7) (hp : p + k ≤ n) :
    Calls Try.prog 133 #[.slice ao n c, .int .i64 (p : Int), .int .i64 (k : Int), .bool t] w fun e w' => e = .returned (.tuple #[.int .i64 (valF k (turnF t (fun i => f (p + i)))), .bool true]) ∧ w = w' := by
  have hpz : (p : Int) + (k : Int) ≤ (n : Int) := by omega
  have q1 : decide ((p : Int) < 0) = false := by simp
  have q2 : decide (n < p) = false := by simp; omega
  have q3 : decide ((n : Int) - (p : Int) < (k : Int)) = false := by simp; omega
  go_enter Try.func133, Try.ntmps133
  go_wp2
  go_loopg [10, 11] k (fun q s i wr => w = wr ∧ ∃ j : Nat, j ≤ k ∧ q = k - j ∧ s = .int .i64 (valF j (turnF t (fun i => f (p + i)))) ∧ i = .int .i64 j)
  case atStart => exact ⟨rfl, 0, Nat.zero_le _, rfl, rfl, rfl⟩
  case round =>
    obtain ⟨rfl, j, hj, rfl, rfl, rfl⟩ := hrel
    by_cases hlt : j < k
    · have hb := hv.byte (p + j) (by omega)
      obtain ⟨b, off, rfl, hbl, hc⟩ := hv.cells (by omega)
      have hcj := hc (p + j) (by omega)
      have hl := valF_lim j (turnF t (fun i => f (p + i))) (by omega) (turnF_bd t (fun i hi => hv.byte (p + i) (by omega)))
      have hjz : (j : Int) < (k : Int) := by omega
      have HE : Hid (valF (j + 1) (turnF t (fun i => f (p + i))) = valF j (turnF t (fun i => f (p + i))) * 256 + turnF t (fun i => f (p + i)) j) := rfl
      clear hc hv
      cases t
      · have hq := or_low (valF j (turnF false (fun i => f (p + i)))) (f (p + j)) hl.1 (by omega) hb.1 hb.2
        have HT : Hid (turnF false (fun i => f (p + i)) j = f (p + j)) := rfl
        rw [HT.out] at HE
        generalize valF j (turnF false (fun i => f (p + i))) = x at *
        go_wp2
        go_roundg (k - (j + 1))
        case measure => omega
        case rel => exact ⟨rfl, j + 1, by omega, rfl, by rw [HE.out], by go_num⟩
      · have hx : bits .xor .u8 IntKind.u8.max (f (p + j)) = 255 - f (p + j) := u8_not _ hb.1 hb.2
        have HT : Hid (turnF true (fun i => f (p + i)) j = 255 - f (p + j)) := rfl
        have hyb : 0 ≤ 255 - f (p + j) ∧ 255 - f (p + j) ≤ 255 := by omega
        rw [HT.out] at HE
        generalize 255 - f (p + j) = y at *
        obtain ⟨hy0, hy1⟩ := hyb
        have hq := or_low (valF j (turnF true (fun i => f (p + i)))) y hl.1 (by omega) hy0 hy1
        generalize valF j (turnF true (fun i => f (p + i))) = x at *
        go_wp2
        go_roundg (k - (j + 1))
        case measure => omega
        case rel => exact ⟨rfl, j + 1, by omega, rfl, by rw [HE.out, show wrap64 y = y by unfold wrap64; omega, hq], by go_num⟩
    · obtain rfl : j = k := by omega
      clear hv
      go_wp2
      go_ret2
      exact ⟨rfl, rfl⟩

set_option maxHeartbeats 1000000 in
theorem l4Read_no (ao : Option Addr) (n c : Nat) (p k : Int) (t : Bool) (w : World) (hp1 : p ≤ 9223372036854775807) (hk : 0 ≤ k) (hk7 : k ≤ 7) (hp : p < 0 ∨ (n : Int) - p < k) :
    Calls Try.prog 133 #[.slice ao n c, .int .i64 p, .int .i64 k, .bool t] w fun e w' => e = .returned (.tuple #[.int .i64 0, .bool false]) ∧ w = w' := by
  go_enter Try.func133, Try.ntmps133
  by_cases h1 : p < 0
  · clear hp
    go_wp2
    go_ret2
    exact ⟨rfl, rfl⟩
  · have h2 : (n : Int) - p < k := by omega
    clear hp
    by_cases h3 : (n : Int) < p
    · go_wp2
      go_ret2
      exact ⟨rfl, rfl⟩
    · go_wp2
      go_ret2
      exact ⟨rfl, rfl⟩
end Go.Proofs.Ytikopeihkbpjhac

/-
  A part of a slice of bytes that reads.
-/
namespace Go.Proofs.Ytikopeihkbpjhac
open Go.RowKit
set_option maxRecDepth 4000

theorem View.part {w : World} {b off n cap m k : Nat} {f : Nat → Int} (h : View w (some ⟨b, off, none⟩) n cap f) (hm : k + m ≤ n) (c : Nat) (hc : m ≤ c) : View w (some ⟨b, off + k, none⟩) m c (fun i => f (k + i)) := by
  refine ⟨hc, fun i hi => h.byte (k + i) (by omega), fun h0 => ?_⟩
  obtain ⟨b', off', e, hb, hcl⟩ := h.cells (by omega)
  simp only [Option.some.injEq, Addr.mk.injEq, and_true] at e
  obtain ⟨rfl, rfl⟩ := e
  exact ⟨b, off + k, rfl, hb, fun i hi => by have := hcl (k + i) (by omega); rw [← Nat.add_assoc] at this; exact this⟩
end Go.Proofs.Ytikopeihkbpjhac

/-
  The program's putBytes: both slices of bytes, one behind the other, in one new row that holds just them.
-/
namespace Go.Proofs.Ytikopeihkbpjhac
open Go.RowKit
set_option maxRecDepth 4000

theorem cells_of_any {w : World} {ao : Option Addr} {n cap : Nat} {f : Nat → Int} (h : View w ao n cap f) : ∀ ad, ao = some ad → ∀ j u, (bl (lof n f))[j]? = some u → w.cell? (ad.add j) = some u := by
  rintro ad rfl j u hu
  have hj : j < n := by
    by_cases hj : j < n
    · exact hj
    · rw [List.getElem?_eq_none (by rw [bl_len, lof_len]; omega)] at hu; cases hu
  obtain ⟨b', off', e, _, _⟩ := h.cells (by omega)
  simp only [Option.some.injEq] at e
  subst e
  exact cells_of_view h j u hu

theorem below_new {w w1 : World} (h : w.grownBy w1 none) : Below w.heap.size w w1 := (Below.refl _ _).grown h (Nat.le_refl _) (by intro k hk; cases hk)
theorem below_app {w w1 w2 : World} (h : w.grownBy w1 none) (h2 : w1.grownBy w2 (some w.heap.size)) : Below w.heap.size w w2 :=
  (below_new h).grown h2 h.size (by intro k hk; cases hk; exact Nat.le_refl _)

set_option maxHeartbeats 1000000 in
theorem putBytes_any (b off n cap : Nat) (f : Nat → Int) (ao : Option Addr) (m c : Nat) (g : Nat → Int) (w : World) (hv : View w (some ⟨b, off, none⟩) n cap f) (hg : View w ao m c g) (hno : ao = none → m = 0 ∧ c = 0) (hn : n + m ≤ 70368744177664) :
    Calls Try.prog 63 #[.slice (some ⟨b, off, none⟩) n cap, .slice ao m c] w fun e w' => e = .returned (.slice (some ⟨w.heap.size, 0, none⟩) (n + m) (n + m)) ∧ w'.ownsRow w.heap.size 5 1 (.slice (some ⟨w.heap.size, 0, none⟩) (n + m) (n + m)) (n + m) (bl (lof n f ++ lof m g)) ∧ Below w.heap.size w w' := by
  obtain ⟨i0, hi, hz0, hz1, hz2⟩ := info_parts Try.info5
  go_enter Try.func63, Try.ntmps63
  go_wp2_with (first | (at_make; go_must (refine wpList_make_own _ rfl (.const (.int .i64 0)) (.tmp 10) 22 rfl w.heap.size 5 i0 (.int .u8 0) 1 Try.underlying22 hi hz0 hz1 .i64 .i64 ((n : Int) + (m : Int)) (n + m) rfl rfl (by omega) (by rw [hz2]; omega) (by unfold maxLen; omega) (Nat.le_refl _) ?_); intro w1 hown1 hgr1) | (at_builtin; refine wpList_append_fits_any _ rfl (.tmp 12) (.tmp 13) 22 rfl w.heap.size 5 i0 1 Try.underlying22 hi hz1 w.heap.size 0 (n + m) [] rfl hown1 (some ⟨b, off, none⟩) n cap (bl (lof n f)) rfl (by rw [bl_len, lof_len]; omega) (by intro h; cases h) (cells_of_any (hv.below (below_new hgr1))) (bl_one _) (by omega) ?_; intro w2 hown2 hgr2; simp only [Nat.zero_add, List.nil_append] at hown2) | (at_builtin; refine wpList_append_fits_any _ rfl (.tmp 15) (.tmp 16) 22 rfl w.heap.size 5 i0 1 Try.underlying22 hi hz1 w.heap.size n (n + m) (bl (lof n f)) rfl hown2 ao m c (bl (lof m g)) rfl (by rw [bl_len, lof_len]; omega) hno (cells_of_any (hg.below (below_app hgr1 hgr2))) (bl_one _) (by omega) ?_; intro w3 hown3 hgr3))
  go_ret
  exact ⟨rfl, by rw [bl_append]; exact hown3, (below_app hgr1 hgr2).grown hgr3 (Nat.le_trans hgr1.size hgr2.size) (by intro k hk; cases hk; exact Nat.le_refl _)⟩
end Go.Proofs.Ytikopeihkbpjhac

/-
  Flip, the program's and the model's: from the place on all bits of the bytes turned, in memory of its own.
-/
namespace Go.Proofs.Ytikopeihkbpjhac
open Go.RowKit
set_option maxRecDepth 4000

/-- The bytes of f, from p on turned. -/
def flipF (f : Nat → Int) (p : Int) (i : Nat) : Int := if p ≤ i then 255 - f i else f i
theorem flipF_byte {n : Nat} {f : Nat → Int} (p : Int) (h : ∀ i, i < n → 0 ≤ f i ∧ f i ≤ 255) : ∀ i, i < n → 0 ≤ flipF f p i ∧ flipF f p i ≤ 255 := by
  intro i hi
  have := h i hi
  unfold flipF
  split <;> omega

/-- k of the n bytes are turned, as far as they are to be. -/
structure Flipped (t : TypeId) (w wr : World) (g n : Nat) (f : Nat → Int) (p : Int) (k : Nat) : Prop where
  row : Row t wr g n (fun i => if i < k then flipF f p i else f i)
  below : Below w.heap.size w wr

theorem flipped_turn {t : TypeId} {w wr : World} {g n : Nat} {f : Nat → Int} {p : Int} {k : Nat} (h : Flipped t w wr g n f p k) (hg : w.heap.size ≤ g) (hp : p ≤ k) : Flipped t w (wr.setCell ⟨g, k, none⟩ (.int .u8 (255 - f k))) g n f p (k + 1) := by
  refine ⟨(h.row.set k _).congr (fun i _ => ?_), h.below.setCell hg _⟩
  by_cases e : i = k
  · subst e; simp [flipF, hp]
  · rw [if_neg e]
    by_cases hlt : i < k
    · rw [if_pos hlt, if_pos (by omega)]
    · rw [if_neg hlt, if_neg (by omega)]
theorem flipped_keep {t : TypeId} {w wr : World} {g n : Nat} {f : Nat → Int} {p : Int} {k : Nat} (h : Flipped t w wr g n f p k) (hp : ¬ p ≤ k) : Flipped t w wr g n f p (k + 1) := by
  refine ⟨h.row.congr (fun i _ => ?_), h.below⟩
  by_cases e : i = k
  · subst e; simp [flipF, hp]
  · by_cases hlt : i < k
    · rw [if_pos hlt, if_pos (by omega)]
    · rw [if_neg hlt, if_neg (by omega)]

set_option maxHeartbeats 1000000 in
theorem flip_spec (b off n cap : Nat) (f : Nat → Int) (p : Int) (w : World) (hv : View w (some ⟨b, off, none⟩) n cap f) (hn : n ≤ 70368744177664) :
    Calls Try.prog 57 #[.slice (some ⟨b, off, none⟩) n cap, .int .i64 p] w fun e w' => ∃ g c, e = .returned (.slice (some ⟨g, 0, none⟩) n c) ∧ w.heap.size ≤ g ∧ n ≤ c ∧ Row 5 w' g n (flipF f p) ∧ Below w.heap.size w w' := by
  obtain ⟨i0, hi, hz0, hz1, hz2⟩ := info_parts Try.info5
  have hown0 := World.ownsRow_lit (base := w.heap.size) (e := 5) (size := 1) w #[] 0 (Nat.le_refl _) (Nat.zero_le _) rfl
  have hb0 : Below w.heap.size w (w.alloc (.cells #[] 5)) := (Below.refl _ _).alloc (Nat.le_refl _) _
  have hcl := cells_of_view (hv.below hb0)
  have hsz : (w.alloc (.cells #[] 5)).heap.size = w.heap.size + 1 := by simp
  have hby := hv.byte
  go_enter Try.func57, Try.ntmps57
  go_wp2_with (at_builtin; go_must (refine wpList_append_own _ rfl (.tmp 7) (.tmp 8) 22 rfl w.heap.size 5 i0 (.int .u8 0) 1 1 Try.underlying22 hi hz0 hz1 hz2 rfl (by decide) (.slice (some ⟨w.heap.size, 0, none⟩) 0 0) 0 [] rfl hown0 ⟨b, off, none⟩ n cap (bl (lof n f)) rfl (by rw [bl_len, lof_len]; omega) hcl (bl_one _) (by unfold maxLen; omega) (by omega) (by rw [hsz]; omega) ?_); intro v1 w1 hown1 hgr1 hnil; simp only [Nat.zero_add, List.nil_append] at hown1; obtain ⟨g, c, rfl, hg, hgc, hrow⟩ := row_of_own' hown1 (by intro h; have := (hnil.1 h).1; cases this))
  have hb1 : Below w.heap.size w w1 := hb0.grown hgr1 (by simp) (fun k hk => by simp only [Value.ownBlock, Option.some.injEq] at hk; omega)
  have hF0 : Flipped 5 w w1 g n f p 0 := ⟨hrow.congr (fun i hi => by rw [lof_get n f i hi]; simp), hb1⟩
  clear hown0 hcl hsz hgr1 hb0 hv hown1 hnil hrow hb1
  go_loopg [6] n (fun q i wr => ∃ k : Nat, k ≤ n ∧ q = n - k ∧ i = .int .i64 k ∧ Flipped 5 w wr g n f p k)
  case atStart => exact ⟨0, Nat.zero_le _, rfl, rfl, hF0⟩
  case round =>
    obtain ⟨k, hk, rfl, rfl, hF⟩ := hrel
    clear hF0
    by_cases hlt : k < n
    · have hkz : (k : Int) < (n : Int) := by omega
      by_cases hp : p ≤ (k : Int)
      · have hS : Hid (Flipped 5 w (wr.setCell ⟨g, k, none⟩ (.int .u8 (255 - f k))) g n f p (k + 1)) := flipped_turn hF hg hp
        have hc : wr.cell? ⟨g, k, none⟩ = some (.int .u8 (f k)) := by rw [hF.row.cell hlt, if_neg (Nat.lt_irrefl _)]
        have hf := hF.row.frozen k
        have hx : bits .xor .u8 IntKind.u8.max (f k) = 255 - f k := u8_not _ (hby k hlt).1 (hby k hlt).2
        clear hF hby
        go_wp2
        go_roundg (n - (k + 1))
        case measure => omega
        case rel => exact ⟨k + 1, by omega, rfl, by go_num, hS.out⟩
      · have hS : Hid (Flipped 5 w wr g n f p (k + 1)) := flipped_keep hF hp
        clear hF hby
        go_wp2
        go_roundg (n - (k + 1))
        case measure => omega
        case rel => exact ⟨k + 1, by omega, rfl, by go_num, hS.out⟩
    · obtain rfl : k = n := by omega
      have hR : Hid (Row 5 wr g k (flipF f p)) := hF.row.congr (fun i hi => by rw [if_pos hi])
      have hB := hF.below
      clear hF hby
      go_wp2
      go_ret
      exact ⟨g, c, rfl, hg, hgc, hR.out, hB⟩

set_option maxHeartbeats 1000000 in
theorem flip_impl (b off n cap : Nat) (f : Nat → Int) (p : Int) (w : World) (hv : View w (some ⟨b, off, none⟩) n cap f) (hn : n ≤ 70368744177664) (hp1 : p ≤ 9223372036854775807) :
    Calls Try.prog 53 #[.slice (some ⟨b, off, none⟩) n cap, .int .i64 p] w fun e w' => ∃ g c, e = .returned (.slice (some ⟨g, 0, none⟩) n c) ∧ w.heap.size ≤ g ∧ n ≤ c ∧ Row 5 w' g n (flipF f p) ∧ Below w.heap.size w w' := by
  have hby := hv.byte
  go_enter Try.func53, Try.ntmps53
  go_wp2_with fail
  refine (putBytes_any b off n cap f none 0 0 (fun _ => 0) w hv ⟨Nat.le_refl _, fun i hi => absurd hi (Nat.not_lt_zero _), fun h => absurd h (Nat.lt_irrefl _)⟩ (fun _ => ⟨rfl, rfl⟩) (by omega)).mono ?_
  rintro e w1 ⟨rfl, hown, hb1⟩
  rw [Nat.add_zero] at hown ⊢
  have hrow := row_of_owned hown
  have hR0 : Row 5 w1 w.heap.size n f := hrow.congr (fun i hi => by rw [show lof 0 (fun _ => (0 : Int)) = [] from rfl, List.append_nil, lof_get n f i hi])
  have HF : ∀ m : Nat, (∀ i : Nat, i < m → ¬ p ≤ i) → Flipped 5 w w1 w.heap.size n f p m := by
    intro m hm
    refine ⟨hR0.congr (fun i hi => ?_), hb1⟩
    by_cases e : i < m
    · rw [if_pos e, flipF, if_neg (hm i e)]
    · rw [if_neg e]
  have hF0 : Hid (p < 0 → Flipped 5 w w1 w.heap.size n f p 0) := fun _ => HF 0 (fun i hi => absurd hi (Nat.not_lt_zero _))
  have hF1 : Hid (0 ≤ p → Flipped 5 w w1 w.heap.size n f p p.toNat) := fun _ => HF p.toNat (fun i hi => by omega)
  clear hown hrow hR0 HF hv hb1
  go_wp2
  all_goals
    go_loopg [6] (n - p.toNat) (fun q i wr => ∃ k : Nat, q = n - k ∧ i = .int .i64 k ∧ (k : Int) ≤ 9223372036854775807 ∧ p ≤ k ∧ Flipped 5 w wr w.heap.size n f p k)
    case atStart => first | exact ⟨0, by omega, rfl, by omega, by omega, hF0.out (by omega)⟩ | exact ⟨p.toNat, rfl, congrArg (Value.int .i64) (by omega), by omega, by omega, hF1.out (by omega)⟩
    case round =>
      obtain ⟨k, rfl, rfl, hk63, hpk, hF⟩ := hrel
      clear hF0 hF1
      by_cases hlt : k < n
      · have hkz : (k : Int) < (n : Int) := by omega
        have hS : Hid (Flipped 5 w (wr.setCell ⟨w.heap.size, k, none⟩ (.int .u8 (255 - f k))) w.heap.size n f p (k + 1)) := flipped_turn hF (Nat.le_refl _) hpk
        have hc : wr.cell? ⟨w.heap.size, k, none⟩ = some (.int .u8 (f k)) := by rw [hF.row.cell hlt, if_neg (Nat.lt_irrefl _)]
        have hf := hF.row.frozen k
        have hx : bits .xor .u8 IntKind.u8.max (f k) = 255 - f k := u8_not _ (hby k hlt).1 (hby k hlt).2
        clear hF hby
        go_wp2
        go_roundg (n - (k + 1))
        case measure => omega
        case rel => exact ⟨k + 1, rfl, by go_num, by omega, by omega, hS.out⟩
      · have hkz : (n : Int) ≤ (k : Int) := by omega
        have hR : Hid (Row 5 wr w.heap.size n (flipF f p)) := hF.row.congr (fun i hi => by rw [if_pos (by omega)])
        have hB := hF.below
        clear hF hby
        go_wp2
        go_ret
        exact ⟨w.heap.size, n, rfl, Nat.le_refl _, Nat.le_refl _, hR.out, hB⟩
end Go.Proofs.Ytikopeihkbpjhac

