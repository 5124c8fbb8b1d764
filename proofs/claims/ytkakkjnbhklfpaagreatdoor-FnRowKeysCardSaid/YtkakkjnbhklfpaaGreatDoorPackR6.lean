/-
  Together: ReadTabs, FirstPlain, GetPlain, GetTextPlain, NumsPlain, LofEq, RowB, CrcPlain, SumPlain, RowBytes, VView, ValRow, ValGrow, KeyPlain11, Row34, EffKit
-/
import Derived.Test.YtkakkjnbhklfpaaGreatDoorPackR5
import Derived.Test.YtkakkjnbhklfpaaGreatDoorPackR1
import Derived.Laws.BytesArg
import Derived.Test.YtkakkjnbhklfpaaGreatDoorPackR2
import Derived.Test.YtkakkjnbhklfpaaGreatDoorPackR4
import Derived.Test.YtkakkjnbhklfpaaGreatDoorPackR3
/-
  Tables out of a text and back, plainly.
-/
namespace Go.Proofs.YtkakkjnbhklfpaaGreatDoor
open Go.RowKit
set_option maxRecDepth 4000

/-- Whether the i-th table is not right, or its name stands ahead, or it is behind the third. -/
def badF (f : Nat → PDef) (i : Nat) : Bool := decide (checkF (f i) ≠ 0 ∨ 2 < i ∨ ∃ k, k < i ∧ (f k).name = (f i).name)
/-- The first of m tables from the k-th on that is bad; -1: there is none. -/
def badFrom (f : Nat → PDef) : Nat → Nat → Int
  | 0, _ => -1
  | m + 1, k => if badF f k then (k : Int) else badFrom f m (k + 1)
def firstF (f : Nat → PDef) (n : Nat) : Int := badFrom f n 0
theorem badFrom_none {f : Nat → PDef} : ∀ (m k : Nat), badFrom f m k = -1 → ∀ i, k ≤ i → i < k + m → badF f i = false
  | 0, _, _, i, h1, h2 => by omega
  | m + 1, k, h, i, h1, h2 => by
    rw [badFrom] at h
    cases e : badF f k with
    | true => rw [e, if_pos rfl] at h; omega
    | false =>
      rw [e, if_neg (by simp)] at h
      by_cases e2 : i = k
      · subst e2; exact e
      · exact badFrom_none m (k + 1) h i (by omega) (by omega)
theorem firstF_none {f : Nat → PDef} {n : Nat} (h : firstF f n = -1) : n ≤ 3 ∧ (∀ i, i < n → checkF (f i) = 0) ∧ ∀ i, i < n → ∀ k, k < i → (f k).name ≠ (f i).name := by
  have key : ∀ i, i < n → badF f i = false := fun i hi => badFrom_none n 0 h i (Nat.zero_le _) (by omega)
  have key2 : ∀ i, i < n → ¬ (checkF (f i) ≠ 0 ∨ 2 < i ∨ ∃ k, k < i ∧ (f k).name = (f i).name) := fun i hi => of_decide_eq_false (key i hi)
  refine ⟨?_, fun i hi => ?_, fun i hi k hk e => key2 i hi (.inr (.inr ⟨k, hk, e⟩))⟩
  · by_cases h3 : n ≤ 3
    · exact h3
    · exact absurd (.inr (.inl (by omega))) (key2 3 (by omega))
  · by_cases e : checkF (f i) = 0
    · exact e
    · exact absurd (.inl e) (key2 i hi)
end Go.Proofs.YtkakkjnbhklfpaaGreatDoor

/-
  The first table that is not right, plainly.
-/
namespace Go.Proofs.YtkakkjnbhklfpaaGreatDoor
open Go.RowKit
set_option maxRecDepth 4000

theorem badFrom_no (f : Nat → PDef) (m k : Nat) (h : ∀ i, k ≤ i → i < k + m → badF f i = false) : badFrom f m k = -1 := by
  induction m generalizing k with
  | zero => rfl
  | succ m ih => rw [badFrom, h k (Nat.le_refl _) (by omega), if_neg (by simp)]; exact ih (k + 1) (fun i h1 h2 => h i (by omega) (by omega))
theorem badFrom_hit (f : Nat → PDef) : ∀ (m k j : Nat), k ≤ j → j < k + m → (∀ i, k ≤ i → i < j → badF f i = false) → badF f j = true → badFrom f m k = j
  | 0, k, j, h1, h2, _, _ => by omega
  | m + 1, k, j, h1, h2, h, hj => by
    rw [badFrom]
    by_cases e : k = j
    · subst e; rw [hj, if_pos rfl]
    · rw [h k (Nat.le_refl _) (by omega), if_neg (by simp)]
      exact badFrom_hit f m (k + 1) j (by omega) (by omega) (fun i a b => h i (by omega) b) hj
theorem firstF_hit {f : Nat → PDef} {n j : Nat} (hj : j < n) (h : ∀ i, i < j → badF f i = false) (hb : badF f j = true) : firstF f n = j :=
  badFrom_hit f n 0 j (Nat.zero_le _) (by omega) (fun i _ hi => h i hi) hb
theorem firstF_no {f : Nat → PDef} {n : Nat} (h : ∀ i, i < n → badF f i = false) : firstF f n = -1 := badFrom_no f n 0 (fun i _ hi => h i (by omega))
theorem badF_check {f : Nat → PDef} {i : Nat} (h : checkF (f i) ≠ 0) : badF f i = true := decide_eq_true (.inl h)
theorem badF_late {f : Nat → PDef} {i : Nat} (h : 2 < i) : badF f i = true := decide_eq_true (.inr (.inl h))
theorem badF_twice {f : Nat → PDef} {i k : Nat} (h : k < i) (e : (f k).name = (f i).name) : badF f i = true := decide_eq_true (.inr (.inr ⟨k, h, e⟩))
theorem badF_no {f : Nat → PDef} {i : Nat} (h1 : checkF (f i) = 0) (h2 : i ≤ 2) (h3 : ∀ k, k < i → (f k).name ≠ (f i).name) : badF f i = false :=
  decide_eq_false (fun h => by
    rcases h with h | h | ⟨k, hk, e⟩
    · exact h h1
    · omega
    · exact h3 k hk e)
end Go.Proofs.YtkakkjnbhklfpaaGreatDoor

/-
  What is read of bytes as a number, plainly: of n bytes (f), from the place p on.
-/
namespace Go.Proofs.YtkakkjnbhklfpaaGreatDoor

def getU (n : Nat) (f : Nat → Int) (p : Int) : Int × Int × Bool :=
  if p < 0 ∨ (n : Int) ≤ p then (0, 0, false)
  else if f p.toNat < 128 then (f p.toNat, p + 1, true)
  else if n ≤ p.toNat + 1 then (0, 0, false)
  else if f (p.toNat + 1) < 128 then (if f (p.toNat + 1) = 0 then (0, 0, false) else (f p.toNat - 128 + f (p.toNat + 1) * 128, p + 2, true))
  else if n ≤ p.toNat + 2 then (0, 0, false)
  else if f (p.toNat + 2) < 128 then
    (if f (p.toNat + 2) = 0 ∨ 1000000 < f p.toNat - 128 + (f (p.toNat + 1) - 128) * 128 + f (p.toNat + 2) * 16384 then (0, 0, false)
     else (f p.toNat - 128 + (f (p.toNat + 1) - 128) * 128 + f (p.toNat + 2) * 16384, p + 3, true))
  else (0, 0, false)

section
variable (n : Nat) (f : Nat → Int) (i : Nat)
end
end Go.Proofs.YtkakkjnbhklfpaaGreatDoor

/-
  What is read as a text, plainly.
-/
namespace Go.Proofs.YtkakkjnbhklfpaaGreatDoor
open Go.RowKit
set_option maxRecDepth 4000

/-- What is read as a text. -/
def getText (n : Nat) (f : Nat → Int) (p : Int) : ByteArray × Int × Bool :=
  if (getU n f p).2.2 = true ∧ (getU n f p).1 ≤ n - (getU n f p).2.1 then (strOfNums (lof (getU n f p).1.toNat (fun i => f ((getU n f p).2.1.toNat + i))), (getU n f p).2.1 + (getU n f p).1, true) else (strOfNums [], 0, false)

theorem View.cut {w : World} {b off n cap m k : Nat} {f : Nat → Int} (h : View w (some ⟨b, off, none⟩) n cap f) (hm : k + m ≤ n) : View w (some ⟨b, off + k, none⟩) m (cap - k) (fun i => f (k + i)) := by
  have := h.le
  refine ⟨by omega, fun i hi => h.byte (k + i) (by omega), fun h0 => ?_⟩
  obtain ⟨b', off', e, hb, hc⟩ := h.cells (by omega)
  simp only [Option.some.injEq, Addr.mk.injEq, and_true] at e
  obtain ⟨rfl, rfl⟩ := e
  exact ⟨b, off + k, rfl, hb, fun i hi => by rw [Nat.add_assoc]; exact hc (k + i) (by omega)⟩

end Go.Proofs.YtkakkjnbhklfpaaGreatDoor

/-
  What was put comes back, plainly: a number of its groups, a text of its bytes; cut by one byte the number does not.
-/
namespace Go.Proofs.YtkakkjnbhklfpaaGreatDoor
open Go.RowKit
set_option maxRecDepth 4000

theorem getD_left (l k : List Int) (i : Nat) (h : i < l.length) : (l ++ k).getD i 0 = l.getD i 0 := by
  rw [List.getD_eq_getElem?_getD, List.getD_eq_getElem?_getD, List.getElem?_append_left h]
theorem getD_right (l k : List Int) (i : Nat) : (l ++ k).getD (l.length + i) 0 = k.getD i 0 := by
  rw [List.getD_eq_getElem?_getD, List.getD_eq_getElem?_getD, List.getElem?_append_right (by omega)]
  congr 2
  omega

end Go.Proofs.YtkakkjnbhklfpaaGreatDoor

/-
  Lists of a function's first values are alike just where it is.
-/
namespace Go.Proofs.YtkakkjnbhklfpaaGreatDoor
open Go.RowKit
set_option maxRecDepth 4000

theorem lof_eq {n : Nat} {f g : Nat → Int} : lof n f = lof n g ↔ ∀ i, i < n → f i = g i := by
  constructor
  · intro h i hi
    rw [← lof_get n f i hi, ← lof_get n g i hi, h]
  · intro h
    unfold lof
    apply List.map_congr_left
    intro i hi
    exact h i (List.mem_range.1 hi)
end Go.Proofs.YtkakkjnbhklfpaaGreatDoor

/-
  Rows as bytes, plainly: what stands at a place, what is read there.
-/
namespace Go.Proofs.YtkakkjnbhklfpaaGreatDoor
open Go.RowKit
set_option maxRecDepth 4000

/-- The bytes L stand at place i of the N bytes F. -/
structure AtF (N : Nat) (F : Nat → Int) (i : Nat) (L : List Int) : Prop where
  le : i + L.length ≤ N
  at' : ∀ j, j < L.length → F (i + j) = L.getD j 0
theorem AtF.left {N : Nat} {F : Nat → Int} {i : Nat} {L K : List Int} (h : AtF N F i (L ++ K)) : AtF N F i L :=
  ⟨by have := h.le; rw [List.length_append] at this; omega, fun j hj => by rw [h.at' j (by rw [List.length_append]; omega), getD_left _ _ _ hj]⟩
theorem AtF.right {N : Nat} {F : Nat → Int} {i : Nat} {L K : List Int} (h : AtF N F i (L ++ K)) : AtF N F (i + L.length) K :=
  ⟨by have := h.le; rw [List.length_append] at this; omega, fun j hj => by rw [Nat.add_assoc, h.at' (L.length + j) (by rw [List.length_append]; omega), getD_right]⟩
theorem AtF.append {N : Nat} {F : Nat → Int} {i : Nat} {L K : List Int} (h : AtF N F i L) (k : AtF N F (i + L.length) K) : AtF N F i (L ++ K) :=
  ⟨by have := k.le; rw [List.length_append]; omega, fun j hj => by
    rw [List.length_append] at hj
    by_cases e : j < L.length
    · rw [h.at' j e, getD_left _ _ _ e]
    · obtain ⟨m, rfl⟩ : ∃ m, j = L.length + m := ⟨j - L.length, by omega⟩
      rw [← Nat.add_assoc, k.at' m (by omega), getD_right]⟩
theorem AtF.nil {N : Nat} {F : Nat → Int} {i : Nat} (h : i ≤ N) : AtF N F i [] := ⟨by simpa using h, fun j hj => absurd hj (Nat.not_lt_zero _)⟩
end Go.Proofs.YtkakkjnbhklfpaaGreatDoor

/-
  The sum of bytes, plainly; that it stays below 2^32; that one byte turned turns it.
-/
namespace Go.Proofs.YtkakkjnbhklfpaaGreatDoor

def crcBit (x : Nat) : Nat := if x % 2 = 1 then x / 2 ^^^ 2197175160 else x / 2
def crcBits : Nat → Nat → Nat
  | 0, x => x
  | k + 1, x => crcBit (crcBits k x)
def crcTo (f : Nat → Int) : Nat → Nat
  | 0 => 4294967295
  | k + 1 => crcBits 8 (crcTo f k ^^^ (f k).toNat)
def crc (n : Nat) (f : Nat → Int) : Nat := crcTo f n ^^^ 4294967295

theorem crcBit_lt {x : Nat} (h : x < 4294967296) : crcBit x < 4294967296 := by
  unfold crcBit
  split
  · exact Nat.xor_lt_two_pow (n := 32) (by omega) (by decide)
  · omega
theorem crcBits_lt {k x : Nat} (h : x < 4294967296) : crcBits k x < 4294967296 := by
  induction k with
  | zero => exact h
  | succ k ih => exact crcBit_lt ih
theorem xorByte_lt {x : Nat} {b : Int} (h : x < 4294967296) (h0 : 0 ≤ b ∧ b ≤ 255) : x ^^^ b.toNat < 4294967296 :=
  Nat.xor_lt_two_pow (n := 32) h (by omega)
theorem crcTo_lt {f : Nat → Int} {k : Nat} (h : ∀ i, i < k → 0 ≤ f i ∧ f i ≤ 255) : crcTo f k < 4294967296 := by
  induction k with
  | zero => show 4294967295 < 4294967296; decide
  | succ k ih => exact crcBits_lt (xorByte_lt (ih fun i hi => h i (by omega)) (h k (by omega)))
theorem crc_lt {f : Nat → Int} {n : Nat} (h : ∀ i, i < n → 0 ≤ f i ∧ f i ≤ 255) : crc n f < 4294967296 :=
  Nat.xor_lt_two_pow (n := 32) (crcTo_lt h) (by decide)

end Go.Proofs.YtkakkjnbhklfpaaGreatDoor

/-
  The four bytes of a sum; new rows of bytes.
-/
namespace Go.Proofs.YtkakkjnbhklfpaaGreatDoor
open Go.RowKit
set_option maxRecDepth 4000

def sumL (c : Nat) : List Int := [(c : Int) / 16777216 % 256, (c : Int) / 65536 % 256, (c : Int) / 256 % 256, (c : Int) % 256]
theorem sumL_byte (c : Nat) : ∀ y ∈ sumL c, 0 ≤ y ∧ y ≤ 255 := by
  intro y hy
  simp only [sumL, List.mem_cons, List.not_mem_nil, or_false] at hy
  rcases hy with rfl | rfl | rfl | rfl <;> omega

theorem lof_sumL (c : Nat) : lof 4 (fun i => (sumL c).getD i 0) = sumL c := lof_self (sumL c)

/-- New cells. -/
theorem cellNews (w : World) (l : List Value) (t : TypeId) : ∀ j u, l[j]? = some u → (w.alloc (.cells l.toArray t)).cell? ((⟨w.heap.size, 0, none⟩ : Addr).add j) = some u := by
  intro j u hj
  have e : (⟨w.heap.size, 0, none⟩ : Addr).add j = ⟨w.heap.size, j, none⟩ := by unfold Addr.add; split <;> simp_all
  rw [e]
  simp [hj]

theorem newRow (w : World) (l : List Int) (t : TypeId) : Row t (w.alloc (.cells (l.map (Value.int .u8)).toArray t)) w.heap.size l.length (fun i => l.getD i 0) :=
  Row.ofIs ⟨_, Deep.blk_alloc_new _ _, by simp, fun i hi => by simp [hi]⟩

theorem bytes_of_list {l : List Int} (h : ∀ y ∈ l, 0 ≤ y ∧ y ≤ 255) : ∀ i, i < l.length → 0 ≤ l.getD i 0 ∧ l.getD i 0 ≤ 255 := by
  intro i hi
  have := h _ (List.getElem_mem hi)
  simpa [hi] using this

end Go.Proofs.YtkakkjnbhklfpaaGreatDoor

/-
  The bytes of a row, plainly.
-/
namespace Go.Proofs.YtkakkjnbhklfpaaGreatDoor
open Go.RowKit
set_option maxRecDepth 4000

/-- The bytes of a value behind its kind. -/
def bodyB (k n : Int) (s : ByteArray) : List Int := if k = 1 ∨ k = 2 then varL n else if k = 3 then groups (clampN s.size) ++ sl s else if k = 4 then [n % 256] else []
/-- The bytes of a value. -/
def valB (k n : Int) (s : ByteArray) : List Int := groups (clampN k) ++ bodyB k n s
/-- The bytes of a row's values, with their count ahead. -/
def rowB (m : Nat) (fk fn : Nat → Int) (fs : Nat → ByteArray) : List Int := groups (clampN m) ++ keyT (fun i => valB (fk i) (fn i) (fs i)) m
/-- Whether values are a row of a plan. -/
def rowOk (n : Nat) (fc ft : Nat → Int) (fu : Nat → Bool) (m : Nat) (fk fn : Nat → Int) (fs : Nat → ByteArray) : Bool := planOk n fc ft && (decide (m = n) && fitsAll n m ft fu fk fn fs)
/-- Bytes with their sum behind. -/
def sumB (L : List Int) : List Int := L ++ sumL (crc L.length (fun i => L.getD i 0))
/-- What EncodeRow answers. -/
def encRB (n : Nat) (fc ft : Nat → Int) (fu : Nat → Bool) (m : Nat) (fk fn : Nat → Int) (fs : Nat → ByteArray) : List Int := if rowOk n fc ft fu m fk fn fs then sumB (rowB m fk fn fs) else []

theorem bodyB_len (k n : Int) (s : ByteArray) : (bodyB k n s).length ≤ 8 + s.size := by
  unfold bodyB
  split
  · have := (varL_len n).2; omega
  · split
    · rw [List.length_append, sl_len]; have := (groups_len (clampN s.size)).2; omega
    · split <;> simp <;> omega
theorem bodyB_byte (k n : Int) (s : ByteArray) : ∀ y ∈ bodyB k n s, 0 ≤ y ∧ y ≤ 255 := by
  unfold bodyB
  split
  · exact varL_byte n
  · split
    · intro y hy
      rcases List.mem_append.1 hy with h | h
      · exact groups_byte _ (clampN_bd _).1 (clampN_bd _).2 y h
      · exact sl_byte s y h
    · split
      · intro y hy; simp at hy; omega
      · intro y hy; cases hy
theorem valB_byte (k n : Int) (s : ByteArray) : ∀ y ∈ valB k n s, 0 ≤ y ∧ y ≤ 255 := by
  intro y hy
  unfold valB at hy
  rcases List.mem_append.1 hy with h | h
  · exact groups_byte _ (clampN_bd _).1 (clampN_bd _).2 y h
  · exact bodyB_byte k n s y h
theorem valB_len (k n : Int) (s : ByteArray) : (valB k n s).length ≤ 11 + s.size := by
  unfold valB
  rw [List.length_append]
  have := bodyB_len k n s
  have := (groups_len (clampN k)).2
  omega
end Go.Proofs.YtkakkjnbhklfpaaGreatDoor

/-
  A slice of values that reads, by a function of the index, and how that is carried from one world to the next.
-/
namespace Go.Proofs.YtkakkjnbhklfpaaGreatDoor
open Go.RowKit
set_option maxRecDepth 4000

/-- The slice value '.slice ao n cap' reads, in the world w, as the n values f 0 up to f (n - 1). -/
structure VView (w : World) (ao : Option Addr) (n cap : Nat) (fk fn : Nat → Int) (fs : Nat → ByteArray) : Prop where
  le : n ≤ cap
  cells : 0 < n → ∃ b off, ao = some ⟨b, off, none⟩ ∧ b < w.heap.size ∧ ∀ i, i < n → w.cell? ⟨b, off + i * 3, none⟩ = some (.int .i64 (fk i)) ∧ w.cell? ⟨b, off + i * 3 + 1, none⟩ = some (.int .i64 (fn i)) ∧ w.cell? ⟨b, off + i * 3 + 2, none⟩ = some (.string (fs i))

theorem VView.below {w w' : World} {ao : Option Addr} {n cap : Nat} {fk fn : Nat → Int} {fs : Nat → ByteArray} (h : VView w ao n cap fk fn fs) (hb : Below w.heap.size w w') : VView w' ao n cap fk fn fs := by
  refine ⟨h.le, fun hn => ?_⟩
  obtain ⟨b, off, e, hlt, hc⟩ := h.cells hn
  refine ⟨b, off, e, Nat.lt_of_lt_of_le hlt hb.size, fun i hi => ?_⟩
  rw [hb.cell (p := ⟨b, off + i * 3, none⟩) hlt, hb.cell (p := ⟨b, off + i * 3 + 1, none⟩) hlt, hb.cell (p := ⟨b, off + i * 3 + 2, none⟩) hlt]
  exact hc i hi

end Go.Proofs.YtkakkjnbhklfpaaGreatDoor

/-
  Rows of values of the call's own, that grow by one value at a time.
-/
namespace Go.Proofs.YtkakkjnbhklfpaaGreatDoor
open Go.RowKit
set_option maxRecDepth 4000

/-- The cells of the first k values. -/
def rowC (gk gn : Nat → Int) (gs : Nat → ByteArray) : Nat → List Value
  | 0 => []
  | k + 1 => rowC gk gn gs k ++ [.int .i64 (gk k), .int .i64 (gn k), .string (gs k)]
theorem rowC_len (gk gn : Nat → Int) (gs : Nat → ByteArray) : ∀ k, (rowC gk gn gs k).length = k * 3
  | 0 => rfl
  | k + 1 => by rw [rowC, List.length_append, rowC_len gk gn gs k]; simp; omega
theorem rowC_get (gk gn : Nat → Int) (gs : Nat → ByteArray) : ∀ k i, i < k → (rowC gk gn gs k)[i * 3]? = some (.int .i64 (gk i)) ∧ (rowC gk gn gs k)[i * 3 + 1]? = some (.int .i64 (gn i)) ∧ (rowC gk gn gs k)[i * 3 + 2]? = some (.string (gs i))
  | k + 1, i, hi => by
    have hl := rowC_len gk gn gs k
    by_cases e : i < k
    · obtain ⟨h1, h2, h3⟩ := rowC_get gk gn gs k i e
      rw [rowC, List.getElem?_append_left (by omega), List.getElem?_append_left (by omega), List.getElem?_append_left (by omega)]
      exact ⟨h1, h2, h3⟩
    · obtain rfl : i = k := by omega
      rw [rowC, List.getElem?_append_right (by omega), List.getElem?_append_right (by omega), List.getElem?_append_right (by omega), hl]
      simp [show i * 3 + 1 - i * 3 = 1 by omega, show i * 3 + 2 - i * 3 = 2 by omega]
theorem rowC_congr {gk gn : Nat → Int} {gs : Nat → ByteArray} {hk hn : Nat → Int} {hs : Nat → ByteArray} : ∀ {k : Nat}, (∀ i, i < k → gk i = hk i ∧ gn i = hn i ∧ gs i = hs i) → rowC gk gn gs k = rowC hk hn hs k
  | 0, _ => rfl
  | k + 1, e => by
    obtain ⟨h1, h2, h3⟩ := e k (by omega)
    rw [rowC, rowC, rowC_congr (fun i hi => e i (by omega)), h1, h2, h3]

/-- A row of values of the call's own reads. -/
theorem vview_of_own {w : World} {base : Nat} {v : Value} {N : Nat} {gk gn : Nat → Int} {gs : Nat → ByteArray} (h : w.ownsRow base 58 3 v N (rowC gk gn gs N)) : ∃ a c, v = .slice a N c ∧ VView w a N c gk gn gs ∧ (v ≠ .slice none 0 0 → ∃ g, a = some ⟨g, 0, none⟩ ∧ base ≤ g) := by
  obtain ⟨hl, h⟩ := h
  rcases h with ⟨rfl, h0⟩ | ⟨g, c, cur, rfl, hb, hg, hnc, _, hcs, ht⟩
  · have hN : N = 0 := by have := h0; have := rowC_len gk gn gs N; omega
    subst hN
    exact ⟨none, 0, rfl, ⟨Nat.le_refl _, fun hn => absurd hn (Nat.lt_irrefl _)⟩, fun hne => absurd rfl hne⟩
  · refine ⟨_, c, rfl, ⟨hnc, fun hn => ⟨g, 0, rfl, ?_, fun i hi => ?_⟩⟩, fun _ => ⟨g, rfl, hb⟩⟩
    · exact (Array.getElem?_eq_some_iff.1 hg).1
    · have key : ∀ j x, j < N * 3 → (rowC gk gn gs N)[j]? = some x → w.cell? ⟨g, 0 + j, none⟩ = some x := by
        intro j x hj hx
        rw [← ht, List.getElem?_take, if_pos hj] at hx
        simp only [World.cell?, hg, Nat.zero_add]
        simpa using hx
      obtain ⟨h1, h2, h3⟩ := rowC_get gk gn gs N i hi
      have k0 := key _ _ (by omega) h1
      have k1 := key _ _ (by omega) h2
      have k2 := key _ _ (by omega) h3
      simp only [Nat.zero_add] at k0 k1 k2 ⊢
      exact ⟨k0, k1, k2⟩
end Go.Proofs.YtkakkjnbhklfpaaGreatDoor

/-
  A row of values grows by one value.
-/
namespace Go.Proofs.YtkakkjnbhklfpaaGreatDoor
open Go.RowKit
set_option maxRecDepth 4000

theorem infoVal3 : ∃ i, Tryz.prog.info? 58 = some i ∧ i.zero = some (.agg #[.int .i64 0, .int .i64 0, .string ⟨#[]⟩]) ∧ i.size = 3 ∧ i.bytes = 32 := by
  have h : (Tryz.prog.info? 58).map (fun i => (i.zero, i.size, i.bytes)) = some (some (.agg #[.int .i64 0, .int .i64 0, .string ⟨#[]⟩]), 3, 32) := by kernel_rfl
  obtain ⟨i, hi, hz⟩ := Option.map_eq_some_iff.1 h
  simp only [Prod.mk.injEq] at hz
  exact ⟨i, hi, hz.1, hz.2.1, hz.2.2⟩

/-- The cells of a new row of one value. -/
theorem cells_one (W : World) (k n : Int) (s : ByteArray) : ∀ j u, [Value.int .i64 k, .int .i64 n, .string s][j]? = some u → (W.alloc (.cells #[.int .i64 k, .int .i64 n, .string s] 58)).cell? ((⟨W.heap.size, 0, none⟩ : Addr).add j) = some u := by
  intro j u h
  obtain ⟨c0, c1, c2⟩ := (Box.new W k n s).cells
  have ea : ∀ j, (⟨W.heap.size, 0, none⟩ : Addr).add j = ⟨W.heap.size, 0 + j, none⟩ := fun j => by unfold Addr.add; split <;> simp_all
  match j, h with
  | 0, h => cases h; rw [ea]; exact c0
  | 1, h => cases h; rw [ea]; exact c1
  | 2, h => cases h; rw [ea]; exact c2
  | j + 3, h => simp at h
theorem one_cells (k n : Int) (s : ByteArray) : ∀ u ∈ [Value.int .i64 k, .int .i64 n, .string s], u.oneCell' = true := by
  intro u hu
  simp at hu
  rcases hu with rfl | rfl | rfl <;> rfl

theorem own_below3 {w w' : World} {base : Nat} {t : TypeId} {v : Value} {n : Nat} {l : List Value} (h : w.ownsRow base t 3 v n l) (hb : Below w.heap.size w w') : w'.ownsRow base t 3 v n l := by
  refine h.kept (row := none) ⟨hb.os, hb.tape, hb.output, hb.size, fun k hk _ => hb.block k hk⟩ ?_
  cases hv : v.ownBlock with
  | none => exact Or.inl rfl
  | some k => exact Or.inr (fun e => by cases e)
/-- The value of a part's column. -/
def pickK (fc : Nat → Int) (m : Nat) (f : Nat → Int) (i : Nat) : Int := if 0 ≤ fc i ∧ fc i < m then f (fc i).toNat else 0
def pickS (fc : Nat → Int) (m : Nat) (f : Nat → ByteArray) (i : Nat) : ByteArray := if 0 ≤ fc i ∧ fc i < m then f (fc i).toNat else ⟨#[]⟩
end Go.Proofs.YtkakkjnbhklfpaaGreatDoor

/-
  Heads and keys, plainly; what a call that makes bytes comes to.
-/
namespace Go.Proofs.YtkakkjnbhklfpaaGreatDoor
open Go.RowKit
set_option maxRecDepth 4000

/-- Whether the schema, the table and the index are there. -/
def There (f : Nat → PDef) (n : Nat) (t i : Int) : Prop := firstF f n = -1 ∧ 0 ≤ t ∧ t < n ∧ -1 ≤ i ∧ i < (f t.toNat).ni
/-- The plan of an index; of -1 that of Primary. -/
def planN (D : PDef) (i : Int) : Nat := if i = -1 then priN D else idxN D i
def planL (D : PDef) (i : Int) : Nat → PBy := if i = -1 then D.pri else ixpL D i
/-- What a call that makes bytes comes to. -/
def ByTo (w : World) (L : List Int) (e : Ending) (w' : World) : Prop := ∃ g c, e = .returned (.slice (some ⟨g, 0, none⟩) L.length c) ∧ w'.ownsRow w.heap.size 5 1 (.slice (some ⟨g, 0, none⟩) L.length c) L.length (bl L) ∧ Below w.heap.size w w'
theorem ByTo.low {w w0 w' : World} {L : List Int} {e : Ending} (h : ByTo w L e w') (hb : Below w0.heap.size w0 w) : ByTo w0 L e w' := by
  obtain ⟨g, c, he, hO, hB⟩ := h
  exact ⟨g, c, he, own_low hO hb.size, hb.trans (hB.mono hb.size)⟩
theorem own_nilB (w : World) : (w.alloc (.cells #[] 5)).ownsRow w.heap.size 5 1 (.slice (some ⟨w.heap.size, 0, none⟩) 0 0) 0 (bl []) := by
  have := World.ownsRow_lit (base := w.heap.size) (e := 5) (size := 1) w #[] 0 (Nat.le_refl _) (Nat.zero_le _) rfl
  simpa [bl] using this
theorem ByTo.nil (w : World) : ByTo w [] (.returned (.slice (some ⟨w.heap.size, 0, none⟩) 0 0)) (w.alloc (.cells #[] 5)) := ⟨_, _, rfl, own_nilB w, (Below.refl _ _).alloc (Nat.le_refl _) _⟩

open Classical in
/-- The first two bytes of a key. -/
noncomputable def headB (f : Nat → PDef) (n : Nat) (t i : Int) : List Int := if There f n t i then [t + 1, i + 1] else []

/-- Whether a row is right of a table. -/
def rowOkD (D : PDef) (m : Nat) (fk fn : Nat → Int) (fs : Nat → ByteArray) : Bool := rowOk (rowN D) (fun i => (plF D.col allL i).col) (fun i => (plF D.col allL i).type) (fun i => (plF D.col allL i).null) m fk fn fs
/-- The bytes of a plan's key. -/
def keyQ (N : Nat) (P : Nat → PPart) (m : Nat) (fk fn : Nat → Int) (fs : Nat → ByteArray) : List Int := keyL N (fun i => (P i).col) (fun i => (P i).type) (fun i => (P i).null) (fun i => (P i).desc) N (pickK (fun i => (P i).col) m fk) (pickK (fun i => (P i).col) m fn) (pickS (fun i => (P i).col) m fs)

open Classical in
/-- The bytes of a row's key. -/
noncomputable def keyB (f : Nat → PDef) (n : Nat) (t i : Int) (m : Nat) (fk fn : Nat → Int) (fs : Nat → ByteArray) : List Int := if There f n t i ∧ rowOkD (f t.toNat) m fk fn fs = true then [t + 1, i + 1] ++ keyQ (planN (f t.toNat) i) (plF (f t.toNat).col (planL (f t.toNat) i)) m fk fn fs else []
theorem planN_le (D : PDef) (i : Int) : planN D i ≤ 6 := by
  unfold planN
  split
  · unfold priN
    split
    · rename_i h; have := partsF_two (good_pri h); omega
    · omega
  · unfold idxN
    split
    · rename_i h
      have h1 := partsF_two (good_pri h.1)
      have h2 := partsF_two (good_idx h.1 (i := i.toNat) (by omega))
      omega
    · omega
theorem rowN6 (D : PDef) : rowN D ≤ 6 := by
  unfold rowN
  split
  · rename_i h; exact (good_nc h).2.2
  · omega
theorem There.small {f : Nat → PDef} {n : Nat} {t i : Int} (h : There f n t i) : (0 ≤ t ∧ t ≤ 2) ∧ -1 ≤ i ∧ i ≤ 1 := by
  have h0 := (firstF_none h.1).1
  have h1 := (firstF_none h.1).2.1 t.toNat (by have := h.2; omega)
  have h2 := (checkF_good h1).2.2.2.1
  have := h.2
  omega

end Go.Proofs.YtkakkjnbhklfpaaGreatDoor

/-
  Variables of three and of four cells, as rows.
-/
namespace Go.Proofs.YtkakkjnbhklfpaaGreatDoor
open Go.RowKit
set_option maxRecDepth 4000

def cell3 (x0 x1 x2 : Value) : Nat → Value
  | 0 => x0
  | 1 => x1
  | _ => x2
def cell4 (x0 x1 x2 x3 : Value) : Nat → Value
  | 0 => x0
  | 1 => x1
  | 2 => x2
  | _ => x3
/-- A variable of three cells. -/
def V3 (w : World) (B : Nat) (T : TypeId) (x0 x1 x2 : Value) : Prop := w.rowIs B T 3 (cell3 x0 x1 x2)
/-- A variable of four cells. -/
def V4 (w : World) (B : Nat) (T : TypeId) (x0 x1 x2 x3 : Value) : Prop := w.rowIs B T 4 (cell4 x0 x1 x2 x3)
theorem V3.new (w : World) (T : TypeId) (x0 x1 x2 : Value) : V3 (w.alloc (.cells #[x0, x1, x2] T)) w.heap.size T x0 x1 x2 :=
  World.rowIs_alloc w _ T (cell3 x0 x1 x2) (fun j hj => by match j, hj with | 0, _ => rfl | 1, _ => rfl | 2, _ => rfl)
theorem V4.new (w : World) (T : TypeId) (x0 x1 x2 x3 : Value) : V4 (w.alloc (.cells #[x0, x1, x2, x3] T)) w.heap.size T x0 x1 x2 x3 :=
  World.rowIs_alloc w _ T (cell4 x0 x1 x2 x3) (fun j hj => by match j, hj with | 0, _ => rfl | 1, _ => rfl | 2, _ => rfl | 3, _ => rfl)
theorem V3.lt {w : World} {B : Nat} {T : TypeId} {x0 x1 x2 : Value} (h : V3 w B T x0 x1 x2) : B < w.heap.size := World.rowIs.lt h
theorem V4.lt {w : World} {B : Nat} {T : TypeId} {x0 x1 x2 x3 : Value} (h : V4 w B T x0 x1 x2 x3) : B < w.heap.size := World.rowIs.lt h
theorem V3.block {w w' : World} {B : Nat} {T : TypeId} {x0 x1 x2 : Value} (h : V3 w B T x0 x1 x2) (e : w'.heap[B]? = w.heap[B]?) : V3 w' B T x0 x1 x2 := World.rowIs.of_block h e
theorem V4.block {w w' : World} {B : Nat} {T : TypeId} {x0 x1 x2 x3 : Value} (h : V4 w B T x0 x1 x2 x3) (e : w'.heap[B]? = w.heap[B]?) : V4 w' B T x0 x1 x2 x3 := World.rowIs.of_block h e
theorem V3.below {w w' : World} {B : Nat} {T : TypeId} {x0 x1 x2 : Value} (h : V3 w B T x0 x1 x2) (hb : Below w.heap.size w w') : V3 w' B T x0 x1 x2 := h.block (hb.block B h.lt)
theorem V4.below {w w' : World} {B : Nat} {T : TypeId} {x0 x1 x2 x3 : Value} (h : V4 w B T x0 x1 x2 x3) (hb : Below w.heap.size w w') : V4 w' B T x0 x1 x2 x3 := h.block (hb.block B h.lt)
theorem V3.cells {w : World} {B : Nat} {T : TypeId} {x0 x1 x2 : Value} (h : V3 w B T x0 x1 x2) : w.cell? ⟨B, 0, none⟩ = some x0 ∧ w.cell? ⟨B, 1, none⟩ = some x1 ∧ w.cell? ⟨B, 2, none⟩ = some x2 :=
  ⟨World.rowIs.cell h (i := 0) (by decide), World.rowIs.cell h (i := 1) (by decide), World.rowIs.cell h (i := 2) (by decide)⟩
theorem V4.cells {w : World} {B : Nat} {T : TypeId} {x0 x1 x2 x3 : Value} (h : V4 w B T x0 x1 x2 x3) : w.cell? ⟨B, 0, none⟩ = some x0 ∧ w.cell? ⟨B, 1, none⟩ = some x1 ∧ w.cell? ⟨B, 2, none⟩ = some x2 ∧ w.cell? ⟨B, 3, none⟩ = some x3 :=
  ⟨World.rowIs.cell h (i := 0) (by decide), World.rowIs.cell h (i := 1) (by decide), World.rowIs.cell h (i := 2) (by decide), World.rowIs.cell h (i := 3) (by decide)⟩
theorem V3.fz {w : World} {B : Nat} {T : TypeId} {x0 x1 x2 : Value} (h : V3 w B T x0 x1 x2) : w.frozen? ⟨B, 0, none⟩ = false ∧ w.frozen? ⟨B, 1, none⟩ = false ∧ w.frozen? ⟨B, 2, none⟩ = false :=
  ⟨World.rowIs.frozen h 0, World.rowIs.frozen h 1, World.rowIs.frozen h 2⟩
theorem V4.fz {w : World} {B : Nat} {T : TypeId} {x0 x1 x2 x3 : Value} (h : V4 w B T x0 x1 x2 x3) : w.frozen? ⟨B, 0, none⟩ = false ∧ w.frozen? ⟨B, 1, none⟩ = false ∧ w.frozen? ⟨B, 2, none⟩ = false ∧ w.frozen? ⟨B, 3, none⟩ = false :=
  ⟨World.rowIs.frozen h 0, World.rowIs.frozen h 1, World.rowIs.frozen h 2, World.rowIs.frozen h 3⟩
theorem V3.other {w : World} {B C i : Nat} {T : TypeId} {x0 x1 x2 u : Value} (h : V3 w B T x0 x1 x2) (hne : B ≠ C) : V3 (w.setCell ⟨C, i, none⟩ u) B T x0 x1 x2 := h.block (Below.heap_setCell _ _ _ _ hne)
theorem V4.other {w : World} {B C i : Nat} {T : TypeId} {x0 x1 x2 x3 u : Value} (h : V4 w B T x0 x1 x2 x3) (hne : B ≠ C) : V4 (w.setCell ⟨C, i, none⟩ u) B T x0 x1 x2 x3 := h.block (Below.heap_setCell _ _ _ _ hne)
theorem V3.set0 {w : World} {B : Nat} {T : TypeId} {x0 x1 x2 : Value} (h : V3 w B T x0 x1 x2) (u : Value) : V3 (w.setCell ⟨B, 0, none⟩ u) B T u x1 x2 :=
  (World.rowIs.set h 0 _).congr (fun j hj => by match j, hj with | 0, _ => rfl | 1, _ => rfl | 2, _ => rfl)
theorem V3.set1 {w : World} {B : Nat} {T : TypeId} {x0 x1 x2 : Value} (h : V3 w B T x0 x1 x2) (u : Value) : V3 (w.setCell ⟨B, 1, none⟩ u) B T x0 u x2 :=
  (World.rowIs.set h 1 _).congr (fun j hj => by match j, hj with | 0, _ => rfl | 1, _ => rfl | 2, _ => rfl)
theorem V3.set2 {w : World} {B : Nat} {T : TypeId} {x0 x1 x2 : Value} (h : V3 w B T x0 x1 x2) (u : Value) : V3 (w.setCell ⟨B, 2, none⟩ u) B T x0 x1 u :=
  (World.rowIs.set h 2 _).congr (fun j hj => by match j, hj with | 0, _ => rfl | 1, _ => rfl | 2, _ => rfl)
theorem V4.set0 {w : World} {B : Nat} {T : TypeId} {x0 x1 x2 x3 : Value} (h : V4 w B T x0 x1 x2 x3) (u : Value) : V4 (w.setCell ⟨B, 0, none⟩ u) B T u x1 x2 x3 :=
  (World.rowIs.set h 0 _).congr (fun j hj => by match j, hj with | 0, _ => rfl | 1, _ => rfl | 2, _ => rfl | 3, _ => rfl)
theorem V4.set1 {w : World} {B : Nat} {T : TypeId} {x0 x1 x2 x3 : Value} (h : V4 w B T x0 x1 x2 x3) (u : Value) : V4 (w.setCell ⟨B, 1, none⟩ u) B T x0 u x2 x3 :=
  (World.rowIs.set h 1 _).congr (fun j hj => by match j, hj with | 0, _ => rfl | 1, _ => rfl | 2, _ => rfl | 3, _ => rfl)
theorem V4.set2 {w : World} {B : Nat} {T : TypeId} {x0 x1 x2 x3 : Value} (h : V4 w B T x0 x1 x2 x3) (u : Value) : V4 (w.setCell ⟨B, 2, none⟩ u) B T x0 x1 u x3 :=
  (World.rowIs.set h 2 _).congr (fun j hj => by match j, hj with | 0, _ => rfl | 1, _ => rfl | 2, _ => rfl | 3, _ => rfl)
theorem V4.set3 {w : World} {B : Nat} {T : TypeId} {x0 x1 x2 x3 : Value} (h : V4 w B T x0 x1 x2 x3) (u : Value) : V4 (w.setCell ⟨B, 3, none⟩ u) B T x0 x1 x2 u :=
  (World.rowIs.set h 3 _).congr (fun j hj => by match j, hj with | 0, _ => rfl | 1, _ => rfl | 2, _ => rfl | 3, _ => rfl)
end Go.Proofs.YtkakkjnbhklfpaaGreatDoor

/-
  What turns new blocks of one type alone; what is carried over it.
-/
namespace Go.Proofs.YtkakkjnbhklfpaaGreatDoor
open Go.RowKit
set_option maxRecDepth 4000

/-- Of what was there only blocks of the type T that came behind w may have turned. -/
structure Eff (w : World) (T : TypeId) (W W' : World) : Prop where
  os : W'.os = W.os
  tape : W'.tape = W.tape
  output : W'.output = W.output
  size : W.heap.size ≤ W'.heap.size
  old : ∀ k, k < w.heap.size → k < W.heap.size → W'.heap[k]? = W.heap[k]?
  ty : ∀ (k : Nat) (c : Array Value) (U : TypeId) (fr : Nat × Nat), W.heap[k]? = some (.cells c U fr) → U ≠ T → W'.heap[k]? = W.heap[k]?
theorem Eff.ofBelow {w : World} {T : TypeId} {W W' : World} (h : Below W.heap.size W W') : Eff w T W W' :=
  ⟨h.os, h.tape, h.output, h.size, fun k _ hk => h.block k hk, fun k _ _ _ hk _ => h.block k (Array.getElem?_eq_some_iff.1 hk).1⟩
theorem Eff.alloc (w : World) (T : TypeId) (W : World) (o : Obj) : Eff w T W (W.alloc o) := Eff.ofBelow ((Below.refl _ _).alloc (Nat.le_refl _) _)
theorem Eff.trans {w : World} {T : TypeId} {A B C : World} (h : Eff w T A B) (k : Eff w T B C) : Eff w T A C := by
  refine ⟨k.os.trans h.os, k.tape.trans h.tape, k.output.trans h.output, Nat.le_trans h.size k.size, fun i hi hA => (k.old i hi (Nat.lt_of_lt_of_le hA h.size)).trans (h.old i hi hA), fun i c U fr hi hU => ?_⟩
  have h1 := h.ty i c U fr hi hU
  exact (k.ty i c U fr (h1.trans hi) hU).trans h1
theorem Eff.set {w W : World} {T : TypeId} {B i : Nat} {c : Array Value} {fr : Nat × Nat} (hB : w.heap.size ≤ B) (hb : W.heap[B]? = some (.cells c T fr)) (u : Value) : Eff w T W (W.setCell ⟨B, i, none⟩ u) := by
  refine ⟨rfl, rfl, rfl, by simp, fun k hk _ => Below.heap_setCell _ _ _ _ (by show k ≠ B; omega), fun k c' U fr' hk hU => Below.heap_setCell _ _ _ _ ?_⟩
  rintro rfl
  rw [hb] at hk
  cases hk
  exact hU rfl
theorem Eff.grown {w W W' : World} {T : TypeId} {c N : Nat} {v : Value} {xs : List Value} (h : W.ownsRow w.heap.size T c v N xs) (hg : W.grownBy W' v.ownBlock) : Eff w T W W' := by
  have key : ∀ j, v.ownBlock = some j → w.heap.size ≤ j ∧ ∃ cur, W.heap[j]? = some (.cells cur T (0, 0)) := by
    intro j hj
    rcases h.2 with ⟨rfl, _⟩ | ⟨g, cap, cur, rfl, hb, hgb, _⟩
    · simp [Value.ownBlock] at hj
    · obtain rfl : g = j := by simpa [Value.ownBlock] using hj
      exact ⟨hb, cur, hgb⟩
  refine ⟨hg.os, hg.tape, hg.output, hg.size, fun k hk hW => hg.block k hW (fun e => by have := (key k e.symm).1; omega), fun k c' U fr hk hU => hg.block k (Array.getElem?_eq_some_iff.1 hk).1 (fun e => ?_)⟩
  obtain ⟨_, cur, h2⟩ := key k e.symm
  rw [h2] at hk
  cases hk
  exact hU rfl

/-- A table's variable that came behind w. -/
structure Vd (w : World) (B : Nat) (x0 x1 x2 x3 : Value) (W : World) : Prop where
  v : V4 W B 36 x0 x1 x2 x3
  ge : w.heap.size ≤ B
theorem V4.blk {w : World} {B : Nat} {T : TypeId} {x0 x1 x2 x3 : Value} (h : V4 w B T x0 x1 x2 x3) : ∃ c, w.heap[B]? = some (.cells c T (0, 0)) := by
  obtain ⟨c, h1, _⟩ := h
  exact ⟨c, h1⟩
theorem Vd.eff {w : World} {B : Nat} {x0 x1 x2 x3 : Value} {T : TypeId} {W W' : World} (h : Vd w B x0 x1 x2 x3 W) (e : Eff w T W W') (hT : 36 ≠ T) : Vd w B x0 x1 x2 x3 W' := by
  obtain ⟨c, hc⟩ := h.v.blk
  exact ⟨h.v.block (e.ty B _ _ _ hc hT), h.ge⟩
theorem Vd.but {w : World} {B : Nat} {x0 x1 x2 x3 : Value} {g : Nat} {W W' : World} (h : Vd w B x0 x1 x2 x3 W) (hb : But g W W') (hg : g < w.heap.size) : Vd w B x0 x1 x2 x3 W' :=
  ⟨h.v.block (hb.block B h.v.lt (by have := h.ge; omega)), h.ge⟩
theorem Vd.below {w : World} {B : Nat} {x0 x1 x2 x3 : Value} {W W' : World} (h : Vd w B x0 x1 x2 x3 W) (hb : Below W.heap.size W W') : Vd w B x0 x1 x2 x3 W' := ⟨h.v.below hb, h.ge⟩
theorem Vd.new {w W : World} (hw : w.heap.size ≤ W.heap.size) (x0 x1 x2 x3 : Value) : Vd w W.heap.size x0 x1 x2 x3 (W.alloc (.cells #[x0, x1, x2, x3] 36)) := ⟨V4.new _ _ _ _ _ _, hw⟩
/-- Storing into the variable. -/
theorem Vd.effSet {w : World} {B : Nat} {x0 x1 x2 x3 : Value} {W : World} (h : Vd w B x0 x1 x2 x3 W) (i : Nat) (u : Value) : Eff w 36 W (W.setCell ⟨B, i, none⟩ u) := by
  obtain ⟨c, hc⟩ := h.v.blk
  exact Eff.set h.ge hc u
theorem Vd.set0 {w : World} {B : Nat} {x0 x1 x2 x3 : Value} {W : World} (h : Vd w B x0 x1 x2 x3 W) (u : Value) : Vd w B u x1 x2 x3 (W.setCell ⟨B, 0, none⟩ u) := ⟨h.v.set0 u, h.ge⟩
theorem Vd.set1 {w : World} {B : Nat} {x0 x1 x2 x3 : Value} {W : World} (h : Vd w B x0 x1 x2 x3 W) (u : Value) : Vd w B x0 u x2 x3 (W.setCell ⟨B, 1, none⟩ u) := ⟨h.v.set1 u, h.ge⟩
theorem Vd.set2 {w : World} {B : Nat} {x0 x1 x2 x3 : Value} {W : World} (h : Vd w B x0 x1 x2 x3 W) (u : Value) : Vd w B x0 x1 u x3 (W.setCell ⟨B, 2, none⟩ u) := ⟨h.v.set2 u, h.ge⟩
theorem Vd.set3 {w : World} {B : Nat} {x0 x1 x2 x3 : Value} {W : World} (h : Vd w B x0 x1 x2 x3 W) (u : Value) : Vd w B x0 x1 x2 u (W.setCell ⟨B, 3, none⟩ u) := ⟨h.v.set3 u, h.ge⟩
theorem Vd.other {w : World} {B C i : Nat} {x0 x1 x2 x3 u : Value} {W : World} (h : Vd w B x0 x1 x2 x3 W) (hne : B ≠ C) : Vd w B x0 x1 x2 x3 (W.setCell ⟨C, i, none⟩ u) := ⟨h.v.other hne, h.ge⟩

/-- Rows of the call's own. -/
theorem own_eff {w W W' : World} {T U : TypeId} {c N : Nat} {v : Value} {xs : List Value} (h : W.ownsRow w.heap.size U c v N xs) (e : Eff w T W W') (hT : U ≠ T) : W'.ownsRow w.heap.size U c v N xs := by
  refine ⟨h.1, ?_⟩
  rcases h.2 with ⟨e1, h0⟩ | ⟨g, k, cur, e1, hb0, hg, hr⟩
  · exact .inl ⟨e1, h0⟩
  · exact .inr ⟨g, k, cur, e1, hb0, (e.ty g _ _ _ hg hT).trans hg, hr⟩
theorem own_but9 {w W W' : World} {U : TypeId} {c N g : Nat} {v : Value} {xs : List Value} (h : W.ownsRow w.heap.size U c v N xs) (hb : But g W W') (hg : g < w.heap.size) : W'.ownsRow w.heap.size U c v N xs := by
  refine ⟨h.1, ?_⟩
  rcases h.2 with ⟨e1, h0⟩ | ⟨k, cp, cur, e1, hb0, hk, hr⟩
  · exact .inl ⟨e1, h0⟩
  · exact .inr ⟨k, cp, cur, e1, hb0, (hb.block k (Array.getElem?_eq_some_iff.1 hk).1 (by omega)).trans hk, hr⟩

theorem own_belowG9 {W W' : World} {base T c N : Nat} {v : Value} {xs : List Value} (h : W.ownsRow base T c v N xs) (hb : Below W.heap.size W W') : W'.ownsRow base T c v N xs := by
  refine ⟨h.1, ?_⟩
  rcases h.2 with ⟨e, h0⟩ | ⟨g, k, cur, e, hb0, hg, hr⟩
  · exact .inl ⟨e, h0⟩
  · exact .inr ⟨g, k, cur, e, hb0, (hb.block g (Array.getElem?_eq_some_iff.1 hg).1).trans hg, hr⟩
theorem own_succG {W : World} {base T c k : Nat} {v : Value} {xs : List Value} (h : W.ownsRow base T c v (k + 1) xs) : ∃ g cap, v = .slice (some ⟨g, 0, none⟩) (k + 1) cap := by
  rcases h.2 with ⟨_, h0⟩ | ⟨g, cap, cur, e, _⟩
  · omega
  · exact ⟨g, cap, e⟩

/-- The parts of an index, in a row of their own. -/
structure PtAt (w : World) (A C : Nat) (x : PIdx) (W : World) : Prop where
  own : W.ownsRow w.heap.size 67 2 (.slice (some ⟨A, 0, none⟩) x.n C) x.n (rowG (encB x.part) x.n)
theorem PtAt.view {w : World} {A C : Nat} {x : PIdx} {W : World} (h : PtAt w A C x W) : BView W (some ⟨A, 0, none⟩) x.n C x.part := by
  obtain ⟨a, k, e, hv, _⟩ := bview_of_own h.own
  cases e
  exact hv
/-- The parts of all indexes; none lies in the block b. -/
structure Pts (w : World) (b : Option Nat) (ni : Nat) (idx : Nat → PIdx) (A C : Nat → Nat) (W : World) : Prop where
  at_ : ∀ i, i < ni → PtAt w (A i) (C i) (idx i) W
  ne : ∀ i, i < ni → b ≠ some (A i)
theorem Pts.eff {w : World} {b : Option Nat} {ni : Nat} {idx : Nat → PIdx} {A C : Nat → Nat} {T : TypeId} {W W' : World} (h : Pts w b ni idx A C W) (e : Eff w T W W') (hT : 67 ≠ T) : Pts w b ni idx A C W' :=
  ⟨fun i hi => ⟨own_eff (h.at_ i hi).own e hT⟩, h.ne⟩
theorem Pts.but {w : World} {b : Option Nat} {ni : Nat} {idx : Nat → PIdx} {A C : Nat → Nat} {g : Nat} {W W' : World} (h : Pts w b ni idx A C W) (hb : But g W W') (hg : g < w.heap.size) : Pts w b ni idx A C W' :=
  ⟨fun i hi => ⟨own_but9 (h.at_ i hi).own hb hg⟩, h.ne⟩
theorem Pts.grown {w : World} {b : Option Nat} {ni : Nat} {idx : Nat → PIdx} {A C : Nat → Nat} {W W' : World} (h : Pts w b ni idx A C W) (hg : W.grownBy W' b) : Pts w b ni idx A C W' :=
  ⟨fun i hi => ⟨(h.at_ i hi).own.kept hg (.inr (fun e => h.ne i hi (by simpa [Value.ownBlock] using e.symm)))⟩, h.ne⟩
theorem Pts.none (w : World) (b : Option Nat) (idx : Nat → PIdx) (A C : Nat → Nat) (W : World) : Pts w b 0 idx A C W := ⟨fun _ hi => absurd hi (Nat.not_lt_zero _), fun _ hi => absurd hi (Nat.not_lt_zero _)⟩

/-- A row of texts of the call's own, only read. -/
structure Txs (w : World) (b : Nat) (l : List ByteArray) (W : World) : Prop where
  blk : W.heap[b]? = some (.cells (l.map Value.string).toArray 9 (0, 0))
  ge : w.heap.size ≤ b
theorem Txs.eff {w : World} {b : Nat} {l : List ByteArray} {T : TypeId} {W W' : World} (h : Txs w b l W) (e : Eff w T W W') (hT : 9 ≠ T) : Txs w b l W' := ⟨(e.ty b _ _ _ h.blk hT).trans h.blk, h.ge⟩
theorem Txs.but {w : World} {b : Nat} {l : List ByteArray} {g : Nat} {W W' : World} (h : Txs w b l W) (hb : But g W W') (hg : g < w.heap.size) : Txs w b l W' :=
  ⟨(hb.block b (Array.getElem?_eq_some_iff.1 h.blk).1 (by have := h.ge; omega)).trans h.blk, h.ge⟩
theorem Txs.new {w W : World} (hw : w.heap.size ≤ W.heap.size) (l : List ByteArray) : Txs w W.heap.size l (W.alloc (.cells (l.map Value.string).toArray 9)) := ⟨heap_alloc_new _ _, hw⟩
theorem Txs.cell {w : World} {b : Nat} {l : List ByteArray} {W : World} (h : Txs w b l W) {i : Nat} {s : ByteArray} (hi : l[i]? = some s) : W.cell? ⟨b, i, none⟩ = some (.string s) := by
  simp [World.cell?, h.blk, hi]
theorem infoCol9 : ∃ i, Tryz.prog.info? 90 = some i ∧ i.zero = some (.agg #[.string ⟨#[]⟩, .int .i64 0, .bool false]) ∧ i.size = 3 ∧ i.bytes = 32 := by
  have h : (Tryz.prog.info? 90).map (fun i => (i.zero, i.size, i.bytes)) = some (some (.agg #[.string ⟨#[]⟩, .int .i64 0, .bool false]), 3, 32) := by kernel_rfl
  obtain ⟨i, hi, hz⟩ := Option.map_eq_some_iff.1 h
  simp only [Prod.mk.injEq] at hz
  exact ⟨i, hi, hz.1, hz.2.1, hz.2.2⟩
theorem infoBy9 : ∃ i, Tryz.prog.info? 67 = some i ∧ i.zero = some (.agg #[.int .i64 0, .bool false]) ∧ i.size = 2 ∧ i.bytes = 16 := by
  have h : (Tryz.prog.info? 67).map (fun i => (i.zero, i.size, i.bytes)) = some (some (.agg #[.int .i64 0, .bool false]), 2, 16) := by kernel_rfl
  obtain ⟨i, hi, hz⟩ := Option.map_eq_some_iff.1 h
  simp only [Prod.mk.injEq] at hz
  exact ⟨i, hi, hz.1, hz.2.1, hz.2.2⟩
theorem infoIdx9 : ∃ i, Tryz.prog.info? 48 = some i ∧ i.zero = some (.agg #[.string ⟨#[]⟩, .bool false, .slice none 0 0]) ∧ i.size = 3 ∧ i.bytes = 48 := by
  have h : (Tryz.prog.info? 48).map (fun i => (i.zero, i.size, i.bytes)) = some (some (.agg #[.string ⟨#[]⟩, .bool false, .slice none 0 0]), 3, 48) := by kernel_rfl
  obtain ⟨i, hi, hz⟩ := Option.map_eq_some_iff.1 h
  simp only [Prod.mk.injEq] at hz
  exact ⟨i, hi, hz.1, hz.2.1, hz.2.2⟩
end Go.Proofs.YtkakkjnbhklfpaaGreatDoor

