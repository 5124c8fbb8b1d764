/-
  Together: EscPlain, PartPlain, KeyPlain, LofEq, RowB, CrcPlain, SumPlain, RowBytes, GotRet, RowRead, ValEq, Boxed, VView, ValRow, RowDec, CrcBits, CrcImpl, PutBytes, SumImpl, Equal, GetSum, ValBox, ValGrow, RowDecs, FlipPlain
-/
import Derived.Test.YtikopeihkbpjhasPack1
import Derived.Laws.StructEq
import Derived.WalkSpells
/-
  Texts in order, plainly: each 0 is followed by 255, and 0 and 1 end the text; what is read of bytes as such a text.
-/
namespace Go.Proofs.Ytikopeihkbpjhas
open Go.RowKit
set_option maxRecDepth 4000

/-- One byte, as it is put. -/
def esc1 (x : Int) : List Int := if x = 0 then [0, 255] else [x]
/-- The bytes of a text, each as it is put. -/
def escL : List Int → List Int
  | [] => []
  | x :: xs => esc1 x ++ escL xs

theorem escL_append (a b : List Int) : escL (a ++ b) = escL a ++ escL b := by
  induction a with
  | nil => rfl
  | cons x xs ih => simp [escL, ih]
theorem escL_one (x : Int) : escL [x] = esc1 x := by simp [escL]
theorem escL_len (a : List Int) : a.length ≤ (escL a).length ∧ (escL a).length ≤ 2 * a.length := by
  induction a with
  | nil => simp [escL]
  | cons x xs ih =>
    have : (esc1 x).length = 1 ∨ (esc1 x).length = 2 := by unfold esc1; split <;> simp
    simp only [escL, List.length_append, List.length_cons]
    omega
theorem escL_byte (a : List Int) (h : ∀ y ∈ a, 0 ≤ y ∧ y ≤ 255) : ∀ y ∈ escL a, 0 ≤ y ∧ y ≤ 255 := by
  induction a with
  | nil => intro y hy; cases hy
  | cons x xs ih =>
    intro y hy
    rcases List.mem_append.1 hy with hy | hy
    · have hx := h x (by simp)
      unfold esc1 at hy
      split at hy
      · simp at hy; omega
      · simp at hy; omega
    · exact ih (fun z hz => h z (by simp [hz])) y hy
/-- Where no byte is 0 a text is put as it is. -/
theorem escL_plain (a : List Int) (h : ∀ y ∈ a, y ≠ 0) : escL a = a := by
  induction a with
  | nil => rfl
  | cons x xs ih =>
    have hx := h x (by simp)
    simp only [escL, esc1, if_neg hx, ih (fun z hz => h z (by simp [hz]))]
    rfl

/-- What is put of a text behind n bytes. -/
def escT (n : Nat) (f : Nat → Int) (s : ByteArray) : List Int := lof n f ++ (escL (sl s) ++ [0, 1])
def escN (s : ByteArray) : Nat := (escL (sl s)).length + 2
theorem escT_len (n : Nat) (f : Nat → Int) (s : ByteArray) : (escT n f s).length = n + escN s := by simp [escT, escN, lof_len]
theorem escN_le (s : ByteArray) : escN s ≤ 2 * s.size + 2 := by unfold escN; have := (escL_len (sl s)).2; rw [sl_len] at this; omega
theorem escT_byte (n : Nat) (f : Nat → Int) (s : ByteArray) (hf : ∀ i, i < n → 0 ≤ f i ∧ f i ≤ 255) : ∀ y ∈ escT n f s, 0 ≤ y ∧ y ≤ 255 := by
  intro y hy
  rcases List.mem_append.1 hy with hy | hy
  · simp only [lof, List.mem_map, List.mem_range] at hy
    obtain ⟨j, hj, rfl⟩ := hy
    exact hf j hj
  · rcases List.mem_append.1 hy with hy | hy
    · exact escL_byte _ (sl_byte s) y hy
    · simp at hy; omega
theorem escT_at (n : Nat) (f : Nat → Int) (s : ByteArray) (hf : ∀ i, i < n → 0 ≤ f i ∧ f i ≤ 255) : ∀ i, i < n + escN s → 0 ≤ (escT n f s).getD i 0 ∧ (escT n f s).getD i 0 ≤ 255 := by
  intro i hi
  have hi' : i < (escT n f s).length := by rw [escT_len]; exact hi
  have := escT_byte n f s hf _ (List.getElem_mem hi')
  simpa [hi'] using this

/-- What is read of bytes as a text: its bytes, and how many were read. -/
def readE : List Int → Option (List Int × Nat)
  | [] => none
  | [_] => none
  | x :: y :: ys => if x ≠ 0 then (readE (y :: ys)).map (fun r => (x :: r.1, r.2 + 1)) else if y = 1 then some ([], 2) else if y = 255 then (readE ys).map (fun r => (0 :: r.1, r.2 + 2)) else none

theorem readE_put (t rest : List Int) : readE (escL t ++ 0 :: 1 :: rest) = some (t, (escL t).length + 2) := by
  induction t with
  | nil => simp [escL, readE]
  | cons x xs ih =>
    by_cases hx : x = 0
    · subst hx
      have e : escL (0 :: xs) ++ 0 :: 1 :: rest = 0 :: 255 :: (escL xs ++ 0 :: 1 :: rest) := by simp [escL, esc1]
      rw [e, readE, ih]
      simp [escL, esc1]
    · have e : escL (x :: xs) ++ 0 :: 1 :: rest = x :: (escL xs ++ 0 :: 1 :: rest) := by simp [escL, esc1, hx]
      have ne : escL xs ++ 0 :: 1 :: rest ≠ [] := by simp
      obtain ⟨y, ys, hy⟩ := List.exists_cons_of_ne_nil ne
      rw [e, hy, readE, if_pos hx, ← hy, ih]
      simp [escL, esc1, hx]

theorem readE_is : ∀ (l : List Int) (t : List Int) (k : Nat), readE l = some (t, k) → k ≤ l.length ∧ l.take k = escL t ++ [0, 1]
  | [], t, k, h => by simp [readE] at h
  | [x], t, k, h => by simp [readE] at h
  | x :: y :: ys, t, k, h => by
    rw [readE] at h
    by_cases hx : x = 0
    · rw [if_neg (by simp [hx])] at h
      by_cases h1 : y = 1
      · rw [if_pos h1] at h
        cases h
        subst hx h1
        exact ⟨by simp, by simp [escL]⟩
      · rw [if_neg h1] at h
        by_cases h2 : y = 255
        · rw [if_pos h2] at h
          cases hr : readE ys with
          | none => rw [hr] at h; cases h
          | some r =>
            obtain ⟨t', k'⟩ := r
            rw [hr] at h
            cases h
            have ih := readE_is ys t' k' hr
            subst hx h2
            refine ⟨by simp; omega, ?_⟩
            show (0 :: 255 :: ys).take (k' + 2) = _
            simp [escL, esc1, ih.2]
        · rw [if_neg h2] at h; cases h
    · rw [if_pos hx] at h
      cases hr : readE (y :: ys) with
      | none => rw [hr] at h; cases h
      | some r =>
        obtain ⟨t', k'⟩ := r
        rw [hr] at h
        cases h
        have ih := readE_is (y :: ys) t' k' hr
        refine ⟨by simpa using ih.1, ?_⟩
        show (x :: y :: ys).take (k' + 1) = _
        rw [List.take_succ_cons, ih.2]
        simp [escL, esc1, hx]

/-- The bytes from the place k on. -/
def fromL (n : Nat) (f : Nat → Int) (k : Nat) : List Int := lof (n - k) (fun i => f (k + i))
theorem fromL_end (n : Nat) (f : Nat → Int) (k : Nat) (h : n ≤ k) : fromL n f k = [] := by
  unfold fromL; rw [show n - k = 0 by omega]; rfl
theorem fromL_step (n : Nat) (f : Nat → Int) (k : Nat) (h : k < n) : fromL n f k = f k :: fromL n f (k + 1) := by
  unfold fromL lof
  obtain ⟨m, hm⟩ : ∃ m, n - k = m + 1 := ⟨n - k - 1, by omega⟩
  rw [hm, show n - (k + 1) = m by omega, List.range_succ_eq_map]
  simp only [List.map_cons, List.map_map, Nat.add_zero, List.cons.injEq, true_and]
  apply List.map_congr_left
  intro i _
  simp only [Function.comp]
  rw [show k + 1 + i = k + (i + 1) by omega]

/-- What is read from the place p on is what is read from k on, with acc ahead. -/
def Seen (n : Nat) (f : Nat → Int) (p k : Nat) (acc : List Int) : Prop :=
  p ≤ k ∧ readE (fromL n f p) = (readE (fromL n f k)).map (fun r => (acc ++ r.1, (k - p) + r.2))
theorem Seen.start (n : Nat) (f : Nat → Int) (p : Nat) : Seen n f p p [] := by
  refine ⟨Nat.le_refl _, ?_⟩
  cases readE (fromL n f p) <;> simp
theorem Seen.past {n : Nat} {f : Nat → Int} {p k : Nat} {acc : List Int} (h : Seen n f p k acc) (hk : n ≤ k + 1) : readE (fromL n f p) = none := by
  rw [h.2]
  by_cases h1 : n ≤ k
  · rw [fromL_end n f k h1]; rfl
  · rw [fromL_step n f k (by omega), fromL_end n f (k + 1) hk]; rfl
theorem Seen.plain {n : Nat} {f : Nat → Int} {p k : Nat} {acc : List Int} (h : Seen n f p k acc) (hk : k + 1 < n) (h0 : f k ≠ 0) : Seen n f p (k + 1) (acc ++ [f k]) := by
  have := h.1
  refine ⟨by omega, ?_⟩
  rw [h.2, fromL_step n f k (by omega), fromL_step n f (k + 1) hk, readE, if_pos h0]
  cases readE (f (k + 1) :: fromL n f (k + 1 + 1)) with
  | none => rfl
  | some r => simp; omega
/-- The last byte alone ends nothing. -/
theorem Seen.last {n : Nat} {f : Nat → Int} {p k : Nat} {acc : List Int} (h : Seen n f p k acc) (hk : k + 1 = n) (acc' : List Int) : Seen n f p (k + 1) acc' := by
  have := h.1
  refine ⟨by omega, ?_⟩
  rw [h.past (by omega), fromL_end n f (k + 1) (by omega)]; rfl
theorem Seen.ends {n : Nat} {f : Nat → Int} {p k : Nat} {acc : List Int} (h : Seen n f p k acc) (hk : k + 1 < n) (h0 : f k = 0) (h1 : f (k + 1) = 1) : readE (fromL n f p) = some (acc, k + 2 - p) := by
  have := h.1
  rw [h.2, fromL_step n f k (by omega), fromL_step n f (k + 1) hk, readE, if_neg (by simp [h0]), if_pos h1]
  simp; omega
theorem Seen.goes {n : Nat} {f : Nat → Int} {p k : Nat} {acc : List Int} (h : Seen n f p k acc) (hk : k + 1 < n) (h0 : f k = 0) (h1 : f (k + 1) = 255) : Seen n f p (k + 2) (acc ++ [0]) := by
  have := h.1
  refine ⟨by omega, ?_⟩
  rw [h.2, fromL_step n f k (by omega), fromL_step n f (k + 1) hk, readE, if_neg (by simp [h0]), if_neg (by omega), if_pos h1]
  cases readE (fromL n f (k + 1 + 1)) with
  | none => rfl
  | some r => simp; omega
theorem Seen.wrong {n : Nat} {f : Nat → Int} {p k : Nat} {acc : List Int} (h : Seen n f p k acc) (hk : k + 1 < n) (h0 : f k = 0) (h1 : f (k + 1) ≠ 1) (h2 : f (k + 1) ≠ 255) : readE (fromL n f p) = none := by
  rw [h.2, fromL_step n f k (by omega), fromL_step n f (k + 1) hk, readE, if_neg (by simp [h0]), if_neg h1, if_neg h2]
  rfl

/-- What is read as a text in order: the text, the place behind, whether it is one. -/
def getE (n : Nat) (f : Nat → Int) (p : Int) : ByteArray × Int × Bool :=
  if p < 0 then (strOfNums [], 0, false) else
  match readE (fromL n f p.toNat) with
  | none => (strOfNums [], 0, false)
  | some r => (strOfNums r.1, p + r.2, true)
theorem getE_neg (n : Nat) (f : Nat → Int) (p : Int) (h : p < 0) : getE n f p = (strOfNums [], 0, false) := by unfold getE; rw [if_pos h]
theorem getE_none {n : Nat} {f : Nat → Int} {p : Nat} (h : readE (fromL n f p) = none) : getE n f (p : Int) = (strOfNums [], 0, false) := by
  unfold getE; rw [if_neg (by omega), Int.toNat_natCast, h]
theorem getE_some {n : Nat} {f : Nat → Int} {p k : Nat} {t : List Int} (h : readE (fromL n f p) = some (t, k)) : getE n f (p : Int) = (strOfNums t, (p : Int) + k, true) := by
  unfold getE; rw [if_neg (by omega), Int.toNat_natCast, h]

end Go.Proofs.Ytikopeihkbpjhas

/-
  One value in a key, plainly: which parts are right, what fits, its bytes, and what is read of bytes.
-/
namespace Go.Proofs.Ytikopeihkbpjhas
open Go.RowKit
set_option maxRecDepth 4000

def partOk (c t : Int) : Bool := decide (0 ≤ c) && decide (c ≤ 9) && (decide (1 ≤ t) && decide (t ≤ 4))
def fitsP (t : Int) (nul : Bool) (k n : Int) (s : ByteArray) : Bool := okF k n s && ((decide (k = t) && decide (k ≠ 0)) || (decide (k = 0) && nul))

/-- The bytes of a value that is there. -/
def valL (k n : Int) (s : ByteArray) : List Int := if k = 1 then fixL n else if k = 2 then varL n else if k = 3 then escL (sl s) ++ [0, 1] else [n % 256]
/-- The bytes of a value that fits. -/
def partL (nul : Bool) (k n : Int) (s : ByteArray) : List Int := if k = 0 then [0] else if nul then 1 :: valL k n s else valL k n s
def turnL (d : Bool) (l : List Int) : List Int := if d then l.map (fun y => 255 - y) else l
/-- What is put. -/
def putPL (c t : Int) (nul d : Bool) (k n : Int) (s : ByteArray) : List Int := if partOk c t && fitsP t nul k n s then turnL d (partL nul k n s) else []

/-- A value, a place and whether there is one. -/
structure Got where
  k : Int
  n : Int
  s : ByteArray
  q : Int
  ok : Bool
def Got.no : Got := ⟨0, 0, noBytes, 0, false⟩
def Got.chk (g : Got) : Got := if g.ok && okF g.k g.n g.s then g else .no

/-- A value of a type, as it is read. -/
def rawT (n : Nat) (f : Nat → Int) (t : Int) (p : Int) : Got :=
  if t = 1 then ⟨1, (getF n f p).1, noBytes, (getF n f p).2.1, (getF n f p).2.2⟩
  else if t = 2 then ⟨2, (getV n f p).1, noBytes, (getV n f p).2.1, (getV n f p).2.2⟩
  else if t = 3 then ⟨3, 0, (getE n f p).1, (getE n f p).2.1, (getE n f p).2.2⟩
  else if 0 ≤ p ∧ p < n then ⟨t, f p.toNat, noBytes, p + 1, true⟩ else ⟨t, 0, noBytes, 0, false⟩
def getT (n : Nat) (f : Nat → Int) (t : Int) (p : Int) : Got := (rawT n f t p).chk
/-- Behind a byte of 0 or 1, where it may be nothing. -/
def getN (n : Nat) (f : Nat → Int) (nul : Bool) (t : Int) (p : Int) : Got :=
  if nul then (if p = n ∨ 1 < f p.toNat then .no else if f p.toNat = 0 then ⟨0, 0, noBytes, p + 1, true⟩ else getT n f t (p + 1)) else getT n f t p
def turned (d : Bool) (f : Nat → Int) : Nat → Int := if d then fun i => 255 - f i else f
def getP (n : Nat) (f : Nat → Int) (c t : Int) (nul d : Bool) (p : Int) : Got :=
  if partOk c t = false ∨ p < 0 ∨ (n : Int) < p then .no else getN n (turned d f) nul t p

theorem okF_few {k n : Int} {s : ByteArray} (h : okF k n s = true) : s.size ≤ 30 := by
  obtain ⟨v, hr, rfl, rfl, rfl⟩ := okF_iff.1 h
  cases v with
  | text s => simpa [V.rng, V.s] using hr
  | _ => exact Nat.zero_le _
theorem valL_byte (k n : Int) (s : ByteArray) : ∀ y ∈ valL k n s, 0 ≤ y ∧ y ≤ 255 := by
  intro y hy
  unfold valL at hy
  split at hy
  · exact fixL_byte n y hy
  · split at hy
    · exact varL_byte n y hy
    · split at hy
      · rcases List.mem_append.1 hy with hy | hy
        · exact escL_byte _ (sl_byte s) y hy
        · simp at hy; omega
      · simp at hy; omega
theorem partL_byte (nul : Bool) (k n : Int) (s : ByteArray) : ∀ y ∈ partL nul k n s, 0 ≤ y ∧ y ≤ 255 := by
  intro y hy
  unfold partL at hy
  split at hy
  · simp at hy; omega
  · split at hy
    · rcases List.mem_cons.1 hy with rfl | hy
      · omega
      · exact valL_byte k n s y hy
    · exact valL_byte k n s y hy
theorem turnL_byte (d : Bool) (l : List Int) (h : ∀ y ∈ l, 0 ≤ y ∧ y ≤ 255) : ∀ y ∈ turnL d l, 0 ≤ y ∧ y ≤ 255 := by
  intro y hy
  unfold turnL at hy
  split at hy
  · obtain ⟨z, hz, rfl⟩ := List.mem_map.1 hy
    have := h z hz
    omega
  · exact h y hy
theorem turnL_len (d : Bool) (l : List Int) : (turnL d l).length = l.length := by unfold turnL; split <;> simp
theorem putPL_byte (c t : Int) (nul d : Bool) (k n : Int) (s : ByteArray) : ∀ y ∈ putPL c t nul d k n s, 0 ≤ y ∧ y ≤ 255 := by
  intro y hy
  unfold putPL at hy
  split at hy
  · exact turnL_byte d _ (partL_byte nul k n s) y hy
  · cases hy
theorem valL_len (k n : Int) (s : ByteArray) : 1 ≤ (valL k n s).length ∧ (valL k n s).length ≤ 2 * s.size + 8 := by
  unfold valL
  split
  · rw [fixL_len]; omega
  · split
    · have := varL_len n; omega
    · split
      · have := (escL_len (sl s)).2
        rw [sl_len] at this
        rw [List.length_append]
        simp
        omega
      · simp
theorem partL_len (nul : Bool) (k n : Int) (s : ByteArray) : 1 ≤ (partL nul k n s).length ∧ (partL nul k n s).length ≤ 2 * s.size + 9 := by
  have := valL_len k n s
  unfold partL
  split
  · simp
  · split
    · rw [List.length_cons]; omega
    · omega
theorem putPL_len (c t : Int) (nul d : Bool) (k n : Int) (s : ByteArray) : (putPL c t nul d k n s).length ≤ 2 * s.size + 9 := by
  have := partL_len nul k n s
  unfold putPL
  split
  · rw [turnL_len]; omega
  · simp
end Go.Proofs.Ytikopeihkbpjhas

/-
  Keys, plainly: which plans are right, what fits, the bytes of values one behind the other, and what is read of bytes.
-/
namespace Go.Proofs.Ytikopeihkbpjhas
open Go.RowKit
set_option maxRecDepth 4000

/-- A plan is right. -/
def planOk (n : Nat) (fc ft : Nat → Int) : Bool := (List.range n).all (fun i => partOk (fc i) (ft i)) && decide (n ≤ 6)
/-- Values fit. -/
def fitsAll (n m : Nat) (ft : Nat → Int) (fu : Nat → Bool) (fk fn : Nat → Int) (fs : Nat → ByteArray) : Bool := decide (m ≤ n) && (List.range m).all (fun i => fitsP (ft i) (fu i) (fk i) (fn i) (fs i))
theorem planOk_iff {n : Nat} {fc ft : Nat → Int} : planOk n fc ft = true ↔ (∀ i, i < n → partOk (fc i) (ft i) = true) ∧ n ≤ 6 := by
  unfold planOk; simp
theorem fitsAll_iff {n m : Nat} {ft : Nat → Int} {fu : Nat → Bool} {fk fn : Nat → Int} {fs : Nat → ByteArray} : fitsAll n m ft fu fk fn fs = true ↔ m ≤ n ∧ ∀ i, i < m → fitsP (ft i) (fu i) (fk i) (fn i) (fs i) = true := by
  unfold fitsAll; simp
/-- The first k of the lists, one behind the other. -/
def keyT (g : Nat → List Int) : Nat → List Int
  | 0 => []
  | k + 1 => keyT g k ++ g k
/-- The bytes of the value at a place of a plan. -/
def onePL (fc ft : Nat → Int) (fu fd : Nat → Bool) (fk fn : Nat → Int) (fs : Nat → ByteArray) (i : Nat) : List Int := putPL (fc i) (ft i) (fu i) (fd i) (fk i) (fn i) (fs i)
/-- The bytes of a key. -/
def keyL (n : Nat) (fc ft : Nat → Int) (fu fd : Nat → Bool) (m : Nat) (fk fn : Nat → Int) (fs : Nat → ByteArray) : List Int :=
  if planOk n fc ft && fitsAll n m ft fu fk fn fs then keyT (onePL fc ft fu fd fk fn fs) m else []

theorem keyT_congr {g h : Nat → List Int} : ∀ {k : Nat}, (∀ i, i < k → g i = h i) → keyT g k = keyT h k
  | 0, _ => rfl
  | k + 1, e => by rw [keyT, keyT, keyT_congr (fun i hi => e i (by omega)), e k (by omega)]
/-- What stands behind the first k. -/
theorem keyT_split (g : Nat → List Int) (k : Nat) : ∀ j, keyT g (k + j) = keyT g k ++ keyT (fun i => g (k + i)) j
  | 0 => by simp [keyT]
  | j + 1 => by rw [← Nat.add_assoc, keyT, keyT_split g k j, keyT, List.append_assoc]
theorem keyT_byte {g : Nat → List Int} : ∀ {k : Nat}, (∀ i, i < k → ∀ y ∈ g i, 0 ≤ y ∧ y ≤ 255) → ∀ y ∈ keyT g k, 0 ≤ y ∧ y ≤ 255
  | 0, _, y, hy => by simp [keyT] at hy
  | k + 1, h, y, hy => by
    rw [keyT] at hy
    rcases List.mem_append.1 hy with hy | hy
    · exact keyT_byte (fun i hi => h i (by omega)) y hy
    · exact h k (by omega) y hy
theorem keyL_byte (n : Nat) (fc ft : Nat → Int) (fu fd : Nat → Bool) (m : Nat) (fk fn : Nat → Int) (fs : Nat → ByteArray) : ∀ y ∈ keyL n fc ft fu fd m fk fn fs, 0 ≤ y ∧ y ≤ 255 := by
  intro y hy
  unfold keyL at hy
  split at hy
  · exact keyT_byte (fun i _ => putPL_byte _ _ _ _ _ _ _) y hy
  · cases hy
theorem onePL_len {ft : Nat → Int} {fu : Nat → Bool} {fk fn : Nat → Int} {fs : Nat → ByteArray} {i : Nat} (fc : Nat → Int) (fd : Nat → Bool) (h : fitsP (ft i) (fu i) (fk i) (fn i) (fs i) = true) : (onePL fc ft fu fd fk fn fs i).length ≤ 69 := by
  unfold onePL
  have h1 := putPL_len (fc i) (ft i) (fu i) (fd i) (fk i) (fn i) (fs i)
  have h2 : (fs i).size ≤ 30 := by unfold fitsP at h; simp only [Bool.and_eq_true] at h; exact okF_few h.1
  omega
theorem keyT_len {g : Nat → List Int} : ∀ {k : Nat}, (∀ i, i < k → (g i).length ≤ 69) → (keyT g k).length ≤ k * 69
  | 0, _ => by simp [keyT]
  | k + 1, h => by
    rw [keyT, List.length_append]
    have h1 := keyT_len (fun i hi => h i (by omega)) (k := k)
    have h2 := h k (by omega)
    omega
theorem keyL_len (n : Nat) (fc ft : Nat → Int) (fu fd : Nat → Bool) (m : Nat) (fk fn : Nat → Int) (fs : Nat → ByteArray) : (keyL n fc ft fu fd m fk fn fs).length ≤ 414 := by
  unfold keyL
  split
  · rename_i h
    simp only [Bool.and_eq_true] at h
    obtain ⟨h1, h2⟩ := h
    have hp := planOk_iff.1 h1
    have hf := fitsAll_iff.1 h2
    have := keyT_len (g := onePL fc ft fu fd fk fn fs) (k := m) (fun i hi => onePL_len fc fd (hf.2 i hi))
    omega
  · simp

section
variable (N : Nat) (F : Nat → Int) (fc ft : Nat → Int) (fu fd : Nat → Bool)
/-- The place behind the first k values, as they are read. -/
def decQ : Nat → Option Int
  | 0 => some 0
  | k + 1 => (decQ k).bind (fun p => if (getP N F (fc k) (ft k) (fu k) (fd k) p).ok then some (getP N F (fc k) (ft k) (fu k) (fd k) p).q else none)
/-- The value that is read at a place of a plan. -/
def decG (k : Nat) : Got := getP N F (fc k) (ft k) (fu k) (fd k) ((decQ N F fc ft fu fd k).getD 0)
/-- Whether the bytes are a key of the plan. -/
def decOk (n : Nat) : Bool := planOk n fc ft && decide (decQ N F fc ft fu fd n = some (N : Int))
end
theorem decQ_succ {N : Nat} {F : Nat → Int} {fc ft : Nat → Int} {fu fd : Nat → Bool} {k : Nat} {q : Int} (h : decQ N F fc ft fu fd (k + 1) = some q) : ∃ p, decQ N F fc ft fu fd k = some p ∧ (getP N F (fc k) (ft k) (fu k) (fd k) p).ok = true ∧ (getP N F (fc k) (ft k) (fu k) (fd k) p).q = q := by
  rw [decQ] at h
  obtain ⟨p, h1, h2⟩ := Option.bind_eq_some_iff.1 h
  by_cases e : (getP N F (fc k) (ft k) (fu k) (fd k) p).ok = true
  · rw [if_pos e] at h2
    exact ⟨p, h1, e, Option.some.inj h2⟩
  · rw [if_neg e] at h2; cases h2
end Go.Proofs.Ytikopeihkbpjhas

/-
  Lists of a function's first values are alike just where it is.
-/
namespace Go.Proofs.Ytikopeihkbpjhas
open Go.RowKit
set_option maxRecDepth 4000

theorem lof_eq {n : Nat} {f g : Nat → Int} : lof n f = lof n g ↔ ∀ i, i < n → f i = g i := by
  constructor
  · intro h i hi
    rw [← lof_get n f i hi, ← lof_get n g i hi, h]
  · intro h
    unfold lof
    apply List.map_congr_left
    intro i hi
    exact h i (List.mem_range.1 hi)
end Go.Proofs.Ytikopeihkbpjhas

/-
  Rows as bytes, plainly: what stands at a place, what is read there.
-/
namespace Go.Proofs.Ytikopeihkbpjhas
open Go.RowKit
set_option maxRecDepth 4000

/-- The bytes L stand at place i of the N bytes F. -/
structure AtF (N : Nat) (F : Nat → Int) (i : Nat) (L : List Int) : Prop where
  le : i + L.length ≤ N
  at' : ∀ j, j < L.length → F (i + j) = L.getD j 0
theorem AtF.left {N : Nat} {F : Nat → Int} {i : Nat} {L K : List Int} (h : AtF N F i (L ++ K)) : AtF N F i L :=
  ⟨by have := h.le; rw [List.length_append] at this; omega, fun j hj => by rw [h.at' j (by rw [List.length_append]; omega), getD_left _ _ _ hj]⟩
theorem AtF.right {N : Nat} {F : Nat → Int} {i : Nat} {L K : List Int} (h : AtF N F i (L ++ K)) : AtF N F (i + L.length) K :=
  ⟨by have := h.le; rw [List.length_append] at this; omega, fun j hj => by rw [Nat.add_assoc, h.at' (L.length + j) (by rw [List.length_append]; omega), getD_right]⟩
theorem AtF.append {N : Nat} {F : Nat → Int} {i : Nat} {L K : List Int} (h : AtF N F i L) (k : AtF N F (i + L.length) K) : AtF N F i (L ++ K) :=
  ⟨by have := k.le; rw [List.length_append]; omega, fun j hj => by
    rw [List.length_append] at hj
    by_cases e : j < L.length
    · rw [h.at' j e, getD_left _ _ _ e]
    · obtain ⟨m, rfl⟩ : ∃ m, j = L.length + m := ⟨j - L.length, by omega⟩
      rw [← Nat.add_assoc, k.at' m (by omega), getD_right]⟩
theorem AtF.nil {N : Nat} {F : Nat → Int} {i : Nat} (h : i ≤ N) : AtF N F i [] := ⟨by simpa using h, fun j hj => absurd hj (Nat.not_lt_zero _)⟩
/-- It is these bytes. -/
theorem AtF.lof {N : Nat} {F : Nat → Int} {i : Nat} {L : List Int} (h : AtF N F i L) : lof L.length (fun j => F (i + j)) = L := by
  rw [← lof_self L]
  conv => lhs; rw [show (Go.Proofs.Ytikopeihkbpjhas.lof L.length fun i => L.getD i 0).length = L.length by rw [lof_len]]
  rw [lof_eq]
  exact fun j hj => h.at' j hj
theorem AtF.ofLof {N : Nat} {F : Nat → Int} {i : Nat} {L : List Int} (hle : i + L.length ≤ N) (h : L = Go.Proofs.Ytikopeihkbpjhas.lof L.length (fun j => F (i + j))) : AtF N F i L :=
  ⟨hle, fun j hj => by
    conv => rhs; rw [h]
    rw [lof_get _ _ _ hj]⟩

theorem getU_at {N : Nat} {F : Nat → Int} {i : Nat} {x : Int} (h0 : 0 ≤ x) (h1 : x ≤ 1000000) (h : AtF N F i (groups x)) : getU N F (i : Int) = (x, (i : Int) + ((groups x).length : Int), true) :=
  getU_put i N F x h0 h1 h.at' h.le
theorem getU_read {N : Nat} {F : Nat → Int} {p a q : Int} (hb : ∀ i, i < N → 0 ≤ F i ∧ F i ≤ 255) (h : getU N F p = (a, q, true)) : ∃ i : Nat, p = (i : Int) ∧ AtF N F i (groups a) ∧ q = (i : Int) + ((groups a).length : Int) ∧ 0 ≤ a ∧ a ≤ 1000000 := by
  obtain ⟨ha0, ha1, -, -⟩ := getU_bd hb h
  by_cases h1 : p < 0 ∨ (N : Int) ≤ p
  · unfold getU at h; rw [if_pos h1] at h; cases h
  obtain ⟨i, rfl⟩ := Int.eq_ofNat_of_zero_le (a := p) (by omega)
  have hin : i < N := by omega
  have b0 := hb i hin
  refine ⟨i, rfl, ?_⟩
  by_cases c1 : F i < 128
  · rw [getU_1 N F i hin c1] at h
    cases h
    have e : groups (F i) = [F i] := groups_last _ c1
    rw [e]
    refine ⟨⟨by simp; omega, fun j hj => ?_⟩, rfl, ha0, ha1⟩
    match j, hj with
    | 0, _ => rfl
  by_cases c2 : N ≤ i + 1
  · rw [getU_2end N F i hin (by omega) c2] at h; cases h
  have b1 := hb (i + 1) (by omega)
  by_cases c3 : F (i + 1) < 128
  · by_cases c4 : F (i + 1) = 0
    · rw [getU_2zero N F i (by omega) (by omega) c4] at h; cases h
    rw [getU_2 N F i (by omega) (by omega) c3 c4] at h
    cases h
    have e : groups (F i - 128 + F (i + 1) * 128) = [F i, F (i + 1)] := by
      unfold groups
      rw [if_neg (by omega), if_pos (by omega)]
      congr 1
      · omega
      · congr 1; omega
    rw [e]
    refine ⟨⟨by simp; omega, fun j hj => ?_⟩, rfl, ha0, ha1⟩
    match j, hj with
    | 0, _ => rfl
    | 1, _ => rfl
  by_cases c5 : N ≤ i + 2
  · rw [getU_3end N F i (by omega) (by omega) (by omega) c5] at h; cases h
  have b2 := hb (i + 2) (by omega)
  by_cases c6 : F (i + 2) < 128
  · by_cases c7 : F (i + 2) = 0 ∨ 1000000 < F i - 128 + (F (i + 1) - 128) * 128 + F (i + 2) * 16384
    · rw [getU_3no N F i (by omega) (by omega) (by omega) c6 c7] at h; cases h
    rw [getU_3 N F i (by omega) (by omega) (by omega) c6 c7] at h
    cases h
    have e : groups (F i - 128 + (F (i + 1) - 128) * 128 + F (i + 2) * 16384) = [F i, F (i + 1), F (i + 2)] := by
      unfold groups
      rw [if_neg (by omega), if_neg (by omega)]
      congr 1
      · omega
      · congr 1
        · omega
        · congr 1; omega
    rw [e]
    refine ⟨⟨by simp; omega, fun j hj => ?_⟩, rfl, ha0, ha1⟩
    match j, hj with
    | 0, _ => rfl
    | 1, _ => rfl
    | 2, _ => rfl
  · rw [getU_long N F i (by omega) (by omega) (by omega) (by omega)] at h; cases h

theorem getV_at {N : Nat} {F : Nat → Int} {i : Nat} {x : Int} (h0 : -1000000000000000 ≤ x) (h1 : x ≤ 1000000000000000) (h : AtF N F i (varL x)) : getV N F (i : Int) = (x, (i : Int) + ((varL x).length : Int), true) := by
  have hc : clampV x = x := by unfold clampV; rw [if_neg (by omega), if_neg (by omega)]
  have e := getV_put (Go.Proofs.Ytikopeihkbpjhas.lof i F) i x (lof_len i F)
  rw [hc] at e
  refine getV_more (N := i + (varL x).length) h.le (fun j hj => ?_) e
  by_cases ej : j < i
  · rw [getD_left _ _ _ (by rw [lof_len]; exact ej), lof_get _ _ _ ej]
  · obtain ⟨m, rfl⟩ : ∃ m, j = i + m := ⟨j - i, by omega⟩
    have := getD_right (Go.Proofs.Ytikopeihkbpjhas.lof i F) (varL x) m
    rw [lof_len] at this
    rw [this, h.at' m (by omega)]
theorem getV_read {N : Nat} {F : Nat → Int} {p a q : Int} (hb : ∀ i, i < N → 0 ≤ F i ∧ F i ≤ 255) (h : getV N F p = (a, q, true)) : ∃ i : Nat, p = (i : Int) ∧ AtF N F i (varL a) ∧ q = (i : Int) + ((varL a).length : Int) ∧ -1000000000000000 ≤ a ∧ a ≤ 1000000000000000 := by
  obtain ⟨i, rfl, hq, hle, h0, h1, e⟩ := var_read hb h
  exact ⟨i, rfl, AtF.ofLof hle e, hq, h0, h1⟩

/-- A text as bytes. -/
def txtL (s : ByteArray) : List Int := groups s.size ++ sl s
theorem getText_at {N : Nat} {F : Nat → Int} {i : Nat} {s : ByteArray} (hs : s.size ≤ 1000000) (h : AtF N F i (txtL s)) : getText N F (i : Int) = (s, (i : Int) + ((txtL s).length : Int), true) := by
  have h1 := getU_at (x := s.size) (by omega) (by omega) h.left
  have h2 := h.right
  have hl2 := h2.le
  rw [sl_len] at hl2
  unfold getText
  rw [h1]
  simp only
  rw [if_pos ⟨trivial, by omega⟩]
  have e : (i : Int) + ((groups s.size).length : Int) = ((i + (groups (s.size : Int)).length : Nat) : Int) := by push_cast; rfl
  rw [e]
  simp only [Int.toNat_natCast]
  have e2 := h2.lof
  rw [sl_len] at e2
  rw [e2, strOfNums_sl]
  refine Prod.ext rfl (Prod.ext ?_ rfl)
  show _ = _
  unfold txtL
  rw [List.length_append, sl_len]
  push_cast
  omega
theorem getText_read {N : Nat} {F : Nat → Int} {p q : Int} {s : ByteArray} (hb : ∀ i, i < N → 0 ≤ F i ∧ F i ≤ 255) (h : getText N F p = (s, q, true)) : ∃ i : Nat, p = (i : Int) ∧ AtF N F i (txtL s) ∧ q = (i : Int) + ((txtL s).length : Int) ∧ s.size ≤ 1000000 := by
  unfold getText at h
  by_cases c : (getU N F p).2.2 = true ∧ (getU N F p).1 ≤ N - (getU N F p).2.1
  · rw [if_pos c] at h
    obtain ⟨a, q1, ok, hu⟩ : ∃ a q1 ok, getU N F p = (a, q1, ok) := ⟨_, _, _, rfl⟩
    rw [hu] at c h
    simp only at c h
    obtain ⟨rfl, hle⟩ := c
    obtain ⟨i, rfl, hA, rfl, h0, h1⟩ := getU_read hb hu
    obtain ⟨A, rfl⟩ := Int.eq_ofNat_of_zero_le h0
    have e : (i : Int) + ((groups (A : Int)).length : Int) = ((i + (groups (A : Int)).length : Nat) : Int) := by push_cast; rfl
    rw [e] at h hle
    simp only [Int.toNat_natCast, Prod.mk.injEq, and_true] at h
    obtain ⟨hs, hq⟩ := h
    have hbl : ∀ y ∈ Go.Proofs.Ytikopeihkbpjhas.lof A (fun j => F (i + (groups (A : Int)).length + j)), 0 ≤ y ∧ y ≤ 255 := by
      intro y hy
      obtain ⟨j, hj, rfl⟩ := List.mem_map.1 hy
      exact hb _ (by have := List.mem_range.1 hj; omega)
    have hsl : sl s = Go.Proofs.Ytikopeihkbpjhas.lof A (fun j => F (i + (groups (A : Int)).length + j)) := by
      rw [← hs]; exact sl_strOfNums hbl
    have hsz : s.size = A := by rw [← sl_len, hsl, lof_len]
    refine ⟨i, rfl, ?_, ?_, by omega⟩
    · unfold txtL
      rw [hsz]
      refine hA.append ⟨by rw [sl_len, hsz]; omega, fun j hj => ?_⟩
      rw [sl_len, hsz] at hj
      rw [hsl, lof_get _ _ _ hj]
    · rw [← hq]
      unfold txtL
      rw [List.length_append, sl_len, hsz]
      push_cast
      omega
  · rw [if_neg c] at h
    simp at h
end Go.Proofs.Ytikopeihkbpjhas

/-
  The sum of bytes, plainly; that it stays below 2^32; that one byte turned turns it.
-/
namespace Go.Proofs.Ytikopeihkbpjhas

def crcBit (x : Nat) : Nat := if x % 2 = 1 then x / 2 ^^^ 2197175160 else x / 2
def crcBits : Nat → Nat → Nat
  | 0, x => x
  | k + 1, x => crcBit (crcBits k x)
def crcTo (f : Nat → Int) : Nat → Nat
  | 0 => 4294967295
  | k + 1 => crcBits 8 (crcTo f k ^^^ (f k).toNat)
def crc (n : Nat) (f : Nat → Int) : Nat := crcTo f n ^^^ 4294967295

theorem crcBit_lt {x : Nat} (h : x < 4294967296) : crcBit x < 4294967296 := by
  unfold crcBit
  split
  · exact Nat.xor_lt_two_pow (n := 32) (by omega) (by decide)
  · omega
theorem crcBits_lt {k x : Nat} (h : x < 4294967296) : crcBits k x < 4294967296 := by
  induction k with
  | zero => exact h
  | succ k ih => exact crcBit_lt ih
theorem xorByte_lt {x : Nat} {b : Int} (h : x < 4294967296) (h0 : 0 ≤ b ∧ b ≤ 255) : x ^^^ b.toNat < 4294967296 :=
  Nat.xor_lt_two_pow (n := 32) h (by omega)
theorem crcTo_lt {f : Nat → Int} {k : Nat} (h : ∀ i, i < k → 0 ≤ f i ∧ f i ≤ 255) : crcTo f k < 4294967296 := by
  induction k with
  | zero => show 4294967295 < 4294967296; decide
  | succ k ih => exact crcBits_lt (xorByte_lt (ih fun i hi => h i (by omega)) (h k (by omega)))
theorem crc_lt {f : Nat → Int} {n : Nat} (h : ∀ i, i < n → 0 ≤ f i ∧ f i ≤ 255) : crc n f < 4294967296 :=
  Nat.xor_lt_two_pow (n := 32) (crcTo_lt h) (by decide)

theorem xor_cancel {a b c : Nat} (h : a ^^^ c = b ^^^ c) : a = b := by
  have := congrArg (· ^^^ c) h
  simpa [Nat.xor_assoc] using this

theorem crcBit_inj {x y : Nat} (hx : x < 4294967296) (hy : y < 4294967296) (h : crcBit x = crcBit y) : x = y := by
  have t : ∀ z, z < 4294967296 → (crcBit z).testBit 31 = decide (z % 2 = 1) := by
    intro z hz
    have hz2 : (z / 2).testBit 31 = false := Nat.testBit_lt_two_pow (by omega)
    unfold crcBit
    by_cases e : z % 2 = 1
    · rw [if_pos e, Nat.testBit_xor, hz2]; simp [e]; decide
    · rw [if_neg e, hz2]; simp [e]
  have tx := t x hx
  have ty := t y hy
  rw [h, ty] at tx
  have par : (y % 2 = 1) ↔ (x % 2 = 1) := by simpa using tx
  unfold crcBit at h
  by_cases e : x % 2 = 1
  · rw [if_pos e, if_pos (par.2 e)] at h
    have := xor_cancel h
    have := par.2 e
    omega
  · rw [if_neg e, if_neg (fun k => e (par.1 k))] at h
    have : ¬ y % 2 = 1 := fun k => e (par.1 k)
    omega

theorem crcBits_inj {k x y : Nat} (hx : x < 4294967296) (hy : y < 4294967296) (h : crcBits k x = crcBits k y) : x = y := by
  induction k with
  | zero => exact h
  | succ k ih => exact ih (crcBit_inj (crcBits_lt hx) (crcBits_lt hy) h)

theorem crcTo_congr {f g : Nat → Int} {k : Nat} (h : ∀ i, i < k → f i = g i) : crcTo f k = crcTo g k := by
  induction k with
  | zero => rfl
  | succ k ih => show crcBits 8 _ = crcBits 8 _; rw [ih fun i hi => h i (by omega), h k (by omega)]
theorem crc_congr {f g : Nat → Int} {n : Nat} (h : ∀ i, i < n → f i = g i) : crc n f = crc n g := by unfold crc; rw [crcTo_congr h]

/-- Where two rows of bytes part at one place alone, their sums part. -/
theorem crcTo_parts {f g : Nat → Int} {n j : Nat} (hf : ∀ i, i < n → 0 ≤ f i ∧ f i ≤ 255) (hg : ∀ i, i < n → 0 ≤ g i ∧ g i ≤ 255) (hj : j < n) (hne : f j ≠ g j) (hs : ∀ i, i < n → i ≠ j → f i = g i) : crcTo f n ≠ crcTo g n := by
  induction n with
  | zero => omega
  | succ n ih =>
    intro e
    have e' : crcTo f n ^^^ (f n).toNat = crcTo g n ^^^ (g n).toNat :=
      crcBits_inj (k := 8) (xorByte_lt (crcTo_lt fun i hi => hf i (by omega)) (hf n (by omega))) (xorByte_lt (crcTo_lt fun i hi => hg i (by omega)) (hg n (by omega))) e
    by_cases hjn : j = n
    · subst hjn
      rw [crcTo_congr (g := g) fun i hi => hs i (by omega) (by omega), Nat.xor_comm, Nat.xor_comm (crcTo g j)] at e'
      have := xor_cancel e'
      have a := hf j (by omega)
      have b := hg j (by omega)
      omega
    · rw [hs n (by omega) (by omega)] at e'
      exact ih (fun i hi => hf i (by omega)) (fun i hi => hg i (by omega)) (by omega) (fun i hi => hs i (by omega)) (xor_cancel e')

theorem crc_parts {f g : Nat → Int} {n j : Nat} (hf : ∀ i, i < n → 0 ≤ f i ∧ f i ≤ 255) (hg : ∀ i, i < n → 0 ≤ g i ∧ g i ≤ 255) (hj : j < n) (hne : f j ≠ g j) (hs : ∀ i, i < n → i ≠ j → f i = g i) : crc n f ≠ crc n g :=
  fun e => crcTo_parts hf hg hj hne hs (xor_cancel e)

end Go.Proofs.Ytikopeihkbpjhas

/-
  The four bytes of a sum; new rows of bytes.
-/
namespace Go.Proofs.Ytikopeihkbpjhas
open Go.RowKit
set_option maxRecDepth 4000

def sumL (c : Nat) : List Int := [(c : Int) / 16777216 % 256, (c : Int) / 65536 % 256, (c : Int) / 256 % 256, (c : Int) % 256]
theorem sumL_len (c : Nat) : (sumL c).length = 4 := rfl
theorem sumL_byte (c : Nat) : ∀ y ∈ sumL c, 0 ≤ y ∧ y ≤ 255 := by
  intro y hy
  simp only [sumL, List.mem_cons, List.not_mem_nil, or_false] at hy
  rcases hy with rfl | rfl | rfl | rfl <;> omega

theorem lof_sumL (c : Nat) : lof 4 (fun i => (sumL c).getD i 0) = sumL c := lof_self (sumL c)

/-- New cells. -/
theorem cellNews (w : World) (l : List Value) (t : TypeId) : ∀ j u, l[j]? = some u → (w.alloc (.cells l.toArray t)).cell? ((⟨w.heap.size, 0, none⟩ : Addr).add j) = some u := by
  intro j u hj
  have e : (⟨w.heap.size, 0, none⟩ : Addr).add j = ⟨w.heap.size, j, none⟩ := by unfold Addr.add; split <;> simp_all
  rw [e]
  simp [hj]

theorem newRow (w : World) (l : List Int) (t : TypeId) : Row t (w.alloc (.cells (l.map (Value.int .u8)).toArray t)) w.heap.size l.length (fun i => l.getD i 0) :=
  Row.ofIs ⟨_, Deep.blk_alloc_new _ _, by simp, fun i hi => by simp [hi]⟩

theorem bytes_of_list {l : List Int} (h : ∀ y ∈ l, 0 ≤ y ∧ y ≤ 255) : ∀ i, i < l.length → 0 ≤ l.getD i 0 ∧ l.getD i 0 ≤ 255 := by
  intro i hi
  have := h _ (List.getElem_mem hi)
  simpa [hi] using this

end Go.Proofs.Ytikopeihkbpjhas

/-
  The bytes of a row, plainly.
-/
namespace Go.Proofs.Ytikopeihkbpjhas
open Go.RowKit
set_option maxRecDepth 4000

/-- The bytes of a value behind its kind. -/
def bodyB (k n : Int) (s : ByteArray) : List Int := if k = 1 ∨ k = 2 then varL n else if k = 3 then groups (clampN s.size) ++ sl s else if k = 4 then [n % 256] else []
/-- The bytes of a value. -/
def valB (k n : Int) (s : ByteArray) : List Int := groups (clampN k) ++ bodyB k n s
/-- The bytes of a row's values, with their count ahead. -/
def rowB (m : Nat) (fk fn : Nat → Int) (fs : Nat → ByteArray) : List Int := groups (clampN m) ++ keyT (fun i => valB (fk i) (fn i) (fs i)) m
/-- Whether values are a row of a plan. -/
def rowOk (n : Nat) (fc ft : Nat → Int) (fu : Nat → Bool) (m : Nat) (fk fn : Nat → Int) (fs : Nat → ByteArray) : Bool := planOk n fc ft && (decide (m = n) && fitsAll n m ft fu fk fn fs)
/-- Bytes with their sum behind. -/
def sumB (L : List Int) : List Int := L ++ sumL (crc L.length (fun i => L.getD i 0))
/-- What EncodeRow answers. -/
def encB (n : Nat) (fc ft : Nat → Int) (fu : Nat → Bool) (m : Nat) (fk fn : Nat → Int) (fs : Nat → ByteArray) : List Int := if rowOk n fc ft fu m fk fn fs then sumB (rowB m fk fn fs) else []

theorem bodyB_len (k n : Int) (s : ByteArray) : (bodyB k n s).length ≤ 8 + s.size := by
  unfold bodyB
  split
  · have := (varL_len n).2; omega
  · split
    · rw [List.length_append, sl_len]; have := (groups_len (clampN s.size)).2; omega
    · split <;> simp <;> omega
theorem bodyB_byte (k n : Int) (s : ByteArray) : ∀ y ∈ bodyB k n s, 0 ≤ y ∧ y ≤ 255 := by
  unfold bodyB
  split
  · exact varL_byte n
  · split
    · intro y hy
      rcases List.mem_append.1 hy with h | h
      · exact groups_byte _ (clampN_bd _).1 (clampN_bd _).2 y h
      · exact sl_byte s y h
    · split
      · intro y hy; simp at hy; omega
      · intro y hy; cases hy
theorem valB_byte (k n : Int) (s : ByteArray) : ∀ y ∈ valB k n s, 0 ≤ y ∧ y ≤ 255 := by
  intro y hy
  unfold valB at hy
  rcases List.mem_append.1 hy with h | h
  · exact groups_byte _ (clampN_bd _).1 (clampN_bd _).2 y h
  · exact bodyB_byte k n s y h
theorem valB_len (k n : Int) (s : ByteArray) : (valB k n s).length ≤ 11 + s.size := by
  unfold valB
  rw [List.length_append]
  have := bodyB_len k n s
  have := (groups_len (clampN k)).2
  omega
theorem rowB_byte (m : Nat) (fk fn : Nat → Int) (fs : Nat → ByteArray) : ∀ y ∈ rowB m fk fn fs, 0 ≤ y ∧ y ≤ 255 := by
  intro y hy
  unfold rowB at hy
  rcases List.mem_append.1 hy with h | h
  · exact groups_byte _ (clampN_bd _).1 (clampN_bd _).2 y h
  · exact keyT_byte (fun i _ => valB_byte _ _ _) y h
end Go.Proofs.Ytikopeihkbpjhas

/-
  A value, a place and a word, as they are handed back.
-/
namespace Go.Proofs.Ytikopeihkbpjhas
open Go.RowKit
set_option maxRecDepth 4000

def gotRet (g : Got) : Ending := .returned (.tuple #[.agg #[.int .i64 g.k, .int .i64 g.n, .string g.s], .int .i64 g.q, .bool g.ok])
end Go.Proofs.Ytikopeihkbpjhas

/-
  A value of a row, as it is read: plainly.
-/
namespace Go.Proofs.Ytikopeihkbpjhas
open Go.RowKit
set_option maxRecDepth 4000

/-- What is read as a value of a row. -/
def getR (N : Nat) (F : Nat → Int) (p : Int) : Got :=
  if (getU N F p).1 = 1 ∨ (getU N F p).1 = 2 then ⟨(getU N F p).1, (getV N F (getU N F p).2.1).1, noBytes, (getV N F (getU N F p).2.1).2.1, (getU N F p).2.2 && (getV N F (getU N F p).2.1).2.2⟩
  else if (getU N F p).1 = 3 then ⟨3, 0, (getText N F (getU N F p).2.1).1, (getText N F (getU N F p).2.1).2.1, (getU N F p).2.2 && (getText N F (getU N F p).2.1).2.2⟩
  else if (getU N F p).1 = 4 then (if (getU N F p).2.1 < N then ⟨4, F (getU N F p).2.1.toNat, noBytes, (getU N F p).2.1 + 1, (getU N F p).2.2⟩ else ⟨4, 0, noBytes, (getU N F p).2.1, false⟩)
  else ⟨(getU N F p).1, 0, noBytes, (getU N F p).2.1, (getU N F p).2.2⟩

theorem getU_none {n : Nat} {f : Nat → Int} {p a q : Int} (h : getU n f p = (a, q, false)) : a = 0 ∧ q = 0 := by
  unfold getU at h
  repeat' split at h
  all_goals first | (simp at h; done) | (cases h; exact ⟨rfl, rfl⟩)
theorem clampN_id {x : Int} (h0 : 0 ≤ x) (h1 : x ≤ 1000000) : clampN x = x := by unfold clampN; rw [if_neg (by omega), if_neg (by omega)]
/-- A right value comes back of its bytes. -/
theorem getR_at {N : Nat} {F : Nat → Int} {i : Nat} {k n : Int} {s : ByteArray} (hk : (k = 0 ∧ n = 0 ∧ s = noBytes) ∨ (k = 1 ∧ (-2147483648 ≤ n ∧ n ≤ 2147483647) ∧ s = noBytes) ∨ (k = 2 ∧ (-1000000000000000 ≤ n ∧ n ≤ 1000000000000000) ∧ s = noBytes) ∨ (k = 3 ∧ n = 0 ∧ s.size ≤ 30) ∨ (k = 4 ∧ (0 ≤ n ∧ n ≤ 1) ∧ s = noBytes)) (h : AtF N F i (valB k n s)) :
    getR N F (i : Int) = ⟨k, n, s, (i : Int) + ((valB k n s).length : Int), true⟩ := by
  have hk04 : 0 ≤ k ∧ k ≤ 4 := by omega
  unfold valB at h ⊢
  rw [clampN_id hk04.1 (by omega)] at h ⊢
  have hg : groups k = [k] := groups_last _ (by omega)
  have hU := getU_at hk04.1 (by omega) h.left
  have hr := h.right
  rw [hg] at hU hr ⊢
  have hlen : (([k] ++ bodyB k n s).length : Int) = 1 + ((bodyB k n s).length : Int) := by simp; omega
  have e1 : (i : Int) + (([k] : List Int).length : Int) = ((i + 1 : Nat) : Int) := by simp
  rw [e1] at hU
  have e2 : i + ([k] : List Int).length = i + 1 := by simp
  rw [e2] at hr
  rw [hlen]
  unfold getR
  rw [hU]
  simp only
  rcases hk with ⟨rfl, rfl, rfl⟩ | ⟨rfl, hn, rfl⟩ | ⟨rfl, hn, rfl⟩ | ⟨rfl, rfl, hs⟩ | ⟨rfl, hn, rfl⟩
  · simp [bodyB]
  · have e : bodyB 1 n noBytes = varL n := by simp [bodyB]
    rw [e] at hr ⊢
    rw [getV_at (by omega) (by omega) hr]
    simp; omega
  · have e : bodyB 2 n noBytes = varL n := by simp [bodyB]
    rw [e] at hr ⊢
    rw [getV_at (by omega) (by omega) hr]
    simp; omega
  · have e : bodyB 3 0 s = txtL s := by simp [bodyB, txtL, clampN_id (x := s.size) (by omega) (by omega)]
    rw [e] at hr ⊢
    rw [getText_at (by omega) hr]
    simp; omega
  · have e : bodyB 4 n noBytes = [n] := by simp [bodyB]; omega
    rw [e] at hr ⊢
    have h1 := hr.le
    have h2 := hr.at' 0 (by simp)
    simp at h1 h2
    have h3 : ((i + 1 : Nat) : Int) < (N : Int) := by omega
    rw [if_neg (by decide), if_neg (by decide), if_pos rfl, if_pos h3]
    simp only [Int.toNat_natCast]
    rw [h2]
    simp; omega
/-- What is read has these bytes. -/
theorem getR_read {N : Nat} {F : Nat → Int} {p k n q : Int} {s : ByteArray} (hb : ∀ i, i < N → 0 ≤ F i ∧ F i ≤ 255) (h : getR N F p = ⟨k, n, s, q, true⟩) :
    ∃ i : Nat, p = (i : Int) ∧ AtF N F i (valB k n s) ∧ q = (i : Int) + ((valB k n s).length : Int) ∧ 0 ≤ k ∧ k ≤ 1000000 := by
  obtain ⟨a, q1, ok, hu⟩ : ∃ a q1 ok, getU N F p = (a, q1, ok) := ⟨_, _, _, rfl⟩
  unfold getR at h
  rw [hu] at h
  simp only at h
  have hok : ok = true := by
    by_cases c1 : a = 1 ∨ a = 2
    · rw [if_pos c1] at h
      simp only [Got.mk.injEq, Bool.and_eq_true] at h
      exact h.2.2.2.2.1
    rw [if_neg c1] at h
    by_cases c2 : a = 3
    · rw [if_pos c2] at h
      simp only [Got.mk.injEq, Bool.and_eq_true] at h
      exact h.2.2.2.2.1
    rw [if_neg c2] at h
    by_cases c3 : a = 4
    · rw [if_pos c3] at h
      by_cases c4 : q1 < N
      · rw [if_pos c4] at h
        simp only [Got.mk.injEq] at h
        exact h.2.2.2.2
      · rw [if_neg c4] at h
        simp at h
    · rw [if_neg c3] at h
      simp only [Got.mk.injEq] at h
      exact h.2.2.2.2
  subst hok
  obtain ⟨i, rfl, hA, rfl, h0, h1⟩ := getU_read hb hu
  have e1 : (i : Int) + ((groups a).length : Int) = ((i + (groups a).length : Nat) : Int) := by push_cast; rfl
  have fin : ∀ (B : List Int), AtF N F (i + (groups a).length) B → k = a → bodyB a n s = B → q = (i : Int) + ((groups a).length : Int) + (B.length : Int) →
      ∃ j : Nat, (i : Int) = (j : Int) ∧ AtF N F j (valB k n s) ∧ q = (j : Int) + ((valB k n s).length : Int) ∧ 0 ≤ k ∧ k ≤ 1000000 := by
    rintro B hB rfl hbd hq
    refine ⟨i, rfl, ?_, ?_, h0, h1⟩
    · unfold valB
      rw [clampN_id h0 h1, hbd]
      exact hA.append hB
    · unfold valB
      rw [clampN_id h0 h1, hbd, List.length_append, hq]
      push_cast
      omega
  by_cases c1 : a = 1 ∨ a = 2
  · rw [if_pos c1, e1] at h
    obtain ⟨v, q2, o2, hv⟩ : ∃ v q2 o2, getV N F ((i + (groups a).length : Nat) : Int) = (v, q2, o2) := ⟨_, _, _, rfl⟩
    rw [hv] at h
    simp only [Got.mk.injEq, Bool.true_and] at h
    obtain ⟨rfl, rfl, rfl, rfl, rfl⟩ := h
    obtain ⟨j, ej, hV, hq, -, -⟩ := getV_read hb hv
    have ej' : i + (groups a).length = j := by omega
    subst ej'
    exact fin (varL v) hV rfl (by unfold bodyB; rw [if_pos c1]) (by rw [hq]; push_cast; omega)
  rw [if_neg c1] at h
  by_cases c2 : a = 3
  · rw [if_pos c2, e1] at h
    obtain ⟨v, q2, o2, hv⟩ : ∃ v q2 o2, getText N F ((i + (groups a).length : Nat) : Int) = (v, q2, o2) := ⟨_, _, _, rfl⟩
    rw [hv] at h
    simp only [Got.mk.injEq, Bool.true_and] at h
    obtain ⟨hk, rfl, rfl, rfl, rfl⟩ := h
    obtain ⟨j, ej, hV, hq, hsz⟩ := getText_read hb hv
    have ej' : i + (groups a).length = j := by omega
    subst ej'
    exact fin (txtL v) hV (by omega) (by unfold bodyB; rw [if_neg c1, if_pos c2, clampN_id (by omega) (by omega)]; rfl) (by rw [hq]; push_cast; omega)
  rw [if_neg c2] at h
  by_cases c3 : a = 4
  · rw [if_pos c3] at h
    by_cases c4 : (i : Int) + ((groups a).length : Int) < N
    · rw [if_pos c4, e1] at h
      simp only [Got.mk.injEq, Int.toNat_natCast] at h
      obtain ⟨hk, hn, rfl, rfl, -⟩ := h
      have hbb := hb (i + (groups a).length) (by omega)
      refine fin [n] ⟨by simp; omega, fun j hj => ?_⟩ (by omega) (by unfold bodyB; rw [if_neg c1, if_neg c2, if_pos c3]; congr 1; omega) (by simp)
      obtain rfl : j = 0 := by simpa using hj
      simpa using hn
    · rw [if_neg c4] at h
      simp at h
  · rw [if_neg c3] at h
    simp only [Got.mk.injEq] at h
    obtain ⟨hk, rfl, rfl, rfl, -⟩ := h
    exact fin [] (AtF.nil (by have := hA.le; omega)) hk.symm (by unfold bodyB; rw [if_neg c1, if_neg c2, if_neg c3]) (by simp)
end Go.Proofs.Ytikopeihkbpjhas

/-
  Two values are held against each other, all fields at once.
-/
namespace Go.Proofs.Ytikopeihkbpjhas
open Go.RowKit
set_option maxRecDepth 4000

def valAgg (k n : Int) (s : ByteArray) : Value := .agg #[.int .i64 k, .int .i64 n, .string s]

/-- Whether two values are alike. -/
def eqV (k n : Int) (s : ByteArray) (k' n' : Int) (s' : ByteArray) : Bool := decide (k = k') && decide (n = n') && decide (s = s')

theorem toList_inj {a b : ByteArray} : a.toList = b.toList ↔ a = b := by
  constructor
  · intro h
    rw [ByteArray.toList_eq, ByteArray.toList_eq] at h
    obtain ⟨⟨x⟩⟩ := a
    obtain ⟨⟨y⟩⟩ := b
    simp only at h
    rw [h]
  · rintro rfl; rfl

theorem eqVal_run (k n : Int) (s : ByteArray) (k' n' : Int) (s' : ByteArray) (W : World) :
    (binOp .eql 52 (.agg #[.int .i64 k, .int .i64 n, .string s]) (.agg #[.int .i64 k', .int .i64 n', .string s'])).run Try.prog W = .ok (.bool (eqV k n s k' n' s')) W := by
  by_cases h1 : k = k' <;> by_cases h2 : n = n' <;> by_cases h3 : s = s' <;> simp [go_sem, h1, h2, h3, eqV, toList_inj]

theorem neVal_run (k n : Int) (s : ByteArray) (k' n' : Int) (s' : ByteArray) (W : World) :
    (binOp .neq 52 (.agg #[.int .i64 k, .int .i64 n, .string s]) (.agg #[.int .i64 k', .int .i64 n', .string s'])).run Try.prog W = .ok (.bool (!eqV k n s k' n' s')) W := by
  by_cases h1 : k = k' <;> by_cases h2 : n = n' <;> by_cases h3 : s = s' <;> simp [go_sem, h1, h2, h3, eqV, toList_inj]

end Go.Proofs.Ytikopeihkbpjhas

/-
  Values that were put into variables of the call's own, in later worlds.
-/
namespace Go.Proofs.Ytikopeihkbpjhas
open Go.RowKit
set_option maxRecDepth 4000

/-- A value that was put into a variable of the call's own reads as it did. -/
theorem boxed {w W' : World} {T : TypeId} {k n : Int} {s : ByteArray} {B : Nat} (h : Below B (w.alloc (.cells #[.int .i64 k, .int .i64 n, .string s] T)) W') (hB : w.heap.size < B) : W'.cell? ⟨w.heap.size, 0, none⟩ = some (.int .i64 k) ∧ W'.cell? ⟨w.heap.size, 1, none⟩ = some (.int .i64 n) ∧ W'.cell? ⟨w.heap.size, 2, none⟩ = some (.string s) := by
  refine ⟨?_, ?_, ?_⟩
  all_goals (rw [h.cell hB]; simp [go_sem])

/-- And it may be written. -/
theorem boxedF {w W' : World} {T : TypeId} {k n : Int} {s : ByteArray} {B : Nat} (h : Below B (w.alloc (.cells #[.int .i64 k, .int .i64 n, .string s] T)) W') (hB : w.heap.size < B) : W'.frozen? ⟨w.heap.size, 0, none⟩ = false ∧ W'.frozen? ⟨w.heap.size, 1, none⟩ = false ∧ W'.frozen? ⟨w.heap.size, 2, none⟩ = false := by
  refine ⟨?_, ?_, ?_⟩
  all_goals (rw [h.frozen hB]; simp [go_sem])

theorem sc_other (W : World) (B i j : Nat) (v : Value) (h : i ≠ j) : (W.setCell ⟨B, i, none⟩ v).cell? ⟨B, j, none⟩ = W.cell? ⟨B, j, none⟩ :=
  World.cell?_setCell_other W _ _ v (by intro e; exact h (congrArg Addr.off e))
theorem sc_same {W : World} {B i : Nat} {v u : Value} (h : W.cell? ⟨B, i, none⟩ = some u) : (W.setCell ⟨B, i, none⟩ v).cell? ⟨B, i, none⟩ = some v := World.cell?_setCell_same W _ v h

/-- A value that is put into the result's variable. -/
theorem stored3 {W : World} {B : Nat} {x0 x1 x2 : Value} (a b c : Value) (c0 : W.cell? ⟨B, 0, none⟩ = some x0) (c1 : W.cell? ⟨B, 1, none⟩ = some x1) (c2 : W.cell? ⟨B, 2, none⟩ = some x2) :
    (((W.setCell ⟨B, 0, none⟩ a).setCell ⟨B, 1, none⟩ b).setCell ⟨B, 2, none⟩ c).cell? ⟨B, 0, none⟩ = some a ∧
    (((W.setCell ⟨B, 0, none⟩ a).setCell ⟨B, 1, none⟩ b).setCell ⟨B, 2, none⟩ c).cell? ⟨B, 1, none⟩ = some b ∧
    (((W.setCell ⟨B, 0, none⟩ a).setCell ⟨B, 1, none⟩ b).setCell ⟨B, 2, none⟩ c).cell? ⟨B, 2, none⟩ = some c := by
  refine ⟨?_, ?_, ?_⟩
  · rw [sc_other _ _ 2 0 _ (by decide), sc_other _ _ 1 0 _ (by decide), sc_same c0]
  · rw [sc_other _ _ 2 1 _ (by decide), sc_same (u := x1) (by rw [sc_other _ _ 0 1 _ (by decide)]; exact c1)]
  · rw [sc_same (u := x2) (by rw [sc_other _ _ 1 2 _ (by decide), sc_other _ _ 0 2 _ (by decide)]; exact c2)]

theorem stored3A {W : World} {B : Nat} {x0 x1 x2 : Value} (a b c : Value) (c0 : W.cell? ⟨B, 0, none⟩ = some x0) (c1 : W.cell? ⟨B, 1, none⟩ = some x1) (c2 : W.cell? ⟨B, 2, none⟩ = some x2) (h : B < W.heap.size) (o : Obj) :
    ((((W.setCell ⟨B, 0, none⟩ a).setCell ⟨B, 1, none⟩ b).setCell ⟨B, 2, none⟩ c).alloc o).cell? ⟨B, 0, none⟩ = some a ∧
    ((((W.setCell ⟨B, 0, none⟩ a).setCell ⟨B, 1, none⟩ b).setCell ⟨B, 2, none⟩ c).alloc o).cell? ⟨B, 1, none⟩ = some b ∧
    ((((W.setCell ⟨B, 0, none⟩ a).setCell ⟨B, 1, none⟩ b).setCell ⟨B, 2, none⟩ c).alloc o).cell? ⟨B, 2, none⟩ = some c := by
  have g := stored3 a b c c0 c1 c2
  have hB : B < (((W.setCell ⟨B, 0, none⟩ a).setCell ⟨B, 1, none⟩ b).setCell ⟨B, 2, none⟩ c).heap.size := by simpa using h
  rw [World.cell?_alloc_past _ _ _ hB, World.cell?_alloc_past _ _ _ hB, World.cell?_alloc_past _ _ _ hB]
  exact g

/-- Two values that were put into variables of the call's own stand in a later world. -/
structure Two (w : World) (T : TypeId) (k n : Int) (s : ByteArray) (k' n' : Int) (s' : ByteArray) (W : World) : Prop where
  below : Below (w.heap.size + 2) ((w.alloc (.cells #[.int .i64 k, .int .i64 n, .string s] T)).alloc (.cells #[.int .i64 k', .int .i64 n', .string s'] T)) W
  size : w.heap.size + 2 ≤ W.heap.size

theorem Two.start (w : World) (T : TypeId) (k n : Int) (s : ByteArray) (k' n' : Int) (s' : ByteArray) : Two w T k n s k' n' s' ((w.alloc (.cells #[.int .i64 k, .int .i64 n, .string s] T)).alloc (.cells #[.int .i64 k', .int .i64 n', .string s'] T)) := ⟨Below.refl _ _, by simp⟩
theorem Two.drew {w W : World} {T : TypeId} {k n : Int} {s : ByteArray} {k' n' : Int} {s' : ByteArray} (h : Two w T k n s k' n' s' W) : Two w T k n s k' n' s' W.drew := ⟨h.below.drew, h.size⟩
theorem Two.step {w W W' : World} {T : TypeId} {k n : Int} {s : ByteArray} {k' n' : Int} {s' : ByteArray} (h : Two w T k n s k' n' s' W) (hB : Below W.heap.size W W') : Two w T k n s k' n' s' W' :=
  ⟨h.below.trans (hB.mono h.size), Nat.le_trans h.size hB.size⟩
theorem Two.cells {w W : World} {T : TypeId} {k n : Int} {s : ByteArray} {k' n' : Int} {s' : ByteArray} (h : Two w T k n s k' n' s' W) :
    (W.cell? ⟨w.heap.size, 0, none⟩ = some (.int .i64 k) ∧ W.cell? ⟨w.heap.size, 1, none⟩ = some (.int .i64 n) ∧ W.cell? ⟨w.heap.size, 2, none⟩ = some (.string s)) ∧
    (W.cell? ⟨w.heap.size + 1, 0, none⟩ = some (.int .i64 k') ∧ W.cell? ⟨w.heap.size + 1, 1, none⟩ = some (.int .i64 n') ∧ W.cell? ⟨w.heap.size + 1, 2, none⟩ = some (.string s')) := by
  refine ⟨⟨?_, ?_, ?_⟩, ?_, ?_, ?_⟩
  all_goals (rw [h.below.cell (by show _ < _; simp <;> omega)]; simp [go_sem])
theorem Two.all {w W : World} {T : TypeId} {k n : Int} {s : ByteArray} {k' n' : Int} {s' : ByteArray} (h : Two w T k n s k' n' s' W) : Below w.heap.size w W :=
  (((Below.refl _ _).alloc (Nat.le_refl _) _).alloc (by simp) _).trans (h.below.mono (by omega))

end Go.Proofs.Ytikopeihkbpjhas

/-
  A slice of values that reads, by a function of the index, and how that is carried from one world to the next.
-/
namespace Go.Proofs.Ytikopeihkbpjhas
open Go.RowKit
set_option maxRecDepth 4000

/-- The slice value '.slice ao n cap' reads, in the world w, as the n values f 0 up to f (n - 1). -/
structure VView (w : World) (ao : Option Addr) (n cap : Nat) (fk fn : Nat → Int) (fs : Nat → ByteArray) : Prop where
  le : n ≤ cap
  cells : 0 < n → ∃ b off, ao = some ⟨b, off, none⟩ ∧ b < w.heap.size ∧ ∀ i, i < n → w.cell? ⟨b, off + i * 3, none⟩ = some (.int .i64 (fk i)) ∧ w.cell? ⟨b, off + i * 3 + 1, none⟩ = some (.int .i64 (fn i)) ∧ w.cell? ⟨b, off + i * 3 + 2, none⟩ = some (.string (fs i))

theorem VView.below {w w' : World} {ao : Option Addr} {n cap : Nat} {fk fn : Nat → Int} {fs : Nat → ByteArray} (h : VView w ao n cap fk fn fs) (hb : Below w.heap.size w w') : VView w' ao n cap fk fn fs := by
  refine ⟨h.le, fun hn => ?_⟩
  obtain ⟨b, off, e, hlt, hc⟩ := h.cells hn
  refine ⟨b, off, e, Nat.lt_of_lt_of_le hlt hb.size, fun i hi => ?_⟩
  rw [hb.cell (p := ⟨b, off + i * 3, none⟩) hlt, hb.cell (p := ⟨b, off + i * 3 + 1, none⟩) hlt, hb.cell (p := ⟨b, off + i * 3 + 2, none⟩) hlt]
  exact hc i hi

end Go.Proofs.Ytikopeihkbpjhas

/-
  Rows of values of the call's own, that grow by one value at a time.
-/
namespace Go.Proofs.Ytikopeihkbpjhas
open Go.RowKit
set_option maxRecDepth 4000

/-- The cells of the first k values. -/
def rowC (gk gn : Nat → Int) (gs : Nat → ByteArray) : Nat → List Value
  | 0 => []
  | k + 1 => rowC gk gn gs k ++ [.int .i64 (gk k), .int .i64 (gn k), .string (gs k)]
theorem rowC_len (gk gn : Nat → Int) (gs : Nat → ByteArray) : ∀ k, (rowC gk gn gs k).length = k * 3
  | 0 => rfl
  | k + 1 => by rw [rowC, List.length_append, rowC_len gk gn gs k]; simp; omega
theorem rowC_get (gk gn : Nat → Int) (gs : Nat → ByteArray) : ∀ k i, i < k → (rowC gk gn gs k)[i * 3]? = some (.int .i64 (gk i)) ∧ (rowC gk gn gs k)[i * 3 + 1]? = some (.int .i64 (gn i)) ∧ (rowC gk gn gs k)[i * 3 + 2]? = some (.string (gs i))
  | k + 1, i, hi => by
    have hl := rowC_len gk gn gs k
    by_cases e : i < k
    · obtain ⟨h1, h2, h3⟩ := rowC_get gk gn gs k i e
      rw [rowC, List.getElem?_append_left (by omega), List.getElem?_append_left (by omega), List.getElem?_append_left (by omega)]
      exact ⟨h1, h2, h3⟩
    · obtain rfl : i = k := by omega
      rw [rowC, List.getElem?_append_right (by omega), List.getElem?_append_right (by omega), List.getElem?_append_right (by omega), hl]
      simp [show i * 3 + 1 - i * 3 = 1 by omega, show i * 3 + 2 - i * 3 = 2 by omega]
theorem rowC_congr {gk gn : Nat → Int} {gs : Nat → ByteArray} {hk hn : Nat → Int} {hs : Nat → ByteArray} : ∀ {k : Nat}, (∀ i, i < k → gk i = hk i ∧ gn i = hn i ∧ gs i = hs i) → rowC gk gn gs k = rowC hk hn hs k
  | 0, _ => rfl
  | k + 1, e => by
    obtain ⟨h1, h2, h3⟩ := e k (by omega)
    rw [rowC, rowC, rowC_congr (fun i hi => e i (by omega)), h1, h2, h3]

/-- A row of values of the call's own reads. -/
theorem vview_of_own {w : World} {base : Nat} {v : Value} {N : Nat} {gk gn : Nat → Int} {gs : Nat → ByteArray} (h : w.ownsRow base 52 3 v N (rowC gk gn gs N)) : ∃ a c, v = .slice a N c ∧ VView w a N c gk gn gs ∧ (v ≠ .slice none 0 0 → ∃ g, a = some ⟨g, 0, none⟩ ∧ base ≤ g) := by
  obtain ⟨hl, h⟩ := h
  rcases h with ⟨rfl, h0⟩ | ⟨g, c, cur, rfl, hb, hg, hnc, _, hcs, ht⟩
  · have hN : N = 0 := by have := h0; have := rowC_len gk gn gs N; omega
    subst hN
    exact ⟨none, 0, rfl, ⟨Nat.le_refl _, fun hn => absurd hn (Nat.lt_irrefl _)⟩, fun hne => absurd rfl hne⟩
  · refine ⟨_, c, rfl, ⟨hnc, fun hn => ⟨g, 0, rfl, ?_, fun i hi => ?_⟩⟩, fun _ => ⟨g, rfl, hb⟩⟩
    · exact (Array.getElem?_eq_some_iff.1 hg).1
    · have key : ∀ j x, j < N * 3 → (rowC gk gn gs N)[j]? = some x → w.cell? ⟨g, 0 + j, none⟩ = some x := by
        intro j x hj hx
        rw [← ht, List.getElem?_take, if_pos hj] at hx
        simp only [World.cell?, hg, Nat.zero_add]
        simpa using hx
      obtain ⟨h1, h2, h3⟩ := rowC_get gk gn gs N i hi
      have k0 := key _ _ (by omega) h1
      have k1 := key _ _ (by omega) h2
      have k2 := key _ _ (by omega) h3
      simp only [Nat.zero_add] at k0 k1 k2 ⊢
      exact ⟨k0, k1, k2⟩
end Go.Proofs.Ytikopeihkbpjhas

/-
  A row as it is read of bytes: plainly.
-/
namespace Go.Proofs.Ytikopeihkbpjhas
open Go.RowKit
set_option maxRecDepth 4000

section
variable (M : Nat) (F : Nat → Int)
/-- The place behind the first k values, as they are read. -/
def rQ : Nat → Option Int
  | 0 => some (getU M F 0).2.1
  | k + 1 => (rQ k).bind (fun p => if (getR M F p).ok then some (getR M F p).q else none)
/-- The value that is read at a place of the row. -/
def rG (k : Nat) : Got := getR M F ((rQ M F k).getD 0)
def rK (i : Nat) : Int := (rG M F i).k
def rN (i : Nat) : Int := (rG M F i).n
def rS (i : Nat) : ByteArray := (rG M F i).s
/-- How many values there are said to be. -/
def rCnt : Nat := (getU M F 0).1.toNat
/-- Whether the bytes are a row of the plan. -/
def rowRd (n : Nat) (fc ft : Nat → Int) (fu : Nat → Bool) : Bool := (getU M F 0).2.2 && (decide (rCnt M F ≤ 7 ∧ rQ M F (rCnt M F) = some (M : Int)) && rowOk n fc ft fu (rCnt M F) (rK M F) (rN M F) (rS M F))
end
theorem rQ_succ {M : Nat} {F : Nat → Int} {k : Nat} {q : Int} (h : rQ M F (k + 1) = some q) : ∃ p, rQ M F k = some p ∧ (getR M F p).ok = true ∧ (getR M F p).q = q := by
  rw [rQ] at h
  obtain ⟨p, h1, h2⟩ := Option.bind_eq_some_iff.1 h
  by_cases e : (getR M F p).ok = true
  · rw [if_pos e] at h2
    exact ⟨p, h1, e, Option.some.inj h2⟩
  · rw [if_neg e] at h2; cases h2
theorem rQ_none {M : Nat} {F : Nat → Int} {k : Nat} (h : rQ M F k = none) : ∀ j, rQ M F (k + j) = none
  | 0 => h
  | j + 1 => by rw [← Nat.add_assoc, rQ, rQ_none h j]; rfl
/-- The places lie within, and texts are short. -/
theorem rQ_bd {M : Nat} {F : Nat → Int} (hb : ∀ i, i < M → 0 ≤ F i ∧ F i ≤ 255) (h0 : (getU M F 0).2.2 = true) : ∀ {k : Nat} {p : Int}, rQ M F k = some p → 0 ≤ p ∧ p ≤ M
  | 0, p, h => by
    rw [rQ] at h
    obtain ⟨a, q, ok, hu⟩ : ∃ a q ok, getU M F 0 = (a, q, ok) := ⟨_, _, _, rfl⟩
    rw [hu] at h h0
    have e := Option.some.inj h
    simp only at e h0
    subst h0
    have := getU_bd hb hu
    omega
  | k + 1, p, h => by
    obtain ⟨p', h1, h2, h3⟩ := rQ_succ h
    obtain ⟨kk, y, s, q, ok, hg⟩ : ∃ kk y s q ok, getR M F p' = ⟨kk, y, s, q, ok⟩ := ⟨_, _, _, _, _, rfl⟩
    rw [hg] at h2 h3
    simp only at h2 h3
    subst h2 h3
    obtain ⟨i, _, hA, hq, _⟩ := getR_read hb hg
    have := hA.le
    omega
theorem rS_short {M : Nat} {F : Nat → Int} (hb : ∀ i, i < M → 0 ≤ F i ∧ F i ≤ 255) {k : Nat} {p : Int} (h : rQ M F k = some p) : ∀ i, i < k → (rS M F i).size ≤ M := by
  intro i hi
  have hsome : ∀ j, j ≤ k → ∃ q, rQ M F j = some q := by
    intro j hj
    cases e : rQ M F j with
    | some q => exact ⟨q, rfl⟩
    | none =>
      have := rQ_none e (k - j)
      rw [show j + (k - j) = k by omega, h] at this
      cases this
  obtain ⟨q1, h1⟩ := hsome (i + 1) (by omega)
  obtain ⟨p', h2, h3, h4⟩ := rQ_succ h1
  have eg : rG M F i = getR M F p' := by unfold rG; rw [h2]; rfl
  unfold rS
  rw [eg]
  obtain ⟨kk, y, s, q, ok, hg⟩ : ∃ kk y s q ok, getR M F p' = ⟨kk, y, s, q, ok⟩ := ⟨_, _, _, _, _, rfl⟩
  rw [hg] at h3 ⊢
  simp only at h3 ⊢
  subst h3
  obtain ⟨i', _, hA, _, _⟩ := getR_read hb hg
  have hle := hA.le
  have hg2 := hg
  unfold getR at hg2
  by_cases hk : kk = 3
  · subst hk
    unfold valB bodyB at hle
    rw [if_neg (by decide), if_pos rfl, List.length_append, List.length_append, sl_len] at hle
    omega
  · have hsz : s.size = 0 := by
      by_cases c1 : (getU M F p').1 = 1 ∨ (getU M F p').1 = 2
      · rw [if_pos c1] at hg2; simp only [Got.mk.injEq] at hg2; rw [← hg2.2.2.1]; rfl
      rw [if_neg c1] at hg2
      by_cases c2 : (getU M F p').1 = 3
      · rw [if_pos c2] at hg2; simp only [Got.mk.injEq] at hg2; exact absurd hg2.1.symm hk
      rw [if_neg c2] at hg2
      by_cases c3 : (getU M F p').1 = 4
      · rw [if_pos c3] at hg2
        split at hg2 <;> (simp only [Got.mk.injEq] at hg2; rw [← hg2.2.2.1]; rfl)
      · rw [if_neg c3] at hg2; simp only [Got.mk.injEq] at hg2; rw [← hg2.2.2.1]; rfl
    omega
end Go.Proofs.Ytikopeihkbpjhas

/-
  Plain facts on the sum, in the forms in which the walks meet them.
-/
namespace Go.Proofs.Ytikopeihkbpjhas
open Go.RowKit
set_option maxRecDepth 4000

theorem u32_one (y : Nat) (h : y < 4294967296) : bits .and .u32 (y : Int) 1 = ((y % 2 : Nat) : Int) := by
  have := u32_and_nat y 1 h (by decide)
  rw [nat_mask1] at this; exact this
theorem u32_turn (y : Nat) (h : y < 4294967296) : bits .xor .u32 ((y : Int) / 2) 2197175160 = ((y / 2 ^^^ 2197175160 : Nat) : Int) := by
  have := u32_xor_nat (y / 2) 2197175160 (by omega) (by decide)
  rw [← this]; rfl
theorem i64_turn (y : Nat) (h : y < 4294967296) : bits .xor .i64 ((y : Int) / 2) 2197175160 = ((y / 2 ^^^ 2197175160 : Nat) : Int) := by
  have := i64_xor_nat (y / 2) 2197175160 (by omega) (by decide)
  rw [← this]; rfl
theorem i64_last (y : Nat) (h : y < 4294967296) : bits .xor .i64 (y : Int) 4294967295 = ((y ^^^ 4294967295 : Nat) : Int) := i64_xor_nat y 4294967295 (by omega) (by decide)
theorem u32_last (y : Nat) (h : y < 4294967296) : bits .xor .u32 IntKind.u32.max (y : Int) = ((y ^^^ 4294967295 : Nat) : Int) := by
  have e : IntKind.u32.max = ((4294967295 : Nat) : Int) := by simp [IntKind.max, IntKind.signed, IntKind.bits]
  rw [Nat.xor_comm, e]; exact u32_xor_nat 4294967295 y (by decide) h
theorem i64_in (y : Nat) (b : Int) (h : y < 4294967296) (h0 : 0 ≤ b ∧ b ≤ 255) : bits .xor .i64 (y : Int) b = ((y ^^^ b.toNat : Nat) : Int) := by
  obtain ⟨c, rfl⟩ := Int.eq_ofNat_of_zero_le h0.1
  rw [Int.toNat_natCast]; exact i64_xor_nat y c (by omega) (by omega)
theorem u32_in (y : Nat) (b : Int) (h : y < 4294967296) (h0 : 0 ≤ b ∧ b ≤ 255) : bits .xor .u32 (y : Int) b = ((y ^^^ b.toNat : Nat) : Int) := by
  obtain ⟨c, rfl⟩ := Int.eq_ofNat_of_zero_le h0.1
  rw [Int.toNat_natCast]; exact u32_xor_nat y c (by omega) (by omega)
theorem crcBit_odd (y : Nat) (h : y % 2 = 1) : crcBit y = y / 2 ^^^ 2197175160 := by unfold crcBit; rw [if_pos h]
theorem crcBit_even (y : Nat) (h : ¬ y % 2 = 1) : crcBit y = y / 2 := by unfold crcBit; rw [if_neg h]

theorem retInt {k : IntKind} {a b : Int} (h : a = b) : Ending.returned (.int k a) = .returned (.int k b) := by rw [h]

end Go.Proofs.Ytikopeihkbpjhas

/-
  The program's Crc comes to the plain sum, at every slice of bytes that reads.
-/
namespace Go.Proofs.Ytikopeihkbpjhas
open Go.RowKit
set_option maxRecDepth 4000

set_option maxHeartbeats 1000000 in
theorem crcStep_any (x : Nat) (w : World) (hx : x < 4294967296) :
    Calls Try.prog 75 #[.int .u32 (x : Int)] w fun e w' => e = .returned (.int .u32 ((crcBits 8 x : Nat) : Int)) ∧ w = w' := by
  go_enter Try.func75, Try.ntmps75
  go_wp2
  go_loopg [0, 4] 8 (fun g s i wr => w = wr ∧ ∃ k y : Nat, k ≤ 8 ∧ g = 8 - k ∧ s = .int .u32 (y : Int) ∧ i = .int .i64 k ∧ y < 4294967296 ∧ y = crcBits k x)
  case atStart => exact ⟨rfl, 0, x, by omega, rfl, rfl, rfl, hx, rfl⟩
  case round =>
    obtain ⟨rfl, k, y, hk, rfl, rfl, rfl, hy, hyk⟩ := hrel
    have HY : Hid (y = crcBits k x) := hyk
    clear hyk
    by_cases hlt : k < 8
    · have hkz : (k : Int) < 8 := by omega
      by_cases hodd : y % 2 = 1
      · have q1 : bits .and .u32 (y : Int) 1 = 1 := by rw [u32_one y hy, hodd]; rfl
        have q2 := u32_turn y hy
        have HO : Hid (y % 2 = 1) := hodd
        clear hodd
        go_wp2
        go_roundg (8 - (k + 1))
        case measure => omega
        case rel => exact ⟨rfl, k + 1, y / 2 ^^^ 2197175160, by omega, rfl, rfl, by go_num, Nat.xor_lt_two_pow (n := 32) (by omega) (by decide), by rw [← crcBit_odd y HO.out, HY.out]; rfl⟩
      · have q1 : bits .and .u32 (y : Int) 1 = 0 := by rw [u32_one y hy, show y % 2 = 0 by omega]; rfl
        have HO : Hid (¬ y % 2 = 1) := hodd
        clear hodd
        go_wp2
        go_roundg (8 - (k + 1))
        case measure => omega
        case rel => exact ⟨rfl, k + 1, y / 2, by omega, rfl, by go_num, by go_num, by omega, by rw [← crcBit_even y HO.out, HY.out]; rfl⟩
    · obtain rfl : k = 8 := by omega
      go_wp2
      go_ret
      exact ⟨retInt (congrArg Int.ofNat HY.out), rfl⟩

set_option maxHeartbeats 1000000 in
theorem crc_impl (ao : Option Addr) (n cap : Nat) (f : Nat → Int) (w : World) (hv : View w ao n cap f) (hn : n ≤ 281474976710656) :
    Calls Try.prog 61 #[.slice ao n cap] w fun e w' => e = .returned (.int .i64 ((crc n f : Nat) : Int)) ∧ w = w' := by
  go_enter Try.func61, Try.ntmps61
  go_wp2
  go_loopg [3, 8] n (fun g s i wr => w = wr ∧ ∃ k y : Nat, k ≤ n ∧ g = n - k ∧ s = .int .u32 (y : Int) ∧ i = .int .i64 k ∧ y < 4294967296 ∧ y = crcTo f k)
  case atStart => exact ⟨rfl, 0, 4294967295, by omega, rfl, rfl, rfl, by decide, rfl⟩
  case round =>
    obtain ⟨rfl, k, y, hk, rfl, rfl, rfl, hy, hyk⟩ := hrel
    have HY : Hid (y = crcTo f k) := hyk
    clear hyk
    by_cases hlt : k < n
    · obtain ⟨b, off, rfl, hb, hc⟩ := hv.cells (by omega)
      have hkz : (k : Int) < (n : Int) := by omega
      have hc1 := hc k hlt
      have hbk := hv.byte k hlt
      have q1 := u32_in y (f k) hy hbk
      have hlt2 := xorByte_lt hy hbk
      obtain ⟨hbk0, hbk1⟩ := hbk
      clear hc
      go_wp2_with fail
      refine (crcStep_any _ _ hlt2).mono ?_
      rintro e _ ⟨rfl, rfl⟩
      go_wp2
      go_roundg (n - (k + 1))
      case measure => omega
      case rel => exact ⟨rfl, k + 1, crcBits 8 (y ^^^ (f k).toNat), by omega, rfl, rfl, by go_num, crcBits_lt hlt2, by rw [HY.out]; rfl⟩
    · obtain rfl : k = n := by omega
      have q1 := u32_last y hy
      have q2 : y ^^^ 4294967295 < 4294967296 := Nat.xor_lt_two_pow (n := 32) hy (by decide)
      have q3 : wrap64 ((y ^^^ 4294967295 : Nat) : Int) = ((y ^^^ 4294967295 : Nat) : Int) := by
        generalize y ^^^ 4294967295 = z at q2
        exact IntWalk.wrap64_in _ ⟨by omega, by omega⟩
      go_wp2
      go_ret
      exact ⟨retInt (congrArg (fun z : Nat => ((z ^^^ 4294967295 : Nat) : Int)) HY.out), rfl⟩

theorem crc_impl' {c : Nat} (ao : Option Addr) (n cap : Nat) (f : Nat → Int) (w : World) (hg : Hid (crc n f = c)) (hv : View w ao n cap f) (hn : n ≤ 281474976710656) :
    Calls Try.prog 61 #[.slice ao n cap] w fun e w' => e = .returned (.int .i64 (c : Int)) ∧ w = w' := by
  have h := crc_impl ao n cap f w hv hn
  rw [hg.out] at h; exact h
end Go.Proofs.Ytikopeihkbpjhas

/-
  The program's putBytes: both slices of bytes, one behind the other, in one new row that holds just them.
-/
namespace Go.Proofs.Ytikopeihkbpjhas
open Go.RowKit
set_option maxRecDepth 4000

theorem cells_of_any {w : World} {ao : Option Addr} {n cap : Nat} {f : Nat → Int} (h : View w ao n cap f) : ∀ ad, ao = some ad → ∀ j u, (bl (lof n f))[j]? = some u → w.cell? (ad.add j) = some u := by
  rintro ad rfl j u hu
  have hj : j < n := by
    by_cases hj : j < n
    · exact hj
    · rw [List.getElem?_eq_none (by rw [bl_len, lof_len]; omega)] at hu; cases hu
  obtain ⟨b', off', e, _, _⟩ := h.cells (by omega)
  simp only [Option.some.injEq] at e
  subst e
  exact cells_of_view h j u hu

theorem below_new {w w1 : World} (h : w.grownBy w1 none) : Below w.heap.size w w1 := (Below.refl _ _).grown h (Nat.le_refl _) (by intro k hk; cases hk)
theorem below_app {w w1 w2 : World} (h : w.grownBy w1 none) (h2 : w1.grownBy w2 (some w.heap.size)) : Below w.heap.size w w2 :=
  (below_new h).grown h2 h.size (by intro k hk; cases hk; exact Nat.le_refl _)

set_option maxHeartbeats 1000000 in
theorem putBytes_any (b off n cap : Nat) (f : Nat → Int) (ao : Option Addr) (m c : Nat) (g : Nat → Int) (w : World) (hv : View w (some ⟨b, off, none⟩) n cap f) (hg : View w ao m c g) (hno : ao = none → m = 0 ∧ c = 0) (hn : n + m ≤ 70368744177664) :
    Calls Try.prog 60 #[.slice (some ⟨b, off, none⟩) n cap, .slice ao m c] w fun e w' => e = .returned (.slice (some ⟨w.heap.size, 0, none⟩) (n + m) (n + m)) ∧ w'.ownsRow w.heap.size 5 1 (.slice (some ⟨w.heap.size, 0, none⟩) (n + m) (n + m)) (n + m) (bl (lof n f ++ lof m g)) ∧ Below w.heap.size w w' := by
  obtain ⟨i0, hi, hz0, hz1, hz2⟩ := info_parts Try.info5
  go_enter Try.func60, Try.ntmps60
  go_wp2_with (first | (at_make; go_must (refine wpList_make_own _ rfl (.const (.int .i64 0)) (.tmp 10) 34 rfl w.heap.size 5 i0 (.int .u8 0) 1 Try.underlying34 hi hz0 hz1 .i64 .i64 ((n : Int) + (m : Int)) (n + m) rfl rfl (by omega) (by rw [hz2]; omega) (by unfold maxLen; omega) (Nat.le_refl _) ?_); intro w1 hown1 hgr1) | (at_builtin; refine wpList_append_fits_any _ rfl (.tmp 12) (.tmp 13) 34 rfl w.heap.size 5 i0 1 Try.underlying34 hi hz1 w.heap.size 0 (n + m) [] rfl hown1 (some ⟨b, off, none⟩) n cap (bl (lof n f)) rfl (by rw [bl_len, lof_len]; omega) (by intro h; cases h) (cells_of_any (hv.below (below_new hgr1))) (bl_one _) (by omega) ?_; intro w2 hown2 hgr2; simp only [Nat.zero_add, List.nil_append] at hown2) | (at_builtin; refine wpList_append_fits_any _ rfl (.tmp 15) (.tmp 16) 34 rfl w.heap.size 5 i0 1 Try.underlying34 hi hz1 w.heap.size n (n + m) (bl (lof n f)) rfl hown2 ao m c (bl (lof m g)) rfl (by rw [bl_len, lof_len]; omega) hno (cells_of_any (hg.below (below_app hgr1 hgr2))) (bl_one _) (by omega) ?_; intro w3 hown3 hgr3))
  go_ret
  exact ⟨rfl, by rw [bl_append]; exact hown3, (below_app hgr1 hgr2).grown hgr3 (Nat.le_trans hgr1.size hgr2.size) (by intro k hk; cases hk; exact Nat.le_refl _)⟩
end Go.Proofs.Ytikopeihkbpjhas

/-
  The program's PutSum: what was there, and behind it the four bytes of its sum, in memory of its own.
-/
namespace Go.Proofs.Ytikopeihkbpjhas
open Go.RowKit
set_option maxRecDepth 4000

set_option maxHeartbeats 1000000 in
theorem putSum_impl (b off n cap : Nat) (f : Nat → Int) (w : World) (hv : View w (some ⟨b, off, none⟩) n cap f) (hn : n ≤ 35184372088832) :
    Calls Try.prog 40 #[.slice (some ⟨b, off, none⟩) n cap] w fun e w' => ∃ g c, e = .returned (.slice (some ⟨g, 0, none⟩) (n + 4) c) ∧ w.heap.size ≤ g ∧ n + 4 ≤ c ∧ Row 5 w' g (n + 4) (fun i => (lof n f ++ sumL (crc n f)).getD i 0) ∧ Below w.heap.size w w' := by
  have hlt := crc_lt hv.byte
  obtain ⟨c, hc⟩ : ∃ c, Hid (crc n f = c) := ⟨_, rfl⟩
  rw [hc.out] at hlt
  have hcz : (c : Int) < 4294967296 := by omega
  have hw : ∀ x : Int, IntKind.u8.wrap x = x % 256 := u8_wrap
  go_enter Try.func40, Try.ntmps40
  go_wp2_with fail
  refine (crc_impl' _ n cap f w hc hv (by omega)).mono ?_
  rintro e _ ⟨rfl, rfl⟩
  go_wp2_with fail
  have hb1 : Below w.heap.size w (w.alloc (.cells #[.int .u8 ((c : Int) / 16777216 % 256), .int .u8 ((c : Int) / 65536 % 256), .int .u8 ((c : Int) / 256 % 256), .int .u8 ((c : Int) % 256)] 5)) := (Below.refl _ _).alloc (Nat.le_refl _) _
  have hr : Row 5 (w.alloc (.cells #[.int .u8 ((c : Int) / 16777216 % 256), .int .u8 ((c : Int) / 65536 % 256), .int .u8 ((c : Int) / 256 % 256), .int .u8 ((c : Int) % 256)] 5)) w.heap.size 4 (fun i => (sumL c).getD i 0) := newRow w (sumL c) 5
  refine (putBytes_any b off n cap f (some ⟨w.heap.size, 0, none⟩) 4 4 (fun i => (sumL c).getD i 0) _ (hv.below hb1) (hr.view (by omega) (bytes_of_list (sumL_byte c))) (by intro h; cases h) (by omega)).mono ?_
  rintro e w2 ⟨rfl, hown, hb2⟩
  rw [lof_sumL] at hown
  rw [show (w.alloc (.cells #[.int .u8 ((c : Int) / 16777216 % 256), .int .u8 ((c : Int) / 65536 % 256), .int .u8 ((c : Int) / 256 % 256), .int .u8 ((c : Int) % 256)] 5)).heap.size = w.heap.size + 1 from by simp] at hown
  go_wp2
  go_ret
  rw [hc.out]
  exact ⟨_, n + 4, rfl, by simp, by omega, row_of_owned hown, hb1.trans (hb2.mono hb1.size)⟩

end Go.Proofs.Ytikopeihkbpjhas

/-
  bytes.Equal at two slices of bytes that read.
-/
namespace Go.Proofs.Ytikopeihkbpjhas
open Go.RowKit
set_option maxRecDepth 4000

set_option maxHeartbeats 400000 in
theorem equal_any (b1 o1 n c1 : Nat) (f : Nat → Int) (b2 o2 m c2 : Nat) (g : Nat → Int) (w : World) (h1 : View w (some ⟨b1, o1, none⟩) n c1 f) (h2 : View w (some ⟨b2, o2, none⟩) m c2 g) :
    Calls Try.prog 48 #[.slice (some ⟨b1, o1, none⟩) n c1, .slice (some ⟨b2, o2, none⟩) m c2] w fun e w' => e = .returned (.bool ((strOfNums (lof n f)).toList == (strOfNums (lof m g)).toList)) ∧ w = w' := by
  have q1 := conv_view h1
  have q2 := conv_view h2
  go_enter Try.func48, Try.ntmps48
  go_wp2
  go_ret
  exact ⟨rfl, rfl⟩
end Go.Proofs.Ytikopeihkbpjhas

/-
  The program's GetSum and the model's: both answer what stands ahead of the last four bytes, and true, just where these are its sum; else nothing and false.
-/
namespace Go.Proofs.Ytikopeihkbpjhas
open Go.RowKit
set_option maxRecDepth 4000

/-- The last four bytes as a number. -/
def last4 (m : Nat) (f : Nat → Int) : Int := ((f m * 256 + f (m + 1)) * 256 + f (m + 2)) * 256 + f (m + 3)

theorem lof_succ (m : Nat) (f : Nat → Int) : lof (m + 1) f = lof m f ++ [f m] := by simp [lof, List.range_succ]
theorem lof_four (m : Nat) (f : Nat → Int) : lof (m + 4) f = lof m f ++ [f m, f (m + 1), f (m + 2), f (m + 3)] := by
  rw [lof_succ (m + 3), lof_succ (m + 2), lof_succ (m + 1), lof_succ m]
  simp
theorem lof_byteS {n : Nat} {f : Nat → Int} (h : ∀ i, i < n → 0 ≤ f i ∧ f i ≤ 255) : ∀ y ∈ lof n f, 0 ≤ y ∧ y ≤ 255 := by
  intro y hy
  simp only [lof, List.mem_map, List.mem_range] at hy
  obtain ⟨i, hi, rfl⟩ := hy
  exact h i hi

theorem sum_iff {m c : Nat} {f : Nat → Int} (hf : ∀ i, i < m + 4 → 0 ≤ f i ∧ f i ≤ 255) (hc : c < 4294967296) : lof m f ++ sumL c = lof (m + 4) f ↔ last4 m f = (c : Int) := by
  have h0 := hf m (by omega)
  have h1 := hf (m + 1) (by omega)
  have h2 := hf (m + 2) (by omega)
  have h3 := hf (m + 3) (by omega)
  rw [lof_four, List.append_right_inj]
  unfold sumL last4
  simp only [List.cons.injEq, and_true]
  constructor
  · rintro ⟨a, b, c, d⟩; omega
  · intro h; refine ⟨?_, ?_, ?_, ?_⟩ <;> omega

/-- What n bytes come to: how many are handed back, and whether they are right. -/
def sumGood (n : Nat) (f : Nat → Int) : Bool := decide (4 ≤ n ∧ last4 (n - 4) f = (crc (n - 4) f : Int))

def Gives (fn : Nat) (n : Nat) (f : Nat → Int) (N : Nat) (B : Bool) : Prop :=
  ∀ (b cap : Nat) (w : World), View w (some ⟨b, 0, none⟩) n cap f → Calls Try.prog fn #[.slice (some ⟨b, 0, none⟩) n cap] w fun e w' =>
    ∃ g c, e = .returned (.tuple #[.slice (some ⟨g, 0, none⟩) N c, .bool B]) ∧ w.heap.size ≤ g ∧ N ≤ c ∧ Row 5 w' g N f ∧ Below w.heap.size w w'

theorem noRow (w : World) (t : TypeId) (f : Nat → Int) : Row t (w.alloc (.cells #[] t)) w.heap.size 0 f := ⟨#[], Deep.blk_alloc_new _ _, Nat.le_refl _, fun _ hi => absurd hi (Nat.not_lt_zero _)⟩
theorem noView (w : World) (f : Nat → Int) : View w none 0 0 f := ⟨Nat.le_refl _, fun _ hi => absurd hi (Nat.not_lt_zero _), fun h => absurd h (Nat.lt_irrefl _)⟩

set_option maxHeartbeats 1000000 in
theorem getSum_impl_few (n : Nat) (f : Nat → Int) (hn : n < 4) : Gives 45 n f 0 false := by
  intro b cap w hv
  have hz : (n : Int) - 4 < 0 := by omega
  go_enter Try.func45, Try.ntmps45
  go_wp2
  go_ret2
  exact ⟨_, _, rfl, Nat.le_refl _, Nat.le_refl _, noRow _ _ _, (Below.refl _ _).alloc (Nat.le_refl _) _⟩

set_option maxHeartbeats 1000000 in
theorem getSum_impl_yes (m : Nat) (f : Nat → Int) (hn : m + 4 ≤ 1048576) (hf : ∀ i, i < m + 4 → 0 ≤ f i ∧ f i ≤ 255) (hs : last4 m f = (crc m f : Int)) : Gives 45 (m + 4) f m true := by
  intro b cap w hv
  have hz : (0 : Int) ≤ (m : Int) := by omega
  have hcl : (m : Int) ≤ (cap : Int) := by have := hv.le; omega
  have HQ : Hid (((strOfNums (lof (m + 4) (fun i => (lof m f ++ sumL (crc m f)).getD i 0))).toList == (strOfNums (lof (m + 4) f)).toList) = true) := by
    show _ = true
    have e : lof (m + 4) (fun i => (lof m f ++ sumL (crc m f)).getD i 0) = lof m f ++ sumL (crc m f) := by
      have := lof_self (lof m f ++ sumL (crc m f))
      rw [List.length_append, lof_len, sumL_len] at this
      exact this
    rw [e, (sum_iff hf (crc_lt (fun i hi => hf i (by omega)))).2 hs]
    simp
  have HP : Hid (∀ i, i < m + 4 → 0 ≤ (lof m f ++ sumL (crc m f)).getD i 0 ∧ (lof m f ++ sumL (crc m f)).getD i 0 ≤ 255) := put_byte m f _ (fun i hi => hf i (by omega)) (sumL_byte _)
  clear hs hf
  go_enter Try.func45, Try.ntmps45
  go_wp2_with fail
  refine (putSum_impl b 0 m cap f w (hv.take (by omega)) (by omega)).mono ?_
  rintro e w1 ⟨g, c, rfl, hg, hgc, hr, hb1⟩
  go_wp2_with fail
  refine (equal_any g 0 (m + 4) c _ b 0 (m + 4) cap f w1 (hr.view hgc HP.out) (hv.below hb1)).mono ?_
  rintro e _ ⟨he, rfl⟩
  rw [HQ.out] at he
  subst he
  clear hr HP HQ
  go_wp2_with fail
  refine (putBytes_any b 0 m cap f none 0 0 (fun _ => 0) w1 ((hv.below hb1).take (by omega)) (noView _ _) (fun _ => ⟨rfl, rfl⟩) (by omega)).mono ?_
  rintro e w2 ⟨rfl, hown, hb2⟩
  rw [show lof 0 (fun _ => 0) = [] from rfl, List.append_nil, Nat.add_zero] at hown
  have hrow : Row 5 w2 w1.heap.size m f := (row_of_owned hown).congr (fun i hi => lof_get m f i hi)
  go_wp2
  go_ret2
  exact ⟨_, _, rfl, hb1.size, Nat.le_refl _, hrow, hb1.trans (hb2.mono hb1.size)⟩

set_option maxHeartbeats 1000000 in
theorem getSum_impl_no (m : Nat) (f : Nat → Int) (hn : m + 4 ≤ 1048576) (hf : ∀ i, i < m + 4 → 0 ≤ f i ∧ f i ≤ 255) (hs : last4 m f ≠ (crc m f : Int)) : Gives 45 (m + 4) f 0 false := by
  intro b cap w hv
  have hz : (0 : Int) ≤ (m : Int) := by omega
  have hcl : (m : Int) ≤ (cap : Int) := by have := hv.le; omega
  have HQ : Hid (((strOfNums (lof (m + 4) (fun i => (lof m f ++ sumL (crc m f)).getD i 0))).toList == (strOfNums (lof (m + 4) f)).toList) = false) := by
    show _ = false
    have e : lof (m + 4) (fun i => (lof m f ++ sumL (crc m f)).getD i 0) = lof m f ++ sumL (crc m f) := by
      have := lof_self (lof m f ++ sumL (crc m f))
      rw [List.length_append, lof_len, sumL_len] at this
      exact this
    rw [e, beq_eq_false_iff_ne]
    intro h
    refine hs ((sum_iff hf (crc_lt (fun i hi => hf i (by omega)))).1 (strOfNums_inj ?_ (lof_byteS hf) ?_))
    · intro y hy
      rcases List.mem_append.1 hy with hy | hy
      · exact lof_byteS (fun i hi => hf i (by omega)) y hy
      · exact sumL_byte _ y hy
    · rw [ByteArray.toList_eq, ByteArray.toList_eq] at h; exact ByteArray.ext (Array.ext' h)
  have HP : Hid (∀ i, i < m + 4 → 0 ≤ (lof m f ++ sumL (crc m f)).getD i 0 ∧ (lof m f ++ sumL (crc m f)).getD i 0 ≤ 255) := put_byte m f _ (fun i hi => hf i (by omega)) (sumL_byte _)
  clear hs hf
  go_enter Try.func45, Try.ntmps45
  go_wp2_with fail
  refine (putSum_impl b 0 m cap f w (hv.take (by omega)) (by omega)).mono ?_
  rintro e w1 ⟨g, c, rfl, hg, hgc, hr, hb1⟩
  go_wp2_with fail
  refine (equal_any g 0 (m + 4) c _ b 0 (m + 4) cap f w1 (hr.view hgc HP.out) (hv.below hb1)).mono ?_
  rintro e _ ⟨he, rfl⟩
  rw [HQ.out] at he
  subst he
  clear hr HP HQ
  go_wp2
  go_ret2
  exact ⟨_, _, rfl, hb1.size, Nat.le_refl _, noRow _ _ _, hb1.alloc hb1.size _⟩
end Go.Proofs.Ytikopeihkbpjhas

/-
  A value in a variable of the call's own.
-/
namespace Go.Proofs.Ytikopeihkbpjhas
open Go.RowKit
set_option maxRecDepth 4000

/-- The three cells of a value. -/
def valC (k n : Int) (s : ByteArray) : Nat → Value
  | 0 => .int .i64 k
  | 1 => .int .i64 n
  | _ => .string s

/-- A value in a variable of the call's own. -/
def Box (w : World) (B : Nat) (k n : Int) (s : ByteArray) : Prop := w.rowIs B 52 3 (valC k n s)
theorem Box.new (w : World) (k n : Int) (s : ByteArray) : Box (w.alloc (.cells #[.int .i64 k, .int .i64 n, .string s] 52)) w.heap.size k n s :=
  World.rowIs_alloc w _ 52 (valC k n s) (fun j hj => by match j, hj with | 0, _ => rfl | 1, _ => rfl | 2, _ => rfl)
theorem Box.cells {w : World} {B : Nat} {k n : Int} {s : ByteArray} (h : Box w B k n s) : w.cell? ⟨B, 0, none⟩ = some (.int .i64 k) ∧ w.cell? ⟨B, 1, none⟩ = some (.int .i64 n) ∧ w.cell? ⟨B, 2, none⟩ = some (.string s) :=
  ⟨h.cell (i := 0) (by decide), h.cell (i := 1) (by decide), h.cell (i := 2) (by decide)⟩
theorem Box.frozen {w : World} {B : Nat} {k n : Int} {s : ByteArray} (h : Box w B k n s) : w.frozen? ⟨B, 0, none⟩ = false ∧ w.frozen? ⟨B, 1, none⟩ = false ∧ w.frozen? ⟨B, 2, none⟩ = false :=
  ⟨World.rowIs.frozen h 0, World.rowIs.frozen h 1, World.rowIs.frozen h 2⟩
theorem Box.lt {w : World} {B : Nat} {k n : Int} {s : ByteArray} (h : Box w B k n s) : B < w.heap.size := World.rowIs.lt h
theorem Box.below {w w' : World} {B : Nat} {k n : Int} {s : ByteArray} (h : Box w B k n s) (hb : Below w.heap.size w w') : Box w' B k n s := h.of_block (hb.block B h.lt)
theorem Box.set0 {w : World} {B : Nat} {k n : Int} {s : ByteArray} (h : Box w B k n s) (x : Int) : Box (w.setCell ⟨B, 0, none⟩ (.int .i64 x)) B x n s :=
  (World.rowIs.set h 0 _).congr (fun j hj => by match j, hj with | 0, _ => rfl | 1, _ => rfl | 2, _ => rfl)
theorem Box.set1 {w : World} {B : Nat} {k n : Int} {s : ByteArray} (h : Box w B k n s) (x : Int) : Box (w.setCell ⟨B, 1, none⟩ (.int .i64 x)) B k x s :=
  (World.rowIs.set h 1 _).congr (fun j hj => by match j, hj with | 0, _ => rfl | 1, _ => rfl | 2, _ => rfl)
theorem Box.set2 {w : World} {B : Nat} {k n : Int} {s : ByteArray} (h : Box w B k n s) (t : ByteArray) : Box (w.setCell ⟨B, 2, none⟩ (.string t)) B k n t :=
  (World.rowIs.set h 2 _).congr (fun j hj => by match j, hj with | 0, _ => rfl | 1, _ => rfl | 2, _ => rfl)
theorem Box.put {w : World} {B : Nat} {k n : Int} {s : ByteArray} (h : Box w B k n s) (k' n' : Int) (s' : ByteArray) : Box (((w.setCell ⟨B, 0, none⟩ (.int .i64 k')).setCell ⟨B, 1, none⟩ (.int .i64 n')).setCell ⟨B, 2, none⟩ (.string s')) B k' n' s' :=
  ((h.set0 k').set1 n').set2 s'
theorem Box.other {w : World} {B D i : Nat} {k n : Int} {s : ByteArray} (h : Box w B k n s) (hne : B ≠ D) (u : Value) : Box (w.setCell ⟨D, i, none⟩ u) B k n s := h.of_block (Below.heap_setCell _ _ _ _ hne)
theorem Box.drew {w : World} {B : Nat} {k n : Int} {s : ByteArray} (h : Box w B k n s) : Box w.drew B k n s := h
/-- The result's variable and the value's, behind what was there. -/
theorem boxes2 (w : World) (t : Int) : Box ((w.alloc (.cells #[.int .i64 0, .int .i64 0, .string ⟨#[]⟩] 52)).alloc (.cells #[.int .i64 t, .int .i64 0, .string ⟨#[]⟩] 52)) w.heap.size 0 0 ⟨#[]⟩ ∧ Box ((w.alloc (.cells #[.int .i64 0, .int .i64 0, .string ⟨#[]⟩] 52)).alloc (.cells #[.int .i64 t, .int .i64 0, .string ⟨#[]⟩] 52)) (w.heap.size + 1) t 0 ⟨#[]⟩ ∧
    Below w.heap.size w ((w.alloc (.cells #[.int .i64 0, .int .i64 0, .string ⟨#[]⟩] 52)).alloc (.cells #[.int .i64 t, .int .i64 0, .string ⟨#[]⟩] 52)) := by
  have h2 := Box.new (w.alloc (.cells #[.int .i64 0, .int .i64 0, .string ⟨#[]⟩] 52)) t 0 ⟨#[]⟩
  rw [show (w.alloc (.cells #[.int .i64 0, .int .i64 0, .string ⟨#[]⟩] 52)).heap.size = w.heap.size + 1 by simp] at h2
  exact ⟨(Box.new w 0 0 ⟨#[]⟩).below ((Below.refl _ _).alloc (Nat.le_refl _) _), h2, ((Below.refl _ _).alloc (Nat.le_refl _) _).alloc (by simp) _⟩
end Go.Proofs.Ytikopeihkbpjhas

/-
  A row of values grows by one value.
-/

namespace Go.Proofs.Ytikopeihkbpjhas
open Go.RowKit
set_option maxRecDepth 4000

theorem infoVal3 : ∃ i, Try.prog.info? 52 = some i ∧ i.zero = some (.agg #[.int .i64 0, .int .i64 0, .string ⟨#[]⟩]) ∧ i.size = 3 ∧ i.bytes = 32 := by
  have h : (Try.prog.info? 52).map (fun i => (i.zero, i.size, i.bytes)) = some (some (.agg #[.int .i64 0, .int .i64 0, .string ⟨#[]⟩]), 3, 32) := by kernel_rfl
  obtain ⟨i, hi, hz⟩ := Option.map_eq_some_iff.1 h
  simp only [Prod.mk.injEq] at hz
  exact ⟨i, hi, hz.1, hz.2.1, hz.2.2⟩

/-- The cells of a new row of one value. -/
theorem cells_one (W : World) (k n : Int) (s : ByteArray) : ∀ j u, [Value.int .i64 k, .int .i64 n, .string s][j]? = some u → (W.alloc (.cells #[.int .i64 k, .int .i64 n, .string s] 52)).cell? ((⟨W.heap.size, 0, none⟩ : Addr).add j) = some u := by
  intro j u h
  obtain ⟨c0, c1, c2⟩ := (Box.new W k n s).cells
  have ea : ∀ j, (⟨W.heap.size, 0, none⟩ : Addr).add j = ⟨W.heap.size, 0 + j, none⟩ := fun j => by unfold Addr.add; split <;> simp_all
  match j, h with
  | 0, h => cases h; rw [ea]; exact c0
  | 1, h => cases h; rw [ea]; exact c1
  | 2, h => cases h; rw [ea]; exact c2
  | j + 3, h => simp at h
theorem one_cells (k n : Int) (s : ByteArray) : ∀ u ∈ [Value.int .i64 k, .int .i64 n, .string s], u.oneCell' = true := by
  intro u hu
  simp at hu
  rcases hu with rfl | rfl | rfl <;> rfl

theorem own_below3 {w w' : World} {base : Nat} {t : TypeId} {v : Value} {n : Nat} {l : List Value} (h : w.ownsRow base t 3 v n l) (hb : Below w.heap.size w w') : w'.ownsRow base t 3 v n l := by
  refine h.kept (row := none) ⟨hb.os, hb.tape, hb.output, hb.size, fun k hk _ => hb.block k hk⟩ ?_
  cases hv : v.ownBlock with
  | none => exact Or.inl rfl
  | some k => exact Or.inr (fun e => by cases e)
/-- The value of a part's column. -/
def pickK (fc : Nat → Int) (m : Nat) (f : Nat → Int) (i : Nat) : Int := if 0 ≤ fc i ∧ fc i < m then f (fc i).toNat else 0
def pickS (fc : Nat → Int) (m : Nat) (f : Nat → ByteArray) (i : Nat) : ByteArray := if 0 ≤ fc i ∧ fc i < m then f (fc i).toNat else ⟨#[]⟩
end Go.Proofs.Ytikopeihkbpjhas

/-
  What DecodeRow comes to.
-/
namespace Go.Proofs.Ytikopeihkbpjhas
open Go.RowKit
set_option maxRecDepth 4000

/-- How many bytes are before the sum, where it is right. -/
def sumN (N : Nat) (F : Nat → Int) : Nat := if sumGood N F then N - 4 else 0
/-- Whether bytes are a row of the plan, with its sum. -/
def decROk (N : Nat) (F : Nat → Int) (n : Nat) (fc ft : Nat → Int) (fu : Nat → Bool) : Bool := sumGood N F && rowRd (N - 4) F n fc ft fu
/-- What DecodeRow comes to. -/
def DecsR (w : World) (n N : Nat) (F : Nat → Int) (fc ft : Nat → Int) (fu : Nat → Bool) (e : Ending) (w' : World) : Prop :=
  ∃ v M, e = .returned (.tuple #[v, .bool (decROk N F n fc ft fu)]) ∧ v ≠ .slice none 0 0 ∧ M = (if decROk N F n fc ft fu then rCnt (N - 4) F else 0) ∧ w'.ownsRow w.heap.size 52 3 v M (rowC (rK (N - 4) F) (rN (N - 4) F) (rS (N - 4) F) M) ∧ Below w.heap.size w w'

/-- A row of bytes is no row of values. -/
theorem Row.not_own {w : World} {g n : Nat} {f : Nat → Int} {base size k : Nat} {v : Value} {xs : List Value} {t e : TypeId} (h : Row t w g n f) (hte : t ≠ e) (hr : w.ownsRow base e size v k xs) : some g ≠ v.ownBlock := by
  obtain ⟨c, hb, _⟩ := h
  rcases hr.2 with ⟨rfl, _⟩ | ⟨g', cap, cur, rfl, _, hgb, _⟩
  · simp [Value.ownBlock]
  · intro e'
    obtain rfl : g = g' := by simpa [Value.ownBlock] using e'
    rw [hb] at hgb
    simp at hgb
    exact hte hgb.2
end Go.Proofs.Ytikopeihkbpjhas

/-
  All bits of a byte turned.
-/
namespace Go.Proofs.Ytikopeihkbpjhas
open Go.RowKit
set_option maxRecDepth 4000

theorem u8_not (x : Int) (h0 : 0 ≤ x) (h1 : x ≤ 255) : bits .xor .u8 IntKind.u8.max x = 255 - x := by
  obtain ⟨n, rfl⟩ := Int.eq_ofNat_of_zero_le h0
  have key : ∀ n : Fin 256, bits .xor .u8 IntKind.u8.max (n.val : Int) = 255 - (n.val : Int) := by decide +kernel
  exact key ⟨n, by omega⟩
end Go.Proofs.Ytikopeihkbpjhas

