/-
  Together: EscPlain, PartPlain, KeyPlain, LofEq, RowB, CrcPlain, SumPlain, RowBytes, AllUpto, PView, ValEq, Boxed, VView, ValOkSpec, FlipPlain, NumRead, Parts, PutBytes, FlipWalks
-/
import Derived.Test.YtikopeihkbpjhasPack1
import Derived.Laws.StructEq
import Derived.WalkSpells
/-
  Texts in order, plainly: each 0 is followed by 255, and 0 and 1 end the text; what is read of bytes as such a text.
-/
namespace Go.Proofs.Ytikopeihkbpjhas
open Go.RowKit
set_option maxRecDepth 4000

/-- One byte, as it is put. -/
def esc1 (x : Int) : List Int := if x = 0 then [0, 255] else [x]
/-- The bytes of a text, each as it is put. -/
def escL : List Int → List Int
  | [] => []
  | x :: xs => esc1 x ++ escL xs

theorem escL_append (a b : List Int) : escL (a ++ b) = escL a ++ escL b := by
  induction a with
  | nil => rfl
  | cons x xs ih => simp [escL, ih]
theorem escL_one (x : Int) : escL [x] = esc1 x := by simp [escL]
theorem escL_len (a : List Int) : a.length ≤ (escL a).length ∧ (escL a).length ≤ 2 * a.length := by
  induction a with
  | nil => simp [escL]
  | cons x xs ih =>
    have : (esc1 x).length = 1 ∨ (esc1 x).length = 2 := by unfold esc1; split <;> simp
    simp only [escL, List.length_append, List.length_cons]
    omega
theorem escL_byte (a : List Int) (h : ∀ y ∈ a, 0 ≤ y ∧ y ≤ 255) : ∀ y ∈ escL a, 0 ≤ y ∧ y ≤ 255 := by
  induction a with
  | nil => intro y hy; cases hy
  | cons x xs ih =>
    intro y hy
    rcases List.mem_append.1 hy with hy | hy
    · have hx := h x (by simp)
      unfold esc1 at hy
      split at hy
      · simp at hy; omega
      · simp at hy; omega
    · exact ih (fun z hz => h z (by simp [hz])) y hy
/-- Where no byte is 0 a text is put as it is. -/
theorem escL_plain (a : List Int) (h : ∀ y ∈ a, y ≠ 0) : escL a = a := by
  induction a with
  | nil => rfl
  | cons x xs ih =>
    have hx := h x (by simp)
    simp only [escL, esc1, if_neg hx, ih (fun z hz => h z (by simp [hz]))]
    rfl

/-- What is put of a text behind n bytes. -/
def escT (n : Nat) (f : Nat → Int) (s : ByteArray) : List Int := lof n f ++ (escL (sl s) ++ [0, 1])
def escN (s : ByteArray) : Nat := (escL (sl s)).length + 2
theorem escT_len (n : Nat) (f : Nat → Int) (s : ByteArray) : (escT n f s).length = n + escN s := by simp [escT, escN, lof_len]
theorem escN_le (s : ByteArray) : escN s ≤ 2 * s.size + 2 := by unfold escN; have := (escL_len (sl s)).2; rw [sl_len] at this; omega
theorem escT_byte (n : Nat) (f : Nat → Int) (s : ByteArray) (hf : ∀ i, i < n → 0 ≤ f i ∧ f i ≤ 255) : ∀ y ∈ escT n f s, 0 ≤ y ∧ y ≤ 255 := by
  intro y hy
  rcases List.mem_append.1 hy with hy | hy
  · simp only [lof, List.mem_map, List.mem_range] at hy
    obtain ⟨j, hj, rfl⟩ := hy
    exact hf j hj
  · rcases List.mem_append.1 hy with hy | hy
    · exact escL_byte _ (sl_byte s) y hy
    · simp at hy; omega
theorem escT_at (n : Nat) (f : Nat → Int) (s : ByteArray) (hf : ∀ i, i < n → 0 ≤ f i ∧ f i ≤ 255) : ∀ i, i < n + escN s → 0 ≤ (escT n f s).getD i 0 ∧ (escT n f s).getD i 0 ≤ 255 := by
  intro i hi
  have hi' : i < (escT n f s).length := by rw [escT_len]; exact hi
  have := escT_byte n f s hf _ (List.getElem_mem hi')
  simpa [hi'] using this

/-- What is read of bytes as a text: its bytes, and how many were read. -/
def readE : List Int → Option (List Int × Nat)
  | [] => none
  | [_] => none
  | x :: y :: ys => if x ≠ 0 then (readE (y :: ys)).map (fun r => (x :: r.1, r.2 + 1)) else if y = 1 then some ([], 2) else if y = 255 then (readE ys).map (fun r => (0 :: r.1, r.2 + 2)) else none

theorem readE_put (t rest : List Int) : readE (escL t ++ 0 :: 1 :: rest) = some (t, (escL t).length + 2) := by
  induction t with
  | nil => simp [escL, readE]
  | cons x xs ih =>
    by_cases hx : x = 0
    · subst hx
      have e : escL (0 :: xs) ++ 0 :: 1 :: rest = 0 :: 255 :: (escL xs ++ 0 :: 1 :: rest) := by simp [escL, esc1]
      rw [e, readE, ih]
      simp [escL, esc1]
    · have e : escL (x :: xs) ++ 0 :: 1 :: rest = x :: (escL xs ++ 0 :: 1 :: rest) := by simp [escL, esc1, hx]
      have ne : escL xs ++ 0 :: 1 :: rest ≠ [] := by simp
      obtain ⟨y, ys, hy⟩ := List.exists_cons_of_ne_nil ne
      rw [e, hy, readE, if_pos hx, ← hy, ih]
      simp [escL, esc1, hx]

theorem readE_is : ∀ (l : List Int) (t : List Int) (k : Nat), readE l = some (t, k) → k ≤ l.length ∧ l.take k = escL t ++ [0, 1]
  | [], t, k, h => by simp [readE] at h
  | [x], t, k, h => by simp [readE] at h
  | x :: y :: ys, t, k, h => by
    rw [readE] at h
    by_cases hx : x = 0
    · rw [if_neg (by simp [hx])] at h
      by_cases h1 : y = 1
      · rw [if_pos h1] at h
        cases h
        subst hx h1
        exact ⟨by simp, by simp [escL]⟩
      · rw [if_neg h1] at h
        by_cases h2 : y = 255
        · rw [if_pos h2] at h
          cases hr : readE ys with
          | none => rw [hr] at h; cases h
          | some r =>
            obtain ⟨t', k'⟩ := r
            rw [hr] at h
            cases h
            have ih := readE_is ys t' k' hr
            subst hx h2
            refine ⟨by simp; omega, ?_⟩
            show (0 :: 255 :: ys).take (k' + 2) = _
            simp [escL, esc1, ih.2]
        · rw [if_neg h2] at h; cases h
    · rw [if_pos hx] at h
      cases hr : readE (y :: ys) with
      | none => rw [hr] at h; cases h
      | some r =>
        obtain ⟨t', k'⟩ := r
        rw [hr] at h
        cases h
        have ih := readE_is (y :: ys) t' k' hr
        refine ⟨by simpa using ih.1, ?_⟩
        show (x :: y :: ys).take (k' + 1) = _
        rw [List.take_succ_cons, ih.2]
        simp [escL, esc1, hx]

/-- The bytes from the place k on. -/
def fromL (n : Nat) (f : Nat → Int) (k : Nat) : List Int := lof (n - k) (fun i => f (k + i))
theorem fromL_end (n : Nat) (f : Nat → Int) (k : Nat) (h : n ≤ k) : fromL n f k = [] := by
  unfold fromL; rw [show n - k = 0 by omega]; rfl
theorem fromL_step (n : Nat) (f : Nat → Int) (k : Nat) (h : k < n) : fromL n f k = f k :: fromL n f (k + 1) := by
  unfold fromL lof
  obtain ⟨m, hm⟩ : ∃ m, n - k = m + 1 := ⟨n - k - 1, by omega⟩
  rw [hm, show n - (k + 1) = m by omega, List.range_succ_eq_map]
  simp only [List.map_cons, List.map_map, Nat.add_zero, List.cons.injEq, true_and]
  apply List.map_congr_left
  intro i _
  simp only [Function.comp]
  rw [show k + 1 + i = k + (i + 1) by omega]

/-- What is read from the place p on is what is read from k on, with acc ahead. -/
def Seen (n : Nat) (f : Nat → Int) (p k : Nat) (acc : List Int) : Prop :=
  p ≤ k ∧ readE (fromL n f p) = (readE (fromL n f k)).map (fun r => (acc ++ r.1, (k - p) + r.2))
theorem Seen.start (n : Nat) (f : Nat → Int) (p : Nat) : Seen n f p p [] := by
  refine ⟨Nat.le_refl _, ?_⟩
  cases readE (fromL n f p) <;> simp
theorem Seen.past {n : Nat} {f : Nat → Int} {p k : Nat} {acc : List Int} (h : Seen n f p k acc) (hk : n ≤ k + 1) : readE (fromL n f p) = none := by
  rw [h.2]
  by_cases h1 : n ≤ k
  · rw [fromL_end n f k h1]; rfl
  · rw [fromL_step n f k (by omega), fromL_end n f (k + 1) hk]; rfl
theorem Seen.plain {n : Nat} {f : Nat → Int} {p k : Nat} {acc : List Int} (h : Seen n f p k acc) (hk : k + 1 < n) (h0 : f k ≠ 0) : Seen n f p (k + 1) (acc ++ [f k]) := by
  have := h.1
  refine ⟨by omega, ?_⟩
  rw [h.2, fromL_step n f k (by omega), fromL_step n f (k + 1) hk, readE, if_pos h0]
  cases readE (f (k + 1) :: fromL n f (k + 1 + 1)) with
  | none => rfl
  | some r => simp; omega
/-- The last byte alone ends nothing. -/
theorem Seen.last {n : Nat} {f : Nat → Int} {p k : Nat} {acc : List Int} (h : Seen n f p k acc) (hk : k + 1 = n) (acc' : List Int) : Seen n f p (k + 1) acc' := by
  have := h.1
  refine ⟨by omega, ?_⟩
  rw [h.past (by omega), fromL_end n f (k + 1) (by omega)]; rfl
theorem Seen.ends {n : Nat} {f : Nat → Int} {p k : Nat} {acc : List Int} (h : Seen n f p k acc) (hk : k + 1 < n) (h0 : f k = 0) (h1 : f (k + 1) = 1) : readE (fromL n f p) = some (acc, k + 2 - p) := by
  have := h.1
  rw [h.2, fromL_step n f k (by omega), fromL_step n f (k + 1) hk, readE, if_neg (by simp [h0]), if_pos h1]
  simp; omega
theorem Seen.goes {n : Nat} {f : Nat → Int} {p k : Nat} {acc : List Int} (h : Seen n f p k acc) (hk : k + 1 < n) (h0 : f k = 0) (h1 : f (k + 1) = 255) : Seen n f p (k + 2) (acc ++ [0]) := by
  have := h.1
  refine ⟨by omega, ?_⟩
  rw [h.2, fromL_step n f k (by omega), fromL_step n f (k + 1) hk, readE, if_neg (by simp [h0]), if_neg (by omega), if_pos h1]
  cases readE (fromL n f (k + 1 + 1)) with
  | none => rfl
  | some r => simp; omega
theorem Seen.wrong {n : Nat} {f : Nat → Int} {p k : Nat} {acc : List Int} (h : Seen n f p k acc) (hk : k + 1 < n) (h0 : f k = 0) (h1 : f (k + 1) ≠ 1) (h2 : f (k + 1) ≠ 255) : readE (fromL n f p) = none := by
  rw [h.2, fromL_step n f k (by omega), fromL_step n f (k + 1) hk, readE, if_neg (by simp [h0]), if_neg h1, if_neg h2]
  rfl

/-- What is read as a text in order: the text, the place behind, whether it is one. -/
def getE (n : Nat) (f : Nat → Int) (p : Int) : ByteArray × Int × Bool :=
  if p < 0 then (strOfNums [], 0, false) else
  match readE (fromL n f p.toNat) with
  | none => (strOfNums [], 0, false)
  | some r => (strOfNums r.1, p + r.2, true)
theorem getE_neg (n : Nat) (f : Nat → Int) (p : Int) (h : p < 0) : getE n f p = (strOfNums [], 0, false) := by unfold getE; rw [if_pos h]
theorem getE_none {n : Nat} {f : Nat → Int} {p : Nat} (h : readE (fromL n f p) = none) : getE n f (p : Int) = (strOfNums [], 0, false) := by
  unfold getE; rw [if_neg (by omega), Int.toNat_natCast, h]
theorem getE_some {n : Nat} {f : Nat → Int} {p k : Nat} {t : List Int} (h : readE (fromL n f p) = some (t, k)) : getE n f (p : Int) = (strOfNums t, (p : Int) + k, true) := by
  unfold getE; rw [if_neg (by omega), Int.toNat_natCast, h]

end Go.Proofs.Ytikopeihkbpjhas

/-
  One value in a key, plainly: which parts are right, what fits, its bytes, and what is read of bytes.
-/
namespace Go.Proofs.Ytikopeihkbpjhas
open Go.RowKit
set_option maxRecDepth 4000

def partOk (c t : Int) : Bool := decide (0 ≤ c) && decide (c ≤ 9) && (decide (1 ≤ t) && decide (t ≤ 4))
def fitsP (t : Int) (nul : Bool) (k n : Int) (s : ByteArray) : Bool := okF k n s && ((decide (k = t) && decide (k ≠ 0)) || (decide (k = 0) && nul))

/-- The bytes of a value that is there. -/
def valL (k n : Int) (s : ByteArray) : List Int := if k = 1 then fixL n else if k = 2 then varL n else if k = 3 then escL (sl s) ++ [0, 1] else [n % 256]
/-- The bytes of a value that fits. -/
def partL (nul : Bool) (k n : Int) (s : ByteArray) : List Int := if k = 0 then [0] else if nul then 1 :: valL k n s else valL k n s
def turnL (d : Bool) (l : List Int) : List Int := if d then l.map (fun y => 255 - y) else l
/-- What is put. -/
def putPL (c t : Int) (nul d : Bool) (k n : Int) (s : ByteArray) : List Int := if partOk c t && fitsP t nul k n s then turnL d (partL nul k n s) else []

/-- A value, a place and whether there is one. -/
structure Got where
  k : Int
  n : Int
  s : ByteArray
  q : Int
  ok : Bool
def Got.no : Got := ⟨0, 0, noBytes, 0, false⟩
def Got.chk (g : Got) : Got := if g.ok && okF g.k g.n g.s then g else .no

/-- A value of a type, as it is read. -/
def rawT (n : Nat) (f : Nat → Int) (t : Int) (p : Int) : Got :=
  if t = 1 then ⟨1, (getF n f p).1, noBytes, (getF n f p).2.1, (getF n f p).2.2⟩
  else if t = 2 then ⟨2, (getV n f p).1, noBytes, (getV n f p).2.1, (getV n f p).2.2⟩
  else if t = 3 then ⟨3, 0, (getE n f p).1, (getE n f p).2.1, (getE n f p).2.2⟩
  else if 0 ≤ p ∧ p < n then ⟨t, f p.toNat, noBytes, p + 1, true⟩ else ⟨t, 0, noBytes, 0, false⟩
def getT (n : Nat) (f : Nat → Int) (t : Int) (p : Int) : Got := (rawT n f t p).chk
/-- Behind a byte of 0 or 1, where it may be nothing. -/
def getN (n : Nat) (f : Nat → Int) (nul : Bool) (t : Int) (p : Int) : Got :=
  if nul then (if p = n ∨ 1 < f p.toNat then .no else if f p.toNat = 0 then ⟨0, 0, noBytes, p + 1, true⟩ else getT n f t (p + 1)) else getT n f t p
def turned (d : Bool) (f : Nat → Int) : Nat → Int := if d then fun i => 255 - f i else f
def getP (n : Nat) (f : Nat → Int) (c t : Int) (nul d : Bool) (p : Int) : Got :=
  if partOk c t = false ∨ p < 0 ∨ (n : Int) < p then .no else getN n (turned d f) nul t p

theorem okF_few {k n : Int} {s : ByteArray} (h : okF k n s = true) : s.size ≤ 30 := by
  obtain ⟨v, hr, rfl, rfl, rfl⟩ := okF_iff.1 h
  cases v with
  | text s => simpa [V.rng, V.s] using hr
  | _ => exact Nat.zero_le _
theorem valL_byte (k n : Int) (s : ByteArray) : ∀ y ∈ valL k n s, 0 ≤ y ∧ y ≤ 255 := by
  intro y hy
  unfold valL at hy
  split at hy
  · exact fixL_byte n y hy
  · split at hy
    · exact varL_byte n y hy
    · split at hy
      · rcases List.mem_append.1 hy with hy | hy
        · exact escL_byte _ (sl_byte s) y hy
        · simp at hy; omega
      · simp at hy; omega
theorem partL_byte (nul : Bool) (k n : Int) (s : ByteArray) : ∀ y ∈ partL nul k n s, 0 ≤ y ∧ y ≤ 255 := by
  intro y hy
  unfold partL at hy
  split at hy
  · simp at hy; omega
  · split at hy
    · rcases List.mem_cons.1 hy with rfl | hy
      · omega
      · exact valL_byte k n s y hy
    · exact valL_byte k n s y hy
theorem turnL_byte (d : Bool) (l : List Int) (h : ∀ y ∈ l, 0 ≤ y ∧ y ≤ 255) : ∀ y ∈ turnL d l, 0 ≤ y ∧ y ≤ 255 := by
  intro y hy
  unfold turnL at hy
  split at hy
  · obtain ⟨z, hz, rfl⟩ := List.mem_map.1 hy
    have := h z hz
    omega
  · exact h y hy
theorem turnL_len (d : Bool) (l : List Int) : (turnL d l).length = l.length := by unfold turnL; split <;> simp
theorem putPL_byte (c t : Int) (nul d : Bool) (k n : Int) (s : ByteArray) : ∀ y ∈ putPL c t nul d k n s, 0 ≤ y ∧ y ≤ 255 := by
  intro y hy
  unfold putPL at hy
  split at hy
  · exact turnL_byte d _ (partL_byte nul k n s) y hy
  · cases hy
theorem valL_len (k n : Int) (s : ByteArray) : 1 ≤ (valL k n s).length ∧ (valL k n s).length ≤ 2 * s.size + 8 := by
  unfold valL
  split
  · rw [fixL_len]; omega
  · split
    · have := varL_len n; omega
    · split
      · have := (escL_len (sl s)).2
        rw [sl_len] at this
        rw [List.length_append]
        simp
        omega
      · simp
theorem partL_len (nul : Bool) (k n : Int) (s : ByteArray) : 1 ≤ (partL nul k n s).length ∧ (partL nul k n s).length ≤ 2 * s.size + 9 := by
  have := valL_len k n s
  unfold partL
  split
  · simp
  · split
    · rw [List.length_cons]; omega
    · omega
theorem putPL_len (c t : Int) (nul d : Bool) (k n : Int) (s : ByteArray) : (putPL c t nul d k n s).length ≤ 2 * s.size + 9 := by
  have := partL_len nul k n s
  unfold putPL
  split
  · rw [turnL_len]; omega
  · simp
end Go.Proofs.Ytikopeihkbpjhas

/-
  Keys, plainly: which plans are right, what fits, the bytes of values one behind the other, and what is read of bytes.
-/
namespace Go.Proofs.Ytikopeihkbpjhas
open Go.RowKit
set_option maxRecDepth 4000

/-- A plan is right. -/
def planOk (n : Nat) (fc ft : Nat → Int) : Bool := (List.range n).all (fun i => partOk (fc i) (ft i)) && decide (n ≤ 6)
/-- Values fit. -/
def fitsAll (n m : Nat) (ft : Nat → Int) (fu : Nat → Bool) (fk fn : Nat → Int) (fs : Nat → ByteArray) : Bool := decide (m ≤ n) && (List.range m).all (fun i => fitsP (ft i) (fu i) (fk i) (fn i) (fs i))
theorem planOk_iff {n : Nat} {fc ft : Nat → Int} : planOk n fc ft = true ↔ (∀ i, i < n → partOk (fc i) (ft i) = true) ∧ n ≤ 6 := by
  unfold planOk; simp
theorem fitsAll_iff {n m : Nat} {ft : Nat → Int} {fu : Nat → Bool} {fk fn : Nat → Int} {fs : Nat → ByteArray} : fitsAll n m ft fu fk fn fs = true ↔ m ≤ n ∧ ∀ i, i < m → fitsP (ft i) (fu i) (fk i) (fn i) (fs i) = true := by
  unfold fitsAll; simp
/-- The first k of the lists, one behind the other. -/
def keyT (g : Nat → List Int) : Nat → List Int
  | 0 => []
  | k + 1 => keyT g k ++ g k
/-- The bytes of the value at a place of a plan. -/
def onePL (fc ft : Nat → Int) (fu fd : Nat → Bool) (fk fn : Nat → Int) (fs : Nat → ByteArray) (i : Nat) : List Int := putPL (fc i) (ft i) (fu i) (fd i) (fk i) (fn i) (fs i)
/-- The bytes of a key. -/
def keyL (n : Nat) (fc ft : Nat → Int) (fu fd : Nat → Bool) (m : Nat) (fk fn : Nat → Int) (fs : Nat → ByteArray) : List Int :=
  if planOk n fc ft && fitsAll n m ft fu fk fn fs then keyT (onePL fc ft fu fd fk fn fs) m else []

theorem keyT_congr {g h : Nat → List Int} : ∀ {k : Nat}, (∀ i, i < k → g i = h i) → keyT g k = keyT h k
  | 0, _ => rfl
  | k + 1, e => by rw [keyT, keyT, keyT_congr (fun i hi => e i (by omega)), e k (by omega)]
/-- What stands behind the first k. -/
theorem keyT_split (g : Nat → List Int) (k : Nat) : ∀ j, keyT g (k + j) = keyT g k ++ keyT (fun i => g (k + i)) j
  | 0 => by simp [keyT]
  | j + 1 => by rw [← Nat.add_assoc, keyT, keyT_split g k j, keyT, List.append_assoc]
theorem keyT_byte {g : Nat → List Int} : ∀ {k : Nat}, (∀ i, i < k → ∀ y ∈ g i, 0 ≤ y ∧ y ≤ 255) → ∀ y ∈ keyT g k, 0 ≤ y ∧ y ≤ 255
  | 0, _, y, hy => by simp [keyT] at hy
  | k + 1, h, y, hy => by
    rw [keyT] at hy
    rcases List.mem_append.1 hy with hy | hy
    · exact keyT_byte (fun i hi => h i (by omega)) y hy
    · exact h k (by omega) y hy
theorem keyL_byte (n : Nat) (fc ft : Nat → Int) (fu fd : Nat → Bool) (m : Nat) (fk fn : Nat → Int) (fs : Nat → ByteArray) : ∀ y ∈ keyL n fc ft fu fd m fk fn fs, 0 ≤ y ∧ y ≤ 255 := by
  intro y hy
  unfold keyL at hy
  split at hy
  · exact keyT_byte (fun i _ => putPL_byte _ _ _ _ _ _ _) y hy
  · cases hy
theorem onePL_len {ft : Nat → Int} {fu : Nat → Bool} {fk fn : Nat → Int} {fs : Nat → ByteArray} {i : Nat} (fc : Nat → Int) (fd : Nat → Bool) (h : fitsP (ft i) (fu i) (fk i) (fn i) (fs i) = true) : (onePL fc ft fu fd fk fn fs i).length ≤ 69 := by
  unfold onePL
  have h1 := putPL_len (fc i) (ft i) (fu i) (fd i) (fk i) (fn i) (fs i)
  have h2 : (fs i).size ≤ 30 := by unfold fitsP at h; simp only [Bool.and_eq_true] at h; exact okF_few h.1
  omega
theorem keyT_len {g : Nat → List Int} : ∀ {k : Nat}, (∀ i, i < k → (g i).length ≤ 69) → (keyT g k).length ≤ k * 69
  | 0, _ => by simp [keyT]
  | k + 1, h => by
    rw [keyT, List.length_append]
    have h1 := keyT_len (fun i hi => h i (by omega)) (k := k)
    have h2 := h k (by omega)
    omega
theorem keyL_len (n : Nat) (fc ft : Nat → Int) (fu fd : Nat → Bool) (m : Nat) (fk fn : Nat → Int) (fs : Nat → ByteArray) : (keyL n fc ft fu fd m fk fn fs).length ≤ 414 := by
  unfold keyL
  split
  · rename_i h
    simp only [Bool.and_eq_true] at h
    obtain ⟨h1, h2⟩ := h
    have hp := planOk_iff.1 h1
    have hf := fitsAll_iff.1 h2
    have := keyT_len (g := onePL fc ft fu fd fk fn fs) (k := m) (fun i hi => onePL_len fc fd (hf.2 i hi))
    omega
  · simp

section
variable (N : Nat) (F : Nat → Int) (fc ft : Nat → Int) (fu fd : Nat → Bool)
/-- The place behind the first k values, as they are read. -/
def decQ : Nat → Option Int
  | 0 => some 0
  | k + 1 => (decQ k).bind (fun p => if (getP N F (fc k) (ft k) (fu k) (fd k) p).ok then some (getP N F (fc k) (ft k) (fu k) (fd k) p).q else none)
/-- The value that is read at a place of a plan. -/
def decG (k : Nat) : Got := getP N F (fc k) (ft k) (fu k) (fd k) ((decQ N F fc ft fu fd k).getD 0)
/-- Whether the bytes are a key of the plan. -/
def decOk (n : Nat) : Bool := planOk n fc ft && decide (decQ N F fc ft fu fd n = some (N : Int))
end
theorem decQ_succ {N : Nat} {F : Nat → Int} {fc ft : Nat → Int} {fu fd : Nat → Bool} {k : Nat} {q : Int} (h : decQ N F fc ft fu fd (k + 1) = some q) : ∃ p, decQ N F fc ft fu fd k = some p ∧ (getP N F (fc k) (ft k) (fu k) (fd k) p).ok = true ∧ (getP N F (fc k) (ft k) (fu k) (fd k) p).q = q := by
  rw [decQ] at h
  obtain ⟨p, h1, h2⟩ := Option.bind_eq_some_iff.1 h
  by_cases e : (getP N F (fc k) (ft k) (fu k) (fd k) p).ok = true
  · rw [if_pos e] at h2
    exact ⟨p, h1, e, Option.some.inj h2⟩
  · rw [if_neg e] at h2; cases h2
end Go.Proofs.Ytikopeihkbpjhas

/-
  Lists of a function's first values are alike just where it is.
-/
namespace Go.Proofs.Ytikopeihkbpjhas
open Go.RowKit
set_option maxRecDepth 4000

theorem lof_eq {n : Nat} {f g : Nat → Int} : lof n f = lof n g ↔ ∀ i, i < n → f i = g i := by
  constructor
  · intro h i hi
    rw [← lof_get n f i hi, ← lof_get n g i hi, h]
  · intro h
    unfold lof
    apply List.map_congr_left
    intro i hi
    exact h i (List.mem_range.1 hi)
end Go.Proofs.Ytikopeihkbpjhas

/-
  Rows as bytes, plainly: what stands at a place, what is read there.
-/
namespace Go.Proofs.Ytikopeihkbpjhas
open Go.RowKit
set_option maxRecDepth 4000

/-- The bytes L stand at place i of the N bytes F. -/
structure AtF (N : Nat) (F : Nat → Int) (i : Nat) (L : List Int) : Prop where
  le : i + L.length ≤ N
  at' : ∀ j, j < L.length → F (i + j) = L.getD j 0
theorem AtF.left {N : Nat} {F : Nat → Int} {i : Nat} {L K : List Int} (h : AtF N F i (L ++ K)) : AtF N F i L :=
  ⟨by have := h.le; rw [List.length_append] at this; omega, fun j hj => by rw [h.at' j (by rw [List.length_append]; omega), getD_left _ _ _ hj]⟩
theorem AtF.right {N : Nat} {F : Nat → Int} {i : Nat} {L K : List Int} (h : AtF N F i (L ++ K)) : AtF N F (i + L.length) K :=
  ⟨by have := h.le; rw [List.length_append] at this; omega, fun j hj => by rw [Nat.add_assoc, h.at' (L.length + j) (by rw [List.length_append]; omega), getD_right]⟩
theorem AtF.append {N : Nat} {F : Nat → Int} {i : Nat} {L K : List Int} (h : AtF N F i L) (k : AtF N F (i + L.length) K) : AtF N F i (L ++ K) :=
  ⟨by have := k.le; rw [List.length_append]; omega, fun j hj => by
    rw [List.length_append] at hj
    by_cases e : j < L.length
    · rw [h.at' j e, getD_left _ _ _ e]
    · obtain ⟨m, rfl⟩ : ∃ m, j = L.length + m := ⟨j - L.length, by omega⟩
      rw [← Nat.add_assoc, k.at' m (by omega), getD_right]⟩
theorem AtF.nil {N : Nat} {F : Nat → Int} {i : Nat} (h : i ≤ N) : AtF N F i [] := ⟨by simpa using h, fun j hj => absurd hj (Nat.not_lt_zero _)⟩
/-- It is these bytes. -/
theorem AtF.lof {N : Nat} {F : Nat → Int} {i : Nat} {L : List Int} (h : AtF N F i L) : lof L.length (fun j => F (i + j)) = L := by
  rw [← lof_self L]
  conv => lhs; rw [show (Go.Proofs.Ytikopeihkbpjhas.lof L.length fun i => L.getD i 0).length = L.length by rw [lof_len]]
  rw [lof_eq]
  exact fun j hj => h.at' j hj
theorem AtF.ofLof {N : Nat} {F : Nat → Int} {i : Nat} {L : List Int} (hle : i + L.length ≤ N) (h : L = Go.Proofs.Ytikopeihkbpjhas.lof L.length (fun j => F (i + j))) : AtF N F i L :=
  ⟨hle, fun j hj => by
    conv => rhs; rw [h]
    rw [lof_get _ _ _ hj]⟩

theorem getU_at {N : Nat} {F : Nat → Int} {i : Nat} {x : Int} (h0 : 0 ≤ x) (h1 : x ≤ 1000000) (h : AtF N F i (groups x)) : getU N F (i : Int) = (x, (i : Int) + ((groups x).length : Int), true) :=
  getU_put i N F x h0 h1 h.at' h.le
theorem getU_read {N : Nat} {F : Nat → Int} {p a q : Int} (hb : ∀ i, i < N → 0 ≤ F i ∧ F i ≤ 255) (h : getU N F p = (a, q, true)) : ∃ i : Nat, p = (i : Int) ∧ AtF N F i (groups a) ∧ q = (i : Int) + ((groups a).length : Int) ∧ 0 ≤ a ∧ a ≤ 1000000 := by
  obtain ⟨ha0, ha1, -, -⟩ := getU_bd hb h
  by_cases h1 : p < 0 ∨ (N : Int) ≤ p
  · unfold getU at h; rw [if_pos h1] at h; cases h
  obtain ⟨i, rfl⟩ := Int.eq_ofNat_of_zero_le (a := p) (by omega)
  have hin : i < N := by omega
  have b0 := hb i hin
  refine ⟨i, rfl, ?_⟩
  by_cases c1 : F i < 128
  · rw [getU_1 N F i hin c1] at h
    cases h
    have e : groups (F i) = [F i] := groups_last _ c1
    rw [e]
    refine ⟨⟨by simp; omega, fun j hj => ?_⟩, rfl, ha0, ha1⟩
    match j, hj with
    | 0, _ => rfl
  by_cases c2 : N ≤ i + 1
  · rw [getU_2end N F i hin (by omega) c2] at h; cases h
  have b1 := hb (i + 1) (by omega)
  by_cases c3 : F (i + 1) < 128
  · by_cases c4 : F (i + 1) = 0
    · rw [getU_2zero N F i (by omega) (by omega) c4] at h; cases h
    rw [getU_2 N F i (by omega) (by omega) c3 c4] at h
    cases h
    have e : groups (F i - 128 + F (i + 1) * 128) = [F i, F (i + 1)] := by
      unfold groups
      rw [if_neg (by omega), if_pos (by omega)]
      congr 1
      · omega
      · congr 1; omega
    rw [e]
    refine ⟨⟨by simp; omega, fun j hj => ?_⟩, rfl, ha0, ha1⟩
    match j, hj with
    | 0, _ => rfl
    | 1, _ => rfl
  by_cases c5 : N ≤ i + 2
  · rw [getU_3end N F i (by omega) (by omega) (by omega) c5] at h; cases h
  have b2 := hb (i + 2) (by omega)
  by_cases c6 : F (i + 2) < 128
  · by_cases c7 : F (i + 2) = 0 ∨ 1000000 < F i - 128 + (F (i + 1) - 128) * 128 + F (i + 2) * 16384
    · rw [getU_3no N F i (by omega) (by omega) (by omega) c6 c7] at h; cases h
    rw [getU_3 N F i (by omega) (by omega) (by omega) c6 c7] at h
    cases h
    have e : groups (F i - 128 + (F (i + 1) - 128) * 128 + F (i + 2) * 16384) = [F i, F (i + 1), F (i + 2)] := by
      unfold groups
      rw [if_neg (by omega), if_neg (by omega)]
      congr 1
      · omega
      · congr 1
        · omega
        · congr 1; omega
    rw [e]
    refine ⟨⟨by simp; omega, fun j hj => ?_⟩, rfl, ha0, ha1⟩
    match j, hj with
    | 0, _ => rfl
    | 1, _ => rfl
    | 2, _ => rfl
  · rw [getU_long N F i (by omega) (by omega) (by omega) (by omega)] at h; cases h

theorem getV_at {N : Nat} {F : Nat → Int} {i : Nat} {x : Int} (h0 : -1000000000000000 ≤ x) (h1 : x ≤ 1000000000000000) (h : AtF N F i (varL x)) : getV N F (i : Int) = (x, (i : Int) + ((varL x).length : Int), true) := by
  have hc : clampV x = x := by unfold clampV; rw [if_neg (by omega), if_neg (by omega)]
  have e := getV_put (Go.Proofs.Ytikopeihkbpjhas.lof i F) i x (lof_len i F)
  rw [hc] at e
  refine getV_more (N := i + (varL x).length) h.le (fun j hj => ?_) e
  by_cases ej : j < i
  · rw [getD_left _ _ _ (by rw [lof_len]; exact ej), lof_get _ _ _ ej]
  · obtain ⟨m, rfl⟩ : ∃ m, j = i + m := ⟨j - i, by omega⟩
    have := getD_right (Go.Proofs.Ytikopeihkbpjhas.lof i F) (varL x) m
    rw [lof_len] at this
    rw [this, h.at' m (by omega)]
theorem getV_read {N : Nat} {F : Nat → Int} {p a q : Int} (hb : ∀ i, i < N → 0 ≤ F i ∧ F i ≤ 255) (h : getV N F p = (a, q, true)) : ∃ i : Nat, p = (i : Int) ∧ AtF N F i (varL a) ∧ q = (i : Int) + ((varL a).length : Int) ∧ -1000000000000000 ≤ a ∧ a ≤ 1000000000000000 := by
  obtain ⟨i, rfl, hq, hle, h0, h1, e⟩ := var_read hb h
  exact ⟨i, rfl, AtF.ofLof hle e, hq, h0, h1⟩

/-- A text as bytes. -/
def txtL (s : ByteArray) : List Int := groups s.size ++ sl s
theorem getText_at {N : Nat} {F : Nat → Int} {i : Nat} {s : ByteArray} (hs : s.size ≤ 1000000) (h : AtF N F i (txtL s)) : getText N F (i : Int) = (s, (i : Int) + ((txtL s).length : Int), true) := by
  have h1 := getU_at (x := s.size) (by omega) (by omega) h.left
  have h2 := h.right
  have hl2 := h2.le
  rw [sl_len] at hl2
  unfold getText
  rw [h1]
  simp only
  rw [if_pos ⟨trivial, by omega⟩]
  have e : (i : Int) + ((groups s.size).length : Int) = ((i + (groups (s.size : Int)).length : Nat) : Int) := by push_cast; rfl
  rw [e]
  simp only [Int.toNat_natCast]
  have e2 := h2.lof
  rw [sl_len] at e2
  rw [e2, strOfNums_sl]
  refine Prod.ext rfl (Prod.ext ?_ rfl)
  show _ = _
  unfold txtL
  rw [List.length_append, sl_len]
  push_cast
  omega
theorem getText_read {N : Nat} {F : Nat → Int} {p q : Int} {s : ByteArray} (hb : ∀ i, i < N → 0 ≤ F i ∧ F i ≤ 255) (h : getText N F p = (s, q, true)) : ∃ i : Nat, p = (i : Int) ∧ AtF N F i (txtL s) ∧ q = (i : Int) + ((txtL s).length : Int) ∧ s.size ≤ 1000000 := by
  unfold getText at h
  by_cases c : (getU N F p).2.2 = true ∧ (getU N F p).1 ≤ N - (getU N F p).2.1
  · rw [if_pos c] at h
    obtain ⟨a, q1, ok, hu⟩ : ∃ a q1 ok, getU N F p = (a, q1, ok) := ⟨_, _, _, rfl⟩
    rw [hu] at c h
    simp only at c h
    obtain ⟨rfl, hle⟩ := c
    obtain ⟨i, rfl, hA, rfl, h0, h1⟩ := getU_read hb hu
    obtain ⟨A, rfl⟩ := Int.eq_ofNat_of_zero_le h0
    have e : (i : Int) + ((groups (A : Int)).length : Int) = ((i + (groups (A : Int)).length : Nat) : Int) := by push_cast; rfl
    rw [e] at h hle
    simp only [Int.toNat_natCast, Prod.mk.injEq, and_true] at h
    obtain ⟨hs, hq⟩ := h
    have hbl : ∀ y ∈ Go.Proofs.Ytikopeihkbpjhas.lof A (fun j => F (i + (groups (A : Int)).length + j)), 0 ≤ y ∧ y ≤ 255 := by
      intro y hy
      obtain ⟨j, hj, rfl⟩ := List.mem_map.1 hy
      exact hb _ (by have := List.mem_range.1 hj; omega)
    have hsl : sl s = Go.Proofs.Ytikopeihkbpjhas.lof A (fun j => F (i + (groups (A : Int)).length + j)) := by
      rw [← hs]; exact sl_strOfNums hbl
    have hsz : s.size = A := by rw [← sl_len, hsl, lof_len]
    refine ⟨i, rfl, ?_, ?_, by omega⟩
    · unfold txtL
      rw [hsz]
      refine hA.append ⟨by rw [sl_len, hsz]; omega, fun j hj => ?_⟩
      rw [sl_len, hsz] at hj
      rw [hsl, lof_get _ _ _ hj]
    · rw [← hq]
      unfold txtL
      rw [List.length_append, sl_len, hsz]
      push_cast
      omega
  · rw [if_neg c] at h
    simp at h
end Go.Proofs.Ytikopeihkbpjhas

/-
  The sum of bytes, plainly; that it stays below 2^32; that one byte turned turns it.
-/
namespace Go.Proofs.Ytikopeihkbpjhas

def crcBit (x : Nat) : Nat := if x % 2 = 1 then x / 2 ^^^ 2197175160 else x / 2
def crcBits : Nat → Nat → Nat
  | 0, x => x
  | k + 1, x => crcBit (crcBits k x)
def crcTo (f : Nat → Int) : Nat → Nat
  | 0 => 4294967295
  | k + 1 => crcBits 8 (crcTo f k ^^^ (f k).toNat)
def crc (n : Nat) (f : Nat → Int) : Nat := crcTo f n ^^^ 4294967295

theorem crcBit_lt {x : Nat} (h : x < 4294967296) : crcBit x < 4294967296 := by
  unfold crcBit
  split
  · exact Nat.xor_lt_two_pow (n := 32) (by omega) (by decide)
  · omega
theorem crcBits_lt {k x : Nat} (h : x < 4294967296) : crcBits k x < 4294967296 := by
  induction k with
  | zero => exact h
  | succ k ih => exact crcBit_lt ih
theorem xorByte_lt {x : Nat} {b : Int} (h : x < 4294967296) (h0 : 0 ≤ b ∧ b ≤ 255) : x ^^^ b.toNat < 4294967296 :=
  Nat.xor_lt_two_pow (n := 32) h (by omega)
theorem crcTo_lt {f : Nat → Int} {k : Nat} (h : ∀ i, i < k → 0 ≤ f i ∧ f i ≤ 255) : crcTo f k < 4294967296 := by
  induction k with
  | zero => show 4294967295 < 4294967296; decide
  | succ k ih => exact crcBits_lt (xorByte_lt (ih fun i hi => h i (by omega)) (h k (by omega)))
theorem crc_lt {f : Nat → Int} {n : Nat} (h : ∀ i, i < n → 0 ≤ f i ∧ f i ≤ 255) : crc n f < 4294967296 :=
  Nat.xor_lt_two_pow (n := 32) (crcTo_lt h) (by decide)

theorem xor_cancel {a b c : Nat} (h : a ^^^ c = b ^^^ c) : a = b := by
  have := congrArg (· ^^^ c) h
  simpa [Nat.xor_assoc] using this

theorem crcBit_inj {x y : Nat} (hx : x < 4294967296) (hy : y < 4294967296) (h : crcBit x = crcBit y) : x = y := by
  have t : ∀ z, z < 4294967296 → (crcBit z).testBit 31 = decide (z % 2 = 1) := by
    intro z hz
    have hz2 : (z / 2).testBit 31 = false := Nat.testBit_lt_two_pow (by omega)
    unfold crcBit
    by_cases e : z % 2 = 1
    · rw [if_pos e, Nat.testBit_xor, hz2]; simp [e]; decide
    · rw [if_neg e, hz2]; simp [e]
  have tx := t x hx
  have ty := t y hy
  rw [h, ty] at tx
  have par : (y % 2 = 1) ↔ (x % 2 = 1) := by simpa using tx
  unfold crcBit at h
  by_cases e : x % 2 = 1
  · rw [if_pos e, if_pos (par.2 e)] at h
    have := xor_cancel h
    have := par.2 e
    omega
  · rw [if_neg e, if_neg (fun k => e (par.1 k))] at h
    have : ¬ y % 2 = 1 := fun k => e (par.1 k)
    omega

theorem crcBits_inj {k x y : Nat} (hx : x < 4294967296) (hy : y < 4294967296) (h : crcBits k x = crcBits k y) : x = y := by
  induction k with
  | zero => exact h
  | succ k ih => exact ih (crcBit_inj (crcBits_lt hx) (crcBits_lt hy) h)

theorem crcTo_congr {f g : Nat → Int} {k : Nat} (h : ∀ i, i < k → f i = g i) : crcTo f k = crcTo g k := by
  induction k with
  | zero => rfl
  | succ k ih => show crcBits 8 _ = crcBits 8 _; rw [ih fun i hi => h i (by omega), h k (by omega)]
theorem crc_congr {f g : Nat → Int} {n : Nat} (h : ∀ i, i < n → f i = g i) : crc n f = crc n g := by unfold crc; rw [crcTo_congr h]

/-- Where two rows of bytes part at one place alone, their sums part. -/
theorem crcTo_parts {f g : Nat → Int} {n j : Nat} (hf : ∀ i, i < n → 0 ≤ f i ∧ f i ≤ 255) (hg : ∀ i, i < n → 0 ≤ g i ∧ g i ≤ 255) (hj : j < n) (hne : f j ≠ g j) (hs : ∀ i, i < n → i ≠ j → f i = g i) : crcTo f n ≠ crcTo g n := by
  induction n with
  | zero => omega
  | succ n ih =>
    intro e
    have e' : crcTo f n ^^^ (f n).toNat = crcTo g n ^^^ (g n).toNat :=
      crcBits_inj (k := 8) (xorByte_lt (crcTo_lt fun i hi => hf i (by omega)) (hf n (by omega))) (xorByte_lt (crcTo_lt fun i hi => hg i (by omega)) (hg n (by omega))) e
    by_cases hjn : j = n
    · subst hjn
      rw [crcTo_congr (g := g) fun i hi => hs i (by omega) (by omega), Nat.xor_comm, Nat.xor_comm (crcTo g j)] at e'
      have := xor_cancel e'
      have a := hf j (by omega)
      have b := hg j (by omega)
      omega
    · rw [hs n (by omega) (by omega)] at e'
      exact ih (fun i hi => hf i (by omega)) (fun i hi => hg i (by omega)) (by omega) (fun i hi => hs i (by omega)) (xor_cancel e')

theorem crc_parts {f g : Nat → Int} {n j : Nat} (hf : ∀ i, i < n → 0 ≤ f i ∧ f i ≤ 255) (hg : ∀ i, i < n → 0 ≤ g i ∧ g i ≤ 255) (hj : j < n) (hne : f j ≠ g j) (hs : ∀ i, i < n → i ≠ j → f i = g i) : crc n f ≠ crc n g :=
  fun e => crcTo_parts hf hg hj hne hs (xor_cancel e)

end Go.Proofs.Ytikopeihkbpjhas

/-
  The four bytes of a sum; new rows of bytes.
-/
namespace Go.Proofs.Ytikopeihkbpjhas
open Go.RowKit
set_option maxRecDepth 4000

def sumL (c : Nat) : List Int := [(c : Int) / 16777216 % 256, (c : Int) / 65536 % 256, (c : Int) / 256 % 256, (c : Int) % 256]
theorem sumL_len (c : Nat) : (sumL c).length = 4 := rfl
theorem sumL_byte (c : Nat) : ∀ y ∈ sumL c, 0 ≤ y ∧ y ≤ 255 := by
  intro y hy
  simp only [sumL, List.mem_cons, List.not_mem_nil, or_false] at hy
  rcases hy with rfl | rfl | rfl | rfl <;> omega

theorem lof_sumL (c : Nat) : lof 4 (fun i => (sumL c).getD i 0) = sumL c := lof_self (sumL c)

/-- New cells. -/
theorem cellNews (w : World) (l : List Value) (t : TypeId) : ∀ j u, l[j]? = some u → (w.alloc (.cells l.toArray t)).cell? ((⟨w.heap.size, 0, none⟩ : Addr).add j) = some u := by
  intro j u hj
  have e : (⟨w.heap.size, 0, none⟩ : Addr).add j = ⟨w.heap.size, j, none⟩ := by unfold Addr.add; split <;> simp_all
  rw [e]
  simp [hj]

theorem newRow (w : World) (l : List Int) (t : TypeId) : Row t (w.alloc (.cells (l.map (Value.int .u8)).toArray t)) w.heap.size l.length (fun i => l.getD i 0) :=
  Row.ofIs ⟨_, Deep.blk_alloc_new _ _, by simp, fun i hi => by simp [hi]⟩

theorem bytes_of_list {l : List Int} (h : ∀ y ∈ l, 0 ≤ y ∧ y ≤ 255) : ∀ i, i < l.length → 0 ≤ l.getD i 0 ∧ l.getD i 0 ≤ 255 := by
  intro i hi
  have := h _ (List.getElem_mem hi)
  simpa [hi] using this

end Go.Proofs.Ytikopeihkbpjhas

/-
  The bytes of a row, plainly.
-/
namespace Go.Proofs.Ytikopeihkbpjhas
open Go.RowKit
set_option maxRecDepth 4000

/-- The bytes of a value behind its kind. -/
def bodyB (k n : Int) (s : ByteArray) : List Int := if k = 1 ∨ k = 2 then varL n else if k = 3 then groups (clampN s.size) ++ sl s else if k = 4 then [n % 256] else []
/-- The bytes of a value. -/
def valB (k n : Int) (s : ByteArray) : List Int := groups (clampN k) ++ bodyB k n s
/-- The bytes of a row's values, with their count ahead. -/
def rowB (m : Nat) (fk fn : Nat → Int) (fs : Nat → ByteArray) : List Int := groups (clampN m) ++ keyT (fun i => valB (fk i) (fn i) (fs i)) m
/-- Whether values are a row of a plan. -/
def rowOk (n : Nat) (fc ft : Nat → Int) (fu : Nat → Bool) (m : Nat) (fk fn : Nat → Int) (fs : Nat → ByteArray) : Bool := planOk n fc ft && (decide (m = n) && fitsAll n m ft fu fk fn fs)
/-- Bytes with their sum behind. -/
def sumB (L : List Int) : List Int := L ++ sumL (crc L.length (fun i => L.getD i 0))
/-- What EncodeRow answers. -/
def encB (n : Nat) (fc ft : Nat → Int) (fu : Nat → Bool) (m : Nat) (fk fn : Nat → Int) (fs : Nat → ByteArray) : List Int := if rowOk n fc ft fu m fk fn fs then sumB (rowB m fk fn fs) else []

theorem bodyB_len (k n : Int) (s : ByteArray) : (bodyB k n s).length ≤ 8 + s.size := by
  unfold bodyB
  split
  · have := (varL_len n).2; omega
  · split
    · rw [List.length_append, sl_len]; have := (groups_len (clampN s.size)).2; omega
    · split <;> simp <;> omega
theorem bodyB_byte (k n : Int) (s : ByteArray) : ∀ y ∈ bodyB k n s, 0 ≤ y ∧ y ≤ 255 := by
  unfold bodyB
  split
  · exact varL_byte n
  · split
    · intro y hy
      rcases List.mem_append.1 hy with h | h
      · exact groups_byte _ (clampN_bd _).1 (clampN_bd _).2 y h
      · exact sl_byte s y h
    · split
      · intro y hy; simp at hy; omega
      · intro y hy; cases hy
theorem valB_byte (k n : Int) (s : ByteArray) : ∀ y ∈ valB k n s, 0 ≤ y ∧ y ≤ 255 := by
  intro y hy
  unfold valB at hy
  rcases List.mem_append.1 hy with h | h
  · exact groups_byte _ (clampN_bd _).1 (clampN_bd _).2 y h
  · exact bodyB_byte k n s y h
theorem valB_len (k n : Int) (s : ByteArray) : (valB k n s).length ≤ 11 + s.size := by
  unfold valB
  rw [List.length_append]
  have := bodyB_len k n s
  have := (groups_len (clampN k)).2
  omega
theorem rowB_byte (m : Nat) (fk fn : Nat → Int) (fs : Nat → ByteArray) : ∀ y ∈ rowB m fk fn fs, 0 ≤ y ∧ y ≤ 255 := by
  intro y hy
  unfold rowB at hy
  rcases List.mem_append.1 hy with h | h
  · exact groups_byte _ (clampN_bd _).1 (clampN_bd _).2 y h
  · exact keyT_byte (fun i _ => valB_byte _ _ _) y h
end Go.Proofs.Ytikopeihkbpjhas

/-
  All up to a number.
-/
namespace Go.Proofs.Ytikopeihkbpjhas

theorem allUpto_no {p : Nat → Bool} {n k : Nat} (hk : k < n) (h : p k = false) : (List.range n).all p = false := by
  rw [Bool.eq_false_iff]
  intro e
  have := List.all_eq_true.1 e k (List.mem_range.2 hk)
  rw [h] at this; cases this
theorem allUpto_yes {p : Nat → Bool} {n : Nat} (h : ∀ i, i < n → p i = true) : (List.range n).all p = true :=
  List.all_eq_true.2 (fun i hi => h i (List.mem_range.1 hi))
end Go.Proofs.Ytikopeihkbpjhas

/-
  A slice of parts that reads, by functions of the index, and how that is carried from one world to the next.
-/
namespace Go.Proofs.Ytikopeihkbpjhas
open Go.RowKit
set_option maxRecDepth 4000

/-- The slice value '.slice ao n cap' reads, in the world w, as n parts. -/
structure PView (w : World) (ao : Option Addr) (n cap : Nat) (fc ft : Nat → Int) (fu fd : Nat → Bool) : Prop where
  le : n ≤ cap
  cells : 0 < n → ∃ b off, ao = some ⟨b, off, none⟩ ∧ b < w.heap.size ∧ ∀ i, i < n → w.cell? ⟨b, off + i * 4, none⟩ = some (.int .i64 (fc i)) ∧ w.cell? ⟨b, off + i * 4 + 1, none⟩ = some (.int .i64 (ft i)) ∧ w.cell? ⟨b, off + i * 4 + 2, none⟩ = some (.bool (fu i)) ∧ w.cell? ⟨b, off + i * 4 + 3, none⟩ = some (.bool (fd i))

theorem PView.below {w w' : World} {ao : Option Addr} {n cap : Nat} {fc ft : Nat → Int} {fu fd : Nat → Bool} (h : PView w ao n cap fc ft fu fd) (hb : Below w.heap.size w w') : PView w' ao n cap fc ft fu fd := by
  refine ⟨h.le, fun hn => ?_⟩
  obtain ⟨b, off, e, hlt, hc⟩ := h.cells hn
  refine ⟨b, off, e, Nat.lt_of_lt_of_le hlt hb.size, fun i hi => ?_⟩
  rw [hb.cell (p := ⟨b, off + i * 4, none⟩) hlt, hb.cell (p := ⟨b, off + i * 4 + 1, none⟩) hlt, hb.cell (p := ⟨b, off + i * 4 + 2, none⟩) hlt, hb.cell (p := ⟨b, off + i * 4 + 3, none⟩) hlt]
  exact hc i hi
end Go.Proofs.Ytikopeihkbpjhas

/-
  Two values are held against each other, all fields at once.
-/
namespace Go.Proofs.Ytikopeihkbpjhas
open Go.RowKit
set_option maxRecDepth 4000

def valAgg (k n : Int) (s : ByteArray) : Value := .agg #[.int .i64 k, .int .i64 n, .string s]

/-- Whether two values are alike. -/
def eqV (k n : Int) (s : ByteArray) (k' n' : Int) (s' : ByteArray) : Bool := decide (k = k') && decide (n = n') && decide (s = s')

theorem toList_inj {a b : ByteArray} : a.toList = b.toList ↔ a = b := by
  constructor
  · intro h
    rw [ByteArray.toList_eq, ByteArray.toList_eq] at h
    obtain ⟨⟨x⟩⟩ := a
    obtain ⟨⟨y⟩⟩ := b
    simp only at h
    rw [h]
  · rintro rfl; rfl

theorem eqVal_run (k n : Int) (s : ByteArray) (k' n' : Int) (s' : ByteArray) (W : World) :
    (binOp .eql 52 (.agg #[.int .i64 k, .int .i64 n, .string s]) (.agg #[.int .i64 k', .int .i64 n', .string s'])).run Try.prog W = .ok (.bool (eqV k n s k' n' s')) W := by
  by_cases h1 : k = k' <;> by_cases h2 : n = n' <;> by_cases h3 : s = s' <;> simp [go_sem, h1, h2, h3, eqV, toList_inj]

theorem neVal_run (k n : Int) (s : ByteArray) (k' n' : Int) (s' : ByteArray) (W : World) :
    (binOp .neq 52 (.agg #[.int .i64 k, .int .i64 n, .string s]) (.agg #[.int .i64 k', .int .i64 n', .string s'])).run Try.prog W = .ok (.bool (!eqV k n s k' n' s')) W := by
  by_cases h1 : k = k' <;> by_cases h2 : n = n' <;> by_cases h3 : s = s' <;> simp [go_sem, h1, h2, h3, eqV, toList_inj]

end Go.Proofs.Ytikopeihkbpjhas

/-
  Values that were put into variables of the call's own, in later worlds.
-/
namespace Go.Proofs.Ytikopeihkbpjhas
open Go.RowKit
set_option maxRecDepth 4000

/-- A value that was put into a variable of the call's own reads as it did. -/
theorem boxed {w W' : World} {T : TypeId} {k n : Int} {s : ByteArray} {B : Nat} (h : Below B (w.alloc (.cells #[.int .i64 k, .int .i64 n, .string s] T)) W') (hB : w.heap.size < B) : W'.cell? ⟨w.heap.size, 0, none⟩ = some (.int .i64 k) ∧ W'.cell? ⟨w.heap.size, 1, none⟩ = some (.int .i64 n) ∧ W'.cell? ⟨w.heap.size, 2, none⟩ = some (.string s) := by
  refine ⟨?_, ?_, ?_⟩
  all_goals (rw [h.cell hB]; simp [go_sem])

/-- And it may be written. -/
theorem boxedF {w W' : World} {T : TypeId} {k n : Int} {s : ByteArray} {B : Nat} (h : Below B (w.alloc (.cells #[.int .i64 k, .int .i64 n, .string s] T)) W') (hB : w.heap.size < B) : W'.frozen? ⟨w.heap.size, 0, none⟩ = false ∧ W'.frozen? ⟨w.heap.size, 1, none⟩ = false ∧ W'.frozen? ⟨w.heap.size, 2, none⟩ = false := by
  refine ⟨?_, ?_, ?_⟩
  all_goals (rw [h.frozen hB]; simp [go_sem])

theorem sc_other (W : World) (B i j : Nat) (v : Value) (h : i ≠ j) : (W.setCell ⟨B, i, none⟩ v).cell? ⟨B, j, none⟩ = W.cell? ⟨B, j, none⟩ :=
  World.cell?_setCell_other W _ _ v (by intro e; exact h (congrArg Addr.off e))
theorem sc_same {W : World} {B i : Nat} {v u : Value} (h : W.cell? ⟨B, i, none⟩ = some u) : (W.setCell ⟨B, i, none⟩ v).cell? ⟨B, i, none⟩ = some v := World.cell?_setCell_same W _ v h

/-- A value that is put into the result's variable. -/
theorem stored3 {W : World} {B : Nat} {x0 x1 x2 : Value} (a b c : Value) (c0 : W.cell? ⟨B, 0, none⟩ = some x0) (c1 : W.cell? ⟨B, 1, none⟩ = some x1) (c2 : W.cell? ⟨B, 2, none⟩ = some x2) :
    (((W.setCell ⟨B, 0, none⟩ a).setCell ⟨B, 1, none⟩ b).setCell ⟨B, 2, none⟩ c).cell? ⟨B, 0, none⟩ = some a ∧
    (((W.setCell ⟨B, 0, none⟩ a).setCell ⟨B, 1, none⟩ b).setCell ⟨B, 2, none⟩ c).cell? ⟨B, 1, none⟩ = some b ∧
    (((W.setCell ⟨B, 0, none⟩ a).setCell ⟨B, 1, none⟩ b).setCell ⟨B, 2, none⟩ c).cell? ⟨B, 2, none⟩ = some c := by
  refine ⟨?_, ?_, ?_⟩
  · rw [sc_other _ _ 2 0 _ (by decide), sc_other _ _ 1 0 _ (by decide), sc_same c0]
  · rw [sc_other _ _ 2 1 _ (by decide), sc_same (u := x1) (by rw [sc_other _ _ 0 1 _ (by decide)]; exact c1)]
  · rw [sc_same (u := x2) (by rw [sc_other _ _ 1 2 _ (by decide), sc_other _ _ 0 2 _ (by decide)]; exact c2)]

theorem stored3A {W : World} {B : Nat} {x0 x1 x2 : Value} (a b c : Value) (c0 : W.cell? ⟨B, 0, none⟩ = some x0) (c1 : W.cell? ⟨B, 1, none⟩ = some x1) (c2 : W.cell? ⟨B, 2, none⟩ = some x2) (h : B < W.heap.size) (o : Obj) :
    ((((W.setCell ⟨B, 0, none⟩ a).setCell ⟨B, 1, none⟩ b).setCell ⟨B, 2, none⟩ c).alloc o).cell? ⟨B, 0, none⟩ = some a ∧
    ((((W.setCell ⟨B, 0, none⟩ a).setCell ⟨B, 1, none⟩ b).setCell ⟨B, 2, none⟩ c).alloc o).cell? ⟨B, 1, none⟩ = some b ∧
    ((((W.setCell ⟨B, 0, none⟩ a).setCell ⟨B, 1, none⟩ b).setCell ⟨B, 2, none⟩ c).alloc o).cell? ⟨B, 2, none⟩ = some c := by
  have g := stored3 a b c c0 c1 c2
  have hB : B < (((W.setCell ⟨B, 0, none⟩ a).setCell ⟨B, 1, none⟩ b).setCell ⟨B, 2, none⟩ c).heap.size := by simpa using h
  rw [World.cell?_alloc_past _ _ _ hB, World.cell?_alloc_past _ _ _ hB, World.cell?_alloc_past _ _ _ hB]
  exact g

/-- Two values that were put into variables of the call's own stand in a later world. -/
structure Two (w : World) (T : TypeId) (k n : Int) (s : ByteArray) (k' n' : Int) (s' : ByteArray) (W : World) : Prop where
  below : Below (w.heap.size + 2) ((w.alloc (.cells #[.int .i64 k, .int .i64 n, .string s] T)).alloc (.cells #[.int .i64 k', .int .i64 n', .string s'] T)) W
  size : w.heap.size + 2 ≤ W.heap.size

theorem Two.start (w : World) (T : TypeId) (k n : Int) (s : ByteArray) (k' n' : Int) (s' : ByteArray) : Two w T k n s k' n' s' ((w.alloc (.cells #[.int .i64 k, .int .i64 n, .string s] T)).alloc (.cells #[.int .i64 k', .int .i64 n', .string s'] T)) := ⟨Below.refl _ _, by simp⟩
theorem Two.drew {w W : World} {T : TypeId} {k n : Int} {s : ByteArray} {k' n' : Int} {s' : ByteArray} (h : Two w T k n s k' n' s' W) : Two w T k n s k' n' s' W.drew := ⟨h.below.drew, h.size⟩
theorem Two.step {w W W' : World} {T : TypeId} {k n : Int} {s : ByteArray} {k' n' : Int} {s' : ByteArray} (h : Two w T k n s k' n' s' W) (hB : Below W.heap.size W W') : Two w T k n s k' n' s' W' :=
  ⟨h.below.trans (hB.mono h.size), Nat.le_trans h.size hB.size⟩
theorem Two.cells {w W : World} {T : TypeId} {k n : Int} {s : ByteArray} {k' n' : Int} {s' : ByteArray} (h : Two w T k n s k' n' s' W) :
    (W.cell? ⟨w.heap.size, 0, none⟩ = some (.int .i64 k) ∧ W.cell? ⟨w.heap.size, 1, none⟩ = some (.int .i64 n) ∧ W.cell? ⟨w.heap.size, 2, none⟩ = some (.string s)) ∧
    (W.cell? ⟨w.heap.size + 1, 0, none⟩ = some (.int .i64 k') ∧ W.cell? ⟨w.heap.size + 1, 1, none⟩ = some (.int .i64 n') ∧ W.cell? ⟨w.heap.size + 1, 2, none⟩ = some (.string s')) := by
  refine ⟨⟨?_, ?_, ?_⟩, ?_, ?_, ?_⟩
  all_goals (rw [h.below.cell (by show _ < _; simp <;> omega)]; simp [go_sem])
theorem Two.all {w W : World} {T : TypeId} {k n : Int} {s : ByteArray} {k' n' : Int} {s' : ByteArray} (h : Two w T k n s k' n' s' W) : Below w.heap.size w W :=
  (((Below.refl _ _).alloc (Nat.le_refl _) _).alloc (by simp) _).trans (h.below.mono (by omega))

end Go.Proofs.Ytikopeihkbpjhas

/-
  A slice of values that reads, by a function of the index, and how that is carried from one world to the next.
-/
namespace Go.Proofs.Ytikopeihkbpjhas
open Go.RowKit
set_option maxRecDepth 4000

/-- The slice value '.slice ao n cap' reads, in the world w, as the n values f 0 up to f (n - 1). -/
structure VView (w : World) (ao : Option Addr) (n cap : Nat) (fk fn : Nat → Int) (fs : Nat → ByteArray) : Prop where
  le : n ≤ cap
  cells : 0 < n → ∃ b off, ao = some ⟨b, off, none⟩ ∧ b < w.heap.size ∧ ∀ i, i < n → w.cell? ⟨b, off + i * 3, none⟩ = some (.int .i64 (fk i)) ∧ w.cell? ⟨b, off + i * 3 + 1, none⟩ = some (.int .i64 (fn i)) ∧ w.cell? ⟨b, off + i * 3 + 2, none⟩ = some (.string (fs i))

theorem VView.below {w w' : World} {ao : Option Addr} {n cap : Nat} {fk fn : Nat → Int} {fs : Nat → ByteArray} (h : VView w ao n cap fk fn fs) (hb : Below w.heap.size w w') : VView w' ao n cap fk fn fs := by
  refine ⟨h.le, fun hn => ?_⟩
  obtain ⟨b, off, e, hlt, hc⟩ := h.cells hn
  refine ⟨b, off, e, Nat.lt_of_lt_of_le hlt hb.size, fun i hi => ?_⟩
  rw [hb.cell (p := ⟨b, off + i * 3, none⟩) hlt, hb.cell (p := ⟨b, off + i * 3 + 1, none⟩) hlt, hb.cell (p := ⟨b, off + i * 3 + 2, none⟩) hlt]
  exact hc i hi

end Go.Proofs.Ytikopeihkbpjhas

/-
  The model's soundness of a value comes to the plain one.
-/
namespace Go.Proofs.Ytikopeihkbpjhas
open Go.RowKit
set_option maxRecDepth 4000

/-- What the model asks, kind by kind. -/
theorem okF_spec0 (n : Int) (s : ByteArray) : okF 0 n s = (decide (n = 0) && decide (s = noBytes)) := by
  simp [okF, ofFields, V.rng, V.k, V.n, V.s, eq_comm]
theorem okF_spec1 (n : Int) (s : ByteArray) : okF 1 n s = (decide (-2147483648 ≤ n) && decide (n ≤ 2147483647) && decide (s = noBytes)) := by
  simp [okF, ofFields, V.rng, V.k, V.n, V.s, eq_comm]
theorem okF_spec2 (n : Int) (s : ByteArray) : okF 2 n s = (decide (-1000000000000000 ≤ n) && decide (n ≤ 1000000000000000) && decide (s = noBytes)) := by
  simp [okF, ofFields, V.rng, V.k, V.n, V.s, eq_comm]
theorem okF_spec3 (n : Int) (s : ByteArray) : okF 3 n s = (decide (s.size ≤ 30) && decide (n = 0)) := by
  simp [okF, ofFields, V.rng, V.k, V.n, V.s, eq_comm]
theorem okF_spec4 (n : Int) (s : ByteArray) : okF 4 n s = (decide (0 ≤ n) && decide (n ≤ 1) && decide (s = noBytes)) := by
  by_cases h0 : n = 0
  · subst h0; simp [okF, ofFields, V.rng, V.k, V.n, V.s, eq_comm]
  · by_cases h1 : n = 1
    · subst h1; simp [okF, ofFields, V.rng, V.k, V.n, V.s, eq_comm]
    · have e : (decide (0 ≤ n) && decide (n ≤ 1)) = false := by simp; omega
      rw [e]
      simp [okF, ofFields, V.rng, V.k, V.n, V.s, h0]
      intro h; omega
theorem okF_specX {k : Int} (n : Int) (s : ByteArray) (h0 : k ≠ 0) (h1 : k ≠ 1) (h2 : k ≠ 2) (h3 : k ≠ 3) (h4 : k ≠ 4) : okF k n s = false := by
  simp [okF, ofFields, h0, h1, h2, h3, h4]

theorem isE (s : ByteArray) : s.toList.isEmpty = decide (s = noBytes) := by
  rw [ByteArray.toList_eq]
  obtain ⟨⟨l⟩⟩ := s
  cases l with
  | nil => simp [noBytes]
  | cons c r => simp [noBytes]

set_option maxHeartbeats 1000000 in
theorem specValOk_any (k n : Int) (s : ByteArray) (w : World) (hs : s.size ≤ 281474976710656) :
    Calls Try.prog 69 #[valAgg k n s] w fun e w' => e = .returned (.bool (okF k n s)) ∧ Below w.heap.size w w' := by
  unfold valAgg
  by_cases k0 : k = 0
  · subst k0
    rw [okF_spec0]
    go_enter Try.func69, Try.ntmps69
    go_wp2
    all_goals
      go_ret
      refine ⟨congrArg (fun b => Ending.returned (.bool b)) ?_, (Below.refl _ _).alloc (Nat.le_refl _) _⟩
      first | rfl | (simp [isE, *] <;> omega) | (simp_all [isE] <;> omega)
  by_cases k1 : k = 1
  · subst k1
    rw [okF_spec1]
    go_enter Try.func69, Try.ntmps69
    go_wp2
    all_goals
      go_ret
      refine ⟨congrArg (fun b => Ending.returned (.bool b)) ?_, (Below.refl _ _).alloc (Nat.le_refl _) _⟩
      first | rfl | (simp [isE, *] <;> omega) | (simp_all [isE] <;> omega)
  by_cases k2 : k = 2
  · subst k2
    rw [okF_spec2]
    go_enter Try.func69, Try.ntmps69
    go_wp2
    all_goals
      go_ret
      refine ⟨congrArg (fun b => Ending.returned (.bool b)) ?_, (Below.refl _ _).alloc (Nat.le_refl _) _⟩
      first | rfl | (simp [isE, *] <;> omega) | (simp_all [isE] <;> omega)
  by_cases k3 : k = 3
  · subst k3
    rw [okF_spec3]
    go_enter Try.func69, Try.ntmps69
    go_wp2
    all_goals
      go_ret
      refine ⟨congrArg (fun b => Ending.returned (.bool b)) ?_, (Below.refl _ _).alloc (Nat.le_refl _) _⟩
      (rw [Bool.eq_iff_iff]; simp; omega)
  by_cases k4 : k = 4
  · subst k4
    rw [okF_spec4]
    go_enter Try.func69, Try.ntmps69
    go_wp2
    all_goals
      go_ret
      refine ⟨congrArg (fun b => Ending.returned (.bool b)) ?_, (Below.refl _ _).alloc (Nat.le_refl _) _⟩
      first | rfl | (simp [isE, *] <;> omega) | (simp_all [isE] <;> omega)
  rw [okF_specX n s k0 k1 k2 k3 k4]
  have q0 : (k == 0) = false := by simpa using k0
  have q1 : (k == 1) = false := by simpa using k1
  have q2 : (k == 2) = false := by simpa using k2
  have q3 : (k == 3) = false := by simpa using k3
  have q4 : (k == 4) = false := by simpa using k4
  clear k0 k1 k2 k3 k4
  go_enter Try.func69, Try.ntmps69
  go_wp2
  go_ret
  exact ⟨rfl, (Below.refl _ _).alloc (Nat.le_refl _) _⟩
end Go.Proofs.Ytikopeihkbpjhas

/-
  All bits of a byte turned.
-/
namespace Go.Proofs.Ytikopeihkbpjhas
open Go.RowKit
set_option maxRecDepth 4000

theorem u8_not (x : Int) (h0 : 0 ≤ x) (h1 : x ≤ 255) : bits .xor .u8 IntKind.u8.max x = 255 - x := by
  obtain ⟨n, rfl⟩ := Int.eq_ofNat_of_zero_le h0
  have key : ∀ n : Fin 256, bits .xor .u8 IntKind.u8.max (n.val : Int) = 255 - (n.val : Int) := by decide +kernel
  exact key ⟨n, by omega⟩
end Go.Proofs.Ytikopeihkbpjhas

/-
  The program's numberOf and the model's l4Read: bytes as a number, the highest first.
-/
namespace Go.Proofs.Ytikopeihkbpjhas
open Go.RowKit
set_option maxRecDepth 4000

theorem or_low (x y : Int) (h0 : 0 ≤ x) (h1 : x < 36028797018963968) (h2 : 0 ≤ y) (h3 : y ≤ 255) : bits .or .i64 (x * 256) y = x * 256 + y := by
  have e : bits .or .i64 (x * 256) y = bits .or .i64 y (x * 256) := by
    show IntKind.i64.wrap ((BitVec.ofInt 64 (x * 256) ||| BitVec.ofInt 64 y).toNat : Nat) = IntKind.i64.wrap ((BitVec.ofInt 64 y ||| BitVec.ofInt 64 (x * 256)).toNat : Nat)
    rw [BitVec.or_comm]
  rw [e, i64_or_add 8 y (x * 256) h2 (by show _ < (256 : Int); omega) (by omega) (by show _ % (256 : Int) = 0; omega) (by omega) (by decide)]
  omega

theorem valF_step (k : Nat) (f : Nat → Int) : valF (k + 1) f = valF k f * 256 + f k := rfl
/-- As many bytes as there may be are a number that an int has. -/
theorem valF_lim (k : Nat) (f : Nat → Int) (hk : k ≤ 6) (h : ∀ i, i < k → 0 ≤ f i ∧ f i ≤ 255) : 0 ≤ valF k f ∧ valF k f < 281474976710656 := by
  have h1 := valF_bd k f h
  have h2 : (256 : Int) ^ k ≤ 256 ^ 6 := pow_mono hk
  have e : (256 : Int) ^ 6 = 281474976710656 := by decide
  omega

set_option maxHeartbeats 1000000 in
theorem numberOf_any (ao : Option Addr) (k c : Nat) (f : Nat → Int) (w : World) (hv : View w ao k c f) (hk : k ≤ 7) :
    Calls Try.prog 78 #[.slice ao k c] w fun e w' => e = .returned (.int .i64 (valF k f)) ∧ w = w' := by
  go_enter Try.func78, Try.ntmps78
  go_wp2
  go_loopg [3, 8] k (fun q s i wr => w = wr ∧ ∃ j : Nat, j ≤ k ∧ q = k - j ∧ s = .int .i64 (valF j f) ∧ i = .int .i64 j)
  case atStart => exact ⟨rfl, 0, Nat.zero_le _, rfl, rfl, rfl⟩
  case round =>
    obtain ⟨rfl, j, hj, rfl, rfl, rfl⟩ := hrel
    by_cases hlt : j < k
    · have hb := hv.byte j hlt
      obtain ⟨b, off, rfl, hbl, hc⟩ := hv.cells (by omega)
      have hcj := hc j hlt
      have hl := valF_lim j f (by omega) (fun i hi => hv.byte i (by omega))
      have HE : Hid (valF (j + 1) f = valF j f * 256 + f j) := rfl
      have hq := or_low (valF j f) (f j) hl.1 (by omega) hb.1 hb.2
      have hjz : (j : Int) < (k : Int) := by omega
      clear hc hv
      generalize valF j f = x at *
      go_wp2
      go_roundg (k - (j + 1))
      case measure => omega
      case rel => exact ⟨rfl, j + 1, by omega, rfl, by rw [HE.out], by go_num⟩
    · obtain rfl : j = k := by omega
      clear hv
      go_wp2
      go_ret
      exact ⟨rfl, rfl⟩

set_option maxHeartbeats 1000000 in
theorem l4Read_any (ao : Option Addr) (n c : Nat) (f : Nat → Int) (p k : Nat) (t : Bool) (w : World) (hv : View w ao n c f) (hn : n ≤ 281474976710656) (hk : k ≤ 7) (hp : p + k ≤ n) :
    Calls Try.prog 76 #[.slice ao n c, .int .i64 (p : Int), .int .i64 (k : Int), .bool t] w fun e w' => e = .returned (.tuple #[.int .i64 (valF k (turnF t (fun i => f (p + i)))), .bool true]) ∧ w = w' := by
  have hpz : (p : Int) + (k : Int) ≤ (n : Int) := by omega
  have q1 : decide ((p : Int) < 0) = false := by simp
  have q2 : decide (n < p) = false := by simp; omega
  have q3 : decide ((n : Int) - (p : Int) < (k : Int)) = false := by simp; omega
  go_enter Try.func76, Try.ntmps76
  go_wp2
  go_loopg [10, 11] k (fun q s i wr => w = wr ∧ ∃ j : Nat, j ≤ k ∧ q = k - j ∧ s = .int .i64 (valF j (turnF t (fun i => f (p + i)))) ∧ i = .int .i64 j)
  case atStart => exact ⟨rfl, 0, Nat.zero_le _, rfl, rfl, rfl⟩
  case round =>
    obtain ⟨rfl, j, hj, rfl, rfl, rfl⟩ := hrel
    by_cases hlt : j < k
    · have hb := hv.byte (p + j) (by omega)
      obtain ⟨b, off, rfl, hbl, hc⟩ := hv.cells (by omega)
      have hcj := hc (p + j) (by omega)
      have hl := valF_lim j (turnF t (fun i => f (p + i))) (by omega) (turnF_bd t (fun i hi => hv.byte (p + i) (by omega)))
      have hjz : (j : Int) < (k : Int) := by omega
      have HE : Hid (valF (j + 1) (turnF t (fun i => f (p + i))) = valF j (turnF t (fun i => f (p + i))) * 256 + turnF t (fun i => f (p + i)) j) := rfl
      clear hc hv
      cases t
      · have hq := or_low (valF j (turnF false (fun i => f (p + i)))) (f (p + j)) hl.1 (by omega) hb.1 hb.2
        have HT : Hid (turnF false (fun i => f (p + i)) j = f (p + j)) := rfl
        rw [HT.out] at HE
        generalize valF j (turnF false (fun i => f (p + i))) = x at *
        go_wp2
        go_roundg (k - (j + 1))
        case measure => omega
        case rel => exact ⟨rfl, j + 1, by omega, rfl, by rw [HE.out], by go_num⟩
      · have hx : bits .xor .u8 IntKind.u8.max (f (p + j)) = 255 - f (p + j) := u8_not _ hb.1 hb.2
        have HT : Hid (turnF true (fun i => f (p + i)) j = 255 - f (p + j)) := rfl
        have hyb : 0 ≤ 255 - f (p + j) ∧ 255 - f (p + j) ≤ 255 := by omega
        rw [HT.out] at HE
        generalize 255 - f (p + j) = y at *
        obtain ⟨hy0, hy1⟩ := hyb
        have hq := or_low (valF j (turnF true (fun i => f (p + i)))) y hl.1 (by omega) hy0 hy1
        generalize valF j (turnF true (fun i => f (p + i))) = x at *
        go_wp2
        go_roundg (k - (j + 1))
        case measure => omega
        case rel => exact ⟨rfl, j + 1, by omega, rfl, by rw [HE.out, show wrap64 y = y by unfold wrap64; omega, hq], by go_num⟩
    · obtain rfl : j = k := by omega
      clear hv
      go_wp2
      go_ret2
      exact ⟨rfl, rfl⟩

set_option maxHeartbeats 1000000 in
theorem l4Read_no (ao : Option Addr) (n c : Nat) (p k : Int) (t : Bool) (w : World) (hp1 : p ≤ 9223372036854775807) (hk : 0 ≤ k) (hk7 : k ≤ 7) (hp : p < 0 ∨ (n : Int) - p < k) :
    Calls Try.prog 76 #[.slice ao n c, .int .i64 p, .int .i64 k, .bool t] w fun e w' => e = .returned (.tuple #[.int .i64 0, .bool false]) ∧ w = w' := by
  go_enter Try.func76, Try.ntmps76
  by_cases h1 : p < 0
  · clear hp
    go_wp2
    go_ret2
    exact ⟨rfl, rfl⟩
  · have h2 : (n : Int) - p < k := by omega
    clear hp
    by_cases h3 : (n : Int) < p
    · go_wp2
      go_ret2
      exact ⟨rfl, rfl⟩
    · go_wp2
      go_ret2
      exact ⟨rfl, rfl⟩
end Go.Proofs.Ytikopeihkbpjhas

/-
  A part of a slice of bytes that reads.
-/
namespace Go.Proofs.Ytikopeihkbpjhas
open Go.RowKit
set_option maxRecDepth 4000

theorem View.part {w : World} {b off n cap m k : Nat} {f : Nat → Int} (h : View w (some ⟨b, off, none⟩) n cap f) (hm : k + m ≤ n) (c : Nat) (hc : m ≤ c) : View w (some ⟨b, off + k, none⟩) m c (fun i => f (k + i)) := by
  refine ⟨hc, fun i hi => h.byte (k + i) (by omega), fun h0 => ?_⟩
  obtain ⟨b', off', e, hb, hcl⟩ := h.cells (by omega)
  simp only [Option.some.injEq, Addr.mk.injEq, and_true] at e
  obtain ⟨rfl, rfl⟩ := e
  exact ⟨b, off + k, rfl, hb, fun i hi => by have := hcl (k + i) (by omega); rw [← Nat.add_assoc] at this; exact this⟩
end Go.Proofs.Ytikopeihkbpjhas

/-
  The program's putBytes: both slices of bytes, one behind the other, in one new row that holds just them.
-/
namespace Go.Proofs.Ytikopeihkbpjhas
open Go.RowKit
set_option maxRecDepth 4000

theorem cells_of_any {w : World} {ao : Option Addr} {n cap : Nat} {f : Nat → Int} (h : View w ao n cap f) : ∀ ad, ao = some ad → ∀ j u, (bl (lof n f))[j]? = some u → w.cell? (ad.add j) = some u := by
  rintro ad rfl j u hu
  have hj : j < n := by
    by_cases hj : j < n
    · exact hj
    · rw [List.getElem?_eq_none (by rw [bl_len, lof_len]; omega)] at hu; cases hu
  obtain ⟨b', off', e, _, _⟩ := h.cells (by omega)
  simp only [Option.some.injEq] at e
  subst e
  exact cells_of_view h j u hu

theorem below_new {w w1 : World} (h : w.grownBy w1 none) : Below w.heap.size w w1 := (Below.refl _ _).grown h (Nat.le_refl _) (by intro k hk; cases hk)
theorem below_app {w w1 w2 : World} (h : w.grownBy w1 none) (h2 : w1.grownBy w2 (some w.heap.size)) : Below w.heap.size w w2 :=
  (below_new h).grown h2 h.size (by intro k hk; cases hk; exact Nat.le_refl _)

set_option maxHeartbeats 1000000 in
theorem putBytes_any (b off n cap : Nat) (f : Nat → Int) (ao : Option Addr) (m c : Nat) (g : Nat → Int) (w : World) (hv : View w (some ⟨b, off, none⟩) n cap f) (hg : View w ao m c g) (hno : ao = none → m = 0 ∧ c = 0) (hn : n + m ≤ 70368744177664) :
    Calls Try.prog 60 #[.slice (some ⟨b, off, none⟩) n cap, .slice ao m c] w fun e w' => e = .returned (.slice (some ⟨w.heap.size, 0, none⟩) (n + m) (n + m)) ∧ w'.ownsRow w.heap.size 5 1 (.slice (some ⟨w.heap.size, 0, none⟩) (n + m) (n + m)) (n + m) (bl (lof n f ++ lof m g)) ∧ Below w.heap.size w w' := by
  obtain ⟨i0, hi, hz0, hz1, hz2⟩ := info_parts Try.info5
  go_enter Try.func60, Try.ntmps60
  go_wp2_with (first | (at_make; go_must (refine wpList_make_own _ rfl (.const (.int .i64 0)) (.tmp 10) 34 rfl w.heap.size 5 i0 (.int .u8 0) 1 Try.underlying34 hi hz0 hz1 .i64 .i64 ((n : Int) + (m : Int)) (n + m) rfl rfl (by omega) (by rw [hz2]; omega) (by unfold maxLen; omega) (Nat.le_refl _) ?_); intro w1 hown1 hgr1) | (at_builtin; refine wpList_append_fits_any _ rfl (.tmp 12) (.tmp 13) 34 rfl w.heap.size 5 i0 1 Try.underlying34 hi hz1 w.heap.size 0 (n + m) [] rfl hown1 (some ⟨b, off, none⟩) n cap (bl (lof n f)) rfl (by rw [bl_len, lof_len]; omega) (by intro h; cases h) (cells_of_any (hv.below (below_new hgr1))) (bl_one _) (by omega) ?_; intro w2 hown2 hgr2; simp only [Nat.zero_add, List.nil_append] at hown2) | (at_builtin; refine wpList_append_fits_any _ rfl (.tmp 15) (.tmp 16) 34 rfl w.heap.size 5 i0 1 Try.underlying34 hi hz1 w.heap.size n (n + m) (bl (lof n f)) rfl hown2 ao m c (bl (lof m g)) rfl (by rw [bl_len, lof_len]; omega) hno (cells_of_any (hg.below (below_app hgr1 hgr2))) (bl_one _) (by omega) ?_; intro w3 hown3 hgr3))
  go_ret
  exact ⟨rfl, by rw [bl_append]; exact hown3, (below_app hgr1 hgr2).grown hgr3 (Nat.le_trans hgr1.size hgr2.size) (by intro k hk; cases hk; exact Nat.le_refl _)⟩
end Go.Proofs.Ytikopeihkbpjhas

/-
  Flip, the program's and the model's: from the place on all bits of the bytes turned, in memory of its own.
-/
namespace Go.Proofs.Ytikopeihkbpjhas
open Go.RowKit
set_option maxRecDepth 4000

/-- The bytes of f, from p on turned. -/
def flipF (f : Nat → Int) (p : Int) (i : Nat) : Int := if p ≤ i then 255 - f i else f i
theorem flipF_byte {n : Nat} {f : Nat → Int} (p : Int) (h : ∀ i, i < n → 0 ≤ f i ∧ f i ≤ 255) : ∀ i, i < n → 0 ≤ flipF f p i ∧ flipF f p i ≤ 255 := by
  intro i hi
  have := h i hi
  unfold flipF
  split <;> omega

/-- k of the n bytes are turned, as far as they are to be. -/
structure Flipped (t : TypeId) (w wr : World) (g n : Nat) (f : Nat → Int) (p : Int) (k : Nat) : Prop where
  row : Row t wr g n (fun i => if i < k then flipF f p i else f i)
  below : Below w.heap.size w wr

theorem flipped_turn {t : TypeId} {w wr : World} {g n : Nat} {f : Nat → Int} {p : Int} {k : Nat} (h : Flipped t w wr g n f p k) (hg : w.heap.size ≤ g) (hp : p ≤ k) : Flipped t w (wr.setCell ⟨g, k, none⟩ (.int .u8 (255 - f k))) g n f p (k + 1) := by
  refine ⟨(h.row.set k _).congr (fun i _ => ?_), h.below.setCell hg _⟩
  by_cases e : i = k
  · subst e; simp [flipF, hp]
  · rw [if_neg e]
    by_cases hlt : i < k
    · rw [if_pos hlt, if_pos (by omega)]
    · rw [if_neg hlt, if_neg (by omega)]
theorem flipped_keep {t : TypeId} {w wr : World} {g n : Nat} {f : Nat → Int} {p : Int} {k : Nat} (h : Flipped t w wr g n f p k) (hp : ¬ p ≤ k) : Flipped t w wr g n f p (k + 1) := by
  refine ⟨h.row.congr (fun i _ => ?_), h.below⟩
  by_cases e : i = k
  · subst e; simp [flipF, hp]
  · by_cases hlt : i < k
    · rw [if_pos hlt, if_pos (by omega)]
    · rw [if_neg hlt, if_neg (by omega)]

set_option maxHeartbeats 1000000 in
theorem flip_spec (b off n cap : Nat) (f : Nat → Int) (p : Int) (w : World) (hv : View w (some ⟨b, off, none⟩) n cap f) (hn : n ≤ 70368744177664) :
    Calls Try.prog 55 #[.slice (some ⟨b, off, none⟩) n cap, .int .i64 p] w fun e w' => ∃ g c, e = .returned (.slice (some ⟨g, 0, none⟩) n c) ∧ w.heap.size ≤ g ∧ n ≤ c ∧ Row 5 w' g n (flipF f p) ∧ Below w.heap.size w w' := by
  obtain ⟨i0, hi, hz0, hz1, hz2⟩ := info_parts Try.info5
  have hown0 := World.ownsRow_lit (base := w.heap.size) (e := 5) (size := 1) w #[] 0 (Nat.le_refl _) (Nat.zero_le _) rfl
  have hb0 : Below w.heap.size w (w.alloc (.cells #[] 5)) := (Below.refl _ _).alloc (Nat.le_refl _) _
  have hcl := cells_of_view (hv.below hb0)
  have hsz : (w.alloc (.cells #[] 5)).heap.size = w.heap.size + 1 := by simp
  have hby := hv.byte
  go_enter Try.func55, Try.ntmps55
  go_wp2_with (at_builtin; go_must (refine wpList_append_own _ rfl (.tmp 7) (.tmp 8) 34 rfl w.heap.size 5 i0 (.int .u8 0) 1 1 Try.underlying34 hi hz0 hz1 hz2 rfl (by decide) (.slice (some ⟨w.heap.size, 0, none⟩) 0 0) 0 [] rfl hown0 ⟨b, off, none⟩ n cap (bl (lof n f)) rfl (by rw [bl_len, lof_len]; omega) hcl (bl_one _) (by unfold maxLen; omega) (by omega) (by rw [hsz]; omega) ?_); intro v1 w1 hown1 hgr1 hnil; simp only [Nat.zero_add, List.nil_append] at hown1; obtain ⟨g, c, rfl, hg, hgc, hrow⟩ := row_of_own' hown1 (by intro h; have := (hnil.1 h).1; cases this))
  have hb1 : Below w.heap.size w w1 := hb0.grown hgr1 (by simp) (fun k hk => by simp only [Value.ownBlock, Option.some.injEq] at hk; omega)
  have hF0 : Flipped 5 w w1 g n f p 0 := ⟨hrow.congr (fun i hi => by rw [lof_get n f i hi]; simp), hb1⟩
  clear hown0 hcl hsz hgr1 hb0 hv hown1 hnil hrow hb1
  go_loopg [6] n (fun q i wr => ∃ k : Nat, k ≤ n ∧ q = n - k ∧ i = .int .i64 k ∧ Flipped 5 w wr g n f p k)
  case atStart => exact ⟨0, Nat.zero_le _, rfl, rfl, hF0⟩
  case round =>
    obtain ⟨k, hk, rfl, rfl, hF⟩ := hrel
    clear hF0
    by_cases hlt : k < n
    · have hkz : (k : Int) < (n : Int) := by omega
      by_cases hp : p ≤ (k : Int)
      · have hS : Hid (Flipped 5 w (wr.setCell ⟨g, k, none⟩ (.int .u8 (255 - f k))) g n f p (k + 1)) := flipped_turn hF hg hp
        have hc : wr.cell? ⟨g, k, none⟩ = some (.int .u8 (f k)) := by rw [hF.row.cell hlt, if_neg (Nat.lt_irrefl _)]
        have hf := hF.row.frozen k
        have hx : bits .xor .u8 IntKind.u8.max (f k) = 255 - f k := u8_not _ (hby k hlt).1 (hby k hlt).2
        clear hF hby
        go_wp2
        go_roundg (n - (k + 1))
        case measure => omega
        case rel => exact ⟨k + 1, by omega, rfl, by go_num, hS.out⟩
      · have hS : Hid (Flipped 5 w wr g n f p (k + 1)) := flipped_keep hF hp
        clear hF hby
        go_wp2
        go_roundg (n - (k + 1))
        case measure => omega
        case rel => exact ⟨k + 1, by omega, rfl, by go_num, hS.out⟩
    · obtain rfl : k = n := by omega
      have hR : Hid (Row 5 wr g k (flipF f p)) := hF.row.congr (fun i hi => by rw [if_pos hi])
      have hB := hF.below
      clear hF hby
      go_wp2
      go_ret
      exact ⟨g, c, rfl, hg, hgc, hR.out, hB⟩

set_option maxHeartbeats 1000000 in
theorem flip_impl (b off n cap : Nat) (f : Nat → Int) (p : Int) (w : World) (hv : View w (some ⟨b, off, none⟩) n cap f) (hn : n ≤ 70368744177664) (hp1 : p ≤ 9223372036854775807) :
    Calls Try.prog 74 #[.slice (some ⟨b, off, none⟩) n cap, .int .i64 p] w fun e w' => ∃ g c, e = .returned (.slice (some ⟨g, 0, none⟩) n c) ∧ w.heap.size ≤ g ∧ n ≤ c ∧ Row 5 w' g n (flipF f p) ∧ Below w.heap.size w w' := by
  have hby := hv.byte
  go_enter Try.func74, Try.ntmps74
  go_wp2_with fail
  refine (putBytes_any b off n cap f none 0 0 (fun _ => 0) w hv ⟨Nat.le_refl _, fun i hi => absurd hi (Nat.not_lt_zero _), fun h => absurd h (Nat.lt_irrefl _)⟩ (fun _ => ⟨rfl, rfl⟩) (by omega)).mono ?_
  rintro e w1 ⟨rfl, hown, hb1⟩
  rw [Nat.add_zero] at hown ⊢
  have hrow := row_of_owned hown
  have hR0 : Row 5 w1 w.heap.size n f := hrow.congr (fun i hi => by rw [show lof 0 (fun _ => (0 : Int)) = [] from rfl, List.append_nil, lof_get n f i hi])
  have HF : ∀ m : Nat, (∀ i : Nat, i < m → ¬ p ≤ i) → Flipped 5 w w1 w.heap.size n f p m := by
    intro m hm
    refine ⟨hR0.congr (fun i hi => ?_), hb1⟩
    by_cases e : i < m
    · rw [if_pos e, flipF, if_neg (hm i e)]
    · rw [if_neg e]
  have hF0 : Hid (p < 0 → Flipped 5 w w1 w.heap.size n f p 0) := fun _ => HF 0 (fun i hi => absurd hi (Nat.not_lt_zero _))
  have hF1 : Hid (0 ≤ p → Flipped 5 w w1 w.heap.size n f p p.toNat) := fun _ => HF p.toNat (fun i hi => by omega)
  clear hown hrow hR0 HF hv hb1
  go_wp2
  all_goals
    go_loopg [6] (n - p.toNat) (fun q i wr => ∃ k : Nat, q = n - k ∧ i = .int .i64 k ∧ (k : Int) ≤ 9223372036854775807 ∧ p ≤ k ∧ Flipped 5 w wr w.heap.size n f p k)
    case atStart => first | exact ⟨0, by omega, rfl, by omega, by omega, hF0.out (by omega)⟩ | exact ⟨p.toNat, rfl, congrArg (Value.int .i64) (by omega), by omega, by omega, hF1.out (by omega)⟩
    case round =>
      obtain ⟨k, rfl, rfl, hk63, hpk, hF⟩ := hrel
      clear hF0 hF1
      by_cases hlt : k < n
      · have hkz : (k : Int) < (n : Int) := by omega
        have hS : Hid (Flipped 5 w (wr.setCell ⟨w.heap.size, k, none⟩ (.int .u8 (255 - f k))) w.heap.size n f p (k + 1)) := flipped_turn hF (Nat.le_refl _) hpk
        have hc : wr.cell? ⟨w.heap.size, k, none⟩ = some (.int .u8 (f k)) := by rw [hF.row.cell hlt, if_neg (Nat.lt_irrefl _)]
        have hf := hF.row.frozen k
        have hx : bits .xor .u8 IntKind.u8.max (f k) = 255 - f k := u8_not _ (hby k hlt).1 (hby k hlt).2
        clear hF hby
        go_wp2
        go_roundg (n - (k + 1))
        case measure => omega
        case rel => exact ⟨k + 1, rfl, by go_num, by omega, by omega, hS.out⟩
      · have hkz : (n : Int) ≤ (k : Int) := by omega
        have hR : Hid (Row 5 wr w.heap.size n (flipF f p)) := hF.row.congr (fun i hi => by rw [if_pos (by omega)])
        have hB := hF.below
        clear hF hby
        go_wp2
        go_ret
        exact ⟨w.heap.size, n, rfl, Nat.le_refl _, Nat.le_refl _, hR.out, hB⟩
end Go.Proofs.Ytikopeihkbpjhas

