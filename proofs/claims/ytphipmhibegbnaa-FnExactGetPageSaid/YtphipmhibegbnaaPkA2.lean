/-
  Together: NumsPlain, LofEq, AtB, CrcPlain, CrcBits, CrcImpl, PutBytes, SumPlain
-/
import Derived.Test.YtphipmhibegbnaaPkA1
import Derived.WalkSpells
/-
  What was put comes back, plainly: a number of its groups, a text of its bytes; cut by one byte the number does not.
-/
namespace Go.Proofs.Ytphipmhibegbnaa
open Go.RowKit
set_option maxRecDepth 4000

theorem getD_left (l k : List Int) (i : Nat) (h : i < l.length) : (l ++ k).getD i 0 = l.getD i 0 := by
  rw [List.getD_eq_getElem?_getD, List.getD_eq_getElem?_getD, List.getElem?_append_left h]
theorem getD_right (l k : List Int) (i : Nat) : (l ++ k).getD (l.length + i) 0 = k.getD i 0 := by
  rw [List.getD_eq_getElem?_getD, List.getD_eq_getElem?_getD, List.getElem?_append_right (by omega)]
  congr 2
  omega

/-- A number that lies as its groups from n on is read there. -/
theorem getU_put (n N : Nat) (F : Nat → Int) (x : Int) (h0 : 0 ≤ x) (h1 : x ≤ 1000000) (hF : ∀ i, i < (groups x).length → F (n + i) = (groups x).getD i 0) (hN : n + (groups x).length ≤ N) :
    getU N F (n : Int) = (x, (n : Int) + (groups x).length, true) := by
  by_cases a : x < 128
  · have e : groups x = [x] := by unfold groups; rw [if_pos a]
    rw [e] at hF hN ⊢
    have f0 : F n = x := by have := hF 0 (by simp); simpa using this
    simp only [List.length_cons, List.length_nil] at hN
    rw [getU_1 N F n (by omega) (by omega), f0]
    rfl
  · by_cases b : x < 16384
    · have e : groups x = [x % 128 + 128, x / 128] := by unfold groups; rw [if_neg a, if_pos b]
      rw [e] at hF hN ⊢
      have f0 : F n = x % 128 + 128 := by have := hF 0 (by simp); simpa using this
      have f1 : F (n + 1) = x / 128 := by have := hF 1 (by simp); simpa using this
      simp only [List.length_cons, List.length_nil] at hN
      rw [getU_2 N F n (by omega) (by omega) (by omega) (by omega), f0, f1]
      have : x % 128 + 128 - 128 + x / 128 * 128 = x := by omega
      rw [this]
      rfl
    · have e : groups x = [x % 128 + 128, x / 128 % 128 + 128, x / 16384] := by unfold groups; rw [if_neg a, if_neg b]
      rw [e] at hF hN ⊢
      have f0 : F n = x % 128 + 128 := by have := hF 0 (by simp); simpa using this
      have f1 : F (n + 1) = x / 128 % 128 + 128 := by have := hF 1 (by simp); simpa using this
      have f2 : F (n + 2) = x / 16384 := by have := hF 2 (by simp); simpa using this
      simp only [List.length_cons, List.length_nil] at hN
      have v : F n - 128 + (F (n + 1) - 128) * 128 + F (n + 2) * 16384 = x := by rw [f0, f1, f2]; omega
      rw [getU_3 N F n (by omega) (by omega) (by omega) (by omega) (by omega), v]
      rfl

theorem getU_cutoff (n N : Nat) (F : Nat → Int) (x : Int) (_h0 : 0 ≤ x) (hF : ∀ i, i < (groups x).length → F (n + i) = (groups x).getD i 0) (hN : n + (groups x).length = N + 1) :
    getU N F (n : Int) = (0, 0, false) := by
  by_cases a : x < 128
  · have e : groups x = [x] := by unfold groups; rw [if_pos a]
    rw [e] at hN
    simp only [List.length_cons, List.length_nil] at hN
    exact getU_past N F n (by omega)
  · by_cases b : x < 16384
    · have e : groups x = [x % 128 + 128, x / 128] := by unfold groups; rw [if_neg a, if_pos b]
      rw [e] at hF hN
      have f0 : F n = x % 128 + 128 := by have := hF 0 (by simp); simpa using this
      simp only [List.length_cons, List.length_nil] at hN
      exact getU_2end N F n (by omega) (by omega) (by omega)
    · have e : groups x = [x % 128 + 128, x / 128 % 128 + 128, x / 16384] := by unfold groups; rw [if_neg a, if_neg b]
      rw [e] at hF hN
      have f0 : F n = x % 128 + 128 := by have := hF 0 (by simp); simpa using this
      have f1 : F (n + 1) = x / 128 % 128 + 128 := by have := hF 1 (by simp); simpa using this
      simp only [List.length_cons, List.length_nil] at hN
      exact getU_3end N F n (by omega) (by omega) (by omega) (by omega)

/-- A text that was put comes back. -/
theorem getText_put (n : Nat) (f : Nat → Int) (s : ByteArray) (hs : s.size ≤ 1000000) :
    getText (n + (groups (clampN s.size)).length + s.size) (fun i => (textL n f s).getD i 0) (n : Int) = (s, ((n + (groups (clampN s.size)).length + s.size : Nat) : Int), true) := by
  have hc : clampN s.size = s.size := by unfold clampN; rw [if_neg (by omega), if_neg (by omega)]
  rw [hc]
  have e1 : ∀ i, i < (groups s.size).length → (textL n f s).getD (n + i) 0 = (groups s.size).getD i 0 := by
    intro i hi
    unfold textL
    rw [hc, List.append_assoc]
    have := getD_right (lof n f) (groups s.size ++ sl s) i
    rw [lof_len] at this
    rw [this, getD_left _ _ _ hi]
  have hu := getU_put n (n + (groups s.size).length + s.size) (fun i => (textL n f s).getD i 0) s.size (by omega) (by omega) e1 (by omega)
  have e2 : ∀ i, (textL n f s).getD (n + (groups s.size).length + i) 0 = (sl s).getD i 0 := by
    intro i
    unfold textL
    rw [hc]
    have := getD_right (lof n f ++ groups s.size) (sl s) i
    rw [List.length_append, lof_len] at this
    exact this
  unfold getText
  rw [hu]
  have et : ((n : Int) + ((groups s.size).length : Int)).toNat = n + (groups s.size).length := by omega
  rw [if_pos ⟨rfl, by show (s.size : Int) ≤ _; push_cast; omega⟩]
  simp only [Int.toNat_natCast, et]
  have el : lof s.size (fun i => (textL n f s).getD (n + (groups s.size).length + i) 0) = sl s := by
    have h1 := lof_self (sl s)
    rw [sl_len] at h1
    rw [← h1]
    unfold lof
    apply List.map_congr_left
    intro i _
    exact e2 i
  rw [el, strOfNums_sl]
  simp only [Prod.mk.injEq, true_and, and_true]
  push_cast
  omega
end Go.Proofs.Ytphipmhibegbnaa

/-
  Lists of a function's first values are alike just where it is.
-/
namespace Go.Proofs.Ytphipmhibegbnaa
open Go.RowKit
set_option maxRecDepth 4000

theorem lof_eq {n : Nat} {f g : Nat → Int} : lof n f = lof n g ↔ ∀ i, i < n → f i = g i := by
  constructor
  · intro h i hi
    rw [← lof_get n f i hi, ← lof_get n g i hi, h]
  · intro h
    unfold lof
    apply List.map_congr_left
    intro i hi
    exact h i (List.mem_range.1 hi)
end Go.Proofs.Ytphipmhibegbnaa

/-
  What stands at a place of bytes, what is read there: numbers and texts.
-/
namespace Go.Proofs.Ytphipmhibegbnaa
open Go.RowKit
set_option maxRecDepth 4000

/-- The bytes L stand at place i of the N bytes F. -/
structure AtF (N : Nat) (F : Nat → Int) (i : Nat) (L : List Int) : Prop where
  le : i + L.length ≤ N
  at' : ∀ j, j < L.length → F (i + j) = L.getD j 0
theorem AtF.left {N : Nat} {F : Nat → Int} {i : Nat} {L K : List Int} (h : AtF N F i (L ++ K)) : AtF N F i L :=
  ⟨by have := h.le; rw [List.length_append] at this; omega, fun j hj => by rw [h.at' j (by rw [List.length_append]; omega), getD_left _ _ _ hj]⟩
theorem AtF.right {N : Nat} {F : Nat → Int} {i : Nat} {L K : List Int} (h : AtF N F i (L ++ K)) : AtF N F (i + L.length) K :=
  ⟨by have := h.le; rw [List.length_append] at this; omega, fun j hj => by rw [Nat.add_assoc, h.at' (L.length + j) (by rw [List.length_append]; omega), getD_right]⟩
theorem AtF.append {N : Nat} {F : Nat → Int} {i : Nat} {L K : List Int} (h : AtF N F i L) (k : AtF N F (i + L.length) K) : AtF N F i (L ++ K) :=
  ⟨by have := k.le; rw [List.length_append]; omega, fun j hj => by
    rw [List.length_append] at hj
    by_cases e : j < L.length
    · rw [h.at' j e, getD_left _ _ _ e]
    · obtain ⟨m, rfl⟩ : ∃ m, j = L.length + m := ⟨j - L.length, by omega⟩
      rw [← Nat.add_assoc, k.at' m (by omega), getD_right]⟩
theorem AtF.nil {N : Nat} {F : Nat → Int} {i : Nat} (h : i ≤ N) : AtF N F i [] := ⟨by simpa using h, fun j hj => absurd hj (Nat.not_lt_zero _)⟩
/-- It is these bytes. -/
theorem AtF.lof {N : Nat} {F : Nat → Int} {i : Nat} {L : List Int} (h : AtF N F i L) : lof L.length (fun j => F (i + j)) = L := by
  rw [← lof_self L]
  conv => lhs; rw [show (Go.Proofs.Ytphipmhibegbnaa.lof L.length fun i => L.getD i 0).length = L.length by rw [lof_len]]
  rw [lof_eq]
  exact fun j hj => h.at' j hj
theorem AtF.ofLof {N : Nat} {F : Nat → Int} {i : Nat} {L : List Int} (hle : i + L.length ≤ N) (h : L = Go.Proofs.Ytphipmhibegbnaa.lof L.length (fun j => F (i + j))) : AtF N F i L :=
  ⟨hle, fun j hj => by
    conv => rhs; rw [h]
    rw [lof_get _ _ _ hj]⟩

theorem getU_at {N : Nat} {F : Nat → Int} {i : Nat} {x : Int} (h0 : 0 ≤ x) (h1 : x ≤ 1000000) (h : AtF N F i (groups x)) : getU N F (i : Int) = (x, (i : Int) + ((groups x).length : Int), true) :=
  getU_put i N F x h0 h1 h.at' h.le
theorem getU_read {N : Nat} {F : Nat → Int} {p a q : Int} (hb : ∀ i, i < N → 0 ≤ F i ∧ F i ≤ 255) (h : getU N F p = (a, q, true)) : ∃ i : Nat, p = (i : Int) ∧ AtF N F i (groups a) ∧ q = (i : Int) + ((groups a).length : Int) ∧ 0 ≤ a ∧ a ≤ 1000000 := by
  obtain ⟨ha0, ha1, -, -⟩ := getU_bd hb h
  by_cases h1 : p < 0 ∨ (N : Int) ≤ p
  · unfold getU at h; rw [if_pos h1] at h; cases h
  obtain ⟨i, rfl⟩ := Int.eq_ofNat_of_zero_le (a := p) (by omega)
  have hin : i < N := by omega
  have b0 := hb i hin
  refine ⟨i, rfl, ?_⟩
  by_cases c1 : F i < 128
  · rw [getU_1 N F i hin c1] at h
    cases h
    have e : groups (F i) = [F i] := groups_last _ c1
    rw [e]
    refine ⟨⟨by simp; omega, fun j hj => ?_⟩, rfl, ha0, ha1⟩
    match j, hj with
    | 0, _ => rfl
  by_cases c2 : N ≤ i + 1
  · rw [getU_2end N F i hin (by omega) c2] at h; cases h
  have b1 := hb (i + 1) (by omega)
  by_cases c3 : F (i + 1) < 128
  · by_cases c4 : F (i + 1) = 0
    · rw [getU_2zero N F i (by omega) (by omega) c4] at h; cases h
    rw [getU_2 N F i (by omega) (by omega) c3 c4] at h
    cases h
    have e : groups (F i - 128 + F (i + 1) * 128) = [F i, F (i + 1)] := by
      unfold groups
      rw [if_neg (by omega), if_pos (by omega)]
      congr 1
      · omega
      · congr 1; omega
    rw [e]
    refine ⟨⟨by simp; omega, fun j hj => ?_⟩, rfl, ha0, ha1⟩
    match j, hj with
    | 0, _ => rfl
    | 1, _ => rfl
  by_cases c5 : N ≤ i + 2
  · rw [getU_3end N F i (by omega) (by omega) (by omega) c5] at h; cases h
  have b2 := hb (i + 2) (by omega)
  by_cases c6 : F (i + 2) < 128
  · by_cases c7 : F (i + 2) = 0 ∨ 1000000 < F i - 128 + (F (i + 1) - 128) * 128 + F (i + 2) * 16384
    · rw [getU_3no N F i (by omega) (by omega) (by omega) c6 c7] at h; cases h
    rw [getU_3 N F i (by omega) (by omega) (by omega) c6 c7] at h
    cases h
    have e : groups (F i - 128 + (F (i + 1) - 128) * 128 + F (i + 2) * 16384) = [F i, F (i + 1), F (i + 2)] := by
      unfold groups
      rw [if_neg (by omega), if_neg (by omega)]
      congr 1
      · omega
      · congr 1
        · omega
        · congr 1; omega
    rw [e]
    refine ⟨⟨by simp; omega, fun j hj => ?_⟩, rfl, ha0, ha1⟩
    match j, hj with
    | 0, _ => rfl
    | 1, _ => rfl
    | 2, _ => rfl
  · rw [getU_long N F i (by omega) (by omega) (by omega) (by omega)] at h; cases h

/-- A text as bytes. -/
def txtL (s : ByteArray) : List Int := groups s.size ++ sl s
theorem getText_at {N : Nat} {F : Nat → Int} {i : Nat} {s : ByteArray} (hs : s.size ≤ 1000000) (h : AtF N F i (txtL s)) : getText N F (i : Int) = (s, (i : Int) + ((txtL s).length : Int), true) := by
  have h1 := getU_at (x := s.size) (by omega) (by omega) h.left
  have h2 := h.right
  have hl2 := h2.le
  rw [sl_len] at hl2
  unfold getText
  rw [h1]
  simp only
  rw [if_pos ⟨trivial, by omega⟩]
  have e : (i : Int) + ((groups s.size).length : Int) = ((i + (groups (s.size : Int)).length : Nat) : Int) := by push_cast; rfl
  rw [e]
  simp only [Int.toNat_natCast]
  have e2 := h2.lof
  rw [sl_len] at e2
  rw [e2, strOfNums_sl]
  refine Prod.ext rfl (Prod.ext ?_ rfl)
  show _ = _
  unfold txtL
  rw [List.length_append, sl_len]
  push_cast
  omega
theorem getText_read {N : Nat} {F : Nat → Int} {p q : Int} {s : ByteArray} (hb : ∀ i, i < N → 0 ≤ F i ∧ F i ≤ 255) (h : getText N F p = (s, q, true)) : ∃ i : Nat, p = (i : Int) ∧ AtF N F i (txtL s) ∧ q = (i : Int) + ((txtL s).length : Int) ∧ s.size ≤ 1000000 := by
  unfold getText at h
  by_cases c : (getU N F p).2.2 = true ∧ (getU N F p).1 ≤ N - (getU N F p).2.1
  · rw [if_pos c] at h
    obtain ⟨a, q1, ok, hu⟩ : ∃ a q1 ok, getU N F p = (a, q1, ok) := ⟨_, _, _, rfl⟩
    rw [hu] at c h
    simp only at c h
    obtain ⟨rfl, hle⟩ := c
    obtain ⟨i, rfl, hA, rfl, h0, h1⟩ := getU_read hb hu
    obtain ⟨A, rfl⟩ := Int.eq_ofNat_of_zero_le h0
    have e : (i : Int) + ((groups (A : Int)).length : Int) = ((i + (groups (A : Int)).length : Nat) : Int) := by push_cast; rfl
    rw [e] at h hle
    simp only [Int.toNat_natCast, Prod.mk.injEq, and_true] at h
    obtain ⟨hs, hq⟩ := h
    have hbl : ∀ y ∈ Go.Proofs.Ytphipmhibegbnaa.lof A (fun j => F (i + (groups (A : Int)).length + j)), 0 ≤ y ∧ y ≤ 255 := by
      intro y hy
      obtain ⟨j, hj, rfl⟩ := List.mem_map.1 hy
      exact hb _ (by have := List.mem_range.1 hj; omega)
    have hsl : sl s = Go.Proofs.Ytphipmhibegbnaa.lof A (fun j => F (i + (groups (A : Int)).length + j)) := by
      rw [← hs]; exact sl_strOfNums hbl
    have hsz : s.size = A := by rw [← sl_len, hsl, lof_len]
    refine ⟨i, rfl, ?_, ?_, by omega⟩
    · unfold txtL
      rw [hsz]
      refine hA.append ⟨by rw [sl_len, hsz]; omega, fun j hj => ?_⟩
      rw [sl_len, hsz] at hj
      rw [hsl, lof_get _ _ _ hj]
    · rw [← hq]
      unfold txtL
      rw [List.length_append, sl_len, hsz]
      push_cast
      omega
  · rw [if_neg c] at h
    simp at h
end Go.Proofs.Ytphipmhibegbnaa

/-
  The sum of bytes, plainly; that it stays below 2^32; that one byte turned turns it.
-/
namespace Go.Proofs.Ytphipmhibegbnaa

def crcBit (x : Nat) : Nat := if x % 2 = 1 then x / 2 ^^^ 2197175160 else x / 2
def crcBits : Nat → Nat → Nat
  | 0, x => x
  | k + 1, x => crcBit (crcBits k x)
def crcTo (f : Nat → Int) : Nat → Nat
  | 0 => 4294967295
  | k + 1 => crcBits 8 (crcTo f k ^^^ (f k).toNat)
def crc (n : Nat) (f : Nat → Int) : Nat := crcTo f n ^^^ 4294967295

theorem crcBit_lt {x : Nat} (h : x < 4294967296) : crcBit x < 4294967296 := by
  unfold crcBit
  split
  · exact Nat.xor_lt_two_pow (n := 32) (by omega) (by decide)
  · omega
theorem crcBits_lt {k x : Nat} (h : x < 4294967296) : crcBits k x < 4294967296 := by
  induction k with
  | zero => exact h
  | succ k ih => exact crcBit_lt ih
theorem xorByte_lt {x : Nat} {b : Int} (h : x < 4294967296) (h0 : 0 ≤ b ∧ b ≤ 255) : x ^^^ b.toNat < 4294967296 :=
  Nat.xor_lt_two_pow (n := 32) h (by omega)
theorem crcTo_lt {f : Nat → Int} {k : Nat} (h : ∀ i, i < k → 0 ≤ f i ∧ f i ≤ 255) : crcTo f k < 4294967296 := by
  induction k with
  | zero => show 4294967295 < 4294967296; decide
  | succ k ih => exact crcBits_lt (xorByte_lt (ih fun i hi => h i (by omega)) (h k (by omega)))
theorem crc_lt {f : Nat → Int} {n : Nat} (h : ∀ i, i < n → 0 ≤ f i ∧ f i ≤ 255) : crc n f < 4294967296 :=
  Nat.xor_lt_two_pow (n := 32) (crcTo_lt h) (by decide)

theorem xor_cancel {a b c : Nat} (h : a ^^^ c = b ^^^ c) : a = b := by
  have := congrArg (· ^^^ c) h
  simpa [Nat.xor_assoc] using this

theorem crcBit_inj {x y : Nat} (hx : x < 4294967296) (hy : y < 4294967296) (h : crcBit x = crcBit y) : x = y := by
  have t : ∀ z, z < 4294967296 → (crcBit z).testBit 31 = decide (z % 2 = 1) := by
    intro z hz
    have hz2 : (z / 2).testBit 31 = false := Nat.testBit_lt_two_pow (by omega)
    unfold crcBit
    by_cases e : z % 2 = 1
    · rw [if_pos e, Nat.testBit_xor, hz2]; simp [e]; decide
    · rw [if_neg e, hz2]; simp [e]
  have tx := t x hx
  have ty := t y hy
  rw [h, ty] at tx
  have par : (y % 2 = 1) ↔ (x % 2 = 1) := by simpa using tx
  unfold crcBit at h
  by_cases e : x % 2 = 1
  · rw [if_pos e, if_pos (par.2 e)] at h
    have := xor_cancel h
    have := par.2 e
    omega
  · rw [if_neg e, if_neg (fun k => e (par.1 k))] at h
    have : ¬ y % 2 = 1 := fun k => e (par.1 k)
    omega

theorem crcBits_inj {k x y : Nat} (hx : x < 4294967296) (hy : y < 4294967296) (h : crcBits k x = crcBits k y) : x = y := by
  induction k with
  | zero => exact h
  | succ k ih => exact ih (crcBit_inj (crcBits_lt hx) (crcBits_lt hy) h)

theorem crcTo_congr {f g : Nat → Int} {k : Nat} (h : ∀ i, i < k → f i = g i) : crcTo f k = crcTo g k := by
  induction k with
  | zero => rfl
  | succ k ih => show crcBits 8 _ = crcBits 8 _; rw [ih fun i hi => h i (by omega), h k (by omega)]
theorem crc_congr {f g : Nat → Int} {n : Nat} (h : ∀ i, i < n → f i = g i) : crc n f = crc n g := by unfold crc; rw [crcTo_congr h]

/-- Where two rows of bytes part at one place alone, their sums part. -/
theorem crcTo_parts {f g : Nat → Int} {n j : Nat} (hf : ∀ i, i < n → 0 ≤ f i ∧ f i ≤ 255) (hg : ∀ i, i < n → 0 ≤ g i ∧ g i ≤ 255) (hj : j < n) (hne : f j ≠ g j) (hs : ∀ i, i < n → i ≠ j → f i = g i) : crcTo f n ≠ crcTo g n := by
  induction n with
  | zero => omega
  | succ n ih =>
    intro e
    have e' : crcTo f n ^^^ (f n).toNat = crcTo g n ^^^ (g n).toNat :=
      crcBits_inj (k := 8) (xorByte_lt (crcTo_lt fun i hi => hf i (by omega)) (hf n (by omega))) (xorByte_lt (crcTo_lt fun i hi => hg i (by omega)) (hg n (by omega))) e
    by_cases hjn : j = n
    · subst hjn
      rw [crcTo_congr (g := g) fun i hi => hs i (by omega) (by omega), Nat.xor_comm, Nat.xor_comm (crcTo g j)] at e'
      have := xor_cancel e'
      have a := hf j (by omega)
      have b := hg j (by omega)
      omega
    · rw [hs n (by omega) (by omega)] at e'
      exact ih (fun i hi => hf i (by omega)) (fun i hi => hg i (by omega)) (by omega) (fun i hi => hs i (by omega)) (xor_cancel e')

theorem crc_parts {f g : Nat → Int} {n j : Nat} (hf : ∀ i, i < n → 0 ≤ f i ∧ f i ≤ 255) (hg : ∀ i, i < n → 0 ≤ g i ∧ g i ≤ 255) (hj : j < n) (hne : f j ≠ g j) (hs : ∀ i, i < n → i ≠ j → f i = g i) : crc n f ≠ crc n g :=
  fun e => crcTo_parts hf hg hj hne hs (xor_cancel e)

end Go.Proofs.Ytphipmhibegbnaa

/-
  Plain facts on the sum, in the forms in which the walks meet them.
-/
namespace Go.Proofs.Ytphipmhibegbnaa
open Go.RowKit
set_option maxRecDepth 4000

theorem u32_one (y : Nat) (h : y < 4294967296) : bits .and .u32 (y : Int) 1 = ((y % 2 : Nat) : Int) := by
  have := u32_and_nat y 1 h (by decide)
  rw [nat_mask1] at this; exact this
theorem u32_turn (y : Nat) (h : y < 4294967296) : bits .xor .u32 ((y : Int) / 2) 2197175160 = ((y / 2 ^^^ 2197175160 : Nat) : Int) := by
  have := u32_xor_nat (y / 2) 2197175160 (by omega) (by decide)
  rw [← this]; rfl
theorem i64_turn (y : Nat) (h : y < 4294967296) : bits .xor .i64 ((y : Int) / 2) 2197175160 = ((y / 2 ^^^ 2197175160 : Nat) : Int) := by
  have := i64_xor_nat (y / 2) 2197175160 (by omega) (by decide)
  rw [← this]; rfl
theorem i64_last (y : Nat) (h : y < 4294967296) : bits .xor .i64 (y : Int) 4294967295 = ((y ^^^ 4294967295 : Nat) : Int) := i64_xor_nat y 4294967295 (by omega) (by decide)
theorem u32_last (y : Nat) (h : y < 4294967296) : bits .xor .u32 IntKind.u32.max (y : Int) = ((y ^^^ 4294967295 : Nat) : Int) := by
  have e : IntKind.u32.max = ((4294967295 : Nat) : Int) := by simp [IntKind.max, IntKind.signed, IntKind.bits]
  rw [Nat.xor_comm, e]; exact u32_xor_nat 4294967295 y (by decide) h
theorem i64_in (y : Nat) (b : Int) (h : y < 4294967296) (h0 : 0 ≤ b ∧ b ≤ 255) : bits .xor .i64 (y : Int) b = ((y ^^^ b.toNat : Nat) : Int) := by
  obtain ⟨c, rfl⟩ := Int.eq_ofNat_of_zero_le h0.1
  rw [Int.toNat_natCast]; exact i64_xor_nat y c (by omega) (by omega)
theorem u32_in (y : Nat) (b : Int) (h : y < 4294967296) (h0 : 0 ≤ b ∧ b ≤ 255) : bits .xor .u32 (y : Int) b = ((y ^^^ b.toNat : Nat) : Int) := by
  obtain ⟨c, rfl⟩ := Int.eq_ofNat_of_zero_le h0.1
  rw [Int.toNat_natCast]; exact u32_xor_nat y c (by omega) (by omega)
theorem crcBit_odd (y : Nat) (h : y % 2 = 1) : crcBit y = y / 2 ^^^ 2197175160 := by unfold crcBit; rw [if_pos h]
theorem crcBit_even (y : Nat) (h : ¬ y % 2 = 1) : crcBit y = y / 2 := by unfold crcBit; rw [if_neg h]

theorem retInt {k : IntKind} {a b : Int} (h : a = b) : Ending.returned (.int k a) = .returned (.int k b) := by rw [h]

end Go.Proofs.Ytphipmhibegbnaa

/-
  The program's Crc comes to the plain sum, at every slice of bytes that reads.
-/
namespace Go.Proofs.Ytphipmhibegbnaa
open Go.RowKit
set_option maxRecDepth 4000

set_option maxHeartbeats 1000000 in
theorem crcStep_any (x : Nat) (w : World) (hx : x < 4294967296) :
    Calls Try.prog 94 #[.int .u32 (x : Int)] w fun e w' => e = .returned (.int .u32 ((crcBits 8 x : Nat) : Int)) ∧ w = w' := by
  go_enter Try.func94, Try.ntmps94
  go_wp2
  go_loopg [0, 4] 8 (fun g s i wr => w = wr ∧ ∃ k y : Nat, k ≤ 8 ∧ g = 8 - k ∧ s = .int .u32 (y : Int) ∧ i = .int .i64 k ∧ y < 4294967296 ∧ y = crcBits k x)
  case atStart => exact ⟨rfl, 0, x, by omega, rfl, rfl, rfl, hx, rfl⟩
  case round =>
    obtain ⟨rfl, k, y, hk, rfl, rfl, rfl, hy, hyk⟩ := hrel
    have HY : Hid (y = crcBits k x) := hyk
    clear hyk
    by_cases hlt : k < 8
    · have hkz : (k : Int) < 8 := by omega
      by_cases hodd : y % 2 = 1
      · have q1 : bits .and .u32 (y : Int) 1 = 1 := by rw [u32_one y hy, hodd]; rfl
        have q2 := u32_turn y hy
        have HO : Hid (y % 2 = 1) := hodd
        clear hodd
        go_wp2
        go_roundg (8 - (k + 1))
        case measure => omega
        case rel => exact ⟨rfl, k + 1, y / 2 ^^^ 2197175160, by omega, rfl, rfl, by go_num, Nat.xor_lt_two_pow (n := 32) (by omega) (by decide), by rw [← crcBit_odd y HO.out, HY.out]; rfl⟩
      · have q1 : bits .and .u32 (y : Int) 1 = 0 := by rw [u32_one y hy, show y % 2 = 0 by omega]; rfl
        have HO : Hid (¬ y % 2 = 1) := hodd
        clear hodd
        go_wp2
        go_roundg (8 - (k + 1))
        case measure => omega
        case rel => exact ⟨rfl, k + 1, y / 2, by omega, rfl, by go_num, by go_num, by omega, by rw [← crcBit_even y HO.out, HY.out]; rfl⟩
    · obtain rfl : k = 8 := by omega
      go_wp2
      go_ret
      exact ⟨retInt (congrArg Int.ofNat HY.out), rfl⟩

set_option maxHeartbeats 1000000 in
theorem crc_impl (ao : Option Addr) (n cap : Nat) (f : Nat → Int) (w : World) (hv : View w ao n cap f) (hn : n ≤ 281474976710656) :
    Calls Try.prog 91 #[.slice ao n cap] w fun e w' => e = .returned (.int .i64 ((crc n f : Nat) : Int)) ∧ w = w' := by
  go_enter Try.func91, Try.ntmps91
  go_wp2
  go_loopg [3, 8] n (fun g s i wr => w = wr ∧ ∃ k y : Nat, k ≤ n ∧ g = n - k ∧ s = .int .u32 (y : Int) ∧ i = .int .i64 k ∧ y < 4294967296 ∧ y = crcTo f k)
  case atStart => exact ⟨rfl, 0, 4294967295, by omega, rfl, rfl, rfl, by decide, rfl⟩
  case round =>
    obtain ⟨rfl, k, y, hk, rfl, rfl, rfl, hy, hyk⟩ := hrel
    have HY : Hid (y = crcTo f k) := hyk
    clear hyk
    by_cases hlt : k < n
    · obtain ⟨b, off, rfl, hb, hc⟩ := hv.cells (by omega)
      have hkz : (k : Int) < (n : Int) := by omega
      have hc1 := hc k hlt
      have hbk := hv.byte k hlt
      have q1 := u32_in y (f k) hy hbk
      have hlt2 := xorByte_lt hy hbk
      obtain ⟨hbk0, hbk1⟩ := hbk
      clear hc
      go_wp2_with fail
      refine (crcStep_any _ _ hlt2).mono ?_
      rintro e _ ⟨rfl, rfl⟩
      go_wp2
      go_roundg (n - (k + 1))
      case measure => omega
      case rel => exact ⟨rfl, k + 1, crcBits 8 (y ^^^ (f k).toNat), by omega, rfl, rfl, by go_num, crcBits_lt hlt2, by rw [HY.out]; rfl⟩
    · obtain rfl : k = n := by omega
      have q1 := u32_last y hy
      have q2 : y ^^^ 4294967295 < 4294967296 := Nat.xor_lt_two_pow (n := 32) hy (by decide)
      have q3 : wrap64 ((y ^^^ 4294967295 : Nat) : Int) = ((y ^^^ 4294967295 : Nat) : Int) := by
        generalize y ^^^ 4294967295 = z at q2
        exact IntWalk.wrap64_in _ ⟨by omega, by omega⟩
      go_wp2
      go_ret
      exact ⟨retInt (congrArg (fun z : Nat => ((z ^^^ 4294967295 : Nat) : Int)) HY.out), rfl⟩

theorem crc_impl' {c : Nat} (ao : Option Addr) (n cap : Nat) (f : Nat → Int) (w : World) (hg : Hid (crc n f = c)) (hv : View w ao n cap f) (hn : n ≤ 281474976710656) :
    Calls Try.prog 91 #[.slice ao n cap] w fun e w' => e = .returned (.int .i64 (c : Int)) ∧ w = w' := by
  have h := crc_impl ao n cap f w hv hn
  rw [hg.out] at h; exact h
end Go.Proofs.Ytphipmhibegbnaa

/-
  The program's putBytes: both slices of bytes, one behind the other, in one new row that holds just them.
-/
namespace Go.Proofs.Ytphipmhibegbnaa
open Go.RowKit
set_option maxRecDepth 4000

theorem cells_of_any {w : World} {ao : Option Addr} {n cap : Nat} {f : Nat → Int} (h : View w ao n cap f) : ∀ ad, ao = some ad → ∀ j u, (bl (lof n f))[j]? = some u → w.cell? (ad.add j) = some u := by
  rintro ad rfl j u hu
  have hj : j < n := by
    by_cases hj : j < n
    · exact hj
    · rw [List.getElem?_eq_none (by rw [bl_len, lof_len]; omega)] at hu; cases hu
  obtain ⟨b', off', e, _, _⟩ := h.cells (by omega)
  simp only [Option.some.injEq] at e
  subst e
  exact cells_of_view h j u hu

theorem below_new {w w1 : World} (h : w.grownBy w1 none) : Below w.heap.size w w1 := (Below.refl _ _).grown h (Nat.le_refl _) (by intro k hk; cases hk)
theorem below_app {w w1 w2 : World} (h : w.grownBy w1 none) (h2 : w1.grownBy w2 (some w.heap.size)) : Below w.heap.size w w2 :=
  (below_new h).grown h2 h.size (by intro k hk; cases hk; exact Nat.le_refl _)

set_option maxHeartbeats 1000000 in
theorem putBytes_any (b off n cap : Nat) (f : Nat → Int) (ao : Option Addr) (m c : Nat) (g : Nat → Int) (w : World) (hv : View w (some ⟨b, off, none⟩) n cap f) (hg : View w ao m c g) (hno : ao = none → m = 0 ∧ c = 0) (hn : n + m ≤ 70368744177664) :
    Calls Try.prog 39 #[.slice (some ⟨b, off, none⟩) n cap, .slice ao m c] w fun e w' => e = .returned (.slice (some ⟨w.heap.size, 0, none⟩) (n + m) (n + m)) ∧ w'.ownsRow w.heap.size 5 1 (.slice (some ⟨w.heap.size, 0, none⟩) (n + m) (n + m)) (n + m) (bl (lof n f ++ lof m g)) ∧ Below w.heap.size w w' := by
  obtain ⟨i0, hi, hz0, hz1, hz2⟩ := info_parts Try.info5
  go_enter Try.func39, Try.ntmps39
  go_wp2_with (first | (at_make; go_must (refine wpList_make_own _ rfl (.const (.int .i64 0)) (.tmp 10) 28 rfl w.heap.size 5 i0 (.int .u8 0) 1 Try.underlying28 hi hz0 hz1 .i64 .i64 ((n : Int) + (m : Int)) (n + m) rfl rfl (by omega) (by rw [hz2]; omega) (by unfold maxLen; omega) (Nat.le_refl _) ?_); intro w1 hown1 hgr1) | (at_builtin; refine wpList_append_fits_any _ rfl (.tmp 12) (.tmp 13) 28 rfl w.heap.size 5 i0 1 Try.underlying28 hi hz1 w.heap.size 0 (n + m) [] rfl hown1 (some ⟨b, off, none⟩) n cap (bl (lof n f)) rfl (by rw [bl_len, lof_len]; omega) (by intro h; cases h) (cells_of_any (hv.below (below_new hgr1))) (bl_one _) (by omega) ?_; intro w2 hown2 hgr2; simp only [Nat.zero_add, List.nil_append] at hown2) | (at_builtin; refine wpList_append_fits_any _ rfl (.tmp 15) (.tmp 16) 28 rfl w.heap.size 5 i0 1 Try.underlying28 hi hz1 w.heap.size n (n + m) (bl (lof n f)) rfl hown2 ao m c (bl (lof m g)) rfl (by rw [bl_len, lof_len]; omega) hno (cells_of_any (hg.below (below_app hgr1 hgr2))) (bl_one _) (by omega) ?_; intro w3 hown3 hgr3))
  go_ret
  exact ⟨rfl, by rw [bl_append]; exact hown3, (below_app hgr1 hgr2).grown hgr3 (Nat.le_trans hgr1.size hgr2.size) (by intro k hk; cases hk; exact Nat.le_refl _)⟩
end Go.Proofs.Ytphipmhibegbnaa

/-
  The four bytes of a sum; new rows of bytes.
-/
namespace Go.Proofs.Ytphipmhibegbnaa
open Go.RowKit
set_option maxRecDepth 4000

def sumL (c : Nat) : List Int := [(c : Int) / 16777216 % 256, (c : Int) / 65536 % 256, (c : Int) / 256 % 256, (c : Int) % 256]
theorem sumL_len (c : Nat) : (sumL c).length = 4 := rfl
theorem sumL_byte (c : Nat) : ∀ y ∈ sumL c, 0 ≤ y ∧ y ≤ 255 := by
  intro y hy
  simp only [sumL, List.mem_cons, List.not_mem_nil, or_false] at hy
  rcases hy with rfl | rfl | rfl | rfl <;> omega

theorem lof_sumL (c : Nat) : lof 4 (fun i => (sumL c).getD i 0) = sumL c := lof_self (sumL c)

/-- New cells. -/
theorem cellNews (w : World) (l : List Value) (t : TypeId) : ∀ j u, l[j]? = some u → (w.alloc (.cells l.toArray t)).cell? ((⟨w.heap.size, 0, none⟩ : Addr).add j) = some u := by
  intro j u hj
  have e : (⟨w.heap.size, 0, none⟩ : Addr).add j = ⟨w.heap.size, j, none⟩ := by unfold Addr.add; split <;> simp_all
  rw [e]
  simp [hj]

theorem newRow (w : World) (l : List Int) (t : TypeId) : Row t (w.alloc (.cells (l.map (Value.int .u8)).toArray t)) w.heap.size l.length (fun i => l.getD i 0) :=
  Row.ofIs ⟨_, Deep.blk_alloc_new _ _, by simp, fun i hi => by simp [hi]⟩

theorem bytes_of_list {l : List Int} (h : ∀ y ∈ l, 0 ≤ y ∧ y ≤ 255) : ∀ i, i < l.length → 0 ≤ l.getD i 0 ∧ l.getD i 0 ≤ 255 := by
  intro i hi
  have := h _ (List.getElem_mem hi)
  simpa [hi] using this

end Go.Proofs.Ytphipmhibegbnaa

