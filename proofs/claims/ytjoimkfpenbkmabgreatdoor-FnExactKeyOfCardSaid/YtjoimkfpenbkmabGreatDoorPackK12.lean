/-
  Together: RowB, CrcPlain, SumPlain, RowBytes, ValBox, ValGrow, KeyPlain11, CarKey11, TokName
-/
import Derived.Test.YtjoimkfpenbkmabGreatDoorPackK10
import Derived.Test.YtjoimkfpenbkmabGreatDoorPackK11
import Derived.Test.YtjoimkfpenbkmabGreatDoorPackK1
import Derived.Test.YtjoimkfpenbkmabGreatDoorPackK5
import Derived.Test.YtjoimkfpenbkmabGreatDoorPackK7
import Derived.Test.YtjoimkfpenbkmabGreatDoorPackK9
import Derived.Test.YtjoimkfpenbkmabGreatDoorPackK6
import Derived.Test.YtjoimkfpenbkmabGreatDoorProg
import Derived.WalkMore
import Derived.Deep.LoopGhost
/-
  Rows as bytes, plainly: what stands at a place, what is read there.
-/
namespace Go.Proofs.YtjoimkfpenbkmabGreatDoor
open Go.RowKit
set_option maxRecDepth 4000

/-- The bytes L stand at place i of the N bytes F. -/
structure AtF (N : Nat) (F : Nat → Int) (i : Nat) (L : List Int) : Prop where
  le : i + L.length ≤ N
  at' : ∀ j, j < L.length → F (i + j) = L.getD j 0
theorem AtF.left {N : Nat} {F : Nat → Int} {i : Nat} {L K : List Int} (h : AtF N F i (L ++ K)) : AtF N F i L :=
  ⟨by have := h.le; rw [List.length_append] at this; omega, fun j hj => by rw [h.at' j (by rw [List.length_append]; omega), getD_left _ _ _ hj]⟩
theorem AtF.right {N : Nat} {F : Nat → Int} {i : Nat} {L K : List Int} (h : AtF N F i (L ++ K)) : AtF N F (i + L.length) K :=
  ⟨by have := h.le; rw [List.length_append] at this; omega, fun j hj => by rw [Nat.add_assoc, h.at' (L.length + j) (by rw [List.length_append]; omega), getD_right]⟩
theorem AtF.append {N : Nat} {F : Nat → Int} {i : Nat} {L K : List Int} (h : AtF N F i L) (k : AtF N F (i + L.length) K) : AtF N F i (L ++ K) :=
  ⟨by have := k.le; rw [List.length_append]; omega, fun j hj => by
    rw [List.length_append] at hj
    by_cases e : j < L.length
    · rw [h.at' j e, getD_left _ _ _ e]
    · obtain ⟨m, rfl⟩ : ∃ m, j = L.length + m := ⟨j - L.length, by omega⟩
      rw [← Nat.add_assoc, k.at' m (by omega), getD_right]⟩
theorem AtF.nil {N : Nat} {F : Nat → Int} {i : Nat} (h : i ≤ N) : AtF N F i [] := ⟨by simpa using h, fun j hj => absurd hj (Nat.not_lt_zero _)⟩
/-- It is these bytes. -/
theorem AtF.lof {N : Nat} {F : Nat → Int} {i : Nat} {L : List Int} (h : AtF N F i L) : lof L.length (fun j => F (i + j)) = L := by
  rw [← lof_self L]
  conv => lhs; rw [show (Go.Proofs.YtjoimkfpenbkmabGreatDoor.lof L.length fun i => L.getD i 0).length = L.length by rw [lof_len]]
  rw [lof_eq]
  exact fun j hj => h.at' j hj
theorem AtF.ofLof {N : Nat} {F : Nat → Int} {i : Nat} {L : List Int} (hle : i + L.length ≤ N) (h : L = Go.Proofs.YtjoimkfpenbkmabGreatDoor.lof L.length (fun j => F (i + j))) : AtF N F i L :=
  ⟨hle, fun j hj => by
    conv => rhs; rw [h]
    rw [lof_get _ _ _ hj]⟩

theorem getU_at {N : Nat} {F : Nat → Int} {i : Nat} {x : Int} (h0 : 0 ≤ x) (h1 : x ≤ 1000000) (h : AtF N F i (groups x)) : getU N F (i : Int) = (x, (i : Int) + ((groups x).length : Int), true) :=
  getU_put i N F x h0 h1 h.at' h.le
theorem getU_read {N : Nat} {F : Nat → Int} {p a q : Int} (hb : ∀ i, i < N → 0 ≤ F i ∧ F i ≤ 255) (h : getU N F p = (a, q, true)) : ∃ i : Nat, p = (i : Int) ∧ AtF N F i (groups a) ∧ q = (i : Int) + ((groups a).length : Int) ∧ 0 ≤ a ∧ a ≤ 1000000 := by
  obtain ⟨ha0, ha1, -, -⟩ := getU_bd hb h
  by_cases h1 : p < 0 ∨ (N : Int) ≤ p
  · unfold getU at h; rw [if_pos h1] at h; cases h
  obtain ⟨i, rfl⟩ := Int.eq_ofNat_of_zero_le (a := p) (by omega)
  have hin : i < N := by omega
  have b0 := hb i hin
  refine ⟨i, rfl, ?_⟩
  by_cases c1 : F i < 128
  · rw [getU_1 N F i hin c1] at h
    cases h
    have e : groups (F i) = [F i] := groups_last _ c1
    rw [e]
    refine ⟨⟨by simp; omega, fun j hj => ?_⟩, rfl, ha0, ha1⟩
    match j, hj with
    | 0, _ => rfl
  by_cases c2 : N ≤ i + 1
  · rw [getU_2end N F i hin (by omega) c2] at h; cases h
  have b1 := hb (i + 1) (by omega)
  by_cases c3 : F (i + 1) < 128
  · by_cases c4 : F (i + 1) = 0
    · rw [getU_2zero N F i (by omega) (by omega) c4] at h; cases h
    rw [getU_2 N F i (by omega) (by omega) c3 c4] at h
    cases h
    have e : groups (F i - 128 + F (i + 1) * 128) = [F i, F (i + 1)] := by
      unfold groups
      rw [if_neg (by omega), if_pos (by omega)]
      congr 1
      · omega
      · congr 1; omega
    rw [e]
    refine ⟨⟨by simp; omega, fun j hj => ?_⟩, rfl, ha0, ha1⟩
    match j, hj with
    | 0, _ => rfl
    | 1, _ => rfl
  by_cases c5 : N ≤ i + 2
  · rw [getU_3end N F i (by omega) (by omega) (by omega) c5] at h; cases h
  have b2 := hb (i + 2) (by omega)
  by_cases c6 : F (i + 2) < 128
  · by_cases c7 : F (i + 2) = 0 ∨ 1000000 < F i - 128 + (F (i + 1) - 128) * 128 + F (i + 2) * 16384
    · rw [getU_3no N F i (by omega) (by omega) (by omega) c6 c7] at h; cases h
    rw [getU_3 N F i (by omega) (by omega) (by omega) c6 c7] at h
    cases h
    have e : groups (F i - 128 + (F (i + 1) - 128) * 128 + F (i + 2) * 16384) = [F i, F (i + 1), F (i + 2)] := by
      unfold groups
      rw [if_neg (by omega), if_neg (by omega)]
      congr 1
      · omega
      · congr 1
        · omega
        · congr 1; omega
    rw [e]
    refine ⟨⟨by simp; omega, fun j hj => ?_⟩, rfl, ha0, ha1⟩
    match j, hj with
    | 0, _ => rfl
    | 1, _ => rfl
    | 2, _ => rfl
  · rw [getU_long N F i (by omega) (by omega) (by omega) (by omega)] at h; cases h

theorem getV_at {N : Nat} {F : Nat → Int} {i : Nat} {x : Int} (h0 : -1000000000000000 ≤ x) (h1 : x ≤ 1000000000000000) (h : AtF N F i (varL x)) : getV N F (i : Int) = (x, (i : Int) + ((varL x).length : Int), true) := by
  have hc : clampV x = x := by unfold clampV; rw [if_neg (by omega), if_neg (by omega)]
  have e := getV_put (Go.Proofs.YtjoimkfpenbkmabGreatDoor.lof i F) i x (lof_len i F)
  rw [hc] at e
  refine getV_more (N := i + (varL x).length) h.le (fun j hj => ?_) e
  by_cases ej : j < i
  · rw [getD_left _ _ _ (by rw [lof_len]; exact ej), lof_get _ _ _ ej]
  · obtain ⟨m, rfl⟩ : ∃ m, j = i + m := ⟨j - i, by omega⟩
    have := getD_right (Go.Proofs.YtjoimkfpenbkmabGreatDoor.lof i F) (varL x) m
    rw [lof_len] at this
    rw [this, h.at' m (by omega)]
theorem getV_read {N : Nat} {F : Nat → Int} {p a q : Int} (hb : ∀ i, i < N → 0 ≤ F i ∧ F i ≤ 255) (h : getV N F p = (a, q, true)) : ∃ i : Nat, p = (i : Int) ∧ AtF N F i (varL a) ∧ q = (i : Int) + ((varL a).length : Int) ∧ -1000000000000000 ≤ a ∧ a ≤ 1000000000000000 := by
  obtain ⟨i, rfl, hq, hle, h0, h1, e⟩ := var_read hb h
  exact ⟨i, rfl, AtF.ofLof hle e, hq, h0, h1⟩

/-- A text as bytes. -/
def txtL (s : ByteArray) : List Int := groups s.size ++ sl s
theorem getText_at {N : Nat} {F : Nat → Int} {i : Nat} {s : ByteArray} (hs : s.size ≤ 1000000) (h : AtF N F i (txtL s)) : getText N F (i : Int) = (s, (i : Int) + ((txtL s).length : Int), true) := by
  have h1 := getU_at (x := s.size) (by omega) (by omega) h.left
  have h2 := h.right
  have hl2 := h2.le
  rw [sl_len] at hl2
  unfold getText
  rw [h1]
  simp only
  rw [if_pos ⟨trivial, by omega⟩]
  have e : (i : Int) + ((groups s.size).length : Int) = ((i + (groups (s.size : Int)).length : Nat) : Int) := by push_cast; rfl
  rw [e]
  simp only [Int.toNat_natCast]
  have e2 := h2.lof
  rw [sl_len] at e2
  rw [e2, strOfNums_sl]
  refine Prod.ext rfl (Prod.ext ?_ rfl)
  show _ = _
  unfold txtL
  rw [List.length_append, sl_len]
  push_cast
  omega
theorem getText_read {N : Nat} {F : Nat → Int} {p q : Int} {s : ByteArray} (hb : ∀ i, i < N → 0 ≤ F i ∧ F i ≤ 255) (h : getText N F p = (s, q, true)) : ∃ i : Nat, p = (i : Int) ∧ AtF N F i (txtL s) ∧ q = (i : Int) + ((txtL s).length : Int) ∧ s.size ≤ 1000000 := by
  unfold getText at h
  by_cases c : (getU N F p).2.2 = true ∧ (getU N F p).1 ≤ N - (getU N F p).2.1
  · rw [if_pos c] at h
    obtain ⟨a, q1, ok, hu⟩ : ∃ a q1 ok, getU N F p = (a, q1, ok) := ⟨_, _, _, rfl⟩
    rw [hu] at c h
    simp only at c h
    obtain ⟨rfl, hle⟩ := c
    obtain ⟨i, rfl, hA, rfl, h0, h1⟩ := getU_read hb hu
    obtain ⟨A, rfl⟩ := Int.eq_ofNat_of_zero_le h0
    have e : (i : Int) + ((groups (A : Int)).length : Int) = ((i + (groups (A : Int)).length : Nat) : Int) := by push_cast; rfl
    rw [e] at h hle
    simp only [Int.toNat_natCast, Prod.mk.injEq, and_true] at h
    obtain ⟨hs, hq⟩ := h
    have hbl : ∀ y ∈ Go.Proofs.YtjoimkfpenbkmabGreatDoor.lof A (fun j => F (i + (groups (A : Int)).length + j)), 0 ≤ y ∧ y ≤ 255 := by
      intro y hy
      obtain ⟨j, hj, rfl⟩ := List.mem_map.1 hy
      exact hb _ (by have := List.mem_range.1 hj; omega)
    have hsl : sl s = Go.Proofs.YtjoimkfpenbkmabGreatDoor.lof A (fun j => F (i + (groups (A : Int)).length + j)) := by
      rw [← hs]; exact sl_strOfNums hbl
    have hsz : s.size = A := by rw [← sl_len, hsl, lof_len]
    refine ⟨i, rfl, ?_, ?_, by omega⟩
    · unfold txtL
      rw [hsz]
      refine hA.append ⟨by rw [sl_len, hsz]; omega, fun j hj => ?_⟩
      rw [sl_len, hsz] at hj
      rw [hsl, lof_get _ _ _ hj]
    · rw [← hq]
      unfold txtL
      rw [List.length_append, sl_len, hsz]
      push_cast
      omega
  · rw [if_neg c] at h
    simp at h
end Go.Proofs.YtjoimkfpenbkmabGreatDoor

/-
  The sum of bytes, plainly; that it stays below 2^32; that one byte turned turns it.
-/
namespace Go.Proofs.YtjoimkfpenbkmabGreatDoor

def crcBit (x : Nat) : Nat := if x % 2 = 1 then x / 2 ^^^ 2197175160 else x / 2
def crcBits : Nat → Nat → Nat
  | 0, x => x
  | k + 1, x => crcBit (crcBits k x)
def crcTo (f : Nat → Int) : Nat → Nat
  | 0 => 4294967295
  | k + 1 => crcBits 8 (crcTo f k ^^^ (f k).toNat)
def crc (n : Nat) (f : Nat → Int) : Nat := crcTo f n ^^^ 4294967295

theorem crcBit_lt {x : Nat} (h : x < 4294967296) : crcBit x < 4294967296 := by
  unfold crcBit
  split
  · exact Nat.xor_lt_two_pow (n := 32) (by omega) (by decide)
  · omega
theorem crcBits_lt {k x : Nat} (h : x < 4294967296) : crcBits k x < 4294967296 := by
  induction k with
  | zero => exact h
  | succ k ih => exact crcBit_lt ih
theorem xorByte_lt {x : Nat} {b : Int} (h : x < 4294967296) (h0 : 0 ≤ b ∧ b ≤ 255) : x ^^^ b.toNat < 4294967296 :=
  Nat.xor_lt_two_pow (n := 32) h (by omega)
theorem crcTo_lt {f : Nat → Int} {k : Nat} (h : ∀ i, i < k → 0 ≤ f i ∧ f i ≤ 255) : crcTo f k < 4294967296 := by
  induction k with
  | zero => show 4294967295 < 4294967296; decide
  | succ k ih => exact crcBits_lt (xorByte_lt (ih fun i hi => h i (by omega)) (h k (by omega)))
theorem crc_lt {f : Nat → Int} {n : Nat} (h : ∀ i, i < n → 0 ≤ f i ∧ f i ≤ 255) : crc n f < 4294967296 :=
  Nat.xor_lt_two_pow (n := 32) (crcTo_lt h) (by decide)

theorem xor_cancel {a b c : Nat} (h : a ^^^ c = b ^^^ c) : a = b := by
  have := congrArg (· ^^^ c) h
  simpa [Nat.xor_assoc] using this

theorem crcBit_inj {x y : Nat} (hx : x < 4294967296) (hy : y < 4294967296) (h : crcBit x = crcBit y) : x = y := by
  have t : ∀ z, z < 4294967296 → (crcBit z).testBit 31 = decide (z % 2 = 1) := by
    intro z hz
    have hz2 : (z / 2).testBit 31 = false := Nat.testBit_lt_two_pow (by omega)
    unfold crcBit
    by_cases e : z % 2 = 1
    · rw [if_pos e, Nat.testBit_xor, hz2]; simp [e]; decide
    · rw [if_neg e, hz2]; simp [e]
  have tx := t x hx
  have ty := t y hy
  rw [h, ty] at tx
  have par : (y % 2 = 1) ↔ (x % 2 = 1) := by simpa using tx
  unfold crcBit at h
  by_cases e : x % 2 = 1
  · rw [if_pos e, if_pos (par.2 e)] at h
    have := xor_cancel h
    have := par.2 e
    omega
  · rw [if_neg e, if_neg (fun k => e (par.1 k))] at h
    have : ¬ y % 2 = 1 := fun k => e (par.1 k)
    omega

theorem crcBits_inj {k x y : Nat} (hx : x < 4294967296) (hy : y < 4294967296) (h : crcBits k x = crcBits k y) : x = y := by
  induction k with
  | zero => exact h
  | succ k ih => exact ih (crcBit_inj (crcBits_lt hx) (crcBits_lt hy) h)

theorem crcTo_congr {f g : Nat → Int} {k : Nat} (h : ∀ i, i < k → f i = g i) : crcTo f k = crcTo g k := by
  induction k with
  | zero => rfl
  | succ k ih => show crcBits 8 _ = crcBits 8 _; rw [ih fun i hi => h i (by omega), h k (by omega)]
theorem crc_congr {f g : Nat → Int} {n : Nat} (h : ∀ i, i < n → f i = g i) : crc n f = crc n g := by unfold crc; rw [crcTo_congr h]

/-- Where two rows of bytes part at one place alone, their sums part. -/
theorem crcTo_parts {f g : Nat → Int} {n j : Nat} (hf : ∀ i, i < n → 0 ≤ f i ∧ f i ≤ 255) (hg : ∀ i, i < n → 0 ≤ g i ∧ g i ≤ 255) (hj : j < n) (hne : f j ≠ g j) (hs : ∀ i, i < n → i ≠ j → f i = g i) : crcTo f n ≠ crcTo g n := by
  induction n with
  | zero => omega
  | succ n ih =>
    intro e
    have e' : crcTo f n ^^^ (f n).toNat = crcTo g n ^^^ (g n).toNat :=
      crcBits_inj (k := 8) (xorByte_lt (crcTo_lt fun i hi => hf i (by omega)) (hf n (by omega))) (xorByte_lt (crcTo_lt fun i hi => hg i (by omega)) (hg n (by omega))) e
    by_cases hjn : j = n
    · subst hjn
      rw [crcTo_congr (g := g) fun i hi => hs i (by omega) (by omega), Nat.xor_comm, Nat.xor_comm (crcTo g j)] at e'
      have := xor_cancel e'
      have a := hf j (by omega)
      have b := hg j (by omega)
      omega
    · rw [hs n (by omega) (by omega)] at e'
      exact ih (fun i hi => hf i (by omega)) (fun i hi => hg i (by omega)) (by omega) (fun i hi => hs i (by omega)) (xor_cancel e')

theorem crc_parts {f g : Nat → Int} {n j : Nat} (hf : ∀ i, i < n → 0 ≤ f i ∧ f i ≤ 255) (hg : ∀ i, i < n → 0 ≤ g i ∧ g i ≤ 255) (hj : j < n) (hne : f j ≠ g j) (hs : ∀ i, i < n → i ≠ j → f i = g i) : crc n f ≠ crc n g :=
  fun e => crcTo_parts hf hg hj hne hs (xor_cancel e)

end Go.Proofs.YtjoimkfpenbkmabGreatDoor

/-
  The four bytes of a sum; new rows of bytes.
-/
namespace Go.Proofs.YtjoimkfpenbkmabGreatDoor
open Go.RowKit
set_option maxRecDepth 4000

def sumL (c : Nat) : List Int := [(c : Int) / 16777216 % 256, (c : Int) / 65536 % 256, (c : Int) / 256 % 256, (c : Int) % 256]
theorem sumL_len (c : Nat) : (sumL c).length = 4 := rfl
theorem sumL_byte (c : Nat) : ∀ y ∈ sumL c, 0 ≤ y ∧ y ≤ 255 := by
  intro y hy
  simp only [sumL, List.mem_cons, List.not_mem_nil, or_false] at hy
  rcases hy with rfl | rfl | rfl | rfl <;> omega

theorem lof_sumL (c : Nat) : lof 4 (fun i => (sumL c).getD i 0) = sumL c := lof_self (sumL c)

/-- New cells. -/
theorem cellNews (w : World) (l : List Value) (t : TypeId) : ∀ j u, l[j]? = some u → (w.alloc (.cells l.toArray t)).cell? ((⟨w.heap.size, 0, none⟩ : Addr).add j) = some u := by
  intro j u hj
  have e : (⟨w.heap.size, 0, none⟩ : Addr).add j = ⟨w.heap.size, j, none⟩ := by unfold Addr.add; split <;> simp_all
  rw [e]
  simp [hj]

theorem newRow (w : World) (l : List Int) (t : TypeId) : Row t (w.alloc (.cells (l.map (Value.int .u8)).toArray t)) w.heap.size l.length (fun i => l.getD i 0) :=
  Row.ofIs ⟨_, Deep.blk_alloc_new _ _, by simp, fun i hi => by simp [hi]⟩

theorem bytes_of_list {l : List Int} (h : ∀ y ∈ l, 0 ≤ y ∧ y ≤ 255) : ∀ i, i < l.length → 0 ≤ l.getD i 0 ∧ l.getD i 0 ≤ 255 := by
  intro i hi
  have := h _ (List.getElem_mem hi)
  simpa [hi] using this

end Go.Proofs.YtjoimkfpenbkmabGreatDoor

/-
  The bytes of a row, plainly.
-/
namespace Go.Proofs.YtjoimkfpenbkmabGreatDoor
open Go.RowKit
set_option maxRecDepth 4000

/-- The bytes of a value behind its kind. -/
def bodyB (k n : Int) (s : ByteArray) : List Int := if k = 1 ∨ k = 2 then varL n else if k = 3 then groups (clampN s.size) ++ sl s else if k = 4 then [n % 256] else []
/-- The bytes of a value. -/
def valB (k n : Int) (s : ByteArray) : List Int := groups (clampN k) ++ bodyB k n s
/-- The bytes of a row's values, with their count ahead. -/
def rowB (m : Nat) (fk fn : Nat → Int) (fs : Nat → ByteArray) : List Int := groups (clampN m) ++ keyT (fun i => valB (fk i) (fn i) (fs i)) m
/-- Whether values are a row of a plan. -/
def rowOk (n : Nat) (fc ft : Nat → Int) (fu : Nat → Bool) (m : Nat) (fk fn : Nat → Int) (fs : Nat → ByteArray) : Bool := planOk n fc ft && (decide (m = n) && fitsAll n m ft fu fk fn fs)
/-- Bytes with their sum behind. -/
def sumB (L : List Int) : List Int := L ++ sumL (crc L.length (fun i => L.getD i 0))
/-- What EncodeRow answers. -/
def encRB (n : Nat) (fc ft : Nat → Int) (fu : Nat → Bool) (m : Nat) (fk fn : Nat → Int) (fs : Nat → ByteArray) : List Int := if rowOk n fc ft fu m fk fn fs then sumB (rowB m fk fn fs) else []

theorem bodyB_len (k n : Int) (s : ByteArray) : (bodyB k n s).length ≤ 8 + s.size := by
  unfold bodyB
  split
  · have := (varL_len n).2; omega
  · split
    · rw [List.length_append, sl_len]; have := (groups_len (clampN s.size)).2; omega
    · split <;> simp <;> omega
theorem bodyB_byte (k n : Int) (s : ByteArray) : ∀ y ∈ bodyB k n s, 0 ≤ y ∧ y ≤ 255 := by
  unfold bodyB
  split
  · exact varL_byte n
  · split
    · intro y hy
      rcases List.mem_append.1 hy with h | h
      · exact groups_byte _ (clampN_bd _).1 (clampN_bd _).2 y h
      · exact sl_byte s y h
    · split
      · intro y hy; simp at hy; omega
      · intro y hy; cases hy
theorem valB_byte (k n : Int) (s : ByteArray) : ∀ y ∈ valB k n s, 0 ≤ y ∧ y ≤ 255 := by
  intro y hy
  unfold valB at hy
  rcases List.mem_append.1 hy with h | h
  · exact groups_byte _ (clampN_bd _).1 (clampN_bd _).2 y h
  · exact bodyB_byte k n s y h
theorem valB_len (k n : Int) (s : ByteArray) : (valB k n s).length ≤ 11 + s.size := by
  unfold valB
  rw [List.length_append]
  have := bodyB_len k n s
  have := (groups_len (clampN k)).2
  omega
theorem rowB_byte (m : Nat) (fk fn : Nat → Int) (fs : Nat → ByteArray) : ∀ y ∈ rowB m fk fn fs, 0 ≤ y ∧ y ≤ 255 := by
  intro y hy
  unfold rowB at hy
  rcases List.mem_append.1 hy with h | h
  · exact groups_byte _ (clampN_bd _).1 (clampN_bd _).2 y h
  · exact keyT_byte (fun i _ => valB_byte _ _ _) y h
end Go.Proofs.YtjoimkfpenbkmabGreatDoor

/-
  A value in a variable of the call's own.
-/
namespace Go.Proofs.YtjoimkfpenbkmabGreatDoor
open Go.RowKit
set_option maxRecDepth 4000

/-- The three cells of a value. -/
def valC (k n : Int) (s : ByteArray) : Nat → Value
  | 0 => .int .i64 k
  | 1 => .int .i64 n
  | _ => .string s

/-- A value in a variable of the call's own. -/
def Box (w : World) (B : Nat) (k n : Int) (s : ByteArray) : Prop := w.rowIs B 62 3 (valC k n s)
theorem Box.new (w : World) (k n : Int) (s : ByteArray) : Box (w.alloc (.cells #[.int .i64 k, .int .i64 n, .string s] 62)) w.heap.size k n s :=
  World.rowIs_alloc w _ 62 (valC k n s) (fun j hj => by match j, hj with | 0, _ => rfl | 1, _ => rfl | 2, _ => rfl)
theorem Box.cells {w : World} {B : Nat} {k n : Int} {s : ByteArray} (h : Box w B k n s) : w.cell? ⟨B, 0, none⟩ = some (.int .i64 k) ∧ w.cell? ⟨B, 1, none⟩ = some (.int .i64 n) ∧ w.cell? ⟨B, 2, none⟩ = some (.string s) :=
  ⟨h.cell (i := 0) (by decide), h.cell (i := 1) (by decide), h.cell (i := 2) (by decide)⟩
theorem Box.frozen {w : World} {B : Nat} {k n : Int} {s : ByteArray} (h : Box w B k n s) : w.frozen? ⟨B, 0, none⟩ = false ∧ w.frozen? ⟨B, 1, none⟩ = false ∧ w.frozen? ⟨B, 2, none⟩ = false :=
  ⟨World.rowIs.frozen h 0, World.rowIs.frozen h 1, World.rowIs.frozen h 2⟩
theorem Box.lt {w : World} {B : Nat} {k n : Int} {s : ByteArray} (h : Box w B k n s) : B < w.heap.size := World.rowIs.lt h
theorem Box.below {w w' : World} {B : Nat} {k n : Int} {s : ByteArray} (h : Box w B k n s) (hb : Below w.heap.size w w') : Box w' B k n s := h.of_block (hb.block B h.lt)
theorem Box.set0 {w : World} {B : Nat} {k n : Int} {s : ByteArray} (h : Box w B k n s) (x : Int) : Box (w.setCell ⟨B, 0, none⟩ (.int .i64 x)) B x n s :=
  (World.rowIs.set h 0 _).congr (fun j hj => by match j, hj with | 0, _ => rfl | 1, _ => rfl | 2, _ => rfl)
theorem Box.set1 {w : World} {B : Nat} {k n : Int} {s : ByteArray} (h : Box w B k n s) (x : Int) : Box (w.setCell ⟨B, 1, none⟩ (.int .i64 x)) B k x s :=
  (World.rowIs.set h 1 _).congr (fun j hj => by match j, hj with | 0, _ => rfl | 1, _ => rfl | 2, _ => rfl)
theorem Box.set2 {w : World} {B : Nat} {k n : Int} {s : ByteArray} (h : Box w B k n s) (t : ByteArray) : Box (w.setCell ⟨B, 2, none⟩ (.string t)) B k n t :=
  (World.rowIs.set h 2 _).congr (fun j hj => by match j, hj with | 0, _ => rfl | 1, _ => rfl | 2, _ => rfl)
theorem Box.put {w : World} {B : Nat} {k n : Int} {s : ByteArray} (h : Box w B k n s) (k' n' : Int) (s' : ByteArray) : Box (((w.setCell ⟨B, 0, none⟩ (.int .i64 k')).setCell ⟨B, 1, none⟩ (.int .i64 n')).setCell ⟨B, 2, none⟩ (.string s')) B k' n' s' :=
  ((h.set0 k').set1 n').set2 s'
theorem Box.other {w : World} {B D i : Nat} {k n : Int} {s : ByteArray} (h : Box w B k n s) (hne : B ≠ D) (u : Value) : Box (w.setCell ⟨D, i, none⟩ u) B k n s := h.of_block (Below.heap_setCell _ _ _ _ hne)
theorem Box.drew {w : World} {B : Nat} {k n : Int} {s : ByteArray} (h : Box w B k n s) : Box w.drew B k n s := h
/-- The result's variable and the value's, behind what was there. -/
theorem boxes2 (w : World) (t : Int) : Box ((w.alloc (.cells #[.int .i64 0, .int .i64 0, .string ⟨#[]⟩] 62)).alloc (.cells #[.int .i64 t, .int .i64 0, .string ⟨#[]⟩] 62)) w.heap.size 0 0 ⟨#[]⟩ ∧ Box ((w.alloc (.cells #[.int .i64 0, .int .i64 0, .string ⟨#[]⟩] 62)).alloc (.cells #[.int .i64 t, .int .i64 0, .string ⟨#[]⟩] 62)) (w.heap.size + 1) t 0 ⟨#[]⟩ ∧
    Below w.heap.size w ((w.alloc (.cells #[.int .i64 0, .int .i64 0, .string ⟨#[]⟩] 62)).alloc (.cells #[.int .i64 t, .int .i64 0, .string ⟨#[]⟩] 62)) := by
  have h2 := Box.new (w.alloc (.cells #[.int .i64 0, .int .i64 0, .string ⟨#[]⟩] 62)) t 0 ⟨#[]⟩
  rw [show (w.alloc (.cells #[.int .i64 0, .int .i64 0, .string ⟨#[]⟩] 62)).heap.size = w.heap.size + 1 by simp] at h2
  exact ⟨(Box.new w 0 0 ⟨#[]⟩).below ((Below.refl _ _).alloc (Nat.le_refl _) _), h2, ((Below.refl _ _).alloc (Nat.le_refl _) _).alloc (by simp) _⟩
end Go.Proofs.YtjoimkfpenbkmabGreatDoor

/-
  A row of values grows by one value.
-/

namespace Go.Proofs.YtjoimkfpenbkmabGreatDoor
open Go.RowKit
set_option maxRecDepth 4000

theorem infoVal3 : ∃ i, Tryz.prog.info? 62 = some i ∧ i.zero = some (.agg #[.int .i64 0, .int .i64 0, .string ⟨#[]⟩]) ∧ i.size = 3 ∧ i.bytes = 32 := by
  have h : (Tryz.prog.info? 62).map (fun i => (i.zero, i.size, i.bytes)) = some (some (.agg #[.int .i64 0, .int .i64 0, .string ⟨#[]⟩]), 3, 32) := by kernel_rfl
  obtain ⟨i, hi, hz⟩ := Option.map_eq_some_iff.1 h
  simp only [Prod.mk.injEq] at hz
  exact ⟨i, hi, hz.1, hz.2.1, hz.2.2⟩

/-- The cells of a new row of one value. -/
theorem cells_one (W : World) (k n : Int) (s : ByteArray) : ∀ j u, [Value.int .i64 k, .int .i64 n, .string s][j]? = some u → (W.alloc (.cells #[.int .i64 k, .int .i64 n, .string s] 62)).cell? ((⟨W.heap.size, 0, none⟩ : Addr).add j) = some u := by
  intro j u h
  obtain ⟨c0, c1, c2⟩ := (Box.new W k n s).cells
  have ea : ∀ j, (⟨W.heap.size, 0, none⟩ : Addr).add j = ⟨W.heap.size, 0 + j, none⟩ := fun j => by unfold Addr.add; split <;> simp_all
  match j, h with
  | 0, h => cases h; rw [ea]; exact c0
  | 1, h => cases h; rw [ea]; exact c1
  | 2, h => cases h; rw [ea]; exact c2
  | j + 3, h => simp at h
theorem one_cells (k n : Int) (s : ByteArray) : ∀ u ∈ [Value.int .i64 k, .int .i64 n, .string s], u.oneCell' = true := by
  intro u hu
  simp at hu
  rcases hu with rfl | rfl | rfl <;> rfl

theorem own_below3 {w w' : World} {base : Nat} {t : TypeId} {v : Value} {n : Nat} {l : List Value} (h : w.ownsRow base t 3 v n l) (hb : Below w.heap.size w w') : w'.ownsRow base t 3 v n l := by
  refine h.kept (row := none) ⟨hb.os, hb.tape, hb.output, hb.size, fun k hk _ => hb.block k hk⟩ ?_
  cases hv : v.ownBlock with
  | none => exact Or.inl rfl
  | some k => exact Or.inr (fun e => by cases e)
/-- The value of a part's column. -/
def pickK (fc : Nat → Int) (m : Nat) (f : Nat → Int) (i : Nat) : Int := if 0 ≤ fc i ∧ fc i < m then f (fc i).toNat else 0
def pickS (fc : Nat → Int) (m : Nat) (f : Nat → ByteArray) (i : Nat) : ByteArray := if 0 ≤ fc i ∧ fc i < m then f (fc i).toNat else ⟨#[]⟩
end Go.Proofs.YtjoimkfpenbkmabGreatDoor

/-
  Heads and keys, plainly; what a call that makes bytes comes to.
-/
namespace Go.Proofs.YtjoimkfpenbkmabGreatDoor
open Go.RowKit
set_option maxRecDepth 4000

/-- Whether the schema, the table and the index are there. -/
def There (f : Nat → PDef) (n : Nat) (t i : Int) : Prop := firstF f n = -1 ∧ 0 ≤ t ∧ t < n ∧ -1 ≤ i ∧ i < (f t.toNat).ni
/-- The plan of an index; of -1 that of Primary. -/
def planN (D : PDef) (i : Int) : Nat := if i = -1 then priN D else idxN D i
def planL (D : PDef) (i : Int) : Nat → PBy := if i = -1 then D.pri else ixpL D i
/-- What a call that makes bytes comes to. -/
def ByTo (w : World) (L : List Int) (e : Ending) (w' : World) : Prop := ∃ g c, e = .returned (.slice (some ⟨g, 0, none⟩) L.length c) ∧ w'.ownsRow w.heap.size 5 1 (.slice (some ⟨g, 0, none⟩) L.length c) L.length (bl L) ∧ Below w.heap.size w w'
theorem ByTo.low {w w0 w' : World} {L : List Int} {e : Ending} (h : ByTo w L e w') (hb : Below w0.heap.size w0 w) : ByTo w0 L e w' := by
  obtain ⟨g, c, he, hO, hB⟩ := h
  exact ⟨g, c, he, own_low hO hb.size, hb.trans (hB.mono hb.size)⟩
theorem own_nilB (w : World) : (w.alloc (.cells #[] 5)).ownsRow w.heap.size 5 1 (.slice (some ⟨w.heap.size, 0, none⟩) 0 0) 0 (bl []) := by
  have := World.ownsRow_lit (base := w.heap.size) (e := 5) (size := 1) w #[] 0 (Nat.le_refl _) (Nat.zero_le _) rfl
  simpa [bl] using this
theorem ByTo.nil (w : World) : ByTo w [] (.returned (.slice (some ⟨w.heap.size, 0, none⟩) 0 0)) (w.alloc (.cells #[] 5)) := ⟨_, _, rfl, own_nilB w, (Below.refl _ _).alloc (Nat.le_refl _) _⟩

open Classical in
/-- The first two bytes of a key. -/
noncomputable def headB (f : Nat → PDef) (n : Nat) (t i : Int) : List Int := if There f n t i then [t + 1, i + 1] else []

/-- Whether a row is right of a table. -/
def rowOkD (D : PDef) (m : Nat) (fk fn : Nat → Int) (fs : Nat → ByteArray) : Bool := rowOk (rowN D) (fun i => (plF D.col allL i).col) (fun i => (plF D.col allL i).type) (fun i => (plF D.col allL i).null) m fk fn fs
/-- The bytes of a plan's key. -/
def keyQ (N : Nat) (P : Nat → PPart) (m : Nat) (fk fn : Nat → Int) (fs : Nat → ByteArray) : List Int := keyL N (fun i => (P i).col) (fun i => (P i).type) (fun i => (P i).null) (fun i => (P i).desc) N (pickK (fun i => (P i).col) m fk) (pickK (fun i => (P i).col) m fn) (pickS (fun i => (P i).col) m fs)

open Classical in
/-- The bytes of a row's key. -/
noncomputable def keyB (f : Nat → PDef) (n : Nat) (t i : Int) (m : Nat) (fk fn : Nat → Int) (fs : Nat → ByteArray) : List Int := if There f n t i ∧ rowOkD (f t.toNat) m fk fn fs = true then [t + 1, i + 1] ++ keyQ (planN (f t.toNat) i) (plF (f t.toNat).col (planL (f t.toNat) i)) m fk fn fs else []
theorem planN_le (D : PDef) (i : Int) : planN D i ≤ 6 := by
  unfold planN
  split
  · unfold priN
    split
    · rename_i h; have := partsF_two (good_pri h); omega
    · omega
  · unfold idxN
    split
    · rename_i h
      have h1 := partsF_two (good_pri h.1)
      have h2 := partsF_two (good_idx h.1 (i := i.toNat) (by omega))
      omega
    · omega
theorem rowN6 (D : PDef) : rowN D ≤ 6 := by
  unfold rowN
  split
  · rename_i h; exact (good_nc h).2.2
  · omega
theorem There.small {f : Nat → PDef} {n : Nat} {t i : Int} (h : There f n t i) : (0 ≤ t ∧ t ≤ 2) ∧ -1 ≤ i ∧ i ≤ 1 := by
  have h0 := (firstF_none h.1).1
  have h1 := (firstF_none h.1).2.1 t.toNat (by have := h.2; omega)
  have h2 := (checkF_good h1).2.2.2.1
  have := h.2
  omega

end Go.Proofs.YtjoimkfpenbkmabGreatDoor

/-
  What an exact law of a key carries from call to call.
-/
namespace Go.Proofs.YtjoimkfpenbkmabGreatDoor
open Go.RowKit
set_option maxRecDepth 4000

theorem bview_of_owned {W : World} {base g c : Nat} {L : List Int} (h : W.ownsRow base 5 1 (.slice (some ⟨g, 0, none⟩) L.length c) L.length (bl L)) (hb : ∀ y ∈ L, 0 ≤ y ∧ y ≤ 255) : View W (some ⟨g, 0, none⟩) L.length c (fun i => L.getD i 0) := by
  have hle : L.length ≤ c := by
    rcases h.2 with ⟨e, _⟩ | ⟨g', k', cur, e, _, _, hnc, _⟩
    · cases e
    · cases e; exact hnc
  exact (row_of_owned h).view hle (fun i hi => by
    have e : L.getD i 0 = L[i] := by simp [List.getD, List.getElem?_eq_getElem hi]
    show 0 ≤ L.getD i 0 ∧ L.getD i 0 ≤ 255
    rw [e]; exact hb _ (List.getElem_mem hi))
theorem own_gtK {W : World} {base T c N g k : Nat} {xs : List Value} (h : W.ownsRow base T c (.slice (some ⟨g, 0, none⟩) N k) N xs) : g < W.heap.size := by
  rcases h.2 with ⟨e, _⟩ | ⟨g', k', cur, e, _, hg, _⟩
  · cases e
  · cases e
    exact (Array.getElem?_eq_some_iff.1 hg).1
theorem own_butK {W W' : World} {base T c N g k b : Nat} {xs : List Value} (h : W.ownsRow base T c (.slice (some ⟨g, 0, none⟩) N k) N xs) (hb : But b W W') (hne : g ≠ b) : W'.ownsRow base T c (.slice (some ⟨g, 0, none⟩) N k) N xs := by
  refine ⟨h.1, ?_⟩
  rcases h.2 with ⟨e, h0⟩ | ⟨g', k', cur, e, hb0, hg, hr⟩
  · cases e
  · cases e
    exact .inr ⟨g, k, cur, rfl, hb0, (hb.block g (Array.getElem?_eq_some_iff.1 hg).1 hne).trans hg, hr⟩
theorem own_neV {W : World} {base c N g k b n : Nat} {xs : List Value} {F : Nat → Value} (h : W.ownsRow base 5 c (.slice (some ⟨g, 0, none⟩) N k) N xs) (hr : RowV W b n F) : g ≠ b := by
  rintro rfl
  obtain ⟨cc, hb, -, -⟩ := hr
  rcases h.2 with ⟨e, _⟩ | ⟨g', k', cur, e, _, hg, _⟩
  · cases e
  · cases e
    rw [hb] at hg
    cases hg
/-- The rows that the model and the program answered. -/
structure CarB (w : World) (gw cw gg cg : Nat) (L : List Int) (W : World) : Prop where
  below : Below w.heap.size w W
  own : W.ownsRow w.heap.size 5 1 (.slice (some ⟨gw, 0, none⟩) L.length cw) L.length (bl L)
  own2 : W.ownsRow w.heap.size 5 1 (.slice (some ⟨gg, 0, none⟩) L.length cg) L.length (bl L)
  ne : gw ≠ gg
theorem CarB.on {w : World} {gw cw gg cg : Nat} {L : List Int} {W W' : World} (h : CarB w gw cw gg cg L W) (hb : Below W.heap.size W W') : CarB w gw cw gg cg L W' :=
  ⟨h.below.trans (hb.mono h.below.size), own_belowG h.own hb, own_belowG h.own2 hb, h.ne⟩
theorem s4_u8 : ¬ S4 5 := by rintro (h | h | h | h) <;> exact absurd h (by decide)
theorem s4_val : ¬ S4 62 := by rintro (h | h | h | h) <;> exact absurd h (by decide)
theorem CarB.marked {w : World} {gw cw gg cg B : Nat} {L : List Int} {W W' : World} (h : CarB w gw cw gg cg L W) (hm : Mk S4 B W W') (hB : w.heap.size ≤ B) : CarB w gw cw gg cg L W' :=
  ⟨h.below.trans (hm.below hB h.below.size), own_mk h.own hm s4_u8, own_mk h.own2 hm s4_u8, h.ne⟩
theorem CarB.butV {w : World} {gw cw gg cg b n : Nat} {L : List Int} {F : Nat → Value} {W W' : World} (h : CarB w gw cw gg cg L W) (hr : RowV W b n F) (hb : But b W W') (hw : w.heap.size ≤ b) : CarB w gw cw gg cg L W' :=
  ⟨h.below.trans (hb.below hw h.below.size), own_butK h.own hb (own_neV h.own hr), own_butK h.own2 hb (own_neV h.own2 hr), h.ne⟩
theorem RowV.mk {S : TypeId → Prop} {B b n : Nat} {F : Nat → Value} {W W' : World} (h : RowV W b n F) (hm : Mk S B W W') (hS : ¬ S 62) : RowV W' b n F := by
  obtain ⟨c, hb, hr⟩ := h
  exact ⟨c, (hm.other _ _ _ _ hb hS).trans hb, hr⟩
/-- .. the latter marked. -/
structure CarM (w : World) (gw cw gg : Nat) (L : List Int) (W : World) : Prop where
  below : Below w.heap.size w W
  own : W.ownsRow w.heap.size 5 1 (.slice (some ⟨gw, 0, none⟩) L.length cw) L.length (bl L)
  row : Row 5 W gg L.length (fun i => (1 + (i : Int)) % 256)
theorem CarM.on {w : World} {gw cw gg : Nat} {L : List Int} {W W' : World} (h : CarM w gw cw gg L W) (hb : Below W.heap.size W W') : CarM w gw cw gg L W' :=
  ⟨h.below.trans (hb.mono h.below.size), own_belowG h.own hb, h.row.of_block (hb.block gg h.row.lt)⟩
theorem CarB.mark {w : World} {gw cw gg cg : Nat} {L : List Int} {W W' : World} (h : CarB w gw cw gg cg L W) (hb : But gg W W') (hr : Row 5 W' gg L.length (fun i => (1 + (i : Int)) % 256)) : CarM w gw cw gg L W' :=
  ⟨h.below.trans (hb.below (own_ge9 h.own2 gg (by simp [Value.ownBlock])) h.below.size), own_butK h.own hb h.ne, hr⟩
theorem CarM.view {w : World} {gw cw gg cg : Nat} {L : List Int} {W : World} (h : CarM w gw cw gg L W) (hle : L.length ≤ cg) : View W (some ⟨gg, 0, none⟩) L.length cg (fun i => (1 + (i : Int)) % 256) := h.row.view hle (fun i _ => by omega)
theorem headB_fine (f : Nat → PDef) (n : Nat) (t i : Int) : (∀ y ∈ headB f n t i, 0 ≤ y ∧ y ≤ 255) ∧ (headB f n t i).length ≤ 416 := by
  unfold headB
  split
  · rename_i h
    have := h.small
    refine ⟨fun y hy => ?_, by simp⟩
    simp at hy
    omega
  · exact ⟨fun y hy => by simp at hy, by simp⟩
theorem keyB_fine (f : Nat → PDef) (n : Nat) (t i : Int) (m : Nat) (fk fn : Nat → Int) (fs : Nat → ByteArray) : (∀ y ∈ keyB f n t i m fk fn fs, 0 ≤ y ∧ y ≤ 255) ∧ (keyB f n t i m fk fn fs).length ≤ 416 := by
  unfold keyB
  split
  · rename_i h
    have hsm := h.1.small
    have h1 := keyL_byte (planN (f t.toNat) i) (fun q => (plF (f t.toNat).col (planL (f t.toNat) i) q).col) (fun q => (plF (f t.toNat).col (planL (f t.toNat) i) q).type) (fun q => (plF (f t.toNat).col (planL (f t.toNat) i) q).null) (fun q => (plF (f t.toNat).col (planL (f t.toNat) i) q).desc) (planN (f t.toNat) i) (pickK (fun q => (plF (f t.toNat).col (planL (f t.toNat) i) q).col) m fk) (pickK (fun q => (plF (f t.toNat).col (planL (f t.toNat) i) q).col) m fn) (pickS (fun q => (plF (f t.toNat).col (planL (f t.toNat) i) q).col) m fs)
    have h2 := keyL_len (planN (f t.toNat) i) (fun q => (plF (f t.toNat).col (planL (f t.toNat) i) q).col) (fun q => (plF (f t.toNat).col (planL (f t.toNat) i) q).type) (fun q => (plF (f t.toNat).col (planL (f t.toNat) i) q).null) (fun q => (plF (f t.toNat).col (planL (f t.toNat) i) q).desc) (planN (f t.toNat) i) (pickK (fun q => (plF (f t.toNat).col (planL (f t.toNat) i) q).col) m fk) (pickK (fun q => (plF (f t.toNat).col (planL (f t.toNat) i) q).col) m fn) (pickS (fun q => (plF (f t.toNat).col (planL (f t.toNat) i) q).col) m fs)
    refine ⟨fun y hy => ?_, ?_⟩
    · rw [List.mem_append] at hy
      rcases hy with hy | hy
      · simp at hy; omega
      · exact h1 y hy
    · rw [List.length_append]
      show 2 + _ ≤ 416
      unfold keyQ
      omega
  · exact ⟨fun y hy => by simp at hy, by simp⟩
end Go.Proofs.YtjoimkfpenbkmabGreatDoor

/-
  The model's l8Name: whether a text is a name.
-/
namespace Go.Proofs.YtjoimkfpenbkmabGreatDoor
open Go.RowKit
set_option maxRecDepth 4000

theorem l1In_tok (x l m : Int) (w : World) :
    Calls Tryz.prog 48 #[.int .i64 x, .int .i64 l, .int .i64 m] w fun e w' => e = .returned (.bool (decide (l ≤ x) && decide (x ≤ m))) ∧ w = w' := by
  go_enter Tryz.func48, Tryz.ntmps48
  by_cases h : l ≤ x
  · have e1 : decide (l ≤ x) = true := by simpa using h
    go_wp2
    go_ret
    exact ⟨by simp [h], rfl⟩
  · have e1 : decide (l ≤ x) = false := by simpa using h
    go_wp2
    go_ret
    exact ⟨by simp, rfl⟩

theorem l8Small_any (c : Int) (w : World) (h0 : 0 ≤ c) (h1 : c ≤ 255) :
    Calls Tryz.prog 160 #[.int .u8 c] w fun e w' => e = .returned (.bool (small c)) ∧ w = w' := by
  have e : small c = (decide (97 ≤ c) && decide (c ≤ 122)) := by unfold small; simp
  rw [e]
  go_enter Tryz.func160, Tryz.ntmps160
  go_wp2_with fail
  refine (l1In_tok c 97 122 w).mono ?_
  rintro e w2 ⟨rfl, rfl⟩
  go_wp2
  go_ret
  exact ⟨rfl, rfl⟩
theorem l2Digit_tok (c : Int) (w : World) (h0 : 0 ≤ c) (h1 : c ≤ 255) :
    Calls Tryz.prog 161 #[.int .u8 c] w fun e w' => e = .returned (.bool (digit c)) ∧ w = w' := by
  have e : digit c = (decide (48 ≤ c) && decide (c ≤ 57)) := by unfold digit; simp
  rw [e]
  go_enter Tryz.func161, Tryz.ntmps161
  go_wp2_with fail
  refine (l1In_tok c 48 57 w).mono ?_
  rintro e w2 ⟨rfl, rfl⟩
  go_wp2
  go_ret
  exact ⟨rfl, rfl⟩

set_option maxHeartbeats 1000000 in
theorem l8Name_any (s : ByteArray) (w : World) (hs : s.size ≤ 281474976710656) :
    Calls Tryz.prog 129 #[.string s] w fun e w' => e = .returned (.bool (nameOk s)) ∧ w = w' := by
  go_enter Tryz.func129, Tryz.ntmps129
  go_wp2
  go_loopg [3] s.size (fun q i wr => ∃ k : Nat, k ≤ s.size ∧ q = s.size - k ∧ i = .int .i64 k ∧ wr = w ∧ (0 < k → small (bt s 0) = true) ∧ ∀ j, j < k → inName (bt s j) = true)
  case atStart => exact ⟨0, Nat.zero_le _, rfl, rfl, rfl, fun h => absurd h (Nat.lt_irrefl _), fun j hj => absurd hj (Nat.not_lt_zero _)⟩
  case round =>
    obtain ⟨k, hk, rfl, rfl, rfl, hs0, hall⟩ := hrel
    have HA : Hid ((0 < k → small (bt s 0) = true) ∧ ∀ j, j < k → inName (bt s j) = true) := ⟨hs0, hall⟩
    clear hs0 hall
    by_cases hlt : k < s.size
    · have hkz : (k : Int) < (s.size : Int) := by omega
      have hc := bt_at hlt
      have hbd := bt_bd s k
      obtain ⟨c, hcc⟩ : ∃ c, Hid (bt s k = c) := ⟨_, rfl⟩
      rw [hcc.out] at hc hbd
      have hS := l8Small_any c wr hbd.1 hbd.2
      have hD := l2Digit_tok c wr hbd.1 hbd.2
      go_wp2_with (rw [hc])
      refine hS.mono ?_
      cases hsm : small c with
      | true =>
        rintro e _ ⟨rfl, rfl⟩
        have HN : Hid ((0 < k + 1 → small (bt s 0) = true) ∧ ∀ j, j < k + 1 → inName (bt s j) = true) := by
          refine ⟨fun _ => ?_, fun j hj => ?_⟩
          · by_cases h0 : k = 0
            · subst h0; rw [hcc.out]; exact hsm
            · exact HA.out.1 (by omega)
          · by_cases e : j < k
            · exact HA.out.2 j e
            · obtain rfl : j = k := by omega
              rw [hcc.out]; unfold inName; rw [hsm]; rfl
        clear hS hD
        go_wp2
        go_roundg (s.size - (k + 1))
        case measure => omega
        case rel => exact ⟨k + 1, by omega, rfl, by go_num, rfl, HN.out.1, HN.out.2⟩
      | false =>
        rintro e _ ⟨rfl, rfl⟩
        by_cases h0 : k = 0
        · subst h0
          have HF : Hid (nameOk s = false) := by
            show _ = _
            unfold nameOk
            apply decide_eq_false
            rintro ⟨-, -, h, -⟩
            rw [hcc.out, hsm] at h; cases h
          clear hS hD
          go_wp2
          go_ret
          exact ⟨by rw [HF.out]; rfl, rfl⟩
        · have h0z : ((k : Int) == 0) = false := by simpa using h0
          clear hS
          go_wp2_with (rw [hc])
          refine hD.mono ?_
          cases hdg : digit c with
          | true =>
            rintro e _ ⟨rfl, rfl⟩
            have HN : Hid ((0 < k + 1 → small (bt s 0) = true) ∧ ∀ j, j < k + 1 → inName (bt s j) = true) := by
              refine ⟨fun _ => HA.out.1 (by omega), fun j hj => ?_⟩
              by_cases e : j < k
              · exact HA.out.2 j e
              · obtain rfl : j = k := by omega
                rw [hcc.out]; unfold inName; rw [hdg]; simp
            clear hD
            go_wp2
            go_roundg (s.size - (k + 1))
            case measure => omega
            case rel => exact ⟨k + 1, by omega, rfl, by go_num, rfl, HN.out.1, HN.out.2⟩
          | false =>
            rintro e _ ⟨rfl, rfl⟩
            have HF : Hid (nameOk s = false) := by
              show _ = _
              unfold nameOk
              apply decide_eq_false
              rintro ⟨-, -, -, h⟩
              have := h k hlt
              rw [hcc.out] at this
              unfold inName at this
              rw [hsm, hdg] at this; cases this
            clear hD
            go_wp2
            go_ret
            exact ⟨by rw [HF.out]; rfl, rfl⟩
    · have hkz : ¬ (k : Int) < (s.size : Int) := by omega
      obtain rfl : k = s.size := by omega
      have HF : Hid (nameOk s = (decide ((1 : Int) ≤ (s.size : Int)) && decide ((s.size : Int) ≤ 8))) := by
        show _ = _
        unfold nameOk
        by_cases h1 : 1 ≤ s.size
        · by_cases h2 : s.size ≤ 8
          · rw [decide_eq_true ⟨h1, h2, HA.out.1 (by omega), HA.out.2⟩]
            simp; omega
          · rw [decide_eq_false (fun h => h2 h.2.1)]
            simp; omega
        · rw [decide_eq_false (fun h => h1 h.1)]
          simp; omega
      go_wp2_with fail
      refine (l1In_tok _ 1 8 wr).mono ?_
      rintro e _ ⟨rfl, rfl⟩
      go_wp2
      go_ret
      exact ⟨by rw [HF.out]; rfl, rfl⟩

end Go.Proofs.YtjoimkfpenbkmabGreatDoor

