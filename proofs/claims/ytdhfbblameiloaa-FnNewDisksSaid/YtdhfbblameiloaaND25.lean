/-
  Together: GetPlain, GetTextPlain, TextPlain, StrSl, NumsPlain, LofEq, AtB, CrcPlain, CrcBits
-/
import Derived.Test.YtdhfbblameiloaaND1
import Derived.Test.YtdhfbblameiloaaND19
import Derived.Lib.AppendStr
/-
  What is read of bytes as a number, plainly: of n bytes (f), from the place p on.
-/
namespace Go.Proofs.Ytdhfbblameiloaa

def getU (n : Nat) (f : Nat → Int) (p : Int) : Int × Int × Bool :=
  if p < 0 ∨ (n : Int) ≤ p then (0, 0, false)
  else if f p.toNat < 128 then (f p.toNat, p + 1, true)
  else if n ≤ p.toNat + 1 then (0, 0, false)
  else if f (p.toNat + 1) < 128 then (if f (p.toNat + 1) = 0 then (0, 0, false) else (f p.toNat - 128 + f (p.toNat + 1) * 128, p + 2, true))
  else if n ≤ p.toNat + 2 then (0, 0, false)
  else if f (p.toNat + 2) < 128 then
    (if f (p.toNat + 2) = 0 ∨ 1000000 < f p.toNat - 128 + (f (p.toNat + 1) - 128) * 128 + f (p.toNat + 2) * 16384 then (0, 0, false)
     else (f p.toNat - 128 + (f (p.toNat + 1) - 128) * 128 + f (p.toNat + 2) * 16384, p + 3, true))
  else (0, 0, false)

theorem getU_neg (n : Nat) (f : Nat → Int) (p : Int) (h : p < 0) : getU n f p = (0, 0, false) := by
  unfold getU; rw [if_pos (Or.inl h)]
theorem getU_past (n : Nat) (f : Nat → Int) (i : Nat) (h : n ≤ i) : getU n f (i : Int) = (0, 0, false) := by
  unfold getU; rw [if_pos (Or.inr (by omega))]
section
variable (n : Nat) (f : Nat → Int) (i : Nat)
theorem getU_in (h : i < n) : ¬ ((i : Int) < 0 ∨ (n : Int) ≤ (i : Int)) := by omega
theorem getU_1 (h : i < n) (h1 : f i < 128) : getU n f (i : Int) = (f i, (i : Int) + 1, true) := by
  unfold getU; rw [if_neg (getU_in n i h), Int.toNat_natCast, if_pos h1]
theorem getU_2end (h : i < n) (h1 : 128 ≤ f i) (h2 : n ≤ i + 1) : getU n f (i : Int) = (0, 0, false) := by
  unfold getU; rw [if_neg (getU_in n i h), Int.toNat_natCast, if_neg (by omega), if_pos h2]
theorem getU_2zero (h : i + 1 < n) (h1 : 128 ≤ f i) (h2 : f (i + 1) = 0) : getU n f (i : Int) = (0, 0, false) := by
  unfold getU; rw [if_neg (getU_in n i (by omega)), Int.toNat_natCast, if_neg (by omega), if_neg (by omega), if_pos (by omega), if_pos h2]
theorem getU_2 (h : i + 1 < n) (h1 : 128 ≤ f i) (h2 : f (i + 1) < 128) (h3 : f (i + 1) ≠ 0) : getU n f (i : Int) = (f i - 128 + f (i + 1) * 128, (i : Int) + 2, true) := by
  unfold getU; rw [if_neg (getU_in n i (by omega)), Int.toNat_natCast, if_neg (by omega), if_neg (by omega), if_pos (by omega), if_neg h3]
theorem getU_3end (h : i + 1 < n) (h1 : 128 ≤ f i) (h2 : 128 ≤ f (i + 1)) (h3 : n ≤ i + 2) : getU n f (i : Int) = (0, 0, false) := by
  unfold getU; rw [if_neg (getU_in n i (by omega)), Int.toNat_natCast, if_neg (by omega), if_neg (by omega), if_neg (by omega), if_pos h3]
theorem getU_3no (h : i + 2 < n) (h1 : 128 ≤ f i) (h2 : 128 ≤ f (i + 1)) (h3 : f (i + 2) < 128) (h4 : f (i + 2) = 0 ∨ 1000000 < f i - 128 + (f (i + 1) - 128) * 128 + f (i + 2) * 16384) : getU n f (i : Int) = (0, 0, false) := by
  unfold getU; rw [if_neg (getU_in n i (by omega)), Int.toNat_natCast, if_neg (by omega), if_neg (by omega), if_neg (by omega), if_neg (by omega), if_pos h3, if_pos h4]
theorem getU_3 (h : i + 2 < n) (h1 : 128 ≤ f i) (h2 : 128 ≤ f (i + 1)) (h3 : f (i + 2) < 128) (h4 : ¬ (f (i + 2) = 0 ∨ 1000000 < f i - 128 + (f (i + 1) - 128) * 128 + f (i + 2) * 16384)) :
    getU n f (i : Int) = (f i - 128 + (f (i + 1) - 128) * 128 + f (i + 2) * 16384, (i : Int) + 3, true) := by
  unfold getU; rw [if_neg (getU_in n i (by omega)), Int.toNat_natCast, if_neg (by omega), if_neg (by omega), if_neg (by omega), if_neg (by omega), if_pos h3, if_neg h4]
theorem getU_long (h : i + 2 < n) (h1 : 128 ≤ f i) (h2 : 128 ≤ f (i + 1)) (h3 : 128 ≤ f (i + 2)) : getU n f (i : Int) = (0, 0, false) := by
  unfold getU; rw [if_neg (getU_in n i (by omega)), Int.toNat_natCast, if_neg (by omega), if_neg (by omega), if_neg (by omega), if_neg (by omega), if_neg (by omega)]
end
end Go.Proofs.Ytdhfbblameiloaa

/-
  What is read as a text, plainly.
-/
namespace Go.Proofs.Ytdhfbblameiloaa
open Go.RowKit
set_option maxRecDepth 4000

theorem getU_bd {n : Nat} {f : Nat → Int} {p a q : Int} (hf : ∀ i, i < n → 0 ≤ f i ∧ f i ≤ 255) (h : getU n f p = (a, q, true)) : 0 ≤ a ∧ a ≤ 1000000 ∧ 0 ≤ q ∧ q ≤ n := by
  unfold getU at h
  by_cases h0 : p < 0 ∨ (n : Int) ≤ p
  · rw [if_pos h0] at h; cases h
  rw [if_neg h0] at h
  have b0 := hf p.toNat (by omega)
  by_cases h1 : f p.toNat < 128
  · rw [if_pos h1] at h; cases h; omega
  rw [if_neg h1] at h
  by_cases h2 : n ≤ p.toNat + 1
  · rw [if_pos h2] at h; cases h
  rw [if_neg h2] at h
  have b1 := hf (p.toNat + 1) (by omega)
  by_cases h3 : f (p.toNat + 1) < 128
  · rw [if_pos h3] at h
    by_cases h4 : f (p.toNat + 1) = 0
    · rw [if_pos h4] at h; cases h
    · rw [if_neg h4] at h; cases h; omega
  rw [if_neg h3] at h
  by_cases h5 : n ≤ p.toNat + 2
  · rw [if_pos h5] at h; cases h
  rw [if_neg h5] at h
  have b2 := hf (p.toNat + 2) (by omega)
  by_cases h6 : f (p.toNat + 2) < 128
  · rw [if_pos h6] at h
    by_cases h7 : f (p.toNat + 2) = 0 ∨ 1000000 < f p.toNat - 128 + (f (p.toNat + 1) - 128) * 128 + f (p.toNat + 2) * 16384
    · rw [if_pos h7] at h; cases h
    · rw [if_neg h7] at h; cases h; omega
  rw [if_neg h6] at h; cases h

/-- What is read as a text. -/
def getText (n : Nat) (f : Nat → Int) (p : Int) : ByteArray × Int × Bool :=
  if (getU n f p).2.2 = true ∧ (getU n f p).1 ≤ n - (getU n f p).2.1 then (strOfNums (lof (getU n f p).1.toNat (fun i => f ((getU n f p).2.1.toNat + i))), (getU n f p).2.1 + (getU n f p).1, true) else (strOfNums [], 0, false)

theorem View.cut {w : World} {b off n cap m k : Nat} {f : Nat → Int} (h : View w (some ⟨b, off, none⟩) n cap f) (hm : k + m ≤ n) : View w (some ⟨b, off + k, none⟩) m (cap - k) (fun i => f (k + i)) := by
  have := h.le
  refine ⟨by omega, fun i hi => h.byte (k + i) (by omega), fun h0 => ?_⟩
  obtain ⟨b', off', e, hb, hc⟩ := h.cells (by omega)
  simp only [Option.some.injEq, Addr.mk.injEq, and_true] at e
  obtain ⟨rfl, rfl⟩ := e
  exact ⟨b, off + k, rfl, hb, fun i hi => by rw [Nat.add_assoc]; exact hc (k + i) (by omega)⟩

theorem retT {s s' : ByteArray} {b b' : Int} {c c' : Bool} (h1 : s = s') (h2 : b = b') (h3 : c = c') :
    Ending.returned (.tuple #[.string s, .int .i64 b, .bool c]) = .returned (.tuple #[.string s', .int .i64 b', .bool c']) := by rw [h1, h2, h3]

end Go.Proofs.Ytdhfbblameiloaa

/-
  A text's bytes as numbers; what is put of a text.
-/
namespace Go.Proofs.Ytdhfbblameiloaa
open Go.RowKit
set_option maxRecDepth 4000

/-- A text's bytes as numbers. -/
def sl (s : ByteArray) : List Int := s.data.toList.map (fun b => (b.toNat : Int))
theorem sl_len (s : ByteArray) : (sl s).length = s.size := by unfold sl; rw [List.length_map, Array.length_toList]; rfl
theorem sl_byte (s : ByteArray) : ∀ y ∈ sl s, 0 ≤ y ∧ y ≤ 255 := by
  intro y hy
  simp only [sl, List.mem_map] at hy
  obtain ⟨b, _, rfl⟩ := hy
  have := b.toNat_lt
  omega
theorem sl_cells (s : ByteArray) : Lib.strCells s = bl (sl s) := by simp [Lib.strCells, bl, sl]

/-- What is put: the bytes, the count's groups, the text. -/
def textL (n : Nat) (f : Nat → Int) (s : ByteArray) : List Int := lof n f ++ groups (clampN s.size) ++ sl s
theorem textL_len (n : Nat) (f : Nat → Int) (s : ByteArray) : (textL n f s).length = n + (groups (clampN s.size)).length + s.size := by
  unfold textL; rw [List.length_append, List.length_append, lof_len, sl_len]

end Go.Proofs.Ytdhfbblameiloaa

/-
  A text and its bytes as numbers, there and back.
-/
namespace Go.Proofs.Ytdhfbblameiloaa
open Go.RowKit
set_option maxRecDepth 4000

theorem strOfNums_sl (s : ByteArray) : strOfNums (sl s) = s := by
  apply ByteArray.ext
  apply Array.ext'
  show ((sl s).map fun n => UInt8.ofNat n.toNat) = s.data.toList
  unfold sl
  rw [List.map_map]
  conv => rhs; rw [← List.map_id s.data.toList]
  apply List.map_congr_left
  intro b _
  simp
theorem sl_strOfNums {t : List Int} (h : ∀ y ∈ t, 0 ≤ y ∧ y ≤ 255) : sl (strOfNums t) = t :=
  strOfNums_inj (sl_byte _) h (strOfNums_sl _)
end Go.Proofs.Ytdhfbblameiloaa

/-
  What was put comes back, plainly: a number of its groups, a text of its bytes; cut by one byte the number does not.
-/
namespace Go.Proofs.Ytdhfbblameiloaa
open Go.RowKit
set_option maxRecDepth 4000

theorem getD_left (l k : List Int) (i : Nat) (h : i < l.length) : (l ++ k).getD i 0 = l.getD i 0 := by
  rw [List.getD_eq_getElem?_getD, List.getD_eq_getElem?_getD, List.getElem?_append_left h]
theorem getD_right (l k : List Int) (i : Nat) : (l ++ k).getD (l.length + i) 0 = k.getD i 0 := by
  rw [List.getD_eq_getElem?_getD, List.getD_eq_getElem?_getD, List.getElem?_append_right (by omega)]
  congr 2
  omega

/-- A number that lies as its groups from n on is read there. -/
theorem getU_put (n N : Nat) (F : Nat → Int) (x : Int) (h0 : 0 ≤ x) (h1 : x ≤ 1000000) (hF : ∀ i, i < (groups x).length → F (n + i) = (groups x).getD i 0) (hN : n + (groups x).length ≤ N) :
    getU N F (n : Int) = (x, (n : Int) + (groups x).length, true) := by
  by_cases a : x < 128
  · have e : groups x = [x] := by unfold groups; rw [if_pos a]
    rw [e] at hF hN ⊢
    have f0 : F n = x := by have := hF 0 (by simp); simpa using this
    simp only [List.length_cons, List.length_nil] at hN
    rw [getU_1 N F n (by omega) (by omega), f0]
    rfl
  · by_cases b : x < 16384
    · have e : groups x = [x % 128 + 128, x / 128] := by unfold groups; rw [if_neg a, if_pos b]
      rw [e] at hF hN ⊢
      have f0 : F n = x % 128 + 128 := by have := hF 0 (by simp); simpa using this
      have f1 : F (n + 1) = x / 128 := by have := hF 1 (by simp); simpa using this
      simp only [List.length_cons, List.length_nil] at hN
      rw [getU_2 N F n (by omega) (by omega) (by omega) (by omega), f0, f1]
      have : x % 128 + 128 - 128 + x / 128 * 128 = x := by omega
      rw [this]
      rfl
    · have e : groups x = [x % 128 + 128, x / 128 % 128 + 128, x / 16384] := by unfold groups; rw [if_neg a, if_neg b]
      rw [e] at hF hN ⊢
      have f0 : F n = x % 128 + 128 := by have := hF 0 (by simp); simpa using this
      have f1 : F (n + 1) = x / 128 % 128 + 128 := by have := hF 1 (by simp); simpa using this
      have f2 : F (n + 2) = x / 16384 := by have := hF 2 (by simp); simpa using this
      simp only [List.length_cons, List.length_nil] at hN
      have v : F n - 128 + (F (n + 1) - 128) * 128 + F (n + 2) * 16384 = x := by rw [f0, f1, f2]; omega
      rw [getU_3 N F n (by omega) (by omega) (by omega) (by omega) (by omega), v]
      rfl

theorem getU_cutoff (n N : Nat) (F : Nat → Int) (x : Int) (_h0 : 0 ≤ x) (hF : ∀ i, i < (groups x).length → F (n + i) = (groups x).getD i 0) (hN : n + (groups x).length = N + 1) :
    getU N F (n : Int) = (0, 0, false) := by
  by_cases a : x < 128
  · have e : groups x = [x] := by unfold groups; rw [if_pos a]
    rw [e] at hN
    simp only [List.length_cons, List.length_nil] at hN
    exact getU_past N F n (by omega)
  · by_cases b : x < 16384
    · have e : groups x = [x % 128 + 128, x / 128] := by unfold groups; rw [if_neg a, if_pos b]
      rw [e] at hF hN
      have f0 : F n = x % 128 + 128 := by have := hF 0 (by simp); simpa using this
      simp only [List.length_cons, List.length_nil] at hN
      exact getU_2end N F n (by omega) (by omega) (by omega)
    · have e : groups x = [x % 128 + 128, x / 128 % 128 + 128, x / 16384] := by unfold groups; rw [if_neg a, if_neg b]
      rw [e] at hF hN
      have f0 : F n = x % 128 + 128 := by have := hF 0 (by simp); simpa using this
      have f1 : F (n + 1) = x / 128 % 128 + 128 := by have := hF 1 (by simp); simpa using this
      simp only [List.length_cons, List.length_nil] at hN
      exact getU_3end N F n (by omega) (by omega) (by omega) (by omega)

/-- A text that was put comes back. -/
theorem getText_put (n : Nat) (f : Nat → Int) (s : ByteArray) (hs : s.size ≤ 1000000) :
    getText (n + (groups (clampN s.size)).length + s.size) (fun i => (textL n f s).getD i 0) (n : Int) = (s, ((n + (groups (clampN s.size)).length + s.size : Nat) : Int), true) := by
  have hc : clampN s.size = s.size := by unfold clampN; rw [if_neg (by omega), if_neg (by omega)]
  rw [hc]
  have e1 : ∀ i, i < (groups s.size).length → (textL n f s).getD (n + i) 0 = (groups s.size).getD i 0 := by
    intro i hi
    unfold textL
    rw [hc, List.append_assoc]
    have := getD_right (lof n f) (groups s.size ++ sl s) i
    rw [lof_len] at this
    rw [this, getD_left _ _ _ hi]
  have hu := getU_put n (n + (groups s.size).length + s.size) (fun i => (textL n f s).getD i 0) s.size (by omega) (by omega) e1 (by omega)
  have e2 : ∀ i, (textL n f s).getD (n + (groups s.size).length + i) 0 = (sl s).getD i 0 := by
    intro i
    unfold textL
    rw [hc]
    have := getD_right (lof n f ++ groups s.size) (sl s) i
    rw [List.length_append, lof_len] at this
    exact this
  unfold getText
  rw [hu]
  have et : ((n : Int) + ((groups s.size).length : Int)).toNat = n + (groups s.size).length := by omega
  rw [if_pos ⟨rfl, by show (s.size : Int) ≤ _; push_cast; omega⟩]
  simp only [Int.toNat_natCast, et]
  have el : lof s.size (fun i => (textL n f s).getD (n + (groups s.size).length + i) 0) = sl s := by
    have h1 := lof_self (sl s)
    rw [sl_len] at h1
    rw [← h1]
    unfold lof
    apply List.map_congr_left
    intro i _
    exact e2 i
  rw [el, strOfNums_sl]
  simp only [Prod.mk.injEq, true_and, and_true]
  push_cast
  omega
end Go.Proofs.Ytdhfbblameiloaa

/-
  Lists of a function's first values are alike just where it is.
-/
namespace Go.Proofs.Ytdhfbblameiloaa
open Go.RowKit
set_option maxRecDepth 4000

theorem lof_eq {n : Nat} {f g : Nat → Int} : lof n f = lof n g ↔ ∀ i, i < n → f i = g i := by
  constructor
  · intro h i hi
    rw [← lof_get n f i hi, ← lof_get n g i hi, h]
  · intro h
    unfold lof
    apply List.map_congr_left
    intro i hi
    exact h i (List.mem_range.1 hi)
end Go.Proofs.Ytdhfbblameiloaa

/-
  What stands at a place of bytes, what is read there: numbers and texts.
-/
namespace Go.Proofs.Ytdhfbblameiloaa
open Go.RowKit
set_option maxRecDepth 4000

/-- The bytes L stand at place i of the N bytes F. -/
structure AtF (N : Nat) (F : Nat → Int) (i : Nat) (L : List Int) : Prop where
  le : i + L.length ≤ N
  at' : ∀ j, j < L.length → F (i + j) = L.getD j 0
theorem AtF.left {N : Nat} {F : Nat → Int} {i : Nat} {L K : List Int} (h : AtF N F i (L ++ K)) : AtF N F i L :=
  ⟨by have := h.le; rw [List.length_append] at this; omega, fun j hj => by rw [h.at' j (by rw [List.length_append]; omega), getD_left _ _ _ hj]⟩
theorem AtF.right {N : Nat} {F : Nat → Int} {i : Nat} {L K : List Int} (h : AtF N F i (L ++ K)) : AtF N F (i + L.length) K :=
  ⟨by have := h.le; rw [List.length_append] at this; omega, fun j hj => by rw [Nat.add_assoc, h.at' (L.length + j) (by rw [List.length_append]; omega), getD_right]⟩
theorem AtF.append {N : Nat} {F : Nat → Int} {i : Nat} {L K : List Int} (h : AtF N F i L) (k : AtF N F (i + L.length) K) : AtF N F i (L ++ K) :=
  ⟨by have := k.le; rw [List.length_append]; omega, fun j hj => by
    rw [List.length_append] at hj
    by_cases e : j < L.length
    · rw [h.at' j e, getD_left _ _ _ e]
    · obtain ⟨m, rfl⟩ : ∃ m, j = L.length + m := ⟨j - L.length, by omega⟩
      rw [← Nat.add_assoc, k.at' m (by omega), getD_right]⟩
theorem AtF.nil {N : Nat} {F : Nat → Int} {i : Nat} (h : i ≤ N) : AtF N F i [] := ⟨by simpa using h, fun j hj => absurd hj (Nat.not_lt_zero _)⟩
/-- It is these bytes. -/
theorem AtF.lof {N : Nat} {F : Nat → Int} {i : Nat} {L : List Int} (h : AtF N F i L) : lof L.length (fun j => F (i + j)) = L := by
  rw [← lof_self L]
  conv => lhs; rw [show (Go.Proofs.Ytdhfbblameiloaa.lof L.length fun i => L.getD i 0).length = L.length by rw [lof_len]]
  rw [lof_eq]
  exact fun j hj => h.at' j hj
theorem AtF.ofLof {N : Nat} {F : Nat → Int} {i : Nat} {L : List Int} (hle : i + L.length ≤ N) (h : L = Go.Proofs.Ytdhfbblameiloaa.lof L.length (fun j => F (i + j))) : AtF N F i L :=
  ⟨hle, fun j hj => by
    conv => rhs; rw [h]
    rw [lof_get _ _ _ hj]⟩

theorem getU_at {N : Nat} {F : Nat → Int} {i : Nat} {x : Int} (h0 : 0 ≤ x) (h1 : x ≤ 1000000) (h : AtF N F i (groups x)) : getU N F (i : Int) = (x, (i : Int) + ((groups x).length : Int), true) :=
  getU_put i N F x h0 h1 h.at' h.le
theorem getU_read {N : Nat} {F : Nat → Int} {p a q : Int} (hb : ∀ i, i < N → 0 ≤ F i ∧ F i ≤ 255) (h : getU N F p = (a, q, true)) : ∃ i : Nat, p = (i : Int) ∧ AtF N F i (groups a) ∧ q = (i : Int) + ((groups a).length : Int) ∧ 0 ≤ a ∧ a ≤ 1000000 := by
  obtain ⟨ha0, ha1, -, -⟩ := getU_bd hb h
  by_cases h1 : p < 0 ∨ (N : Int) ≤ p
  · unfold getU at h; rw [if_pos h1] at h; cases h
  obtain ⟨i, rfl⟩ := Int.eq_ofNat_of_zero_le (a := p) (by omega)
  have hin : i < N := by omega
  have b0 := hb i hin
  refine ⟨i, rfl, ?_⟩
  by_cases c1 : F i < 128
  · rw [getU_1 N F i hin c1] at h
    cases h
    have e : groups (F i) = [F i] := groups_last _ c1
    rw [e]
    refine ⟨⟨by simp; omega, fun j hj => ?_⟩, rfl, ha0, ha1⟩
    match j, hj with
    | 0, _ => rfl
  by_cases c2 : N ≤ i + 1
  · rw [getU_2end N F i hin (by omega) c2] at h; cases h
  have b1 := hb (i + 1) (by omega)
  by_cases c3 : F (i + 1) < 128
  · by_cases c4 : F (i + 1) = 0
    · rw [getU_2zero N F i (by omega) (by omega) c4] at h; cases h
    rw [getU_2 N F i (by omega) (by omega) c3 c4] at h
    cases h
    have e : groups (F i - 128 + F (i + 1) * 128) = [F i, F (i + 1)] := by
      unfold groups
      rw [if_neg (by omega), if_pos (by omega)]
      congr 1
      · omega
      · congr 1; omega
    rw [e]
    refine ⟨⟨by simp; omega, fun j hj => ?_⟩, rfl, ha0, ha1⟩
    match j, hj with
    | 0, _ => rfl
    | 1, _ => rfl
  by_cases c5 : N ≤ i + 2
  · rw [getU_3end N F i (by omega) (by omega) (by omega) c5] at h; cases h
  have b2 := hb (i + 2) (by omega)
  by_cases c6 : F (i + 2) < 128
  · by_cases c7 : F (i + 2) = 0 ∨ 1000000 < F i - 128 + (F (i + 1) - 128) * 128 + F (i + 2) * 16384
    · rw [getU_3no N F i (by omega) (by omega) (by omega) c6 c7] at h; cases h
    rw [getU_3 N F i (by omega) (by omega) (by omega) c6 c7] at h
    cases h
    have e : groups (F i - 128 + (F (i + 1) - 128) * 128 + F (i + 2) * 16384) = [F i, F (i + 1), F (i + 2)] := by
      unfold groups
      rw [if_neg (by omega), if_neg (by omega)]
      congr 1
      · omega
      · congr 1
        · omega
        · congr 1; omega
    rw [e]
    refine ⟨⟨by simp; omega, fun j hj => ?_⟩, rfl, ha0, ha1⟩
    match j, hj with
    | 0, _ => rfl
    | 1, _ => rfl
    | 2, _ => rfl
  · rw [getU_long N F i (by omega) (by omega) (by omega) (by omega)] at h; cases h

/-- A text as bytes. -/
def txtL (s : ByteArray) : List Int := groups s.size ++ sl s
theorem getText_at {N : Nat} {F : Nat → Int} {i : Nat} {s : ByteArray} (hs : s.size ≤ 1000000) (h : AtF N F i (txtL s)) : getText N F (i : Int) = (s, (i : Int) + ((txtL s).length : Int), true) := by
  have h1 := getU_at (x := s.size) (by omega) (by omega) h.left
  have h2 := h.right
  have hl2 := h2.le
  rw [sl_len] at hl2
  unfold getText
  rw [h1]
  simp only
  rw [if_pos ⟨trivial, by omega⟩]
  have e : (i : Int) + ((groups s.size).length : Int) = ((i + (groups (s.size : Int)).length : Nat) : Int) := by push_cast; rfl
  rw [e]
  simp only [Int.toNat_natCast]
  have e2 := h2.lof
  rw [sl_len] at e2
  rw [e2, strOfNums_sl]
  refine Prod.ext rfl (Prod.ext ?_ rfl)
  show _ = _
  unfold txtL
  rw [List.length_append, sl_len]
  push_cast
  omega
theorem getText_read {N : Nat} {F : Nat → Int} {p q : Int} {s : ByteArray} (hb : ∀ i, i < N → 0 ≤ F i ∧ F i ≤ 255) (h : getText N F p = (s, q, true)) : ∃ i : Nat, p = (i : Int) ∧ AtF N F i (txtL s) ∧ q = (i : Int) + ((txtL s).length : Int) ∧ s.size ≤ 1000000 := by
  unfold getText at h
  by_cases c : (getU N F p).2.2 = true ∧ (getU N F p).1 ≤ N - (getU N F p).2.1
  · rw [if_pos c] at h
    obtain ⟨a, q1, ok, hu⟩ : ∃ a q1 ok, getU N F p = (a, q1, ok) := ⟨_, _, _, rfl⟩
    rw [hu] at c h
    simp only at c h
    obtain ⟨rfl, hle⟩ := c
    obtain ⟨i, rfl, hA, rfl, h0, h1⟩ := getU_read hb hu
    obtain ⟨A, rfl⟩ := Int.eq_ofNat_of_zero_le h0
    have e : (i : Int) + ((groups (A : Int)).length : Int) = ((i + (groups (A : Int)).length : Nat) : Int) := by push_cast; rfl
    rw [e] at h hle
    simp only [Int.toNat_natCast, Prod.mk.injEq, and_true] at h
    obtain ⟨hs, hq⟩ := h
    have hbl : ∀ y ∈ Go.Proofs.Ytdhfbblameiloaa.lof A (fun j => F (i + (groups (A : Int)).length + j)), 0 ≤ y ∧ y ≤ 255 := by
      intro y hy
      obtain ⟨j, hj, rfl⟩ := List.mem_map.1 hy
      exact hb _ (by have := List.mem_range.1 hj; omega)
    have hsl : sl s = Go.Proofs.Ytdhfbblameiloaa.lof A (fun j => F (i + (groups (A : Int)).length + j)) := by
      rw [← hs]; exact sl_strOfNums hbl
    have hsz : s.size = A := by rw [← sl_len, hsl, lof_len]
    refine ⟨i, rfl, ?_, ?_, by omega⟩
    · unfold txtL
      rw [hsz]
      refine hA.append ⟨by rw [sl_len, hsz]; omega, fun j hj => ?_⟩
      rw [sl_len, hsz] at hj
      rw [hsl, lof_get _ _ _ hj]
    · rw [← hq]
      unfold txtL
      rw [List.length_append, sl_len, hsz]
      push_cast
      omega
  · rw [if_neg c] at h
    simp at h
end Go.Proofs.Ytdhfbblameiloaa

/-
  The sum of bytes, plainly; that it stays below 2^32; that one byte turned turns it.
-/
namespace Go.Proofs.Ytdhfbblameiloaa

def crcBit (x : Nat) : Nat := if x % 2 = 1 then x / 2 ^^^ 2197175160 else x / 2
def crcBits : Nat → Nat → Nat
  | 0, x => x
  | k + 1, x => crcBit (crcBits k x)
def crcTo (f : Nat → Int) : Nat → Nat
  | 0 => 4294967295
  | k + 1 => crcBits 8 (crcTo f k ^^^ (f k).toNat)
def crc (n : Nat) (f : Nat → Int) : Nat := crcTo f n ^^^ 4294967295

theorem crcBit_lt {x : Nat} (h : x < 4294967296) : crcBit x < 4294967296 := by
  unfold crcBit
  split
  · exact Nat.xor_lt_two_pow (n := 32) (by omega) (by decide)
  · omega
theorem crcBits_lt {k x : Nat} (h : x < 4294967296) : crcBits k x < 4294967296 := by
  induction k with
  | zero => exact h
  | succ k ih => exact crcBit_lt ih
theorem xorByte_lt {x : Nat} {b : Int} (h : x < 4294967296) (h0 : 0 ≤ b ∧ b ≤ 255) : x ^^^ b.toNat < 4294967296 :=
  Nat.xor_lt_two_pow (n := 32) h (by omega)
theorem crcTo_lt {f : Nat → Int} {k : Nat} (h : ∀ i, i < k → 0 ≤ f i ∧ f i ≤ 255) : crcTo f k < 4294967296 := by
  induction k with
  | zero => show 4294967295 < 4294967296; decide
  | succ k ih => exact crcBits_lt (xorByte_lt (ih fun i hi => h i (by omega)) (h k (by omega)))
theorem crc_lt {f : Nat → Int} {n : Nat} (h : ∀ i, i < n → 0 ≤ f i ∧ f i ≤ 255) : crc n f < 4294967296 :=
  Nat.xor_lt_two_pow (n := 32) (crcTo_lt h) (by decide)

theorem xor_cancel {a b c : Nat} (h : a ^^^ c = b ^^^ c) : a = b := by
  have := congrArg (· ^^^ c) h
  simpa [Nat.xor_assoc] using this

theorem crcBit_inj {x y : Nat} (hx : x < 4294967296) (hy : y < 4294967296) (h : crcBit x = crcBit y) : x = y := by
  have t : ∀ z, z < 4294967296 → (crcBit z).testBit 31 = decide (z % 2 = 1) := by
    intro z hz
    have hz2 : (z / 2).testBit 31 = false := Nat.testBit_lt_two_pow (by omega)
    unfold crcBit
    by_cases e : z % 2 = 1
    · rw [if_pos e, Nat.testBit_xor, hz2]; simp [e]; decide
    · rw [if_neg e, hz2]; simp [e]
  have tx := t x hx
  have ty := t y hy
  rw [h, ty] at tx
  have par : (y % 2 = 1) ↔ (x % 2 = 1) := by simpa using tx
  unfold crcBit at h
  by_cases e : x % 2 = 1
  · rw [if_pos e, if_pos (par.2 e)] at h
    have := xor_cancel h
    have := par.2 e
    omega
  · rw [if_neg e, if_neg (fun k => e (par.1 k))] at h
    have : ¬ y % 2 = 1 := fun k => e (par.1 k)
    omega

theorem crcBits_inj {k x y : Nat} (hx : x < 4294967296) (hy : y < 4294967296) (h : crcBits k x = crcBits k y) : x = y := by
  induction k with
  | zero => exact h
  | succ k ih => exact ih (crcBit_inj (crcBits_lt hx) (crcBits_lt hy) h)

theorem crcTo_congr {f g : Nat → Int} {k : Nat} (h : ∀ i, i < k → f i = g i) : crcTo f k = crcTo g k := by
  induction k with
  | zero => rfl
  | succ k ih => show crcBits 8 _ = crcBits 8 _; rw [ih fun i hi => h i (by omega), h k (by omega)]
theorem crc_congr {f g : Nat → Int} {n : Nat} (h : ∀ i, i < n → f i = g i) : crc n f = crc n g := by unfold crc; rw [crcTo_congr h]

/-- Where two rows of bytes part at one place alone, their sums part. -/
theorem crcTo_parts {f g : Nat → Int} {n j : Nat} (hf : ∀ i, i < n → 0 ≤ f i ∧ f i ≤ 255) (hg : ∀ i, i < n → 0 ≤ g i ∧ g i ≤ 255) (hj : j < n) (hne : f j ≠ g j) (hs : ∀ i, i < n → i ≠ j → f i = g i) : crcTo f n ≠ crcTo g n := by
  induction n with
  | zero => omega
  | succ n ih =>
    intro e
    have e' : crcTo f n ^^^ (f n).toNat = crcTo g n ^^^ (g n).toNat :=
      crcBits_inj (k := 8) (xorByte_lt (crcTo_lt fun i hi => hf i (by omega)) (hf n (by omega))) (xorByte_lt (crcTo_lt fun i hi => hg i (by omega)) (hg n (by omega))) e
    by_cases hjn : j = n
    · subst hjn
      rw [crcTo_congr (g := g) fun i hi => hs i (by omega) (by omega), Nat.xor_comm, Nat.xor_comm (crcTo g j)] at e'
      have := xor_cancel e'
      have a := hf j (by omega)
      have b := hg j (by omega)
      omega
    · rw [hs n (by omega) (by omega)] at e'
      exact ih (fun i hi => hf i (by omega)) (fun i hi => hg i (by omega)) (by omega) (fun i hi => hs i (by omega)) (xor_cancel e')

theorem crc_parts {f g : Nat → Int} {n j : Nat} (hf : ∀ i, i < n → 0 ≤ f i ∧ f i ≤ 255) (hg : ∀ i, i < n → 0 ≤ g i ∧ g i ≤ 255) (hj : j < n) (hne : f j ≠ g j) (hs : ∀ i, i < n → i ≠ j → f i = g i) : crc n f ≠ crc n g :=
  fun e => crcTo_parts hf hg hj hne hs (xor_cancel e)

end Go.Proofs.Ytdhfbblameiloaa

/-
  Plain facts on the sum, in the forms in which the walks meet them.
-/
namespace Go.Proofs.Ytdhfbblameiloaa
open Go.RowKit
set_option maxRecDepth 4000

theorem u32_one (y : Nat) (h : y < 4294967296) : bits .and .u32 (y : Int) 1 = ((y % 2 : Nat) : Int) := by
  have := u32_and_nat y 1 h (by decide)
  rw [nat_mask1] at this; exact this
theorem u32_turn (y : Nat) (h : y < 4294967296) : bits .xor .u32 ((y : Int) / 2) 2197175160 = ((y / 2 ^^^ 2197175160 : Nat) : Int) := by
  have := u32_xor_nat (y / 2) 2197175160 (by omega) (by decide)
  rw [← this]; rfl
theorem i64_turn (y : Nat) (h : y < 4294967296) : bits .xor .i64 ((y : Int) / 2) 2197175160 = ((y / 2 ^^^ 2197175160 : Nat) : Int) := by
  have := i64_xor_nat (y / 2) 2197175160 (by omega) (by decide)
  rw [← this]; rfl
theorem i64_last (y : Nat) (h : y < 4294967296) : bits .xor .i64 (y : Int) 4294967295 = ((y ^^^ 4294967295 : Nat) : Int) := i64_xor_nat y 4294967295 (by omega) (by decide)
theorem u32_last (y : Nat) (h : y < 4294967296) : bits .xor .u32 IntKind.u32.max (y : Int) = ((y ^^^ 4294967295 : Nat) : Int) := by
  have e : IntKind.u32.max = ((4294967295 : Nat) : Int) := by simp [IntKind.max, IntKind.signed, IntKind.bits]
  rw [Nat.xor_comm, e]; exact u32_xor_nat 4294967295 y (by decide) h
theorem i64_in (y : Nat) (b : Int) (h : y < 4294967296) (h0 : 0 ≤ b ∧ b ≤ 255) : bits .xor .i64 (y : Int) b = ((y ^^^ b.toNat : Nat) : Int) := by
  obtain ⟨c, rfl⟩ := Int.eq_ofNat_of_zero_le h0.1
  rw [Int.toNat_natCast]; exact i64_xor_nat y c (by omega) (by omega)
theorem u32_in (y : Nat) (b : Int) (h : y < 4294967296) (h0 : 0 ≤ b ∧ b ≤ 255) : bits .xor .u32 (y : Int) b = ((y ^^^ b.toNat : Nat) : Int) := by
  obtain ⟨c, rfl⟩ := Int.eq_ofNat_of_zero_le h0.1
  rw [Int.toNat_natCast]; exact u32_xor_nat y c (by omega) (by omega)
theorem crcBit_odd (y : Nat) (h : y % 2 = 1) : crcBit y = y / 2 ^^^ 2197175160 := by unfold crcBit; rw [if_pos h]
theorem crcBit_even (y : Nat) (h : ¬ y % 2 = 1) : crcBit y = y / 2 := by unfold crcBit; rw [if_neg h]

theorem retInt {k : IntKind} {a b : Int} (h : a = b) : Ending.returned (.int k a) = .returned (.int k b) := by rw [h]

end Go.Proofs.Ytdhfbblameiloaa

