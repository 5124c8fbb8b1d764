/-
  Together: KeysLess, VView, ValRow, KeyDec, RowEq, KeysPlain, Draw, But, DrawBut, DrawList, DrawStr, DrawNum, DrawVal, DrawOf, DrawOfNo
-/
import Derived.Test.YtclegljalndaeacPack4
import Derived.Test.YtclegljalndaeacPack3
import Derived.Test.YtclegljalndaeacPack1
import Derived.Test.YtclegljalndaeacPack2
import Derived.WalkSpells
/-
  The order of keys, plainly: no two are less than each other, none than itself.
-/
namespace Go.Proofs.Ytclegljalndaeac
open Go.RowKit
set_option maxRecDepth 4000

theorem lessV_both (k n : Int) (s : ByteArray) (k' n' : Int) (s' : ByteArray) : (lessV k n s k' n' s' && lessV k' n' s' k n s) = false := by
  rcases order3 k n s k' n' s' with ⟨h1, h2, _⟩ | ⟨h1, h2, _⟩ | ⟨h1, h2, _⟩
  all_goals (rw [h1, h2]; rfl)
section
variable {n : Nat} {fd : Nat → Bool} {m : Nat} {fk fn : Nat → Int} {fs : Nat → ByteArray} {m' : Nat} {fk' fn' : Nat → Int} {fs' : Nat → ByteArray}
theorem sameAt_symm {i : Nat} : sameAt fk fn fs fk' fn' fs' i = sameAt fk' fn' fs' fk fn fs i := by
  rw [Bool.eq_iff_iff, sameAt_iff, sameAt_iff]
  constructor
  · rintro ⟨a, b, c⟩; exact ⟨a.symm, b.symm, c.symm⟩
  · rintro ⟨a, b, c⟩; exact ⟨a.symm, b.symm, c.symm⟩
theorem lessK_both : (lessK n fd m fk fn fs m' fk' fn' fs' && lessK n fd m' fk' fn' fs' m fk fn fs) = false := by
  rcases first_ne (fk := fk) (fn := fn) (fs := fs) (fk' := fk') (fn' := fn') (fs' := fs') (min m m') with hs | ⟨i, hi, hne, hs⟩
  · rw [lessK_same hs, lessK_same (fun j hj => by rw [← sameAt_symm]; exact hs j (by omega))]
    by_cases h : m < m'
    · rw [decide_eq_false (by omega : ¬ m' < m), Bool.and_false]
    · rw [decide_eq_false h, Bool.false_and]
  · have him : i < m := by omega
    have him' : i < m' := by omega
    rw [lessK_at him him' hne hs, lessK_at him' him (by rw [← sameAt_symm]; exact hne) (fun j hj => by rw [← sameAt_symm]; exact hs j hj)]
    by_cases hin : i < n
    · rw [decide_eq_true hin, Bool.true_and, Bool.true_and]
      unfold lessP
      cases fd i
      · exact lessV_both _ _ _ _ _ _
      · rw [if_pos rfl, if_pos rfl, Bool.and_comm]
        exact lessV_both _ _ _ _ _ _
    · rw [decide_eq_false hin, Bool.false_and, Bool.false_and]
theorem lessK_irr : lessK n fd m fk fn fs m fk fn fs = false := by
  rw [lessK_same (fun j _ => sameAt_iff.2 ⟨rfl, rfl, rfl⟩)]
  exact decide_eq_false (Nat.lt_irrefl m)
end
end Go.Proofs.Ytclegljalndaeac

/-
  A slice of values that reads, by a function of the index, and how that is carried from one world to the next.
-/
namespace Go.Proofs.Ytclegljalndaeac
open Go.RowKit
set_option maxRecDepth 4000

/-- The slice value '.slice ao n cap' reads, in the world w, as the n values f 0 up to f (n - 1). -/
structure VView (w : World) (ao : Option Addr) (n cap : Nat) (fk fn : Nat → Int) (fs : Nat → ByteArray) : Prop where
  le : n ≤ cap
  cells : 0 < n → ∃ b off, ao = some ⟨b, off, none⟩ ∧ b < w.heap.size ∧ ∀ i, i < n → w.cell? ⟨b, off + i * 3, none⟩ = some (.int .i64 (fk i)) ∧ w.cell? ⟨b, off + i * 3 + 1, none⟩ = some (.int .i64 (fn i)) ∧ w.cell? ⟨b, off + i * 3 + 2, none⟩ = some (.string (fs i))

theorem VView.below {w w' : World} {ao : Option Addr} {n cap : Nat} {fk fn : Nat → Int} {fs : Nat → ByteArray} (h : VView w ao n cap fk fn fs) (hb : Below w.heap.size w w') : VView w' ao n cap fk fn fs := by
  refine ⟨h.le, fun hn => ?_⟩
  obtain ⟨b, off, e, hlt, hc⟩ := h.cells hn
  refine ⟨b, off, e, Nat.lt_of_lt_of_le hlt hb.size, fun i hi => ?_⟩
  rw [hb.cell (p := ⟨b, off + i * 3, none⟩) hlt, hb.cell (p := ⟨b, off + i * 3 + 1, none⟩) hlt, hb.cell (p := ⟨b, off + i * 3 + 2, none⟩) hlt]
  exact hc i hi

end Go.Proofs.Ytclegljalndaeac

/-
  Rows of values of the call's own, that grow by one value at a time.
-/
namespace Go.Proofs.Ytclegljalndaeac
open Go.RowKit
set_option maxRecDepth 4000

/-- The cells of the first k values. -/
def rowC (gk gn : Nat → Int) (gs : Nat → ByteArray) : Nat → List Value
  | 0 => []
  | k + 1 => rowC gk gn gs k ++ [.int .i64 (gk k), .int .i64 (gn k), .string (gs k)]
theorem rowC_len (gk gn : Nat → Int) (gs : Nat → ByteArray) : ∀ k, (rowC gk gn gs k).length = k * 3
  | 0 => rfl
  | k + 1 => by rw [rowC, List.length_append, rowC_len gk gn gs k]; simp; omega
theorem rowC_get (gk gn : Nat → Int) (gs : Nat → ByteArray) : ∀ k i, i < k → (rowC gk gn gs k)[i * 3]? = some (.int .i64 (gk i)) ∧ (rowC gk gn gs k)[i * 3 + 1]? = some (.int .i64 (gn i)) ∧ (rowC gk gn gs k)[i * 3 + 2]? = some (.string (gs i))
  | k + 1, i, hi => by
    have hl := rowC_len gk gn gs k
    by_cases e : i < k
    · obtain ⟨h1, h2, h3⟩ := rowC_get gk gn gs k i e
      rw [rowC, List.getElem?_append_left (by omega), List.getElem?_append_left (by omega), List.getElem?_append_left (by omega)]
      exact ⟨h1, h2, h3⟩
    · obtain rfl : i = k := by omega
      rw [rowC, List.getElem?_append_right (by omega), List.getElem?_append_right (by omega), List.getElem?_append_right (by omega), hl]
      simp [show i * 3 + 1 - i * 3 = 1 by omega, show i * 3 + 2 - i * 3 = 2 by omega]
theorem rowC_congr {gk gn : Nat → Int} {gs : Nat → ByteArray} {hk hn : Nat → Int} {hs : Nat → ByteArray} : ∀ {k : Nat}, (∀ i, i < k → gk i = hk i ∧ gn i = hn i ∧ gs i = hs i) → rowC gk gn gs k = rowC hk hn hs k
  | 0, _ => rfl
  | k + 1, e => by
    obtain ⟨h1, h2, h3⟩ := e k (by omega)
    rw [rowC, rowC, rowC_congr (fun i hi => e i (by omega)), h1, h2, h3]

/-- A row of values of the call's own reads. -/
theorem vview_of_own {w : World} {base : Nat} {v : Value} {N : Nat} {gk gn : Nat → Int} {gs : Nat → ByteArray} (h : w.ownsRow base 29 3 v N (rowC gk gn gs N)) : ∃ a c, v = .slice a N c ∧ VView w a N c gk gn gs ∧ (v ≠ .slice none 0 0 → ∃ g, a = some ⟨g, 0, none⟩ ∧ base ≤ g) := by
  obtain ⟨hl, h⟩ := h
  rcases h with ⟨rfl, h0⟩ | ⟨g, c, cur, rfl, hb, hg, hnc, _, hcs, ht⟩
  · have hN : N = 0 := by have := h0; have := rowC_len gk gn gs N; omega
    subst hN
    exact ⟨none, 0, rfl, ⟨Nat.le_refl _, fun hn => absurd hn (Nat.lt_irrefl _)⟩, fun hne => absurd rfl hne⟩
  · refine ⟨_, c, rfl, ⟨hnc, fun hn => ⟨g, 0, rfl, ?_, fun i hi => ?_⟩⟩, fun _ => ⟨g, rfl, hb⟩⟩
    · exact (Array.getElem?_eq_some_iff.1 hg).1
    · have key : ∀ j x, j < N * 3 → (rowC gk gn gs N)[j]? = some x → w.cell? ⟨g, 0 + j, none⟩ = some x := by
        intro j x hj hx
        rw [← ht, List.getElem?_take, if_pos hj] at hx
        simp only [World.cell?, hg, Nat.zero_add]
        simpa using hx
      obtain ⟨h1, h2, h3⟩ := rowC_get gk gn gs N i hi
      have k0 := key _ _ (by omega) h1
      have k1 := key _ _ (by omega) h2
      have k2 := key _ _ (by omega) h3
      simp only [Nat.zero_add] at k0 k1 k2 ⊢
      exact ⟨k0, k1, k2⟩
end Go.Proofs.Ytclegljalndaeac

/-
  What DecodeKey comes to.
-/
namespace Go.Proofs.Ytclegljalndaeac
open Go.RowKit
set_option maxRecDepth 4000

theorem decQ_none {N : Nat} {F : Nat → Int} {fc ft : Nat → Int} {fu fd : Nat → Bool} {k : Nat} (h : decQ N F fc ft fu fd k = none) : ∀ j, decQ N F fc ft fu fd (k + j) = none
  | 0 => h
  | j + 1 => by rw [← Nat.add_assoc, decQ, decQ_none h j]; rfl
/-- The places lie within. -/
theorem decQ_bd {N : Nat} {F : Nat → Int} {fc ft : Nat → Int} {fu fd : Nat → Bool} (hb : ∀ i, i < N → 0 ≤ F i ∧ F i ≤ 255) : ∀ {k : Nat} {p : Int}, decQ N F fc ft fu fd k = some p → 0 ≤ p ∧ p ≤ N
  | 0, p, h => by rw [decQ] at h; have := Option.some.inj h; omega
  | k + 1, p, h => by
    obtain ⟨p', h1, h2, h3⟩ := decQ_succ h
    obtain ⟨kk, y, s, q, ok, hg⟩ : ∃ kk y s q ok, getP N F (fc k) (ft k) (fu k) (fd k) p' = ⟨kk, y, s, q, ok⟩ := ⟨_, _, _, _, _, rfl⟩
    rw [hg] at h2 h3
    simp only at h2 h3
    subst h2 h3
    obtain ⟨_, _, i, _, hq, hi, _⟩ := part_read hb hg
    omega

section
variable (N : Nat) (F : Nat → Int) (fc ft : Nat → Int) (fu fd : Nat → Bool)
def decK (i : Nat) : Int := (decG N F fc ft fu fd i).k
def decNm (i : Nat) : Int := (decG N F fc ft fu fd i).n
def decS (i : Nat) : ByteArray := (decG N F fc ft fu fd i).s
end

/-- What DecodeKey comes to. -/
def Decs (w : World) (n N : Nat) (F : Nat → Int) (fc ft : Nat → Int) (fu fd : Nat → Bool) (e : Ending) (w' : World) : Prop :=
  ∃ v M, e = .returned (.tuple #[v, .bool (decOk N F fc ft fu fd n)]) ∧ v ≠ .slice none 0 0 ∧ M = (if decOk N F fc ft fu fd n then n else 0) ∧ w'.ownsRow w.heap.size 29 3 v M (rowC (decK N F fc ft fu fd) (decNm N F fc ft fu fd) (decS N F fc ft fu fd) M) ∧ Below w.heap.size w w'
end Go.Proofs.Ytclegljalndaeac

/-
  Rows of values held against each other, plainly.
-/
namespace Go.Proofs.Ytclegljalndaeac
open Go.RowKit
set_option maxRecDepth 4000

def allEq (fk fn : Nat → Int) (fs : Nat → ByteArray) (gk gn : Nat → Int) (gs : Nat → ByteArray) : Nat → Bool
  | 0 => true
  | k + 1 => allEq fk fn fs gk gn gs k && eqV (fk k) (fn k) (fs k) (gk k) (gn k) (gs k)

theorem allEq_bad {fk fn : Nat → Int} {fs : Nat → ByteArray} {gk gn : Nat → Int} {gs : Nat → ByteArray} {k : Nat} (h : eqV (fk k) (fn k) (fs k) (gk k) (gn k) (gs k) = false) : ∀ n, k < n → allEq fk fn fs gk gn gs n = false
  | 0, hk => absurd hk (Nat.not_lt_zero _)
  | n + 1, hk => by
    simp only [allEq]
    by_cases e : k = n
    · subst e; rw [h]; simp
    · rw [allEq_bad h n (by omega)]; rfl

def rowEq (n m : Nat) (fk fn : Nat → Int) (fs : Nat → ByteArray) (gk gn : Nat → Int) (gs : Nat → ByteArray) : Bool := decide (n = m) && allEq fk fn fs gk gn gs n

end Go.Proofs.Ytclegljalndaeac

/-
  Keys of two lists of values that fit a plan, plainly: alike, or they part, and stand in the order of the values.
-/
namespace Go.Proofs.Ytclegljalndaeac
open Go.RowKit
set_option maxRecDepth 4000

theorem lof_getD (L : List Int) : lof L.length (fun i => L.getD i 0) = L := lof_self L
theorem allEq_iff {fk fn : Nat → Int} {fs : Nat → ByteArray} {gk gn : Nat → Int} {gs : Nat → ByteArray} : ∀ {n : Nat}, allEq fk fn fs gk gn gs n = true ↔ ∀ j, j < n → eqV (fk j) (fn j) (fs j) (gk j) (gn j) (gs j) = true
  | 0 => by simp [allEq]
  | n + 1 => by
    rw [allEq, Bool.and_eq_true, allEq_iff (n := n)]
    constructor
    · rintro ⟨h1, h2⟩ j hj
      by_cases e : j < n
      · exact h1 j e
      · obtain rfl : j = n := by omega
        exact h2
    · intro h
      exact ⟨fun j hj => h j (by omega), h n (by omega)⟩
theorem rowEq_self (n : Nat) (fk fn : Nat → Int) (fs : Nat → ByteArray) : rowEq n n fk fn fs fk fn fs = true := by
  unfold rowEq
  rw [decide_eq_true rfl, Bool.true_and, allEq_iff]
  intro j _; simp [eqV]
/-- The one begins with the other. -/
theorem begin_of {L1 L2 : List Int} (h : L2.length ≤ L1.length ∧ lof L2.length (fun i => L1.getD i 0) = lof L2.length (fun i => L2.getD i 0)) : ∃ r, L1 = L2 ++ r := by
  rw [lof_getD L2] at h
  refine ⟨L1.drop L2.length, ?_⟩
  have e : L1.take L2.length = L2 := by
    rw [← h.2]
    apply List.ext_getElem
    · simp [lof_len]; omega
    · intro i h1 h2
      have hi : i < L1.length := by simp at h1; omega
      simp [lof, List.getD, List.getElem?_eq_getElem hi]
  conv => lhs; rw [← List.take_append_drop L2.length L1, e]

/-- What holds of the two keys. -/
structure TwoKeys (L1 L2 : List Int) (s lk : Bool) : Prop where
  ah : ahead (lof L1.length (fun i => L1.getD i 0)) (lof L2.length (fun i => L2.getD i 0)) = lk
  same : decide (lof L1.length (fun i => L1.getD i 0) = lof L2.length (fun i => L2.getD i 0)) = s
  no1 : s = false → decide (L2.length ≤ L1.length ∧ lof L2.length (fun i => L1.getD i 0) = lof L2.length (fun i => L2.getD i 0)) = false
  no2 : s = false → decide (L1.length ≤ L2.length ∧ lof L1.length (fun i => L2.getD i 0) = lof L1.length (fun i => L1.getD i 0)) = false

theorem ahead_irrefl (L : List Int) (hb : ∀ y ∈ L, 0 ≤ y ∧ y ≤ 255) : ahead L L = false := by
  induction L with
  | nil => simp [ahead, Op.bytesLess, strOfNums, ByteArray.toList_eq]
  | cons a L ih =>
    rw [ahead_cons a a L L (hb a (by simp)) (hb a (by simp)), if_neg (by omega), if_pos rfl]
    exact ih (fun y hy => hb y (by simp [hy]))

section
variable {m : Nat} {fc ft : Nat → Int} {fu fd : Nat → Bool} {fk fn : Nat → Int} {fs : Nat → ByteArray} {fk' fn' : Nat → Int} {fs' : Nat → ByteArray}
theorem rowEq_at : rowEq m m fk fn fs fk' fn' fs' = true ↔ ∀ j, j < m → sameAt fk fn fs fk' fn' fs' j = true := by
  unfold rowEq sameAt
  rw [decide_eq_true rfl, Bool.true_and, allEq_iff]
theorem keys_two (hp : ∀ i, i < m → partOk (fc i) (ft i) = true) (hf : ∀ i, i < m → fitsP (ft i) (fu i) (fk i) (fn i) (fs i) = true) (hf' : ∀ i, i < m → fitsP (ft i) (fu i) (fk' i) (fn' i) (fs' i) = true) (L1 L2 : List Int) (h1 : L1 = keyT (onePL fc ft fu fd fk fn fs) m) (h2 : L2 = keyT (onePL fc ft fu fd fk' fn' fs') m) :
    TwoKeys L1 L2 (rowEq m m fk fn fs fk' fn' fs') (lessK m fd m fk fn fs m fk' fn' fs') := by
  have hb1 : ∀ y ∈ L1, 0 ≤ y ∧ y ≤ 255 := by rw [h1]; exact keyT_byte (fun i _ => putPL_byte _ _ _ _ _ _ _)
  have hb2 : ∀ y ∈ L2, 0 ≤ y ∧ y ≤ 255 := by rw [h2]; exact keyT_byte (fun i _ => putPL_byte _ _ _ _ _ _ _)
  rcases first_ne (fk := fk) (fn := fn) (fs := fs) (fk' := fk') (fn' := fn') (fs' := fs') m with hs | ⟨i, hi, hne, hs⟩
  · have e : L1 = L2 := by rw [h1, h2]; exact keyT_congr (fun i hi => onePL_same (hs i hi))
    have hr : rowEq m m fk fn fs fk' fn' fs' = true := rowEq_at.2 hs
    rw [hr, lessK_same (fun j hj => hs j (by omega)), decide_eq_false (Nat.lt_irrefl m)]
    subst e
    refine ⟨by rw [lof_getD]; exact ahead_irrefl L1 hb1, decide_eq_true rfl, fun h => (by cases h), fun h => (by cases h)⟩
  · have hr : rowEq m m fk fn fs fk' fn' fs' = false := by
      rw [Bool.eq_false_iff]
      intro h
      rw [rowEq_at.1 h i hi] at hne; cases hne
    obtain ⟨a, b, hab, hP, hd⟩ := keys_part (fc := fc) (ft := ft) (fu := fu) (fd := fd) hi hi (hp i hi) (hf i hi) (hf' i hi) hne hs
    rw [← h1, ← h2] at hP
    rw [hr, lessK_at hi hi hne hs, decide_eq_true hi, Bool.true_and, ← hd]
    obtain ⟨ha, hb⟩ := hP.bytes hb1 hb2
    refine ⟨by rw [lof_getD, lof_getD]; exact hP.ahead ha hb hab hb1 hb2, ?_, fun _ => ?_, fun _ => ?_⟩
    · rw [lof_getD, lof_getD]
      apply decide_eq_false
      intro e
      exact hP.notBegin hab (r := []) (by simpa using e)
    · apply decide_eq_false
      intro h
      obtain ⟨r, e⟩ := begin_of h
      exact hP.notBegin hab e
    · apply decide_eq_false
      intro h
      obtain ⟨r, e⟩ := begin_of h
      exact hP.symm.notBegin (Ne.symm hab) e
/-- Values come back of their key. -/
theorem keys_back (hm6 : m ≤ 6) (hp : ∀ i, i < m → partOk (fc i) (ft i) = true) (hf : ∀ i, i < m → fitsP (ft i) (fu i) (fk i) (fn i) (fs i) = true) (L : List Int) (hL : L = keyT (onePL fc ft fu fd fk fn fs) m) :
    decOk L.length (fun i => L.getD i 0) fc ft fu fd m = true ∧ rowC (decK L.length (fun i => L.getD i 0) fc ft fu fd) (decNm L.length (fun i => L.getD i 0) fc ft fu fd) (decS L.length (fun i => L.getD i 0) fc ft fu fd) m = rowC fk fn fs m := by
  obtain ⟨h1, h2⟩ := key_back (n := m) hp hf L hL (Nat.le_refl _)
  refine ⟨?_, rowC_congr (fun i hi => ?_)⟩
  · unfold decOk
    rw [h1, ← hL, planOk_iff.2 ⟨hp, hm6⟩]
    simp
  · have e := h2 i hi
    unfold decK decNm decS
    rw [e]
    exact ⟨rfl, rfl, rfl⟩
end
end Go.Proofs.Ytclegljalndaeac

/-
  The cursor that the draws go by: what each draw comes to, as far as a law leans on it: a number within its bounds, bytes of their own; nothing turns but the cursor.
-/
namespace Go.Proofs.Ytclegljalndaeac
open Go.RowKit
set_option maxRecDepth 4000

theorem i64_and255 (n : Int) : bits .and .i64 n 255 = n % 256 := by
  have h255 : (BitVec.ofInt 64 255).toNat = 2 ^ 8 - 1 := by decide
  have key : (BitVec.ofInt 64 n &&& BitVec.ofInt 64 255).toNat = (n % ((2 ^ 64 : Nat) : Int)).toNat % 2 ^ 8 := by
    rw [BitVec.toNat_and, BitVec.toNat_ofInt, h255, Nat.and_two_pow_sub_one_eq_mod]
  show IntKind.i64.wrap ((BitVec.ofInt 64 n &&& BitVec.ofInt 64 255).toNat : Nat) = n % 256
  rw [key, IntKind.wrap_i64]
  omega

theorem Only.trans {b : Nat} {w w1 w2 : World} (h : Only b w w1) (k : Only b w1 w2) : Only b w w2 :=
  ⟨k.os.trans h.os, k.tape.trans h.tape, k.output.trans h.output, k.size.trans h.size, fun i hi => (k.block i hi).trans (h.block i hi)⟩

/-- The three cells of a cursor. -/
def curF (ao : Option Addr) (n cap : Nat) (i h : Int) : Nat → Value
  | 0 => .slice ao n cap
  | 1 => .int .i64 i
  | _ => .int .i64 h

structure Cur (w : World) (g : Nat) (ao : Option Addr) (n cap : Nat) (f : Nat → Int) : Prop where
  cells : ∃ i h : Int, w.rowIs g 93 3 (curF ao n cap i h) ∧ 0 ≤ i ∧ i ≤ n
  view : View w ao n cap f
  apart : ∀ a, ao = some a → 0 < n → a.block ≠ g

theorem Cur.lt {w : World} {g : Nat} {ao : Option Addr} {n cap : Nat} {f : Nat → Int} (h : Cur w g ao n cap f) : g < w.heap.size := by
  obtain ⟨i, k, hr, _⟩ := h.cells
  exact hr.lt

theorem Cur.below {w w' : World} {g : Nat} {ao : Option Addr} {n cap : Nat} {f : Nat → Int} (h : Cur w g ao n cap f) (hb : Below w.heap.size w w') : Cur w' g ao n cap f := by
  obtain ⟨i, k, hr, h0, h1⟩ := h.cells
  exact ⟨⟨i, k, hr.of_block (hb.block g hr.lt), h0, h1⟩, h.view.below hb, h.apart⟩

set_option maxHeartbeats 2000000 in
theorem l1Byte_any (g : Nat) (ao : Option Addr) (n cap : Nat) (f : Nat → Int) (w : World) (hn : n ≤ 1048576) (hC : Cur w g ao n cap f) :
    Calls Try.prog 103 #[.pointer (some ⟨g, 0, none⟩)] w fun e w' => ∃ x : Int, e = .returned (.int .i64 x) ∧ 0 ≤ x ∧ x ≤ 255 ∧ Cur w' g ao n cap f ∧ Only g w w' := by
  obtain ⟨i, h, hr, hi0, hi1⟩ := hC.cells
  have c0 : w.cell? ⟨g, 0, none⟩ = some (.slice ao n cap) := hr.cell (by decide)
  have c1 : w.cell? ⟨g, 1, none⟩ = some (.int .i64 i) := hr.cell (by decide)
  have c2 : w.cell? ⟨g, 2, none⟩ = some (.int .i64 h) := hr.cell (by decide)
  have z1 := hr.frozen 1
  have z2 := hr.frozen 2
  have hA : ∀ z : Int, bits .and .i64 z 255 = z % 256 := i64_and255
  by_cases hlt : i < n
  · have hv := hC.view
    obtain ⟨b, off, rfl, hb, hc⟩ := hv.cells (by omega)
    have hne : b ≠ g := hC.apart _ rfl (by omega)
    obtain ⟨k, rfl⟩ := Int.eq_ofNat_of_zero_le hi0
    have hbk := hv.byte k (by omega)
    have hck := hc k (by omega)
    clear hc
    go_enter Try.func103, Try.ntmps103
    go_wp2
    go_region
    all_goals go_wp2
    all_goals go_region
    all_goals go_wp2
    all_goals go_region
    all_goals go_wp2
    go_ret
    have hO : Only g w ((w.setCell ⟨g, 2, none⟩ (.int .i64 (wrap64 (wrap64 (h * 6364136223846793005) + 1442695040888963407)))).setCell ⟨g, 1, none⟩ (.int .i64 ((k : Int) + 1))) := ((Only.refl _ _).setCell _).setCell _
    have hR := ((hr.set 2 (.int .i64 (wrap64 (wrap64 (h * 6364136223846793005) + 1442695040888963407)))).set 1 (.int .i64 ((k : Int) + 1))).congr (g := curF (some ⟨b, off, none⟩) n cap ((k : Int) + 1) (wrap64 (wrap64 (h * 6364136223846793005) + 1442695040888963407)))
      (fun j hj => by match j, hj with | 0, _ => rfl | 1, _ => rfl | 2, _ => rfl)
    exact ⟨_, rfl, by omega, by omega, ⟨⟨_, _, hR, by omega, by omega⟩, (hO.view hv (fun a ha => hC.apart a ha (by omega))).drew.drew.drew, hC.apart⟩, hO.os, hO.tape, hO.output, hO.size, hO.block⟩
  · go_enter Try.func103, Try.ntmps103
    go_wp2
    go_region
    all_goals go_wp2
    all_goals go_region
    all_goals go_wp2
    go_ret
    have hO : Only g w (w.setCell ⟨g, 2, none⟩ (.int .i64 (wrap64 (wrap64 (h * 6364136223846793005) + 1442695040888963407)))) := (Only.refl _ _).setCell _
    have hR := (hr.set 2 (.int .i64 (wrap64 (wrap64 (h * 6364136223846793005) + 1442695040888963407)))).congr (g := curF ao n cap i (wrap64 (wrap64 (h * 6364136223846793005) + 1442695040888963407)))
      (fun j hj => by match j, hj with | 0, _ => rfl | 1, _ => rfl | 2, _ => rfl)
    have hV : View (w.setCell ⟨g, 2, none⟩ (.int .i64 (wrap64 (wrap64 (h * 6364136223846793005) + 1442695040888963407)))) ao n cap f := by
      by_cases h0 : 0 < n
      · exact hO.view hC.view (fun a ha => hC.apart a ha h0)
      · exact ⟨hC.view.le, hC.view.byte, fun h => absurd h h0⟩
    exact ⟨_, rfl, by omega, by omega, ⟨⟨_, _, hR, hi0, hi1⟩, hV.drew.drew, hC.apart⟩, hO.os, hO.tape, hO.output, hO.size, hO.block⟩

set_option maxHeartbeats 1000000 in
theorem l1Below_any (g : Nat) (ao : Option Addr) (n cap : Nat) (f : Nat → Int) (m : Int) (w : World) (hn : n ≤ 1048576) (hm : 0 < m) (hm1 : m ≤ 16777216) (hC : Cur w g ao n cap f) :
    Calls Try.prog 75 #[.pointer (some ⟨g, 0, none⟩), .int .i64 m] w fun e w' => ∃ x : Int, e = .returned (.int .i64 x) ∧ 0 ≤ x ∧ x < m ∧ Cur w' g ao n cap f ∧ Only g w w' := by
  by_cases h256 : m ≤ 256
  · go_enter Try.func75, Try.ntmps75
    go_wp2_with fail
    refine (l1Byte_any g ao n cap f w hn hC).mono ?_
    rintro e w1 ⟨x, rfl, hx0, hx1, hC1, hO1⟩
    go_wp2
    go_ret
    exact ⟨_, rfl, Int.emod_nonneg _ (by omega), Int.emod_lt_of_pos _ hm, hC1, hO1⟩
  · go_enter Try.func75, Try.ntmps75
    go_wp2_with fail
    refine (l1Byte_any g ao n cap f w hn hC).mono ?_
    rintro e w1 ⟨x, rfl, hx0, hx1, hC1, hO1⟩
    go_wp2_with fail
    refine (l1Byte_any g ao n cap f w1 hn hC1).mono ?_
    rintro e w2 ⟨y, rfl, hy0, hy1, hC2, hO2⟩
    go_wp2_with fail
    refine (l1Byte_any g ao n cap f w2 hn hC2).mono ?_
    rintro e w3 ⟨z, rfl, hz0, hz1, hC3, hO3⟩
    go_wp2
    go_ret
    exact ⟨_, rfl, Int.emod_nonneg _ (by omega), Int.emod_lt_of_pos _ hm, hC3, (hO1.trans hO2).trans hO3⟩

set_option maxHeartbeats 1000000 in
theorem l1Int_any (g : Nat) (ao : Option Addr) (n cap : Nat) (f : Nat → Int) (b m : Nat) (z : Nat → Int) (w : World) (hn : n ≤ 1048576) (hm : 0 < m) (hm1 : m ≤ 16777216) (hz : ∀ i, i < m → w.cell? ⟨b, i, none⟩ = some (.int .i64 (z i))) (hbg : b ≠ g) (hC : Cur w g ao n cap f) :
    Calls Try.prog 76 #[.pointer (some ⟨g, 0, none⟩), .slice (some ⟨b, 0, none⟩) m m] w fun e w' => ∃ j : Nat, j < m ∧ e = .returned (.int .i64 (z j)) ∧ Cur w' g ao n cap f ∧ Only g w w' := by
  go_enter Try.func76, Try.ntmps76
  go_wp2_with fail
  refine (l1Below_any g ao n cap f m w hn (by omega) (by omega) hC).mono ?_
  rintro e w1 ⟨x, rfl, hx0, hx1, hC1, hO1⟩
  obtain ⟨j, rfl⟩ := Int.eq_ofNat_of_zero_le hx0
  have hj : w1.cell? ⟨b, j, none⟩ = some (.int .i64 (z j)) := by
    rw [World.cell?_of_block (w := w) (hO1.block b hbg)]; exact hz j (by omega)
  go_wp2
  go_ret
  exact ⟨j, by omega, rfl, hC1, hO1⟩

set_option maxHeartbeats 1000000 in
theorem l1New_any (ao : Option Addr) (n cap : Nat) (f : Nat → Int) (w : World) (hn : n ≤ 1048576) (hv : View w ao n cap f) :
    Calls Try.prog 40 #[.slice ao n cap] w fun e w' => e = .returned (.pointer (some ⟨w.heap.size, 0, none⟩)) ∧ Cur w' w.heap.size ao n cap f ∧ Below w.heap.size w w' := by
  go_enter Try.func40, Try.ntmps40
  go_wp2
  go_loopg [3, 4] n (fun q s i wr => w = wr ∧ ∃ (k : Nat) (h : Int), k ≤ n ∧ q = n - k ∧ s = .int .i64 h ∧ i = .int .i64 k)
  case atStart => exact ⟨rfl, 0, _, Nat.zero_le _, rfl, rfl, rfl⟩
  case round =>
    obtain ⟨rfl, k, h, hk, rfl, rfl, rfl⟩ := hrel
    by_cases hlt : k < n
    · obtain ⟨b, off, rfl, hb, hc⟩ := hv.cells (by omega)
      have hkz : (k : Int) < (n : Int) := by omega
      have hc1 := hc k hlt
      have hbk := hv.byte k hlt
      by_cases h4 : k < 4000
      · have hz4 : (k : Int) < 4000 := by omega
        clear hc
        go_wp2
        go_roundg (n - (k + 1))
        case measure => omega
        case rel => exact ⟨rfl, k + 1, _, by omega, rfl, rfl, by go_num⟩
      · have hz4 : ¬ (k : Int) < 4000 := by omega
        clear h4
        clear hc
        go_wp2
        go_ret
        refine ⟨rfl, ⟨⟨0, _, World.rowIs_alloc w _ 93 (curF (some ⟨b, off, none⟩) n cap 0 h) (fun j hj => ?_), by omega, by omega⟩, hv.below ((Below.refl _ _).alloc (Nat.le_refl _) _), fun a ha _ => ?_⟩, (Below.refl _ _).alloc (Nat.le_refl _) _⟩
        · match j, hj with | 0, _ => rfl | 1, _ => rfl | 2, _ => rfl
        · cases ha; show b ≠ w.heap.size; omega
    · have hkz : (n : Int) ≤ (k : Int) := by omega
      go_wp2
      go_ret
      refine ⟨rfl, ⟨⟨0, _, World.rowIs_alloc w _ 93 (curF ao n cap 0 h) (fun j hj => ?_), by omega, by omega⟩, hv.below ((Below.refl _ _).alloc (Nat.le_refl _) _), fun a ha h0 => ?_⟩, (Below.refl _ _).alloc (Nat.le_refl _) _⟩
      · match j, hj with | 0, _ => rfl | 1, _ => rfl | 2, _ => rfl
      · obtain ⟨b, off, e, hb, _⟩ := hv.cells h0
        rw [e] at ha; cases ha; show b ≠ w.heap.size; omega
end Go.Proofs.Ytclegljalndaeac

/-
  What turns but one block: how it is carried.
-/
namespace Go.Proofs.Ytclegljalndaeac
open Go.RowKit
set_option maxRecDepth 4000

/-- Of what was there block g alone may have turned. -/
structure But (g : Nat) (w w' : World) : Prop where
  os : w'.os = w.os
  tape : w'.tape = w.tape
  output : w'.output = w.output
  size : w.heap.size ≤ w'.heap.size
  block : ∀ k, k < w.heap.size → k ≠ g → w'.heap[k]? = w.heap[k]?

theorem But.refl (g : Nat) (w : World) : But g w w := ⟨rfl, rfl, rfl, Nat.le_refl _, fun _ _ _ => rfl⟩
theorem But.trans {g : Nat} {a b c : World} (h : But g a b) (k : But g b c) : But g a c :=
  ⟨k.os.trans h.os, k.tape.trans h.tape, k.output.trans h.output, Nat.le_trans h.size k.size, fun i hi hg => (k.block i (Nat.lt_of_lt_of_le hi h.size) hg).trans (h.block i hi hg)⟩
theorem But.ofOnly {g : Nat} {w w' : World} (h : Only g w w') : But g w w' := ⟨h.os, h.tape, h.output, by rw [h.size]; exact Nat.le_refl _, fun k _ hk => h.block k hk⟩
theorem But.ofBelow {g : Nat} {w w' : World} (h : Below w.heap.size w w') : But g w w' := ⟨h.os, h.tape, h.output, h.size, fun k hk _ => h.block k hk⟩
theorem But.below {g B : Nat} {w w' : World} (h : But g w w') (hB : B ≤ g) (hs : B ≤ w.heap.size) : Below B w w' := ⟨h.os, h.tape, h.output, h.size, fun k hk => h.block k (by omega) (by omega)⟩
theorem But.row {t : TypeId} {g b n : Nat} {f : Nat → Int} {w w' : World} (h : But g w w') (hr : Row t w b n f) (hne : b ≠ g) : Row t w' b n f := hr.of_block (h.block b hr.lt hne)
theorem But.view {g : Nat} {ao : Option Addr} {n cap : Nat} {f : Nat → Int} {w w' : World} (h : But g w w') (hv : View w ao n cap f) (hne : ∀ a, ao = some a → 0 < n → a.block ≠ g) : View w' ao n cap f := by
  refine ⟨hv.le, hv.byte, fun hn => ?_⟩
  obtain ⟨b', off, e, hlt, hc⟩ := hv.cells hn
  refine ⟨b', off, e, Nat.lt_of_lt_of_le hlt h.size, fun i hi => ?_⟩
  rw [World.cell?_of_block (w := w) (h.block b' hlt (hne _ e hn))]
  exact hc i hi
theorem Only.grown {g : Nat} {w w' : World} (h : Only g w w') : w.grownBy w' (some g) :=
  ⟨h.os, h.tape, h.output, by rw [h.size]; exact Nat.le_refl _, fun k _ hk => h.block k (fun e => hk (by rw [e]))⟩
end Go.Proofs.Ytclegljalndaeac

/-
  What turns but the cursor: how it is carried.
-/
namespace Go.Proofs.Ytclegljalndaeac
open Go.RowKit
set_option maxRecDepth 4000

theorem Cur.grown {w w' : World} {g : Nat} {ao : Option Addr} {n cap : Nat} {f : Nat → Int} {row : Option Nat} (h : Cur w g ao n cap f) (hg : w.grownBy w' row) (h1 : row ≠ some g) (h2 : ∀ a, ao = some a → 0 < n → row ≠ some a.block) : Cur w' g ao n cap f := by
  obtain ⟨i, k, hr, h0, hi⟩ := h.cells
  refine ⟨⟨i, k, hr.of_block (hg.block g hr.lt (fun e => h1 e.symm)), h0, hi⟩, ⟨h.view.le, h.view.byte, fun hn => ?_⟩, h.apart⟩
  obtain ⟨b', off, e, hlt, hc⟩ := h.view.cells hn
  refine ⟨b', off, e, Nat.lt_of_lt_of_le hlt hg.size, fun j hj => ?_⟩
  rw [World.cell?_of_block (w := w) (hg.block b' hlt (fun e' => h2 _ e hn e'.symm))]
  exact hc j hj
theorem Cur.code {w : World} {g : Nat} {ao : Option Addr} {n cap : Nat} {f : Nat → Int} (h : Cur w g ao n cap f) : ∀ a, ao = some a → 0 < n → a.block < w.heap.size := by
  rintro a rfl hn
  obtain ⟨b, off, e, hlt, _⟩ := h.view.cells hn
  cases e
  exact hlt

end Go.Proofs.Ytclegljalndaeac

/-
  Lists that are drawn of.
-/
namespace Go.Proofs.Ytclegljalndaeac
open Go.RowKit
set_option maxRecDepth 4000

/-- The cells of a list of numbers that is laid anew. -/
theorem newInts (w : World) (l : List Int) (t : TypeId) : ∀ i, i < l.length → (w.alloc (.cells (l.map (Value.int .i64)).toArray t)).cell? ⟨w.heap.size, i, none⟩ = some (.int .i64 (l.getD i 0)) := by
  intro i hi
  rw [World.cell?, show (w.alloc (.cells (l.map (Value.int .i64)).toArray t)).heap[w.heap.size]? = some (.cells (l.map (Value.int .i64)).toArray t) from Deep.blk_alloc_new _ _]
  simp [hi]

theorem getD_mem {l : List Int} {j : Nat} (h : j < l.length) : l.getD j 0 ∈ l := by
  simp [h]

theorem Cur.drew {w : World} {g : Nat} {ao : Option Addr} {n cap : Nat} {f : Nat → Int} (h : Cur w g ao n cap f) : Cur w.drew g ao n cap f := h.below (Below.refl _ _).drew
end Go.Proofs.Ytclegljalndaeac

/-
  Drawn texts, as far as a law leans on them.
-/
namespace Go.Proofs.Ytclegljalndaeac
open Go.RowKit
set_option maxRecDepth 4000

set_option maxHeartbeats 1000000 in
theorem l1Str_any (g : Nat) (ao : Option Addr) (n cap : Nat) (f : Nat → Int) (b m : Nat) (z : Nat → ByteArray) (w : World) (hn : n ≤ 1048576) (hm : 0 < m) (hm1 : m ≤ 16777216) (hz : ∀ i, i < m → w.cell? ⟨b, i, none⟩ = some (.string (z i))) (hbg : b ≠ g) (hC : Cur w g ao n cap f) :
    Calls Try.prog 100 #[.pointer (some ⟨g, 0, none⟩), .slice (some ⟨b, 0, none⟩) m m] w fun e w' => ∃ j : Nat, j < m ∧ e = .returned (.string (z j)) ∧ Cur w' g ao n cap f ∧ Only g w w' := by
  go_enter Try.func100, Try.ntmps100
  go_wp2_with fail
  refine (l1Below_any g ao n cap f m w hn (by omega) (by omega) hC).mono ?_
  rintro e w1 ⟨x, rfl, hx0, hx1, hC1, hO1⟩
  obtain ⟨j, rfl⟩ := Int.eq_ofNat_of_zero_le hx0
  have hj : w1.cell? ⟨b, j, none⟩ = some (.string (z j)) := by
    rw [World.cell?_of_block (w := w) (hO1.block b hbg)]; exact hz j (by omega)
  go_wp2
  go_ret
  exact ⟨j, by omega, rfl, hC1, hO1⟩

/-- The cells of a list of texts that is laid anew. -/
theorem newStrs (w : World) (l : List ByteArray) (t : TypeId) : ∀ i, i < l.length → (w.alloc (.cells (l.map Value.string).toArray t)).cell? ⟨w.heap.size, i, none⟩ = some (.string (l.getD i ⟨#[]⟩)) := by
  intro i hi
  rw [World.cell?, show (w.alloc (.cells (l.map Value.string).toArray t)).heap[w.heap.size]? = some (.cells (l.map Value.string).toArray t) from Deep.blk_alloc_new _ _]
  simp [hi]

/-- The texts that are drawn of. -/
def texts : List ByteArray := [⟨#[]⟩, ⟨#[97]⟩, ⟨#[98]⟩, ⟨#[97, 98]⟩, ⟨#[0]⟩, ⟨#[97, 0]⟩, ⟨#[0, 255]⟩, ⟨#[255]⟩, ⟨#[119, 111, 114, 100]⟩, ⟨#[122]⟩]
theorem texts_few (j : Nat) : (texts.getD j ⟨#[]⟩).size ≤ 4 := by
  rcases Nat.lt_or_ge j 10 with h | h
  · match j, h with
    | 0, _ | 1, _ | 2, _ | 3, _ | 4, _ | 5, _ | 6, _ | 7, _ | 8, _ | 9, _ => decide
  · rw [List.getD_eq_getElem?_getD, List.getElem?_eq_none (by show 10 ≤ j; exact h)]
    decide

set_option maxHeartbeats 1000000 in
theorem l2Text_any (g : Nat) (ao : Option Addr) (n cap : Nat) (f : Nat → Int) (w : World) (hn : n ≤ 1048576) (hC : Cur w g ao n cap f) :
    Calls Try.prog 107 #[.pointer (some ⟨g, 0, none⟩)] w fun e w' => ∃ s : ByteArray, e = .returned (.string s) ∧ s.size ≤ 4 ∧ Cur w' g ao n cap f ∧ But g w w' := by
  have hb0 : Below w.heap.size w (w.alloc (.cells (texts.map Value.string).toArray 9)) := (Below.refl _ _).alloc (Nat.le_refl _) _
  have hgl := hC.lt
  have hz := newStrs w texts 9
  have HF : Hid (∀ j, (texts.getD j ⟨#[]⟩).size ≤ 4) := texts_few
  go_enter Try.func107, Try.ntmps107
  go_wp2_with fail
  refine (l1Str_any g ao n cap f w.heap.size 10 (fun i => texts.getD i ⟨#[]⟩) _ hn (by omega) (by omega) hz (by omega) (hC.below hb0)).mono ?_
  rintro e w1 ⟨j, hj, rfl, hC1, hO1⟩
  have hs := HF.out j
  have hB1 : But g w w1 := (But.ofBelow hb0).trans (But.ofOnly hO1)
  generalize texts.getD j ⟨#[]⟩ = s at *
  clear hz hb0 hO1 HF
  go_wp2
  go_ret
  exact ⟨s, rfl, hs, hC1, hB1⟩
end Go.Proofs.Ytclegljalndaeac

/-
  The draw of a number near an edge, as far as a law leans on it.
-/
namespace Go.Proofs.Ytclegljalndaeac
open Go.RowKit
set_option maxRecDepth 4000

/-- An int of 64 bits. -/
def I64 (x : Int) : Prop := -9223372036854775808 ≤ x ∧ x ≤ 9223372036854775807

/-- One of a list of numbers that is laid anew. -/
theorem l1Int_of (g : Nat) (ao : Option Addr) (n cap : Nat) (f : Nat → Int) (l : List Int) (A : Nat) (w : World) (hA : A = w.heap.size) (hn : n ≤ 1048576) (h0 : 0 < l.length) (h1 : l.length ≤ 1000) (hl : ∀ y ∈ l, I64 y) (hC : Cur w g ao n cap f) :
    Calls Try.prog 76 #[.pointer (some ⟨g, 0, none⟩), .slice (some ⟨A, 0, none⟩) l.length l.length] (w.alloc (.cells (l.map (Value.int .i64)).toArray 3)) fun e w' => ∃ x : Int, e = .returned (.int .i64 x) ∧ I64 x ∧ Cur w' g ao n cap f ∧ But g w w' := by
  subst hA
  have hb : Below w.heap.size w (w.alloc (.cells (l.map (Value.int .i64)).toArray 3)) := (Below.refl _ _).alloc (Nat.le_refl _) _
  have hg := hC.lt
  refine (l1Int_any g ao n cap f w.heap.size l.length (fun i => l.getD i 0) _ hn h0 (by omega) (newInts w l 3) (by omega) (hC.below hb)).mono ?_
  rintro e w' ⟨j, hj, rfl, hC2, hO2⟩
  exact ⟨_, rfl, hl _ (getD_mem hj), hC2, (But.ofBelow hb).trans (But.ofOnly hO2)⟩

set_option maxHeartbeats 1000000 in
theorem l1Num_any (g : Nat) (ao : Option Addr) (n cap : Nat) (f : Nat → Int) (w : World) (hn : n ≤ 1048576) (hC : Cur w g ao n cap f) :
    Calls Try.prog 99 #[.pointer (some ⟨g, 0, none⟩)] w fun e w' => ∃ x : Int, e = .returned (.int .i64 x) ∧ I64 x ∧ Cur w' g ao n cap f ∧ But g w w' := by
  go_enter Try.func99, Try.ntmps99
  go_wp2_with fail
  refine (l1Below_any g ao n cap f 100000 w hn (by omega) (by omega) hC).mono ?_
  rintro e w1 ⟨y, rfl, hy0, hy1, hC1, hO1⟩
  clear hC
  go_wp2_with fail
  refine (l1Below_any g ao n cap f 100000 w1 hn (by omega) (by omega) hC1).mono ?_
  rintro e w2 ⟨z, rfl, hz0, hz1, hC2, hO2⟩
  have HB : Hid (But g w w2) := (But.ofOnly hO1).trans (But.ofOnly hO2)
  have HL : Hid (∀ u ∈ [0, 1, -1, 63, 127, 128, 255, 256, 65535, 65536, 2147483647, -2147483648, 2147483648, -2147483649, 1000000000000000, -1000000000000000, 1000000000000001, 9223372036854775807, -9223372036854775808, y, -z], I64 u) := by
    intro u hu
    simp only [List.mem_cons, List.not_mem_nil, or_false] at hu
    unfold I64
    omega
  clear hO1 hO2 hC1
  go_wp2_with fail
  refine (l1Int_of g ao n cap f [0, 1, -1, 63, 127, 128, 255, 256, 65535, 65536, 2147483647, -2147483648, 2147483648, -2147483649, 1000000000000000, -1000000000000000, 1000000000000001, 9223372036854775807, -9223372036854775808, y, -z] _ w2 rfl hn (by simp) (by simp) HL.out hC2).mono ?_
  rintro e w3 ⟨x, rfl, hx, hC3, hB3⟩
  have HX : Hid (I64 x) := hx
  clear HL hx
  go_wp2
  go_ret
  exact ⟨x, rfl, HX.out, hC3, HB.out.trans hB3⟩

end Go.Proofs.Ytclegljalndaeac

/-
  The draws of values, as far as a law leans on them: numbers near an edge, and values of a type.
-/
namespace Go.Proofs.Ytclegljalndaeac
open Go.RowKit
set_option maxRecDepth 4000

set_option maxHeartbeats 1000000 in
theorem l1Once_any (g : Nat) (ao : Option Addr) (n cap : Nat) (f : Nat → Int) (m : Int) (w : World) (hn : n ≤ 1048576) (hm : 0 < m) (hm1 : m ≤ 16777216) (hC : Cur w g ao n cap f) :
    Calls Try.prog 78 #[.pointer (some ⟨g, 0, none⟩), .int .i64 m] w fun e w' => ∃ b : Bool, e = .returned (.bool b) ∧ Cur w' g ao n cap f ∧ Only g w w' := by
  go_enter Try.func78, Try.ntmps78
  go_wp2_with fail
  refine (l1Below_any g ao n cap f m w hn hm hm1 hC).mono ?_
  rintro e w1 ⟨x, rfl, hx0, hx1, hC1, hO1⟩
  go_wp2
  go_ret
  exact ⟨_, rfl, hC1, hO1⟩

theorem Box.but {w w' : World} {B g : Nat} {k n : Int} {s : ByteArray} (h : Box w B k n s) (hb : But g w w') (hne : B ≠ g) : Box w' B k n s := h.of_block (hb.block B h.lt hne)
theorem But.alloc (g : Nat) (w : World) (o : Obj) : But g w (w.alloc o) := But.ofBelow ((Below.refl _ _).alloc (Nat.le_refl _) _)
/-- What is written lies behind what was there. -/
theorem But.setNew {g B i : Nat} {w w' : World} (h : But g w w') (hB : w.heap.size ≤ B) (u : Value) : But g w (w'.setCell ⟨B, i, none⟩ u) :=
  ⟨h.os, h.tape, h.output, by simpa using h.size, fun k hk hg => by rw [Below.heap_setCell _ _ _ _ (by show k ≠ B; omega)]; exact h.block k hk hg⟩
theorem Cur.setNew {w : World} {g : Nat} {ao : Option Addr} {n cap : Nat} {f : Nat → Int} (h : Cur w g ao n cap f) {B i : Nat} (u : Value) (hg : g ≠ B) (hc : ∀ a, ao = some a → 0 < n → a.block ≠ B) : Cur (w.setCell ⟨B, i, none⟩ u) g ao n cap f := by
  obtain ⟨j, k, hr, h0, hi⟩ := h.cells
  refine ⟨⟨j, k, hr.of_block (Below.heap_setCell _ _ _ _ hg), h0, hi⟩, ⟨h.view.le, h.view.byte, fun hn => ?_⟩, h.apart⟩
  obtain ⟨b', off, e, hlt, hcc⟩ := h.view.cells hn
  refine ⟨b', off, e, by simpa using hlt, fun j hj => ?_⟩
  rw [World.cell?_of_block (w := w) (Below.heap_setCell _ _ _ _ (hc _ e hn))]
  exact hcc j hj

/-- Some value, none too long, and the cursor behind its draw. -/
structure DrewV (w : World) (g : Nat) (ao : Option Addr) (n cap : Nat) (f : Nat → Int) (k m : Int) (s : ByteArray) (w' : World) : Prop where
  k64 : I64 k
  m64 : I64 m
  few : s.size ≤ 40
  cur : Cur w' g ao n cap f
  but : But g w w'
end Go.Proofs.Ytclegljalndaeac

/-
  The draw of a value of a type, as far as a law leans on it.
-/
namespace Go.Proofs.Ytclegljalndaeac
open Go.RowKit
set_option maxRecDepth 4000


/-- A value that is put into the result's variable, behind all that was there. -/
theorem DrewV.put {w w' : World} {g : Nat} {ao : Option Addr} {n cap : Nat} {f : Nat → Int} {k m : Int} {s : ByteArray} (hk : I64 k) (hm : I64 m) (hs : s.size ≤ 40) (hC : Cur w' g ao n cap f) (hB : But g w w') (hg : g < w.heap.size) (hc : ∀ a, ao = some a → 0 < n → a.block < w.heap.size) :
    DrewV w g ao n cap f k m s (((w'.setCell ⟨w.heap.size, 0, none⟩ (.int .i64 k)).setCell ⟨w.heap.size, 1, none⟩ (.int .i64 m)).setCell ⟨w.heap.size, 2, none⟩ (.string s)) :=
  ⟨hk, hm, hs, ((hC.setNew _ (by omega) (fun a ha h0 => by have := hc a ha h0; omega)).setNew _ (by omega) (fun a ha h0 => by have := hc a ha h0; omega)).setNew _ (by omega) (fun a ha h0 => by have := hc a ha h0; omega),
    ((hB.setNew (Nat.le_refl _) _).setNew (Nat.le_refl _) _).setNew (Nat.le_refl _) _⟩

set_option maxHeartbeats 2000000 in
theorem l2Of_any (g : Nat) (ao : Option Addr) (n cap : Nat) (f : Nat → Int) (t : Int) (w : World) (hn : n ≤ 1048576) (ht0 : 1 ≤ t) (ht1 : t ≤ 4) (hC : Cur w g ao n cap f) :
    Calls Try.prog 80 #[.pointer (some ⟨g, 0, none⟩), .int .i64 t, .bool true] w fun e w' => ∃ (k m : Int) (s : ByteArray), e = .returned (.agg #[.int .i64 k, .int .i64 m, .string s]) ∧ DrewV w g ao n cap f k m s w' := by
  have hg := hC.lt
  have HC : Hid (∀ a, ao = some a → 0 < n → a.block < w.heap.size) := hC.code
  have hb0 : Below w.heap.size w (w.alloc (.cells #[.int .i64 0, .int .i64 0, .string ⟨#[]⟩] 29)) := (Below.refl _ _).alloc (Nat.le_refl _) _
  have hR0 := Box.new w 0 0 ⟨#[]⟩
  have hC0 := hC.below hb0
  have hB0 : But g w (w.alloc (.cells #[.int .i64 0, .int .i64 0, .string ⟨#[]⟩] 29)) := But.ofBelow hb0
  clear hb0 hC
  go_enter Try.func80, Try.ntmps80
  go_wp2_with fail
  refine (l1Once_any g ao n cap f 4 _ hn (by omega) (by omega) hC0).mono ?_
  rintro e w1 ⟨b, rfl, hC1, hO1⟩
  have hB1 := hB0.trans (But.ofOnly hO1)
  have hR1 := hR0.but (But.ofOnly hO1) (by omega)
  clear hC0 hO1 hR0 hB0
  cases b with
  | true =>
    obtain ⟨c0, c1, c2⟩ := hR1.cells
    obtain ⟨f0, f1, f2⟩ := hR1.frozen
    have hgs := stored3 (.int .i64 0) (.int .i64 0) (.string ⟨#[]⟩) c0 c1 c2
    have HD : Hid (DrewV w g ao n cap f 0 0 ⟨#[]⟩ _) := DrewV.put (by unfold I64; omega) (by unfold I64; omega) (by decide) hC1 hB1 hg HC.out
    clear hC1 hB1 hR1
    go_wp2
    exact bodyPost_ret (v := .agg #[_, _, _]) (by simp [results, Try.results80, go_sem, hgs]) rfl ⟨0, 0, ⟨#[]⟩, rfl, HD.out⟩
  | false =>
    have hlt1 : w.heap.size < w1.heap.size := hR1.lt
    have hb2 : Below w1.heap.size w1 (w1.alloc (.cells #[.int .i64 t, .int .i64 0, .string ⟨#[]⟩] 29)) := (Below.refl _ _).alloc (Nat.le_refl _) _
    have hV2 := Box.new w1 t 0 ⟨#[]⟩
    have hR2 := hR1.below hb2
    have hC2 := hC1.below hb2
    have hB2 := hB1.trans (But.ofBelow (g := g) hb2)
    clear hb2 hC1 hB1 hR1
    obtain rfl | rfl | rfl | rfl : t = 1 ∨ t = 2 ∨ t = 3 ∨ t = 4 := by omega
    · have HL : Hid (∀ u ∈ [0, 1, 2, 3, -1, 255, 256, 2147483647, -2147483648], I64 u) := by
        intro u hu
        simp only [List.mem_cons, List.not_mem_nil, or_false] at hu
        unfold I64
        omega
      go_wp2_with fail
      refine (l1Int_of g ao n cap f [0, 1, 2, 3, -1, 255, 256, 2147483647, -2147483648] (w1.heap.size + 1) (w1.alloc (.cells #[.int .i64 1, .int .i64 0, .string ⟨#[]⟩] 29)) (by simp) hn (by simp) (by simp) HL.out hC2).mono ?_
      rintro e w3 ⟨x, rfl, hx, hC3, hB3⟩
      have HX : Hid (I64 x) := hx
      clear HL hx
      have hV3 := hV2.but hB3 (by omega)
      have hR3 := hR2.but hB3 (by omega)
      have hB4 := hB2.trans hB3
      obtain ⟨c0, c1, c2⟩ := hV3.cells
      obtain ⟨f0, f1, f2⟩ := hV3.frozen
      have hR4 := hR3.other (D := w1.heap.size) (i := 1) (by omega) (.int .i64 x)
      obtain ⟨d0, d1, d2⟩ := hR4.cells
      obtain ⟨r0, r1, r2⟩ := hR3.frozen
      obtain ⟨p0, p1, p2⟩ := hR3.cells
      have hgs := stored3 (.int .i64 1) (.int .i64 x) (.string ⟨#[]⟩) d0 d1 d2
      have HD : Hid (DrewV w g ao n cap f 1 x ⟨#[]⟩ _) := DrewV.put (by unfold I64; omega) HX.out (by decide) (hC3.setNew (B := w1.heap.size) (i := 1) (.int .i64 x) (by omega) (fun a ha h0 => by have := HC.out a ha h0; omega)) (hB4.setNew (Nat.le_of_lt hlt1) _) hg HC.out
      clear hC3 hB3 hB4 hB2 hC2 hV2 hR2 hV3 hR3 hR4
      go_wp2
      exact bodyPost_ret (v := .agg #[_, _, _]) (by simp [results, Try.results80, go_sem, hgs]) rfl ⟨1, x, ⟨#[]⟩, rfl, HD.out⟩
    · go_wp2_with fail
      refine (l1Below_any g ao n cap f 100000 (w1.alloc (.cells #[.int .i64 2, .int .i64 0, .string ⟨#[]⟩] 29)) hn (by omega) (by omega) hC2).mono ?_
      rintro e w2 ⟨y, rfl, hy0, hy1, hCy, hOy⟩
      have HL : Hid (∀ u ∈ [0, 1, -1, 255, 256, -256, -257, 65535, 1000000000000000, -1000000000000000, -y], I64 u) := by
        intro u hu
        simp only [List.mem_cons, List.not_mem_nil, or_false] at hu
        unfold I64
        omega
      have hBy : But g _ w2 := But.ofOnly hOy
      clear hOy
      go_wp2_with fail
      refine (l1Int_of g ao n cap f [0, 1, -1, 255, 256, -256, -257, 65535, 1000000000000000, -1000000000000000, -y] w2.heap.size w2 rfl hn (by simp) (by simp) HL.out hCy).mono ?_
      rintro e w3 ⟨x, rfl, hx, hC3, hB3⟩
      have HX : Hid (I64 x) := hx
      replace hB3 := hBy.trans hB3
      clear HL hx hBy hCy
      have hV3 := hV2.but hB3 (by omega)
      have hR3 := hR2.but hB3 (by omega)
      have hB4 := hB2.trans hB3
      obtain ⟨c0, c1, c2⟩ := hV3.cells
      obtain ⟨f0, f1, f2⟩ := hV3.frozen
      have hR4 := hR3.other (D := w1.heap.size) (i := 1) (by omega) (.int .i64 x)
      obtain ⟨d0, d1, d2⟩ := hR4.cells
      obtain ⟨r0, r1, r2⟩ := hR3.frozen
      obtain ⟨p0, p1, p2⟩ := hR3.cells
      have hgs := stored3 (.int .i64 2) (.int .i64 x) (.string ⟨#[]⟩) d0 d1 d2
      have HD : Hid (DrewV w g ao n cap f 2 x ⟨#[]⟩ _) := DrewV.put (by unfold I64; omega) HX.out (by decide) (hC3.setNew (B := w1.heap.size) (i := 1) (.int .i64 x) (by omega) (fun a ha h0 => by have := HC.out a ha h0; omega)) (hB4.setNew (Nat.le_of_lt hlt1) _) hg HC.out
      clear hC3 hB3 hB4 hB2 hC2 hV2 hR2 hV3 hR3 hR4
      go_wp2
      exact bodyPost_ret (v := .agg #[_, _, _]) (by simp [results, Try.results80, go_sem, hgs]) rfl ⟨2, x, ⟨#[]⟩, rfl, HD.out⟩
    · go_wp2_with fail
      refine (l2Text_any g ao n cap f (w1.alloc (.cells #[.int .i64 3, .int .i64 0, .string ⟨#[]⟩] 29)) hn hC2).mono ?_
      rintro e w3 ⟨s, rfl, hs, hC3, hB3⟩
      have hV3 := hV2.but hB3 (by omega)
      have hR3 := hR2.but hB3 (by omega)
      have hB4 := hB2.trans hB3
      obtain ⟨c0, c1, c2⟩ := hV3.cells
      obtain ⟨f0, f1, f2⟩ := hV3.frozen
      have hR4 := hR3.other (D := w1.heap.size) (i := 2) (by omega) (.string s)
      obtain ⟨d0, d1, d2⟩ := hR4.cells
      obtain ⟨r0, r1, r2⟩ := hR3.frozen
      obtain ⟨p0, p1, p2⟩ := hR3.cells
      have hgs := stored3 (.int .i64 3) (.int .i64 0) (.string s) d0 d1 d2
      have HD : Hid (DrewV w g ao n cap f 3 0 s _) := DrewV.put (by unfold I64; omega) (by unfold I64; omega) (by omega) (hC3.setNew (B := w1.heap.size) (i := 2) (.string s) (by omega) (fun a ha h0 => by have := HC.out a ha h0; omega)) (hB4.setNew (Nat.le_of_lt hlt1) _) hg HC.out
      clear hC3 hB3 hB4 hB2 hC2 hV2 hR2 hV3 hR3 hR4
      go_wp2
      exact bodyPost_ret (v := .agg #[_, _, _]) (by simp [results, Try.results80, go_sem, hgs]) rfl ⟨3, 0, s, rfl, HD.out⟩
    · go_wp2_with fail
      refine (l1Below_any g ao n cap f 2 (w1.alloc (.cells #[.int .i64 4, .int .i64 0, .string ⟨#[]⟩] 29)) hn (by omega) (by omega) hC2).mono ?_
      rintro e w3 ⟨x, rfl, hy0, hy1, hC3, hO3⟩
      have HX : Hid (I64 x) := by show I64 x; unfold I64; omega
      have hB3 : But g _ w3 := But.ofOnly hO3
      clear hO3
      have hV3 := hV2.but hB3 (by omega)
      have hR3 := hR2.but hB3 (by omega)
      have hB4 := hB2.trans hB3
      obtain ⟨c0, c1, c2⟩ := hV3.cells
      obtain ⟨f0, f1, f2⟩ := hV3.frozen
      have hR4 := hR3.other (D := w1.heap.size) (i := 1) (by omega) (.int .i64 x)
      obtain ⟨d0, d1, d2⟩ := hR4.cells
      obtain ⟨r0, r1, r2⟩ := hR3.frozen
      obtain ⟨p0, p1, p2⟩ := hR3.cells
      have hgs := stored3 (.int .i64 4) (.int .i64 x) (.string ⟨#[]⟩) d0 d1 d2
      have HD : Hid (DrewV w g ao n cap f 4 x ⟨#[]⟩ _) := DrewV.put (by unfold I64; omega) HX.out (by decide) (hC3.setNew (B := w1.heap.size) (i := 1) (.int .i64 x) (by omega) (fun a ha h0 => by have := HC.out a ha h0; omega)) (hB4.setNew (Nat.le_of_lt hlt1) _) hg HC.out
      clear hC3 hB3 hB4 hB2 hC2 hV2 hR2 hV3 hR3 hR4
      go_wp2
      exact bodyPost_ret (v := .agg #[_, _, _]) (by simp [results, Try.results80, go_sem, hgs]) rfl ⟨4, x, ⟨#[]⟩, rfl, HD.out⟩
end Go.Proofs.Ytclegljalndaeac

/-
  The draw of a value of a type that may not be nothing, as far as a law leans on it.
-/
namespace Go.Proofs.Ytclegljalndaeac
open Go.RowKit
set_option maxRecDepth 4000

set_option maxHeartbeats 2000000 in
theorem l2Of_no (g : Nat) (ao : Option Addr) (n cap : Nat) (f : Nat → Int) (t : Int) (w : World) (hn : n ≤ 1048576) (ht0 : 1 ≤ t) (ht1 : t ≤ 4) (hC : Cur w g ao n cap f) :
    Calls Try.prog 80 #[.pointer (some ⟨g, 0, none⟩), .int .i64 t, .bool false] w fun e w' => ∃ (k m : Int) (s : ByteArray), e = .returned (.agg #[.int .i64 k, .int .i64 m, .string s]) ∧ DrewV w g ao n cap f k m s w' := by
  have hg := hC.lt
  have HC : Hid (∀ a, ao = some a → 0 < n → a.block < w.heap.size) := hC.code
  have hlt1 : w.heap.size < w.heap.size + 1 := Nat.lt_succ_self _
  obtain ⟨hR2, hV2, hb2⟩ := boxes2 w t
  have hC2 := hC.below hb2
  have hB2 : But g w _ := But.ofBelow hb2
  clear hb2 hC
  obtain rfl | rfl | rfl | rfl : t = 1 ∨ t = 2 ∨ t = 3 ∨ t = 4 := by omega
  · have HL : Hid (∀ u ∈ [0, 1, 2, 3, -1, 255, 256, 2147483647, -2147483648], I64 u) := by
      intro u hu
      simp only [List.mem_cons, List.not_mem_nil, or_false] at hu
      unfold I64
      omega
    go_enter Try.func80, Try.ntmps80
    go_wp2_with fail
    refine (l1Int_of g ao n cap f [0, 1, 2, 3, -1, 255, 256, 2147483647, -2147483648] (w.heap.size + 2) ((w.alloc (.cells #[.int .i64 0, .int .i64 0, .string ⟨#[]⟩] 29)).alloc (.cells #[.int .i64 1, .int .i64 0, .string ⟨#[]⟩] 29)) (by simp) hn (by simp) (by simp) HL.out hC2).mono ?_
    rintro e w3 ⟨x, rfl, hx, hC3, hB3⟩
    have HX : Hid (I64 x) := hx
    clear HL hx
    have hV3 := hV2.but hB3 (by omega)
    have hR3 := hR2.but hB3 (by omega)
    have hB4 := hB2.trans hB3
    obtain ⟨c0, c1, c2⟩ := hV3.cells
    obtain ⟨f0, f1, f2⟩ := hV3.frozen
    have hR4 := hR3.other (D := w.heap.size + 1) (i := 1) (by omega) (.int .i64 x)
    obtain ⟨d0, d1, d2⟩ := hR4.cells
    obtain ⟨r0, r1, r2⟩ := hR3.frozen
    obtain ⟨p0, p1, p2⟩ := hR3.cells
    have hgs := stored3 (.int .i64 1) (.int .i64 x) (.string ⟨#[]⟩) d0 d1 d2
    have HD : Hid (DrewV w g ao n cap f 1 x ⟨#[]⟩ _) := DrewV.put (by unfold I64; omega) HX.out (by decide) (hC3.setNew (B := w.heap.size + 1) (i := 1) (.int .i64 x) (by omega) (fun a ha h0 => by have := HC.out a ha h0; omega)) (hB4.setNew (Nat.le_of_lt hlt1) _) hg HC.out
    clear hC3 hB3 hB4 hB2 hC2 hV2 hR2 hV3 hR3 hR4
    go_wp2
    exact bodyPost_ret (v := .agg #[_, _, _]) (by simp [results, Try.results80, go_sem, hgs]) rfl ⟨1, x, ⟨#[]⟩, rfl, HD.out⟩
  · go_enter Try.func80, Try.ntmps80
    go_wp2_with fail
    refine (l1Below_any g ao n cap f 100000 ((w.alloc (.cells #[.int .i64 0, .int .i64 0, .string ⟨#[]⟩] 29)).alloc (.cells #[.int .i64 2, .int .i64 0, .string ⟨#[]⟩] 29)) hn (by omega) (by omega) hC2).mono ?_
    rintro e w2 ⟨y, rfl, hy0, hy1, hCy, hOy⟩
    have HL : Hid (∀ u ∈ [0, 1, -1, 255, 256, -256, -257, 65535, 1000000000000000, -1000000000000000, -y], I64 u) := by
      intro u hu
      simp only [List.mem_cons, List.not_mem_nil, or_false] at hu
      unfold I64
      omega
    have hBy : But g _ w2 := But.ofOnly hOy
    clear hOy
    go_wp2_with fail
    refine (l1Int_of g ao n cap f [0, 1, -1, 255, 256, -256, -257, 65535, 1000000000000000, -1000000000000000, -y] w2.heap.size w2 rfl hn (by simp) (by simp) HL.out hCy).mono ?_
    rintro e w3 ⟨x, rfl, hx, hC3, hB3⟩
    have HX : Hid (I64 x) := hx
    replace hB3 := hBy.trans hB3
    clear HL hx hBy hCy
    have hV3 := hV2.but hB3 (by omega)
    have hR3 := hR2.but hB3 (by omega)
    have hB4 := hB2.trans hB3
    obtain ⟨c0, c1, c2⟩ := hV3.cells
    obtain ⟨f0, f1, f2⟩ := hV3.frozen
    have hR4 := hR3.other (D := w.heap.size + 1) (i := 1) (by omega) (.int .i64 x)
    obtain ⟨d0, d1, d2⟩ := hR4.cells
    obtain ⟨r0, r1, r2⟩ := hR3.frozen
    obtain ⟨p0, p1, p2⟩ := hR3.cells
    have hgs := stored3 (.int .i64 2) (.int .i64 x) (.string ⟨#[]⟩) d0 d1 d2
    have HD : Hid (DrewV w g ao n cap f 2 x ⟨#[]⟩ _) := DrewV.put (by unfold I64; omega) HX.out (by decide) (hC3.setNew (B := w.heap.size + 1) (i := 1) (.int .i64 x) (by omega) (fun a ha h0 => by have := HC.out a ha h0; omega)) (hB4.setNew (Nat.le_of_lt hlt1) _) hg HC.out
    clear hC3 hB3 hB4 hB2 hC2 hV2 hR2 hV3 hR3 hR4
    go_wp2
    exact bodyPost_ret (v := .agg #[_, _, _]) (by simp [results, Try.results80, go_sem, hgs]) rfl ⟨2, x, ⟨#[]⟩, rfl, HD.out⟩
  · go_enter Try.func80, Try.ntmps80
    go_wp2_with fail
    refine (l2Text_any g ao n cap f ((w.alloc (.cells #[.int .i64 0, .int .i64 0, .string ⟨#[]⟩] 29)).alloc (.cells #[.int .i64 3, .int .i64 0, .string ⟨#[]⟩] 29)) hn hC2).mono ?_
    rintro e w3 ⟨s, rfl, hs, hC3, hB3⟩
    have hV3 := hV2.but hB3 (by omega)
    have hR3 := hR2.but hB3 (by omega)
    have hB4 := hB2.trans hB3
    obtain ⟨c0, c1, c2⟩ := hV3.cells
    obtain ⟨f0, f1, f2⟩ := hV3.frozen
    have hR4 := hR3.other (D := w.heap.size + 1) (i := 2) (by omega) (.string s)
    obtain ⟨d0, d1, d2⟩ := hR4.cells
    obtain ⟨r0, r1, r2⟩ := hR3.frozen
    obtain ⟨p0, p1, p2⟩ := hR3.cells
    have hgs := stored3 (.int .i64 3) (.int .i64 0) (.string s) d0 d1 d2
    have HD : Hid (DrewV w g ao n cap f 3 0 s _) := DrewV.put (by unfold I64; omega) (by unfold I64; omega) (by omega) (hC3.setNew (B := w.heap.size + 1) (i := 2) (.string s) (by omega) (fun a ha h0 => by have := HC.out a ha h0; omega)) (hB4.setNew (Nat.le_of_lt hlt1) _) hg HC.out
    clear hC3 hB3 hB4 hB2 hC2 hV2 hR2 hV3 hR3 hR4
    go_wp2
    exact bodyPost_ret (v := .agg #[_, _, _]) (by simp [results, Try.results80, go_sem, hgs]) rfl ⟨3, 0, s, rfl, HD.out⟩
  · go_enter Try.func80, Try.ntmps80
    go_wp2_with fail
    refine (l1Below_any g ao n cap f 2 ((w.alloc (.cells #[.int .i64 0, .int .i64 0, .string ⟨#[]⟩] 29)).alloc (.cells #[.int .i64 4, .int .i64 0, .string ⟨#[]⟩] 29)) hn (by omega) (by omega) hC2).mono ?_
    rintro e w3 ⟨x, rfl, hy0, hy1, hC3, hO3⟩
    have HX : Hid (I64 x) := by show I64 x; unfold I64; omega
    have hB3 : But g _ w3 := But.ofOnly hO3
    clear hO3
    have hV3 := hV2.but hB3 (by omega)
    have hR3 := hR2.but hB3 (by omega)
    have hB4 := hB2.trans hB3
    obtain ⟨c0, c1, c2⟩ := hV3.cells
    obtain ⟨f0, f1, f2⟩ := hV3.frozen
    have hR4 := hR3.other (D := w.heap.size + 1) (i := 1) (by omega) (.int .i64 x)
    obtain ⟨d0, d1, d2⟩ := hR4.cells
    obtain ⟨r0, r1, r2⟩ := hR3.frozen
    obtain ⟨p0, p1, p2⟩ := hR3.cells
    have hgs := stored3 (.int .i64 4) (.int .i64 x) (.string ⟨#[]⟩) d0 d1 d2
    have HD : Hid (DrewV w g ao n cap f 4 x ⟨#[]⟩ _) := DrewV.put (by unfold I64; omega) HX.out (by decide) (hC3.setNew (B := w.heap.size + 1) (i := 1) (.int .i64 x) (by omega) (fun a ha h0 => by have := HC.out a ha h0; omega)) (hB4.setNew (Nat.le_of_lt hlt1) _) hg HC.out
    clear hC3 hB3 hB4 hB2 hC2 hV2 hR2 hV3 hR3 hR4
    go_wp2
    exact bodyPost_ret (v := .agg #[_, _, _]) (by simp [results, Try.results80, go_sem, hgs]) rfl ⟨4, x, ⟨#[]⟩, rfl, HD.out⟩
end Go.Proofs.Ytclegljalndaeac

