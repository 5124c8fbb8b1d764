/-
  Together: Base, Plain, PutPlain, TokPlain, DefPlain, But, DefView, DefBox, SizeDef, CopyBy, CopyCol, Row34, CopyIdx
-/
import Derived.WalkKit
import Derived.Deep.OwnRows
import Derived.Deep.LoopGhost
import Derived.OpenShut
import Derived.Laws.BitsAllLaws
import Derived.Laws.Bits128
import Derived.Test.YtfjlmkphnciglatGreatDoorProg
/-
  What a walk over bytes is told of a slice of bytes that it reads ('View'), and how that is carried from one world to the next. No program text is named here.
-/
namespace Go.Proofs.YtfjlmkphnciglatGreatDoor
open Go.RowKit
set_option maxRecDepth 4000

/-- The slice value '.slice ao n cap' reads, in the world w, as the n bytes f 0 up to f (n - 1). -/
structure View (w : World) (ao : Option Addr) (n cap : Nat) (f : Nat → Int) : Prop where
  le : n ≤ cap
  byte : ∀ i, i < n → 0 ≤ f i ∧ f i ≤ 255
  cells : 0 < n → ∃ b off, ao = some ⟨b, off, none⟩ ∧ b < w.heap.size ∧ ∀ i, i < n → w.cell? ⟨b, off + i, none⟩ = some (.int .u8 (f i))

/-- What was there reads as it did. -/
theorem View.below {w w' : World} {ao : Option Addr} {n cap : Nat} {f : Nat → Int} (h : View w ao n cap f) (hb : Below w.heap.size w w') : View w' ao n cap f := by
  refine ⟨h.le, h.byte, fun hn => ?_⟩
  obtain ⟨b, off, e, hlt, hc⟩ := h.cells hn
  exact ⟨b, off, e, Nat.lt_of_lt_of_le hlt hb.size, fun i hi => by rw [hb.cell (p := ⟨b, off + i, none⟩) hlt]; exact hc i hi⟩

theorem View.drew {w : World} {ao : Option Addr} {n cap : Nat} {f : Nat → Int} (h : View w ao n cap f) : View w.drew ao n cap f := h.below (Below.refl _ _).drew

theorem View.take {w : World} {ao : Option Addr} {n cap m : Nat} {f : Nat → Int} (h : View w ao n cap f) (hm : m ≤ n) : View w ao m cap f := by
  refine ⟨Nat.le_trans hm h.le, fun i hi => h.byte i (by omega), fun h0 => ?_⟩
  obtain ⟨b, off, e, hb, hc⟩ := h.cells (by omega)
  exact ⟨b, off, e, hb, fun i hi => hc i (by omega)⟩

theorem View.congr {w : World} {ao : Option Addr} {n cap : Nat} {f g : Nat → Int} (h : View w ao n cap f) (e : ∀ i, i < n → f i = g i) : View w ao n cap g := by
  refine ⟨h.le, fun i hi => by rw [← e i hi]; exact h.byte i hi, fun hn => ?_⟩
  obtain ⟨b, off, ea, hlt, hc⟩ := h.cells hn
  exact ⟨b, off, ea, hlt, fun i hi => by rw [← e i hi]; exact hc i hi⟩

/-- What the frame of a row hands over of a slice of bytes that came in, as a view. -/
theorem View.ofIn {w : World} {a : Option Addr} {len cap : Nat} {zs : List Int}
    (h : (a = none ∧ len = 0 ∧ cap = 0 ∧ zs = []) ∨ ∃ x, a = some x ∧ len ≤ cap ∧ cap ≤ maxLen ∧ zs.length = cap ∧ (∀ i, i < zs.length → w.cell? (x.add i) = some (.int .u8 (zs.getD i 0))) ∧ ∀ n ∈ zs, (Lit.int .u8 n).wf = true) :
    View w a len cap (fun i => zs.getD i 0) := by
  rcases h with ⟨rfl, rfl, rfl, rfl⟩ | ⟨x, rfl, hl, _, hz, hc, hw⟩
  · exact ⟨Nat.le_refl _, fun i hi => absurd hi (Nat.not_lt_zero _), fun h => absurd h (Nat.lt_irrefl _)⟩
  · refine ⟨hl, fun i _ => by simpa using range_u8 hw i, fun hn => ?_⟩
    obtain ⟨b, off, spot⟩ := x
    have h0 := hc 0 (by omega)
    have hs : spot = none := by simpa [Addr.add] using World.cell?_spot h0
    subst hs
    refine ⟨b, off, rfl, ?_, fun i hi => ?_⟩
    · exact World.block_lt_of_cell? _ _ h0
    · have h1 := hc i (by omega)
      have e : (⟨b, off, none⟩ : Addr).add i = ⟨b, off + i, none⟩ := by unfold Addr.add; split <;> simp_all
      rw [e] at h1
      exact h1

theorem lenOfIn {w : World} {a : Option Addr} {len cap : Nat} {zs : List Int}
    (h : (a = none ∧ len = 0 ∧ cap = 0 ∧ zs = []) ∨ ∃ x, a = some x ∧ len ≤ cap ∧ cap ≤ maxLen ∧ zs.length = cap ∧ (∀ i, i < zs.length → w.cell? (x.add i) = some (.int .u8 (zs.getD i 0))) ∧ ∀ n ∈ zs, (Lit.int .u8 n).wf = true) : len ≤ 9223372036854775807 := by
  rcases h with ⟨_, rfl, _, _⟩ | ⟨_, _, h1, h2, _⟩
  · exact Nat.zero_le _
  · unfold maxLen at h2; omega

/-- A row of the call's own reads as what it holds. -/
theorem View.ofRow {w : World} {b : Nat} {t : TypeId} {m n cap : Nat} {f : Nat → Int} (h : w.rowIs b t m (fun i => .int .u8 (f i))) (hn : n ≤ m) (hc : n ≤ cap) (hb : ∀ i, i < n → 0 ≤ f i ∧ f i ≤ 255) : View w (some ⟨b, 0, none⟩) n cap f :=
  ⟨hc, hb, fun _ => ⟨b, 0, rfl, h.lt, fun i hi => by rw [Nat.zero_add]; exact h.cell (by omega)⟩⟩

theorem rowBelow {w w' : World} {b : Nat} {t : TypeId} {n : Nat} {f : Nat → Value} {B : Nat} (h : w.rowIs b t n f) (hb : Below B w w') (hlt : b < B) : w'.rowIs b t n f := h.of_block (hb.block b hlt)

/-- Block b is a row of bytes of the call's own, none frozen, whose first n are f 0 up to f (n - 1) (t: the number of the bytes' type). -/
def Row (t : TypeId) (w : World) (b n : Nat) (f : Nat → Int) : Prop :=
  ∃ c : Array Value, w.heap[b]? = some (.cells c t (0, 0)) ∧ n ≤ c.size ∧ ∀ i, i < n → c[i]? = some (.int .u8 (f i))

namespace Row
variable {t : TypeId} {w w' : World} {b n : Nat} {f g : Nat → Int}
theorem cell (h : Row t w b n f) {i : Nat} (hi : i < n) : w.cell? ⟨b, i, none⟩ = some (.int .u8 (f i)) := by
  obtain ⟨c, hb, _, hc⟩ := h
  simp [World.cell?, hb, hc i hi]
theorem frozen (h : Row t w b n f) (i : Nat) : w.frozen? ⟨b, i, none⟩ = false := by
  obtain ⟨c, hb, _, _⟩ := h
  simp [World.frozen?, hb]
theorem lt (h : Row t w b n f) : b < w.heap.size := by
  obtain ⟨c, hb, _, _⟩ := h
  exact (Array.getElem?_eq_some_iff.1 hb).1
theorem congr (h : Row t w b n f) (e : ∀ i, i < n → f i = g i) : Row t w b n g := by
  obtain ⟨c, hb, hn, hc⟩ := h
  exact ⟨c, hb, hn, fun i hi => by rw [hc i hi, e i hi]⟩
theorem of_block (h : Row t w b n f) (e : w'.heap[b]? = w.heap[b]?) : Row t w' b n f := by
  obtain ⟨c, hb, hn, hc⟩ := h
  exact ⟨c, e.trans hb, hn, hc⟩
theorem below {B : Nat} (h : Row t w b n f) (hb : Below B w w') (hlt : b < B) : Row t w' b n f := h.of_block (hb.block b hlt)
theorem belowAll (h : Row t w b n f) (hb : Below w.heap.size w w') : Row t w' b n f := h.below hb h.lt
theorem ofIs (h : w.rowIs b t n (fun i => .int .u8 (f i))) : Row t w b n f := by
  obtain ⟨c, hb, hn, hc⟩ := h
  exact ⟨c, hb, by omega, hc⟩
theorem set (h : Row t w b n f) (i : Nat) (x : Int) : Row t (w.setCell ⟨b, i, none⟩ (.int .u8 x)) b n (fun j => if j = i then x else f j) := by
  obtain ⟨c, hb, hn, hc⟩ := h
  refine ⟨c.setIfInBounds i (.int .u8 x), ?_, by simpa using hn, fun j hj => ?_⟩
  · simp [World.setCell, Array.getElem?_modify, hb]
  · rw [Array.getElem?_setIfInBounds]
    by_cases e : j = i
    · subst e
      have : j < c.size := by omega
      simp [this]
    · rw [if_neg (fun h => e h.symm)]
      show c[j]? = some (.int .u8 (if j = i then x else f j))
      rw [if_neg e]
      exact hc j hj
theorem view {cap : Nat} (h : Row t w b n f) (hc : n ≤ cap) (hb : ∀ i, i < n → 0 ≤ f i ∧ f i ≤ 255) : View w (some ⟨b, 0, none⟩) n cap f :=
  ⟨hc, hb, fun _ => ⟨b, 0, rfl, h.lt, fun i hi => by rw [Nat.zero_add]; exact h.cell hi⟩⟩
end Row

/-- Block b alone may have turned; no block has come or gone. -/
structure Only (b : Nat) (w w' : World) : Prop where
  os : w'.os = w.os
  tape : w'.tape = w.tape
  output : w'.output = w.output
  size : w'.heap.size = w.heap.size
  block : ∀ k, k ≠ b → w'.heap[k]? = w.heap[k]?

theorem Only.refl (b : Nat) (w : World) : Only b w w := ⟨rfl, rfl, rfl, rfl, fun _ _ => rfl⟩
theorem Only.drew {b : Nat} {w w' : World} (h : Only b w w') : Only b w w'.drew := ⟨h.os, h.tape, h.output, h.size, h.block⟩
theorem Only.setCell {b i : Nat} {w w' : World} (h : Only b w w') (u : Value) : Only b w (w'.setCell ⟨b, i, none⟩ u) :=
  ⟨h.os, h.tape, h.output, by simpa using h.size, fun k hk => by rw [Below.heap_setCell _ _ _ _ (by exact hk)]; exact h.block k hk⟩
theorem Only.below {b B : Nat} {w w' : World} (h : Only b w w') (hB : B ≤ b) : Below B w w' :=
  ⟨h.os, h.tape, h.output, by rw [h.size]; exact Nat.le_refl _, fun k hk => h.block k (by omega)⟩
theorem Only.row {t : TypeId} {b b' n : Nat} {f : Nat → Int} {w w' : World} (h : Only b w w') (hr : Row t w b' n f) (hne : b' ≠ b) : Row t w' b' n f := hr.of_block (h.block b' hne)
theorem Only.view {b : Nat} {ao : Option Addr} {n cap : Nat} {f : Nat → Int} {w w' : World} (h : Only b w w') (hv : View w ao n cap f) (hne : ∀ a, ao = some a → a.block ≠ b) : View w' ao n cap f := by
  refine ⟨hv.le, hv.byte, fun hn => ?_⟩
  obtain ⟨b', off, e, hlt, hc⟩ := hv.cells hn
  refine ⟨b', off, e, by rw [h.size]; exact hlt, fun i hi => ?_⟩
  rw [World.cell?_of_block (w := w) (h.block b' (hne _ e))]
  exact hc i hi

end Go.Proofs.YtfjlmkphnciglatGreatDoor

/-
  Plain facts on numbers: and, or, exclusive or of two numbers that are not negative, as Go's int has them. No program text is named here.
-/
namespace Go.Proofs.YtfjlmkphnciglatGreatDoor
open Go.RowKit
set_option maxRecDepth 4000

theorem wrapNat63 (n : Nat) (h : n < 9223372036854775808) : IntKind.i64.wrap (n : Int) = (n : Int) := by
  rw [IntKind.wrap_i64]; omega

theorem i64_xor_nat (a b : Nat) (ha : a < 9223372036854775808) (hb : b < 9223372036854775808) : bits .xor .i64 (a : Int) (b : Int) = ((a ^^^ b : Nat) : Int) := by
  have h : a ^^^ b < 9223372036854775808 := Nat.xor_lt_two_pow (n := 63) ha hb
  show IntKind.i64.wrap ((BitVec.ofInt 64 (a : Int) ^^^ BitVec.ofInt 64 (b : Int)).toNat : Nat) = _
  rw [BitVec.toNat_xor, ofInt_u64 a (by omega), ofInt_u64 b (by omega), wrapNat63 _ h]

theorem i64_or_nat (a b : Nat) (ha : a < 9223372036854775808) (hb : b < 9223372036854775808) : bits .or .i64 (a : Int) (b : Int) = ((a ||| b : Nat) : Int) := by
  have h : a ||| b < 9223372036854775808 := Nat.or_lt_two_pow (n := 63) ha hb
  show IntKind.i64.wrap ((BitVec.ofInt 64 (a : Int) ||| BitVec.ofInt 64 (b : Int)).toNat : Nat) = _
  rw [BitVec.toNat_or, ofInt_u64 a (by omega), ofInt_u64 b (by omega), wrapNat63 _ h]

theorem i64_and_nat (a b : Nat) (ha : a < 9223372036854775808) (hb : b < 9223372036854775808) : bits .and .i64 (a : Int) (b : Int) = ((a &&& b : Nat) : Int) := by
  have h : a &&& b < 9223372036854775808 := Nat.and_lt_two_pow (n := 63) _ hb
  show IntKind.i64.wrap ((BitVec.ofInt 64 (a : Int) &&& BitVec.ofInt 64 (b : Int)).toNat : Nat) = _
  rw [BitVec.toNat_and, ofInt_u64 a (by omega), ofInt_u64 b (by omega), wrapNat63 _ h]

theorem i64_and1 (n : Nat) (h : n < 9223372036854775808) : bits .and .i64 (n : Int) 1 = ((n % 2 : Nat) : Int) := by
  have := i64_and_nat n 1 h (by decide)
  rw [nat_mask1] at this; exact this

/-- What is laid above the lower i bits is added. -/
theorem i64_or_add (i : Nat) (a b : Int) (h0 : 0 ≤ a) (h1 : a < 2 ^ i) (h2 : 0 ≤ b) (h3 : b % 2 ^ i = 0) (h4 : b < 9223372036854775808) (h5 : (2 : Int) ^ i ≤ 9223372036854775808) : bits .or .i64 a b = a + b := by
  obtain ⟨x, rfl⟩ := Int.eq_ofNat_of_zero_le h0
  obtain ⟨y, rfl⟩ := Int.eq_ofNat_of_zero_le h2
  have e : ((2 ^ i : Nat) : Int) = 2 ^ i := by simp
  rw [← e] at h1 h3 h5
  have h3' : y % 2 ^ i = 0 := by omega
  rw [i64_or_nat x y (by omega) (by omega), Nat.or_comm, nat_join i y x h3' (by omega)]
  omega

theorem u8_wrap (x : Int) : IntKind.u8.wrap x = x % 256 := by simp [IntKind.wrap, IntKind.bits, IntKind.signed]

end Go.Proofs.YtfjlmkphnciglatGreatDoor

/-
  A number as its groups, plainly; lists of bytes that the call owns as rows.
-/
namespace Go.Proofs.YtfjlmkphnciglatGreatDoor
open Go.RowKit
set_option maxRecDepth 4000

def groups (x : Int) : List Int := if x < 128 then [x] else if x < 16384 then [x % 128 + 128, x / 128] else [x % 128 + 128, x / 128 % 128 + 128, x / 16384]
theorem groups_last (x : Int) (h : x < 128) : groups x = [x] := by unfold groups; rw [if_pos h]
theorem groups_step (x : Int) (h : 128 ≤ x) (h1 : x ≤ 1000000) : groups x = (x % 128 + 128) :: groups (x / 128) := by
  unfold groups
  rw [if_neg (by omega)]
  by_cases h2 : x < 16384
  · rw [if_pos h2, if_pos (by omega)]
  · rw [if_neg h2, if_neg (by omega), if_pos (by omega)]
    have : x / 128 / 128 = x / 16384 := by omega
    rw [this]
theorem groups_len (x : Int) : 1 ≤ (groups x).length ∧ (groups x).length ≤ 3 := by
  unfold groups; split
  · simp
  · split <;> simp
theorem groups_byte (x : Int) (h0 : 0 ≤ x) (h1 : x ≤ 1000000) : ∀ y ∈ groups x, 0 ≤ y ∧ y ≤ 255 := by
  unfold groups; intro y hy; split at hy
  · simp at hy; omega
  · split at hy
    · simp at hy; omega
    · simp at hy; omega

def clampN (x : Int) : Int := if x < 0 then 0 else if 1000000 < x then 1000000 else x
theorem clampN_bd (x : Int) : 0 ≤ clampN x ∧ clampN x ≤ 1000000 := by unfold clampN; split <;> (try split) <;> omega

def lof (n : Nat) (f : Nat → Int) : List Int := (List.range n).map f
theorem lof_len (n : Nat) (f : Nat → Int) : (lof n f).length = n := by simp [lof]
theorem lof_get (n : Nat) (f : Nat → Int) (i : Nat) (h : i < n) : (lof n f).getD i 0 = f i := by simp [lof, h]
def bl (l : List Int) : List Value := l.map (Value.int .u8)
theorem bl_len (l : List Int) : (bl l).length = l.length := by simp [bl]
theorem bl_append (l m : List Int) : bl (l ++ m) = bl l ++ bl m := by simp [bl]
theorem bl_one (l : List Int) : ∀ u ∈ bl l, u.oneCell' = true := by
  intro u hu
  simp only [bl, List.mem_map] at hu
  obtain ⟨x, _, rfl⟩ := hu
  rfl

/-- What the call owns as a list of bytes, as a row. -/
theorem row_of_own {base : Nat} {t : TypeId} {v : Value} {N : Nat} {l : List Int} {w : World} (h : w.ownsRow base t 1 v N (bl l)) (hN : 0 < N) :
    ∃ g c, v = .slice (some ⟨g, 0, none⟩) N c ∧ base ≤ g ∧ N ≤ c ∧ Row t w g N (fun i => l.getD i 0) := by
  obtain ⟨hl, h⟩ := h
  rcases h with ⟨_, h0⟩ | ⟨g, c, cur, rfl, hb, hg, hnc, _, hcs, ht⟩
  · omega
  · refine ⟨g, c, rfl, hb, hnc, cur, hg, by omega, fun i hi => ?_⟩
    have e : (bl l)[i]? = some (.int .u8 (l.getD i 0)) := by
      have : i < l.length := by rw [bl_len] at hl; omega
      simp [bl, this]
    rw [← ht, List.getElem?_take, if_pos (by omega)] at e
    simpa using e

theorem row_of_own' {base : Nat} {t : TypeId} {v : Value} {N : Nat} {l : List Int} {w : World} (h : w.ownsRow base t 1 v N (bl l)) (hv : v ≠ .slice none 0 0) :
    ∃ g c, v = .slice (some ⟨g, 0, none⟩) N c ∧ base ≤ g ∧ N ≤ c ∧ Row t w g N (fun i => l.getD i 0) := by
  obtain ⟨hl, h⟩ := h
  rcases h with ⟨h0, _⟩ | ⟨g, c, cur, rfl, hb, hg, hnc, _, hcs, ht⟩
  · exact absurd h0 hv
  · refine ⟨g, c, rfl, hb, hnc, cur, hg, by omega, fun i hi => ?_⟩
    have e : (bl l)[i]? = some (.int .u8 (l.getD i 0)) := by
      have : i < l.length := by rw [bl_len] at hl; omega
      simp [bl, this]
    rw [← ht, List.getElem?_take, if_pos (by omega)] at e
    simpa using e
theorem row_of_owned {base : Nat} {t : TypeId} {g N c : Nat} {l : List Int} {w : World} (h : w.ownsRow base t 1 (.slice (some ⟨g, 0, none⟩) N c) N (bl l)) : Row t w g N (fun i => l.getD i 0) := by
  obtain ⟨hl, h⟩ := h
  rcases h with ⟨h, _⟩ | ⟨g', c', cur, e, hb, hg, hnc, _, hcs, ht⟩
  · cases h
  · simp only [Value.slice.injEq, Option.some.injEq, Addr.mk.injEq, and_true, true_and] at e
    obtain ⟨rfl, rfl⟩ := e
    refine ⟨cur, hg, by omega, fun i hi => ?_⟩
    have e : (bl l)[i]? = some (.int .u8 (l.getD i 0)) := by
      have : i < l.length := by rw [bl_len] at hl; omega
      simp [bl, this]
    rw [← ht, List.getElem?_take, if_pos (by omega)] at e
    simpa using e
theorem lof_self (l : List Int) : lof l.length (fun i => l.getD i 0) = l := by
  apply List.ext_getElem
  · simp [lof]
  · intro i h1 h2
    simp [lof, h2]

/-- One new cell. -/
theorem cellNew (w : World) (x : Value) (t : TypeId) : ∀ j u, [x][j]? = some u → (w.alloc (.cells #[x] t)).cell? ((⟨w.heap.size, 0, none⟩ : Addr).add j) = some u := by
  intro j u hj
  match j, hj with
  | 0, hj => simp at hj; subst hj; simp [Addr.add]

/-- The cells of a slice that reads, as the law on appending asks for them. -/
theorem cells_of_view {w : World} {b off n cap : Nat} {f : Nat → Int} (h : View w (some ⟨b, off, none⟩) n cap f) : ∀ j u, (bl (lof n f))[j]? = some u → w.cell? ((⟨b, off, none⟩ : Addr).add j) = some u := by
  intro j u hu
  have hj : j < n := by
    by_cases hj : j < n
    · exact hj
    · rw [List.getElem?_eq_none (by rw [bl_len, lof_len]; omega)] at hu; cases hu
  obtain ⟨b', off', e, _, hc⟩ := h.cells (by omega)
  simp only [Option.some.injEq, Addr.mk.injEq, and_true] at e
  obtain ⟨rfl, rfl⟩ := e
  have ea : (⟨b, off, none⟩ : Addr).add j = ⟨b, off + j, none⟩ := by unfold Addr.add; split <;> simp_all
  rw [ea, hc j hj]
  simp [bl, lof, hj] at hu
  rw [hu]

theorem put_byte (n : Nat) (f : Nat → Int) (gs : List Int) (hf : ∀ i, i < n → 0 ≤ f i ∧ f i ≤ 255) (hg : ∀ y ∈ gs, 0 ≤ y ∧ y ≤ 255) : ∀ i, i < n + gs.length → 0 ≤ (lof n f ++ gs).getD i 0 ∧ (lof n f ++ gs).getD i 0 ≤ 255 := by
  intro i hi
  by_cases h : i < n
  · have e : (lof n f ++ gs).getD i 0 = f i := by
      rw [← lof_get n f i h, List.getD_eq_getElem?_getD, List.getD_eq_getElem?_getD, List.getElem?_append_left (by rw [lof_len]; exact h)]
    rw [e]; exact hf i h
  · have e : (lof n f ++ gs).getD i 0 = gs.getD (i - n) 0 := by
      rw [List.getD_eq_getElem?_getD, List.getD_eq_getElem?_getD, List.getElem?_append_right (by rw [lof_len]; omega), lof_len]
    rw [e]
    have hi' : i - n < gs.length := by omega
    have : gs.getD (i - n) 0 = gs[i - n] := by simp [hi']
    rw [this]
    exact hg _ (List.getElem_mem hi')

end Go.Proofs.YtfjlmkphnciglatGreatDoor

/-
  Tokens, plainly: bytes of a text, names, marks, and a text as its tokens.
-/
namespace Go.Proofs.YtfjlmkphnciglatGreatDoor
open Go.RowKit
set_option maxRecDepth 4000

/-- A byte of a text. -/
def bt (s : ByteArray) (i : Nat) : Int := if h : i < s.size then (s[i].toNat : Int) else 0
theorem bt_at {s : ByteArray} {i : Nat} (h : i < s.size) : (s[i].toNat : Int) = bt s i := by unfold bt; rw [dif_pos h]
theorem bt_bd (s : ByteArray) (i : Nat) : 0 ≤ bt s i ∧ bt s i ≤ 255 := by
  unfold bt
  split
  · have := s[i].toNat_lt; omega
  · omega
def small (c : Int) : Bool := decide (97 ≤ c ∧ c ≤ 122)
def digit (c : Int) : Bool := decide (48 ≤ c ∧ c ≤ 57)
def blank (c : Int) : Bool := decide (c = 32 ∨ c = 9 ∨ c = 10 ∨ c = 13)
def markC (c : Int) : Bool := decide (c = 123 ∨ c = 125 ∨ c = 44 ∨ c = 59)
/-- Whether a byte goes on with a name. -/
def inName (c : Int) : Bool := small c || digit c
/-- Whether a text is a name. -/
def nameOk (s : ByteArray) : Bool := decide (1 ≤ s.size ∧ s.size ≤ 8 ∧ small (bt s 0) = true ∧ ∀ i, i < s.size → inName (bt s i) = true)
/-- Whether a text is a mark. -/
def markOk (s : ByteArray) : Bool := decide (s.size = 1 ∧ markC (bt s 0) = true)
/-- Whether a token is right. -/
def tokOk (k : Int) (s : ByteArray) : Bool := if k = 1 then nameOk s else if k = 2 then markOk s else false

/-- The end of the name that goes on at a place. -/
def endN (s : ByteArray) (i : Nat) : Nat := if _h : i < s.size ∧ inName (bt s i) = true then endN s (i + 1) else i
  termination_by s.size - i
theorem endN_step {s : ByteArray} {i : Nat} (h : i < s.size) (h1 : inName (bt s i) = true) : endN s i = endN s (i + 1) := by
  conv => lhs; unfold endN
  rw [dif_pos ⟨h, h1⟩]
theorem endN_stop {s : ByteArray} {i : Nat} (h : ¬ (i < s.size ∧ inName (bt s i) = true)) : endN s i = i := by
  unfold endN; rw [dif_neg h]
theorem endN_ge (s : ByteArray) (i : Nat) : i ≤ endN s i := by
  unfold endN
  split
  · have := endN_ge s (i + 1); omega
  · exact Nat.le_refl _
  termination_by s.size - i
theorem endN_le (s : ByteArray) (i : Nat) (hi : i ≤ s.size) : endN s i ≤ s.size := by
  unfold endN
  split
  · rename_i h; exact endN_le s (i + 1) (by omega)
  · exact hi
  termination_by s.size - i

/-- The kind and the end of the token at a place. -/
def kindAt (s : ByteArray) (i : Nat) : Int := if small (bt s i) then 1 else 2
def stopAt (s : ByteArray) (i : Nat) : Nat := if small (bt s i) then endN s (i + 1) else i + 1
theorem stopAt_gt (s : ByteArray) (i : Nat) : i < stopAt s i := by
  unfold stopAt
  split
  · have := endN_ge s (i + 1); omega
  · omega
theorem stopAt_le {s : ByteArray} {i : Nat} (h : i < s.size) : stopAt s i ≤ s.size := by
  unfold stopAt
  split
  · exact endN_le s (i + 1) (by omega)
  · omega
/-- A text's tokens from a place on, behind those that are there; and -1, or the place where there is none. -/
def lexF (s : ByteArray) (i : Nat) (l : List (Int × ByteArray)) : List (Int × ByteArray) × Int :=
  if _h : i < s.size then
    if blank (bt s i) then lexF s (i + 1) l
    else if tokOk (kindAt s i) (s.extract i (stopAt s i)) = true ∧ l.length ≠ 500 then lexF s (stopAt s i) (l ++ [(kindAt s i, s.extract i (stopAt s i))])
    else ([], (i : Int))
  else (l, -1)
  termination_by s.size - i
  decreasing_by
    · omega
    · have := stopAt_gt s i; omega
theorem lexF_end {s : ByteArray} {i : Nat} {l : List (Int × ByteArray)} (h : ¬ i < s.size) : lexF s i l = (l, -1) := by unfold lexF; rw [dif_neg h]
theorem lexF_blank {s : ByteArray} {i : Nat} {l : List (Int × ByteArray)} (h : i < s.size) (hb : blank (bt s i) = true) : lexF s i l = lexF s (i + 1) l := by
  conv => lhs; unfold lexF
  rw [dif_pos h, if_pos hb]
theorem lexF_tok {s : ByteArray} {i : Nat} {l : List (Int × ByteArray)} (h : i < s.size) (hb : blank (bt s i) = false) (ht : tokOk (kindAt s i) (s.extract i (stopAt s i)) = true) (hl : l.length ≠ 500) : lexF s i l = lexF s (stopAt s i) (l ++ [(kindAt s i, s.extract i (stopAt s i))]) := by
  conv => lhs; unfold lexF
  rw [dif_pos h, if_neg (by rw [hb]; simp), if_pos ⟨ht, hl⟩]
theorem lexF_no {s : ByteArray} {i : Nat} {l : List (Int × ByteArray)} (h : i < s.size) (hb : blank (bt s i) = false) (ht : ¬ (tokOk (kindAt s i) (s.extract i (stopAt s i)) = true ∧ l.length ≠ 500)) : lexF s i l = ([], (i : Int)) := by
  unfold lexF
  rw [dif_pos h, if_neg (by rw [hb]; simp), if_neg ht]

/-- There are at most 500. -/
theorem lexF_few (s : ByteArray) (i : Nat) (l : List (Int × ByteArray)) (hl : l.length ≤ 500) : (lexF s i l).1.length ≤ 500 := by
  by_cases h : i < s.size
  · cases hb : blank (bt s i) with
    | true => rw [lexF_blank h hb]; exact lexF_few s (i + 1) l hl
    | false =>
      by_cases ht : tokOk (kindAt s i) (s.extract i (stopAt s i)) = true ∧ l.length ≠ 500
      · rw [lexF_tok h hb ht.1 ht.2]
        exact lexF_few s (stopAt s i) _ (by rw [List.length_append]; simp; omega)
      · rw [lexF_no h hb ht]; exact Nat.zero_le _
  · rw [lexF_end h]; exact hl
  termination_by s.size - i
  decreasing_by all_goals (have := stopAt_gt s i; omega)

/-- The bytes of a piece of a text. -/
theorem bt_extract {s : ByteArray} {i e j : Nat} (he : e ≤ s.size) (hj : i + j < e) : bt (s.extract i e) j = bt s (i + j) := by
  have h1 : j < (s.extract i e).size := by rw [ByteArray.size_extract]; omega
  rw [← bt_at h1, ← bt_at (s := s) (i := i + j) (by omega), ByteArray.getElem_extract]
end Go.Proofs.YtfjlmkphnciglatGreatDoor

/-
  Tables, plainly: columns, parts, indexes; what is wrong with one; whether two are the same.
-/
namespace Go.Proofs.YtfjlmkphnciglatGreatDoor
open Go.RowKit
set_option maxRecDepth 4000

structure PCol where
  name : ByteArray
  type : Int
  null : Bool
structure PBy where
  col : Int
  desc : Bool
structure PIdx where
  name : ByteArray
  uniq : Bool
  n : Nat
  part : Nat → PBy
structure PDef where
  name : ByteArray
  nc : Nat
  col : Nat → PCol
  np : Nat
  pri : Nat → PBy
  ni : Nat
  idx : Nat → PIdx

/-- The words that are no names: table, primary, unique, index, null, desc, int, num, text, bool. -/
def kwords : List (List UInt8) := [[116, 97, 98, 108, 101], [112, 114, 105, 109, 97, 114, 121], [117, 110, 105, 113, 117, 101], [105, 110, 100, 101, 120], [110, 117, 108, 108], [100, 101, 115, 99], [105, 110, 116], [110, 117, 109], [116, 101, 120, 116], [98, 111, 111, 108]]
def isKw (s : ByteArray) : Bool := kwords.contains s.toList
/-- Whether a text may be a name in a table. -/
def wordOk (s : ByteArray) : Bool := nameOk s && !isKw s

def namesF (D : PDef) : Bool := decide ((∀ i, i < D.nc → wordOk (D.col i).name = true) ∧ (∀ i, i < D.ni → wordOk (D.idx i).name = true) ∧ wordOk D.name = true)
def typesF (D : PDef) : Bool := decide ((∀ i, i < D.nc → 1 ≤ (D.col i).type ∧ (D.col i).type ≤ 4) ∧ 1 ≤ D.nc ∧ D.nc ≤ 6)
def onceF (D : PDef) : Bool := decide ((∀ i, i < D.nc → ∀ j, j < i → (D.col j).name ≠ (D.col i).name) ∧ (∀ i, i < D.ni → ∀ j, j < i → (D.idx j).name ≠ (D.idx i).name))
def partsF (nc n : Nat) (f : Nat → PBy) : Bool := decide ((∀ i, i < n → 0 ≤ (f i).col ∧ (f i).col < nc ∧ (0 < i → (f 0).col ≠ (f i).col)) ∧ 1 ≤ n ∧ n ≤ 2)
def allPartsF (D : PDef) : Bool := decide ((∀ i, i < D.ni → partsF D.nc (D.idx i).n (D.idx i).part = true) ∧ partsF D.nc D.np D.pri = true)
def nullF (D : PDef) : Bool := decide (∃ i, i < D.np ∧ (D.col (D.pri i).col.toNat).null = true)
/-- What is wrong with a table: the first that holds. -/
def checkF (D : PDef) : Int :=
  if namesF D = false then 1 else if typesF D = false then 2 else if onceF D = false then 3 else if 2 < D.ni then 6 else if allPartsF D = false then 5 else if nullF D then 4 else 0

def sameByF (n : Nat) (f : Nat → PBy) (m : Nat) (g : Nat → PBy) : Bool := decide (n = m ∧ ∀ i, i < n → (f i).col = (g i).col ∧ (f i).desc = (g i).desc)
/-- Whether two tables are the same. -/
def sameF (D E : PDef) : Bool :=
  decide (D.name = E.name ∧ D.nc = E.nc ∧ D.ni = E.ni ∧ sameByF D.np D.pri E.np E.pri = true ∧ (∀ i, i < D.nc → (D.col i).name = (E.col i).name ∧ (D.col i).type = (E.col i).type ∧ (D.col i).null = (E.col i).null)
    ∧ (∀ i, i < D.ni → (D.idx i).name = (E.idx i).name ∧ (D.idx i).uniq = (E.idx i).uniq ∧ sameByF (D.idx i).n (D.idx i).part (E.idx i).n (E.idx i).part = true))

theorem partsF_two {nc n : Nat} {f : Nat → PBy} (h : partsF nc n f = true) : 1 ≤ n ∧ n ≤ 2 := by
  unfold partsF at h; exact (of_decide_eq_true h).2
theorem partsF_in {nc n : Nat} {f : Nat → PBy} (h : partsF nc n f = true) {i : Nat} (hi : i < n) : 0 ≤ (f i).col ∧ (f i).col < nc := by
  unfold partsF at h; have := (of_decide_eq_true h).1 i hi; exact ⟨this.1, this.2.1⟩
/-- What a table is that nothing is wrong with. -/
theorem checkF_good {D : PDef} (h : checkF D = 0) : namesF D = true ∧ typesF D = true ∧ onceF D = true ∧ D.ni ≤ 2 ∧ allPartsF D = true ∧ nullF D = false := by
  unfold checkF at h
  cases h1 : namesF D <;> rw [h1] at h
  · simp at h
  cases h2 : typesF D <;> rw [h2] at h
  · simp at h
  cases h3 : onceF D <;> rw [h3] at h
  · simp at h
  by_cases h4 : 2 < D.ni
  · simp [h4] at h
  cases h5 : allPartsF D <;> rw [h5] at h
  · simp [h4] at h
  cases h6 : nullF D <;> rw [h6] at h
  · exact ⟨rfl, rfl, rfl, by omega, rfl, rfl⟩
  · simp [h4] at h
end Go.Proofs.YtfjlmkphnciglatGreatDoor

/-
  What turns but one block: how it is carried.
-/
namespace Go.Proofs.YtfjlmkphnciglatGreatDoor
open Go.RowKit
set_option maxRecDepth 4000

/-- Of what was there block g alone may have turned. -/
structure But (g : Nat) (w w' : World) : Prop where
  os : w'.os = w.os
  tape : w'.tape = w.tape
  output : w'.output = w.output
  size : w.heap.size ≤ w'.heap.size
  block : ∀ k, k < w.heap.size → k ≠ g → w'.heap[k]? = w.heap[k]?

theorem But.refl (g : Nat) (w : World) : But g w w := ⟨rfl, rfl, rfl, Nat.le_refl _, fun _ _ _ => rfl⟩
theorem But.trans {g : Nat} {a b c : World} (h : But g a b) (k : But g b c) : But g a c :=
  ⟨k.os.trans h.os, k.tape.trans h.tape, k.output.trans h.output, Nat.le_trans h.size k.size, fun i hi hg => (k.block i (Nat.lt_of_lt_of_le hi h.size) hg).trans (h.block i hi hg)⟩
theorem But.ofOnly {g : Nat} {w w' : World} (h : Only g w w') : But g w w' := ⟨h.os, h.tape, h.output, by rw [h.size]; exact Nat.le_refl _, fun k _ hk => h.block k hk⟩
theorem But.ofBelow {g : Nat} {w w' : World} (h : Below w.heap.size w w') : But g w w' := ⟨h.os, h.tape, h.output, h.size, fun k hk _ => h.block k hk⟩
theorem But.below {g B : Nat} {w w' : World} (h : But g w w') (hB : B ≤ g) (hs : B ≤ w.heap.size) : Below B w w' := ⟨h.os, h.tape, h.output, h.size, fun k hk => h.block k (by omega) (by omega)⟩
theorem But.row {t : TypeId} {g b n : Nat} {f : Nat → Int} {w w' : World} (h : But g w w') (hr : Row t w b n f) (hne : b ≠ g) : Row t w' b n f := hr.of_block (h.block b hr.lt hne)
theorem But.view {g : Nat} {ao : Option Addr} {n cap : Nat} {f : Nat → Int} {w w' : World} (h : But g w w') (hv : View w ao n cap f) (hne : ∀ a, ao = some a → 0 < n → a.block ≠ g) : View w' ao n cap f := by
  refine ⟨hv.le, hv.byte, fun hn => ?_⟩
  obtain ⟨b', off, e, hlt, hc⟩ := hv.cells hn
  refine ⟨b', off, e, Nat.lt_of_lt_of_le hlt h.size, fun i hi => ?_⟩
  rw [World.cell?_of_block (w := w) (h.block b' hlt (hne _ e hn))]
  exact hc i hi
theorem Only.grown {g : Nat} {w w' : World} (h : Only g w w') : w.grownBy w' (some g) :=
  ⟨h.os, h.tape, h.output, by rw [h.size]; exact Nat.le_refl _, fun k _ hk => h.block k (fun e => hk (by rw [e]))⟩
theorem But.grown {g : Nat} {w w' : World} (h : But g w w') : w.grownBy w' (some g) := ⟨h.os, h.tape, h.output, h.size, fun k hk hne => h.block k hk (fun e => hne (by rw [e]))⟩
end Go.Proofs.YtfjlmkphnciglatGreatDoor

/-
  Rows of columns, of parts and of indexes that read, and a table that reads; how that is carried from one world to the next.
-/
namespace Go.Proofs.YtfjlmkphnciglatGreatDoor
open Go.RowKit
set_option maxRecDepth 4000

/-- The slice value '.slice ao n cap' reads as n columns. -/
structure CView (w : World) (ao : Option Addr) (n cap : Nat) (f : Nat → PCol) : Prop where
  le : n ≤ cap
  cells : 0 < n → ∃ b off, ao = some ⟨b, off, none⟩ ∧ b < w.heap.size ∧ ∀ i, i < n → w.cell? ⟨b, off + i * 3, none⟩ = some (.string (f i).name) ∧ w.cell? ⟨b, off + i * 3 + 1, none⟩ = some (.int .i64 (f i).type) ∧ w.cell? ⟨b, off + i * 3 + 2, none⟩ = some (.bool (f i).null)
/-- .. as n parts. -/
structure BView (w : World) (ao : Option Addr) (n cap : Nat) (f : Nat → PBy) : Prop where
  le : n ≤ cap
  cells : 0 < n → ∃ b off, ao = some ⟨b, off, none⟩ ∧ b < w.heap.size ∧ ∀ i, i < n → w.cell? ⟨b, off + i * 2, none⟩ = some (.int .i64 (f i).col) ∧ w.cell? ⟨b, off + i * 2 + 1, none⟩ = some (.bool (f i).desc)
/-- .. as n indexes. -/
structure IView (w : World) (ao : Option Addr) (n cap : Nat) (f : Nat → PIdx) : Prop where
  le : n ≤ cap
  cells : 0 < n → ∃ b off, ao = some ⟨b, off, none⟩ ∧ b < w.heap.size ∧ ∀ i, i < n → w.cell? ⟨b, off + i * 3, none⟩ = some (.string (f i).name) ∧ w.cell? ⟨b, off + i * 3 + 1, none⟩ = some (.bool (f i).uniq) ∧ ∃ a c, w.cell? ⟨b, off + i * 3 + 2, none⟩ = some (.slice a (f i).n c) ∧ BView w a (f i).n c (f i).part
/-- A table's value. -/
structure DView (w : World) (v : Value) (D : PDef) : Prop where
  is : ∃ ac cc ap cp ai ci, v = .agg #[.string D.name, .slice ac D.nc cc, .slice ap D.np cp, .slice ai D.ni ci] ∧ CView w ac D.nc cc D.col ∧ BView w ap D.np cp D.pri ∧ IView w ai D.ni ci D.idx

theorem CView.below {w w' : World} {ao : Option Addr} {n cap : Nat} {f : Nat → PCol} (h : CView w ao n cap f) (hb : Below w.heap.size w w') : CView w' ao n cap f := by
  refine ⟨h.le, fun hn => ?_⟩
  obtain ⟨b, off, e, hlt, hc⟩ := h.cells hn
  refine ⟨b, off, e, Nat.lt_of_lt_of_le hlt hb.size, fun i hi => ?_⟩
  rw [hb.cell (p := ⟨b, off + i * 3, none⟩) hlt, hb.cell (p := ⟨b, off + i * 3 + 1, none⟩) hlt, hb.cell (p := ⟨b, off + i * 3 + 2, none⟩) hlt]
  exact hc i hi
theorem BView.below {w w' : World} {ao : Option Addr} {n cap : Nat} {f : Nat → PBy} (h : BView w ao n cap f) (hb : Below w.heap.size w w') : BView w' ao n cap f := by
  refine ⟨h.le, fun hn => ?_⟩
  obtain ⟨b, off, e, hlt, hc⟩ := h.cells hn
  refine ⟨b, off, e, Nat.lt_of_lt_of_le hlt hb.size, fun i hi => ?_⟩
  rw [hb.cell (p := ⟨b, off + i * 2, none⟩) hlt, hb.cell (p := ⟨b, off + i * 2 + 1, none⟩) hlt]
  exact hc i hi
theorem IView.below {w w' : World} {ao : Option Addr} {n cap : Nat} {f : Nat → PIdx} (h : IView w ao n cap f) (hb : Below w.heap.size w w') : IView w' ao n cap f := by
  refine ⟨h.le, fun hn => ?_⟩
  obtain ⟨b, off, e, hlt, hc⟩ := h.cells hn
  refine ⟨b, off, e, Nat.lt_of_lt_of_le hlt hb.size, fun i hi => ?_⟩
  rw [hb.cell (p := ⟨b, off + i * 3, none⟩) hlt, hb.cell (p := ⟨b, off + i * 3 + 1, none⟩) hlt, hb.cell (p := ⟨b, off + i * 3 + 2, none⟩) hlt]
  obtain ⟨h0, h1, a, c, h2, hv⟩ := hc i hi
  exact ⟨h0, h1, a, c, h2, hv.below hb⟩
theorem DView.below {w w' : World} {v : Value} {D : PDef} (h : DView w v D) (hb : Below w.heap.size w w') : DView w' v D := by
  obtain ⟨ac, cc, ap, cp, ai, ci, e, h1, h2, h3⟩ := h.is
  exact ⟨ac, cc, ap, cp, ai, ci, e, h1.below hb, h2.below hb, h3.below hb⟩
theorem CView.take {w : World} {ao : Option Addr} {n cap m : Nat} {f : Nat → PCol} (h : CView w ao n cap f) (hm : m ≤ n) : CView w ao m cap f := by
  refine ⟨Nat.le_trans hm h.le, fun hn => ?_⟩
  obtain ⟨b, off, e, hlt, hc⟩ := h.cells (by omega)
  exact ⟨b, off, e, hlt, fun i hi => hc i (by omega)⟩
end Go.Proofs.YtfjlmkphnciglatGreatDoor

/-
  A table in a variable of the call's own.
-/
namespace Go.Proofs.YtfjlmkphnciglatGreatDoor
open Go.RowKit
set_option maxRecDepth 4000

/-- Numbers of columns, parts and indexes, and texts, that are not great. -/
structure DFine (D : PDef) : Prop where
  name : D.name.size ≤ 1048576
  nc : D.nc ≤ 1048576
  col : ∀ i, i < D.nc → (D.col i).name.size ≤ 1048576
  np : D.np ≤ 1048576
  ni : D.ni ≤ 1048576
  idx : ∀ i, i < D.ni → (D.idx i).name.size ≤ 1048576 ∧ (D.idx i).n ≤ 1048576

/-- What was put into a variable of four cells is there while nothing of it is written. -/
theorem box4 {w wr : World} {T : TypeId} {x0 x1 x2 x3 : Value} (h : Below (w.heap.size + 1) (w.alloc (.cells #[x0, x1, x2, x3] T)) wr) :
    wr.cell? ⟨w.heap.size, 0, none⟩ = some x0 ∧ wr.cell? ⟨w.heap.size, 1, none⟩ = some x1 ∧ wr.cell? ⟨w.heap.size, 2, none⟩ = some x2 ∧ wr.cell? ⟨w.heap.size, 3, none⟩ = some x3 := by
  refine ⟨?_, ?_, ?_, ?_⟩
  all_goals (rw [h.cell (by simp)]; simp [go_sem])
theorem box4_below {w wr : World} {o : Obj} (h : Below (w.heap.size + 1) (w.alloc o) wr) : Below w.heap.size w wr ∧ w.heap.size + 1 ≤ wr.heap.size := by
  refine ⟨((Below.refl _ _).alloc (Nat.le_refl _) _).trans (h.mono (by simp)), ?_⟩
  have := h.size
  simpa using this
theorem box4_start (w : World) (o : Obj) : Below (w.heap.size + 1) (w.alloc o) (w.alloc o) := Below.refl _ _
theorem box4_on {w wr w' : World} {o : Obj} (h : Below (w.heap.size + 1) (w.alloc o) wr) (h' : Below wr.heap.size wr w') : Below (w.heap.size + 1) (w.alloc o) w' := h.trans (h'.mono (box4_below h).2)
end Go.Proofs.YtfjlmkphnciglatGreatDoor

/-
  How much a table holds, as the law counts it; where that is not too much, nothing of it is long.
-/
namespace Go.Proofs.YtfjlmkphnciglatGreatDoor
open Go.RowKit
set_option maxRecDepth 4000

/-- Texts and rows that a machine can have. -/
structure DLim (D : PDef) : Prop where
  name : D.name.size ≤ maxLen
  nc : D.nc ≤ maxLen
  col : ∀ i, i < D.nc → (D.col i).name.size ≤ maxLen
  np : D.np ≤ maxLen
  ni : D.ni ≤ maxLen
  idx : ∀ i, i < D.ni → (D.idx i).name.size ≤ maxLen ∧ (D.idx i).n ≤ maxLen

/-- What a count comes to: too much, or what is left. -/
def Left (w : World) (left : Int) (P : Prop) (e : Ending) (w' : World) : Prop := ∃ L : Int, e = .returned (.int .i64 L) ∧ Below w.heap.size w w' ∧ (L = -1 ∨ (0 ≤ L ∧ L ≤ left ∧ P))

set_option maxHeartbeats 1000000 in
theorem szCol_fine (s : ByteArray) (t : Int) (z : Bool) (left : Int) (w : World) (hs : s.size ≤ maxLen) (h0 : 0 ≤ left) (hl : left ≤ 1048576) :
    Calls Tryz.prog 34 #[.agg #[.string s, .int .i64 t, .bool z], .int .i64 left] w (Left w left (s.size ≤ 1048576)) := by
  have hs' : (s.size : Int) ≤ 9223372036854775807 := by unfold maxLen at hs; omega
  by_cases hb : left - (s.size : Int) < 0
  · go_enter Tryz.func34, Tryz.ntmps34
    go_wp2
    go_ret
    exact ⟨_, rfl, (Below.refl _ _).alloc (Nat.le_refl _) _, .inl rfl⟩
  · go_enter Tryz.func34, Tryz.ntmps34
    go_wp2
    go_ret
    exact ⟨_, rfl, (Below.refl _ _).alloc (Nat.le_refl _) _, .inr ⟨by omega, by omega, by omega⟩⟩
set_option maxHeartbeats 1000000 in
theorem szByS_fine (a : Option Addr) (n cap : Nat) (left : Int) (w : World) (hs : n ≤ maxLen) (h0 : 0 ≤ left) (hl : left ≤ 1048576) :
    Calls Tryz.prog 13 #[.slice a n cap, .int .i64 left] w (Left w left (n ≤ 1048576)) := by
  have hs' : (n : Int) ≤ 9223372036854775807 := by unfold maxLen at hs; omega
  by_cases hb : left - (n : Int) < 0
  · go_enter Tryz.func13, Tryz.ntmps13
    go_wp2
    go_ret
    exact ⟨_, rfl, Below.refl _ _, .inl rfl⟩
  · go_enter Tryz.func13, Tryz.ntmps13
    go_wp2
    go_ret
    exact ⟨_, rfl, Below.refl _ _, .inr ⟨by omega, by omega, by omega⟩⟩
set_option maxHeartbeats 1000000 in
theorem szIndex_fine (s : ByteArray) (u : Bool) (a : Option Addr) (n cap : Nat) (left : Int) (w : World) (hs : s.size ≤ maxLen) (hn : n ≤ maxLen) (h0 : 0 ≤ left) (hl : left ≤ 1048576) :
    Calls Tryz.prog 35 #[.agg #[.string s, .bool u, .slice a n cap], .int .i64 left] w (Left w left (s.size ≤ 1048576 ∧ n ≤ 1048576)) := by
  have hs' : (s.size : Int) ≤ 9223372036854775807 := by unfold maxLen at hs; omega
  by_cases hb : left - (s.size : Int) < 0
  · go_enter Tryz.func35, Tryz.ntmps35
    go_wp2
    go_ret
    exact ⟨_, rfl, (Below.refl _ _).alloc (Nat.le_refl _) _, .inl rfl⟩
  · have hS := fun W => szByS_fine a n cap (left - s.size) W hn (by omega) (by omega)
    go_enter Tryz.func35, Tryz.ntmps35
    go_wp2_with fail
    refine (hS _).mono ?_
    rintro e w1 ⟨L, rfl, hb1, hL⟩
    have HB : Hid (Below w.heap.size w w1) := ((Below.refl _ _).alloc (Nat.le_refl _) _).trans (hb1.mono (by simp))
    clear hS hb1
    rcases hL with rfl | ⟨hL0, hL1, hP⟩
    · go_wp2
      go_ret
      exact ⟨_, rfl, HB.out, .inl rfl⟩
    · have hLn : ¬ L < 0 := by omega
      go_wp2
      go_ret
      exact ⟨_, rfl, HB.out, .inr ⟨by omega, by omega, by omega, hP⟩⟩

set_option maxHeartbeats 2000000 in
theorem szColS_fine (a : Option Addr) (n cap : Nat) (f : Nat → PCol) (left : Int) (w : World) (h : CView w a n cap f) (hn : n ≤ maxLen) (hz : ∀ i, i < n → (f i).name.size ≤ maxLen) (h0 : 0 ≤ left) (hl : left ≤ 1048576) :
    Calls Tryz.prog 12 #[.slice a n cap, .int .i64 left] w (Left w left (n ≤ 1048576 ∧ ∀ i, i < n → (f i).name.size ≤ 1048576)) := by
  have hn' : (n : Int) ≤ 9223372036854775807 := by unfold maxLen at hn; omega
  by_cases hb : left - (n : Int) < 0
  · go_enter Tryz.func12, Tryz.ntmps12
    go_wp2
    go_ret
    exact ⟨_, rfl, Below.refl _ _, .inl rfl⟩
  go_enter Tryz.func12, Tryz.ntmps12
  go_wp2
  go_loopg [1, 5] n (fun q l i wr => ∃ (k : Nat) (L : Int), k ≤ n ∧ q = n - k ∧ l = .int .i64 L ∧ i = .int .i64 k ∧ Below w.heap.size w wr ∧ 0 ≤ L ∧ L ≤ left - n ∧ Hid (∀ i, i < k → (f i).name.size ≤ 1048576))
  case atStart => exact ⟨0, left - n, Nat.zero_le _, rfl, rfl, rfl, Below.refl _ _, by omega, by omega, fun i hi => absurd hi (Nat.not_lt_zero _)⟩
  case round =>
    obtain ⟨k, L, hk, rfl, rfl, rfl, hB, hL0, hL1, HA⟩ := hrel
    by_cases hlt : k < n
    · obtain ⟨b1, o1, rfl, hb1, hc1⟩ := (h.below hB).cells (by omega)
      obtain ⟨x0, x1, x2⟩ := hc1 k hlt
      have hkz : (k : Int) < (n : Int) := by omega
      have hS := fun W => szCol_fine (f k).name (f k).type (f k).null L W (hz k hlt) hL0 (by omega)
      have HN : Hid ((f k).name.size ≤ 1048576 → ∀ i, i < k + 1 → (f i).name.size ≤ 1048576) := by
        intro hp i hi
        by_cases e : i < k
        · exact HA.out i e
        · obtain rfl : i = k := by omega
          exact hp
      clear hc1 h hz HA
      obtain ⟨p0, hp0⟩ : ∃ x, Hid ((f k).name = x) := ⟨_, rfl⟩
      obtain ⟨p1, hp1⟩ : ∃ x, Hid ((f k).type = x) := ⟨_, rfl⟩
      obtain ⟨p2, hp2⟩ : ∃ x, Hid ((f k).null = x) := ⟨_, rfl⟩
      rw [hp0.out] at x0 HN
      rw [hp1.out] at x1
      rw [hp2.out] at x2
      simp only [hp0.out, hp1.out, hp2.out] at hS
      go_wp2_with fail
      refine (hS _).mono ?_
      rintro e w1 ⟨L', rfl, hb1', hL⟩
      have HB : Hid (Below w.heap.size w w1) := hB.trans (hb1'.mono hB.size)
      clear hS hb1' hB
      rcases hL with rfl | ⟨hL0', hL1', hP⟩
      · go_wp2
        go_ret
        exact ⟨_, rfl, HB.out, .inl rfl⟩
      · have hLn : ¬ L' < 0 := by omega
        have HN2 : Hid (∀ i, i < k + 1 → (f i).name.size ≤ 1048576) := HN.out hP
        clear HN
        go_wp2
        go_roundg (n - (k + 1))
        case measure => omega
        case rel => exact ⟨k + 1, L', by omega, rfl, rfl, by go_num, HB.out, by omega, by omega, HN2⟩
    · have hkz : ¬ (k : Int) < (n : Int) := by omega
      clear h hz
      go_wp2
      go_ret
      exact ⟨_, rfl, hB, .inr ⟨hL0, by omega, by omega, fun i hi => HA.out i (by omega)⟩⟩

set_option maxHeartbeats 2000000 in
theorem szIndexS_fine (a : Option Addr) (n cap : Nat) (f : Nat → PIdx) (left : Int) (w : World) (h : IView w a n cap f) (hn : n ≤ maxLen) (hz : ∀ i, i < n → (f i).name.size ≤ maxLen ∧ (f i).n ≤ maxLen) (h0 : 0 ≤ left) (hl : left ≤ 1048576) :
    Calls Tryz.prog 14 #[.slice a n cap, .int .i64 left] w (Left w left (n ≤ 1048576 ∧ ∀ i, i < n → (f i).name.size ≤ 1048576 ∧ (f i).n ≤ 1048576)) := by
  have hn' : (n : Int) ≤ 9223372036854775807 := by unfold maxLen at hn; omega
  by_cases hb : left - (n : Int) < 0
  · go_enter Tryz.func14, Tryz.ntmps14
    go_wp2
    go_ret
    exact ⟨_, rfl, Below.refl _ _, .inl rfl⟩
  go_enter Tryz.func14, Tryz.ntmps14
  go_wp2
  go_loopg [1, 5] n (fun q l i wr => ∃ (k : Nat) (L : Int), k ≤ n ∧ q = n - k ∧ l = .int .i64 L ∧ i = .int .i64 k ∧ Below w.heap.size w wr ∧ 0 ≤ L ∧ L ≤ left - n ∧ Hid (∀ i, i < k → (f i).name.size ≤ 1048576 ∧ (f i).n ≤ 1048576))
  case atStart => exact ⟨0, left - n, Nat.zero_le _, rfl, rfl, rfl, Below.refl _ _, by omega, by omega, fun i hi => absurd hi (Nat.not_lt_zero _)⟩
  case round =>
    obtain ⟨k, L, hk, rfl, rfl, rfl, hB, hL0, hL1, HA⟩ := hrel
    by_cases hlt : k < n
    · obtain ⟨b1, o1, rfl, hb1, hc1⟩ := (h.below hB).cells (by omega)
      obtain ⟨x0, x1, a2, c2, x2, -⟩ := hc1 k hlt
      have hkz : (k : Int) < (n : Int) := by omega
      have hS := fun W => szIndex_fine (f k).name (f k).uniq a2 (f k).n c2 L W (hz k hlt).1 (hz k hlt).2 hL0 (by omega)
      have HN : Hid ((f k).name.size ≤ 1048576 ∧ (f k).n ≤ 1048576 → ∀ i, i < k + 1 → (f i).name.size ≤ 1048576 ∧ (f i).n ≤ 1048576) := by
        intro hp i hi
        by_cases e : i < k
        · exact HA.out i e
        · obtain rfl : i = k := by omega
          exact hp
      clear hc1 h hz HA
      obtain ⟨p0, hp0⟩ : ∃ x, Hid ((f k).name = x) := ⟨_, rfl⟩
      obtain ⟨p1, hp1⟩ : ∃ x, Hid ((f k).uniq = x) := ⟨_, rfl⟩
      obtain ⟨p2, hp2⟩ : ∃ x, Hid ((f k).n = x) := ⟨_, rfl⟩
      rw [hp0.out] at x0
      rw [hp1.out] at x1
      rw [hp2.out] at x2
      rw [hp0.out, hp2.out] at HN
      simp only [hp0.out, hp1.out, hp2.out] at hS
      go_wp2_with fail
      refine (hS _).mono ?_
      rintro e w1 ⟨L', rfl, hb1', hL⟩
      have HB : Hid (Below w.heap.size w w1) := hB.trans (hb1'.mono hB.size)
      clear hS hb1' hB
      rcases hL with rfl | ⟨hL0', hL1', hP⟩
      · go_wp2
        go_ret
        exact ⟨_, rfl, HB.out, .inl rfl⟩
      · have hLn : ¬ L' < 0 := by omega
        have HN2 : Hid (∀ i, i < k + 1 → (f i).name.size ≤ 1048576 ∧ (f i).n ≤ 1048576) := HN.out hP
        clear HN hP
        go_wp2
        go_roundg (n - (k + 1))
        case measure => omega
        case rel => exact ⟨k + 1, L', by omega, rfl, rfl, by go_num, HB.out, by omega, by omega, HN2⟩
    · have hkz : ¬ (k : Int) < (n : Int) := by omega
      clear h hz
      go_wp2
      go_ret
      exact ⟨_, rfl, hB, .inr ⟨hL0, by omega, by omega, fun i hi => HA.out i (by omega)⟩⟩

set_option maxHeartbeats 2000000 in
theorem szDef_fine (v : Value) (D : PDef) (left : Int) (w : World) (h : DView w v D) (hm : DLim D) (h0 : 0 ≤ left) (hl : left ≤ 1048576) :
    Calls Tryz.prog 5 #[v, .int .i64 left] w (Left w left (DFine D)) := by
  obtain ⟨ac, cc, ap, cp, ai, ci, rfl, hc, hp, hi⟩ := h.is
  clear h
  have hs' : (D.name.size : Int) ≤ 9223372036854775807 := by have := hm.name; unfold maxLen at this; omega
  have hB0 := box4_start w (.cells #[.string D.name, .slice ac D.nc cc, .slice ap D.np cp, .slice ai D.ni ci] 26)
  obtain ⟨hBw0, -⟩ := box4_below hB0
  by_cases hb : left - (D.name.size : Int) < 0
  · clear hc hp hi
    go_enter Tryz.func5, Tryz.ntmps5
    go_wp2
    go_ret
    exact ⟨_, rfl, hBw0, .inl rfl⟩
  have h1 := szColS_fine ac D.nc cc D.col (left - D.name.size) _ (hc.below hBw0) hm.nc hm.col (by omega) (by omega)
  go_enter Tryz.func5, Tryz.ntmps5
  go_wp2_with fail
  refine h1.mono ?_
  rintro e w1 ⟨L1, rfl, hb1, hL⟩
  have hB1 := box4_on hB0 hb1
  obtain ⟨hBw1, hs1⟩ := box4_below hB1
  obtain ⟨x0, x1, x2, x3⟩ := box4 hB1
  clear h1 hb1 hB0 hBw0 hc
  rcases hL with rfl | ⟨a0, a1, aP⟩
  · clear hp hi
    go_wp2
    go_ret
    exact ⟨_, rfl, hBw1, .inl rfl⟩
  have n1 : ¬ L1 < 0 := by omega
  have HP1 : Hid (D.nc ≤ 1048576 ∧ ∀ i, i < D.nc → (D.col i).name.size ≤ 1048576) := aP
  have h2 := szByS_fine ap D.np cp L1 w1 hm.np a0 (by omega)
  clear aP
  go_wp2_with fail
  refine h2.mono ?_
  rintro e w2 ⟨L2, rfl, hb2, hL⟩
  have hB2 := box4_on hB1 hb2
  obtain ⟨hBw2, hs2⟩ := box4_below hB2
  clear x0 x1 x2 x3
  obtain ⟨x0, x1, x2, x3⟩ := box4 hB2
  clear h2 hb2 hB1 hBw1 hs1 hp
  rcases hL with rfl | ⟨c0, c1, cP⟩
  · clear hi
    go_wp2
    go_ret
    exact ⟨_, rfl, hBw2, .inl rfl⟩
  have n2 : ¬ L2 < 0 := by omega
  have h3 := szIndexS_fine ai D.ni ci D.idx L2 w2 (hi.below hBw2) hm.ni hm.idx c0 (by omega)
  go_wp2_with fail
  refine h3.mono ?_
  rintro e w3 ⟨L3, rfl, hb3, hL⟩
  have HB3 : Hid (Below w.heap.size w w3) := (box4_below (box4_on hB2 hb3)).1
  clear h3 hb3 hB2 hBw2 hs2 hi x0 x1 x2 x3
  rcases hL with rfl | ⟨d0, d1, dP⟩
  · go_wp2
    go_ret
    exact ⟨_, rfl, HB3.out, .inl rfl⟩
  have n3 : ¬ L3 < 0 := by omega
  have HF : Hid (DFine D) := ⟨by omega, HP1.out.1, HP1.out.2, cP, dP.1, dP.2⟩
  clear dP
  go_wp2
  go_ret
  exact ⟨_, rfl, HB3.out, .inr ⟨d0, by omega, HF.out⟩⟩
end Go.Proofs.YtfjlmkphnciglatGreatDoor

/-
  A row of parts copied into a new one, as the law does it.
-/
namespace Go.Proofs.YtfjlmkphnciglatGreatDoor
open Go.RowKit
set_option maxRecDepth 4000

theorem alloc_size9 (W : World) (o : Obj) : (W.alloc o).heap.size = W.heap.size + 1 := by simp
theorem rowIs_below9 {w w' : World} {b : Nat} {t : TypeId} {m : Nat} {f : Nat → Value} (h : w.rowIs b t m f) (hb : Below w.heap.size w w') (hlt : b < w.heap.size) : w'.rowIs b t m f := by
  obtain ⟨c, h1, h2, h3⟩ := h
  exact ⟨c, by rw [hb.block b hlt]; exact h1, h2, h3⟩
theorem BView.set {w : World} {a n c B : Nat} {f : Nat → PBy} (h : BView w (some ⟨a, 0, none⟩) n c f) (hne : a ≠ B) (i : Nat) (u : Value) : BView (w.setCell ⟨B, i, none⟩ u) (some ⟨a, 0, none⟩) n c f := by
  refine ⟨h.le, fun hn => ?_⟩
  obtain ⟨b, off, e, hlt, hc⟩ := h.cells hn
  have hba : b = a := by cases e; rfl
  refine ⟨b, off, e, by simpa using hlt, fun j hj => ?_⟩
  rw [World.cell?_of_block (w := w) (a := ⟨b, off + j * 2, none⟩) (Below.heap_setCell _ _ _ _ (by rw [hba]; exact hne)), World.cell?_of_block (w := w) (a := ⟨b, off + j * 2 + 1, none⟩) (Below.heap_setCell _ _ _ _ (by rw [hba]; exact hne))]
  exact hc j hj

def cellBy (f : Nat → PBy) (j : Nat) : Value := if j % 2 = 0 then .int .i64 (f (j / 2)).col else .bool (f (j / 2)).desc
def zeroBy (j : Nat) : Value := if j % 2 = 0 then .int .i64 0 else .bool false
theorem infoBy : ∃ i, Tryz.prog.info? 45 = some i ∧ i.zero = some (.agg #[.int .i64 0, .bool false]) ∧ i.size = 2 ∧ i.bytes = 16 := by
  have h : (Tryz.prog.info? 45).map (fun i => (i.zero, i.size, i.bytes)) = some (some (.agg #[.int .i64 0, .bool false]), 2, 16) := by kernel_rfl
  obtain ⟨i, hi, hz⟩ := Option.map_eq_some_iff.1 h
  simp only [Prod.mk.injEq] at hz
  exact ⟨i, hi, hz.1, hz.2.1, hz.2.2⟩
theorem makeBy (n : Nat) (h : n ≤ 1048576) (w : World) : (Instr.makeSlice 30 (.int .i64 (n : Int)) (.int .i64 (n : Int))).run Tryz.prog w = .ok (.slice (some ⟨w.heap.size, 0, none⟩) n n) (w.alloc (.cells (madeCells #[.int .i64 0, .bool false] (n * 2)) 45)) := by
  obtain ⟨i, hi, hz, hs, hb⟩ := infoBy
  have hr := run_make (P := Tryz.prog) w 30 45 i _ Tryz.underlying30 hi hz .i64 .i64 n n (by omega) (Int.le_refl _) (by rw [hb]; omega) (by omega)
  simp only [Int.toNat_natCast, hs] at hr
  exact hr

/-- k of the n elements are copied into the new row. -/
structure CopiedBy (w wr : World) (n : Nat) (f : Nat → PBy) (k : Nat) : Prop where
  below : Below w.heap.size w wr
  size : w.heap.size < wr.heap.size
  row : wr.rowIs w.heap.size 45 (n * 2) (fun j => if j < k * 2 then cellBy f j else zeroBy j)
theorem copiedBy_start (w : World) (n : Nat) (f : Nat → PBy) : CopiedBy w (w.alloc (.cells (madeCells #[.int .i64 0, .bool false] (n * 2)) 45)) n f 0 := by
  have hr := World.rowIs_alloc w (madeCells #[.int .i64 0, .bool false] (n * 2)) 45 zeroBy (fun i hi => by
    rw [size_madeCells] at hi
    simp [madeCells, hi, zeroBy]
    have h3 : i % 2 = 0 ∨ i % 2 = 1 := by omega
    rcases h3 with h | h <;> simp [h])
  rw [size_madeCells] at hr
  exact ⟨(Below.refl _ _).alloc (Nat.le_refl _) _, by simp, hr.congr (fun i _ => by simp)⟩
theorem CopiedBy.step {w wr w2 : World} {n : Nat} {f : Nat → PBy} {k : Nat} (h : CopiedBy w wr n f k) (hb : Below wr.heap.size wr w2) : CopiedBy w w2 n f k :=
  ⟨h.below.trans (hb.mono h.below.size), Nat.lt_of_lt_of_le h.size hb.size, rowIs_below9 h.row hb h.size⟩
theorem CopiedBy.put {w wr : World} {n : Nat} {f : Nat → PBy} {k : Nat} (h : CopiedBy w wr n f k) :
    CopiedBy w ((wr.setCell ⟨w.heap.size, k * 2, none⟩ (.int .i64 (f k).col)).setCell ⟨w.heap.size, k * 2 + 1, none⟩ (.bool (f k).desc)) n f (k + 1) := by
  refine ⟨((h.below.setCell (Nat.le_refl _) _).setCell (Nat.le_refl _) _), by simpa using h.size, (((h.row.set _ _).set _ _).congr (fun i _ => ?_))⟩
  by_cases e1 : i = k * 2 + 1
  · subst e1
    have m : (k * 2 + 1) % 2 = 1 := by omega
    have d : (k * 2 + 1) / 2 = k := by omega
    simp [cellBy, m, d, show k * 2 + 1 < (k + 1) * 2 by omega]
  by_cases e0 : i = k * 2
  · subst e0
    have m : (k * 2) % 2 = 0 := by omega
    have d : (k * 2) / 2 = k := by omega
    simp [cellBy, m, d, show k * 2 < (k + 1) * 2 by omega]
  simp only [e0, e1, if_false]
  by_cases hlt : i < k * 2
  · rw [if_pos hlt, if_pos (by omega)]
  · rw [if_neg hlt, if_neg (by omega)]
theorem CopiedBy.view {w wr : World} {n : Nat} {f : Nat → PBy} (h : CopiedBy w wr n f n) : BView wr (some ⟨w.heap.size, 0, none⟩) n n f := by
  refine ⟨Nat.le_refl _, fun _ => ⟨_, 0, rfl, h.size, fun i hi => ?_⟩⟩
  have c0 := h.row.cell (i := i * 2) (by omega)
  have m0 : (i * 2) % 2 = 0 := by omega
  have d0 : (i * 2) / 2 = i := by omega
  simp only [show i * 2 < n * 2 by omega, if_true, cellBy, m0, d0] at c0
  have c1 := h.row.cell (i := i * 2 + 1) (by omega)
  have m1 : (i * 2 + 1) % 2 = 1 := by omega
  have d1 : (i * 2 + 1) / 2 = i := by omega
  simp only [show i * 2 + 1 < n * 2 by omega, if_true, cellBy, m1, d1] at c1
  rw [Nat.zero_add]
  exact ⟨by simpa using c0, by simpa using c1⟩

set_option maxHeartbeats 1000000 in
theorem toBy_any (c : Int) (d : Bool) (w : World) :
    Calls Tryz.prog 41 #[.agg #[.int .i64 c, .bool d]] w fun e w' => e = .returned (.agg #[.int .i64 c, .bool d]) ∧ Below w.heap.size w w' := by
  go_enter Tryz.func41, Tryz.ntmps41
  go_wp2
  refine bodyPost_ret (v := .agg #[.int .i64 c, .bool d]) (by simp [results, Tryz.results41, go_sem]) rfl ⟨rfl, ?_⟩
  repeat (first | exact Below.refl _ _ | refine Below.alloc ?_ (by simp <;> omega) _ | refine Below.drew ?_)

set_option maxHeartbeats 2000000 in
theorem toByS_any (a : Option Addr) (n cap : Nat) (f : Nat → PBy) (w : World) (h : BView w a n cap f) (hn : n ≤ 1048576) :
    Calls Tryz.prog 20 #[.slice a n cap] w fun e w' => e = .returned (.slice (some ⟨w.heap.size, 0, none⟩) n n) ∧ BView w' (some ⟨w.heap.size, 0, none⟩) n n f ∧ Below w.heap.size w w' ∧ w.heap.size < w'.heap.size := by
  have hmk := fun W => makeBy n hn W
  go_enter Tryz.func20, Tryz.ntmps20
  go_wp2
  clear hmk
  go_loopg [4] n (fun q i wr => ∃ k : Nat, k ≤ n ∧ q = n - k ∧ i = .int .i64 k ∧ CopiedBy w wr n f k)
  case atStart => exact ⟨0, Nat.zero_le _, rfl, rfl, copiedBy_start w n f⟩
  case round =>
    obtain ⟨k, hk, rfl, rfl, hC⟩ := hrel
    by_cases hlt : k < n
    · obtain ⟨b1, o1, rfl, hb1, hc1⟩ := (h.below hC.below).cells (by omega)
      obtain ⟨x0, x1⟩ := hc1 k hlt
      have hkz : (k : Int) < (n : Int) := by omega
      have hV := fun W => toBy_any (f k).col (f k).desc W
      go_wp2_with fail
      refine (hV _).mono ?_
      rintro e w2 ⟨rfl, hB2⟩
      have hC2 := hC.step hB2
      have hS : Hid _ := hC2.put
      have z0 := hC2.row.cell (i := k * 2) (by omega)
      have f0 := hC2.row.frozen (k * 2)
      have z1 := hC2.row.cell (i := k * 2 + 1) (by omega)
      have f1 := hC2.row.frozen (k * 2 + 1)
      clear hc1 hC hC2 hB2 hV x0 x1 h
      go_wp2
      go_roundg (n - (k + 1))
      case measure => omega
      case rel => exact ⟨k + 1, by omega, rfl, by go_num, hS.out⟩
    · have hkn : k = n := by omega
      have hkz : ¬ (k : Int) < (n : Int) := by omega
      rw [hkn] at hC
      have hS : Hid (CopiedBy w wr n f n) := hC
      clear hC
      go_wp2
      go_ret
      exact ⟨rfl, hS.out.view, hS.out.below, hS.out.size⟩
end Go.Proofs.YtfjlmkphnciglatGreatDoor

/-
  A row of columns copied into a new one, as the law does it.
-/
namespace Go.Proofs.YtfjlmkphnciglatGreatDoor
open Go.RowKit
set_option maxRecDepth 4000

def cellCol (f : Nat → PCol) (j : Nat) : Value := if j % 3 = 0 then .string (f (j / 3)).name else if j % 3 = 1 then .int .i64 (f (j / 3)).type else .bool (f (j / 3)).null
def zeroCol (j : Nat) : Value := if j % 3 = 0 then .string ⟨#[]⟩ else if j % 3 = 1 then .int .i64 0 else .bool false
theorem infoCol : ∃ i, Tryz.prog.info? 43 = some i ∧ i.zero = some (.agg #[.string ⟨#[]⟩, .int .i64 0, .bool false]) ∧ i.size = 3 ∧ i.bytes = 32 := by
  have h : (Tryz.prog.info? 43).map (fun i => (i.zero, i.size, i.bytes)) = some (some (.agg #[.string ⟨#[]⟩, .int .i64 0, .bool false]), 3, 32) := by kernel_rfl
  obtain ⟨i, hi, hz⟩ := Option.map_eq_some_iff.1 h
  simp only [Prod.mk.injEq] at hz
  exact ⟨i, hi, hz.1, hz.2.1, hz.2.2⟩
theorem makeCol (n : Nat) (h : n ≤ 1048576) (w : World) : (Instr.makeSlice 29 (.int .i64 (n : Int)) (.int .i64 (n : Int))).run Tryz.prog w = .ok (.slice (some ⟨w.heap.size, 0, none⟩) n n) (w.alloc (.cells (madeCells #[.string ⟨#[]⟩, .int .i64 0, .bool false] (n * 3)) 43)) := by
  obtain ⟨i, hi, hz, hs, hb⟩ := infoCol
  have hr := run_make (P := Tryz.prog) w 29 43 i _ Tryz.underlying29 hi hz .i64 .i64 n n (by omega) (Int.le_refl _) (by rw [hb]; omega) (by omega)
  simp only [Int.toNat_natCast, hs] at hr
  exact hr

/-- k of the n elements are copied into the new row. -/
structure CopiedCol (w wr : World) (n : Nat) (f : Nat → PCol) (k : Nat) : Prop where
  below : Below w.heap.size w wr
  size : w.heap.size < wr.heap.size
  row : wr.rowIs w.heap.size 43 (n * 3) (fun j => if j < k * 3 then cellCol f j else zeroCol j)
theorem copiedCol_start (w : World) (n : Nat) (f : Nat → PCol) : CopiedCol w (w.alloc (.cells (madeCells #[.string ⟨#[]⟩, .int .i64 0, .bool false] (n * 3)) 43)) n f 0 := by
  have hr := World.rowIs_alloc w (madeCells #[.string ⟨#[]⟩, .int .i64 0, .bool false] (n * 3)) 43 zeroCol (fun i hi => by
    rw [size_madeCells] at hi
    simp [madeCells, hi, zeroCol]
    have h3 : i % 3 = 0 ∨ i % 3 = 1 ∨ i % 3 = 2 := by omega
    rcases h3 with h | h | h <;> simp [h])
  rw [size_madeCells] at hr
  exact ⟨(Below.refl _ _).alloc (Nat.le_refl _) _, by simp, hr.congr (fun i _ => by simp)⟩
theorem CopiedCol.step {w wr w2 : World} {n : Nat} {f : Nat → PCol} {k : Nat} (h : CopiedCol w wr n f k) (hb : Below wr.heap.size wr w2) : CopiedCol w w2 n f k :=
  ⟨h.below.trans (hb.mono h.below.size), Nat.lt_of_lt_of_le h.size hb.size, rowIs_below9 h.row hb h.size⟩
theorem CopiedCol.put {w wr : World} {n : Nat} {f : Nat → PCol} {k : Nat} (h : CopiedCol w wr n f k) :
    CopiedCol w (((wr.setCell ⟨w.heap.size, k * 3, none⟩ (.string (f k).name)).setCell ⟨w.heap.size, k * 3 + 1, none⟩ (.int .i64 (f k).type)).setCell ⟨w.heap.size, k * 3 + 2, none⟩ (.bool (f k).null)) n f (k + 1) := by
  refine ⟨(((h.below.setCell (Nat.le_refl _) _).setCell (Nat.le_refl _) _).setCell (Nat.le_refl _) _), by simpa using h.size, ((((h.row.set _ _).set _ _).set _ _).congr (fun i _ => ?_))⟩
  by_cases e2 : i = k * 3 + 2
  · subst e2
    have m : (k * 3 + 2) % 3 = 2 := by omega
    have d : (k * 3 + 2) / 3 = k := by omega
    simp [cellCol, m, d, show k * 3 + 2 < (k + 1) * 3 by omega]
  by_cases e1 : i = k * 3 + 1
  · subst e1
    have m : (k * 3 + 1) % 3 = 1 := by omega
    have d : (k * 3 + 1) / 3 = k := by omega
    simp [cellCol, m, d, show k * 3 + 1 < (k + 1) * 3 by omega]
  by_cases e0 : i = k * 3
  · subst e0
    have m : (k * 3) % 3 = 0 := by omega
    have d : (k * 3) / 3 = k := by omega
    simp [cellCol, m, d, show k * 3 < (k + 1) * 3 by omega]
  simp only [e0, e1, e2, if_false]
  by_cases hlt : i < k * 3
  · rw [if_pos hlt, if_pos (by omega)]
  · rw [if_neg hlt, if_neg (by omega)]
theorem CopiedCol.view {w wr : World} {n : Nat} {f : Nat → PCol} (h : CopiedCol w wr n f n) : CView wr (some ⟨w.heap.size, 0, none⟩) n n f := by
  refine ⟨Nat.le_refl _, fun _ => ⟨_, 0, rfl, h.size, fun i hi => ?_⟩⟩
  have c0 := h.row.cell (i := i * 3) (by omega)
  have m0 : (i * 3) % 3 = 0 := by omega
  have d0 : (i * 3) / 3 = i := by omega
  simp only [show i * 3 < n * 3 by omega, if_true, cellCol, m0, d0] at c0
  have c1 := h.row.cell (i := i * 3 + 1) (by omega)
  have m1 : (i * 3 + 1) % 3 = 1 := by omega
  have d1 : (i * 3 + 1) / 3 = i := by omega
  simp only [show i * 3 + 1 < n * 3 by omega, if_true, cellCol, m1, d1] at c1
  have c2 := h.row.cell (i := i * 3 + 2) (by omega)
  have m2 : (i * 3 + 2) % 3 = 2 := by omega
  have d2 : (i * 3 + 2) / 3 = i := by omega
  simp only [show i * 3 + 2 < n * 3 by omega, if_true, cellCol, m2, d2] at c2
  rw [Nat.zero_add]
  exact ⟨by simpa using c0, by simpa using c1, by simpa using c2⟩

set_option maxHeartbeats 1000000 in
theorem toCol_any (s : ByteArray) (t : Int) (z : Bool) (w : World) :
    Calls Tryz.prog 40 #[.agg #[.string s, .int .i64 t, .bool z]] w fun e w' => e = .returned (.agg #[.string s, .int .i64 t, .bool z]) ∧ Below w.heap.size w w' := by
  go_enter Tryz.func40, Tryz.ntmps40
  go_wp2
  refine bodyPost_ret (v := .agg #[.string s, .int .i64 t, .bool z]) (by simp [results, Tryz.results40, go_sem]) rfl ⟨rfl, ?_⟩
  repeat (first | exact Below.refl _ _ | refine Below.alloc ?_ (by simp <;> omega) _ | refine Below.drew ?_)

set_option maxHeartbeats 2000000 in
theorem toColS_any (a : Option Addr) (n cap : Nat) (f : Nat → PCol) (w : World) (h : CView w a n cap f) (hn : n ≤ 1048576) :
    Calls Tryz.prog 19 #[.slice a n cap] w fun e w' => e = .returned (.slice (some ⟨w.heap.size, 0, none⟩) n n) ∧ CView w' (some ⟨w.heap.size, 0, none⟩) n n f ∧ Below w.heap.size w w' ∧ w.heap.size < w'.heap.size := by
  have hmk := fun W => makeCol n hn W
  go_enter Tryz.func19, Tryz.ntmps19
  go_wp2
  clear hmk
  go_loopg [4] n (fun q i wr => ∃ k : Nat, k ≤ n ∧ q = n - k ∧ i = .int .i64 k ∧ CopiedCol w wr n f k)
  case atStart => exact ⟨0, Nat.zero_le _, rfl, rfl, copiedCol_start w n f⟩
  case round =>
    obtain ⟨k, hk, rfl, rfl, hC⟩ := hrel
    by_cases hlt : k < n
    · obtain ⟨b1, o1, rfl, hb1, hc1⟩ := (h.below hC.below).cells (by omega)
      obtain ⟨x0, x1, x2⟩ := hc1 k hlt
      have hkz : (k : Int) < (n : Int) := by omega
      have hV := fun W => toCol_any (f k).name (f k).type (f k).null W
      go_wp2_with fail
      refine (hV _).mono ?_
      rintro e w2 ⟨rfl, hB2⟩
      have hC2 := hC.step hB2
      have hS : Hid _ := hC2.put
      have z0 := hC2.row.cell (i := k * 3) (by omega)
      have f0 := hC2.row.frozen (k * 3)
      have z1 := hC2.row.cell (i := k * 3 + 1) (by omega)
      have f1 := hC2.row.frozen (k * 3 + 1)
      have z2 := hC2.row.cell (i := k * 3 + 2) (by omega)
      have f2 := hC2.row.frozen (k * 3 + 2)
      clear hc1 hC hC2 hB2 hV x0 x1 x2 h
      go_wp2
      go_roundg (n - (k + 1))
      case measure => omega
      case rel => exact ⟨k + 1, by omega, rfl, by go_num, hS.out⟩
    · have hkn : k = n := by omega
      have hkz : ¬ (k : Int) < (n : Int) := by omega
      rw [hkn] at hC
      have hS : Hid (CopiedCol w wr n f n) := hC
      clear hC
      go_wp2
      go_ret
      exact ⟨rfl, hS.out.view, hS.out.below, hS.out.size⟩
end Go.Proofs.YtfjlmkphnciglatGreatDoor

/-
  Variables of three and of four cells, as rows.
-/
namespace Go.Proofs.YtfjlmkphnciglatGreatDoor
open Go.RowKit
set_option maxRecDepth 4000

def cell3 (x0 x1 x2 : Value) : Nat → Value
  | 0 => x0
  | 1 => x1
  | _ => x2
def cell4 (x0 x1 x2 x3 : Value) : Nat → Value
  | 0 => x0
  | 1 => x1
  | 2 => x2
  | _ => x3
/-- A variable of three cells. -/
def V3 (w : World) (B : Nat) (T : TypeId) (x0 x1 x2 : Value) : Prop := w.rowIs B T 3 (cell3 x0 x1 x2)
/-- A variable of four cells. -/
def V4 (w : World) (B : Nat) (T : TypeId) (x0 x1 x2 x3 : Value) : Prop := w.rowIs B T 4 (cell4 x0 x1 x2 x3)
theorem V3.new (w : World) (T : TypeId) (x0 x1 x2 : Value) : V3 (w.alloc (.cells #[x0, x1, x2] T)) w.heap.size T x0 x1 x2 :=
  World.rowIs_alloc w _ T (cell3 x0 x1 x2) (fun j hj => by match j, hj with | 0, _ => rfl | 1, _ => rfl | 2, _ => rfl)
theorem V4.new (w : World) (T : TypeId) (x0 x1 x2 x3 : Value) : V4 (w.alloc (.cells #[x0, x1, x2, x3] T)) w.heap.size T x0 x1 x2 x3 :=
  World.rowIs_alloc w _ T (cell4 x0 x1 x2 x3) (fun j hj => by match j, hj with | 0, _ => rfl | 1, _ => rfl | 2, _ => rfl | 3, _ => rfl)
theorem V3.lt {w : World} {B : Nat} {T : TypeId} {x0 x1 x2 : Value} (h : V3 w B T x0 x1 x2) : B < w.heap.size := World.rowIs.lt h
theorem V4.lt {w : World} {B : Nat} {T : TypeId} {x0 x1 x2 x3 : Value} (h : V4 w B T x0 x1 x2 x3) : B < w.heap.size := World.rowIs.lt h
theorem V3.block {w w' : World} {B : Nat} {T : TypeId} {x0 x1 x2 : Value} (h : V3 w B T x0 x1 x2) (e : w'.heap[B]? = w.heap[B]?) : V3 w' B T x0 x1 x2 := World.rowIs.of_block h e
theorem V4.block {w w' : World} {B : Nat} {T : TypeId} {x0 x1 x2 x3 : Value} (h : V4 w B T x0 x1 x2 x3) (e : w'.heap[B]? = w.heap[B]?) : V4 w' B T x0 x1 x2 x3 := World.rowIs.of_block h e
theorem V3.below {w w' : World} {B : Nat} {T : TypeId} {x0 x1 x2 : Value} (h : V3 w B T x0 x1 x2) (hb : Below w.heap.size w w') : V3 w' B T x0 x1 x2 := h.block (hb.block B h.lt)
theorem V4.below {w w' : World} {B : Nat} {T : TypeId} {x0 x1 x2 x3 : Value} (h : V4 w B T x0 x1 x2 x3) (hb : Below w.heap.size w w') : V4 w' B T x0 x1 x2 x3 := h.block (hb.block B h.lt)
theorem V3.cells {w : World} {B : Nat} {T : TypeId} {x0 x1 x2 : Value} (h : V3 w B T x0 x1 x2) : w.cell? ⟨B, 0, none⟩ = some x0 ∧ w.cell? ⟨B, 1, none⟩ = some x1 ∧ w.cell? ⟨B, 2, none⟩ = some x2 :=
  ⟨World.rowIs.cell h (i := 0) (by decide), World.rowIs.cell h (i := 1) (by decide), World.rowIs.cell h (i := 2) (by decide)⟩
theorem V4.cells {w : World} {B : Nat} {T : TypeId} {x0 x1 x2 x3 : Value} (h : V4 w B T x0 x1 x2 x3) : w.cell? ⟨B, 0, none⟩ = some x0 ∧ w.cell? ⟨B, 1, none⟩ = some x1 ∧ w.cell? ⟨B, 2, none⟩ = some x2 ∧ w.cell? ⟨B, 3, none⟩ = some x3 :=
  ⟨World.rowIs.cell h (i := 0) (by decide), World.rowIs.cell h (i := 1) (by decide), World.rowIs.cell h (i := 2) (by decide), World.rowIs.cell h (i := 3) (by decide)⟩
theorem V3.fz {w : World} {B : Nat} {T : TypeId} {x0 x1 x2 : Value} (h : V3 w B T x0 x1 x2) : w.frozen? ⟨B, 0, none⟩ = false ∧ w.frozen? ⟨B, 1, none⟩ = false ∧ w.frozen? ⟨B, 2, none⟩ = false :=
  ⟨World.rowIs.frozen h 0, World.rowIs.frozen h 1, World.rowIs.frozen h 2⟩
theorem V4.fz {w : World} {B : Nat} {T : TypeId} {x0 x1 x2 x3 : Value} (h : V4 w B T x0 x1 x2 x3) : w.frozen? ⟨B, 0, none⟩ = false ∧ w.frozen? ⟨B, 1, none⟩ = false ∧ w.frozen? ⟨B, 2, none⟩ = false ∧ w.frozen? ⟨B, 3, none⟩ = false :=
  ⟨World.rowIs.frozen h 0, World.rowIs.frozen h 1, World.rowIs.frozen h 2, World.rowIs.frozen h 3⟩
theorem V3.other {w : World} {B C i : Nat} {T : TypeId} {x0 x1 x2 u : Value} (h : V3 w B T x0 x1 x2) (hne : B ≠ C) : V3 (w.setCell ⟨C, i, none⟩ u) B T x0 x1 x2 := h.block (Below.heap_setCell _ _ _ _ hne)
theorem V4.other {w : World} {B C i : Nat} {T : TypeId} {x0 x1 x2 x3 u : Value} (h : V4 w B T x0 x1 x2 x3) (hne : B ≠ C) : V4 (w.setCell ⟨C, i, none⟩ u) B T x0 x1 x2 x3 := h.block (Below.heap_setCell _ _ _ _ hne)
theorem V3.set0 {w : World} {B : Nat} {T : TypeId} {x0 x1 x2 : Value} (h : V3 w B T x0 x1 x2) (u : Value) : V3 (w.setCell ⟨B, 0, none⟩ u) B T u x1 x2 :=
  (World.rowIs.set h 0 _).congr (fun j hj => by match j, hj with | 0, _ => rfl | 1, _ => rfl | 2, _ => rfl)
theorem V3.set1 {w : World} {B : Nat} {T : TypeId} {x0 x1 x2 : Value} (h : V3 w B T x0 x1 x2) (u : Value) : V3 (w.setCell ⟨B, 1, none⟩ u) B T x0 u x2 :=
  (World.rowIs.set h 1 _).congr (fun j hj => by match j, hj with | 0, _ => rfl | 1, _ => rfl | 2, _ => rfl)
theorem V3.set2 {w : World} {B : Nat} {T : TypeId} {x0 x1 x2 : Value} (h : V3 w B T x0 x1 x2) (u : Value) : V3 (w.setCell ⟨B, 2, none⟩ u) B T x0 x1 u :=
  (World.rowIs.set h 2 _).congr (fun j hj => by match j, hj with | 0, _ => rfl | 1, _ => rfl | 2, _ => rfl)
theorem V4.set0 {w : World} {B : Nat} {T : TypeId} {x0 x1 x2 x3 : Value} (h : V4 w B T x0 x1 x2 x3) (u : Value) : V4 (w.setCell ⟨B, 0, none⟩ u) B T u x1 x2 x3 :=
  (World.rowIs.set h 0 _).congr (fun j hj => by match j, hj with | 0, _ => rfl | 1, _ => rfl | 2, _ => rfl | 3, _ => rfl)
theorem V4.set1 {w : World} {B : Nat} {T : TypeId} {x0 x1 x2 x3 : Value} (h : V4 w B T x0 x1 x2 x3) (u : Value) : V4 (w.setCell ⟨B, 1, none⟩ u) B T x0 u x2 x3 :=
  (World.rowIs.set h 1 _).congr (fun j hj => by match j, hj with | 0, _ => rfl | 1, _ => rfl | 2, _ => rfl | 3, _ => rfl)
theorem V4.set2 {w : World} {B : Nat} {T : TypeId} {x0 x1 x2 x3 : Value} (h : V4 w B T x0 x1 x2 x3) (u : Value) : V4 (w.setCell ⟨B, 2, none⟩ u) B T x0 x1 u x3 :=
  (World.rowIs.set h 2 _).congr (fun j hj => by match j, hj with | 0, _ => rfl | 1, _ => rfl | 2, _ => rfl | 3, _ => rfl)
theorem V4.set3 {w : World} {B : Nat} {T : TypeId} {x0 x1 x2 x3 : Value} (h : V4 w B T x0 x1 x2 x3) (u : Value) : V4 (w.setCell ⟨B, 3, none⟩ u) B T x0 x1 x2 u :=
  (World.rowIs.set h 3 _).congr (fun j hj => by match j, hj with | 0, _ => rfl | 1, _ => rfl | 2, _ => rfl | 3, _ => rfl)
end Go.Proofs.YtfjlmkphnciglatGreatDoor

/-
  A row of indexes copied into a new one, as the law does it.
-/
namespace Go.Proofs.YtfjlmkphnciglatGreatDoor
open Go.RowKit
set_option maxRecDepth 4000

/-- A row of indexes whose blocks, and those of their parts, lie from B on. -/
structure IOwn (w : World) (B : Nat) (ao : Option Addr) (n cap : Nat) (f : Nat → PIdx) : Prop where
  le : n ≤ cap
  cells : 0 < n → ∃ b off, ao = some ⟨b, off, none⟩ ∧ B ≤ b ∧ b < w.heap.size ∧ ∀ i, i < n → w.cell? ⟨b, off + i * 3, none⟩ = some (.string (f i).name) ∧ w.cell? ⟨b, off + i * 3 + 1, none⟩ = some (.bool (f i).uniq) ∧ ∃ A c, w.cell? ⟨b, off + i * 3 + 2, none⟩ = some (.slice (some ⟨A, 0, none⟩) (f i).n c) ∧ B ≤ A ∧ BView w (some ⟨A, 0, none⟩) (f i).n c (f i).part
theorem IOwn.view {w : World} {B : Nat} {ao : Option Addr} {n cap : Nat} {f : Nat → PIdx} (h : IOwn w B ao n cap f) : IView w ao n cap f := by
  refine ⟨h.le, fun hn => ?_⟩
  obtain ⟨b, off, e, -, hlt, hc⟩ := h.cells hn
  refine ⟨b, off, e, hlt, fun i hi => ?_⟩
  obtain ⟨h0, h1, A, c, h2, -, hv⟩ := hc i hi
  exact ⟨h0, h1, _, c, h2, hv⟩
theorem IOwn.below {w w' : World} {B : Nat} {ao : Option Addr} {n cap : Nat} {f : Nat → PIdx} (h : IOwn w B ao n cap f) (hb : Below w.heap.size w w') : IOwn w' B ao n cap f := by
  refine ⟨h.le, fun hn => ?_⟩
  obtain ⟨b, off, e, hB, hlt, hc⟩ := h.cells hn
  refine ⟨b, off, e, hB, Nat.lt_of_lt_of_le hlt hb.size, fun i hi => ?_⟩
  rw [hb.cell (p := ⟨b, off + i * 3, none⟩) hlt, hb.cell (p := ⟨b, off + i * 3 + 1, none⟩) hlt, hb.cell (p := ⟨b, off + i * 3 + 2, none⟩) hlt]
  obtain ⟨h0, h1, A, c, h2, hA, hv⟩ := hc i hi
  exact ⟨h0, h1, A, c, h2, hA, hv.below hb⟩
theorem IOwn.set {w : World} {B C : Nat} {ao : Option Addr} {n cap : Nat} {f : Nat → PIdx} (h : IOwn w B ao n cap f) (hC : C < B) (j : Nat) (u : Value) : IOwn (w.setCell ⟨C, j, none⟩ u) B ao n cap f := by
  refine ⟨h.le, fun hn => ?_⟩
  obtain ⟨b, off, e, hB, hlt, hc⟩ := h.cells hn
  refine ⟨b, off, e, hB, by simpa using hlt, fun i hi => ?_⟩
  have hk : (w.setCell ⟨C, j, none⟩ u).heap[b]? = w.heap[b]? := Below.heap_setCell _ _ _ _ (show b ≠ C by omega)
  rw [World.cell?_of_block (w := w) (a := ⟨b, off + i * 3, none⟩) hk, World.cell?_of_block (w := w) (a := ⟨b, off + i * 3 + 1, none⟩) hk, World.cell?_of_block (w := w) (a := ⟨b, off + i * 3 + 2, none⟩) hk]
  obtain ⟨h0, h1, A, c, h2, hA, hv⟩ := hc i hi
  exact ⟨h0, h1, A, c, h2, hA, hv.set (by omega) _ _⟩
theorem IOwn.mono {w : World} {B B' : Nat} {ao : Option Addr} {n cap : Nat} {f : Nat → PIdx} (h : IOwn w B ao n cap f) (hB : B' ≤ B) : IOwn w B' ao n cap f := by
  refine ⟨h.le, fun hn => ?_⟩
  obtain ⟨b, off, e, hb, hlt, hc⟩ := h.cells hn
  refine ⟨b, off, e, by omega, hlt, fun i hi => ?_⟩
  obtain ⟨h0, h1, A, c, h2, hA, hv⟩ := hc i hi
  exact ⟨h0, h1, A, c, h2, by omega, hv⟩

def cellIdx (f : Nat → PIdx) (A : Nat → Nat) (j : Nat) : Value := if j % 3 = 0 then .string (f (j / 3)).name else if j % 3 = 1 then .bool (f (j / 3)).uniq else .slice (some ⟨A (j / 3), 0, none⟩) (f (j / 3)).n (f (j / 3)).n
def zeroIdx (j : Nat) : Value := if j % 3 = 0 then .string ⟨#[]⟩ else if j % 3 = 1 then .bool false else .slice none 0 0
theorem infoIdx : ∃ i, Tryz.prog.info? 62 = some i ∧ i.zero = some (.agg #[.string ⟨#[]⟩, .bool false, .slice none 0 0]) ∧ i.size = 3 ∧ i.bytes = 48 := by
  have h : (Tryz.prog.info? 62).map (fun i => (i.zero, i.size, i.bytes)) = some (some (.agg #[.string ⟨#[]⟩, .bool false, .slice none 0 0]), 3, 48) := by kernel_rfl
  obtain ⟨i, hi, hz⟩ := Option.map_eq_some_iff.1 h
  simp only [Prod.mk.injEq] at hz
  exact ⟨i, hi, hz.1, hz.2.1, hz.2.2⟩
theorem makeIdx (n : Nat) (h : n ≤ 1048576) (w : World) : (Instr.makeSlice 31 (.int .i64 (n : Int)) (.int .i64 (n : Int))).run Tryz.prog w = .ok (.slice (some ⟨w.heap.size, 0, none⟩) n n) (w.alloc (.cells (madeCells #[.string ⟨#[]⟩, .bool false, .slice none 0 0] (n * 3)) 62)) := by
  obtain ⟨i, hi, hz, hs, hb⟩ := infoIdx
  have hr := run_make (P := Tryz.prog) w 31 62 i _ Tryz.underlying31 hi hz .i64 .i64 n n (by omega) (Int.le_refl _) (by rw [hb]; omega) (by omega)
  simp only [Int.toNat_natCast, hs] at hr
  exact hr

/-- k of the n elements are copied into the new row. -/
structure CopiedIdx (w wr : World) (n : Nat) (f : Nat → PIdx) (A : Nat → Nat) (k : Nat) : Prop where
  below : Below w.heap.size w wr
  size : w.heap.size < wr.heap.size
  row : wr.rowIs w.heap.size 62 (n * 3) (fun j => if j < k * 3 then cellIdx f A j else zeroIdx j)
  views : ∀ i, i < k → w.heap.size < A i ∧ A i < wr.heap.size ∧ BView wr (some ⟨A i, 0, none⟩) (f i).n (f i).n (f i).part
theorem copiedIdx_start (w : World) (n : Nat) (f : Nat → PIdx) (A : Nat → Nat) : CopiedIdx w (w.alloc (.cells (madeCells #[.string ⟨#[]⟩, .bool false, .slice none 0 0] (n * 3)) 62)) n f A 0 := by
  have hr := World.rowIs_alloc w (madeCells #[.string ⟨#[]⟩, .bool false, .slice none 0 0] (n * 3)) 62 zeroIdx (fun i hi => by
    rw [size_madeCells] at hi
    simp [madeCells, hi, zeroIdx]
    have h3 : i % 3 = 0 ∨ i % 3 = 1 ∨ i % 3 = 2 := by omega
    rcases h3 with h | h | h <;> simp [h])
  rw [size_madeCells] at hr
  exact ⟨(Below.refl _ _).alloc (Nat.le_refl _) _, by simp, hr.congr (fun i _ => by simp), fun i hi => absurd hi (Nat.not_lt_zero _)⟩
theorem CopiedIdx.step {w wr w2 : World} {n : Nat} {f : Nat → PIdx} {A : Nat → Nat} {k : Nat} (h : CopiedIdx w wr n f A k) (hb : Below wr.heap.size wr w2) : CopiedIdx w w2 n f A k :=
  ⟨h.below.trans (hb.mono h.below.size), Nat.lt_of_lt_of_le h.size hb.size, rowIs_below9 h.row hb h.size, fun i hi => ⟨(h.views i hi).1, Nat.lt_of_lt_of_le (h.views i hi).2.1 hb.size, (h.views i hi).2.2.below hb⟩⟩
theorem CopiedIdx.put {w wr : World} {n : Nat} {f : Nat → PIdx} {A : Nat → Nat} {k : Nat} (h : CopiedIdx w wr n f A k) (hA : w.heap.size < A k ∧ A k < wr.heap.size ∧ BView wr (some ⟨A k, 0, none⟩) (f k).n (f k).n (f k).part) :
    CopiedIdx w (((wr.setCell ⟨w.heap.size, k * 3, none⟩ (.string (f k).name)).setCell ⟨w.heap.size, k * 3 + 1, none⟩ (.bool (f k).uniq)).setCell ⟨w.heap.size, k * 3 + 2, none⟩ (.slice (some ⟨A k, 0, none⟩) (f k).n (f k).n)) n f A (k + 1) := by
  refine ⟨(((h.below.setCell (Nat.le_refl _) _).setCell (Nat.le_refl _) _).setCell (Nat.le_refl _) _), by simpa using h.size, ((((h.row.set _ _).set _ _).set _ _).congr (fun i _ => ?_)), fun i hi => ?_⟩
  · by_cases e2 : i = k * 3 + 2
    · subst e2
      have m : (k * 3 + 2) % 3 = 2 := by omega
      have d : (k * 3 + 2) / 3 = k := by omega
      simp [cellIdx, m, d, show k * 3 + 2 < (k + 1) * 3 by omega]
    by_cases e1 : i = k * 3 + 1
    · subst e1
      have m : (k * 3 + 1) % 3 = 1 := by omega
      have d : (k * 3 + 1) / 3 = k := by omega
      simp [cellIdx, m, d, show k * 3 + 1 < (k + 1) * 3 by omega]
    by_cases e0 : i = k * 3
    · subst e0
      have m : (k * 3) % 3 = 0 := by omega
      have d : (k * 3) / 3 = k := by omega
      simp [cellIdx, m, d, show k * 3 < (k + 1) * 3 by omega]
    simp only [e0, e1, e2, if_false]
    by_cases hlt : i < k * 3
    · rw [if_pos hlt, if_pos (by omega)]
    · rw [if_neg hlt, if_neg (by omega)]
  · have key : ∀ i, i < k + 1 → w.heap.size < A i ∧ A i < wr.heap.size ∧ BView wr (some ⟨A i, 0, none⟩) (f i).n (f i).n (f i).part := by
      intro i hi
      by_cases e : i < k
      · exact h.views i e
      · obtain rfl : i = k := by omega
        exact hA
    obtain ⟨h1, h2, h3⟩ := key i hi
    exact ⟨h1, by simpa using h2, ((h3.set (by omega) _ _).set (by omega) _ _).set (by omega) _ _⟩
theorem CopiedIdx.view {w wr : World} {n : Nat} {f : Nat → PIdx} {A : Nat → Nat} (h : CopiedIdx w wr n f A n) : IOwn wr w.heap.size (some ⟨w.heap.size, 0, none⟩) n n f := by
  refine ⟨Nat.le_refl _, fun _ => ⟨_, 0, rfl, Nat.le_refl _, h.size, fun i hi => ?_⟩⟩
  have c0 := h.row.cell (i := i * 3) (by omega)
  have m0 : (i * 3) % 3 = 0 := by omega
  have d0 : (i * 3) / 3 = i := by omega
  simp only [show i * 3 < n * 3 by omega, if_true, cellIdx, m0, d0] at c0
  have c1 := h.row.cell (i := i * 3 + 1) (by omega)
  have m1 : (i * 3 + 1) % 3 = 1 := by omega
  have d1 : (i * 3 + 1) / 3 = i := by omega
  simp only [show i * 3 + 1 < n * 3 by omega, if_true, cellIdx, m1, d1] at c1
  have c2 := h.row.cell (i := i * 3 + 2) (by omega)
  have m2 : (i * 3 + 2) % 3 = 2 := by omega
  have d2 : (i * 3 + 2) / 3 = i := by omega
  simp only [show i * 3 + 2 < n * 3 by omega, if_true, cellIdx, m2, d2] at c2
  rw [Nat.zero_add]
  exact ⟨by simpa using c0, by simpa using c1, _, _, by simpa using c2, Nat.le_of_lt (h.views i hi).1, (h.views i hi).2.2⟩

set_option maxHeartbeats 1000000 in
theorem toIndex_any (s : ByteArray) (u : Bool) (a : Option Addr) (n cap : Nat) (f : Nat → PBy) (w : World) (h : BView w a n cap f) (hn : n ≤ 1048576) :
    Calls Tryz.prog 42 #[.agg #[.string s, .bool u, .slice a n cap]] w fun e w' => ∃ A : Nat, e = .returned (.agg #[.string s, .bool u, .slice (some ⟨A, 0, none⟩) n n]) ∧ w.heap.size ≤ A ∧ A < w'.heap.size ∧ BView w' (some ⟨A, 0, none⟩) n n f ∧ Below w.heap.size w w' := by
  have hb0 : Below w.heap.size w (((w.alloc (.cells #[.string s, .bool u, .slice a n cap] 77)).alloc (.cells #[.string ⟨#[]⟩, .bool false, .slice none 0 0] 62)).alloc (.cells #[.string s, .bool u, .slice none 0 0] 62)) := (((Below.refl _ _).alloc (Nat.le_refl _) _).alloc (by simp) _).alloc (by simp; omega) _
  have hS := toByS_any a n cap f _ (h.below hb0) hn
  have V2 := V3.new ((w.alloc (.cells #[.string s, .bool u, .slice a n cap] 77)).alloc (.cells #[.string ⟨#[]⟩, .bool false, .slice none 0 0] 62)) 62 (.string s) (.bool u) (.slice none 0 0)
  have V1 := (V3.new (w.alloc (.cells #[.string s, .bool u, .slice a n cap] 77)) 62 (.string ⟨#[]⟩) (.bool false) (.slice none 0 0)).below ((Below.refl _ _).alloc (Nat.le_refl _) (.cells #[.string s, .bool u, .slice none 0 0] 62))
  simp only [alloc_size9] at V1 V2 hS
  clear h
  go_enter Tryz.func42, Tryz.ntmps42
  go_wp2_with fail
  refine hS.mono ?_
  rintro e w2 ⟨rfl, hv, hb2, hlt2⟩
  have V2' := V2.below (by simpa using hb2)
  have V1' := V1.below (by simpa using hb2)
  clear V1 V2 hS
  obtain ⟨c0, c1, c2⟩ := V2'.cells
  obtain ⟨-, -, q2⟩ := V2'.fz
  obtain ⟨W3, hW3⟩ : ∃ W3, Hid (w2.setCell ⟨w.heap.size + 1 + 1, 2, none⟩ (.slice (some ⟨w.heap.size + 1 + 1 + 1, 0, none⟩) n n) = W3) := ⟨_, rfl⟩
  have V2'' := V2'.set2 (.slice (some ⟨w.heap.size + 1 + 1 + 1, 0, none⟩) n n)
  have V1'' := V1'.other (C := w.heap.size + 1 + 1) (i := 2) (u := .slice (some ⟨w.heap.size + 1 + 1 + 1, 0, none⟩) n n) (by omega)
  rw [hW3.out] at V1'' V2''
  obtain ⟨g0, g1, g2⟩ := V2''.cells
  obtain ⟨k0, k1, k2⟩ := V1''.cells
  obtain ⟨p0, p1, p2⟩ := V1''.fz
  have V1f := ((V1''.set0 (.string s)).set1 (.bool u)).set2 (.slice (some ⟨w.heap.size + 1 + 1 + 1, 0, none⟩) n n)
  obtain ⟨r0, r1, r2⟩ := V1f.cells
  have HR : Hid (BView (((W3.setCell ⟨w.heap.size + 1, 0, none⟩ (.string s)).setCell ⟨w.heap.size + 1, 1, none⟩ (.bool u)).setCell ⟨w.heap.size + 1, 2, none⟩ (.slice (some ⟨w.heap.size + 1 + 1 + 1, 0, none⟩) n n)) (some ⟨w.heap.size + 1 + 1 + 1, 0, none⟩) n n f ∧ Below w.heap.size w (((W3.setCell ⟨w.heap.size + 1, 0, none⟩ (.string s)).setCell ⟨w.heap.size + 1, 1, none⟩ (.bool u)).setCell ⟨w.heap.size + 1, 2, none⟩ (.slice (some ⟨w.heap.size + 1 + 1 + 1, 0, none⟩) n n)) ∧ w.heap.size + 1 + 1 + 1 < (((W3.setCell ⟨w.heap.size + 1, 0, none⟩ (.string s)).setCell ⟨w.heap.size + 1, 1, none⟩ (.bool u)).setCell ⟨w.heap.size + 1, 2, none⟩ (.slice (some ⟨w.heap.size + 1 + 1 + 1, 0, none⟩) n n)).heap.size) := by
    rw [← hW3.out]
    refine ⟨?_, ?_, by simpa using hlt2⟩
    · exact (((hv.set (by omega) _ _).set (by omega) _ _).set (by omega) _ _).set (by omega) _ _
    · have hb3 : Below w.heap.size w w2 := hb0.trans (hb2.mono (by omega))
      exact (((hb3.setCell (p := ⟨w.heap.size + 1 + 1, 2, none⟩) (by simp; omega) _).setCell (p := ⟨w.heap.size + 1, 0, none⟩) (by simp) _).setCell (p := ⟨w.heap.size + 1, 1, none⟩) (by simp) _).setCell (p := ⟨w.heap.size + 1, 2, none⟩) (by simp) _
  clear V1f V1' V1'' V2' V2'' hv hb2 hb0 hlt2
  go_wp2_with (rw [hW3.out])
  refine bodyPost_ret (v := .agg #[.string s, .bool u, .slice (some ⟨w.heap.size + 1 + 1 + 1, 0, none⟩) n n]) (by simp [results, Tryz.results42, go_sem, r0, r1, r2]) rfl ⟨_, rfl, by omega, HR.out.2.2, HR.out.1, HR.out.2.1⟩

/-- The addresses, with one more. -/
def upA (A : Nat → Nat) (k a : Nat) : Nat → Nat := fun i => if i = k then a else A i
theorem CopiedIdx.up {w wr : World} {n : Nat} {f : Nat → PIdx} {A : Nat → Nat} {k : Nat} (h : CopiedIdx w wr n f A k) (a : Nat) : CopiedIdx w wr n f (upA A k a) k := by
  refine ⟨h.below, h.size, h.row.congr (fun i _ => ?_), fun i hi => ?_⟩
  · by_cases e : i < k * 3
    · have d : i / 3 ≠ k := by omega
      simp [e, cellIdx, upA, d]
    · simp [e]
  · have d : i ≠ k := by omega
    have := h.views i hi
    simpa [upA, d] using this

set_option maxHeartbeats 2000000 in
theorem toIndexS_any (a : Option Addr) (n cap : Nat) (f : Nat → PIdx) (w : World) (h : IView w a n cap f) (hn : n ≤ 1048576) (hz : ∀ i, i < n → (f i).n ≤ 1048576) :
    Calls Tryz.prog 21 #[.slice a n cap] w fun e w' => e = .returned (.slice (some ⟨w.heap.size, 0, none⟩) n n) ∧ IOwn w' w.heap.size (some ⟨w.heap.size, 0, none⟩) n n f ∧ Below w.heap.size w w' ∧ w.heap.size < w'.heap.size := by
  have hmk := fun W => makeIdx n hn W
  go_enter Tryz.func21, Tryz.ntmps21
  go_wp2
  clear hmk
  go_loopg [4] n (fun q i wr => ∃ (k : Nat) (A : Nat → Nat), k ≤ n ∧ q = n - k ∧ i = .int .i64 k ∧ CopiedIdx w wr n f A k)
  case atStart => exact ⟨0, fun _ => 0, Nat.zero_le _, rfl, rfl, copiedIdx_start w n f _⟩
  case round =>
    obtain ⟨k, A, hk, rfl, rfl, hC⟩ := hrel
    by_cases hlt : k < n
    · obtain ⟨b1, o1, rfl, hb1, hc1⟩ := (h.below hC.below).cells (by omega)
      obtain ⟨x0, x1, a2, c2, x2, hv⟩ := hc1 k hlt
      have hkz : (k : Int) < (n : Int) := by omega
      have hV := toIndex_any (f k).name (f k).uniq a2 (f k).n c2 (f k).part wr hv (hz k hlt)
      clear hz
      go_wp2_with fail
      refine hV.mono ?_
      rintro e w2 ⟨B, rfl, hB0, hB1, hvB, hB2⟩
      have hC2 := (hC.step hB2).up B
      have hup : upA A k B k = B := by simp [upA]
      have hS0 := hC2.put (by rw [hup]; exact ⟨Nat.lt_of_lt_of_le hC.size hB0, hB1, hvB⟩)
      rw [hup] at hS0
      have hS : Hid _ := hS0
      have z0 := hC2.row.cell (i := k * 3) (by omega)
      have z1 := hC2.row.cell (i := k * 3 + 1) (by omega)
      have z2 := hC2.row.cell (i := k * 3 + 2) (by omega)
      have f0 := hC2.row.frozen (k * 3)
      have f1 := hC2.row.frozen (k * 3 + 1)
      have f2 := hC2.row.frozen (k * 3 + 2)
      clear hc1 hC hC2 hB2 hV x0 x1 x2 h hv hvB hup hB0 hB1 hS0
      go_wp2
      go_roundg (n - (k + 1))
      case measure => omega
      case rel => exact ⟨k + 1, upA A k B, by omega, rfl, by go_num, hS.out⟩
    · have hkn : k = n := by omega
      have hkz : ¬ (k : Int) < (n : Int) := by omega
      rw [hkn] at hC
      have hS : Hid (CopiedIdx w wr n f A n) := hC
      clear hC h hz
      go_wp2
      go_ret
      exact ⟨rfl, hS.out.view, hS.out.below, hS.out.size⟩
end Go.Proofs.YtfjlmkphnciglatGreatDoor

