/-
  Together: Base, Plain, PutPlain, TokPlain, But, TView, Info, TokBox, LexRow, TokName, TokSpec, LexSpec, TokHelp, EqTokS, Conv, MarkText
-/
import Derived.WalkKit
import Derived.Deep.OwnRows
import Derived.Deep.LoopGhost
import Derived.OpenShut
import Derived.Laws.BitsAllLaws
import Derived.Laws.Bits128
import Derived.Test.YtbpkonneliidiasChecked
import Derived.Test.YtbpkonneliidiasProg
import Derived.WalkMore
import Derived.Deep.RegionHeld3
import Derived.Laws.BytesArg
/-
  What a walk over bytes is told of a slice of bytes that it reads ('View'), and how that is carried from one world to the next. No program text is named here.
-/
namespace Go.Proofs.Ytbpkonneliidias
open Go.RowKit
set_option maxRecDepth 4000

/-- The slice value '.slice ao n cap' reads, in the world w, as the n bytes f 0 up to f (n - 1). -/
structure View (w : World) (ao : Option Addr) (n cap : Nat) (f : Nat → Int) : Prop where
  le : n ≤ cap
  byte : ∀ i, i < n → 0 ≤ f i ∧ f i ≤ 255
  cells : 0 < n → ∃ b off, ao = some ⟨b, off, none⟩ ∧ b < w.heap.size ∧ ∀ i, i < n → w.cell? ⟨b, off + i, none⟩ = some (.int .u8 (f i))

/-- What was there reads as it did. -/
theorem View.below {w w' : World} {ao : Option Addr} {n cap : Nat} {f : Nat → Int} (h : View w ao n cap f) (hb : Below w.heap.size w w') : View w' ao n cap f := by
  refine ⟨h.le, h.byte, fun hn => ?_⟩
  obtain ⟨b, off, e, hlt, hc⟩ := h.cells hn
  exact ⟨b, off, e, Nat.lt_of_lt_of_le hlt hb.size, fun i hi => by rw [hb.cell (p := ⟨b, off + i, none⟩) hlt]; exact hc i hi⟩

theorem View.drew {w : World} {ao : Option Addr} {n cap : Nat} {f : Nat → Int} (h : View w ao n cap f) : View w.drew ao n cap f := h.below (Below.refl _ _).drew

theorem View.take {w : World} {ao : Option Addr} {n cap m : Nat} {f : Nat → Int} (h : View w ao n cap f) (hm : m ≤ n) : View w ao m cap f := by
  refine ⟨Nat.le_trans hm h.le, fun i hi => h.byte i (by omega), fun h0 => ?_⟩
  obtain ⟨b, off, e, hb, hc⟩ := h.cells (by omega)
  exact ⟨b, off, e, hb, fun i hi => hc i (by omega)⟩

theorem View.congr {w : World} {ao : Option Addr} {n cap : Nat} {f g : Nat → Int} (h : View w ao n cap f) (e : ∀ i, i < n → f i = g i) : View w ao n cap g := by
  refine ⟨h.le, fun i hi => by rw [← e i hi]; exact h.byte i hi, fun hn => ?_⟩
  obtain ⟨b, off, ea, hlt, hc⟩ := h.cells hn
  exact ⟨b, off, ea, hlt, fun i hi => by rw [← e i hi]; exact hc i hi⟩

/-- What the frame of a row hands over of a slice of bytes that came in, as a view. -/
theorem View.ofIn {w : World} {a : Option Addr} {len cap : Nat} {zs : List Int}
    (h : (a = none ∧ len = 0 ∧ cap = 0 ∧ zs = []) ∨ ∃ x, a = some x ∧ len ≤ cap ∧ cap ≤ maxLen ∧ zs.length = cap ∧ (∀ i, i < zs.length → w.cell? (x.add i) = some (.int .u8 (zs.getD i 0))) ∧ ∀ n ∈ zs, (Lit.int .u8 n).wf = true) :
    View w a len cap (fun i => zs.getD i 0) := by
  rcases h with ⟨rfl, rfl, rfl, rfl⟩ | ⟨x, rfl, hl, _, hz, hc, hw⟩
  · exact ⟨Nat.le_refl _, fun i hi => absurd hi (Nat.not_lt_zero _), fun h => absurd h (Nat.lt_irrefl _)⟩
  · refine ⟨hl, fun i _ => by simpa using range_u8 hw i, fun hn => ?_⟩
    obtain ⟨b, off, spot⟩ := x
    have h0 := hc 0 (by omega)
    have hs : spot = none := by simpa [Addr.add] using World.cell?_spot h0
    subst hs
    refine ⟨b, off, rfl, ?_, fun i hi => ?_⟩
    · exact World.block_lt_of_cell? _ _ h0
    · have h1 := hc i (by omega)
      have e : (⟨b, off, none⟩ : Addr).add i = ⟨b, off + i, none⟩ := by unfold Addr.add; split <;> simp_all
      rw [e] at h1
      exact h1

theorem lenOfIn {w : World} {a : Option Addr} {len cap : Nat} {zs : List Int}
    (h : (a = none ∧ len = 0 ∧ cap = 0 ∧ zs = []) ∨ ∃ x, a = some x ∧ len ≤ cap ∧ cap ≤ maxLen ∧ zs.length = cap ∧ (∀ i, i < zs.length → w.cell? (x.add i) = some (.int .u8 (zs.getD i 0))) ∧ ∀ n ∈ zs, (Lit.int .u8 n).wf = true) : len ≤ 9223372036854775807 := by
  rcases h with ⟨_, rfl, _, _⟩ | ⟨_, _, h1, h2, _⟩
  · exact Nat.zero_le _
  · unfold maxLen at h2; omega

/-- A row of the call's own reads as what it holds. -/
theorem View.ofRow {w : World} {b : Nat} {t : TypeId} {m n cap : Nat} {f : Nat → Int} (h : w.rowIs b t m (fun i => .int .u8 (f i))) (hn : n ≤ m) (hc : n ≤ cap) (hb : ∀ i, i < n → 0 ≤ f i ∧ f i ≤ 255) : View w (some ⟨b, 0, none⟩) n cap f :=
  ⟨hc, hb, fun _ => ⟨b, 0, rfl, h.lt, fun i hi => by rw [Nat.zero_add]; exact h.cell (by omega)⟩⟩

theorem rowBelow {w w' : World} {b : Nat} {t : TypeId} {n : Nat} {f : Nat → Value} {B : Nat} (h : w.rowIs b t n f) (hb : Below B w w') (hlt : b < B) : w'.rowIs b t n f := h.of_block (hb.block b hlt)

/-- Block b is a row of bytes of the call's own, none frozen, whose first n are f 0 up to f (n - 1) (t: the number of the bytes' type). -/
def Row (t : TypeId) (w : World) (b n : Nat) (f : Nat → Int) : Prop :=
  ∃ c : Array Value, w.heap[b]? = some (.cells c t (0, 0)) ∧ n ≤ c.size ∧ ∀ i, i < n → c[i]? = some (.int .u8 (f i))

namespace Row
variable {t : TypeId} {w w' : World} {b n : Nat} {f g : Nat → Int}
theorem cell (h : Row t w b n f) {i : Nat} (hi : i < n) : w.cell? ⟨b, i, none⟩ = some (.int .u8 (f i)) := by
  obtain ⟨c, hb, _, hc⟩ := h
  simp [World.cell?, hb, hc i hi]
theorem frozen (h : Row t w b n f) (i : Nat) : w.frozen? ⟨b, i, none⟩ = false := by
  obtain ⟨c, hb, _, _⟩ := h
  simp [World.frozen?, hb]
theorem lt (h : Row t w b n f) : b < w.heap.size := by
  obtain ⟨c, hb, _, _⟩ := h
  exact (Array.getElem?_eq_some_iff.1 hb).1
theorem congr (h : Row t w b n f) (e : ∀ i, i < n → f i = g i) : Row t w b n g := by
  obtain ⟨c, hb, hn, hc⟩ := h
  exact ⟨c, hb, hn, fun i hi => by rw [hc i hi, e i hi]⟩
theorem of_block (h : Row t w b n f) (e : w'.heap[b]? = w.heap[b]?) : Row t w' b n f := by
  obtain ⟨c, hb, hn, hc⟩ := h
  exact ⟨c, e.trans hb, hn, hc⟩
theorem below {B : Nat} (h : Row t w b n f) (hb : Below B w w') (hlt : b < B) : Row t w' b n f := h.of_block (hb.block b hlt)
theorem belowAll (h : Row t w b n f) (hb : Below w.heap.size w w') : Row t w' b n f := h.below hb h.lt
theorem ofIs (h : w.rowIs b t n (fun i => .int .u8 (f i))) : Row t w b n f := by
  obtain ⟨c, hb, hn, hc⟩ := h
  exact ⟨c, hb, by omega, hc⟩
theorem set (h : Row t w b n f) (i : Nat) (x : Int) : Row t (w.setCell ⟨b, i, none⟩ (.int .u8 x)) b n (fun j => if j = i then x else f j) := by
  obtain ⟨c, hb, hn, hc⟩ := h
  refine ⟨c.setIfInBounds i (.int .u8 x), ?_, by simpa using hn, fun j hj => ?_⟩
  · simp [World.setCell, Array.getElem?_modify, hb]
  · rw [Array.getElem?_setIfInBounds]
    by_cases e : j = i
    · subst e
      have : j < c.size := by omega
      simp [this]
    · rw [if_neg (fun h => e h.symm)]
      show c[j]? = some (.int .u8 (if j = i then x else f j))
      rw [if_neg e]
      exact hc j hj
theorem view {cap : Nat} (h : Row t w b n f) (hc : n ≤ cap) (hb : ∀ i, i < n → 0 ≤ f i ∧ f i ≤ 255) : View w (some ⟨b, 0, none⟩) n cap f :=
  ⟨hc, hb, fun _ => ⟨b, 0, rfl, h.lt, fun i hi => by rw [Nat.zero_add]; exact h.cell hi⟩⟩
end Row

/-- Block b alone may have turned; no block has come or gone. -/
structure Only (b : Nat) (w w' : World) : Prop where
  os : w'.os = w.os
  tape : w'.tape = w.tape
  output : w'.output = w.output
  size : w'.heap.size = w.heap.size
  block : ∀ k, k ≠ b → w'.heap[k]? = w.heap[k]?

theorem Only.refl (b : Nat) (w : World) : Only b w w := ⟨rfl, rfl, rfl, rfl, fun _ _ => rfl⟩
theorem Only.drew {b : Nat} {w w' : World} (h : Only b w w') : Only b w w'.drew := ⟨h.os, h.tape, h.output, h.size, h.block⟩
theorem Only.setCell {b i : Nat} {w w' : World} (h : Only b w w') (u : Value) : Only b w (w'.setCell ⟨b, i, none⟩ u) :=
  ⟨h.os, h.tape, h.output, by simpa using h.size, fun k hk => by rw [Below.heap_setCell _ _ _ _ (by exact hk)]; exact h.block k hk⟩
theorem Only.below {b B : Nat} {w w' : World} (h : Only b w w') (hB : B ≤ b) : Below B w w' :=
  ⟨h.os, h.tape, h.output, by rw [h.size]; exact Nat.le_refl _, fun k hk => h.block k (by omega)⟩
theorem Only.row {t : TypeId} {b b' n : Nat} {f : Nat → Int} {w w' : World} (h : Only b w w') (hr : Row t w b' n f) (hne : b' ≠ b) : Row t w' b' n f := hr.of_block (h.block b' hne)
theorem Only.view {b : Nat} {ao : Option Addr} {n cap : Nat} {f : Nat → Int} {w w' : World} (h : Only b w w') (hv : View w ao n cap f) (hne : ∀ a, ao = some a → a.block ≠ b) : View w' ao n cap f := by
  refine ⟨hv.le, hv.byte, fun hn => ?_⟩
  obtain ⟨b', off, e, hlt, hc⟩ := hv.cells hn
  refine ⟨b', off, e, by rw [h.size]; exact hlt, fun i hi => ?_⟩
  rw [World.cell?_of_block (w := w) (h.block b' (hne _ e))]
  exact hc i hi

end Go.Proofs.Ytbpkonneliidias

/-
  Plain facts on numbers: and, or, exclusive or of two numbers that are not negative, as Go's int has them. No program text is named here.
-/
namespace Go.Proofs.Ytbpkonneliidias
open Go.RowKit
set_option maxRecDepth 4000

theorem wrapNat63 (n : Nat) (h : n < 9223372036854775808) : IntKind.i64.wrap (n : Int) = (n : Int) := by
  rw [IntKind.wrap_i64]; omega

theorem i64_xor_nat (a b : Nat) (ha : a < 9223372036854775808) (hb : b < 9223372036854775808) : bits .xor .i64 (a : Int) (b : Int) = ((a ^^^ b : Nat) : Int) := by
  have h : a ^^^ b < 9223372036854775808 := Nat.xor_lt_two_pow (n := 63) ha hb
  show IntKind.i64.wrap ((BitVec.ofInt 64 (a : Int) ^^^ BitVec.ofInt 64 (b : Int)).toNat : Nat) = _
  rw [BitVec.toNat_xor, ofInt_u64 a (by omega), ofInt_u64 b (by omega), wrapNat63 _ h]

theorem i64_or_nat (a b : Nat) (ha : a < 9223372036854775808) (hb : b < 9223372036854775808) : bits .or .i64 (a : Int) (b : Int) = ((a ||| b : Nat) : Int) := by
  have h : a ||| b < 9223372036854775808 := Nat.or_lt_two_pow (n := 63) ha hb
  show IntKind.i64.wrap ((BitVec.ofInt 64 (a : Int) ||| BitVec.ofInt 64 (b : Int)).toNat : Nat) = _
  rw [BitVec.toNat_or, ofInt_u64 a (by omega), ofInt_u64 b (by omega), wrapNat63 _ h]

theorem i64_and_nat (a b : Nat) (ha : a < 9223372036854775808) (hb : b < 9223372036854775808) : bits .and .i64 (a : Int) (b : Int) = ((a &&& b : Nat) : Int) := by
  have h : a &&& b < 9223372036854775808 := Nat.and_lt_two_pow (n := 63) _ hb
  show IntKind.i64.wrap ((BitVec.ofInt 64 (a : Int) &&& BitVec.ofInt 64 (b : Int)).toNat : Nat) = _
  rw [BitVec.toNat_and, ofInt_u64 a (by omega), ofInt_u64 b (by omega), wrapNat63 _ h]

theorem i64_and1 (n : Nat) (h : n < 9223372036854775808) : bits .and .i64 (n : Int) 1 = ((n % 2 : Nat) : Int) := by
  have := i64_and_nat n 1 h (by decide)
  rw [nat_mask1] at this; exact this

/-- What is laid above the lower i bits is added. -/
theorem i64_or_add (i : Nat) (a b : Int) (h0 : 0 ≤ a) (h1 : a < 2 ^ i) (h2 : 0 ≤ b) (h3 : b % 2 ^ i = 0) (h4 : b < 9223372036854775808) (h5 : (2 : Int) ^ i ≤ 9223372036854775808) : bits .or .i64 a b = a + b := by
  obtain ⟨x, rfl⟩ := Int.eq_ofNat_of_zero_le h0
  obtain ⟨y, rfl⟩ := Int.eq_ofNat_of_zero_le h2
  have e : ((2 ^ i : Nat) : Int) = 2 ^ i := by simp
  rw [← e] at h1 h3 h5
  have h3' : y % 2 ^ i = 0 := by omega
  rw [i64_or_nat x y (by omega) (by omega), Nat.or_comm, nat_join i y x h3' (by omega)]
  omega

theorem u8_wrap (x : Int) : IntKind.u8.wrap x = x % 256 := by simp [IntKind.wrap, IntKind.bits, IntKind.signed]

end Go.Proofs.Ytbpkonneliidias

/-
  A number as its groups, plainly; lists of bytes that the call owns as rows.
-/
namespace Go.Proofs.Ytbpkonneliidias
open Go.RowKit
set_option maxRecDepth 4000

def groups (x : Int) : List Int := if x < 128 then [x] else if x < 16384 then [x % 128 + 128, x / 128] else [x % 128 + 128, x / 128 % 128 + 128, x / 16384]
theorem groups_last (x : Int) (h : x < 128) : groups x = [x] := by unfold groups; rw [if_pos h]
theorem groups_step (x : Int) (h : 128 ≤ x) (h1 : x ≤ 1000000) : groups x = (x % 128 + 128) :: groups (x / 128) := by
  unfold groups
  rw [if_neg (by omega)]
  by_cases h2 : x < 16384
  · rw [if_pos h2, if_pos (by omega)]
  · rw [if_neg h2, if_neg (by omega), if_pos (by omega)]
    have : x / 128 / 128 = x / 16384 := by omega
    rw [this]
theorem groups_len (x : Int) : 1 ≤ (groups x).length ∧ (groups x).length ≤ 3 := by
  unfold groups; split
  · simp
  · split <;> simp
theorem groups_byte (x : Int) (h0 : 0 ≤ x) (h1 : x ≤ 1000000) : ∀ y ∈ groups x, 0 ≤ y ∧ y ≤ 255 := by
  unfold groups; intro y hy; split at hy
  · simp at hy; omega
  · split at hy
    · simp at hy; omega
    · simp at hy; omega

def clampN (x : Int) : Int := if x < 0 then 0 else if 1000000 < x then 1000000 else x
theorem clampN_bd (x : Int) : 0 ≤ clampN x ∧ clampN x ≤ 1000000 := by unfold clampN; split <;> (try split) <;> omega

def lof (n : Nat) (f : Nat → Int) : List Int := (List.range n).map f
theorem lof_len (n : Nat) (f : Nat → Int) : (lof n f).length = n := by simp [lof]
theorem lof_get (n : Nat) (f : Nat → Int) (i : Nat) (h : i < n) : (lof n f).getD i 0 = f i := by simp [lof, h]
def bl (l : List Int) : List Value := l.map (Value.int .u8)
theorem bl_len (l : List Int) : (bl l).length = l.length := by simp [bl]
theorem bl_append (l m : List Int) : bl (l ++ m) = bl l ++ bl m := by simp [bl]
theorem bl_one (l : List Int) : ∀ u ∈ bl l, u.oneCell' = true := by
  intro u hu
  simp only [bl, List.mem_map] at hu
  obtain ⟨x, _, rfl⟩ := hu
  rfl

/-- What the call owns as a list of bytes, as a row. -/
theorem row_of_own {base : Nat} {t : TypeId} {v : Value} {N : Nat} {l : List Int} {w : World} (h : w.ownsRow base t 1 v N (bl l)) (hN : 0 < N) :
    ∃ g c, v = .slice (some ⟨g, 0, none⟩) N c ∧ base ≤ g ∧ N ≤ c ∧ Row t w g N (fun i => l.getD i 0) := by
  obtain ⟨hl, h⟩ := h
  rcases h with ⟨_, h0⟩ | ⟨g, c, cur, rfl, hb, hg, hnc, _, hcs, ht⟩
  · omega
  · refine ⟨g, c, rfl, hb, hnc, cur, hg, by omega, fun i hi => ?_⟩
    have e : (bl l)[i]? = some (.int .u8 (l.getD i 0)) := by
      have : i < l.length := by rw [bl_len] at hl; omega
      simp [bl, this]
    rw [← ht, List.getElem?_take, if_pos (by omega)] at e
    simpa using e

theorem row_of_own' {base : Nat} {t : TypeId} {v : Value} {N : Nat} {l : List Int} {w : World} (h : w.ownsRow base t 1 v N (bl l)) (hv : v ≠ .slice none 0 0) :
    ∃ g c, v = .slice (some ⟨g, 0, none⟩) N c ∧ base ≤ g ∧ N ≤ c ∧ Row t w g N (fun i => l.getD i 0) := by
  obtain ⟨hl, h⟩ := h
  rcases h with ⟨h0, _⟩ | ⟨g, c, cur, rfl, hb, hg, hnc, _, hcs, ht⟩
  · exact absurd h0 hv
  · refine ⟨g, c, rfl, hb, hnc, cur, hg, by omega, fun i hi => ?_⟩
    have e : (bl l)[i]? = some (.int .u8 (l.getD i 0)) := by
      have : i < l.length := by rw [bl_len] at hl; omega
      simp [bl, this]
    rw [← ht, List.getElem?_take, if_pos (by omega)] at e
    simpa using e
theorem row_of_owned {base : Nat} {t : TypeId} {g N c : Nat} {l : List Int} {w : World} (h : w.ownsRow base t 1 (.slice (some ⟨g, 0, none⟩) N c) N (bl l)) : Row t w g N (fun i => l.getD i 0) := by
  obtain ⟨hl, h⟩ := h
  rcases h with ⟨h, _⟩ | ⟨g', c', cur, e, hb, hg, hnc, _, hcs, ht⟩
  · cases h
  · simp only [Value.slice.injEq, Option.some.injEq, Addr.mk.injEq, and_true, true_and] at e
    obtain ⟨rfl, rfl⟩ := e
    refine ⟨cur, hg, by omega, fun i hi => ?_⟩
    have e : (bl l)[i]? = some (.int .u8 (l.getD i 0)) := by
      have : i < l.length := by rw [bl_len] at hl; omega
      simp [bl, this]
    rw [← ht, List.getElem?_take, if_pos (by omega)] at e
    simpa using e
theorem lof_self (l : List Int) : lof l.length (fun i => l.getD i 0) = l := by
  apply List.ext_getElem
  · simp [lof]
  · intro i h1 h2
    simp [lof, h2]

/-- One new cell. -/
theorem cellNew (w : World) (x : Value) (t : TypeId) : ∀ j u, [x][j]? = some u → (w.alloc (.cells #[x] t)).cell? ((⟨w.heap.size, 0, none⟩ : Addr).add j) = some u := by
  intro j u hj
  match j, hj with
  | 0, hj => simp at hj; subst hj; simp [Addr.add]

/-- The cells of a slice that reads, as the law on appending asks for them. -/
theorem cells_of_view {w : World} {b off n cap : Nat} {f : Nat → Int} (h : View w (some ⟨b, off, none⟩) n cap f) : ∀ j u, (bl (lof n f))[j]? = some u → w.cell? ((⟨b, off, none⟩ : Addr).add j) = some u := by
  intro j u hu
  have hj : j < n := by
    by_cases hj : j < n
    · exact hj
    · rw [List.getElem?_eq_none (by rw [bl_len, lof_len]; omega)] at hu; cases hu
  obtain ⟨b', off', e, _, hc⟩ := h.cells (by omega)
  simp only [Option.some.injEq, Addr.mk.injEq, and_true] at e
  obtain ⟨rfl, rfl⟩ := e
  have ea : (⟨b, off, none⟩ : Addr).add j = ⟨b, off + j, none⟩ := by unfold Addr.add; split <;> simp_all
  rw [ea, hc j hj]
  simp [bl, lof, hj] at hu
  rw [hu]

theorem put_byte (n : Nat) (f : Nat → Int) (gs : List Int) (hf : ∀ i, i < n → 0 ≤ f i ∧ f i ≤ 255) (hg : ∀ y ∈ gs, 0 ≤ y ∧ y ≤ 255) : ∀ i, i < n + gs.length → 0 ≤ (lof n f ++ gs).getD i 0 ∧ (lof n f ++ gs).getD i 0 ≤ 255 := by
  intro i hi
  by_cases h : i < n
  · have e : (lof n f ++ gs).getD i 0 = f i := by
      rw [← lof_get n f i h, List.getD_eq_getElem?_getD, List.getD_eq_getElem?_getD, List.getElem?_append_left (by rw [lof_len]; exact h)]
    rw [e]; exact hf i h
  · have e : (lof n f ++ gs).getD i 0 = gs.getD (i - n) 0 := by
      rw [List.getD_eq_getElem?_getD, List.getD_eq_getElem?_getD, List.getElem?_append_right (by rw [lof_len]; omega), lof_len]
    rw [e]
    have hi' : i - n < gs.length := by omega
    have : gs.getD (i - n) 0 = gs[i - n] := by simp [hi']
    rw [this]
    exact hg _ (List.getElem_mem hi')

end Go.Proofs.Ytbpkonneliidias

/-
  Tokens, plainly: bytes of a text, names, marks, and a text as its tokens.
-/
namespace Go.Proofs.Ytbpkonneliidias
open Go.RowKit
set_option maxRecDepth 4000

/-- A byte of a text. -/
def bt (s : ByteArray) (i : Nat) : Int := if h : i < s.size then (s[i].toNat : Int) else 0
theorem bt_at {s : ByteArray} {i : Nat} (h : i < s.size) : (s[i].toNat : Int) = bt s i := by unfold bt; rw [dif_pos h]
theorem bt_bd (s : ByteArray) (i : Nat) : 0 ≤ bt s i ∧ bt s i ≤ 255 := by
  unfold bt
  split
  · have := s[i].toNat_lt; omega
  · omega
def small (c : Int) : Bool := decide (97 ≤ c ∧ c ≤ 122)
def digit (c : Int) : Bool := decide (48 ≤ c ∧ c ≤ 57)
def blank (c : Int) : Bool := decide (c = 32 ∨ c = 9 ∨ c = 10 ∨ c = 13)
def markC (c : Int) : Bool := decide (c = 123 ∨ c = 125 ∨ c = 44 ∨ c = 59)
/-- Whether a byte goes on with a name. -/
def inName (c : Int) : Bool := small c || digit c
/-- Whether a text is a name. -/
def nameOk (s : ByteArray) : Bool := decide (1 ≤ s.size ∧ s.size ≤ 8 ∧ small (bt s 0) = true ∧ ∀ i, i < s.size → inName (bt s i) = true)
/-- Whether a text is a mark. -/
def markOk (s : ByteArray) : Bool := decide (s.size = 1 ∧ markC (bt s 0) = true)
/-- Whether a token is right. -/
def tokOk (k : Int) (s : ByteArray) : Bool := if k = 1 then nameOk s else if k = 2 then markOk s else false

/-- The end of the name that goes on at a place. -/
def endN (s : ByteArray) (i : Nat) : Nat := if _h : i < s.size ∧ inName (bt s i) = true then endN s (i + 1) else i
  termination_by s.size - i
theorem endN_step {s : ByteArray} {i : Nat} (h : i < s.size) (h1 : inName (bt s i) = true) : endN s i = endN s (i + 1) := by
  conv => lhs; unfold endN
  rw [dif_pos ⟨h, h1⟩]
theorem endN_stop {s : ByteArray} {i : Nat} (h : ¬ (i < s.size ∧ inName (bt s i) = true)) : endN s i = i := by
  unfold endN; rw [dif_neg h]
theorem endN_ge (s : ByteArray) (i : Nat) : i ≤ endN s i := by
  unfold endN
  split
  · have := endN_ge s (i + 1); omega
  · exact Nat.le_refl _
  termination_by s.size - i
theorem endN_le (s : ByteArray) (i : Nat) (hi : i ≤ s.size) : endN s i ≤ s.size := by
  unfold endN
  split
  · rename_i h; exact endN_le s (i + 1) (by omega)
  · exact hi
  termination_by s.size - i

/-- The kind and the end of the token at a place. -/
def kindAt (s : ByteArray) (i : Nat) : Int := if small (bt s i) then 1 else 2
def stopAt (s : ByteArray) (i : Nat) : Nat := if small (bt s i) then endN s (i + 1) else i + 1
theorem stopAt_gt (s : ByteArray) (i : Nat) : i < stopAt s i := by
  unfold stopAt
  split
  · have := endN_ge s (i + 1); omega
  · omega
theorem stopAt_le {s : ByteArray} {i : Nat} (h : i < s.size) : stopAt s i ≤ s.size := by
  unfold stopAt
  split
  · exact endN_le s (i + 1) (by omega)
  · omega
/-- A text's tokens from a place on, behind those that are there; and -1, or the place where there is none. -/
def lexF (s : ByteArray) (i : Nat) (l : List (Int × ByteArray)) : List (Int × ByteArray) × Int :=
  if _h : i < s.size then
    if blank (bt s i) then lexF s (i + 1) l
    else if tokOk (kindAt s i) (s.extract i (stopAt s i)) = true ∧ l.length ≠ 500 then lexF s (stopAt s i) (l ++ [(kindAt s i, s.extract i (stopAt s i))])
    else ([], (i : Int))
  else (l, -1)
  termination_by s.size - i
  decreasing_by
    · omega
    · have := stopAt_gt s i; omega
theorem lexF_end {s : ByteArray} {i : Nat} {l : List (Int × ByteArray)} (h : ¬ i < s.size) : lexF s i l = (l, -1) := by unfold lexF; rw [dif_neg h]
theorem lexF_blank {s : ByteArray} {i : Nat} {l : List (Int × ByteArray)} (h : i < s.size) (hb : blank (bt s i) = true) : lexF s i l = lexF s (i + 1) l := by
  conv => lhs; unfold lexF
  rw [dif_pos h, if_pos hb]
theorem lexF_tok {s : ByteArray} {i : Nat} {l : List (Int × ByteArray)} (h : i < s.size) (hb : blank (bt s i) = false) (ht : tokOk (kindAt s i) (s.extract i (stopAt s i)) = true) (hl : l.length ≠ 500) : lexF s i l = lexF s (stopAt s i) (l ++ [(kindAt s i, s.extract i (stopAt s i))]) := by
  conv => lhs; unfold lexF
  rw [dif_pos h, if_neg (by rw [hb]; simp), if_pos ⟨ht, hl⟩]
theorem lexF_no {s : ByteArray} {i : Nat} {l : List (Int × ByteArray)} (h : i < s.size) (hb : blank (bt s i) = false) (ht : ¬ (tokOk (kindAt s i) (s.extract i (stopAt s i)) = true ∧ l.length ≠ 500)) : lexF s i l = ([], (i : Int)) := by
  unfold lexF
  rw [dif_pos h, if_neg (by rw [hb]; simp), if_neg ht]

/-- There are at most 500. -/
theorem lexF_few (s : ByteArray) (i : Nat) (l : List (Int × ByteArray)) (hl : l.length ≤ 500) : (lexF s i l).1.length ≤ 500 := by
  by_cases h : i < s.size
  · cases hb : blank (bt s i) with
    | true => rw [lexF_blank h hb]; exact lexF_few s (i + 1) l hl
    | false =>
      by_cases ht : tokOk (kindAt s i) (s.extract i (stopAt s i)) = true ∧ l.length ≠ 500
      · rw [lexF_tok h hb ht.1 ht.2]
        exact lexF_few s (stopAt s i) _ (by rw [List.length_append]; simp; omega)
      · rw [lexF_no h hb ht]; exact Nat.zero_le _
  · rw [lexF_end h]; exact hl
  termination_by s.size - i
  decreasing_by all_goals (have := stopAt_gt s i; omega)

/-- The bytes of a piece of a text. -/
theorem bt_extract {s : ByteArray} {i e j : Nat} (he : e ≤ s.size) (hj : i + j < e) : bt (s.extract i e) j = bt s (i + j) := by
  have h1 : j < (s.extract i e).size := by rw [ByteArray.size_extract]; omega
  rw [← bt_at h1, ← bt_at (s := s) (i := i + j) (by omega), ByteArray.getElem_extract]
end Go.Proofs.Ytbpkonneliidias

/-
  What turns but one block: how it is carried.
-/
namespace Go.Proofs.Ytbpkonneliidias
open Go.RowKit
set_option maxRecDepth 4000

/-- Of what was there block g alone may have turned. -/
structure But (g : Nat) (w w' : World) : Prop where
  os : w'.os = w.os
  tape : w'.tape = w.tape
  output : w'.output = w.output
  size : w.heap.size ≤ w'.heap.size
  block : ∀ k, k < w.heap.size → k ≠ g → w'.heap[k]? = w.heap[k]?

theorem But.refl (g : Nat) (w : World) : But g w w := ⟨rfl, rfl, rfl, Nat.le_refl _, fun _ _ _ => rfl⟩
theorem But.trans {g : Nat} {a b c : World} (h : But g a b) (k : But g b c) : But g a c :=
  ⟨k.os.trans h.os, k.tape.trans h.tape, k.output.trans h.output, Nat.le_trans h.size k.size, fun i hi hg => (k.block i (Nat.lt_of_lt_of_le hi h.size) hg).trans (h.block i hi hg)⟩
theorem But.ofOnly {g : Nat} {w w' : World} (h : Only g w w') : But g w w' := ⟨h.os, h.tape, h.output, by rw [h.size]; exact Nat.le_refl _, fun k _ hk => h.block k hk⟩
theorem But.ofBelow {g : Nat} {w w' : World} (h : Below w.heap.size w w') : But g w w' := ⟨h.os, h.tape, h.output, h.size, fun k hk _ => h.block k hk⟩
theorem But.below {g B : Nat} {w w' : World} (h : But g w w') (hB : B ≤ g) (hs : B ≤ w.heap.size) : Below B w w' := ⟨h.os, h.tape, h.output, h.size, fun k hk => h.block k (by omega) (by omega)⟩
theorem But.row {t : TypeId} {g b n : Nat} {f : Nat → Int} {w w' : World} (h : But g w w') (hr : Row t w b n f) (hne : b ≠ g) : Row t w' b n f := hr.of_block (h.block b hr.lt hne)
theorem But.view {g : Nat} {ao : Option Addr} {n cap : Nat} {f : Nat → Int} {w w' : World} (h : But g w w') (hv : View w ao n cap f) (hne : ∀ a, ao = some a → 0 < n → a.block ≠ g) : View w' ao n cap f := by
  refine ⟨hv.le, hv.byte, fun hn => ?_⟩
  obtain ⟨b', off, e, hlt, hc⟩ := hv.cells hn
  refine ⟨b', off, e, Nat.lt_of_lt_of_le hlt h.size, fun i hi => ?_⟩
  rw [World.cell?_of_block (w := w) (h.block b' hlt (hne _ e hn))]
  exact hc i hi
theorem Only.grown {g : Nat} {w w' : World} (h : Only g w w') : w.grownBy w' (some g) :=
  ⟨h.os, h.tape, h.output, by rw [h.size]; exact Nat.le_refl _, fun k _ hk => h.block k (fun e => hk (by rw [e]))⟩
theorem But.grown {g : Nat} {w w' : World} (h : But g w w') : w.grownBy w' (some g) := ⟨h.os, h.tape, h.output, h.size, fun k hk hne => h.block k hk (fun e => hne (by rw [e]))⟩
end Go.Proofs.Ytbpkonneliidias

/-
  A slice of tokens that reads, by a function of the index, and how that is carried from one world to the next.
-/
namespace Go.Proofs.Ytbpkonneliidias
open Go.RowKit
set_option maxRecDepth 4000

/-- The slice value '.slice ao n cap' reads, in the world w, as the n tokens f 0 up to f (n - 1). -/
structure TView (w : World) (ao : Option Addr) (n cap : Nat) (fk : Nat → Int) (fs : Nat → ByteArray) : Prop where
  le : n ≤ cap
  cells : 0 < n → ∃ b off, ao = some ⟨b, off, none⟩ ∧ b < w.heap.size ∧ ∀ i, i < n → w.cell? ⟨b, off + i * 2, none⟩ = some (.int .i64 (fk i)) ∧ w.cell? ⟨b, off + i * 2 + 1, none⟩ = some (.string (fs i))

theorem TView.below {w w' : World} {ao : Option Addr} {n cap : Nat} {fk : Nat → Int} {fs : Nat → ByteArray} (h : TView w ao n cap fk fs) (hb : Below w.heap.size w w') : TView w' ao n cap fk fs := by
  refine ⟨h.le, fun hn => ?_⟩
  obtain ⟨b, off, e, hlt, hc⟩ := h.cells hn
  refine ⟨b, off, e, Nat.lt_of_lt_of_le hlt hb.size, fun i hi => ?_⟩
  rw [hb.cell (p := ⟨b, off + i * 2, none⟩) hlt, hb.cell (p := ⟨b, off + i * 2 + 1, none⟩) hlt]
  exact hc i hi
theorem TView.but {w w' : World} {g : Nat} {ao : Option Addr} {n cap : Nat} {fk : Nat → Int} {fs : Nat → ByteArray} (h : TView w ao n cap fk fs) (hb : But g w w') (hne : ∀ a, ao = some a → a.block ≠ g) : TView w' ao n cap fk fs := by
  refine ⟨h.le, fun hn => ?_⟩
  obtain ⟨b, off, e, hlt, hc⟩ := h.cells hn
  refine ⟨b, off, e, Nat.lt_of_lt_of_le hlt hb.size, fun i hi => ?_⟩
  rw [World.cell?_of_block (w := w) (a := ⟨b, off + i * 2, none⟩) (hb.block b hlt (hne _ e)), World.cell?_of_block (w := w) (a := ⟨b, off + i * 2 + 1, none⟩) (hb.block b hlt (hne _ e))]
  exact hc i hi
theorem TView.congr {w : World} {ao : Option Addr} {n cap : Nat} {fk gk : Nat → Int} {fs gs : Nat → ByteArray} (h : TView w ao n cap fk fs) (e : ∀ i, i < n → fk i = gk i ∧ fs i = gs i) : TView w ao n cap gk gs := by
  refine ⟨h.le, fun hn => ?_⟩
  obtain ⟨b, off, ea, hlt, hc⟩ := h.cells hn
  exact ⟨b, off, ea, hlt, fun i hi => by rw [← (e i hi).1, ← (e i hi).2]; exact hc i hi⟩

/-- The cells of the first k tokens. -/
def rowK (gk : Nat → Int) (gs : Nat → ByteArray) : Nat → List Value
  | 0 => []
  | k + 1 => rowK gk gs k ++ [.int .i64 (gk k), .string (gs k)]
theorem rowK_len (gk : Nat → Int) (gs : Nat → ByteArray) : ∀ k, (rowK gk gs k).length = k * 2
  | 0 => rfl
  | k + 1 => by rw [rowK, List.length_append, rowK_len gk gs k]; simp; omega
theorem rowK_get (gk : Nat → Int) (gs : Nat → ByteArray) : ∀ k i, i < k → (rowK gk gs k)[i * 2]? = some (.int .i64 (gk i)) ∧ (rowK gk gs k)[i * 2 + 1]? = some (.string (gs i))
  | k + 1, i, hi => by
    have hl := rowK_len gk gs k
    by_cases e : i < k
    · obtain ⟨h1, h2⟩ := rowK_get gk gs k i e
      rw [rowK, List.getElem?_append_left (by omega), List.getElem?_append_left (by omega)]
      exact ⟨h1, h2⟩
    · obtain rfl : i = k := by omega
      rw [rowK, List.getElem?_append_right (by omega), List.getElem?_append_right (by omega), hl]
      simp [show i * 2 + 1 - i * 2 = 1 by omega]
theorem rowK_congr {gk : Nat → Int} {gs : Nat → ByteArray} {hk : Nat → Int} {hs : Nat → ByteArray} : ∀ {k : Nat}, (∀ i, i < k → gk i = hk i ∧ gs i = hs i) → rowK gk gs k = rowK hk hs k
  | 0, _ => rfl
  | k + 1, e => by
    obtain ⟨h1, h3⟩ := e k (by omega)
    rw [rowK, rowK, rowK_congr (fun i hi => e i (by omega)), h1, h3]

/-- A row of tokens of the call's own reads. -/
theorem tview_of_own {w : World} {base : Nat} {v : Value} {N : Nat} {gk : Nat → Int} {gs : Nat → ByteArray} (h : w.ownsRow base 54 2 v N (rowK gk gs N)) : ∃ a c, v = .slice a N c ∧ TView w a N c gk gs ∧ (v ≠ .slice none 0 0 → ∃ g, a = some ⟨g, 0, none⟩ ∧ base ≤ g) := by
  obtain ⟨hl, h⟩ := h
  rcases h with ⟨rfl, h0⟩ | ⟨g, c, cur, rfl, hb, hg, hnc, _, hcs, ht⟩
  · have hN : N = 0 := by have := h0; have := rowK_len gk gs N; omega
    subst hN
    exact ⟨none, 0, rfl, ⟨Nat.le_refl _, fun hn => absurd hn (Nat.lt_irrefl _)⟩, fun hne => absurd rfl hne⟩
  · refine ⟨_, c, rfl, ⟨hnc, fun hn => ⟨g, 0, rfl, ?_, fun i hi => ?_⟩⟩, fun _ => ⟨g, rfl, hb⟩⟩
    · exact (Array.getElem?_eq_some_iff.1 hg).1
    · have key : ∀ j x, j < N * 2 → (rowK gk gs N)[j]? = some x → w.cell? ⟨g, 0 + j, none⟩ = some x := by
        intro j x hj hx
        rw [← ht, List.getElem?_take, if_pos hj] at hx
        simp only [World.cell?, hg, Nat.zero_add]
        simpa using hx
      obtain ⟨h1, h2⟩ := rowK_get gk gs N i hi
      have k0 := key _ _ (by omega) h1
      have k1 := key _ _ (by omega) h2
      simp only [Nat.zero_add] at k0 k1 ⊢
      exact ⟨k0, k1⟩
end Go.Proofs.Ytbpkonneliidias

/-
  What the table of the types says of the bytes.
-/
namespace Go.Proofs.Ytbpkonneliidias
open Go.RowKit
set_option maxRecDepth 4000

theorem Try.info5 : (Try.prog.info? 5).map (fun i => (i.zero, i.size, i.bytes)) = some (some (.int .u8 0), 1, 1) := by kernel_rfl

end Go.Proofs.Ytbpkonneliidias

/-
  A token in a variable of the call's own; a row of tokens grows by one.
-/
namespace Go.Proofs.Ytbpkonneliidias
open Go.RowKit
set_option maxRecDepth 4000

/-- The two cells of a token. -/
def tokC (k : Int) (s : ByteArray) : Nat → Value
  | 0 => .int .i64 k
  | _ => .string s

/-- A token in a variable of the call's own. -/
def TBox (w : World) (B : Nat) (k : Int) (s : ByteArray) : Prop := w.rowIs B 54 2 (tokC k s)
theorem TBox.new (w : World) (k : Int) (s : ByteArray) : TBox (w.alloc (.cells #[.int .i64 k, .string s] 54)) w.heap.size k s :=
  World.rowIs_alloc w _ 54 (tokC k s) (fun j hj => by match j, hj with | 0, _ => rfl | 1, _ => rfl)
theorem TBox.cells {w : World} {B : Nat} {k : Int} {s : ByteArray} (h : TBox w B k s) : w.cell? ⟨B, 0, none⟩ = some (.int .i64 k) ∧ w.cell? ⟨B, 1, none⟩ = some (.string s) :=
  ⟨h.cell (i := 0) (by decide), h.cell (i := 1) (by decide)⟩
theorem TBox.frozen {w : World} {B : Nat} {k : Int} {s : ByteArray} (h : TBox w B k s) : w.frozen? ⟨B, 0, none⟩ = false ∧ w.frozen? ⟨B, 1, none⟩ = false :=
  ⟨World.rowIs.frozen h 0, World.rowIs.frozen h 1⟩
theorem TBox.lt {w : World} {B : Nat} {k : Int} {s : ByteArray} (h : TBox w B k s) : B < w.heap.size := World.rowIs.lt h
theorem TBox.below {w w' : World} {B : Nat} {k : Int} {s : ByteArray} (h : TBox w B k s) (hb : Below w.heap.size w w') : TBox w' B k s := h.of_block (hb.block B h.lt)
theorem TBox.but {w w' : World} {B g : Nat} {k : Int} {s : ByteArray} (h : TBox w B k s) (hb : But g w w') (hne : B ≠ g) : TBox w' B k s := h.of_block (hb.block B h.lt hne)
theorem TBox.set0 {w : World} {B : Nat} {k : Int} {s : ByteArray} (h : TBox w B k s) (x : Int) : TBox (w.setCell ⟨B, 0, none⟩ (.int .i64 x)) B x s :=
  (World.rowIs.set h 0 _).congr (fun j hj => by match j, hj with | 0, _ => rfl | 1, _ => rfl)
theorem TBox.set1 {w : World} {B : Nat} {k : Int} {s : ByteArray} (h : TBox w B k s) (t : ByteArray) : TBox (w.setCell ⟨B, 1, none⟩ (.string t)) B k t :=
  (World.rowIs.set h 1 _).congr (fun j hj => by match j, hj with | 0, _ => rfl | 1, _ => rfl)
theorem TBox.other {w : World} {B D i : Nat} {k : Int} {s : ByteArray} (h : TBox w B k s) (hne : B ≠ D) (u : Value) : TBox (w.setCell ⟨D, i, none⟩ u) B k s := h.of_block (Below.heap_setCell _ _ _ _ hne)

theorem infoTok2 : ∃ i, Try.prog.info? 54 = some i ∧ i.zero = some (.agg #[.int .i64 0, .string ⟨#[]⟩]) ∧ i.size = 2 ∧ i.bytes = 24 := by
  have h : (Try.prog.info? 54).map (fun i => (i.zero, i.size, i.bytes)) = some (some (.agg #[.int .i64 0, .string ⟨#[]⟩]), 2, 24) := by kernel_rfl
  obtain ⟨i, hi, hz⟩ := Option.map_eq_some_iff.1 h
  simp only [Prod.mk.injEq] at hz
  exact ⟨i, hi, hz.1, hz.2.1, hz.2.2⟩

/-- The cells of a new row of one token. -/
theorem cells_tok (W : World) (k : Int) (s : ByteArray) : ∀ j u, [Value.int .i64 k, .string s][j]? = some u → (W.alloc (.cells #[.int .i64 k, .string s] 54)).cell? ((⟨W.heap.size, 0, none⟩ : Addr).add j) = some u := by
  intro j u h
  obtain ⟨c0, c1⟩ := (TBox.new W k s).cells
  have ea : ∀ j, (⟨W.heap.size, 0, none⟩ : Addr).add j = ⟨W.heap.size, 0 + j, none⟩ := fun j => by unfold Addr.add; split <;> simp_all
  match j, h with
  | 0, h => cases h; rw [ea]; exact c0
  | 1, h => cases h; rw [ea]; exact c1
  | j + 2, h => simp at h
theorem one_tok (k : Int) (s : ByteArray) : ∀ u ∈ [Value.int .i64 k, .string s], u.oneCell' = true := by
  intro u hu
  simp at hu
  rcases hu with rfl | rfl <;> rfl
theorem own_below2 {w w' : World} {base : Nat} {t : TypeId} {v : Value} {n : Nat} {l : List Value} (h : w.ownsRow base t 2 v n l) (hb : Below w.heap.size w w') : w'.ownsRow base t 2 v n l := by
  refine h.kept (row := none) ⟨hb.os, hb.tape, hb.output, hb.size, fun k hk _ => hb.block k hk⟩ ?_
  cases hv : v.ownBlock with
  | none => exact Or.inl rfl
  | some k => exact Or.inr (fun e => by cases e)
end Go.Proofs.Ytbpkonneliidias

/-
  What Lex comes to: tokens in a row of the call's own, and a place.
-/
namespace Go.Proofs.Ytbpkonneliidias
open Go.RowKit
set_option maxRecDepth 4000

def tk (l : List (Int × ByteArray)) (i : Nat) : Int := (l.getD i (0, ⟨#[]⟩)).1
def ts (l : List (Int × ByteArray)) (i : Nat) : ByteArray := (l.getD i (0, ⟨#[]⟩)).2
/-- The cells of a list of tokens. -/
def rowL (l : List (Int × ByteArray)) : List Value := l.flatMap (fun t => [.int .i64 t.1, .string t.2])
theorem rowL_snoc (l : List (Int × ByteArray)) (t : Int × ByteArray) : rowL (l ++ [t]) = rowL l ++ [.int .i64 t.1, .string t.2] := by simp [rowL]
theorem tk_left {l m : List (Int × ByteArray)} {i : Nat} (h : i < l.length) : tk (l ++ m) i = tk l i ∧ ts (l ++ m) i = ts l i := by
  unfold tk ts; simp [List.getD, List.getElem?_append_left h]
theorem rowL_K : ∀ l : List (Int × ByteArray), rowL l = rowK (tk l) (ts l) l.length := by
  have key : ∀ (l : List (Int × ByteArray)) (k : Nat), k ≤ l.length → rowL (l.take k) = rowK (tk l) (ts l) k := by
    intro l k
    induction k with
    | zero => intro _; rfl
    | succ k ih =>
      intro hk
      have h1 : l.take (k + 1) = l.take k ++ [l[k]] := by rw [List.take_add_one, List.getElem?_eq_getElem (by omega)]; rfl
      have h2 : l.getD k (0, ⟨#[]⟩) = l[k] := by simp [List.getD, List.getElem?_eq_getElem (show k < l.length by omega)]
      rw [h1, rowL_snoc, ih (by omega), rowK]
      unfold tk ts
      rw [h2]
  intro l
  have := key l l.length (Nat.le_refl _)
  rw [List.take_length] at this
  exact this
/-- What Lex comes to. -/
def LexTo (w : World) (r : List (Int × ByteArray) × Int) (e : Ending) (w' : World) : Prop :=
  ∃ v, e = .returned (.tuple #[v, .int .i64 r.2]) ∧ v ≠ .slice none 0 0 ∧ w'.ownsRow w.heap.size 54 2 v r.1.length (rowL r.1) ∧ Below w.heap.size w w'
end Go.Proofs.Ytbpkonneliidias

/-
  The model's l8Name: whether a text is a name.
-/
namespace Go.Proofs.Ytbpkonneliidias
open Go.RowKit
set_option maxRecDepth 4000

theorem l1In_tok (x l m : Int) (w : World) :
    Calls Try.prog 97 #[.int .i64 x, .int .i64 l, .int .i64 m] w fun e w' => e = .returned (.bool (decide (l ≤ x) && decide (x ≤ m))) ∧ w = w' := by
  go_enter Try.func97, Try.ntmps97
  by_cases h : l ≤ x
  · have e1 : decide (l ≤ x) = true := by simpa using h
    go_wp2
    go_ret
    exact ⟨by simp [h], rfl⟩
  · have e1 : decide (l ≤ x) = false := by simpa using h
    go_wp2
    go_ret
    exact ⟨by simp, rfl⟩

theorem l8Small_any (c : Int) (w : World) (h0 : 0 ≤ c) (h1 : c ≤ 255) :
    Calls Try.prog 65 #[.int .u8 c] w fun e w' => e = .returned (.bool (small c)) ∧ w = w' := by
  have e : small c = (decide (97 ≤ c) && decide (c ≤ 122)) := by unfold small; simp
  rw [e]
  go_enter Try.func65, Try.ntmps65
  go_wp2_with fail
  refine (l1In_tok c 97 122 w).mono ?_
  rintro e w2 ⟨rfl, rfl⟩
  go_wp2
  go_ret
  exact ⟨rfl, rfl⟩
theorem l2Digit_tok (c : Int) (w : World) (h0 : 0 ≤ c) (h1 : c ≤ 255) :
    Calls Try.prog 66 #[.int .u8 c] w fun e w' => e = .returned (.bool (digit c)) ∧ w = w' := by
  have e : digit c = (decide (48 ≤ c) && decide (c ≤ 57)) := by unfold digit; simp
  rw [e]
  go_enter Try.func66, Try.ntmps66
  go_wp2_with fail
  refine (l1In_tok c 48 57 w).mono ?_
  rintro e w2 ⟨rfl, rfl⟩
  go_wp2
  go_ret
  exact ⟨rfl, rfl⟩

set_option maxHeartbeats 1000000 in
theorem l8Name_any (s : ByteArray) (w : World) (hs : s.size ≤ 281474976710656) :
    Calls Try.prog 73 #[.string s] w fun e w' => e = .returned (.bool (nameOk s)) ∧ w = w' := by
  go_enter Try.func73, Try.ntmps73
  go_wp2
  go_loopg [3] s.size (fun q i wr => ∃ k : Nat, k ≤ s.size ∧ q = s.size - k ∧ i = .int .i64 k ∧ wr = w ∧ (0 < k → small (bt s 0) = true) ∧ ∀ j, j < k → inName (bt s j) = true)
  case atStart => exact ⟨0, Nat.zero_le _, rfl, rfl, rfl, fun h => absurd h (Nat.lt_irrefl _), fun j hj => absurd hj (Nat.not_lt_zero _)⟩
  case round =>
    obtain ⟨k, hk, rfl, rfl, rfl, hs0, hall⟩ := hrel
    have HA : Hid ((0 < k → small (bt s 0) = true) ∧ ∀ j, j < k → inName (bt s j) = true) := ⟨hs0, hall⟩
    clear hs0 hall
    by_cases hlt : k < s.size
    · have hkz : (k : Int) < (s.size : Int) := by omega
      have hc := bt_at hlt
      have hbd := bt_bd s k
      obtain ⟨c, hcc⟩ : ∃ c, Hid (bt s k = c) := ⟨_, rfl⟩
      rw [hcc.out] at hc hbd
      have hS := l8Small_any c wr hbd.1 hbd.2
      have hD := l2Digit_tok c wr hbd.1 hbd.2
      go_wp2_with (rw [hc])
      refine hS.mono ?_
      cases hsm : small c with
      | true =>
        rintro e _ ⟨rfl, rfl⟩
        have HN : Hid ((0 < k + 1 → small (bt s 0) = true) ∧ ∀ j, j < k + 1 → inName (bt s j) = true) := by
          refine ⟨fun _ => ?_, fun j hj => ?_⟩
          · by_cases h0 : k = 0
            · subst h0; rw [hcc.out]; exact hsm
            · exact HA.out.1 (by omega)
          · by_cases e : j < k
            · exact HA.out.2 j e
            · obtain rfl : j = k := by omega
              rw [hcc.out]; unfold inName; rw [hsm]; rfl
        clear hS hD
        go_wp2
        go_roundg (s.size - (k + 1))
        case measure => omega
        case rel => exact ⟨k + 1, by omega, rfl, by go_num, rfl, HN.out.1, HN.out.2⟩
      | false =>
        rintro e _ ⟨rfl, rfl⟩
        by_cases h0 : k = 0
        · subst h0
          have HF : Hid (nameOk s = false) := by
            show _ = _
            unfold nameOk
            apply decide_eq_false
            rintro ⟨-, -, h, -⟩
            rw [hcc.out, hsm] at h; cases h
          clear hS hD
          go_wp2
          go_ret
          exact ⟨by rw [HF.out]; rfl, rfl⟩
        · have h0z : ((k : Int) == 0) = false := by simpa using h0
          clear hS
          go_wp2_with (rw [hc])
          refine hD.mono ?_
          cases hdg : digit c with
          | true =>
            rintro e _ ⟨rfl, rfl⟩
            have HN : Hid ((0 < k + 1 → small (bt s 0) = true) ∧ ∀ j, j < k + 1 → inName (bt s j) = true) := by
              refine ⟨fun _ => HA.out.1 (by omega), fun j hj => ?_⟩
              by_cases e : j < k
              · exact HA.out.2 j e
              · obtain rfl : j = k := by omega
                rw [hcc.out]; unfold inName; rw [hdg]; simp
            clear hD
            go_wp2
            go_roundg (s.size - (k + 1))
            case measure => omega
            case rel => exact ⟨k + 1, by omega, rfl, by go_num, rfl, HN.out.1, HN.out.2⟩
          | false =>
            rintro e _ ⟨rfl, rfl⟩
            have HF : Hid (nameOk s = false) := by
              show _ = _
              unfold nameOk
              apply decide_eq_false
              rintro ⟨-, -, -, h⟩
              have := h k hlt
              rw [hcc.out] at this
              unfold inName at this
              rw [hsm, hdg] at this; cases this
            clear hD
            go_wp2
            go_ret
            exact ⟨by rw [HF.out]; rfl, rfl⟩
    · have hkz : ¬ (k : Int) < (s.size : Int) := by omega
      obtain rfl : k = s.size := by omega
      have HF : Hid (nameOk s = (decide ((1 : Int) ≤ (s.size : Int)) && decide ((s.size : Int) ≤ 8))) := by
        show _ = _
        unfold nameOk
        by_cases h1 : 1 ≤ s.size
        · by_cases h2 : s.size ≤ 8
          · rw [decide_eq_true ⟨h1, h2, HA.out.1 (by omega), HA.out.2⟩]
            simp; omega
          · rw [decide_eq_false (fun h => h2 h.2.1)]
            simp; omega
        · rw [decide_eq_false (fun h => h1 h.1)]
          simp; omega
      go_wp2_with fail
      refine (l1In_tok _ 1 8 wr).mono ?_
      rintro e _ ⟨rfl, rfl⟩
      go_wp2
      go_ret
      exact ⟨by rw [HF.out]; rfl, rfl⟩

end Go.Proofs.Ytbpkonneliidias

/-
  The model's TokenOk comes to the plain one.
-/
namespace Go.Proofs.Ytbpkonneliidias
open Go.RowKit
set_option maxRecDepth 4000

theorem one_byte (s : ByteArray) (c : UInt8) : s = ⟨#[c]⟩ ↔ s.size = 1 ∧ bt s 0 = (c.toNat : Int) := by
  constructor
  · rintro rfl
    exact ⟨rfl, rfl⟩
  · rintro ⟨h1, h2⟩
    have h0 : 0 < s.size := by omega
    rw [← bt_at h0] at h2
    have h3 : s[0] = c := by
      apply UInt8.toNat.inj
      omega
    apply ByteArray.ext
    apply Array.ext
    · exact h1
    · intro i hi hi2
      obtain rfl : i = 0 := by simp at hi2; omega
      exact h3

theorem one_list (s : ByteArray) (c : UInt8) : s.toList = [c] ↔ s.size = 1 ∧ bt s 0 = (c.toNat : Int) := by
  rw [← one_byte, ByteArray.toList_eq]
  constructor
  · intro h; exact ByteArray.ext (Array.ext' h)
  · rintro rfl; rfl
theorem markOk_list (s : ByteArray) : markOk s = (s.toList == [123] || s.toList == [125] || s.toList == [44] || s.toList == [59]) := by
  rw [Bool.eq_iff_iff]
  simp only [Bool.or_eq_true, beq_iff_eq, one_list, markOk, markC, decide_eq_true_eq]
  constructor
  · rintro ⟨h, h1 | h1 | h1 | h1⟩
    · exact .inl (.inl (.inl ⟨h, h1⟩))
    · exact .inl (.inl (.inr ⟨h, h1⟩))
    · exact .inl (.inr ⟨h, h1⟩)
    · exact .inr ⟨h, h1⟩
  · rintro (((⟨h, h1⟩ | ⟨h, h1⟩) | ⟨h, h1⟩) | ⟨h, h1⟩)
    · exact ⟨h, .inl h1⟩
    · exact ⟨h, .inr (.inl h1)⟩
    · exact ⟨h, .inr (.inr (.inl h1))⟩
    · exact ⟨h, .inr (.inr (.inr h1))⟩

set_option maxHeartbeats 1000000 in
theorem l8Mark_any (s : ByteArray) (w : World) :
    Calls Try.prog 74 #[.string s] w fun e w' => e = .returned (.bool (markOk s)) ∧ w = w' := by
  have HM : Hid (markOk s = (s.toList == [123] || s.toList == [125] || s.toList == [44] || s.toList == [59])) := markOk_list s
  go_enter Try.func74, Try.ntmps74
  go_wp2
  all_goals
    go_ret
    exact ⟨by rw [HM.out]; simp [*], rfl⟩

set_option maxHeartbeats 1000000 in
theorem specTokenOk_any (k : Int) (s : ByteArray) (w : World) (hs : s.size ≤ 281474976710656) :
    Calls Try.prog 34 #[.agg #[.int .i64 k, .string s]] w fun e w' => e = .returned (.bool (tokOk k s)) ∧ Below w.heap.size w w' := by
  have hb1 : Below w.heap.size w (w.alloc (.cells #[.int .i64 k, .string s] 54)) := (Below.refl _ _).alloc (Nat.le_refl _) _
  by_cases c1 : k = 1
  · subst c1
    have HF : Hid (tokOk 1 s = nameOk s) := rfl
    go_enter Try.func34, Try.ntmps34
    go_wp2_with fail
    refine (l8Name_any s _ hs).mono ?_
    rintro e _ ⟨rfl, rfl⟩
    go_wp2
    go_ret
    exact ⟨by rw [HF.out]; rfl, hb1⟩
  by_cases c2 : k = 2
  · subst c2
    have HF : Hid (tokOk 2 s = markOk s) := rfl
    go_enter Try.func34, Try.ntmps34
    go_wp2_with fail
    refine (l8Mark_any s _).mono ?_
    rintro e _ ⟨rfl, rfl⟩
    go_wp2
    go_ret
    exact ⟨by rw [HF.out]; rfl, hb1⟩
  have HF : Hid (tokOk k s = false) := by show _ = _; unfold tokOk; rw [if_neg c1, if_neg c2]
  have z1 : (k == 1) = false := by simpa using c1
  have z2 : (k == 2) = false := by simpa using c2
  go_enter Try.func34, Try.ntmps34
  go_wp2
  go_ret
  exact ⟨by rw [HF.out]; rfl, hb1⟩
end Go.Proofs.Ytbpkonneliidias

/-
  The model's Lex: a text as its tokens.
-/
namespace Go.Proofs.Ytbpkonneliidias
open Go.RowKit
set_option maxRecDepth 4000

theorem grownBy_setCellT (W : World) (B i : Nat) (u : Value) : W.grownBy (W.setCell ⟨B, i, none⟩ u) (some B) := (Only.setCell (i := i) (Only.refl B W) u).grown

set_option linter.unusedSimpArgs false in
set_option maxHeartbeats 4000000 in
theorem specLex_any (s : ByteArray) (w : World) (hs : s.size ≤ 281474976710656) :
    Calls Try.prog 28 #[.string s] w (LexTo w (lexF s 0 [])) := by
  obtain ⟨i0, hi, hz0, hz1, hz2⟩ := infoTok2
  obtain ⟨r, hr⟩ : ∃ r, Hid (lexF s 0 [] = r) := ⟨_, rfl⟩
  rw [hr.out]
  have Hnone : Hid (∀ (W : World) (p : Int), Below w.heap.size w W → r = ([], p) → LexTo w r (.returned (.tuple #[.slice (some ⟨W.heap.size, 0, none⟩) 0 0, .int .i64 p])) (W.alloc (.cells #[] 54))) := fun W p hB e => by
    subst e
    exact ⟨_, rfl, by simp, World.ownsRow_lit (base := w.heap.size) (e := 54) (size := 2) W #[] 0 hB.size (Nat.zero_le _) rfl, hB.alloc hB.size _⟩
  have hO0 := World.ownsRow_lit (base := w.heap.size) (e := 54) (size := 2) w #[] 0 (Nat.le_refl _) (Nat.zero_le _) rfl
  have hB0 : Below w.heap.size w (w.alloc (.cells #[] 54)) := (Below.refl _ _).alloc (Nat.le_refl _) _
  go_enter Try.func28, Try.ntmps28
  go_wp2
  obtain ⟨W0, hW0⟩ : ∃ W0, Hid (w.alloc (.cells #[] 54) = W0) := ⟨_, rfl⟩
  rw [hW0.out] at hO0 hB0 ⊢
  go_loopg [4, 5] s.size (fun q o at' wr => ∃ (i : Nat) (l : List (Int × ByteArray)) (v : Value), i ≤ s.size ∧ q = s.size - i ∧ v = o ∧ at' = .int .i64 i ∧ v ≠ .slice none 0 0 ∧ l.length ≤ 500 ∧ lexF s i l = r ∧ wr.ownsRow w.heap.size 54 2 v l.length (rowL l) ∧ Below w.heap.size w wr)
  case atStart => exact ⟨0, [], _, Nat.zero_le _, rfl, rfl, rfl, by simp, by simp, hr.out, hO0, hB0⟩
  case round =>
    clear hO0 hB0
    obtain ⟨i, l, v, hi', rfl, hvo, rfl, hne, hl5, hlex, hown, hB⟩ := hrel
    subst hvo
    have HNE : Hid (v ≠ .slice none 0 0) := hne
    have HX : Hid (lexF s i l = r) := hlex
    clear hne hlex
    by_cases hlt : i < s.size
    case neg =>
      have hiz : ¬ (i : Int) < (s.size : Int) := by omega
      have HR : Hid (r = (l, -1)) := by show _ = _; rw [← HX.out]; exact lexF_end hlt
      have HL : Hid (LexTo w r (.returned (.tuple #[v, .int .i64 (-1)])) wr) := by rw [HR.out]; exact ⟨v, rfl, HNE.out, hown, hB⟩
      clear hown hB Hnone
      go_wp2
      exact bodyPost_ret (v := .tuple #[v, .int .i64 (-1)]) (by simp [results, Try.results28, go_sem]) rfl HL.out
    case pos =>
      have hiz : (i : Int) < (s.size : Int) := by omega
      have hc := bt_at hlt
      have hbd := bt_bd s i
      obtain ⟨c, hcc⟩ : ∃ c, Hid (bt s i = c) := ⟨_, rfl⟩
      rw [hcc.out] at hc hbd
      by_cases hb : c = 32 ∨ c = 9 ∨ c = 10 ∨ c = 13
      · have HN : Hid (lexF s (i + 1) l = r) := by
          show _ = _
          rw [← HX.out]
          exact (lexF_blank hlt (by rw [hcc.out]; exact decide_eq_true hb)).symm
        clear Hnone HX
        rcases hb with rfl | rfl | rfl | rfl
        all_goals
          go_wp2_with (rw [hc])
          go_roundg (s.size - (i + 1))
          case measure => omega
          case rel => exact ⟨i + 1, l, v, by omega, rfl, rfl, by go_num, HNE.out, hl5, HN.out, hown, hB⟩
      · have HNB : Hid (blank (bt s i) = false) := by show _ = _; rw [hcc.out]; exact decide_eq_false hb
        have q1 : (c == 32) = false := by simp; omega
        have q2 : (c == 9) = false := by simp; omega
        have q3 : (c == 10) = false := by simp; omega
        have q4 : (c == 13) = false := by simp; omega
        obtain ⟨j0, hj0⟩ : ∃ j0 : Nat, Hid (j0 = i + 1) := ⟨_, rfl⟩
        have hj0z : (i : Int) + 1 = (j0 : Int) := by rw [hj0.out]; push_cast; rfl
        have hj0s : j0 ≤ s.size := by rw [hj0.out]; omega
        have hS := l8Small_any c (wr.alloc (.cells #[.int .i64 2, .string ⟨#[]⟩] 54)) hbd.1 hbd.2
        have hV0 := TBox.new wr 2 ⟨#[]⟩
        have hb1 : Below wr.heap.size wr (wr.alloc (.cells #[.int .i64 2, .string ⟨#[]⟩] 54)) := (Below.refl _ _).alloc (Nat.le_refl _) _
        have hB1 := hB.trans (hb1.mono hB.size)
        have hown1 := own_below2 hown hb1
        obtain ⟨W1, hW1⟩ : ∃ W1, Hid (wr.alloc (.cells #[.int .i64 2, .string ⟨#[]⟩] 54) = W1) := ⟨_, rfl⟩
        obtain ⟨A, hA⟩ : ∃ A, Hid (wr.heap.size = A) := ⟨_, rfl⟩
        rw [hW1.out] at hS hV0 hB1 hown1
        rw [hA.out] at hV0
        have hwA : w.heap.size ≤ A := by rw [← hA.out]; exact hB.size
        have HAN : Hid (some A ≠ v.ownBlock) := by
          show some A ≠ _
          intro e
          have := (hown.lt A e.symm).2
          rw [hA.out] at this
          omega
        clear hb1 hB hown hb
        go_wp2_with (first | rw [hc] | rw [hW1.out, hA.out])
        refine hS.mono ?_
        rintro e _ ⟨rfl, rfl⟩
        clear hS
        cases hsm : small c with
        | true =>
          have HK : Hid (kindAt s i = 1) := by show _ = _; unfold kindAt; rw [hcc.out, hsm]; rfl
          have HE : Hid (stopAt s i = endN s (i + 1)) := by show _ = _; unfold stopAt; rw [hcc.out, hsm]; rfl
          clear hsm
          obtain ⟨z0, z1⟩ := hV0.cells
          obtain ⟨f0, f1⟩ := hV0.frozen
          have hV1 := hV0.set0 1
          have hg : W1.grownBy (W1.setCell ⟨A, 0, none⟩ (.int .i64 1)) (some A) := grownBy_setCellT W1 A 0 _
          have hown2 := hown1.kept hg (.inr HAN.out.symm)
          have hB2 := hB1.setCell (p := ⟨A, 0, none⟩) hwA (.int .i64 1)
          obtain ⟨W2, hW2⟩ : ∃ W2, Hid (W1.setCell ⟨A, 0, none⟩ (.int .i64 1) = W2) := ⟨_, rfl⟩
          rw [hW2.out] at hV1 hown2 hB2
          clear hg hown1 hB1 hV0
          go_wp2_with (rw [hW2.out])
          go_loopg [7] (s.size + 1 - j0) (fun q e' wr' => ∃ j : Nat, i < j ∧ j ≤ s.size ∧ q = s.size + 1 - j ∧ e' = .int .i64 j ∧ wr' = W2 ∧ endN s j = endN s (i + 1))
          case atStart => exact ⟨j0, by rw [hj0.out]; omega, hj0s, rfl, rfl, rfl, by rw [hj0.out]⟩
          case round =>
            obtain ⟨j, hj1, hj2, rfl, rfl, rfl, hend⟩ := hrel
            have HEN : Hid (endN s j = endN s (i + 1)) := hend
            clear hend
            by_cases hjl : j < s.size
            · have hjz : (j : Int) < (s.size : Int) := by omega
              have hd := bt_at hjl
              have hdb := bt_bd s j
              obtain ⟨d, hdd⟩ : ∃ d, Hid (bt s j = d) := ⟨_, rfl⟩
              rw [hdd.out] at hd hdb
              have hS2 := l8Small_any d wr hdb.1 hdb.2
              have hD2 := l2Digit_tok d wr hdb.1 hdb.2
              go_wp2_with (rw [hd])
              refine hS2.mono ?_
              rintro e _ ⟨rfl, rfl⟩
              clear hS2
              cases hs2 : small d with
              | true =>
                have HN : Hid (endN s (j + 1) = endN s (i + 1)) := by
                  show _ = _
                  rw [← HEN.out]
                  exact (endN_step hjl (by rw [hdd.out]; unfold inName; rw [hs2]; rfl)).symm
                clear hD2
                go_wp2
                go_roundg (s.size + 1 - (j + 1))
                case measure => omega
                case rel => exact ⟨j + 1, by omega, by omega, rfl, by go_num, rfl, HN.out⟩
              | false =>
                go_wp2_with (rw [hd])
                refine hD2.mono ?_
                rintro e _ ⟨rfl, rfl⟩
                clear hD2
                cases hd2 : digit d with
                | true =>
                  have HN : Hid (endN s (j + 1) = endN s (i + 1)) := by
                    show _ = _
                    rw [← HEN.out]
                    exact (endN_step hjl (by rw [hdd.out]; unfold inName; rw [hd2]; simp)).symm
                  go_wp2
                  go_roundg (s.size + 1 - (j + 1))
                  case measure => omega
                  case rel => exact ⟨j + 1, by omega, by omega, rfl, by go_num, rfl, HN.out⟩
                | false =>
                  have HJ : Hid (stopAt s i = j) := by
                    show _ = _
                    rw [HE.out, ← HEN.out]
                    exact endN_stop (fun h => by have := h.2; rw [hdd.out] at this; unfold inName at this; rw [hs2, hd2] at this; cases this)
                  have hjs : j ≤ s.size := by omega
                  have hij : (i : Int) ≤ ((j : Nat) : Int) := by omega
                  have hjz2 : ((j : Nat) : Int) ≤ (s.size : Int) := by omega
                  have hsub : (s.extract i j).size ≤ 281474976710656 := by rw [ByteArray.size_extract]; omega
                  obtain ⟨sub, hsb⟩ : ∃ sub, Hid (s.extract i j = sub) := ⟨_, rfl⟩
                  rw [hsb.out] at hsub
                  obtain ⟨y0, y1⟩ := hV1.cells
                  obtain ⟨g0, g1⟩ := hV1.frozen
                  have hV3 := hV1.set1 sub
                  have hg3 : wr.grownBy (wr.setCell ⟨A, 1, none⟩ (.string sub)) (some A) := grownBy_setCellT wr A 1 _
                  have hown3 := hown2.kept hg3 (.inr HAN.out.symm)
                  have hB3 := hB2.setCell (p := ⟨A, 1, none⟩) hwA (.string sub)
                  obtain ⟨W3, hW3⟩ : ∃ W3, Hid (wr.setCell ⟨A, 1, none⟩ (.string sub) = W3) := ⟨_, rfl⟩
                  rw [hW3.out] at hV3 hown3 hB3
                  have hC := specTokenOk_any 1 sub W3 hsub
                  obtain ⟨x0, x1⟩ := hV3.cells
                  clear hg3
                  go_wp2_with (first | rw [hsb.out, hW3.out] | rw [hsb.out] | rw [hW3.out])
                  refine hC.mono ?_
                  rintro e w4 ⟨rfl, hb4⟩
                  have hV4 := hV3.below hb4
                  have hown4 := own_below2 hown3 hb4
                  have hB4 := hB3.trans (hb4.mono hB3.size)
                  clear hC x0 x1 y0 y1 g0 g1 hV3 hown3 hB3 hb4
                  cases hok : tokOk 1 sub with
                  | false =>
                    have HR : Hid (r = ([], (i : Int))) := by
                      show _ = _
                      rw [← HX.out]
                      exact lexF_no hlt HNB.out (fun h => by have := h.1; rw [HK.out, HJ.out, hsb.out, hok] at this; cases this)
                    have HL : Hid (LexTo w r (.returned (.tuple #[.slice (some ⟨w4.heap.size, 0, none⟩) 0 0, .int .i64 (i : Int)])) (w4.alloc (.cells #[] 54))) := Hnone.out w4 _ hB4 HR.out
                    clear Hnone hown4 hB4 hV4
                    go_wp2
                    exact bodyPost_ret (v := .tuple #[.slice (some ⟨w4.heap.size, 0, none⟩) 0 0, .int .i64 (i : Int)]) (by simp [results, Try.results28, go_sem]) rfl HL.out
                  | true =>
                    obtain ⟨a5, c5, rfl⟩ : ∃ a5 c5, v = .slice a5 l.length c5 := by
                      rcases hown4.2 with ⟨e, _⟩ | ⟨g, c', cur, e, _⟩
                      · exact absurd e HNE.out
                      · exact ⟨_, _, e⟩
                    by_cases hl : l.length = 500
                    · have HR : Hid (r = ([], (i : Int))) := by
                        show _ = _
                        rw [← HX.out]
                        exact lexF_no hlt HNB.out (fun h => h.2 hl)
                      have HL : Hid (LexTo w r (.returned (.tuple #[.slice (some ⟨w4.heap.size, 0, none⟩) 0 0, .int .i64 (i : Int)])) (w4.alloc (.cells #[] 54))) := Hnone.out w4 _ hB4 HR.out
                      have hlz : ((l.length : Int) == 500) = true := by simp; omega
                      clear Hnone hown4 hB4 hV4 hl
                      go_wp2
                      exact bodyPost_ret (v := .tuple #[.slice (some ⟨w4.heap.size, 0, none⟩) 0 0, .int .i64 (i : Int)]) (by simp [results, Try.results28, go_sem]) rfl HL.out
                    · have hlz : ((l.length : Int) == 500) = false := by simp; omega
                      have HNX : Hid (lexF s j (l ++ [(1, sub)]) = r) := by
                        show _ = _
                        rw [← HX.out, lexF_tok hlt HNB.out (by rw [HK.out, HJ.out, hsb.out]; exact hok) hl, HK.out, HJ.out, hsb.out]
                      obtain ⟨x0, x1⟩ := hV4.cells
                      have hcl := cells_tok w4 1 sub
                      have hs4 := hB4.size
                      clear hok
                      go_wp2_with (at_builtin; refine wpList_append_own _ rfl (.tmp 72) (.tmp 74) 44 rfl w.heap.size 54 i0 (.agg #[.int .i64 0, .string ⟨#[]⟩]) 2 24 Try.underlying44 hi hz0 hz1 hz2 rfl (by decide) (.slice a5 l.length c5) _ _ rfl (own_below2 hown4 ((Below.refl _ _).alloc (Nat.le_refl _) _)) ⟨w4.heap.size, 0, none⟩ 1 1 [.int .i64 1, .string sub] rfl rfl hcl (one_tok _ _) (by unfold maxLen; omega) (by omega) (by simp; omega) ?_; intro v5 w5 hown5 hgr5 hnil5)
                      have HO5 : Hid (w5.ownsRow w.heap.size 54 2 v5 (l ++ [((1 : Int), sub)]).length (rowL (l ++ [((1 : Int), sub)]))) := by
                        rw [rowL_snoc, List.length_append]; exact hown5
                      have HNE5 : Hid (v5 ≠ .slice none 0 0) := fun e => HNE.out (hnil5.1 e).1
                      have hb5 : Below w4.heap.size w4 (w4.alloc (.cells #[.int .i64 1, .string sub] 54)) := (Below.refl _ _).alloc (Nat.le_refl _) _
                      have HB5 : Hid (Below w.heap.size w w5) := (hB4.trans (hb5.mono hs4)).grown hgr5 (by have := (hB4.trans (hb5.mono hs4)).size; exact this) (fun j e => ((own_below2 hown4 hb5).lt j e).1)
                      have HLN : Hid ((l ++ [((1 : Int), sub)]).length ≤ 500) := by show _ ≤ _; rw [List.length_append]; simp; omega
                      clear hown4 hown5 hgr5 hnil5 hcl hB4 hb5 hV4 x0 x1 Hnone
                      go_wp2
                      go_roundg (s.size - j)
                      case measure => omega
                      case rel => exact ⟨j, l ++ [(1, sub)], v5, by omega, rfl, rfl, by go_num, HNE5.out, HLN.out, HNX.out, HO5.out, HB5.out⟩
            · have hjz : ¬ (j : Int) < (s.size : Int) := by omega
              have HJ : Hid (stopAt s i = j) := by
                show _ = _
                rw [HE.out, ← HEN.out]
                exact endN_stop (fun h => hjl h.1)
              have hjs : j ≤ s.size := by omega
              have hij : (i : Int) ≤ ((j : Nat) : Int) := by omega
              have hjz2 : ((j : Nat) : Int) ≤ (s.size : Int) := by omega
              have hsub : (s.extract i j).size ≤ 281474976710656 := by rw [ByteArray.size_extract]; omega
              obtain ⟨sub, hsb⟩ : ∃ sub, Hid (s.extract i j = sub) := ⟨_, rfl⟩
              rw [hsb.out] at hsub
              obtain ⟨y0, y1⟩ := hV1.cells
              obtain ⟨g0, g1⟩ := hV1.frozen
              have hV3 := hV1.set1 sub
              have hg3 : wr.grownBy (wr.setCell ⟨A, 1, none⟩ (.string sub)) (some A) := grownBy_setCellT wr A 1 _
              have hown3 := hown2.kept hg3 (.inr HAN.out.symm)
              have hB3 := hB2.setCell (p := ⟨A, 1, none⟩) hwA (.string sub)
              obtain ⟨W3, hW3⟩ : ∃ W3, Hid (wr.setCell ⟨A, 1, none⟩ (.string sub) = W3) := ⟨_, rfl⟩
              rw [hW3.out] at hV3 hown3 hB3
              have hC := specTokenOk_any 1 sub W3 hsub
              obtain ⟨x0, x1⟩ := hV3.cells
              clear hg3
              go_wp2_with (first | rw [hsb.out, hW3.out] | rw [hsb.out] | rw [hW3.out])
              refine hC.mono ?_
              rintro e w4 ⟨rfl, hb4⟩
              have hV4 := hV3.below hb4
              have hown4 := own_below2 hown3 hb4
              have hB4 := hB3.trans (hb4.mono hB3.size)
              clear hC x0 x1 y0 y1 g0 g1 hV3 hown3 hB3 hb4
              cases hok : tokOk 1 sub with
              | false =>
                have HR : Hid (r = ([], (i : Int))) := by
                  show _ = _
                  rw [← HX.out]
                  exact lexF_no hlt HNB.out (fun h => by have := h.1; rw [HK.out, HJ.out, hsb.out, hok] at this; cases this)
                have HL : Hid (LexTo w r (.returned (.tuple #[.slice (some ⟨w4.heap.size, 0, none⟩) 0 0, .int .i64 (i : Int)])) (w4.alloc (.cells #[] 54))) := Hnone.out w4 _ hB4 HR.out
                clear Hnone hown4 hB4 hV4
                go_wp2
                exact bodyPost_ret (v := .tuple #[.slice (some ⟨w4.heap.size, 0, none⟩) 0 0, .int .i64 (i : Int)]) (by simp [results, Try.results28, go_sem]) rfl HL.out
              | true =>
                obtain ⟨a5, c5, rfl⟩ : ∃ a5 c5, v = .slice a5 l.length c5 := by
                  rcases hown4.2 with ⟨e, _⟩ | ⟨g, c', cur, e, _⟩
                  · exact absurd e HNE.out
                  · exact ⟨_, _, e⟩
                by_cases hl : l.length = 500
                · have HR : Hid (r = ([], (i : Int))) := by
                    show _ = _
                    rw [← HX.out]
                    exact lexF_no hlt HNB.out (fun h => h.2 hl)
                  have HL : Hid (LexTo w r (.returned (.tuple #[.slice (some ⟨w4.heap.size, 0, none⟩) 0 0, .int .i64 (i : Int)])) (w4.alloc (.cells #[] 54))) := Hnone.out w4 _ hB4 HR.out
                  have hlz : ((l.length : Int) == 500) = true := by simp; omega
                  clear Hnone hown4 hB4 hV4 hl
                  go_wp2
                  exact bodyPost_ret (v := .tuple #[.slice (some ⟨w4.heap.size, 0, none⟩) 0 0, .int .i64 (i : Int)]) (by simp [results, Try.results28, go_sem]) rfl HL.out
                · have hlz : ((l.length : Int) == 500) = false := by simp; omega
                  have HNX : Hid (lexF s j (l ++ [(1, sub)]) = r) := by
                    show _ = _
                    rw [← HX.out, lexF_tok hlt HNB.out (by rw [HK.out, HJ.out, hsb.out]; exact hok) hl, HK.out, HJ.out, hsb.out]
                  obtain ⟨x0, x1⟩ := hV4.cells
                  have hcl := cells_tok w4 1 sub
                  have hs4 := hB4.size
                  clear hok
                  go_wp2_with (at_builtin; refine wpList_append_own _ rfl (.tmp 72) (.tmp 74) 44 rfl w.heap.size 54 i0 (.agg #[.int .i64 0, .string ⟨#[]⟩]) 2 24 Try.underlying44 hi hz0 hz1 hz2 rfl (by decide) (.slice a5 l.length c5) _ _ rfl (own_below2 hown4 ((Below.refl _ _).alloc (Nat.le_refl _) _)) ⟨w4.heap.size, 0, none⟩ 1 1 [.int .i64 1, .string sub] rfl rfl hcl (one_tok _ _) (by unfold maxLen; omega) (by omega) (by simp; omega) ?_; intro v5 w5 hown5 hgr5 hnil5)
                  have HO5 : Hid (w5.ownsRow w.heap.size 54 2 v5 (l ++ [((1 : Int), sub)]).length (rowL (l ++ [((1 : Int), sub)]))) := by
                    rw [rowL_snoc, List.length_append]; exact hown5
                  have HNE5 : Hid (v5 ≠ .slice none 0 0) := fun e => HNE.out (hnil5.1 e).1
                  have hb5 : Below w4.heap.size w4 (w4.alloc (.cells #[.int .i64 1, .string sub] 54)) := (Below.refl _ _).alloc (Nat.le_refl _) _
                  have HB5 : Hid (Below w.heap.size w w5) := (hB4.trans (hb5.mono hs4)).grown hgr5 (by have := (hB4.trans (hb5.mono hs4)).size; exact this) (fun j e => ((own_below2 hown4 hb5).lt j e).1)
                  have HLN : Hid ((l ++ [((1 : Int), sub)]).length ≤ 500) := by show _ ≤ _; rw [List.length_append]; simp; omega
                  clear hown4 hown5 hgr5 hnil5 hcl hB4 hb5 hV4 x0 x1 Hnone
                  go_wp2
                  go_roundg (s.size - j)
                  case measure => omega
                  case rel => exact ⟨j, l ++ [(1, sub)], v5, by omega, rfl, rfl, by go_num, HNE5.out, HLN.out, HNX.out, HO5.out, HB5.out⟩
        | false =>
          have HK : Hid (kindAt s i = 2) := by show _ = _; unfold kindAt; rw [hcc.out, hsm]; rfl
          have HJ : Hid (stopAt s i = j0) := by show _ = _; rw [hj0.out]; unfold stopAt; rw [hcc.out, hsm]; rfl
          have hij0 : i < j0 := by rw [hj0.out]; omega
          clear hsm
          have hjs : j0 ≤ s.size := by omega
          have hij : (i : Int) ≤ ((j0 : Nat) : Int) := by omega
          have hjz2 : ((j0 : Nat) : Int) ≤ (s.size : Int) := by omega
          have hsub : (s.extract i j0).size ≤ 281474976710656 := by rw [ByteArray.size_extract]; omega
          obtain ⟨sub, hsb⟩ : ∃ sub, Hid (s.extract i j0 = sub) := ⟨_, rfl⟩
          rw [hsb.out] at hsub
          obtain ⟨y0, y1⟩ := hV0.cells
          obtain ⟨g0, g1⟩ := hV0.frozen
          have hV3 := hV0.set1 sub
          have hg3 : W1.grownBy (W1.setCell ⟨A, 1, none⟩ (.string sub)) (some A) := grownBy_setCellT W1 A 1 _
          have hown3 := hown1.kept hg3 (.inr HAN.out.symm)
          have hB3 := hB1.setCell (p := ⟨A, 1, none⟩) hwA (.string sub)
          obtain ⟨W3, hW3⟩ : ∃ W3, Hid (W1.setCell ⟨A, 1, none⟩ (.string sub) = W3) := ⟨_, rfl⟩
          rw [hW3.out] at hV3 hown3 hB3
          have hC := specTokenOk_any 2 sub W3 hsub
          obtain ⟨x0, x1⟩ := hV3.cells
          clear hg3
          go_wp2_with (first | rw [hsb.out, hW3.out] | rw [hsb.out] | rw [hW3.out])
          refine hC.mono ?_
          rintro e w4 ⟨rfl, hb4⟩
          have hV4 := hV3.below hb4
          have hown4 := own_below2 hown3 hb4
          have hB4 := hB3.trans (hb4.mono hB3.size)
          clear hC x0 x1 y0 y1 g0 g1 hV3 hown3 hB3 hb4
          cases hok : tokOk 2 sub with
          | false =>
            have HR : Hid (r = ([], (i : Int))) := by
              show _ = _
              rw [← HX.out]
              exact lexF_no hlt HNB.out (fun h => by have := h.1; rw [HK.out, HJ.out, hsb.out, hok] at this; cases this)
            have HL : Hid (LexTo w r (.returned (.tuple #[.slice (some ⟨w4.heap.size, 0, none⟩) 0 0, .int .i64 (i : Int)])) (w4.alloc (.cells #[] 54))) := Hnone.out w4 _ hB4 HR.out
            clear Hnone hown4 hB4 hV4
            go_wp2
            exact bodyPost_ret (v := .tuple #[.slice (some ⟨w4.heap.size, 0, none⟩) 0 0, .int .i64 (i : Int)]) (by simp [results, Try.results28, go_sem]) rfl HL.out
          | true =>
            obtain ⟨a5, c5, rfl⟩ : ∃ a5 c5, v = .slice a5 l.length c5 := by
              rcases hown4.2 with ⟨e, _⟩ | ⟨g, c', cur, e, _⟩
              · exact absurd e HNE.out
              · exact ⟨_, _, e⟩
            by_cases hl : l.length = 500
            · have HR : Hid (r = ([], (i : Int))) := by
                show _ = _
                rw [← HX.out]
                exact lexF_no hlt HNB.out (fun h => h.2 hl)
              have HL : Hid (LexTo w r (.returned (.tuple #[.slice (some ⟨w4.heap.size, 0, none⟩) 0 0, .int .i64 (i : Int)])) (w4.alloc (.cells #[] 54))) := Hnone.out w4 _ hB4 HR.out
              have hlz : ((l.length : Int) == 500) = true := by simp; omega
              clear Hnone hown4 hB4 hV4 hl
              go_wp2
              exact bodyPost_ret (v := .tuple #[.slice (some ⟨w4.heap.size, 0, none⟩) 0 0, .int .i64 (i : Int)]) (by simp [results, Try.results28, go_sem]) rfl HL.out
            · have hlz : ((l.length : Int) == 500) = false := by simp; omega
              have HNX : Hid (lexF s j0 (l ++ [(2, sub)]) = r) := by
                show _ = _
                rw [← HX.out, lexF_tok hlt HNB.out (by rw [HK.out, HJ.out, hsb.out]; exact hok) hl, HK.out, HJ.out, hsb.out]
              obtain ⟨x0, x1⟩ := hV4.cells
              have hcl := cells_tok w4 2 sub
              have hs4 := hB4.size
              clear hok
              go_wp2_with (at_builtin; refine wpList_append_own _ rfl (.tmp 72) (.tmp 74) 44 rfl w.heap.size 54 i0 (.agg #[.int .i64 0, .string ⟨#[]⟩]) 2 24 Try.underlying44 hi hz0 hz1 hz2 rfl (by decide) (.slice a5 l.length c5) _ _ rfl (own_below2 hown4 ((Below.refl _ _).alloc (Nat.le_refl _) _)) ⟨w4.heap.size, 0, none⟩ 1 1 [.int .i64 2, .string sub] rfl rfl hcl (one_tok _ _) (by unfold maxLen; omega) (by omega) (by simp; omega) ?_; intro v5 w5 hown5 hgr5 hnil5)
              have HO5 : Hid (w5.ownsRow w.heap.size 54 2 v5 (l ++ [((2 : Int), sub)]).length (rowL (l ++ [((2 : Int), sub)]))) := by
                rw [rowL_snoc, List.length_append]; exact hown5
              have HNE5 : Hid (v5 ≠ .slice none 0 0) := fun e => HNE.out (hnil5.1 e).1
              have hb5 : Below w4.heap.size w4 (w4.alloc (.cells #[.int .i64 2, .string sub] 54)) := (Below.refl _ _).alloc (Nat.le_refl _) _
              have HB5 : Hid (Below w.heap.size w w5) := (hB4.trans (hb5.mono hs4)).grown hgr5 (by have := (hB4.trans (hb5.mono hs4)).size; exact this) (fun j e => ((own_below2 hown4 hb5).lt j e).1)
              have HLN : Hid ((l ++ [((2 : Int), sub)]).length ≤ 500) := by show _ ≤ _; rw [List.length_append]; simp; omega
              clear hown4 hown5 hgr5 hnil5 hcl hB4 hb5 hV4 x0 x1 Hnone
              go_wp2
              go_roundg (s.size - j0)
              case measure => omega
              case rel => exact ⟨j0, l ++ [(2, sub)], v5, by omega, rfl, rfl, by go_num, HNE5.out, HLN.out, HNX.out, HO5.out, HB5.out⟩
end Go.Proofs.Ytbpkonneliidias

/-
  What the law's own helpers over a token come to.
-/
namespace Go.Proofs.Ytbpkonneliidias
open Go.RowKit
set_option maxRecDepth 4000

set_option maxHeartbeats 1000000 in
theorem szToken_small (k : Int) (s : ByteArray) (left : Int) (w : World) (h : (s.size : Int) ≤ left) (hl : left ≤ 1048576) :
    Calls Try.prog 33 #[.agg #[.int .i64 k, .string s], .int .i64 left] w fun e w' => e = .returned (.int .i64 (left - s.size)) ∧ Below w.heap.size w w' := by
  have h1 : ¬ left - (s.size : Int) < 0 := by omega
  go_enter Try.func33, Try.ntmps33
  go_wp2
  go_ret
  exact ⟨rfl, (Below.refl _ _).alloc (Nat.le_refl _) _⟩

set_option maxHeartbeats 1000000 in
theorem szToken_big (k : Int) (s : ByteArray) (left : Int) (w : World) (h : left < (s.size : Int)) (h0 : 0 ≤ left) (hs : s.size ≤ maxLen) :
    Calls Try.prog 33 #[.agg #[.int .i64 k, .string s], .int .i64 left] w fun e w' => e = .returned (.int .i64 (-1)) ∧ Below w.heap.size w w' := by
  have h1 : left - (s.size : Int) < 0 := by omega
  have hs : (s.size : Int) ≤ 9223372036854775807 := by unfold maxLen at hs; omega
  go_enter Try.func33, Try.ntmps33
  go_wp2
  go_ret
  exact ⟨rfl, (Below.refl _ _).alloc (Nat.le_refl _) _⟩

def tokAgg (k : Int) (s : ByteArray) : Value := .agg #[.int .i64 k, .string s]

set_option maxHeartbeats 1000000 in
theorem toToken_any (k : Int) (s : ByteArray) (w : World) :
    Calls Try.prog 35 #[.agg #[.int .i64 k, .string s]] w fun e w' => e = .returned (.agg #[.int .i64 k, .string s]) ∧ Below w.heap.size w w' := by
  go_enter Try.func35, Try.ntmps35
  go_wp2
  refine bodyPost_ret (v := tokAgg k s) (by simp [results, Try.results35, go_sem, tokAgg]) rfl ⟨rfl, ?_⟩
  repeat (first | exact Below.refl _ _ | refine Below.alloc ?_ (by simp <;> omega) _ | refine Below.drew ?_)

set_option maxHeartbeats 1000000 in
theorem eqToken_same (k : Int) (s : ByteArray) (w : World) :
    Calls Try.prog 72 #[.agg #[.int .i64 k, .string s], .agg #[.int .i64 k, .string s]] w fun e w' => e = .returned (.bool true) ∧ Below w.heap.size w w' := by
  have e1 : (k != k) = false := by simp
  go_enter Try.func72, Try.ntmps72
  go_wp2
  go_ret
  refine ⟨rfl, ?_⟩
  repeat (first | exact Below.refl _ _ | refine Below.alloc ?_ (by simp <;> omega) _ | refine Below.drew ?_)

set_option maxHeartbeats 2000000 in
/-- How much a row of tokens holds, as the law counts it; where that is not too much, no text of it is long. -/
theorem szTokenS_fine (a : Option Addr) (n cap : Nat) (fk : Nat → Int) (fs : Nat → ByteArray) (left : Int) (w : World) (h : TView w a n cap fk fs) (hn : n ≤ maxLen) (hz : ∀ i, i < n → (fs i).size ≤ maxLen) (h0 : 0 ≤ left) (hl : left ≤ 1048576) :
    Calls Try.prog 37 #[.slice a n cap, .int .i64 left] w fun e w' => ∃ L : Int, e = .returned (.int .i64 L) ∧ Below w.heap.size w w' ∧ (L = -1 ∨ (0 ≤ L ∧ L ≤ left - n ∧ ∀ i, i < n → (fs i).size ≤ 1048576)) := by
  have hn' : (n : Int) ≤ 9223372036854775807 := by unfold maxLen at hn; omega
  by_cases hb : left - (n : Int) < 0
  · go_enter Try.func37, Try.ntmps37
    go_wp2
    go_ret
    exact ⟨_, rfl, Below.refl _ _, .inl rfl⟩
  go_enter Try.func37, Try.ntmps37
  go_wp2
  go_loopg [1, 5] n (fun q l i wr => ∃ (k : Nat) (L : Int), k ≤ n ∧ q = n - k ∧ l = .int .i64 L ∧ i = .int .i64 k ∧ Below w.heap.size w wr ∧ 0 ≤ L ∧ L ≤ left - n ∧ ∀ i, i < k → (fs i).size ≤ 1048576)
  case atStart => exact ⟨0, left - n, Nat.zero_le _, rfl, rfl, rfl, Below.refl _ _, by omega, by omega, fun i hi => absurd hi (Nat.not_lt_zero _)⟩
  case round =>
    obtain ⟨k, L, hk, rfl, rfl, rfl, hB, hL0, hL1, hall⟩ := hrel
    have HA : Hid (∀ i, i < k → (fs i).size ≤ 1048576) := hall
    clear hall
    by_cases hlt : k < n
    · obtain ⟨b1, o1, rfl, hb1, hc1⟩ := (h.below hB).cells (by omega)
      obtain ⟨x0, x2⟩ := hc1 k hlt
      have hkz : (k : Int) < (n : Int) := by omega
      have hzk := hz k hlt
      have hLm : L ≤ 1048576 := by omega
      obtain ⟨p2, hp2⟩ : ∃ p2, Hid (fs k = p2) := ⟨_, rfl⟩
      rw [hp2.out] at x2 hzk
      clear hc1 h hz
      generalize fk k = p0 at *
      by_cases hc : (p2.size : Int) ≤ L
      · have hV := fun W => szToken_small p0 p2 L W hc hLm
        have hnn : ¬ L - (p2.size : Int) < 0 := by omega
        have HN : Hid (∀ i, i < k + 1 → (fs i).size ≤ 1048576) := by
          intro i hi
          by_cases e : i < k
          · exact HA.out i e
          · obtain rfl : i = k := by omega
            rw [hp2.out]; omega
        go_wp2_with fail
        refine (hV _).mono ?_
        rintro e w2 ⟨rfl, hB2⟩
        have hB3 := hB.trans (hB2.mono hB.size)
        clear hB2 hV
        go_wp2
        go_roundg (n - (k + 1))
        case measure => omega
        case rel => exact ⟨k + 1, L - p2.size, by omega, rfl, rfl, by go_num, hB3, by omega, by omega, HN.out⟩
      · have hV := fun W => szToken_big p0 p2 L W (by omega) hL0 hzk
        go_wp2_with fail
        refine (hV _).mono ?_
        rintro e w2 ⟨rfl, hB2⟩
        have hB3 := hB.trans (hB2.mono hB.size)
        clear hB2 hV
        go_wp2
        go_ret
        exact ⟨_, rfl, hB3, .inl rfl⟩
    · have hkz : ¬ (k : Int) < (n : Int) := by omega
      go_wp2
      go_ret
      exact ⟨_, rfl, hB, .inr ⟨hL0, hL1, fun i hi => HA.out i (by omega)⟩⟩
end Go.Proofs.Ytbpkonneliidias

/-
  Two rows of tokens that read alike are alike, as the law holds them against each other.
-/
namespace Go.Proofs.Ytbpkonneliidias
open Go.RowKit
set_option maxRecDepth 4000

set_option maxHeartbeats 2000000 in
theorem eqTokenS_same (a1 a2 : Option Addr) (n c1 c2 : Nat) (fk : Nat → Int) (fs : Nat → ByteArray) (w : World) (h1 : TView w a1 n c1 fk fs) (h2 : TView w a2 n c2 fk fs) (hn : n ≤ 281474976710656) :
    Calls Try.prog 30 #[.slice a1 n c1, .slice a2 n c2] w fun e w' => e = .returned (.bool true) ∧ Below w.heap.size w w' := by
  go_enter Try.func30, Try.ntmps30
  go_wp2
  go_loopg [5] n (fun q i wr => ∃ k : Nat, k ≤ n ∧ q = n - k ∧ i = .int .i64 k ∧ Below w.heap.size w wr)
  case atStart => exact ⟨0, Nat.zero_le _, rfl, rfl, Below.refl _ _⟩
  case round =>
    obtain ⟨k, hk, rfl, rfl, hB⟩ := hrel
    by_cases hlt : k < n
    · obtain ⟨b1, o1, rfl, hb1, hc1⟩ := (h1.below hB).cells (by omega)
      obtain ⟨b2, o2, rfl, hb2, hc2⟩ := (h2.below hB).cells (by omega)
      obtain ⟨x0, x1⟩ := hc1 k hlt
      obtain ⟨y0, y1⟩ := hc2 k hlt
      have hkz : (k : Int) < (n : Int) := by omega
      have hV := fun W => eqToken_same (fk k) (fs k) W
      clear hc1 hc2 h1 h2
      generalize fk k = p0 at *
      generalize fs k = p2 at *
      go_wp2_with fail
      go_region_held3 (fun W => (W.cell? ⟨b1, o1 + k * 2, none⟩ = some (.int .i64 p0) ∧ W.cell? ⟨b1, o1 + k * 2 + 1, none⟩ = some (.string p2)) ∧ (W.cell? ⟨b2, o2 + k * 2, none⟩ = some (.int .i64 p0) ∧ W.cell? ⟨b2, o2 + k * 2 + 1, none⟩ = some (.string p2))) (first | assumption | go_keep) (first | (go_at_call 72; refine (hV _).mono ?_; rintro e w2 ⟨rfl, hB2⟩; have hcells : (w2.cell? ⟨b1, o1 + k * 2, none⟩ = some (.int .i64 p0) ∧ w2.cell? ⟨b1, o1 + k * 2 + 1, none⟩ = some (.string p2)) ∧ (w2.cell? ⟨b2, o2 + k * 2, none⟩ = some (.int .i64 p0) ∧ w2.cell? ⟨b2, o2 + k * 2 + 1, none⟩ = some (.string p2)) := (by (refine ⟨⟨?_, ?_⟩, ?_, ?_⟩ <;> (rw [hB2.cell (by first | exact hb1 | exact hb2)]; assumption)))))
      all_goals
        have hB3 : Hid (Below w.heap.size w w2) := hB.trans (Below.trans (by repeat (first | exact Below.refl _ _ | refine Below.drew ?_)) (hB2.mono (by have := hB.size; exact this)))
        go_wp2
        go_roundg (n - (k + 1))
        case measure => omega
        case rel => exact ⟨k + 1, by omega, rfl, by go_num, by first | exact hB3.out | exact hB3.out.drew⟩
    · go_wp2
      go_ret
      exact ⟨rfl, hB⟩
end Go.Proofs.Ytbpkonneliidias

/-
  Bytes as a string: what 'string(b)' comes to at a slice of bytes that reads.
-/
namespace Go.Proofs.Ytbpkonneliidias
open Go.RowKit
set_option maxRecDepth 4000

theorem conv_view {w : World} {b off n cap : Nat} {f : Nat → Int} (hv : View w (some ⟨b, off, none⟩) n cap f) :
    (convert 34 9 (.slice (some ⟨b, off, none⟩) n cap)).run Try.prog w = .ok (.string (strOfNums (lof n f))) w := by
  refine run_convert_bytes_arg w 34 5 Try.underlying34 Try.underlying5 b off n cap (lof n f) (lof_len n f) ?_ 9 Try.underlying9
  intro i hi
  obtain ⟨b', off', e, _, hc⟩ := hv.cells (by omega)
  simp only [Option.some.injEq, Addr.mk.injEq, and_true] at e
  obtain ⟨rfl, rfl⟩ := e
  rw [hc i hi, lof_get n f i hi]

theorem strOfNums_inj {xs ys : List Int} (hx : ∀ y ∈ xs, 0 ≤ y ∧ y ≤ 255) (hy : ∀ y ∈ ys, 0 ≤ y ∧ y ≤ 255) (h : strOfNums xs = strOfNums ys) : xs = ys := by
  have h1 : xs.map (fun n => UInt8.ofNat n.toNat) = ys.map (fun n => UInt8.ofNat n.toNat) := by
    rw [← strOfNums_data, ← strOfNums_data, h]
  have key : ∀ a b : Int, 0 ≤ a ∧ a ≤ 255 → 0 ≤ b ∧ b ≤ 255 → UInt8.ofNat a.toNat = UInt8.ofNat b.toNat → a = b := by
    intro a b ha hb e
    have := congrArg UInt8.toNat e
    simp at this
    omega
  clear h
  induction xs generalizing ys with
  | nil => cases ys with
    | nil => rfl
    | cons y ys => simp at h1
  | cons x xs ih => cases ys with
    | nil => simp at h1
    | cons y ys =>
      simp only [List.map_cons, List.cons.injEq] at h1
      rw [key x y (hx x (by simp)) (hy y (by simp)) h1.1, ih (fun z hz => hx z (by simp [hz])) (fun z hz => hy z (by simp [hz])) h1.2]

end Go.Proofs.Ytbpkonneliidias

/-
  What the law's own helper markText comes to: a text that hangs on the count alone.
-/
namespace Go.Proofs.Ytbpkonneliidias
open Go.RowKit
set_option maxRecDepth 4000

theorem Row.litOne (w : World) (t : TypeId) (h : Int) : Row t (w.alloc (.cells #[.int .u8 h] t)) w.heap.size 1 (fun _ => h) :=
  Row.ofIs (World.rowIs_alloc w #[.int .u8 h] t (fun _ => .int .u8 h) (fun j hj => by match j, hj with | 0, _ => rfl))

/-- The digits of a number ahead of a text. -/
def digT (k : Nat) (acc : ByteArray) : ByteArray := if _h : k = 0 then acc else digT (k / 10) (strOfNums [48 + ((k % 10 : Nat) : Int)] ++ acc)
  termination_by k
  decreasing_by omega
def markT (k : Int) : ByteArray := if k ≤ 0 then ⟨#[109, 48]⟩ else (⟨#[109]⟩ : ByteArray) ++ digT k.toNat ⟨#[]⟩

set_option maxHeartbeats 1000000 in
theorem markText_any (k : Int) (w : World) (hk1 : k ≤ 4611686018427387904) :
    Calls Try.prog 57 #[.int .i64 k] w fun e w' => e = .returned (.string (markT k)) ∧ Below w.heap.size w w' := by
  by_cases h0 : k ≤ 0
  · have e : markT k = ⟨#[109, 48]⟩ := by unfold markT; rw [if_pos h0]
    rw [e]
    go_enter Try.func57, Try.ntmps57
    go_wp2
    go_ret
    exact ⟨rfl, Below.refl _ _⟩
  obtain ⟨m, rfl⟩ : ∃ m : Nat, k = m := ⟨k.toNat, by omega⟩
  have HM : Hid (markT (m : Int) = (⟨#[109]⟩ : ByteArray) ++ digT m ⟨#[]⟩) := by show _ = _; unfold markT; rw [if_neg h0]; rfl
  go_enter Try.func57, Try.ntmps57
  go_wp2
  go_loopg [0, 3] m (fun q kv s wr => ∃ (j : Nat) (acc : ByteArray), j ≤ m ∧ j = q ∧ kv = .int .i64 j ∧ s = .string acc ∧ digT j acc = digT m ⟨#[]⟩ ∧ acc.size + j ≤ m ∧ Below w.heap.size w wr)
  case atStart => exact ⟨m, _, Nat.le_refl _, rfl, rfl, rfl, rfl, by show 0 + m ≤ m; omega, Below.refl _ _⟩
  case round =>
    obtain ⟨j, acc, hj, hq, rfl, rfl, hd, hsz, hB⟩ := hrel
    subst hq
    have HD : Hid (digT j acc = digT m ⟨#[]⟩) := hd
    clear hd
    by_cases hz : j = 0
    · subst hz
      have HF : Hid (digT m ⟨#[]⟩ = acc) := by show _ = _; rw [← HD.out]; unfold digT; simp
      have hs1 : (⟨#[109]⟩ : ByteArray).size = 1 := rfl
      have hs2 : ¬ (1 + acc.size > 9223372036854775807) := by omega
      go_wp2
      go_ret
      exact ⟨by rw [HM.out, HF.out]; rfl, hB⟩
    · have hjz : (0 : Int) < (j : Int) := by omega
      obtain ⟨r, hr⟩ : ∃ r : Nat, Hid (j % 10 = r) := ⟨_, rfl⟩
      obtain ⟨d, hd⟩ : ∃ d : Nat, Hid (j / 10 = d) := ⟨_, rfl⟩
      have hr9 : r ≤ 9 := by have := hr.out; omega
      have hdj : d < j := by have := hd.out; omega
      have HN : Hid (digT d (strOfNums [48 + (r : Int)] ++ acc) = digT m ⟨#[]⟩) := by
        show _ = _
        rw [← HD.out]
        conv => rhs; unfold digT
        rw [dif_neg hz, hr.out, hd.out]
      have h1 : Int.tmod (j : Int) 10 = (r : Int) := by rw [← hr.out]; rfl
      have h2 : Int.tdiv (j : Int) 10 = (d : Int) := by rw [← hd.out]; rfl
      have h3 : IntKind.u8.wrap (48 + (r : Int)) = 48 + (r : Int) := by rw [u8_wrap]; omega
      have hcv := conv_view ((Row.litOne wr 5 (48 + (r : Int))).view (cap := 1) (Nat.le_refl _) (fun _ _ => ⟨by omega, by omega⟩))
      rw [show lof 1 (fun _ => 48 + (r : Int)) = [48 + (r : Int)] by simp [lof]] at hcv
      have hB2 : Below w.heap.size w (wr.alloc (.cells #[.int .u8 (48 + (r : Int))] 5)) := hB.alloc hB.size _
      have hs1 : (strOfNums [48 + (r : Int)]).size = 1 := by simp [strOfNums, ByteArray.size]
      have hs2 : ¬ (1 + acc.size > 9223372036854775807) := by omega
      have HZ : Hid ((strOfNums [48 + (r : Int)] ++ acc).size + d ≤ m) := by show _ ≤ _; rw [ByteArray.size_append, hs1]; omega
      clear HD
      go_wp2
      go_roundg d
      case measure => omega
      case rel => exact ⟨d, _, by omega, rfl, by go_num, rfl, HN.out, HZ.out, hB2⟩
end Go.Proofs.Ytbpkonneliidias

