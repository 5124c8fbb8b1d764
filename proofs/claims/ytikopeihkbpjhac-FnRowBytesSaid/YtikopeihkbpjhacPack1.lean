/-
  Together: Base, Plain, PutPlain, Info, Draw, But, DrawBut, DrawList, DrawStr, ValEq, Boxed, ValBox, DrawIntOf, DrawVal, DrawOf, DrawOfNo, ValNum, ValPlain, TextPlain
-/
import Derived.WalkKit
import Derived.Deep.OwnRows
import Derived.Deep.LoopGhost
import Derived.OpenShut
import Derived.Laws.BitsAllLaws
import Derived.Laws.Bits128
import Derived.Test.YtikopeihkbpjhacChecked
import Derived.WalkSpells
import Derived.Laws.StructEq
import Derived.Lib.ItoaNum
import Derived.Lib.ItoaMem
import Derived.Lib.AtoiTie
import Derived.Lib.AtoiAllCases
import Derived.Lib.AppendStr
/-
  What a walk over bytes is told of a slice of bytes that it reads ('View'), and how that is carried from one world to the next. No program text is named here.
-/
namespace Go.Proofs.Ytikopeihkbpjhac
open Go.RowKit
set_option maxRecDepth 4000

/-- The slice value '.slice ao n cap' reads, in the world w, as the n bytes f 0 up to f (n - 1). -/
structure View (w : World) (ao : Option Addr) (n cap : Nat) (f : Nat → Int) : Prop where
  le : n ≤ cap
  byte : ∀ i, i < n → 0 ≤ f i ∧ f i ≤ 255
  cells : 0 < n → ∃ b off, ao = some ⟨b, off, none⟩ ∧ b < w.heap.size ∧ ∀ i, i < n → w.cell? ⟨b, off + i, none⟩ = some (.int .u8 (f i))

/-- What was there reads as it did. -/
theorem View.below {w w' : World} {ao : Option Addr} {n cap : Nat} {f : Nat → Int} (h : View w ao n cap f) (hb : Below w.heap.size w w') : View w' ao n cap f := by
  refine ⟨h.le, h.byte, fun hn => ?_⟩
  obtain ⟨b, off, e, hlt, hc⟩ := h.cells hn
  exact ⟨b, off, e, Nat.lt_of_lt_of_le hlt hb.size, fun i hi => by rw [hb.cell (p := ⟨b, off + i, none⟩) hlt]; exact hc i hi⟩

theorem View.drew {w : World} {ao : Option Addr} {n cap : Nat} {f : Nat → Int} (h : View w ao n cap f) : View w.drew ao n cap f := h.below (Below.refl _ _).drew

theorem View.take {w : World} {ao : Option Addr} {n cap m : Nat} {f : Nat → Int} (h : View w ao n cap f) (hm : m ≤ n) : View w ao m cap f := by
  refine ⟨Nat.le_trans hm h.le, fun i hi => h.byte i (by omega), fun h0 => ?_⟩
  obtain ⟨b, off, e, hb, hc⟩ := h.cells (by omega)
  exact ⟨b, off, e, hb, fun i hi => hc i (by omega)⟩

theorem View.congr {w : World} {ao : Option Addr} {n cap : Nat} {f g : Nat → Int} (h : View w ao n cap f) (e : ∀ i, i < n → f i = g i) : View w ao n cap g := by
  refine ⟨h.le, fun i hi => by rw [← e i hi]; exact h.byte i hi, fun hn => ?_⟩
  obtain ⟨b, off, ea, hlt, hc⟩ := h.cells hn
  exact ⟨b, off, ea, hlt, fun i hi => by rw [← e i hi]; exact hc i hi⟩

/-- What the frame of a row hands over of a slice of bytes that came in, as a view. -/
theorem View.ofIn {w : World} {a : Option Addr} {len cap : Nat} {zs : List Int}
    (h : (a = none ∧ len = 0 ∧ cap = 0 ∧ zs = []) ∨ ∃ x, a = some x ∧ len ≤ cap ∧ cap ≤ maxLen ∧ zs.length = cap ∧ (∀ i, i < zs.length → w.cell? (x.add i) = some (.int .u8 (zs.getD i 0))) ∧ ∀ n ∈ zs, (Lit.int .u8 n).wf = true) :
    View w a len cap (fun i => zs.getD i 0) := by
  rcases h with ⟨rfl, rfl, rfl, rfl⟩ | ⟨x, rfl, hl, _, hz, hc, hw⟩
  · exact ⟨Nat.le_refl _, fun i hi => absurd hi (Nat.not_lt_zero _), fun h => absurd h (Nat.lt_irrefl _)⟩
  · refine ⟨hl, fun i _ => by simpa using range_u8 hw i, fun hn => ?_⟩
    obtain ⟨b, off, spot⟩ := x
    have h0 := hc 0 (by omega)
    have hs : spot = none := by simpa [Addr.add] using World.cell?_spot h0
    subst hs
    refine ⟨b, off, rfl, ?_, fun i hi => ?_⟩
    · exact World.block_lt_of_cell? _ _ h0
    · have h1 := hc i (by omega)
      have e : (⟨b, off, none⟩ : Addr).add i = ⟨b, off + i, none⟩ := by unfold Addr.add; split <;> simp_all
      rw [e] at h1
      exact h1

theorem lenOfIn {w : World} {a : Option Addr} {len cap : Nat} {zs : List Int}
    (h : (a = none ∧ len = 0 ∧ cap = 0 ∧ zs = []) ∨ ∃ x, a = some x ∧ len ≤ cap ∧ cap ≤ maxLen ∧ zs.length = cap ∧ (∀ i, i < zs.length → w.cell? (x.add i) = some (.int .u8 (zs.getD i 0))) ∧ ∀ n ∈ zs, (Lit.int .u8 n).wf = true) : len ≤ 9223372036854775807 := by
  rcases h with ⟨_, rfl, _, _⟩ | ⟨_, _, h1, h2, _⟩
  · exact Nat.zero_le _
  · unfold maxLen at h2; omega

/-- A row of the call's own reads as what it holds. -/
theorem View.ofRow {w : World} {b : Nat} {t : TypeId} {m n cap : Nat} {f : Nat → Int} (h : w.rowIs b t m (fun i => .int .u8 (f i))) (hn : n ≤ m) (hc : n ≤ cap) (hb : ∀ i, i < n → 0 ≤ f i ∧ f i ≤ 255) : View w (some ⟨b, 0, none⟩) n cap f :=
  ⟨hc, hb, fun _ => ⟨b, 0, rfl, h.lt, fun i hi => by rw [Nat.zero_add]; exact h.cell (by omega)⟩⟩

theorem rowBelow {w w' : World} {b : Nat} {t : TypeId} {n : Nat} {f : Nat → Value} {B : Nat} (h : w.rowIs b t n f) (hb : Below B w w') (hlt : b < B) : w'.rowIs b t n f := h.of_block (hb.block b hlt)

/-- Block b is a row of bytes of the call's own, none frozen, whose first n are f 0 up to f (n - 1) (t: the number of the bytes' type). -/
def Row (t : TypeId) (w : World) (b n : Nat) (f : Nat → Int) : Prop :=
  ∃ c : Array Value, w.heap[b]? = some (.cells c t (0, 0)) ∧ n ≤ c.size ∧ ∀ i, i < n → c[i]? = some (.int .u8 (f i))

namespace Row
variable {t : TypeId} {w w' : World} {b n : Nat} {f g : Nat → Int}
theorem cell (h : Row t w b n f) {i : Nat} (hi : i < n) : w.cell? ⟨b, i, none⟩ = some (.int .u8 (f i)) := by
  obtain ⟨c, hb, _, hc⟩ := h
  simp [World.cell?, hb, hc i hi]
theorem frozen (h : Row t w b n f) (i : Nat) : w.frozen? ⟨b, i, none⟩ = false := by
  obtain ⟨c, hb, _, _⟩ := h
  simp [World.frozen?, hb]
theorem lt (h : Row t w b n f) : b < w.heap.size := by
  obtain ⟨c, hb, _, _⟩ := h
  exact (Array.getElem?_eq_some_iff.1 hb).1
theorem congr (h : Row t w b n f) (e : ∀ i, i < n → f i = g i) : Row t w b n g := by
  obtain ⟨c, hb, hn, hc⟩ := h
  exact ⟨c, hb, hn, fun i hi => by rw [hc i hi, e i hi]⟩
theorem of_block (h : Row t w b n f) (e : w'.heap[b]? = w.heap[b]?) : Row t w' b n f := by
  obtain ⟨c, hb, hn, hc⟩ := h
  exact ⟨c, e.trans hb, hn, hc⟩
theorem below {B : Nat} (h : Row t w b n f) (hb : Below B w w') (hlt : b < B) : Row t w' b n f := h.of_block (hb.block b hlt)
theorem belowAll (h : Row t w b n f) (hb : Below w.heap.size w w') : Row t w' b n f := h.below hb h.lt
theorem ofIs (h : w.rowIs b t n (fun i => .int .u8 (f i))) : Row t w b n f := by
  obtain ⟨c, hb, hn, hc⟩ := h
  exact ⟨c, hb, by omega, hc⟩
theorem set (h : Row t w b n f) (i : Nat) (x : Int) : Row t (w.setCell ⟨b, i, none⟩ (.int .u8 x)) b n (fun j => if j = i then x else f j) := by
  obtain ⟨c, hb, hn, hc⟩ := h
  refine ⟨c.setIfInBounds i (.int .u8 x), ?_, by simpa using hn, fun j hj => ?_⟩
  · simp [World.setCell, Array.getElem?_modify, hb]
  · rw [Array.getElem?_setIfInBounds]
    by_cases e : j = i
    · subst e
      have : j < c.size := by omega
      simp [this]
    · rw [if_neg (fun h => e h.symm)]
      show c[j]? = some (.int .u8 (if j = i then x else f j))
      rw [if_neg e]
      exact hc j hj
theorem view {cap : Nat} (h : Row t w b n f) (hc : n ≤ cap) (hb : ∀ i, i < n → 0 ≤ f i ∧ f i ≤ 255) : View w (some ⟨b, 0, none⟩) n cap f :=
  ⟨hc, hb, fun _ => ⟨b, 0, rfl, h.lt, fun i hi => by rw [Nat.zero_add]; exact h.cell hi⟩⟩
end Row

/-- Block b alone may have turned; no block has come or gone. -/
structure Only (b : Nat) (w w' : World) : Prop where
  os : w'.os = w.os
  tape : w'.tape = w.tape
  output : w'.output = w.output
  size : w'.heap.size = w.heap.size
  block : ∀ k, k ≠ b → w'.heap[k]? = w.heap[k]?

theorem Only.refl (b : Nat) (w : World) : Only b w w := ⟨rfl, rfl, rfl, rfl, fun _ _ => rfl⟩
theorem Only.drew {b : Nat} {w w' : World} (h : Only b w w') : Only b w w'.drew := ⟨h.os, h.tape, h.output, h.size, h.block⟩
theorem Only.setCell {b i : Nat} {w w' : World} (h : Only b w w') (u : Value) : Only b w (w'.setCell ⟨b, i, none⟩ u) :=
  ⟨h.os, h.tape, h.output, by simpa using h.size, fun k hk => by rw [Below.heap_setCell _ _ _ _ (by exact hk)]; exact h.block k hk⟩
theorem Only.below {b B : Nat} {w w' : World} (h : Only b w w') (hB : B ≤ b) : Below B w w' :=
  ⟨h.os, h.tape, h.output, by rw [h.size]; exact Nat.le_refl _, fun k hk => h.block k (by omega)⟩
theorem Only.row {t : TypeId} {b b' n : Nat} {f : Nat → Int} {w w' : World} (h : Only b w w') (hr : Row t w b' n f) (hne : b' ≠ b) : Row t w' b' n f := hr.of_block (h.block b' hne)
theorem Only.view {b : Nat} {ao : Option Addr} {n cap : Nat} {f : Nat → Int} {w w' : World} (h : Only b w w') (hv : View w ao n cap f) (hne : ∀ a, ao = some a → a.block ≠ b) : View w' ao n cap f := by
  refine ⟨hv.le, hv.byte, fun hn => ?_⟩
  obtain ⟨b', off, e, hlt, hc⟩ := hv.cells hn
  refine ⟨b', off, e, by rw [h.size]; exact hlt, fun i hi => ?_⟩
  rw [World.cell?_of_block (w := w) (h.block b' (hne _ e))]
  exact hc i hi

end Go.Proofs.Ytikopeihkbpjhac

/-
  Plain facts on numbers: and, or, exclusive or of two numbers that are not negative, as Go's int has them. No program text is named here.
-/
namespace Go.Proofs.Ytikopeihkbpjhac
open Go.RowKit
set_option maxRecDepth 4000

theorem wrapNat63 (n : Nat) (h : n < 9223372036854775808) : IntKind.i64.wrap (n : Int) = (n : Int) := by
  rw [IntKind.wrap_i64]; omega

theorem i64_xor_nat (a b : Nat) (ha : a < 9223372036854775808) (hb : b < 9223372036854775808) : bits .xor .i64 (a : Int) (b : Int) = ((a ^^^ b : Nat) : Int) := by
  have h : a ^^^ b < 9223372036854775808 := Nat.xor_lt_two_pow (n := 63) ha hb
  show IntKind.i64.wrap ((BitVec.ofInt 64 (a : Int) ^^^ BitVec.ofInt 64 (b : Int)).toNat : Nat) = _
  rw [BitVec.toNat_xor, ofInt_u64 a (by omega), ofInt_u64 b (by omega), wrapNat63 _ h]

theorem i64_or_nat (a b : Nat) (ha : a < 9223372036854775808) (hb : b < 9223372036854775808) : bits .or .i64 (a : Int) (b : Int) = ((a ||| b : Nat) : Int) := by
  have h : a ||| b < 9223372036854775808 := Nat.or_lt_two_pow (n := 63) ha hb
  show IntKind.i64.wrap ((BitVec.ofInt 64 (a : Int) ||| BitVec.ofInt 64 (b : Int)).toNat : Nat) = _
  rw [BitVec.toNat_or, ofInt_u64 a (by omega), ofInt_u64 b (by omega), wrapNat63 _ h]

theorem i64_and_nat (a b : Nat) (ha : a < 9223372036854775808) (hb : b < 9223372036854775808) : bits .and .i64 (a : Int) (b : Int) = ((a &&& b : Nat) : Int) := by
  have h : a &&& b < 9223372036854775808 := Nat.and_lt_two_pow (n := 63) _ hb
  show IntKind.i64.wrap ((BitVec.ofInt 64 (a : Int) &&& BitVec.ofInt 64 (b : Int)).toNat : Nat) = _
  rw [BitVec.toNat_and, ofInt_u64 a (by omega), ofInt_u64 b (by omega), wrapNat63 _ h]

theorem i64_and1 (n : Nat) (h : n < 9223372036854775808) : bits .and .i64 (n : Int) 1 = ((n % 2 : Nat) : Int) := by
  have := i64_and_nat n 1 h (by decide)
  rw [nat_mask1] at this; exact this

/-- What is laid above the lower i bits is added. -/
theorem i64_or_add (i : Nat) (a b : Int) (h0 : 0 ≤ a) (h1 : a < 2 ^ i) (h2 : 0 ≤ b) (h3 : b % 2 ^ i = 0) (h4 : b < 9223372036854775808) (h5 : (2 : Int) ^ i ≤ 9223372036854775808) : bits .or .i64 a b = a + b := by
  obtain ⟨x, rfl⟩ := Int.eq_ofNat_of_zero_le h0
  obtain ⟨y, rfl⟩ := Int.eq_ofNat_of_zero_le h2
  have e : ((2 ^ i : Nat) : Int) = 2 ^ i := by simp
  rw [← e] at h1 h3 h5
  have h3' : y % 2 ^ i = 0 := by omega
  rw [i64_or_nat x y (by omega) (by omega), Nat.or_comm, nat_join i y x h3' (by omega)]
  omega

theorem u8_wrap (x : Int) : IntKind.u8.wrap x = x % 256 := by simp [IntKind.wrap, IntKind.bits, IntKind.signed]

end Go.Proofs.Ytikopeihkbpjhac

/-
  A number as its groups, plainly; lists of bytes that the call owns as rows.
-/
namespace Go.Proofs.Ytikopeihkbpjhac
open Go.RowKit
set_option maxRecDepth 4000

def groups (x : Int) : List Int := if x < 128 then [x] else if x < 16384 then [x % 128 + 128, x / 128] else [x % 128 + 128, x / 128 % 128 + 128, x / 16384]
theorem groups_last (x : Int) (h : x < 128) : groups x = [x] := by unfold groups; rw [if_pos h]
theorem groups_step (x : Int) (h : 128 ≤ x) (h1 : x ≤ 1000000) : groups x = (x % 128 + 128) :: groups (x / 128) := by
  unfold groups
  rw [if_neg (by omega)]
  by_cases h2 : x < 16384
  · rw [if_pos h2, if_pos (by omega)]
  · rw [if_neg h2, if_neg (by omega), if_pos (by omega)]
    have : x / 128 / 128 = x / 16384 := by omega
    rw [this]
theorem groups_len (x : Int) : 1 ≤ (groups x).length ∧ (groups x).length ≤ 3 := by
  unfold groups; split
  · simp
  · split <;> simp
theorem groups_byte (x : Int) (h0 : 0 ≤ x) (h1 : x ≤ 1000000) : ∀ y ∈ groups x, 0 ≤ y ∧ y ≤ 255 := by
  unfold groups; intro y hy; split at hy
  · simp at hy; omega
  · split at hy
    · simp at hy; omega
    · simp at hy; omega

def clampN (x : Int) : Int := if x < 0 then 0 else if 1000000 < x then 1000000 else x
theorem clampN_bd (x : Int) : 0 ≤ clampN x ∧ clampN x ≤ 1000000 := by unfold clampN; split <;> (try split) <;> omega

def lof (n : Nat) (f : Nat → Int) : List Int := (List.range n).map f
theorem lof_len (n : Nat) (f : Nat → Int) : (lof n f).length = n := by simp [lof]
theorem lof_get (n : Nat) (f : Nat → Int) (i : Nat) (h : i < n) : (lof n f).getD i 0 = f i := by simp [lof, h]
def bl (l : List Int) : List Value := l.map (Value.int .u8)
theorem bl_len (l : List Int) : (bl l).length = l.length := by simp [bl]
theorem bl_append (l m : List Int) : bl (l ++ m) = bl l ++ bl m := by simp [bl]
theorem bl_one (l : List Int) : ∀ u ∈ bl l, u.oneCell' = true := by
  intro u hu
  simp only [bl, List.mem_map] at hu
  obtain ⟨x, _, rfl⟩ := hu
  rfl

/-- What the call owns as a list of bytes, as a row. -/
theorem row_of_own {base : Nat} {t : TypeId} {v : Value} {N : Nat} {l : List Int} {w : World} (h : w.ownsRow base t 1 v N (bl l)) (hN : 0 < N) :
    ∃ g c, v = .slice (some ⟨g, 0, none⟩) N c ∧ base ≤ g ∧ N ≤ c ∧ Row t w g N (fun i => l.getD i 0) := by
  obtain ⟨hl, h⟩ := h
  rcases h with ⟨_, h0⟩ | ⟨g, c, cur, rfl, hb, hg, hnc, _, hcs, ht⟩
  · omega
  · refine ⟨g, c, rfl, hb, hnc, cur, hg, by omega, fun i hi => ?_⟩
    have e : (bl l)[i]? = some (.int .u8 (l.getD i 0)) := by
      have : i < l.length := by rw [bl_len] at hl; omega
      simp [bl, this]
    rw [← ht, List.getElem?_take, if_pos (by omega)] at e
    simpa using e

theorem row_of_own' {base : Nat} {t : TypeId} {v : Value} {N : Nat} {l : List Int} {w : World} (h : w.ownsRow base t 1 v N (bl l)) (hv : v ≠ .slice none 0 0) :
    ∃ g c, v = .slice (some ⟨g, 0, none⟩) N c ∧ base ≤ g ∧ N ≤ c ∧ Row t w g N (fun i => l.getD i 0) := by
  obtain ⟨hl, h⟩ := h
  rcases h with ⟨h0, _⟩ | ⟨g, c, cur, rfl, hb, hg, hnc, _, hcs, ht⟩
  · exact absurd h0 hv
  · refine ⟨g, c, rfl, hb, hnc, cur, hg, by omega, fun i hi => ?_⟩
    have e : (bl l)[i]? = some (.int .u8 (l.getD i 0)) := by
      have : i < l.length := by rw [bl_len] at hl; omega
      simp [bl, this]
    rw [← ht, List.getElem?_take, if_pos (by omega)] at e
    simpa using e
theorem row_of_owned {base : Nat} {t : TypeId} {g N c : Nat} {l : List Int} {w : World} (h : w.ownsRow base t 1 (.slice (some ⟨g, 0, none⟩) N c) N (bl l)) : Row t w g N (fun i => l.getD i 0) := by
  obtain ⟨hl, h⟩ := h
  rcases h with ⟨h, _⟩ | ⟨g', c', cur, e, hb, hg, hnc, _, hcs, ht⟩
  · cases h
  · simp only [Value.slice.injEq, Option.some.injEq, Addr.mk.injEq, and_true, true_and] at e
    obtain ⟨rfl, rfl⟩ := e
    refine ⟨cur, hg, by omega, fun i hi => ?_⟩
    have e : (bl l)[i]? = some (.int .u8 (l.getD i 0)) := by
      have : i < l.length := by rw [bl_len] at hl; omega
      simp [bl, this]
    rw [← ht, List.getElem?_take, if_pos (by omega)] at e
    simpa using e
theorem lof_self (l : List Int) : lof l.length (fun i => l.getD i 0) = l := by
  apply List.ext_getElem
  · simp [lof]
  · intro i h1 h2
    simp [lof, h2]

/-- One new cell. -/
theorem cellNew (w : World) (x : Value) (t : TypeId) : ∀ j u, [x][j]? = some u → (w.alloc (.cells #[x] t)).cell? ((⟨w.heap.size, 0, none⟩ : Addr).add j) = some u := by
  intro j u hj
  match j, hj with
  | 0, hj => simp at hj; subst hj; simp [Addr.add]

/-- The cells of a slice that reads, as the law on appending asks for them. -/
theorem cells_of_view {w : World} {b off n cap : Nat} {f : Nat → Int} (h : View w (some ⟨b, off, none⟩) n cap f) : ∀ j u, (bl (lof n f))[j]? = some u → w.cell? ((⟨b, off, none⟩ : Addr).add j) = some u := by
  intro j u hu
  have hj : j < n := by
    by_cases hj : j < n
    · exact hj
    · rw [List.getElem?_eq_none (by rw [bl_len, lof_len]; omega)] at hu; cases hu
  obtain ⟨b', off', e, _, hc⟩ := h.cells (by omega)
  simp only [Option.some.injEq, Addr.mk.injEq, and_true] at e
  obtain ⟨rfl, rfl⟩ := e
  have ea : (⟨b, off, none⟩ : Addr).add j = ⟨b, off + j, none⟩ := by unfold Addr.add; split <;> simp_all
  rw [ea, hc j hj]
  simp [bl, lof, hj] at hu
  rw [hu]

theorem put_byte (n : Nat) (f : Nat → Int) (gs : List Int) (hf : ∀ i, i < n → 0 ≤ f i ∧ f i ≤ 255) (hg : ∀ y ∈ gs, 0 ≤ y ∧ y ≤ 255) : ∀ i, i < n + gs.length → 0 ≤ (lof n f ++ gs).getD i 0 ∧ (lof n f ++ gs).getD i 0 ≤ 255 := by
  intro i hi
  by_cases h : i < n
  · have e : (lof n f ++ gs).getD i 0 = f i := by
      rw [← lof_get n f i h, List.getD_eq_getElem?_getD, List.getD_eq_getElem?_getD, List.getElem?_append_left (by rw [lof_len]; exact h)]
    rw [e]; exact hf i h
  · have e : (lof n f ++ gs).getD i 0 = gs.getD (i - n) 0 := by
      rw [List.getD_eq_getElem?_getD, List.getD_eq_getElem?_getD, List.getElem?_append_right (by rw [lof_len]; omega), lof_len]
    rw [e]
    have hi' : i - n < gs.length := by omega
    have : gs.getD (i - n) 0 = gs[i - n] := by simp [hi']
    rw [this]
    exact hg _ (List.getElem_mem hi')

end Go.Proofs.Ytikopeihkbpjhac

/-
  What the table of the types says of the bytes.
-/
namespace Go.Proofs.Ytikopeihkbpjhac
open Go.RowKit
set_option maxRecDepth 4000

theorem Try.info5 : (Try.prog.info? 5).map (fun i => (i.zero, i.size, i.bytes)) = some (some (.int .u8 0), 1, 1) := by kernel_rfl

end Go.Proofs.Ytikopeihkbpjhac

/-
  The cursor that the draws go by: what each draw comes to, as far as a law leans on it: a number within its bounds, bytes of their own; nothing turns but the cursor.
-/
namespace Go.Proofs.Ytikopeihkbpjhac
open Go.RowKit
set_option maxRecDepth 4000

theorem i64_and255 (n : Int) : bits .and .i64 n 255 = n % 256 := by
  have h255 : (BitVec.ofInt 64 255).toNat = 2 ^ 8 - 1 := by decide
  have key : (BitVec.ofInt 64 n &&& BitVec.ofInt 64 255).toNat = (n % ((2 ^ 64 : Nat) : Int)).toNat % 2 ^ 8 := by
    rw [BitVec.toNat_and, BitVec.toNat_ofInt, h255, Nat.and_two_pow_sub_one_eq_mod]
  show IntKind.i64.wrap ((BitVec.ofInt 64 n &&& BitVec.ofInt 64 255).toNat : Nat) = n % 256
  rw [key, IntKind.wrap_i64]
  omega

theorem Only.trans {b : Nat} {w w1 w2 : World} (h : Only b w w1) (k : Only b w1 w2) : Only b w w2 :=
  ⟨k.os.trans h.os, k.tape.trans h.tape, k.output.trans h.output, k.size.trans h.size, fun i hi => (k.block i hi).trans (h.block i hi)⟩

/-- The three cells of a cursor. -/
def curF (ao : Option Addr) (n cap : Nat) (i h : Int) : Nat → Value
  | 0 => .slice ao n cap
  | 1 => .int .i64 i
  | _ => .int .i64 h

structure Cur (w : World) (g : Nat) (ao : Option Addr) (n cap : Nat) (f : Nat → Int) : Prop where
  cells : ∃ i h : Int, w.rowIs g 102 3 (curF ao n cap i h) ∧ 0 ≤ i ∧ i ≤ n
  view : View w ao n cap f
  apart : ∀ a, ao = some a → 0 < n → a.block ≠ g

theorem Cur.lt {w : World} {g : Nat} {ao : Option Addr} {n cap : Nat} {f : Nat → Int} (h : Cur w g ao n cap f) : g < w.heap.size := by
  obtain ⟨i, k, hr, _⟩ := h.cells
  exact hr.lt

theorem Cur.below {w w' : World} {g : Nat} {ao : Option Addr} {n cap : Nat} {f : Nat → Int} (h : Cur w g ao n cap f) (hb : Below w.heap.size w w') : Cur w' g ao n cap f := by
  obtain ⟨i, k, hr, h0, h1⟩ := h.cells
  exact ⟨⟨i, k, hr.of_block (hb.block g hr.lt), h0, h1⟩, h.view.below hb, h.apart⟩

set_option maxHeartbeats 2000000 in
theorem l1Byte_any (g : Nat) (ao : Option Addr) (n cap : Nat) (f : Nat → Int) (w : World) (hn : n ≤ 1048576) (hC : Cur w g ao n cap f) :
    Calls Try.prog 124 #[.pointer (some ⟨g, 0, none⟩)] w fun e w' => ∃ x : Int, e = .returned (.int .i64 x) ∧ 0 ≤ x ∧ x ≤ 255 ∧ Cur w' g ao n cap f ∧ Only g w w' := by
  obtain ⟨i, h, hr, hi0, hi1⟩ := hC.cells
  have c0 : w.cell? ⟨g, 0, none⟩ = some (.slice ao n cap) := hr.cell (by decide)
  have c1 : w.cell? ⟨g, 1, none⟩ = some (.int .i64 i) := hr.cell (by decide)
  have c2 : w.cell? ⟨g, 2, none⟩ = some (.int .i64 h) := hr.cell (by decide)
  have z1 := hr.frozen 1
  have z2 := hr.frozen 2
  have hA : ∀ z : Int, bits .and .i64 z 255 = z % 256 := i64_and255
  by_cases hlt : i < n
  · have hv := hC.view
    obtain ⟨b, off, rfl, hb, hc⟩ := hv.cells (by omega)
    have hne : b ≠ g := hC.apart _ rfl (by omega)
    obtain ⟨k, rfl⟩ := Int.eq_ofNat_of_zero_le hi0
    have hbk := hv.byte k (by omega)
    have hck := hc k (by omega)
    clear hc
    go_enter Try.func124, Try.ntmps124
    go_wp2
    go_region
    all_goals go_wp2
    all_goals go_region
    all_goals go_wp2
    all_goals go_region
    all_goals go_wp2
    go_ret
    have hO : Only g w ((w.setCell ⟨g, 2, none⟩ (.int .i64 (wrap64 (wrap64 (h * 6364136223846793005) + 1442695040888963407)))).setCell ⟨g, 1, none⟩ (.int .i64 ((k : Int) + 1))) := ((Only.refl _ _).setCell _).setCell _
    have hR := ((hr.set 2 (.int .i64 (wrap64 (wrap64 (h * 6364136223846793005) + 1442695040888963407)))).set 1 (.int .i64 ((k : Int) + 1))).congr (g := curF (some ⟨b, off, none⟩) n cap ((k : Int) + 1) (wrap64 (wrap64 (h * 6364136223846793005) + 1442695040888963407)))
      (fun j hj => by match j, hj with | 0, _ => rfl | 1, _ => rfl | 2, _ => rfl)
    exact ⟨_, rfl, by omega, by omega, ⟨⟨_, _, hR, by omega, by omega⟩, (hO.view hv (fun a ha => hC.apart a ha (by omega))).drew.drew.drew, hC.apart⟩, hO.os, hO.tape, hO.output, hO.size, hO.block⟩
  · go_enter Try.func124, Try.ntmps124
    go_wp2
    go_region
    all_goals go_wp2
    all_goals go_region
    all_goals go_wp2
    go_ret
    have hO : Only g w (w.setCell ⟨g, 2, none⟩ (.int .i64 (wrap64 (wrap64 (h * 6364136223846793005) + 1442695040888963407)))) := (Only.refl _ _).setCell _
    have hR := (hr.set 2 (.int .i64 (wrap64 (wrap64 (h * 6364136223846793005) + 1442695040888963407)))).congr (g := curF ao n cap i (wrap64 (wrap64 (h * 6364136223846793005) + 1442695040888963407)))
      (fun j hj => by match j, hj with | 0, _ => rfl | 1, _ => rfl | 2, _ => rfl)
    have hV : View (w.setCell ⟨g, 2, none⟩ (.int .i64 (wrap64 (wrap64 (h * 6364136223846793005) + 1442695040888963407)))) ao n cap f := by
      by_cases h0 : 0 < n
      · exact hO.view hC.view (fun a ha => hC.apart a ha h0)
      · exact ⟨hC.view.le, hC.view.byte, fun h => absurd h h0⟩
    exact ⟨_, rfl, by omega, by omega, ⟨⟨_, _, hR, hi0, hi1⟩, hV.drew.drew, hC.apart⟩, hO.os, hO.tape, hO.output, hO.size, hO.block⟩

set_option maxHeartbeats 1000000 in
theorem l1Below_any (g : Nat) (ao : Option Addr) (n cap : Nat) (f : Nat → Int) (m : Int) (w : World) (hn : n ≤ 1048576) (hm : 0 < m) (hm1 : m ≤ 16777216) (hC : Cur w g ao n cap f) :
    Calls Try.prog 90 #[.pointer (some ⟨g, 0, none⟩), .int .i64 m] w fun e w' => ∃ x : Int, e = .returned (.int .i64 x) ∧ 0 ≤ x ∧ x < m ∧ Cur w' g ao n cap f ∧ Only g w w' := by
  by_cases h256 : m ≤ 256
  · go_enter Try.func90, Try.ntmps90
    go_wp2_with fail
    refine (l1Byte_any g ao n cap f w hn hC).mono ?_
    rintro e w1 ⟨x, rfl, hx0, hx1, hC1, hO1⟩
    go_wp2
    go_ret
    exact ⟨_, rfl, Int.emod_nonneg _ (by omega), Int.emod_lt_of_pos _ hm, hC1, hO1⟩
  · go_enter Try.func90, Try.ntmps90
    go_wp2_with fail
    refine (l1Byte_any g ao n cap f w hn hC).mono ?_
    rintro e w1 ⟨x, rfl, hx0, hx1, hC1, hO1⟩
    go_wp2_with fail
    refine (l1Byte_any g ao n cap f w1 hn hC1).mono ?_
    rintro e w2 ⟨y, rfl, hy0, hy1, hC2, hO2⟩
    go_wp2_with fail
    refine (l1Byte_any g ao n cap f w2 hn hC2).mono ?_
    rintro e w3 ⟨z, rfl, hz0, hz1, hC3, hO3⟩
    go_wp2
    go_ret
    exact ⟨_, rfl, Int.emod_nonneg _ (by omega), Int.emod_lt_of_pos _ hm, hC3, (hO1.trans hO2).trans hO3⟩

set_option maxHeartbeats 1000000 in
theorem l1Int_any (g : Nat) (ao : Option Addr) (n cap : Nat) (f : Nat → Int) (b m : Nat) (z : Nat → Int) (w : World) (hn : n ≤ 1048576) (hm : 0 < m) (hm1 : m ≤ 16777216) (hz : ∀ i, i < m → w.cell? ⟨b, i, none⟩ = some (.int .i64 (z i))) (hbg : b ≠ g) (hC : Cur w g ao n cap f) :
    Calls Try.prog 91 #[.pointer (some ⟨g, 0, none⟩), .slice (some ⟨b, 0, none⟩) m m] w fun e w' => ∃ j : Nat, j < m ∧ e = .returned (.int .i64 (z j)) ∧ Cur w' g ao n cap f ∧ Only g w w' := by
  go_enter Try.func91, Try.ntmps91
  go_wp2_with fail
  refine (l1Below_any g ao n cap f m w hn (by omega) (by omega) hC).mono ?_
  rintro e w1 ⟨x, rfl, hx0, hx1, hC1, hO1⟩
  obtain ⟨j, rfl⟩ := Int.eq_ofNat_of_zero_le hx0
  have hj : w1.cell? ⟨b, j, none⟩ = some (.int .i64 (z j)) := by
    rw [World.cell?_of_block (w := w) (hO1.block b hbg)]; exact hz j (by omega)
  go_wp2
  go_ret
  exact ⟨j, by omega, rfl, hC1, hO1⟩

set_option maxHeartbeats 1000000 in
theorem l1New_any (ao : Option Addr) (n cap : Nat) (f : Nat → Int) (w : World) (hn : n ≤ 1048576) (hv : View w ao n cap f) :
    Calls Try.prog 46 #[.slice ao n cap] w fun e w' => e = .returned (.pointer (some ⟨w.heap.size, 0, none⟩)) ∧ Cur w' w.heap.size ao n cap f ∧ Below w.heap.size w w' := by
  go_enter Try.func46, Try.ntmps46
  go_wp2
  go_loopg [3, 4] n (fun q s i wr => w = wr ∧ ∃ (k : Nat) (h : Int), k ≤ n ∧ q = n - k ∧ s = .int .i64 h ∧ i = .int .i64 k)
  case atStart => exact ⟨rfl, 0, _, Nat.zero_le _, rfl, rfl, rfl⟩
  case round =>
    obtain ⟨rfl, k, h, hk, rfl, rfl, rfl⟩ := hrel
    by_cases hlt : k < n
    · obtain ⟨b, off, rfl, hb, hc⟩ := hv.cells (by omega)
      have hkz : (k : Int) < (n : Int) := by omega
      have hc1 := hc k hlt
      have hbk := hv.byte k hlt
      by_cases h4 : k < 4000
      · have hz4 : (k : Int) < 4000 := by omega
        clear hc
        go_wp2
        go_roundg (n - (k + 1))
        case measure => omega
        case rel => exact ⟨rfl, k + 1, _, by omega, rfl, rfl, by go_num⟩
      · have hz4 : ¬ (k : Int) < 4000 := by omega
        clear h4
        clear hc
        go_wp2
        go_ret
        refine ⟨rfl, ⟨⟨0, _, World.rowIs_alloc w _ 102 (curF (some ⟨b, off, none⟩) n cap 0 h) (fun j hj => ?_), by omega, by omega⟩, hv.below ((Below.refl _ _).alloc (Nat.le_refl _) _), fun a ha _ => ?_⟩, (Below.refl _ _).alloc (Nat.le_refl _) _⟩
        · match j, hj with | 0, _ => rfl | 1, _ => rfl | 2, _ => rfl
        · cases ha; show b ≠ w.heap.size; omega
    · have hkz : (n : Int) ≤ (k : Int) := by omega
      go_wp2
      go_ret
      refine ⟨rfl, ⟨⟨0, _, World.rowIs_alloc w _ 102 (curF ao n cap 0 h) (fun j hj => ?_), by omega, by omega⟩, hv.below ((Below.refl _ _).alloc (Nat.le_refl _) _), fun a ha h0 => ?_⟩, (Below.refl _ _).alloc (Nat.le_refl _) _⟩
      · match j, hj with | 0, _ => rfl | 1, _ => rfl | 2, _ => rfl
      · obtain ⟨b, off, e, hb, _⟩ := hv.cells h0
        rw [e] at ha; cases ha; show b ≠ w.heap.size; omega
end Go.Proofs.Ytikopeihkbpjhac

/-
  What turns but one block: how it is carried.
-/
namespace Go.Proofs.Ytikopeihkbpjhac
open Go.RowKit
set_option maxRecDepth 4000

/-- Of what was there block g alone may have turned. -/
structure But (g : Nat) (w w' : World) : Prop where
  os : w'.os = w.os
  tape : w'.tape = w.tape
  output : w'.output = w.output
  size : w.heap.size ≤ w'.heap.size
  block : ∀ k, k < w.heap.size → k ≠ g → w'.heap[k]? = w.heap[k]?

theorem But.refl (g : Nat) (w : World) : But g w w := ⟨rfl, rfl, rfl, Nat.le_refl _, fun _ _ _ => rfl⟩
theorem But.trans {g : Nat} {a b c : World} (h : But g a b) (k : But g b c) : But g a c :=
  ⟨k.os.trans h.os, k.tape.trans h.tape, k.output.trans h.output, Nat.le_trans h.size k.size, fun i hi hg => (k.block i (Nat.lt_of_lt_of_le hi h.size) hg).trans (h.block i hi hg)⟩
theorem But.ofOnly {g : Nat} {w w' : World} (h : Only g w w') : But g w w' := ⟨h.os, h.tape, h.output, by rw [h.size]; exact Nat.le_refl _, fun k _ hk => h.block k hk⟩
theorem But.ofBelow {g : Nat} {w w' : World} (h : Below w.heap.size w w') : But g w w' := ⟨h.os, h.tape, h.output, h.size, fun k hk _ => h.block k hk⟩
theorem But.below {g B : Nat} {w w' : World} (h : But g w w') (hB : B ≤ g) (hs : B ≤ w.heap.size) : Below B w w' := ⟨h.os, h.tape, h.output, h.size, fun k hk => h.block k (by omega) (by omega)⟩
theorem But.row {t : TypeId} {g b n : Nat} {f : Nat → Int} {w w' : World} (h : But g w w') (hr : Row t w b n f) (hne : b ≠ g) : Row t w' b n f := hr.of_block (h.block b hr.lt hne)
theorem But.view {g : Nat} {ao : Option Addr} {n cap : Nat} {f : Nat → Int} {w w' : World} (h : But g w w') (hv : View w ao n cap f) (hne : ∀ a, ao = some a → 0 < n → a.block ≠ g) : View w' ao n cap f := by
  refine ⟨hv.le, hv.byte, fun hn => ?_⟩
  obtain ⟨b', off, e, hlt, hc⟩ := hv.cells hn
  refine ⟨b', off, e, Nat.lt_of_lt_of_le hlt h.size, fun i hi => ?_⟩
  rw [World.cell?_of_block (w := w) (h.block b' hlt (hne _ e hn))]
  exact hc i hi
theorem Only.grown {g : Nat} {w w' : World} (h : Only g w w') : w.grownBy w' (some g) :=
  ⟨h.os, h.tape, h.output, by rw [h.size]; exact Nat.le_refl _, fun k _ hk => h.block k (fun e => hk (by rw [e]))⟩
theorem But.grown {g : Nat} {w w' : World} (h : But g w w') : w.grownBy w' (some g) := ⟨h.os, h.tape, h.output, h.size, fun k hk hne => h.block k hk (fun e => hne (by rw [e]))⟩
end Go.Proofs.Ytikopeihkbpjhac

/-
  What turns but the cursor: how it is carried.
-/
namespace Go.Proofs.Ytikopeihkbpjhac
open Go.RowKit
set_option maxRecDepth 4000

theorem Cur.grown {w w' : World} {g : Nat} {ao : Option Addr} {n cap : Nat} {f : Nat → Int} {row : Option Nat} (h : Cur w g ao n cap f) (hg : w.grownBy w' row) (h1 : row ≠ some g) (h2 : ∀ a, ao = some a → 0 < n → row ≠ some a.block) : Cur w' g ao n cap f := by
  obtain ⟨i, k, hr, h0, hi⟩ := h.cells
  refine ⟨⟨i, k, hr.of_block (hg.block g hr.lt (fun e => h1 e.symm)), h0, hi⟩, ⟨h.view.le, h.view.byte, fun hn => ?_⟩, h.apart⟩
  obtain ⟨b', off, e, hlt, hc⟩ := h.view.cells hn
  refine ⟨b', off, e, Nat.lt_of_lt_of_le hlt hg.size, fun j hj => ?_⟩
  rw [World.cell?_of_block (w := w) (hg.block b' hlt (fun e' => h2 _ e hn e'.symm))]
  exact hc j hj
theorem Cur.code {w : World} {g : Nat} {ao : Option Addr} {n cap : Nat} {f : Nat → Int} (h : Cur w g ao n cap f) : ∀ a, ao = some a → 0 < n → a.block < w.heap.size := by
  rintro a rfl hn
  obtain ⟨b, off, e, hlt, _⟩ := h.view.cells hn
  cases e
  exact hlt

end Go.Proofs.Ytikopeihkbpjhac

/-
  Lists that are drawn of.
-/
namespace Go.Proofs.Ytikopeihkbpjhac
open Go.RowKit
set_option maxRecDepth 4000

/-- The cells of a list of numbers that is laid anew. -/
theorem newInts (w : World) (l : List Int) (t : TypeId) : ∀ i, i < l.length → (w.alloc (.cells (l.map (Value.int .i64)).toArray t)).cell? ⟨w.heap.size, i, none⟩ = some (.int .i64 (l.getD i 0)) := by
  intro i hi
  rw [World.cell?, show (w.alloc (.cells (l.map (Value.int .i64)).toArray t)).heap[w.heap.size]? = some (.cells (l.map (Value.int .i64)).toArray t) from Deep.blk_alloc_new _ _]
  simp [hi]

theorem getD_mem {l : List Int} {j : Nat} (h : j < l.length) : l.getD j 0 ∈ l := by
  simp [h]

theorem Cur.drew {w : World} {g : Nat} {ao : Option Addr} {n cap : Nat} {f : Nat → Int} (h : Cur w g ao n cap f) : Cur w.drew g ao n cap f := h.below (Below.refl _ _).drew
end Go.Proofs.Ytikopeihkbpjhac

/-
  Drawn texts, as far as a law leans on them.
-/
namespace Go.Proofs.Ytikopeihkbpjhac
open Go.RowKit
set_option maxRecDepth 4000

set_option maxHeartbeats 1000000 in
theorem l1Str_any (g : Nat) (ao : Option Addr) (n cap : Nat) (f : Nat → Int) (b m : Nat) (z : Nat → ByteArray) (w : World) (hn : n ≤ 1048576) (hm : 0 < m) (hm1 : m ≤ 16777216) (hz : ∀ i, i < m → w.cell? ⟨b, i, none⟩ = some (.string (z i))) (hbg : b ≠ g) (hC : Cur w g ao n cap f) :
    Calls Try.prog 114 #[.pointer (some ⟨g, 0, none⟩), .slice (some ⟨b, 0, none⟩) m m] w fun e w' => ∃ j : Nat, j < m ∧ e = .returned (.string (z j)) ∧ Cur w' g ao n cap f ∧ Only g w w' := by
  go_enter Try.func114, Try.ntmps114
  go_wp2_with fail
  refine (l1Below_any g ao n cap f m w hn (by omega) (by omega) hC).mono ?_
  rintro e w1 ⟨x, rfl, hx0, hx1, hC1, hO1⟩
  obtain ⟨j, rfl⟩ := Int.eq_ofNat_of_zero_le hx0
  have hj : w1.cell? ⟨b, j, none⟩ = some (.string (z j)) := by
    rw [World.cell?_of_block (w := w) (hO1.block b hbg)]; exact hz j (by omega)
  go_wp2
  go_ret
  exact ⟨j, by omega, rfl, hC1, hO1⟩

/-- The cells of a list of texts that is laid anew. -/
theorem newStrs (w : World) (l : List ByteArray) (t : TypeId) : ∀ i, i < l.length → (w.alloc (.cells (l.map Value.string).toArray t)).cell? ⟨w.heap.size, i, none⟩ = some (.string (l.getD i ⟨#[]⟩)) := by
  intro i hi
  rw [World.cell?, show (w.alloc (.cells (l.map Value.string).toArray t)).heap[w.heap.size]? = some (.cells (l.map Value.string).toArray t) from Deep.blk_alloc_new _ _]
  simp [hi]

/-- The texts that are drawn of. -/
def texts : List ByteArray := [⟨#[]⟩, ⟨#[97]⟩, ⟨#[98]⟩, ⟨#[97, 98]⟩, ⟨#[0]⟩, ⟨#[97, 0]⟩, ⟨#[0, 255]⟩, ⟨#[255]⟩, ⟨#[119, 111, 114, 100]⟩, ⟨#[122]⟩]
theorem texts_few (j : Nat) : (texts.getD j ⟨#[]⟩).size ≤ 4 := by
  rcases Nat.lt_or_ge j 10 with h | h
  · match j, h with
    | 0, _ | 1, _ | 2, _ | 3, _ | 4, _ | 5, _ | 6, _ | 7, _ | 8, _ | 9, _ => decide
  · rw [List.getD_eq_getElem?_getD, List.getElem?_eq_none (by show 10 ≤ j; exact h)]
    decide

set_option maxHeartbeats 1000000 in
theorem l2Text_any (g : Nat) (ao : Option Addr) (n cap : Nat) (f : Nat → Int) (w : World) (hn : n ≤ 1048576) (hC : Cur w g ao n cap f) :
    Calls Try.prog 128 #[.pointer (some ⟨g, 0, none⟩)] w fun e w' => ∃ s : ByteArray, e = .returned (.string s) ∧ s.size ≤ 4 ∧ Cur w' g ao n cap f ∧ But g w w' := by
  have hb0 : Below w.heap.size w (w.alloc (.cells (texts.map Value.string).toArray 9)) := (Below.refl _ _).alloc (Nat.le_refl _) _
  have hgl := hC.lt
  have hz := newStrs w texts 9
  have HF : Hid (∀ j, (texts.getD j ⟨#[]⟩).size ≤ 4) := texts_few
  go_enter Try.func128, Try.ntmps128
  go_wp2_with fail
  refine (l1Str_any g ao n cap f w.heap.size 10 (fun i => texts.getD i ⟨#[]⟩) _ hn (by omega) (by omega) hz (by omega) (hC.below hb0)).mono ?_
  rintro e w1 ⟨j, hj, rfl, hC1, hO1⟩
  have hs := HF.out j
  have hB1 : But g w w1 := (But.ofBelow hb0).trans (But.ofOnly hO1)
  generalize texts.getD j ⟨#[]⟩ = s at *
  clear hz hb0 hO1 HF
  go_wp2
  go_ret
  exact ⟨s, rfl, hs, hC1, hB1⟩
end Go.Proofs.Ytikopeihkbpjhac

/-
  Two values are held against each other, all fields at once.
-/
namespace Go.Proofs.Ytikopeihkbpjhac
open Go.RowKit
set_option maxRecDepth 4000

def valAgg (k n : Int) (s : ByteArray) : Value := .agg #[.int .i64 k, .int .i64 n, .string s]

/-- Whether two values are alike. -/
def eqV (k n : Int) (s : ByteArray) (k' n' : Int) (s' : ByteArray) : Bool := decide (k = k') && decide (n = n') && decide (s = s')

theorem toList_inj {a b : ByteArray} : a.toList = b.toList ↔ a = b := by
  constructor
  · intro h
    rw [ByteArray.toList_eq, ByteArray.toList_eq] at h
    obtain ⟨⟨x⟩⟩ := a
    obtain ⟨⟨y⟩⟩ := b
    simp only at h
    rw [h]
  · rintro rfl; rfl

theorem eqVal_run (k n : Int) (s : ByteArray) (k' n' : Int) (s' : ByteArray) (W : World) :
    (binOp .eql 29 (.agg #[.int .i64 k, .int .i64 n, .string s]) (.agg #[.int .i64 k', .int .i64 n', .string s'])).run Try.prog W = .ok (.bool (eqV k n s k' n' s')) W := by
  by_cases h1 : k = k' <;> by_cases h2 : n = n' <;> by_cases h3 : s = s' <;> simp [go_sem, h1, h2, h3, eqV, toList_inj]

theorem neVal_run (k n : Int) (s : ByteArray) (k' n' : Int) (s' : ByteArray) (W : World) :
    (binOp .neq 29 (.agg #[.int .i64 k, .int .i64 n, .string s]) (.agg #[.int .i64 k', .int .i64 n', .string s'])).run Try.prog W = .ok (.bool (!eqV k n s k' n' s')) W := by
  by_cases h1 : k = k' <;> by_cases h2 : n = n' <;> by_cases h3 : s = s' <;> simp [go_sem, h1, h2, h3, eqV, toList_inj]

end Go.Proofs.Ytikopeihkbpjhac

/-
  Values that were put into variables of the call's own, in later worlds.
-/
namespace Go.Proofs.Ytikopeihkbpjhac
open Go.RowKit
set_option maxRecDepth 4000

/-- A value that was put into a variable of the call's own reads as it did. -/
theorem boxed {w W' : World} {T : TypeId} {k n : Int} {s : ByteArray} {B : Nat} (h : Below B (w.alloc (.cells #[.int .i64 k, .int .i64 n, .string s] T)) W') (hB : w.heap.size < B) : W'.cell? ⟨w.heap.size, 0, none⟩ = some (.int .i64 k) ∧ W'.cell? ⟨w.heap.size, 1, none⟩ = some (.int .i64 n) ∧ W'.cell? ⟨w.heap.size, 2, none⟩ = some (.string s) := by
  refine ⟨?_, ?_, ?_⟩
  all_goals (rw [h.cell hB]; simp [go_sem])

/-- And it may be written. -/
theorem boxedF {w W' : World} {T : TypeId} {k n : Int} {s : ByteArray} {B : Nat} (h : Below B (w.alloc (.cells #[.int .i64 k, .int .i64 n, .string s] T)) W') (hB : w.heap.size < B) : W'.frozen? ⟨w.heap.size, 0, none⟩ = false ∧ W'.frozen? ⟨w.heap.size, 1, none⟩ = false ∧ W'.frozen? ⟨w.heap.size, 2, none⟩ = false := by
  refine ⟨?_, ?_, ?_⟩
  all_goals (rw [h.frozen hB]; simp [go_sem])

theorem sc_other (W : World) (B i j : Nat) (v : Value) (h : i ≠ j) : (W.setCell ⟨B, i, none⟩ v).cell? ⟨B, j, none⟩ = W.cell? ⟨B, j, none⟩ :=
  World.cell?_setCell_other W _ _ v (by intro e; exact h (congrArg Addr.off e))
theorem sc_same {W : World} {B i : Nat} {v u : Value} (h : W.cell? ⟨B, i, none⟩ = some u) : (W.setCell ⟨B, i, none⟩ v).cell? ⟨B, i, none⟩ = some v := World.cell?_setCell_same W _ v h

/-- A value that is put into the result's variable. -/
theorem stored3 {W : World} {B : Nat} {x0 x1 x2 : Value} (a b c : Value) (c0 : W.cell? ⟨B, 0, none⟩ = some x0) (c1 : W.cell? ⟨B, 1, none⟩ = some x1) (c2 : W.cell? ⟨B, 2, none⟩ = some x2) :
    (((W.setCell ⟨B, 0, none⟩ a).setCell ⟨B, 1, none⟩ b).setCell ⟨B, 2, none⟩ c).cell? ⟨B, 0, none⟩ = some a ∧
    (((W.setCell ⟨B, 0, none⟩ a).setCell ⟨B, 1, none⟩ b).setCell ⟨B, 2, none⟩ c).cell? ⟨B, 1, none⟩ = some b ∧
    (((W.setCell ⟨B, 0, none⟩ a).setCell ⟨B, 1, none⟩ b).setCell ⟨B, 2, none⟩ c).cell? ⟨B, 2, none⟩ = some c := by
  refine ⟨?_, ?_, ?_⟩
  · rw [sc_other _ _ 2 0 _ (by decide), sc_other _ _ 1 0 _ (by decide), sc_same c0]
  · rw [sc_other _ _ 2 1 _ (by decide), sc_same (u := x1) (by rw [sc_other _ _ 0 1 _ (by decide)]; exact c1)]
  · rw [sc_same (u := x2) (by rw [sc_other _ _ 1 2 _ (by decide), sc_other _ _ 0 2 _ (by decide)]; exact c2)]

theorem stored3A {W : World} {B : Nat} {x0 x1 x2 : Value} (a b c : Value) (c0 : W.cell? ⟨B, 0, none⟩ = some x0) (c1 : W.cell? ⟨B, 1, none⟩ = some x1) (c2 : W.cell? ⟨B, 2, none⟩ = some x2) (h : B < W.heap.size) (o : Obj) :
    ((((W.setCell ⟨B, 0, none⟩ a).setCell ⟨B, 1, none⟩ b).setCell ⟨B, 2, none⟩ c).alloc o).cell? ⟨B, 0, none⟩ = some a ∧
    ((((W.setCell ⟨B, 0, none⟩ a).setCell ⟨B, 1, none⟩ b).setCell ⟨B, 2, none⟩ c).alloc o).cell? ⟨B, 1, none⟩ = some b ∧
    ((((W.setCell ⟨B, 0, none⟩ a).setCell ⟨B, 1, none⟩ b).setCell ⟨B, 2, none⟩ c).alloc o).cell? ⟨B, 2, none⟩ = some c := by
  have g := stored3 a b c c0 c1 c2
  have hB : B < (((W.setCell ⟨B, 0, none⟩ a).setCell ⟨B, 1, none⟩ b).setCell ⟨B, 2, none⟩ c).heap.size := by simpa using h
  rw [World.cell?_alloc_past _ _ _ hB, World.cell?_alloc_past _ _ _ hB, World.cell?_alloc_past _ _ _ hB]
  exact g

/-- Two values that were put into variables of the call's own stand in a later world. -/
structure Two (w : World) (T : TypeId) (k n : Int) (s : ByteArray) (k' n' : Int) (s' : ByteArray) (W : World) : Prop where
  below : Below (w.heap.size + 2) ((w.alloc (.cells #[.int .i64 k, .int .i64 n, .string s] T)).alloc (.cells #[.int .i64 k', .int .i64 n', .string s'] T)) W
  size : w.heap.size + 2 ≤ W.heap.size

theorem Two.start (w : World) (T : TypeId) (k n : Int) (s : ByteArray) (k' n' : Int) (s' : ByteArray) : Two w T k n s k' n' s' ((w.alloc (.cells #[.int .i64 k, .int .i64 n, .string s] T)).alloc (.cells #[.int .i64 k', .int .i64 n', .string s'] T)) := ⟨Below.refl _ _, by simp⟩
theorem Two.drew {w W : World} {T : TypeId} {k n : Int} {s : ByteArray} {k' n' : Int} {s' : ByteArray} (h : Two w T k n s k' n' s' W) : Two w T k n s k' n' s' W.drew := ⟨h.below.drew, h.size⟩
theorem Two.step {w W W' : World} {T : TypeId} {k n : Int} {s : ByteArray} {k' n' : Int} {s' : ByteArray} (h : Two w T k n s k' n' s' W) (hB : Below W.heap.size W W') : Two w T k n s k' n' s' W' :=
  ⟨h.below.trans (hB.mono h.size), Nat.le_trans h.size hB.size⟩
theorem Two.cells {w W : World} {T : TypeId} {k n : Int} {s : ByteArray} {k' n' : Int} {s' : ByteArray} (h : Two w T k n s k' n' s' W) :
    (W.cell? ⟨w.heap.size, 0, none⟩ = some (.int .i64 k) ∧ W.cell? ⟨w.heap.size, 1, none⟩ = some (.int .i64 n) ∧ W.cell? ⟨w.heap.size, 2, none⟩ = some (.string s)) ∧
    (W.cell? ⟨w.heap.size + 1, 0, none⟩ = some (.int .i64 k') ∧ W.cell? ⟨w.heap.size + 1, 1, none⟩ = some (.int .i64 n') ∧ W.cell? ⟨w.heap.size + 1, 2, none⟩ = some (.string s')) := by
  refine ⟨⟨?_, ?_, ?_⟩, ?_, ?_, ?_⟩
  all_goals (rw [h.below.cell (by show _ < _; simp <;> omega)]; simp [go_sem])
theorem Two.all {w W : World} {T : TypeId} {k n : Int} {s : ByteArray} {k' n' : Int} {s' : ByteArray} (h : Two w T k n s k' n' s' W) : Below w.heap.size w W :=
  (((Below.refl _ _).alloc (Nat.le_refl _) _).alloc (by simp) _).trans (h.below.mono (by omega))

end Go.Proofs.Ytikopeihkbpjhac

/-
  A value in a variable of the call's own.
-/
namespace Go.Proofs.Ytikopeihkbpjhac
open Go.RowKit
set_option maxRecDepth 4000

/-- The three cells of a value. -/
def valC (k n : Int) (s : ByteArray) : Nat → Value
  | 0 => .int .i64 k
  | 1 => .int .i64 n
  | _ => .string s

/-- A value in a variable of the call's own. -/
def Box (w : World) (B : Nat) (k n : Int) (s : ByteArray) : Prop := w.rowIs B 29 3 (valC k n s)
theorem Box.new (w : World) (k n : Int) (s : ByteArray) : Box (w.alloc (.cells #[.int .i64 k, .int .i64 n, .string s] 29)) w.heap.size k n s :=
  World.rowIs_alloc w _ 29 (valC k n s) (fun j hj => by match j, hj with | 0, _ => rfl | 1, _ => rfl | 2, _ => rfl)
theorem Box.cells {w : World} {B : Nat} {k n : Int} {s : ByteArray} (h : Box w B k n s) : w.cell? ⟨B, 0, none⟩ = some (.int .i64 k) ∧ w.cell? ⟨B, 1, none⟩ = some (.int .i64 n) ∧ w.cell? ⟨B, 2, none⟩ = some (.string s) :=
  ⟨h.cell (i := 0) (by decide), h.cell (i := 1) (by decide), h.cell (i := 2) (by decide)⟩
theorem Box.frozen {w : World} {B : Nat} {k n : Int} {s : ByteArray} (h : Box w B k n s) : w.frozen? ⟨B, 0, none⟩ = false ∧ w.frozen? ⟨B, 1, none⟩ = false ∧ w.frozen? ⟨B, 2, none⟩ = false :=
  ⟨World.rowIs.frozen h 0, World.rowIs.frozen h 1, World.rowIs.frozen h 2⟩
theorem Box.lt {w : World} {B : Nat} {k n : Int} {s : ByteArray} (h : Box w B k n s) : B < w.heap.size := World.rowIs.lt h
theorem Box.below {w w' : World} {B : Nat} {k n : Int} {s : ByteArray} (h : Box w B k n s) (hb : Below w.heap.size w w') : Box w' B k n s := h.of_block (hb.block B h.lt)
theorem Box.set0 {w : World} {B : Nat} {k n : Int} {s : ByteArray} (h : Box w B k n s) (x : Int) : Box (w.setCell ⟨B, 0, none⟩ (.int .i64 x)) B x n s :=
  (World.rowIs.set h 0 _).congr (fun j hj => by match j, hj with | 0, _ => rfl | 1, _ => rfl | 2, _ => rfl)
theorem Box.set1 {w : World} {B : Nat} {k n : Int} {s : ByteArray} (h : Box w B k n s) (x : Int) : Box (w.setCell ⟨B, 1, none⟩ (.int .i64 x)) B k x s :=
  (World.rowIs.set h 1 _).congr (fun j hj => by match j, hj with | 0, _ => rfl | 1, _ => rfl | 2, _ => rfl)
theorem Box.set2 {w : World} {B : Nat} {k n : Int} {s : ByteArray} (h : Box w B k n s) (t : ByteArray) : Box (w.setCell ⟨B, 2, none⟩ (.string t)) B k n t :=
  (World.rowIs.set h 2 _).congr (fun j hj => by match j, hj with | 0, _ => rfl | 1, _ => rfl | 2, _ => rfl)
theorem Box.put {w : World} {B : Nat} {k n : Int} {s : ByteArray} (h : Box w B k n s) (k' n' : Int) (s' : ByteArray) : Box (((w.setCell ⟨B, 0, none⟩ (.int .i64 k')).setCell ⟨B, 1, none⟩ (.int .i64 n')).setCell ⟨B, 2, none⟩ (.string s')) B k' n' s' :=
  ((h.set0 k').set1 n').set2 s'
theorem Box.other {w : World} {B D i : Nat} {k n : Int} {s : ByteArray} (h : Box w B k n s) (hne : B ≠ D) (u : Value) : Box (w.setCell ⟨D, i, none⟩ u) B k n s := h.of_block (Below.heap_setCell _ _ _ _ hne)
theorem Box.drew {w : World} {B : Nat} {k n : Int} {s : ByteArray} (h : Box w B k n s) : Box w.drew B k n s := h
/-- The result's variable and the value's, behind what was there. -/
theorem boxes2 (w : World) (t : Int) : Box ((w.alloc (.cells #[.int .i64 0, .int .i64 0, .string ⟨#[]⟩] 29)).alloc (.cells #[.int .i64 t, .int .i64 0, .string ⟨#[]⟩] 29)) w.heap.size 0 0 ⟨#[]⟩ ∧ Box ((w.alloc (.cells #[.int .i64 0, .int .i64 0, .string ⟨#[]⟩] 29)).alloc (.cells #[.int .i64 t, .int .i64 0, .string ⟨#[]⟩] 29)) (w.heap.size + 1) t 0 ⟨#[]⟩ ∧
    Below w.heap.size w ((w.alloc (.cells #[.int .i64 0, .int .i64 0, .string ⟨#[]⟩] 29)).alloc (.cells #[.int .i64 t, .int .i64 0, .string ⟨#[]⟩] 29)) := by
  have h2 := Box.new (w.alloc (.cells #[.int .i64 0, .int .i64 0, .string ⟨#[]⟩] 29)) t 0 ⟨#[]⟩
  rw [show (w.alloc (.cells #[.int .i64 0, .int .i64 0, .string ⟨#[]⟩] 29)).heap.size = w.heap.size + 1 by simp] at h2
  exact ⟨(Box.new w 0 0 ⟨#[]⟩).below ((Below.refl _ _).alloc (Nat.le_refl _) _), h2, ((Below.refl _ _).alloc (Nat.le_refl _) _).alloc (by simp) _⟩
end Go.Proofs.Ytikopeihkbpjhac

/-
  One of a list of numbers, as a law leans on it.
-/
namespace Go.Proofs.Ytikopeihkbpjhac
open Go.RowKit
set_option maxRecDepth 4000

/-- An int of 64 bits. -/
def I64 (x : Int) : Prop := -9223372036854775808 ≤ x ∧ x ≤ 9223372036854775807

/-- One of a list of numbers that is laid anew. -/
theorem l1Int_of (g : Nat) (ao : Option Addr) (n cap : Nat) (f : Nat → Int) (l : List Int) (A : Nat) (w : World) (hA : A = w.heap.size) (hn : n ≤ 1048576) (h0 : 0 < l.length) (h1 : l.length ≤ 1000) (hl : ∀ y ∈ l, I64 y) (hC : Cur w g ao n cap f) :
    Calls Try.prog 91 #[.pointer (some ⟨g, 0, none⟩), .slice (some ⟨A, 0, none⟩) l.length l.length] (w.alloc (.cells (l.map (Value.int .i64)).toArray 3)) fun e w' => ∃ x : Int, e = .returned (.int .i64 x) ∧ I64 x ∧ Cur w' g ao n cap f ∧ But g w w' := by
  subst hA
  have hb : Below w.heap.size w (w.alloc (.cells (l.map (Value.int .i64)).toArray 3)) := (Below.refl _ _).alloc (Nat.le_refl _) _
  have hg := hC.lt
  refine (l1Int_any g ao n cap f w.heap.size l.length (fun i => l.getD i 0) _ hn h0 (by omega) (newInts w l 3) (by omega) (hC.below hb)).mono ?_
  rintro e w' ⟨j, hj, rfl, hC2, hO2⟩
  exact ⟨_, rfl, hl _ (getD_mem hj), hC2, (But.ofBelow hb).trans (But.ofOnly hO2)⟩
end Go.Proofs.Ytikopeihkbpjhac

/-
  The draws of values, as far as a law leans on them: numbers near an edge, and values of a type.
-/
namespace Go.Proofs.Ytikopeihkbpjhac
open Go.RowKit
set_option maxRecDepth 4000

set_option maxHeartbeats 1000000 in
theorem l1Once_any (g : Nat) (ao : Option Addr) (n cap : Nat) (f : Nat → Int) (m : Int) (w : World) (hn : n ≤ 1048576) (hm : 0 < m) (hm1 : m ≤ 16777216) (hC : Cur w g ao n cap f) :
    Calls Try.prog 80 #[.pointer (some ⟨g, 0, none⟩), .int .i64 m] w fun e w' => ∃ b : Bool, e = .returned (.bool b) ∧ Cur w' g ao n cap f ∧ Only g w w' := by
  go_enter Try.func80, Try.ntmps80
  go_wp2_with fail
  refine (l1Below_any g ao n cap f m w hn hm hm1 hC).mono ?_
  rintro e w1 ⟨x, rfl, hx0, hx1, hC1, hO1⟩
  go_wp2
  go_ret
  exact ⟨_, rfl, hC1, hO1⟩

theorem Box.but {w w' : World} {B g : Nat} {k n : Int} {s : ByteArray} (h : Box w B k n s) (hb : But g w w') (hne : B ≠ g) : Box w' B k n s := h.of_block (hb.block B h.lt hne)
theorem But.alloc (g : Nat) (w : World) (o : Obj) : But g w (w.alloc o) := But.ofBelow ((Below.refl _ _).alloc (Nat.le_refl _) _)
/-- What is written lies behind what was there. -/
theorem But.setNew {g B i : Nat} {w w' : World} (h : But g w w') (hB : w.heap.size ≤ B) (u : Value) : But g w (w'.setCell ⟨B, i, none⟩ u) :=
  ⟨h.os, h.tape, h.output, by simpa using h.size, fun k hk hg => by rw [Below.heap_setCell _ _ _ _ (by show k ≠ B; omega)]; exact h.block k hk hg⟩
theorem Cur.setNew {w : World} {g : Nat} {ao : Option Addr} {n cap : Nat} {f : Nat → Int} (h : Cur w g ao n cap f) {B i : Nat} (u : Value) (hg : g ≠ B) (hc : ∀ a, ao = some a → 0 < n → a.block ≠ B) : Cur (w.setCell ⟨B, i, none⟩ u) g ao n cap f := by
  obtain ⟨j, k, hr, h0, hi⟩ := h.cells
  refine ⟨⟨j, k, hr.of_block (Below.heap_setCell _ _ _ _ hg), h0, hi⟩, ⟨h.view.le, h.view.byte, fun hn => ?_⟩, h.apart⟩
  obtain ⟨b', off, e, hlt, hcc⟩ := h.view.cells hn
  refine ⟨b', off, e, by simpa using hlt, fun j hj => ?_⟩
  rw [World.cell?_of_block (w := w) (Below.heap_setCell _ _ _ _ (hc _ e hn))]
  exact hcc j hj

/-- Some value, none too long, and the cursor behind its draw. -/
structure DrewV (w : World) (g : Nat) (ao : Option Addr) (n cap : Nat) (f : Nat → Int) (k m : Int) (s : ByteArray) (w' : World) : Prop where
  k64 : I64 k
  m64 : I64 m
  few : s.size ≤ 40
  cur : Cur w' g ao n cap f
  but : But g w w'
end Go.Proofs.Ytikopeihkbpjhac

/-
  The draw of a value of a type, as far as a law leans on it.
-/
namespace Go.Proofs.Ytikopeihkbpjhac
open Go.RowKit
set_option maxRecDepth 4000


/-- A value that is put into the result's variable, behind all that was there. -/
theorem DrewV.put {w w' : World} {g : Nat} {ao : Option Addr} {n cap : Nat} {f : Nat → Int} {k m : Int} {s : ByteArray} (hk : I64 k) (hm : I64 m) (hs : s.size ≤ 40) (hC : Cur w' g ao n cap f) (hB : But g w w') (hg : g < w.heap.size) (hc : ∀ a, ao = some a → 0 < n → a.block < w.heap.size) :
    DrewV w g ao n cap f k m s (((w'.setCell ⟨w.heap.size, 0, none⟩ (.int .i64 k)).setCell ⟨w.heap.size, 1, none⟩ (.int .i64 m)).setCell ⟨w.heap.size, 2, none⟩ (.string s)) :=
  ⟨hk, hm, hs, ((hC.setNew _ (by omega) (fun a ha h0 => by have := hc a ha h0; omega)).setNew _ (by omega) (fun a ha h0 => by have := hc a ha h0; omega)).setNew _ (by omega) (fun a ha h0 => by have := hc a ha h0; omega),
    ((hB.setNew (Nat.le_refl _) _).setNew (Nat.le_refl _) _).setNew (Nat.le_refl _) _⟩

set_option maxHeartbeats 2000000 in
theorem l2Of_any (g : Nat) (ao : Option Addr) (n cap : Nat) (f : Nat → Int) (t : Int) (w : World) (hn : n ≤ 1048576) (ht0 : 1 ≤ t) (ht1 : t ≤ 4) (hC : Cur w g ao n cap f) :
    Calls Try.prog 94 #[.pointer (some ⟨g, 0, none⟩), .int .i64 t, .bool true] w fun e w' => ∃ (k m : Int) (s : ByteArray), e = .returned (.agg #[.int .i64 k, .int .i64 m, .string s]) ∧ DrewV w g ao n cap f k m s w' := by
  have hg := hC.lt
  have HC : Hid (∀ a, ao = some a → 0 < n → a.block < w.heap.size) := hC.code
  have hb0 : Below w.heap.size w (w.alloc (.cells #[.int .i64 0, .int .i64 0, .string ⟨#[]⟩] 29)) := (Below.refl _ _).alloc (Nat.le_refl _) _
  have hR0 := Box.new w 0 0 ⟨#[]⟩
  have hC0 := hC.below hb0
  have hB0 : But g w (w.alloc (.cells #[.int .i64 0, .int .i64 0, .string ⟨#[]⟩] 29)) := But.ofBelow hb0
  clear hb0 hC
  go_enter Try.func94, Try.ntmps94
  go_wp2_with fail
  refine (l1Once_any g ao n cap f 4 _ hn (by omega) (by omega) hC0).mono ?_
  rintro e w1 ⟨b, rfl, hC1, hO1⟩
  have hB1 := hB0.trans (But.ofOnly hO1)
  have hR1 := hR0.but (But.ofOnly hO1) (by omega)
  clear hC0 hO1 hR0 hB0
  cases b with
  | true =>
    obtain ⟨c0, c1, c2⟩ := hR1.cells
    obtain ⟨f0, f1, f2⟩ := hR1.frozen
    have hgs := stored3 (.int .i64 0) (.int .i64 0) (.string ⟨#[]⟩) c0 c1 c2
    have HD : Hid (DrewV w g ao n cap f 0 0 ⟨#[]⟩ _) := DrewV.put (by unfold I64; omega) (by unfold I64; omega) (by decide) hC1 hB1 hg HC.out
    clear hC1 hB1 hR1
    go_wp2
    exact bodyPost_ret (v := .agg #[_, _, _]) (by simp [results, Try.results94, go_sem, hgs]) rfl ⟨0, 0, ⟨#[]⟩, rfl, HD.out⟩
  | false =>
    have hlt1 : w.heap.size < w1.heap.size := hR1.lt
    have hb2 : Below w1.heap.size w1 (w1.alloc (.cells #[.int .i64 t, .int .i64 0, .string ⟨#[]⟩] 29)) := (Below.refl _ _).alloc (Nat.le_refl _) _
    have hV2 := Box.new w1 t 0 ⟨#[]⟩
    have hR2 := hR1.below hb2
    have hC2 := hC1.below hb2
    have hB2 := hB1.trans (But.ofBelow (g := g) hb2)
    clear hb2 hC1 hB1 hR1
    obtain rfl | rfl | rfl | rfl : t = 1 ∨ t = 2 ∨ t = 3 ∨ t = 4 := by omega
    · have HL : Hid (∀ u ∈ [0, 1, 2, 3, -1, 255, 256, 2147483647, -2147483648], I64 u) := by
        intro u hu
        simp only [List.mem_cons, List.not_mem_nil, or_false] at hu
        unfold I64
        omega
      go_wp2_with fail
      refine (l1Int_of g ao n cap f [0, 1, 2, 3, -1, 255, 256, 2147483647, -2147483648] (w1.heap.size + 1) (w1.alloc (.cells #[.int .i64 1, .int .i64 0, .string ⟨#[]⟩] 29)) (by simp) hn (by simp) (by simp) HL.out hC2).mono ?_
      rintro e w3 ⟨x, rfl, hx, hC3, hB3⟩
      have HX : Hid (I64 x) := hx
      clear HL hx
      have hV3 := hV2.but hB3 (by omega)
      have hR3 := hR2.but hB3 (by omega)
      have hB4 := hB2.trans hB3
      obtain ⟨c0, c1, c2⟩ := hV3.cells
      obtain ⟨f0, f1, f2⟩ := hV3.frozen
      have hR4 := hR3.other (D := w1.heap.size) (i := 1) (by omega) (.int .i64 x)
      obtain ⟨d0, d1, d2⟩ := hR4.cells
      obtain ⟨r0, r1, r2⟩ := hR3.frozen
      obtain ⟨p0, p1, p2⟩ := hR3.cells
      have hgs := stored3 (.int .i64 1) (.int .i64 x) (.string ⟨#[]⟩) d0 d1 d2
      have HD : Hid (DrewV w g ao n cap f 1 x ⟨#[]⟩ _) := DrewV.put (by unfold I64; omega) HX.out (by decide) (hC3.setNew (B := w1.heap.size) (i := 1) (.int .i64 x) (by omega) (fun a ha h0 => by have := HC.out a ha h0; omega)) (hB4.setNew (Nat.le_of_lt hlt1) _) hg HC.out
      clear hC3 hB3 hB4 hB2 hC2 hV2 hR2 hV3 hR3 hR4
      go_wp2
      exact bodyPost_ret (v := .agg #[_, _, _]) (by simp [results, Try.results94, go_sem, hgs]) rfl ⟨1, x, ⟨#[]⟩, rfl, HD.out⟩
    · go_wp2_with fail
      refine (l1Below_any g ao n cap f 100000 (w1.alloc (.cells #[.int .i64 2, .int .i64 0, .string ⟨#[]⟩] 29)) hn (by omega) (by omega) hC2).mono ?_
      rintro e w2 ⟨y, rfl, hy0, hy1, hCy, hOy⟩
      have HL : Hid (∀ u ∈ [0, 1, -1, 255, 256, -256, -257, 65535, 1000000000000000, -1000000000000000, -y], I64 u) := by
        intro u hu
        simp only [List.mem_cons, List.not_mem_nil, or_false] at hu
        unfold I64
        omega
      have hBy : But g _ w2 := But.ofOnly hOy
      clear hOy
      go_wp2_with fail
      refine (l1Int_of g ao n cap f [0, 1, -1, 255, 256, -256, -257, 65535, 1000000000000000, -1000000000000000, -y] w2.heap.size w2 rfl hn (by simp) (by simp) HL.out hCy).mono ?_
      rintro e w3 ⟨x, rfl, hx, hC3, hB3⟩
      have HX : Hid (I64 x) := hx
      replace hB3 := hBy.trans hB3
      clear HL hx hBy hCy
      have hV3 := hV2.but hB3 (by omega)
      have hR3 := hR2.but hB3 (by omega)
      have hB4 := hB2.trans hB3
      obtain ⟨c0, c1, c2⟩ := hV3.cells
      obtain ⟨f0, f1, f2⟩ := hV3.frozen
      have hR4 := hR3.other (D := w1.heap.size) (i := 1) (by omega) (.int .i64 x)
      obtain ⟨d0, d1, d2⟩ := hR4.cells
      obtain ⟨r0, r1, r2⟩ := hR3.frozen
      obtain ⟨p0, p1, p2⟩ := hR3.cells
      have hgs := stored3 (.int .i64 2) (.int .i64 x) (.string ⟨#[]⟩) d0 d1 d2
      have HD : Hid (DrewV w g ao n cap f 2 x ⟨#[]⟩ _) := DrewV.put (by unfold I64; omega) HX.out (by decide) (hC3.setNew (B := w1.heap.size) (i := 1) (.int .i64 x) (by omega) (fun a ha h0 => by have := HC.out a ha h0; omega)) (hB4.setNew (Nat.le_of_lt hlt1) _) hg HC.out
      clear hC3 hB3 hB4 hB2 hC2 hV2 hR2 hV3 hR3 hR4
      go_wp2
      exact bodyPost_ret (v := .agg #[_, _, _]) (by simp [results, Try.results94, go_sem, hgs]) rfl ⟨2, x, ⟨#[]⟩, rfl, HD.out⟩
    · go_wp2_with fail
      refine (l2Text_any g ao n cap f (w1.alloc (.cells #[.int .i64 3, .int .i64 0, .string ⟨#[]⟩] 29)) hn hC2).mono ?_
      rintro e w3 ⟨s, rfl, hs, hC3, hB3⟩
      have hV3 := hV2.but hB3 (by omega)
      have hR3 := hR2.but hB3 (by omega)
      have hB4 := hB2.trans hB3
      obtain ⟨c0, c1, c2⟩ := hV3.cells
      obtain ⟨f0, f1, f2⟩ := hV3.frozen
      have hR4 := hR3.other (D := w1.heap.size) (i := 2) (by omega) (.string s)
      obtain ⟨d0, d1, d2⟩ := hR4.cells
      obtain ⟨r0, r1, r2⟩ := hR3.frozen
      obtain ⟨p0, p1, p2⟩ := hR3.cells
      have hgs := stored3 (.int .i64 3) (.int .i64 0) (.string s) d0 d1 d2
      have HD : Hid (DrewV w g ao n cap f 3 0 s _) := DrewV.put (by unfold I64; omega) (by unfold I64; omega) (by omega) (hC3.setNew (B := w1.heap.size) (i := 2) (.string s) (by omega) (fun a ha h0 => by have := HC.out a ha h0; omega)) (hB4.setNew (Nat.le_of_lt hlt1) _) hg HC.out
      clear hC3 hB3 hB4 hB2 hC2 hV2 hR2 hV3 hR3 hR4
      go_wp2
      exact bodyPost_ret (v := .agg #[_, _, _]) (by simp [results, Try.results94, go_sem, hgs]) rfl ⟨3, 0, s, rfl, HD.out⟩
    · go_wp2_with fail
      refine (l1Below_any g ao n cap f 2 (w1.alloc (.cells #[.int .i64 4, .int .i64 0, .string ⟨#[]⟩] 29)) hn (by omega) (by omega) hC2).mono ?_
      rintro e w3 ⟨x, rfl, hy0, hy1, hC3, hO3⟩
      have HX : Hid (I64 x) := by show I64 x; unfold I64; omega
      have hB3 : But g _ w3 := But.ofOnly hO3
      clear hO3
      have hV3 := hV2.but hB3 (by omega)
      have hR3 := hR2.but hB3 (by omega)
      have hB4 := hB2.trans hB3
      obtain ⟨c0, c1, c2⟩ := hV3.cells
      obtain ⟨f0, f1, f2⟩ := hV3.frozen
      have hR4 := hR3.other (D := w1.heap.size) (i := 1) (by omega) (.int .i64 x)
      obtain ⟨d0, d1, d2⟩ := hR4.cells
      obtain ⟨r0, r1, r2⟩ := hR3.frozen
      obtain ⟨p0, p1, p2⟩ := hR3.cells
      have hgs := stored3 (.int .i64 4) (.int .i64 x) (.string ⟨#[]⟩) d0 d1 d2
      have HD : Hid (DrewV w g ao n cap f 4 x ⟨#[]⟩ _) := DrewV.put (by unfold I64; omega) HX.out (by decide) (hC3.setNew (B := w1.heap.size) (i := 1) (.int .i64 x) (by omega) (fun a ha h0 => by have := HC.out a ha h0; omega)) (hB4.setNew (Nat.le_of_lt hlt1) _) hg HC.out
      clear hC3 hB3 hB4 hB2 hC2 hV2 hR2 hV3 hR3 hR4
      go_wp2
      exact bodyPost_ret (v := .agg #[_, _, _]) (by simp [results, Try.results94, go_sem, hgs]) rfl ⟨4, x, ⟨#[]⟩, rfl, HD.out⟩
end Go.Proofs.Ytikopeihkbpjhac

/-
  The draw of a value of a type that may not be nothing, as far as a law leans on it.
-/
namespace Go.Proofs.Ytikopeihkbpjhac
open Go.RowKit
set_option maxRecDepth 4000

set_option maxHeartbeats 2000000 in
theorem l2Of_no (g : Nat) (ao : Option Addr) (n cap : Nat) (f : Nat → Int) (t : Int) (w : World) (hn : n ≤ 1048576) (ht0 : 1 ≤ t) (ht1 : t ≤ 4) (hC : Cur w g ao n cap f) :
    Calls Try.prog 94 #[.pointer (some ⟨g, 0, none⟩), .int .i64 t, .bool false] w fun e w' => ∃ (k m : Int) (s : ByteArray), e = .returned (.agg #[.int .i64 k, .int .i64 m, .string s]) ∧ DrewV w g ao n cap f k m s w' := by
  have hg := hC.lt
  have HC : Hid (∀ a, ao = some a → 0 < n → a.block < w.heap.size) := hC.code
  have hlt1 : w.heap.size < w.heap.size + 1 := Nat.lt_succ_self _
  obtain ⟨hR2, hV2, hb2⟩ := boxes2 w t
  have hC2 := hC.below hb2
  have hB2 : But g w _ := But.ofBelow hb2
  clear hb2 hC
  obtain rfl | rfl | rfl | rfl : t = 1 ∨ t = 2 ∨ t = 3 ∨ t = 4 := by omega
  · have HL : Hid (∀ u ∈ [0, 1, 2, 3, -1, 255, 256, 2147483647, -2147483648], I64 u) := by
      intro u hu
      simp only [List.mem_cons, List.not_mem_nil, or_false] at hu
      unfold I64
      omega
    go_enter Try.func94, Try.ntmps94
    go_wp2_with fail
    refine (l1Int_of g ao n cap f [0, 1, 2, 3, -1, 255, 256, 2147483647, -2147483648] (w.heap.size + 2) ((w.alloc (.cells #[.int .i64 0, .int .i64 0, .string ⟨#[]⟩] 29)).alloc (.cells #[.int .i64 1, .int .i64 0, .string ⟨#[]⟩] 29)) (by simp) hn (by simp) (by simp) HL.out hC2).mono ?_
    rintro e w3 ⟨x, rfl, hx, hC3, hB3⟩
    have HX : Hid (I64 x) := hx
    clear HL hx
    have hV3 := hV2.but hB3 (by omega)
    have hR3 := hR2.but hB3 (by omega)
    have hB4 := hB2.trans hB3
    obtain ⟨c0, c1, c2⟩ := hV3.cells
    obtain ⟨f0, f1, f2⟩ := hV3.frozen
    have hR4 := hR3.other (D := w.heap.size + 1) (i := 1) (by omega) (.int .i64 x)
    obtain ⟨d0, d1, d2⟩ := hR4.cells
    obtain ⟨r0, r1, r2⟩ := hR3.frozen
    obtain ⟨p0, p1, p2⟩ := hR3.cells
    have hgs := stored3 (.int .i64 1) (.int .i64 x) (.string ⟨#[]⟩) d0 d1 d2
    have HD : Hid (DrewV w g ao n cap f 1 x ⟨#[]⟩ _) := DrewV.put (by unfold I64; omega) HX.out (by decide) (hC3.setNew (B := w.heap.size + 1) (i := 1) (.int .i64 x) (by omega) (fun a ha h0 => by have := HC.out a ha h0; omega)) (hB4.setNew (Nat.le_of_lt hlt1) _) hg HC.out
    clear hC3 hB3 hB4 hB2 hC2 hV2 hR2 hV3 hR3 hR4
    go_wp2
    exact bodyPost_ret (v := .agg #[_, _, _]) (by simp [results, Try.results94, go_sem, hgs]) rfl ⟨1, x, ⟨#[]⟩, rfl, HD.out⟩
  · go_enter Try.func94, Try.ntmps94
    go_wp2_with fail
    refine (l1Below_any g ao n cap f 100000 ((w.alloc (.cells #[.int .i64 0, .int .i64 0, .string ⟨#[]⟩] 29)).alloc (.cells #[.int .i64 2, .int .i64 0, .string ⟨#[]⟩] 29)) hn (by omega) (by omega) hC2).mono ?_
    rintro e w2 ⟨y, rfl, hy0, hy1, hCy, hOy⟩
    have HL : Hid (∀ u ∈ [0, 1, -1, 255, 256, -256, -257, 65535, 1000000000000000, -1000000000000000, -y], I64 u) := by
      intro u hu
      simp only [List.mem_cons, List.not_mem_nil, or_false] at hu
      unfold I64
      omega
    have hBy : But g _ w2 := But.ofOnly hOy
    clear hOy
    go_wp2_with fail
    refine (l1Int_of g ao n cap f [0, 1, -1, 255, 256, -256, -257, 65535, 1000000000000000, -1000000000000000, -y] w2.heap.size w2 rfl hn (by simp) (by simp) HL.out hCy).mono ?_
    rintro e w3 ⟨x, rfl, hx, hC3, hB3⟩
    have HX : Hid (I64 x) := hx
    replace hB3 := hBy.trans hB3
    clear HL hx hBy hCy
    have hV3 := hV2.but hB3 (by omega)
    have hR3 := hR2.but hB3 (by omega)
    have hB4 := hB2.trans hB3
    obtain ⟨c0, c1, c2⟩ := hV3.cells
    obtain ⟨f0, f1, f2⟩ := hV3.frozen
    have hR4 := hR3.other (D := w.heap.size + 1) (i := 1) (by omega) (.int .i64 x)
    obtain ⟨d0, d1, d2⟩ := hR4.cells
    obtain ⟨r0, r1, r2⟩ := hR3.frozen
    obtain ⟨p0, p1, p2⟩ := hR3.cells
    have hgs := stored3 (.int .i64 2) (.int .i64 x) (.string ⟨#[]⟩) d0 d1 d2
    have HD : Hid (DrewV w g ao n cap f 2 x ⟨#[]⟩ _) := DrewV.put (by unfold I64; omega) HX.out (by decide) (hC3.setNew (B := w.heap.size + 1) (i := 1) (.int .i64 x) (by omega) (fun a ha h0 => by have := HC.out a ha h0; omega)) (hB4.setNew (Nat.le_of_lt hlt1) _) hg HC.out
    clear hC3 hB3 hB4 hB2 hC2 hV2 hR2 hV3 hR3 hR4
    go_wp2
    exact bodyPost_ret (v := .agg #[_, _, _]) (by simp [results, Try.results94, go_sem, hgs]) rfl ⟨2, x, ⟨#[]⟩, rfl, HD.out⟩
  · go_enter Try.func94, Try.ntmps94
    go_wp2_with fail
    refine (l2Text_any g ao n cap f ((w.alloc (.cells #[.int .i64 0, .int .i64 0, .string ⟨#[]⟩] 29)).alloc (.cells #[.int .i64 3, .int .i64 0, .string ⟨#[]⟩] 29)) hn hC2).mono ?_
    rintro e w3 ⟨s, rfl, hs, hC3, hB3⟩
    have hV3 := hV2.but hB3 (by omega)
    have hR3 := hR2.but hB3 (by omega)
    have hB4 := hB2.trans hB3
    obtain ⟨c0, c1, c2⟩ := hV3.cells
    obtain ⟨f0, f1, f2⟩ := hV3.frozen
    have hR4 := hR3.other (D := w.heap.size + 1) (i := 2) (by omega) (.string s)
    obtain ⟨d0, d1, d2⟩ := hR4.cells
    obtain ⟨r0, r1, r2⟩ := hR3.frozen
    obtain ⟨p0, p1, p2⟩ := hR3.cells
    have hgs := stored3 (.int .i64 3) (.int .i64 0) (.string s) d0 d1 d2
    have HD : Hid (DrewV w g ao n cap f 3 0 s _) := DrewV.put (by unfold I64; omega) (by unfold I64; omega) (by omega) (hC3.setNew (B := w.heap.size + 1) (i := 2) (.string s) (by omega) (fun a ha h0 => by have := HC.out a ha h0; omega)) (hB4.setNew (Nat.le_of_lt hlt1) _) hg HC.out
    clear hC3 hB3 hB4 hB2 hC2 hV2 hR2 hV3 hR3 hR4
    go_wp2
    exact bodyPost_ret (v := .agg #[_, _, _]) (by simp [results, Try.results94, go_sem, hgs]) rfl ⟨3, 0, s, rfl, HD.out⟩
  · go_enter Try.func94, Try.ntmps94
    go_wp2_with fail
    refine (l1Below_any g ao n cap f 2 ((w.alloc (.cells #[.int .i64 0, .int .i64 0, .string ⟨#[]⟩] 29)).alloc (.cells #[.int .i64 4, .int .i64 0, .string ⟨#[]⟩] 29)) hn (by omega) (by omega) hC2).mono ?_
    rintro e w3 ⟨x, rfl, hy0, hy1, hC3, hO3⟩
    have HX : Hid (I64 x) := by show I64 x; unfold I64; omega
    have hB3 : But g _ w3 := But.ofOnly hO3
    clear hO3
    have hV3 := hV2.but hB3 (by omega)
    have hR3 := hR2.but hB3 (by omega)
    have hB4 := hB2.trans hB3
    obtain ⟨c0, c1, c2⟩ := hV3.cells
    obtain ⟨f0, f1, f2⟩ := hV3.frozen
    have hR4 := hR3.other (D := w.heap.size + 1) (i := 1) (by omega) (.int .i64 x)
    obtain ⟨d0, d1, d2⟩ := hR4.cells
    obtain ⟨r0, r1, r2⟩ := hR3.frozen
    obtain ⟨p0, p1, p2⟩ := hR3.cells
    have hgs := stored3 (.int .i64 4) (.int .i64 x) (.string ⟨#[]⟩) d0 d1 d2
    have HD : Hid (DrewV w g ao n cap f 4 x ⟨#[]⟩ _) := DrewV.put (by unfold I64; omega) HX.out (by decide) (hC3.setNew (B := w.heap.size + 1) (i := 1) (.int .i64 x) (by omega) (fun a ha h0 => by have := HC.out a ha h0; omega)) (hB4.setNew (Nat.le_of_lt hlt1) _) hg HC.out
    clear hC3 hB3 hB4 hB2 hC2 hV2 hR2 hV3 hR3 hR4
    go_wp2
    exact bodyPost_ret (v := .agg #[_, _, _]) (by simp [results, Try.results94, go_sem, hgs]) rfl ⟨4, x, ⟨#[]⟩, rfl, HD.out⟩
end Go.Proofs.Ytikopeihkbpjhac

/-
  A number's digits, plainly: what is read of them is the number, and only these digits are read as it (no needless nought, no sign ahead of nought).
-/
namespace Go.Proofs.Ytikopeihkbpjhac
open Go.Lib

theorem decFrom_snoc : ∀ (l : List UInt8) (acc n : Nat) (b : UInt8) (d : Nat), decFrom acc l = some n → digitVal b = some d → decFrom acc (l ++ [b]) = some (n * 10 + d)
  | [], acc, n, b, d, h, hd => by simp only [decFrom, Option.some.injEq] at h; subst h; simp [decFrom, hd]
  | c :: r, acc, n, b, d, h, hd => by
    simp only [decFrom, List.cons_append] at h ⊢
    split at h
    · exact decFrom_snoc r _ n b d h hd
    · cases h

theorem digitVal_of {d : Nat} (h : d < 10) : digitVal (UInt8.ofNat (48 + d)) = some d := by
  unfold digitVal
  have e : (UInt8.ofNat (48 + d)).toNat = 48 + d := by
    rw [UInt8.toNat_ofNat']
    omega
  rw [e, if_pos (by omega)]
  congr 1
  omega

theorem decDigits_ne (u : Nat) : decDigits u ≠ [] := by
  rw [decDigits]
  split <;> simp

theorem decFrom_digits : ∀ (u : Nat), decFrom 0 (decDigits u) = some u := by
  intro u
  induction u using Nat.strongRecOn with
  | _ u ih =>
    rw [decDigits]
    split
    · rename_i h
      simp only [decFrom, digitVal_of h, Nat.zero_mul, Nat.zero_add]
    · rename_i h
      rw [decFrom_snoc _ 0 (u / 10) _ (u % 10) (ih _ (by omega)) (digitVal_of (by omega))]
      congr 1
      omega

theorem decNat_digits (u : Nat) : decNat (decDigits u) = some u := by
  unfold decNat
  rw [if_neg (by simp [decDigits_ne]), decFrom_digits]

/-- A digit's byte. -/
def isDig (b : UInt8) : Prop := 48 ≤ b.toNat ∧ b.toNat ≤ 57

theorem digits_dig : ∀ (u : Nat), ∀ b ∈ decDigits u, isDig b := by
  intro u
  induction u using Nat.strongRecOn with
  | _ u ih =>
    intro b hb
    rw [decDigits] at hb
    split at hb
    · rename_i h
      simp only [List.mem_singleton] at hb
      subst hb
      unfold isDig
      rw [UInt8.toNat_ofNat']
      omega
    · rename_i h
      rw [List.mem_append] at hb
      rcases hb with hb | hb
      · exact ih _ (by omega) b hb
      · simp only [List.mem_singleton] at hb
        subst hb
        unfold isDig
        rw [UInt8.toNat_ofNat']
        omega

theorem digits_head (u : Nat) : ∃ c r, decDigits u = c :: r ∧ isDig c := by
  cases h : decDigits u with
  | nil => exact absurd h (decDigits_ne u)
  | cons c r => exact ⟨c, r, rfl, digits_dig u c (by rw [h]; simp)⟩

theorem digits_inj {u v : Nat} (h : decDigits u = decDigits v) : u = v := by
  have := decFrom_digits u
  rw [h, decFrom_digits v] at this
  exact (Option.some.inj this).symm

theorem itoa_pos {n : Int} (h : 0 ≤ n) : itoa n = decDigits n.toNat := by unfold itoa; rw [if_neg (by omega)]
theorem itoa_min {n : Int} (h : n < 0) : itoa n = 45 :: decDigits n.natAbs := by unfold itoa; rw [if_pos h]

theorem itoa_inj {m n : Int} (h : itoa m = itoa n) : m = n := by
  by_cases hm : m < 0
  · by_cases hn : n < 0
    · rw [itoa_min hm, itoa_min hn] at h
      have := digits_inj (List.cons.inj h).2
      omega
    · rw [itoa_min hm, itoa_pos (by omega)] at h
      obtain ⟨c, r, e, hc⟩ := digits_head n.toNat
      rw [e] at h
      have := (List.cons.inj h).1
      subst this
      exact absurd hc.1 (by decide)
  · by_cases hn : n < 0
    · rw [itoa_pos (by omega), itoa_min hn] at h
      obtain ⟨c, r, e, hc⟩ := digits_head m.toNat
      rw [e] at h
      have := (List.cons.inj h).1
      subst this
      exact absurd hc.1 (by decide)
    · rw [itoa_pos (by omega), itoa_pos (by omega)] at h
      have := digits_inj h
      omega

theorem nDigits_le : ∀ (k u : Nat), u < 10 ^ (k + 1) → nDigits u ≤ k + 1
  | 0, u, h => by rw [nDigits_small (by simpa using h)]; omega
  | k + 1, u, h => by
    by_cases h10 : u < 10
    · rw [nDigits_small h10]; omega
    · rw [nDigits_big h10]
      have := nDigits_le k (u / 10) (by rw [Nat.pow_succ] at h; omega)
      omega

theorem digits_len {u : Nat} (h : u < 10000000000000000) : (decDigits u).length ≤ 16 := by
  rw [decDigits_length]
  exact nDigits_le 15 u h

theorem atoi_itoa (n : Int) : atoi (itoa n) = some n := by
  by_cases hn : n < 0
  · rw [itoa_min hn]
    simp only [atoi, beq_self_eq_true, ↓reduceIte, decNat_digits, Option.map_some, Option.some.injEq]
    omega
  · rw [itoa_pos (by omega)]
    obtain ⟨c, r, e, hc⟩ := digits_head n.toNat
    have h1 : (c == 45) = false := by
      rw [beq_eq_false_iff_ne]; rintro rfl; exact absurd hc.1 (by decide)
    have h2 : (c == 43) = false := by
      rw [beq_eq_false_iff_ne]; rintro rfl; exact absurd hc.1 (by decide)
    have h3 : decNat (c :: r) = some n.toNat := by rw [← e]; exact decNat_digits _
    rw [e]
    simp only [atoi, h1, h2, Bool.false_eq_true, ↓reduceIte, h3, Option.map_some, Option.some.injEq]
    omega

/-- strconv.Atoi reads a number's own digits as the number. -/
theorem atoiAll_itoa {n : Int} (h0 : -10000000000000000 < n) (h1 : n < 10000000000000000) : atoiAll (itoa n) = .ok n := by
  rw [atoiAll_short _ (by
    by_cases hn : n < 0
    · rw [itoa_min hn, List.length_cons]
      have := digits_len (u := n.natAbs) (by omega)
      omega
    · rw [itoa_pos (by omega)]
      have := digits_len (u := n.toNat) (by omega)
      omega), atoi_itoa]
  rfl

/-! What the model reads. -/

/-- Digits without a needless nought. -/
theorem decFrom_lead : ∀ (l : List UInt8) (acc n : Nat), acc ≠ 0 → decFrom acc l = some n → decDigits n = decDigits acc ++ l ∧ acc ≤ n
  | [], acc, n, _, h => by simp only [decFrom, Option.some.injEq] at h; subst h; simp
  | b :: r, acc, n, h0, h => by
    simp only [decFrom] at h
    cases hd : digitVal b with
    | none => rw [hd] at h; cases h
    | some d =>
      rw [hd] at h
      have hb : isDig b ∧ d = b.toNat - 48 := by
        unfold digitVal at hd
        split at hd
        · rename_i h; exact ⟨h, (Option.some.inj hd).symm⟩
        · cases hd
      obtain ⟨hb, rfl⟩ := hb
      have hlt : b.toNat - 48 < 10 := by have := hb.2; omega
      obtain ⟨e, hle⟩ := decFrom_lead r _ n (by omega) h
      refine ⟨?_, by omega⟩
      rw [e]
      have e2 : decDigits (acc * 10 + (b.toNat - 48)) = decDigits acc ++ [b] := by
        rw [decDigits, dif_neg (by omega)]
        have e3 : (acc * 10 + (b.toNat - 48)) / 10 = acc := by omega
        have e4 : (acc * 10 + (b.toNat - 48)) % 10 = b.toNat - 48 := by omega
        have e5 : UInt8.ofNat (48 + (b.toNat - 48)) = b := by
          have := hb.1
          rw [show 48 + (b.toNat - 48) = b.toNat by omega]
          exact UInt8.ofNat_toNat
        rw [e3, e4, e5]
      rw [e2]
      simp

/-- A row of digits, of which the first is a nought only where it is the only one, is its number's own. -/
theorem decNat_own {c : UInt8} {r : List UInt8} {n : Nat} (h : decNat (c :: r) = some n) (h0 : c = 48 → r = []) : decDigits n = c :: r := by
  simp only [decNat, List.isEmpty_cons, Bool.false_eq_true, ↓reduceIte, decFrom] at h
  cases hd : digitVal c with
  | none => rw [hd] at h; cases h
  | some d =>
    rw [hd] at h
    simp only [Nat.zero_mul, Nat.zero_add] at h
    have hb : isDig c ∧ d = c.toNat - 48 := by
      unfold digitVal at hd
      split at hd
      · rename_i h; exact ⟨h, (Option.some.inj hd).symm⟩
      · cases hd
    obtain ⟨hb, rfl⟩ := hb
    have h5 : UInt8.ofNat (48 + (c.toNat - 48)) = c := by
      have := hb.1
      rw [show 48 + (c.toNat - 48) = c.toNat by omega]
      exact UInt8.ofNat_toNat
    by_cases hz : c.toNat - 48 = 0
    · have hc : c = 48 := by
        apply UInt8.toNat_inj.1
        have := hb.1
        show c.toNat = 48
        omega
      rw [h0 hc] at h ⊢
      simp only [decFrom, Option.some.injEq] at h
      subst h
      rw [decDigits, dif_pos (by have := hb.2; omega), h5]
    · obtain ⟨e, _⟩ := decFrom_lead r _ n hz h
      rw [e, decDigits, dif_pos (by have := hb.2; omega), h5]
      rfl

end Go.Proofs.Ytikopeihkbpjhac

/-
  Values, plainly: which are sound, their texts, and that a text has one value.
-/
namespace Go.Proofs.Ytikopeihkbpjhac
open Go.Lib

/-- A value within: a type for each kind. -/
inductive V where
  | null
  | int (n : Int)
  | num (n : Int)
  | text (s : ByteArray)
  | bool (b : Bool)

def noBytes : ByteArray := ⟨#[]⟩

def V.k : V → Int
  | .null => 0 | .int _ => 1 | .num _ => 2 | .text _ => 3 | .bool _ => 4
def V.n : V → Int
  | .int n => n | .num n => n | .bool b => (if b then 1 else 0) | _ => 0
def V.s : V → ByteArray
  | .text s => s | _ => noBytes
def V.rng : V → Bool
  | .int n => decide (-2147483648 ≤ n) && decide (n ≤ 2147483647)
  | .num n => decide (-1000000000000000 ≤ n) && decide (n ≤ 1000000000000000)
  | .text s => decide (s.size ≤ 30)
  | _ => true

/-- A byte that may be seen on a line, and is no quote. -/
def seenB (c : UInt8) : Bool := decide (32 ≤ c.toNat) && decide (c.toNat ≤ 126) && decide (c.toNat ≠ 39)
def plainL (l : List UInt8) : Bool := l.all seenB

def quotedL (s : ByteArray) : List UInt8 := if plainL s.data.toList then 39 :: (s.data.toList ++ [39]) else []
def V.txt : V → List UInt8
  | .null => [110, 117, 108, 108]
  | .int n => 105 :: itoa n
  | .num n => 110 :: itoa n
  | .text s => quotedL s
  | .bool b => if b then [121, 101, 115] else [110, 111]

def bytesOf (l : List UInt8) : ByteArray := ⟨l.toArray⟩

/-- The value of three fields, by the first. -/
def ofFields (k n : Int) (s : ByteArray) : Option V :=
  if k = 0 then some .null else if k = 1 then some (.int n) else if k = 2 then some (.num n) else if k = 3 then some (.text s) else if k = 4 then some (.bool (n != 0)) else none

/-- Sound: what the kind does not name is nothing, and what it names is in its range. -/
def okF (k n : Int) (s : ByteArray) : Bool :=
  match ofFields k n s with
  | none => false
  | some v => v.rng && (decide (v.k = k) && decide (v.n = n) && decide (v.s = s))

def textF (k n : Int) (s : ByteArray) : List UInt8 :=
  if okF k n s then match ofFields k n s with
    | none => []
    | some v => v.txt
  else []

theorem ofFields_v (v : V) : ofFields v.k v.n v.s = some v := by
  cases v with
  | bool b => cases b <;> simp [ofFields, V.k, V.n]
  | _ => simp [ofFields, V.k, V.n, V.s]

theorem okF_v (v : V) : okF v.k v.n v.s = v.rng := by
  unfold okF
  rw [ofFields_v]
  simp

theorem okF_iff {k n : Int} {s : ByteArray} : okF k n s = true ↔ ∃ v : V, v.rng = true ∧ v.k = k ∧ v.n = n ∧ v.s = s := by
  constructor
  · intro h
    unfold okF at h
    split at h
    · cases h
    · rename_i v _
      simp only [Bool.and_eq_true, decide_eq_true_eq] at h
      exact ⟨v, h.1, h.2.1.1, h.2.1.2, h.2.2⟩
  · rintro ⟨v, h, rfl, rfl, rfl⟩
    rw [okF_v, h]

theorem textF_v {v : V} (h : v.rng = true) : textF v.k v.n v.s = v.txt := by
  unfold textF
  rw [okF_v, h, ofFields_v]
  rfl

theorem V.ext {v u : V} (h1 : v.k = u.k) (h2 : v.n = u.n) (h3 : v.s = u.s) : v = u := by
  have := ofFields_v v
  rw [h1, h2, h3, ofFields_v] at this
  exact (Option.some.inj this).symm

/-! A text has one value. -/

theorem itoa_head (n : Int) : ∃ c r, itoa n = c :: r ∧ (c = 45 ∨ isDig c) := by
  by_cases h : n < 0
  · exact ⟨45, _, itoa_min h, .inl rfl⟩
  · obtain ⟨c, r, e, hc⟩ := digits_head n.toNat
    exact ⟨c, r, by rw [itoa_pos (by omega), e], .inr hc⟩

theorem itoa_not {n : Int} {c : UInt8} {r : List UInt8} (h : itoa n = c :: r) (h1 : c ≠ 45) (h2 : ¬ isDig c) : False := by
  obtain ⟨c', r', e, hc⟩ := itoa_head n
  rw [e] at h
  obtain ⟨rfl, -⟩ := List.cons.inj h
  rcases hc with hc | hc
  · exact h1 hc
  · exact h2 hc

theorem txt_inj {v u : V} (h : v.txt = u.txt) (hne : v.txt ≠ []) : v = u := by
  have hq : ∀ s, quotedL s ≠ [] → plainL s.data.toList = true ∧ quotedL s = 39 :: (s.data.toList ++ [39]) := by
    intro s hs
    unfold quotedL at hs ⊢
    by_cases hp : plainL s.data.toList = true
    · rw [if_pos hp]; exact ⟨hp, rfl⟩
    · rw [if_neg hp] at hs; exact absurd rfl hs
  have hdig : ¬ isDig 117 := by unfold isDig; decide
  have hdig2 : ¬ isDig 111 := by unfold isDig; decide
  cases v <;> cases u <;> simp only [V.txt] at h hne <;> first
    | rfl
    | (rename_i a b; have := itoa_inj (List.cons.inj h).2; subst this; rfl)
    | (rename_i a b; cases a <;> cases b <;> first | rfl | (exfalso; revert h; decide))
    | (exfalso; rename_i b; cases b <;> revert h <;> decide)
    | (exfalso; exact absurd (List.cons.inj h).1 (by decide))
    | (exfalso; exact itoa_not (List.cons.inj h).2.symm (by decide) hdig)
    | (exfalso; exact itoa_not (List.cons.inj h).2 (by decide) hdig)
    | (exfalso; revert h; split
       · intro h; exact absurd (List.cons.inj h).1 (by decide)
       · intro h; first | exact absurd (List.cons.inj h).1 (by decide) | exact itoa_not (List.cons.inj h).2 (by decide) hdig2 | exact itoa_not (List.cons.inj h).2.symm (by decide) hdig2)
    | (exfalso; rw [(hq _ hne).2] at h; revert h; split <;> (intro h; exact absurd (List.cons.inj h).1 (by decide)))
    | (exfalso; rw [(hq _ (by rw [← h]; exact hne)).2] at h; revert h; split <;> (intro h; exact absurd (List.cons.inj h).1 (by decide)))
    | (exfalso; rw [(hq _ hne).2] at h; exact absurd (List.cons.inj h).1 (by decide))
    | (exfalso; rw [(hq _ (by rw [← h]; exact hne)).2] at h; exact absurd (List.cons.inj h).1 (by decide))
    | skip
  rename_i s t
  have h2 := hq _ hne
  rw [h] at hne
  have h3 := hq _ hne
  rw [h2.2, h3.2] at h
  have := List.append_cancel_right (List.cons.inj h).2
  have e : s = t := by
    obtain ⟨⟨s⟩⟩ := s
    obtain ⟨⟨t⟩⟩ := t
    simp only at this
    rw [this]
  rw [e]

theorem textF_inj {k n : Int} {s : ByteArray} {k' n' : Int} {s' : ByteArray} (h : okF k n s = true) (h' : okF k' n' s' = true) (e : textF k n s = textF k' n' s') (hne : textF k n s ≠ []) : k = k' ∧ n = n' ∧ s = s' := by
  obtain ⟨v, hv, rfl, rfl, rfl⟩ := okF_iff.1 h
  obtain ⟨u, hu, rfl, rfl, rfl⟩ := okF_iff.1 h'
  rw [textF_v hv] at e hne
  rw [textF_v hu] at e
  obtain rfl := txt_inj e hne
  exact ⟨rfl, rfl, rfl⟩

/-- What is read of a text: the one value that has it; or nothing. -/
def Parsed (l : List UInt8) (k n : Int) (s : ByteArray) (b : Bool) : Prop :=
  (b = true ∧ okF k n s = true ∧ textF k n s = l ∧ l ≠ []) ∨ (b = false ∧ k = 0 ∧ n = 0 ∧ s = noBytes ∧ ∀ v : V, v.rng = true → v.txt = l → l = [])

theorem Parsed.unique {l : List UInt8} {k n k' n' : Int} {s s' : ByteArray} {b b' : Bool} (h : Parsed l k n s b) (h' : Parsed l k' n' s' b') : k = k' ∧ n = n' ∧ s = s' ∧ b = b' := by
  rcases h with ⟨rfl, h1, h2, h3⟩ | ⟨rfl, rfl, rfl, rfl, h⟩ <;> rcases h' with ⟨rfl, g1, g2, g3⟩ | ⟨rfl, rfl, rfl, rfl, g⟩
  · obtain ⟨a, b, c⟩ := textF_inj h1 g1 (h2.trans g2.symm) (by rw [h2]; exact h3)
    exact ⟨a, b, c, rfl⟩
  · exfalso
    obtain ⟨v, hv, rfl, rfl, rfl⟩ := okF_iff.1 h1
    rw [textF_v hv] at h2
    exact h3 (g v hv h2)
  · exfalso
    obtain ⟨v, hv, rfl, rfl, rfl⟩ := okF_iff.1 g1
    rw [textF_v hv] at g2
    exact g3 (h v hv g2)
  · exact ⟨rfl, rfl, rfl, rfl⟩

theorem Parsed.some {v : V} (hv : v.rng = true) (h : v.txt ≠ []) : Parsed v.txt v.k v.n v.s true :=
  .inl ⟨rfl, by rw [okF_v, hv], textF_v hv, h⟩

theorem Parsed.none {l : List UInt8} (h : ∀ v : V, v.rng = true → v.txt = l → l = []) : Parsed l 0 0 noBytes false :=
  .inr ⟨rfl, rfl, rfl, rfl, h⟩

theorem Parsed.exists (l : List UInt8) : ∃ k n s b, Parsed l k n s b := by
  by_cases h : ∃ v : V, v.rng = true ∧ v.txt = l ∧ l ≠ []
  · obtain ⟨v, hv, rfl, hne⟩ := h
    exact ⟨_, _, _, _, Parsed.some hv hne⟩
  · refine ⟨0, 0, noBytes, false, Parsed.none fun v hv e => ?_⟩
    by_cases hl : l = []
    · exact hl
    · exact absurd ⟨v, hv, e, hl⟩ h

end Go.Proofs.Ytikopeihkbpjhac

/-
  A text's bytes as numbers; what is put of a text.
-/
namespace Go.Proofs.Ytikopeihkbpjhac
open Go.RowKit
set_option maxRecDepth 4000

/-- A text's bytes as numbers. -/
def sl (s : ByteArray) : List Int := s.data.toList.map (fun b => (b.toNat : Int))
theorem sl_len (s : ByteArray) : (sl s).length = s.size := by unfold sl; rw [List.length_map, Array.length_toList]; rfl
theorem sl_byte (s : ByteArray) : ∀ y ∈ sl s, 0 ≤ y ∧ y ≤ 255 := by
  intro y hy
  simp only [sl, List.mem_map] at hy
  obtain ⟨b, _, rfl⟩ := hy
  have := b.toNat_lt
  omega
theorem sl_cells (s : ByteArray) : Lib.strCells s = bl (sl s) := by simp [Lib.strCells, bl, sl]

/-- What is put: the bytes, the count's groups, the text. -/
def textL (n : Nat) (f : Nat → Int) (s : ByteArray) : List Int := lof n f ++ groups (clampN s.size) ++ sl s
theorem textL_len (n : Nat) (f : Nat → Int) (s : ByteArray) : (textL n f s).length = n + (groups (clampN s.size)).length + s.size := by
  unfold textL; rw [List.length_append, List.length_append, lof_len, sl_len]

end Go.Proofs.Ytikopeihkbpjhac

