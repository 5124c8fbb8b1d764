/-
  Together: Base, Plain, PutPlain, DiskView, Info, DiskOwn, SettlePlain, LosePlain, LosePlainS, EqBytes
-/
import Derived.WalkKit
import Derived.Deep.OwnRows
import Derived.Deep.LoopGhost
import Derived.OpenShut
import Derived.Laws.BitsAllLaws
import Derived.Laws.Bits128
import Derived.Test.YteojgajpokkgiaaChecked
/-
  What a walk over bytes is told of a slice of bytes that it reads ('View'), and how that is carried from one world to the next. No program text is named here.
-/
namespace Go.Proofs.Yteojgajpokkgiaa
open Go.RowKit
set_option maxRecDepth 4000

/-- The slice value '.slice ao n cap' reads, in the world w, as the n bytes f 0 up to f (n - 1). -/
structure View (w : World) (ao : Option Addr) (n cap : Nat) (f : Nat → Int) : Prop where
  le : n ≤ cap
  byte : ∀ i, i < n → 0 ≤ f i ∧ f i ≤ 255
  cells : 0 < n → ∃ b off, ao = some ⟨b, off, none⟩ ∧ b < w.heap.size ∧ ∀ i, i < n → w.cell? ⟨b, off + i, none⟩ = some (.int .u8 (f i))

/-- What was there reads as it did. -/
theorem View.below {w w' : World} {ao : Option Addr} {n cap : Nat} {f : Nat → Int} (h : View w ao n cap f) (hb : Below w.heap.size w w') : View w' ao n cap f := by
  refine ⟨h.le, h.byte, fun hn => ?_⟩
  obtain ⟨b, off, e, hlt, hc⟩ := h.cells hn
  exact ⟨b, off, e, Nat.lt_of_lt_of_le hlt hb.size, fun i hi => by rw [hb.cell (p := ⟨b, off + i, none⟩) hlt]; exact hc i hi⟩

theorem View.drew {w : World} {ao : Option Addr} {n cap : Nat} {f : Nat → Int} (h : View w ao n cap f) : View w.drew ao n cap f := h.below (Below.refl _ _).drew

theorem View.take {w : World} {ao : Option Addr} {n cap m : Nat} {f : Nat → Int} (h : View w ao n cap f) (hm : m ≤ n) : View w ao m cap f := by
  refine ⟨Nat.le_trans hm h.le, fun i hi => h.byte i (by omega), fun h0 => ?_⟩
  obtain ⟨b, off, e, hb, hc⟩ := h.cells (by omega)
  exact ⟨b, off, e, hb, fun i hi => hc i (by omega)⟩

theorem View.congr {w : World} {ao : Option Addr} {n cap : Nat} {f g : Nat → Int} (h : View w ao n cap f) (e : ∀ i, i < n → f i = g i) : View w ao n cap g := by
  refine ⟨h.le, fun i hi => by rw [← e i hi]; exact h.byte i hi, fun hn => ?_⟩
  obtain ⟨b, off, ea, hlt, hc⟩ := h.cells hn
  exact ⟨b, off, ea, hlt, fun i hi => by rw [← e i hi]; exact hc i hi⟩

/-- What the frame of a row hands over of a slice of bytes that came in, as a view. -/
theorem View.ofIn {w : World} {a : Option Addr} {len cap : Nat} {zs : List Int}
    (h : (a = none ∧ len = 0 ∧ cap = 0 ∧ zs = []) ∨ ∃ x, a = some x ∧ len ≤ cap ∧ cap ≤ maxLen ∧ zs.length = cap ∧ (∀ i, i < zs.length → w.cell? (x.add i) = some (.int .u8 (zs.getD i 0))) ∧ ∀ n ∈ zs, (Lit.int .u8 n).wf = true) :
    View w a len cap (fun i => zs.getD i 0) := by
  rcases h with ⟨rfl, rfl, rfl, rfl⟩ | ⟨x, rfl, hl, _, hz, hc, hw⟩
  · exact ⟨Nat.le_refl _, fun i hi => absurd hi (Nat.not_lt_zero _), fun h => absurd h (Nat.lt_irrefl _)⟩
  · refine ⟨hl, fun i _ => by simpa using range_u8 hw i, fun hn => ?_⟩
    obtain ⟨b, off, spot⟩ := x
    have h0 := hc 0 (by omega)
    have hs : spot = none := by simpa [Addr.add] using World.cell?_spot h0
    subst hs
    refine ⟨b, off, rfl, ?_, fun i hi => ?_⟩
    · exact World.block_lt_of_cell? _ _ h0
    · have h1 := hc i (by omega)
      have e : (⟨b, off, none⟩ : Addr).add i = ⟨b, off + i, none⟩ := by unfold Addr.add; split <;> simp_all
      rw [e] at h1
      exact h1

theorem lenOfIn {w : World} {a : Option Addr} {len cap : Nat} {zs : List Int}
    (h : (a = none ∧ len = 0 ∧ cap = 0 ∧ zs = []) ∨ ∃ x, a = some x ∧ len ≤ cap ∧ cap ≤ maxLen ∧ zs.length = cap ∧ (∀ i, i < zs.length → w.cell? (x.add i) = some (.int .u8 (zs.getD i 0))) ∧ ∀ n ∈ zs, (Lit.int .u8 n).wf = true) : len ≤ 9223372036854775807 := by
  rcases h with ⟨_, rfl, _, _⟩ | ⟨_, _, h1, h2, _⟩
  · exact Nat.zero_le _
  · unfold maxLen at h2; omega

/-- A row of the call's own reads as what it holds. -/
theorem View.ofRow {w : World} {b : Nat} {t : TypeId} {m n cap : Nat} {f : Nat → Int} (h : w.rowIs b t m (fun i => .int .u8 (f i))) (hn : n ≤ m) (hc : n ≤ cap) (hb : ∀ i, i < n → 0 ≤ f i ∧ f i ≤ 255) : View w (some ⟨b, 0, none⟩) n cap f :=
  ⟨hc, hb, fun _ => ⟨b, 0, rfl, h.lt, fun i hi => by rw [Nat.zero_add]; exact h.cell (by omega)⟩⟩

theorem rowBelow {w w' : World} {b : Nat} {t : TypeId} {n : Nat} {f : Nat → Value} {B : Nat} (h : w.rowIs b t n f) (hb : Below B w w') (hlt : b < B) : w'.rowIs b t n f := h.of_block (hb.block b hlt)

/-- Block b is a row of bytes of the call's own, none frozen, whose first n are f 0 up to f (n - 1) (t: the number of the bytes' type). -/
def Row (t : TypeId) (w : World) (b n : Nat) (f : Nat → Int) : Prop :=
  ∃ c : Array Value, w.heap[b]? = some (.cells c t (0, 0)) ∧ n ≤ c.size ∧ ∀ i, i < n → c[i]? = some (.int .u8 (f i))

namespace Row
variable {t : TypeId} {w w' : World} {b n : Nat} {f g : Nat → Int}
theorem cell (h : Row t w b n f) {i : Nat} (hi : i < n) : w.cell? ⟨b, i, none⟩ = some (.int .u8 (f i)) := by
  obtain ⟨c, hb, _, hc⟩ := h
  simp [World.cell?, hb, hc i hi]
theorem frozen (h : Row t w b n f) (i : Nat) : w.frozen? ⟨b, i, none⟩ = false := by
  obtain ⟨c, hb, _, _⟩ := h
  simp [World.frozen?, hb]
theorem lt (h : Row t w b n f) : b < w.heap.size := by
  obtain ⟨c, hb, _, _⟩ := h
  exact (Array.getElem?_eq_some_iff.1 hb).1
theorem congr (h : Row t w b n f) (e : ∀ i, i < n → f i = g i) : Row t w b n g := by
  obtain ⟨c, hb, hn, hc⟩ := h
  exact ⟨c, hb, hn, fun i hi => by rw [hc i hi, e i hi]⟩
theorem of_block (h : Row t w b n f) (e : w'.heap[b]? = w.heap[b]?) : Row t w' b n f := by
  obtain ⟨c, hb, hn, hc⟩ := h
  exact ⟨c, e.trans hb, hn, hc⟩
theorem below {B : Nat} (h : Row t w b n f) (hb : Below B w w') (hlt : b < B) : Row t w' b n f := h.of_block (hb.block b hlt)
theorem belowAll (h : Row t w b n f) (hb : Below w.heap.size w w') : Row t w' b n f := h.below hb h.lt
theorem ofIs (h : w.rowIs b t n (fun i => .int .u8 (f i))) : Row t w b n f := by
  obtain ⟨c, hb, hn, hc⟩ := h
  exact ⟨c, hb, by omega, hc⟩
theorem set (h : Row t w b n f) (i : Nat) (x : Int) : Row t (w.setCell ⟨b, i, none⟩ (.int .u8 x)) b n (fun j => if j = i then x else f j) := by
  obtain ⟨c, hb, hn, hc⟩ := h
  refine ⟨c.setIfInBounds i (.int .u8 x), ?_, by simpa using hn, fun j hj => ?_⟩
  · simp [World.setCell, Array.getElem?_modify, hb]
  · rw [Array.getElem?_setIfInBounds]
    by_cases e : j = i
    · subst e
      have : j < c.size := by omega
      simp [this]
    · rw [if_neg (fun h => e h.symm)]
      show c[j]? = some (.int .u8 (if j = i then x else f j))
      rw [if_neg e]
      exact hc j hj
theorem view {cap : Nat} (h : Row t w b n f) (hc : n ≤ cap) (hb : ∀ i, i < n → 0 ≤ f i ∧ f i ≤ 255) : View w (some ⟨b, 0, none⟩) n cap f :=
  ⟨hc, hb, fun _ => ⟨b, 0, rfl, h.lt, fun i hi => by rw [Nat.zero_add]; exact h.cell hi⟩⟩
end Row

/-- Block b alone may have turned; no block has come or gone. -/
structure Only (b : Nat) (w w' : World) : Prop where
  os : w'.os = w.os
  tape : w'.tape = w.tape
  output : w'.output = w.output
  size : w'.heap.size = w.heap.size
  block : ∀ k, k ≠ b → w'.heap[k]? = w.heap[k]?

theorem Only.refl (b : Nat) (w : World) : Only b w w := ⟨rfl, rfl, rfl, rfl, fun _ _ => rfl⟩
theorem Only.drew {b : Nat} {w w' : World} (h : Only b w w') : Only b w w'.drew := ⟨h.os, h.tape, h.output, h.size, h.block⟩
theorem Only.setCell {b i : Nat} {w w' : World} (h : Only b w w') (u : Value) : Only b w (w'.setCell ⟨b, i, none⟩ u) :=
  ⟨h.os, h.tape, h.output, by simpa using h.size, fun k hk => by rw [Below.heap_setCell _ _ _ _ (by exact hk)]; exact h.block k hk⟩
theorem Only.below {b B : Nat} {w w' : World} (h : Only b w w') (hB : B ≤ b) : Below B w w' :=
  ⟨h.os, h.tape, h.output, by rw [h.size]; exact Nat.le_refl _, fun k hk => h.block k (by omega)⟩
theorem Only.row {t : TypeId} {b b' n : Nat} {f : Nat → Int} {w w' : World} (h : Only b w w') (hr : Row t w b' n f) (hne : b' ≠ b) : Row t w' b' n f := hr.of_block (h.block b' hne)
theorem Only.view {b : Nat} {ao : Option Addr} {n cap : Nat} {f : Nat → Int} {w w' : World} (h : Only b w w') (hv : View w ao n cap f) (hne : ∀ a, ao = some a → a.block ≠ b) : View w' ao n cap f := by
  refine ⟨hv.le, hv.byte, fun hn => ?_⟩
  obtain ⟨b', off, e, hlt, hc⟩ := hv.cells hn
  refine ⟨b', off, e, by rw [h.size]; exact hlt, fun i hi => ?_⟩
  rw [World.cell?_of_block (w := w) (h.block b' (hne _ e))]
  exact hc i hi

end Go.Proofs.Yteojgajpokkgiaa

/-
  Plain facts on numbers: and, or, exclusive or of two numbers that are not negative, as Go's int has them. No program text is named here.
-/
namespace Go.Proofs.Yteojgajpokkgiaa
open Go.RowKit
set_option maxRecDepth 4000

theorem wrapNat63 (n : Nat) (h : n < 9223372036854775808) : IntKind.i64.wrap (n : Int) = (n : Int) := by
  rw [IntKind.wrap_i64]; omega

theorem i64_xor_nat (a b : Nat) (ha : a < 9223372036854775808) (hb : b < 9223372036854775808) : bits .xor .i64 (a : Int) (b : Int) = ((a ^^^ b : Nat) : Int) := by
  have h : a ^^^ b < 9223372036854775808 := Nat.xor_lt_two_pow (n := 63) ha hb
  show IntKind.i64.wrap ((BitVec.ofInt 64 (a : Int) ^^^ BitVec.ofInt 64 (b : Int)).toNat : Nat) = _
  rw [BitVec.toNat_xor, ofInt_u64 a (by omega), ofInt_u64 b (by omega), wrapNat63 _ h]

theorem i64_or_nat (a b : Nat) (ha : a < 9223372036854775808) (hb : b < 9223372036854775808) : bits .or .i64 (a : Int) (b : Int) = ((a ||| b : Nat) : Int) := by
  have h : a ||| b < 9223372036854775808 := Nat.or_lt_two_pow (n := 63) ha hb
  show IntKind.i64.wrap ((BitVec.ofInt 64 (a : Int) ||| BitVec.ofInt 64 (b : Int)).toNat : Nat) = _
  rw [BitVec.toNat_or, ofInt_u64 a (by omega), ofInt_u64 b (by omega), wrapNat63 _ h]

theorem i64_and_nat (a b : Nat) (ha : a < 9223372036854775808) (hb : b < 9223372036854775808) : bits .and .i64 (a : Int) (b : Int) = ((a &&& b : Nat) : Int) := by
  have h : a &&& b < 9223372036854775808 := Nat.and_lt_two_pow (n := 63) _ hb
  show IntKind.i64.wrap ((BitVec.ofInt 64 (a : Int) &&& BitVec.ofInt 64 (b : Int)).toNat : Nat) = _
  rw [BitVec.toNat_and, ofInt_u64 a (by omega), ofInt_u64 b (by omega), wrapNat63 _ h]

theorem i64_and1 (n : Nat) (h : n < 9223372036854775808) : bits .and .i64 (n : Int) 1 = ((n % 2 : Nat) : Int) := by
  have := i64_and_nat n 1 h (by decide)
  rw [nat_mask1] at this; exact this

/-- What is laid above the lower i bits is added. -/
theorem i64_or_add (i : Nat) (a b : Int) (h0 : 0 ≤ a) (h1 : a < 2 ^ i) (h2 : 0 ≤ b) (h3 : b % 2 ^ i = 0) (h4 : b < 9223372036854775808) (h5 : (2 : Int) ^ i ≤ 9223372036854775808) : bits .or .i64 a b = a + b := by
  obtain ⟨x, rfl⟩ := Int.eq_ofNat_of_zero_le h0
  obtain ⟨y, rfl⟩ := Int.eq_ofNat_of_zero_le h2
  have e : ((2 ^ i : Nat) : Int) = 2 ^ i := by simp
  rw [← e] at h1 h3 h5
  have h3' : y % 2 ^ i = 0 := by omega
  rw [i64_or_nat x y (by omega) (by omega), Nat.or_comm, nat_join i y x h3' (by omega)]
  omega

theorem u8_wrap (x : Int) : IntKind.u8.wrap x = x % 256 := by simp [IntKind.wrap, IntKind.bits, IntKind.signed]

end Go.Proofs.Yteojgajpokkgiaa

/-
  A number as its groups, plainly; lists of bytes that the call owns as rows.
-/
namespace Go.Proofs.Yteojgajpokkgiaa
open Go.RowKit
set_option maxRecDepth 4000

def groups (x : Int) : List Int := if x < 128 then [x] else if x < 16384 then [x % 128 + 128, x / 128] else [x % 128 + 128, x / 128 % 128 + 128, x / 16384]
theorem groups_last (x : Int) (h : x < 128) : groups x = [x] := by unfold groups; rw [if_pos h]
theorem groups_step (x : Int) (h : 128 ≤ x) (h1 : x ≤ 1000000) : groups x = (x % 128 + 128) :: groups (x / 128) := by
  unfold groups
  rw [if_neg (by omega)]
  by_cases h2 : x < 16384
  · rw [if_pos h2, if_pos (by omega)]
  · rw [if_neg h2, if_neg (by omega), if_pos (by omega)]
    have : x / 128 / 128 = x / 16384 := by omega
    rw [this]
theorem groups_len (x : Int) : 1 ≤ (groups x).length ∧ (groups x).length ≤ 3 := by
  unfold groups; split
  · simp
  · split <;> simp
theorem groups_byte (x : Int) (h0 : 0 ≤ x) (h1 : x ≤ 1000000) : ∀ y ∈ groups x, 0 ≤ y ∧ y ≤ 255 := by
  unfold groups; intro y hy; split at hy
  · simp at hy; omega
  · split at hy
    · simp at hy; omega
    · simp at hy; omega

def clampN (x : Int) : Int := if x < 0 then 0 else if 1000000 < x then 1000000 else x
theorem clampN_bd (x : Int) : 0 ≤ clampN x ∧ clampN x ≤ 1000000 := by unfold clampN; split <;> (try split) <;> omega

def lof (n : Nat) (f : Nat → Int) : List Int := (List.range n).map f
theorem lof_len (n : Nat) (f : Nat → Int) : (lof n f).length = n := by simp [lof]
theorem lof_get (n : Nat) (f : Nat → Int) (i : Nat) (h : i < n) : (lof n f).getD i 0 = f i := by simp [lof, h]
def bl (l : List Int) : List Value := l.map (Value.int .u8)
theorem bl_len (l : List Int) : (bl l).length = l.length := by simp [bl]
theorem bl_append (l m : List Int) : bl (l ++ m) = bl l ++ bl m := by simp [bl]
theorem bl_one (l : List Int) : ∀ u ∈ bl l, u.oneCell' = true := by
  intro u hu
  simp only [bl, List.mem_map] at hu
  obtain ⟨x, _, rfl⟩ := hu
  rfl

/-- What the call owns as a list of bytes, as a row. -/
theorem row_of_own {base : Nat} {t : TypeId} {v : Value} {N : Nat} {l : List Int} {w : World} (h : w.ownsRow base t 1 v N (bl l)) (hN : 0 < N) :
    ∃ g c, v = .slice (some ⟨g, 0, none⟩) N c ∧ base ≤ g ∧ N ≤ c ∧ Row t w g N (fun i => l.getD i 0) := by
  obtain ⟨hl, h⟩ := h
  rcases h with ⟨_, h0⟩ | ⟨g, c, cur, rfl, hb, hg, hnc, _, hcs, ht⟩
  · omega
  · refine ⟨g, c, rfl, hb, hnc, cur, hg, by omega, fun i hi => ?_⟩
    have e : (bl l)[i]? = some (.int .u8 (l.getD i 0)) := by
      have : i < l.length := by rw [bl_len] at hl; omega
      simp [bl, this]
    rw [← ht, List.getElem?_take, if_pos (by omega)] at e
    simpa using e

theorem row_of_own' {base : Nat} {t : TypeId} {v : Value} {N : Nat} {l : List Int} {w : World} (h : w.ownsRow base t 1 v N (bl l)) (hv : v ≠ .slice none 0 0) :
    ∃ g c, v = .slice (some ⟨g, 0, none⟩) N c ∧ base ≤ g ∧ N ≤ c ∧ Row t w g N (fun i => l.getD i 0) := by
  obtain ⟨hl, h⟩ := h
  rcases h with ⟨h0, _⟩ | ⟨g, c, cur, rfl, hb, hg, hnc, _, hcs, ht⟩
  · exact absurd h0 hv
  · refine ⟨g, c, rfl, hb, hnc, cur, hg, by omega, fun i hi => ?_⟩
    have e : (bl l)[i]? = some (.int .u8 (l.getD i 0)) := by
      have : i < l.length := by rw [bl_len] at hl; omega
      simp [bl, this]
    rw [← ht, List.getElem?_take, if_pos (by omega)] at e
    simpa using e
theorem row_of_owned {base : Nat} {t : TypeId} {g N c : Nat} {l : List Int} {w : World} (h : w.ownsRow base t 1 (.slice (some ⟨g, 0, none⟩) N c) N (bl l)) : Row t w g N (fun i => l.getD i 0) := by
  obtain ⟨hl, h⟩ := h
  rcases h with ⟨h, _⟩ | ⟨g', c', cur, e, hb, hg, hnc, _, hcs, ht⟩
  · cases h
  · simp only [Value.slice.injEq, Option.some.injEq, Addr.mk.injEq, and_true, true_and] at e
    obtain ⟨rfl, rfl⟩ := e
    refine ⟨cur, hg, by omega, fun i hi => ?_⟩
    have e : (bl l)[i]? = some (.int .u8 (l.getD i 0)) := by
      have : i < l.length := by rw [bl_len] at hl; omega
      simp [bl, this]
    rw [← ht, List.getElem?_take, if_pos (by omega)] at e
    simpa using e
theorem lof_self (l : List Int) : lof l.length (fun i => l.getD i 0) = l := by
  apply List.ext_getElem
  · simp [lof]
  · intro i h1 h2
    simp [lof, h2]

/-- One new cell. -/
theorem cellNew (w : World) (x : Value) (t : TypeId) : ∀ j u, [x][j]? = some u → (w.alloc (.cells #[x] t)).cell? ((⟨w.heap.size, 0, none⟩ : Addr).add j) = some u := by
  intro j u hj
  match j, hj with
  | 0, hj => simp at hj; subst hj; simp [Addr.add]

/-- The cells of a slice that reads, as the law on appending asks for them. -/
theorem cells_of_view {w : World} {b off n cap : Nat} {f : Nat → Int} (h : View w (some ⟨b, off, none⟩) n cap f) : ∀ j u, (bl (lof n f))[j]? = some u → w.cell? ((⟨b, off, none⟩ : Addr).add j) = some u := by
  intro j u hu
  have hj : j < n := by
    by_cases hj : j < n
    · exact hj
    · rw [List.getElem?_eq_none (by rw [bl_len, lof_len]; omega)] at hu; cases hu
  obtain ⟨b', off', e, _, hc⟩ := h.cells (by omega)
  simp only [Option.some.injEq, Addr.mk.injEq, and_true] at e
  obtain ⟨rfl, rfl⟩ := e
  have ea : (⟨b, off, none⟩ : Addr).add j = ⟨b, off + j, none⟩ := by unfold Addr.add; split <;> simp_all
  rw [ea, hc j hj]
  simp [bl, lof, hj] at hu
  rw [hu]

theorem put_byte (n : Nat) (f : Nat → Int) (gs : List Int) (hf : ∀ i, i < n → 0 ≤ f i ∧ f i ≤ 255) (hg : ∀ y ∈ gs, 0 ≤ y ∧ y ≤ 255) : ∀ i, i < n + gs.length → 0 ≤ (lof n f ++ gs).getD i 0 ∧ (lof n f ++ gs).getD i 0 ≤ 255 := by
  intro i hi
  by_cases h : i < n
  · have e : (lof n f ++ gs).getD i 0 = f i := by
      rw [← lof_get n f i h, List.getD_eq_getElem?_getD, List.getD_eq_getElem?_getD, List.getElem?_append_left (by rw [lof_len]; exact h)]
    rw [e]; exact hf i h
  · have e : (lof n f ++ gs).getD i 0 = gs.getD (i - n) 0 := by
      rw [List.getD_eq_getElem?_getD, List.getD_eq_getElem?_getD, List.getElem?_append_right (by rw [lof_len]; omega), lof_len]
    rw [e]
    have hi' : i - n < gs.length := by omega
    have : gs.getD (i - n) 0 = gs[i - n] := by simp [hi']
    rw [this]
    exact hg _ (List.getElem_mem hi')

end Go.Proofs.Yteojgajpokkgiaa

/-
  Disks, plainly; rows whose elements have several cells that read; a disk that reads.
-/
namespace Go.Proofs.Yteojgajpokkgiaa
open Go.RowKit
set_option maxRecDepth 4000

/-- A letter for a thing. -/
theorem hidEx {α : Type} (y : α) : ∃ x, Hid (y = x) := ⟨y, rfl⟩
structure PFault where
  pos : Int
  keep : Int
  cut : Int
structure PDisk where
  secs : List (List Int)
  cache : List (Int × List Int)
  ops : Int
  faults : List PFault
  down : Bool
def bf (l : List Int) (i : Nat) : Int := l.getD i 0
theorem lof_bf (l : List Int) : lof l.length (bf l) = l := lof_self l

/-- A slice value that reads as these bytes. -/
structure LV (w : World) (v : Value) (l : List Int) : Prop where
  is : ∃ a c, v = .slice a l.length c ∧ View w a l.length c (bf l) ∧ (a = none → c = 0)
theorem LV.below {w w' : World} {v : Value} {l : List Int} (h : LV w v l) (hb : Below w.heap.size w w') : LV w' v l := by
  obtain ⟨a, c, e, hv, hn⟩ := h.is
  exact ⟨a, c, e, hv.below hb, hn⟩

/-- A row whose elements have c cells each, of which P says what they are. -/
structure RV {α : Type} (c : Nat) (P : World → List Value → α → Prop) (w : World) (a : Option Addr) (cap : Nat) (l : List α) : Prop where
  le : l.length ≤ cap
  nil : a = none → cap = 0
  cells : 0 < l.length → ∃ b off, a = some ⟨b, off, none⟩ ∧ b < w.heap.size ∧ ∀ i x, l[i]? = some x → ∃ us, P w us x ∧ ∀ j u, us[j]? = some u → w.cell? ⟨b, off + i * c + j, none⟩ = some u
theorem RV.below {α : Type} {c : Nat} {P : World → List Value → α → Prop} {w w' : World} {a : Option Addr} {cap : Nat} {l : List α} (h : RV c P w a cap l) (hP : ∀ us x, P w us x → P w' us x) (hb : Below w.heap.size w w') : RV c P w' a cap l := by
  refine ⟨h.le, h.nil, fun hn => ?_⟩
  obtain ⟨b, off, e, hlt, hc⟩ := h.cells hn
  refine ⟨b, off, e, Nat.lt_of_lt_of_le hlt hb.size, fun i x hi => ?_⟩
  obtain ⟨us, h1, h2⟩ := hc i x hi
  exact ⟨us, hP _ _ h1, fun j u hj => by rw [hb.cell (p := ⟨b, off + i * c + j, none⟩) hlt]; exact h2 j u hj⟩

def SP (w : World) (us : List Value) (x : List Int) : Prop := ∃ u, us = [u] ∧ LV w u x
def WP (w : World) (us : List Value) (x : Int × List Int) : Prop := ∃ u, us = [.int .i64 x.1, u] ∧ LV w u x.2
def FP (_ : World) (us : List Value) (x : PFault) : Prop := us = [.int .i64 x.pos, .int .i64 x.keep, .int .i64 x.cut]
abbrev SView := RV 1 SP
abbrev WView := RV 2 WP
abbrev FView := RV 3 FP
theorem SP.below {w w' : World} (hb : Below w.heap.size w w') (us : List Value) (x : List Int) (h : SP w us x) : SP w' us x := by
  obtain ⟨u, e, hu⟩ := h
  exact ⟨u, e, hu.below hb⟩
theorem WP.below {w w' : World} (hb : Below w.heap.size w w') (us : List Value) (x : Int × List Int) (h : WP w us x) : WP w' us x := by
  obtain ⟨u, e, hu⟩ := h
  exact ⟨u, e, hu.below hb⟩
theorem sview_below {w w' : World} {a : Option Addr} {cap : Nat} {l : List (List Int)} (h : SView w a cap l) (hb : Below w.heap.size w w') : SView w' a cap l := h.below (SP.below hb) hb
theorem wview_below {w w' : World} {a : Option Addr} {cap : Nat} {l : List (Int × List Int)} (h : WView w a cap l) (hb : Below w.heap.size w w') : WView w' a cap l := h.below (WP.below hb) hb
theorem fview_below {w w' : World} {a : Option Addr} {cap : Nat} {l : List PFault} (h : FView w a cap l) (hb : Below w.heap.size w w') : FView w' a cap l := h.below (fun _ _ h => h) hb
/-- An element of a row of byte slices. -/
theorem sview_at {w : World} {a : Option Addr} {cap : Nat} {l : List (List Int)} (h : SView w a cap l) {i : Nat} (hi : i < l.length) : ∃ b off a' c', a = some ⟨b, off, none⟩ ∧ b < w.heap.size ∧ w.cell? ⟨b, off + i, none⟩ = some (.slice a' (l[i]).length c') ∧ View w a' (l[i]).length c' (bf l[i]) ∧ (a' = none → c' = 0) := by
  obtain ⟨b, off, e, hlt, hc⟩ := h.cells (by omega)
  obtain ⟨us, ⟨u, rfl, hu⟩, h2⟩ := hc i l[i] (List.getElem?_eq_getElem hi)
  obtain ⟨a', c', rfl, hv, hn⟩ := hu.is
  exact ⟨b, off, a', c', e, hlt, by simpa using h2 0 _ rfl, hv, hn⟩
theorem wview_at {w : World} {a : Option Addr} {cap : Nat} {l : List (Int × List Int)} (h : WView w a cap l) {i : Nat} (hi : i < l.length) : ∃ b off a' c', a = some ⟨b, off, none⟩ ∧ b < w.heap.size ∧ w.cell? ⟨b, off + i * 2, none⟩ = some (.int .i64 (l[i]).1) ∧ w.cell? ⟨b, off + i * 2 + 1, none⟩ = some (.slice a' (l[i]).2.length c') ∧ View w a' (l[i]).2.length c' (bf (l[i]).2) ∧ (a' = none → c' = 0) := by
  obtain ⟨b, off, e, hlt, hc⟩ := h.cells (by omega)
  obtain ⟨us, ⟨u, rfl, hu⟩, h2⟩ := hc i l[i] (List.getElem?_eq_getElem hi)
  obtain ⟨a', c', rfl, hv, hn⟩ := hu.is
  exact ⟨b, off, a', c', e, hlt, by simpa using h2 0 _ rfl, by simpa using h2 1 _ rfl, hv, hn⟩
theorem fview_at {w : World} {a : Option Addr} {cap : Nat} {l : List PFault} (h : FView w a cap l) {i : Nat} (hi : i < l.length) : ∃ b off, a = some ⟨b, off, none⟩ ∧ b < w.heap.size ∧ w.cell? ⟨b, off + i * 3, none⟩ = some (.int .i64 (l[i]).pos) ∧ w.cell? ⟨b, off + i * 3 + 1, none⟩ = some (.int .i64 (l[i]).keep) ∧ w.cell? ⟨b, off + i * 3 + 2, none⟩ = some (.int .i64 (l[i]).cut) := by
  obtain ⟨b, off, e, hlt, hc⟩ := h.cells (by omega)
  obtain ⟨us, rfl, h2⟩ := hc i l[i] (List.getElem?_eq_getElem hi)
  exact ⟨b, off, e, hlt, by simpa using h2 0 _ rfl, by simpa using h2 1 _ rfl, by simpa using h2 2 _ rfl⟩

/-- A disk's value. -/
structure KView (w : World) (v : Value) (D : PDisk) : Prop where
  is : ∃ sa sc ca cc fa fc, v = .agg #[.slice sa D.secs.length sc, .slice ca D.cache.length cc, .int .i64 D.ops, .slice fa D.faults.length fc, .bool D.down] ∧ SView w sa sc D.secs ∧ WView w ca cc D.cache ∧ FView w fa fc D.faults
theorem KView.below {w w' : World} {v : Value} {D : PDisk} (h : KView w v D) (hb : Below w.heap.size w w') : KView w' v D := by
  obtain ⟨sa, sc, ca, cc, fa, fc, e, h1, h2, h3⟩ := h.is
  exact ⟨sa, sc, ca, cc, fa, fc, e, sview_below h1 hb, wview_below h2 hb, fview_below h3 hb⟩
/-- Nothing is great. -/
structure KFine (D : PDisk) : Prop where
  ns : D.secs.length ≤ 1048576
  sec : ∀ x, x ∈ D.secs → x.length ≤ 1048576
  nc : D.cache.length ≤ 1048576
  cache : ∀ x, x ∈ D.cache → x.2.length ≤ 1048576
  nf : D.faults.length ≤ 1048576
end Go.Proofs.Yteojgajpokkgiaa

/-
  What the table of the types says of the bytes.
-/
namespace Go.Proofs.Yteojgajpokkgiaa
open Go.RowKit
set_option maxRecDepth 4000

theorem Try.info5 : (Try.prog.info? 5).map (fun i => (i.zero, i.size, i.bytes)) = some (some (.int .u8 0), 1, 1) := by kernel_rfl

end Go.Proofs.Yteojgajpokkgiaa

/-
  Disks of the call's own: rows that may be written, byte rows that lie apart.
-/
namespace Go.Proofs.Yteojgajpokkgiaa
open Go.RowKit
set_option maxRecDepth 4000

theorem flat_get {α β : Type} (f : α → List β) (c : Nat) (hf : ∀ x, (f x).length = c) : ∀ (l : List α) (i j : Nat), j < c → (l.flatMap f)[i * c + j]? = (l[i]?).bind (fun x => (f x)[j]?)
  | [], i, j, _ => by simp
  | x :: l, 0, j, hj => by
    rw [List.flatMap_cons, Nat.zero_mul, Nat.zero_add, List.getElem?_append_left (by rw [hf]; exact hj)]
    simp
  | x :: l, i + 1, j, hj => by
    rw [List.flatMap_cons, List.getElem?_append_right (by rw [hf, Nat.add_mul]; omega), hf]
    have e : (i + 1) * c + j - c = i * c + j := by rw [Nat.add_mul]; omega
    rw [e, flat_get f c hf l i j hj]
    simp
theorem flat_len {α β : Type} (f : α → List β) (c : Nat) (hf : ∀ x, (f x).length = c) : ∀ (l : List α), (l.flatMap f).length = l.length * c
  | [] => by simp
  | x :: l => by rw [List.flatMap_cons, List.length_append, hf, flat_len f c hf l, List.length_cons, Nat.add_mul]; omega
/-- The cells of writes, whose bytes are these slices; of faults. -/
def wEl (p : Int × Value) : List Value := [.int .i64 p.1, p.2]
def fEl (x : PFault) : List Value := [.int .i64 x.pos, .int .i64 x.keep, .int .i64 x.cut]
def wcells (l : List (Int × List Int)) (cs : List Value) : List Value := ((l.map (·.1)).zip cs).flatMap wEl
def fcells (l : List PFault) : List Value := l.flatMap fEl
theorem zip_get {l : List (Int × List Int)} {cs : List Value} {i : Nat} {x : Int × List Int} {v : Value} (h1 : l[i]? = some x) (h2 : cs[i]? = some v) : ((l.map (·.1)).zip cs)[i]? = some (x.1, v) := by
  simp [List.getElem?_zip_eq_some, h1, h2]
theorem wcells_get {l : List (Int × List Int)} {cs : List Value} {i : Nat} {x : Int × List Int} {v : Value} (h1 : l[i]? = some x) (h2 : cs[i]? = some v) : (wcells l cs)[i * 2]? = some (.int .i64 x.1) ∧ (wcells l cs)[i * 2 + 1]? = some v := by
  have e := zip_get h1 h2
  have g0 := flat_get wEl 2 (fun _ => rfl) ((l.map (·.1)).zip cs) i 0 (by decide)
  have g1 := flat_get wEl 2 (fun _ => rfl) ((l.map (·.1)).zip cs) i 1 (by decide)
  rw [e] at g0 g1
  exact ⟨g0, g1⟩
theorem fcells_get {l : List PFault} {i j : Nat} {x : PFault} (h1 : l[i]? = some x) (hj : j < 3) : (fcells l)[i * 3 + j]? = (fEl x)[j]? := by
  have g0 := flat_get fEl 3 (fun _ => rfl) l i j hj
  rw [h1] at g0
  exact g0

/-- Bytes of the call's own. -/
structure OB (w : World) (B : Nat) (v : Value) (l : List Int) : Prop where
  is : ∃ a c, v = .slice a l.length c ∧ l.length ≤ c ∧ (a = none → c = 0) ∧ (∀ x ∈ l, 0 ≤ x ∧ x ≤ 255) ∧ (l = [] ∨ ∃ g, a = some ⟨g, 0, none⟩ ∧ B ≤ g ∧ Row 5 w g l.length (bf l))
/-- Two slices do not share a block. -/
def Apt (u v : Value) : Prop := ∀ g, u.ownBlock = some g → v.ownBlock = some g → False
/-- Byte rows of the call's own, each by itself. -/
structure Bs (w : World) (B : Nat) (vs : List Value) (ls : List (List Int)) : Prop where
  len : vs.length = ls.length
  ob : ∀ (i : Nat) v l, vs[i]? = some v → ls[i]? = some l → OB w B v l
  lt : ∀ v, v ∈ vs → ∀ g, v.ownBlock = some g → B ≤ g ∧ g < w.heap.size
  apt : vs.Pairwise Apt
/-- A row of the call's own with (at least) these cells. -/
def RL (T : TypeId) (w : World) (B : Nat) (a : Option Addr) (xs : List Value) : Prop := xs = [] ∨ ∃ g cur, a = some ⟨g, 0, none⟩ ∧ B ≤ g ∧ w.heap[g]? = some (.cells cur T (0, 0)) ∧ ∀ (i : Nat) u, xs[i]? = some u → cur[i]? = some u
/-- A disk of the call's own. -/
structure KO (w : World) (B : Nat) (sa : Option Addr) (sc : Nat) (ca : Option Addr) (cc : Nat) (fa : Option Addr) (fc : Nat) (ss cs : List Value) (D : PDisk) : Prop where
  sle : D.secs.length ≤ sc
  snil : sa = none → sc = 0
  cle : D.cache.length ≤ cc
  cnil : ca = none → cc = 0
  fle : D.faults.length ≤ fc
  fnil : fa = none → fc = 0
  ns : ss.length = D.secs.length
  nc : cs.length = D.cache.length
  secs : RL 22 w B sa ss
  cache : RL 41 w B ca (wcells D.cache cs)
  faults : RL 70 w B fa (fcells D.faults)
  bytes : Bs w B (ss ++ cs) (D.secs ++ D.cache.map (·.2))
def dval (D : PDisk) (sa : Option Addr) (sc : Nat) (ca : Option Addr) (cc : Nat) (fa : Option Addr) (fc : Nat) : Value := .agg #[.slice sa D.secs.length sc, .slice ca D.cache.length cc, .int .i64 D.ops, .slice fa D.faults.length fc, .bool D.down]
def KOwn (w : World) (B : Nat) (v : Value) (D : PDisk) : Prop := ∃ sa sc ca cc fa fc ss cs, v = dval D sa sc ca cc fa fc ∧ KO w B sa sc ca cc fa fc ss cs D

/-- What was there from B on is there. -/
def Up (B : Nat) (w w' : World) : Prop := w.heap.size ≤ w'.heap.size ∧ ∀ k, B ≤ k → k < w.heap.size → w'.heap[k]? = w.heap[k]?
theorem Up.ofBelow {B : Nat} {w w' : World} (h : Below w.heap.size w w') : Up B w w' := ⟨h.size, fun k _ hk => h.block k hk⟩
theorem OB.up {w w' : World} {B : Nat} {v : Value} {l : List Int} (h : OB w B v l) (hu : Up B w w') : OB w' B v l := by
  obtain ⟨a, c, e, h1, h2, h3, h4⟩ := h.is
  refine ⟨a, c, e, h1, h2, h3, ?_⟩
  rcases h4 with h4 | ⟨g, ea, hb, hr⟩
  · exact .inl h4
  · exact .inr ⟨g, ea, hb, hr.of_block (hu.2 g hb hr.lt)⟩
theorem RL.up {T : TypeId} {w w' : World} {B : Nat} {a : Option Addr} {xs : List Value} (h : RL T w B a xs) (hu : Up B w w') : RL T w' B a xs := by
  rcases h with h | ⟨g, cur, ea, hb, hg, hc⟩
  · exact .inl h
  · exact .inr ⟨g, cur, ea, hb, (hu.2 g hb (Array.getElem?_eq_some_iff.1 hg).1).trans hg, hc⟩
theorem Bs.up {w w' : World} {B : Nat} {vs : List Value} {ls : List (List Int)} (h : Bs w B vs ls) (hu : Up B w w') : Bs w' B vs ls :=
  ⟨h.len, fun i v l h1 h2 => (h.ob i v l h1 h2).up hu, fun v hv g hg => ⟨(h.lt v hv g hg).1, Nat.lt_of_lt_of_le (h.lt v hv g hg).2 hu.1⟩, h.apt⟩
theorem KO.up {w w' : World} {B : Nat} {sa : Option Addr} {sc : Nat} {ca : Option Addr} {cc : Nat} {fa : Option Addr} {fc : Nat} {ss cs : List Value} {D : PDisk} (h : KO w B sa sc ca cc fa fc ss cs D) (hu : Up B w w') : KO w' B sa sc ca cc fa fc ss cs D :=
  ⟨h.sle, h.snil, h.cle, h.cnil, h.fle, h.fnil, h.ns, h.nc, h.secs.up hu, h.cache.up hu, h.faults.up hu, h.bytes.up hu⟩
theorem KOwn.up {w w' : World} {B : Nat} {v : Value} {D : PDisk} (h : KOwn w B v D) (hu : Up B w w') : KOwn w' B v D := by
  obtain ⟨sa, sc, ca, cc, fa, fc, ss, cs, e, hk⟩ := h
  exact ⟨sa, sc, ca, cc, fa, fc, ss, cs, e, hk.up hu⟩
theorem KOwn.below {w w' : World} {B : Nat} {v : Value} {D : PDisk} (h : KOwn w B v D) (hb : Below w.heap.size w w') : KOwn w' B v D := h.up (Up.ofBelow hb)
theorem OB.mono {w : World} {B B' : Nat} {v : Value} {l : List Int} (h : OB w B v l) (hB : B' ≤ B) : OB w B' v l := by
  obtain ⟨a, c, e, h1, h2, h3, h4⟩ := h.is
  refine ⟨a, c, e, h1, h2, h3, ?_⟩
  rcases h4 with h4 | ⟨g, ea, hb, hr⟩
  · exact .inl h4
  · exact .inr ⟨g, ea, by omega, hr⟩
theorem RL.mono {T : TypeId} {w : World} {B B' : Nat} {a : Option Addr} {xs : List Value} (h : RL T w B a xs) (hB : B' ≤ B) : RL T w B' a xs := by
  rcases h with h | ⟨g, cur, ea, hb, hg, hc⟩
  · exact .inl h
  · exact .inr ⟨g, cur, ea, by omega, hg, hc⟩
theorem Bs.mono {w : World} {B B' : Nat} {vs : List Value} {ls : List (List Int)} (h : Bs w B vs ls) (hB : B' ≤ B) : Bs w B' vs ls := ⟨h.len, fun i v l h1 h2 => (h.ob i v l h1 h2).mono hB, fun v hv g hg => ⟨Nat.le_trans hB (h.lt v hv g hg).1, (h.lt v hv g hg).2⟩, h.apt⟩

theorem OB.lv {w : World} {B : Nat} {v : Value} {l : List Int} (h : OB w B v l) : LV w v l := by
  obtain ⟨a, c, e, h1, h2, h3, h4⟩ := h.is
  refine ⟨a, c, e, ⟨h1, fun i hi => ?_, fun hn => ?_⟩, h2⟩
  · have : bf l i = l[i] := by simp [bf, hi]
    rw [this]
    exact h3 _ (List.getElem_mem hi)
  · rcases h4 with h4 | ⟨g, ea, hb, hr⟩
    · subst h4; simp at hn
    · exact ⟨g, 0, ea, hr.lt, fun i hi => by rw [Nat.zero_add]; exact hr.cell hi⟩
theorem RL.cell {T : TypeId} {w : World} {B : Nat} {a : Option Addr} {xs : List Value} (h : RL T w B a xs) (hn : 0 < xs.length) : ∃ g, a = some ⟨g, 0, none⟩ ∧ B ≤ g ∧ g < w.heap.size ∧ ∀ (i : Nat) u, xs[i]? = some u → w.cell? ⟨g, i, none⟩ = some u := by
  rcases h with h | ⟨g, cur, ea, hb, hg, hc⟩
  · subst h; simp at hn
  · exact ⟨g, ea, hb, (Array.getElem?_eq_some_iff.1 hg).1, fun i u hi => by simp [World.cell?, hg, hc i u hi]⟩
theorem KO.view {w : World} {B : Nat} {sa : Option Addr} {sc : Nat} {ca : Option Addr} {cc : Nat} {fa : Option Addr} {fc : Nat} {ss cs : List Value} {D : PDisk} (h : KO w B sa sc ca cc fa fc ss cs D) : SView w sa sc D.secs ∧ WView w ca cc D.cache ∧ FView w fa fc D.faults := by
  refine ⟨⟨h.sle, h.snil, fun hn => ?_⟩, ⟨h.cle, h.cnil, fun hn => ?_⟩, ⟨h.fle, h.fnil, fun hn => ?_⟩⟩
  · obtain ⟨g, ea, -, hlt, hc⟩ := h.secs.cell (by rw [h.ns]; exact hn)
    refine ⟨g, 0, ea, hlt, fun i x hi => ?_⟩
    have hi' : i < ss.length := by rw [h.ns]; exact (List.getElem?_eq_some_iff.1 hi).1
    have hv := List.getElem?_eq_getElem hi'
    refine ⟨[ss[i]], ⟨ss[i], rfl, (h.bytes.ob i _ x ?_ ?_).lv⟩, fun j u hj => ?_⟩
    · rw [List.getElem?_append_left hi']; exact hv
    · rw [List.getElem?_append_left (by rw [← h.ns]; exact hi')]; exact hi
    · match j, hj with
      | 0, hj => cases hj; simpa using hc i _ hv
  · have hl : (wcells D.cache cs).length = D.cache.length * 2 := by
      unfold wcells
      rw [flat_len wEl 2 (fun _ => rfl), List.length_zip, List.length_map, h.nc, Nat.min_self]
    obtain ⟨g, ea, -, hlt, hc⟩ := h.cache.cell (by omega)
    refine ⟨g, 0, ea, hlt, fun i x hi => ?_⟩
    have hi1 := (List.getElem?_eq_some_iff.1 hi).1
    have hi' : i < cs.length := by rw [h.nc]; exact hi1
    have hv := List.getElem?_eq_getElem hi'
    obtain ⟨g0, g1⟩ := wcells_get hi hv
    refine ⟨[.int .i64 x.1, cs[i]], ⟨cs[i], rfl, (h.bytes.ob (ss.length + i) _ x.2 ?_ ?_).lv⟩, fun j u hj => ?_⟩
    · rw [List.getElem?_append_right (by omega), Nat.add_sub_cancel_left]; exact hv
    · rw [h.ns, List.getElem?_append_right (by omega), Nat.add_sub_cancel_left]; simp [hi]
    · match j, hj with
      | 0, hj => cases hj; simpa using hc _ _ g0
      | 1, hj => cases hj; simpa using hc _ _ g1
  · have hl : (fcells D.faults).length = D.faults.length * 3 := flat_len fEl 3 (fun _ => rfl) _
    obtain ⟨g, ea, -, hlt, hc⟩ := h.faults.cell (by omega)
    refine ⟨g, 0, ea, hlt, fun i x hi => ⟨fEl x, rfl, fun j u hj => ?_⟩⟩
    have hj3 : j < 3 := (List.getElem?_eq_some_iff.1 hj).1
    have g0 := fcells_get hi hj3
    rw [hj] at g0
    simpa using hc _ _ g0
theorem KOwn.view {w : World} {B : Nat} {v : Value} {D : PDisk} (h : KOwn w B v D) : KView w v D := by
  obtain ⟨sa, sc, ca, cc, fa, fc, ss, cs, e, hk⟩ := h
  obtain ⟨h1, h2, h3⟩ := hk.view
  exact ⟨sa, sc, ca, cc, fa, fc, e, h1, h2, h3⟩

/-- One more byte row, a new one. -/
theorem Bs.push {w : World} {B : Nat} {vs : List Value} {ls : List (List Int)} (h : Bs w B vs ls) {v : Value} {l : List Int} (hb : OB w B v l) (hv : ∀ g, v.ownBlock = some g → (B ≤ g ∧ g < w.heap.size) ∧ ∀ u ∈ vs, u.ownBlock ≠ some g) : Bs w B (vs ++ [v]) (ls ++ [l]) := by
  refine ⟨by simp [h.len], fun i u x h1 h2 => ?_, fun u hu g hg => ?_, ?_⟩
  · by_cases hi : i < vs.length
    · rw [List.getElem?_append_left hi] at h1
      rw [List.getElem?_append_left (by rw [← h.len]; exact hi)] at h2
      exact h.ob i u x h1 h2
    · rw [List.getElem?_append_right (by omega)] at h1
      rw [List.getElem?_append_right (by rw [← h.len]; omega)] at h2
      have e0 : i - vs.length = 0 := by
        have := (List.getElem?_eq_some_iff.1 h1).1
        simp at this; omega
      rw [← h.len] at h2
      rw [e0] at h1 h2
      simp at h1 h2
      subst h1 h2
      exact hb
  · rcases List.mem_append.1 hu with hu | hu
    · exact h.lt u hu g hg
    · simp at hu; subst hu
      exact (hv g hg).1
  · rw [List.pairwise_append]
    refine ⟨h.apt, by simp, fun a ha b hb' => ?_⟩
    simp at hb'; subst hb'
    intro g h1 h2
    exact (hv g h2).2 a ha h1
theorem Bs.nil (w : World) (B : Nat) : Bs w B [] [] := ⟨rfl, fun i v l h => by simp at h, fun v hv => by simp at hv, List.Pairwise.nil⟩
/-- What came behind is new to what was there. -/
theorem Bs.newer {w : World} {B : Nat} {vs : List Value} {ls : List (List Int)} (h : Bs w B vs ls) {g : Nat} (hg : w.heap.size ≤ g) : ∀ u ∈ vs, u.ownBlock ≠ some g := by
  intro u hu e
  have := (h.lt u hu g e).2
  omega
/-- Rows, and rows that came behind them. -/
theorem Bs.app {w : World} {B B' : Nat} {vs us : List Value} {ls ms : List (List Int)} (h : Bs w B vs ls) (k : Bs w B' us ms) (hB : B ≤ B') (hlt : ∀ v, v ∈ vs → ∀ g, v.ownBlock = some g → g < B') : Bs w B (vs ++ us) (ls ++ ms) := by
  refine ⟨by simp [h.len, k.len], fun i u x h1 h2 => ?_, fun u hu g hg => ?_, ?_⟩
  · by_cases hi : i < vs.length
    · rw [List.getElem?_append_left hi] at h1
      rw [List.getElem?_append_left (by rw [← h.len]; exact hi)] at h2
      exact h.ob i u x h1 h2
    · rw [List.getElem?_append_right (by omega)] at h1
      rw [List.getElem?_append_right (by rw [← h.len]; omega), ← h.len] at h2
      exact (k.ob _ u x h1 h2).mono hB
  · rcases List.mem_append.1 hu with hu | hu
    · exact h.lt u hu g hg
    · have := k.lt u hu g hg
      exact ⟨by omega, this.2⟩
  · rw [List.pairwise_append]
    refine ⟨h.apt, k.apt, fun a ha b hb g h1 h2 => ?_⟩
    have h3 := hlt a ha g h1
    have h4 := (k.lt b hb g h2).1
    omega
/-- A cell of a block below is written. -/
theorem Up.set {B C i : Nat} {w : World} {u : Value} (h : C < B) : Up B w (w.setCell ⟨C, i, none⟩ u) := ⟨by simp, fun k hk _ => Below.heap_setCell _ _ _ _ (show k ≠ C by omega)⟩
theorem Up.refl (B : Nat) (w : World) : Up B w w := ⟨Nat.le_refl _, fun _ _ _ => rfl⟩
theorem Up.trans {B : Nat} {a b c : World} (h : Up B a b) (k : Up B b c) : Up B a c := ⟨Nat.le_trans h.1 k.1, fun i hi hl => (k.2 i hi (Nat.lt_of_lt_of_le hl h.1)).trans (h.2 i hi hl)⟩
theorem OB.ofIs {w : World} {B g : Nat} {l : List Int} (h : w.rowIs g 5 l.length (fun i => .int .u8 (bf l i))) (hB : B ≤ g) (hb : ∀ i, i < l.length → 0 ≤ bf l i ∧ bf l i ≤ 255) : OB w B (.slice (some ⟨g, 0, none⟩) l.length l.length) l := by
  refine ⟨_, _, rfl, Nat.le_refl _, (fun e => by cases e), fun x hx => ?_, .inr ⟨g, rfl, hB, Row.ofIs h⟩⟩
  obtain ⟨i, hi, rfl⟩ := List.getElem_of_mem hx
  have := hb i hi
  have e : bf l i = l[i] := by simp [bf, hi]
  rw [e] at this
  exact this

/-- A variable of several cells. -/
def VN (w : World) (B : Nat) (T : TypeId) (xs : List Value) : Prop := w.heap[B]? = some (.cells ⟨xs⟩ T (0, 0))
theorem VN.new (w : World) (T : TypeId) (xs : List Value) : VN (w.alloc (.cells ⟨xs⟩ T)) w.heap.size T xs := by unfold VN; show (w.heap.push _)[w.heap.size]? = _; simp
theorem VN.lt {w : World} {B : Nat} {T : TypeId} {xs : List Value} (h : VN w B T xs) : B < w.heap.size := (Array.getElem?_eq_some_iff.1 h).1
theorem VN.block {w w' : World} {B : Nat} {T : TypeId} {xs : List Value} (h : VN w B T xs) (e : w'.heap[B]? = w.heap[B]?) : VN w' B T xs := e.trans h
theorem VN.below {w w' : World} {B : Nat} {T : TypeId} {xs : List Value} (h : VN w B T xs) (hb : Below w.heap.size w w') : VN w' B T xs := h.block (hb.block B h.lt)
theorem VN.other {w : World} {B C i : Nat} {T : TypeId} {xs : List Value} {u : Value} (h : VN w B T xs) (hne : B ≠ C) : VN (w.setCell ⟨C, i, none⟩ u) B T xs := h.block (Below.heap_setCell _ _ _ _ hne)
theorem VN.cell {w : World} {B : Nat} {T : TypeId} {xs : List Value} (h : VN w B T xs) (i : Nat) : w.cell? ⟨B, i, none⟩ = xs[i]? := by
  unfold VN at h
  simp [World.cell?, h]
theorem VN.fz {w : World} {B : Nat} {T : TypeId} {xs : List Value} (h : VN w B T xs) (i : Nat) : w.frozen? ⟨B, i, none⟩ = false := by
  unfold VN at h
  simp [World.frozen?, h]
theorem VN.set {w : World} {B : Nat} {T : TypeId} {xs : List Value} (h : VN w B T xs) (i : Nat) (u : Value) : VN (w.setCell ⟨B, i, none⟩ u) B T (xs.set i u) := by
  unfold VN at h ⊢
  simp [World.setCell, Array.getElem?_modify, h]
end Go.Proofs.Yteojgajpokkgiaa

/-
  Writes that come into their sectors, plainly: what the sectors have, and whose rows they are.
-/
namespace Go.Proofs.Yteojgajpokkgiaa
open Go.RowKit
set_option maxRecDepth 4000

/-- Each write comes into its sector, in order. -/
def settleL {α : Type} (s : List α) : List (Int × α) → List α
  | [] => s
  | x :: l => settleL (s.set x.1.toNat x.2) l
theorem settleL_len {α : Type} : ∀ (l : List (Int × α)) (s : List α), (settleL s l).length = s.length
  | [], _ => rfl
  | x :: l, s => by rw [settleL, settleL_len l]; simp
theorem settleL_app {α : Type} : ∀ (l m : List (Int × α)) (s : List α), settleL s (l ++ m) = settleL (settleL s l) m
  | [], _, _ => rfl
  | x :: l, m, s => by rw [List.cons_append, settleL, settleL, settleL_app l m]
theorem settleL_one {α : Type} {l : List (Int × α)} {s : List α} {k : Nat} (h : k < l.length) : settleL s (l.take (k + 1)) = (settleL s (l.take k)).set (l[k]).1.toNat (l[k]).2 := by
  rw [List.take_add_one, List.getElem?_eq_getElem h]
  exact settleL_app _ _ _
/-- The sectors' slices are those of before, or of the writes: each of them once. -/
theorem settle_pairs {ss cs : List Value} {s c : List (List Int)} {ns : List Int} (hs : ss.length = s.length) (hc : cs.length = c.length) (hn : ns.length = cs.length) :
    ∀ (i : Nat) v l, (settleL ss (ns.zip cs))[i]? = some v → (settleL s (ns.zip c))[i]? = some l → ∃ j : Nat, (ss ++ cs)[j]? = some v ∧ (s ++ c)[j]? = some l := by
  suffices H : ∀ (m : List Int) (cs' : List Value) (c' : List (List Int)) (off : Nat) (ss' : List Value) (s' : List (List Int)), cs'.length = c'.length → m.length = cs'.length → ss'.length = s'.length →
      (∀ (j : Nat) v l, cs'[j]? = some v → c'[j]? = some l → (ss ++ cs)[off + j]? = some v ∧ (s ++ c)[off + j]? = some l) →
      (∀ (i : Nat) v l, ss'[i]? = some v → s'[i]? = some l → ∃ j : Nat, (ss ++ cs)[j]? = some v ∧ (s ++ c)[j]? = some l) →
      ∀ (i : Nat) v l, (settleL ss' (m.zip cs'))[i]? = some v → (settleL s' (m.zip c'))[i]? = some l → ∃ j : Nat, (ss ++ cs)[j]? = some v ∧ (s ++ c)[j]? = some l by
    refine H ns cs c ss.length ss s hc hn hs (fun j v l h1 h2 => ⟨?_, ?_⟩) (fun i v l h1 h2 => ⟨i, ?_, ?_⟩)
    · rw [List.getElem?_append_right (by omega), Nat.add_sub_cancel_left]; exact h1
    · rw [hs, List.getElem?_append_right (by omega), Nat.add_sub_cancel_left]; exact h2
    · rw [List.getElem?_append_left (List.getElem?_eq_some_iff.1 h1).1]; exact h1
    · rw [List.getElem?_append_left (List.getElem?_eq_some_iff.1 h2).1]; exact h2
  intro m
  induction m with
  | nil => intro cs' c' off ss' s' _ _ _ _ hp i v l h1 h2; exact hp i v l h1 h2
  | cons x m ih =>
    intro cs' c' off ss' s' hcc hm hss hq hp i v l h1 h2
    match cs', c', hcc, hm, hq, h1, h2 with
    | u :: cs', b :: c', hcc, hm, hq, h1, h2 =>
      refine ih cs' c' (off + 1) (ss'.set x.toNat u) (s'.set x.toNat b) (by simpa using hcc) (by simpa using hm) (by simpa using hss) (fun j v l g1 g2 => ?_) (fun i v l g1 g2 => ?_) i v l h1 h2
      · have := hq (j + 1) v l (by simpa using g1) (by simpa using g2)
        rw [show off + 1 + j = off + (j + 1) by omega]
        exact this
      · rw [List.getElem?_set] at g1 g2
        by_cases e : x.toNat = i
        · rw [if_pos e] at g1 g2
          by_cases hlt : x.toNat < ss'.length
          · rw [if_pos hlt] at g1
            rw [if_pos (by rw [← hss]; exact hlt)] at g2
            cases g1; cases g2
            exact ⟨off, by simpa using (hq 0 _ _ rfl rfl).1, by simpa using (hq 0 _ _ rfl rfl).2⟩
          · rw [if_neg hlt] at g1; cases g1
        · rw [if_neg e] at g1 g2
          exact hp i v l g1 g2
theorem Apt.symm {u v : Value} (h : Apt u v) : Apt v u := fun g h1 h2 => h g h2 h1
theorem apt_set {ss cs : List Value} {u : Value} (i : Nat) (h : (ss ++ u :: cs).Pairwise Apt) : (ss.set i u ++ cs).Pairwise Apt := by
  rw [List.pairwise_append] at h ⊢
  obtain ⟨h1, h2, h3⟩ := h
  rw [List.pairwise_cons] at h2
  refine ⟨?_, h2.2, fun a ha b hb => ?_⟩
  · rw [List.pairwise_iff_getElem] at h1 ⊢
    intro p q hp hq hpq
    rw [List.length_set] at hp hq
    rw [List.getElem_set, List.getElem_set]
    by_cases e1 : i = p
    · rw [if_pos e1, if_neg (by omega)]
      exact (h3 _ (List.getElem_mem hq) u List.mem_cons_self).symm
    · rw [if_neg e1]
      by_cases e2 : i = q
      · rw [if_pos e2]
        exact h3 _ (List.getElem_mem hp) u List.mem_cons_self
      · rw [if_neg e2]
        exact h1 p q hp hq hpq
  · rcases List.mem_or_eq_of_mem_set ha with ha | rfl
    · exact h3 a ha b (List.mem_cons_of_mem _ hb)
    · exact h2.1 b hb
theorem settle_apt : ∀ (ns : List Int) (cs ss : List Value), (ss ++ cs).Pairwise Apt → (settleL ss (ns.zip cs)).Pairwise Apt
  | [], _, ss, h => (List.pairwise_append.1 h).1
  | _ :: _, [], ss, h => (List.pairwise_append.1 h).1
  | x :: ns, u :: cs, ss, h => by
    rw [List.zip_cons_cons, settleL]
    exact settle_apt ns cs _ (apt_set _ h)
/-- The rows of the sectors behind it. -/
theorem Bs.settle {w : World} {B : Nat} {ss cs : List Value} {s c : List (List Int)} {ns : List Int} (h : Bs w B (ss ++ cs) (s ++ c)) (hs : ss.length = s.length) (hn : ns.length = cs.length) : Bs w B (settleL ss (ns.zip cs)) (settleL s (ns.zip c)) := by
  have hc : cs.length = c.length := by have := h.len; simp at this; omega
  refine ⟨by rw [settleL_len, settleL_len]; exact hs, fun i v l h1 h2 => ?_, fun v hv g hg => ?_, settle_apt ns cs ss h.apt⟩
  · obtain ⟨j, g1, g2⟩ := settle_pairs hs hc hn i v l h1 h2
    exact h.ob j v l g1 g2
  · obtain ⟨i, hi, rfl⟩ := List.getElem_of_mem hv
    have hi2 : i < (settleL s (ns.zip c)).length := by rw [settleL_len, ← hs, ← settleL_len (ns.zip cs) ss]; exact hi
    obtain ⟨j, g1, -⟩ := settle_pairs hs hc hn i _ _ (List.getElem?_eq_getElem hi) (List.getElem?_eq_getElem hi2)
    exact h.lt _ (List.mem_of_getElem? g1) g hg
end Go.Proofs.Yteojgajpokkgiaa

/-
  What a fault keeps of the cache, plainly.
-/
namespace Go.Proofs.Yteojgajpokkgiaa
open Go.RowKit
set_option maxRecDepth 4000

/-- Whether the bit of the i-th write is set. -/
def bitOf (keep : Int) (i : Nat) : Bool := decide (keep / 2 ^ i % 2 = 1)
theorem bitOf_far {keep : Int} (h0 : 0 ≤ keep) (h1 : keep ≤ 1048575) {i : Nat} (hi : 20 ≤ i) : bitOf keep i = false := by
  unfold bitOf
  have h2 : (1048576 : Int) ≤ 2 ^ i := by
    have h9 : 2 ^ 20 ≤ 2 ^ i := Nat.pow_le_pow_right (by decide) hi
    have e : ((2 ^ i : Nat) : Int) = 2 ^ i := by simp
    rw [← e]
    omega
  have h3 : keep / 2 ^ i = 0 := Int.ediv_eq_zero_of_lt h0 (by omega)
  rw [h3]
  rfl
/-- Those of the first k that are kept. -/
def keptG {α : Type} (keep : Int) (l : List α) : Nat → List α
  | 0 => []
  | k + 1 => keptG keep l k ++ (if bitOf keep k then (l[k]?).toList else [])
theorem keptG_yes {α : Type} {keep : Int} {l : List α} {k : Nat} (hb : bitOf keep k = true) (hk : k < l.length) : keptG keep l (k + 1) = keptG keep l k ++ [l[k]] := by
  rw [keptG, if_pos hb, List.getElem?_eq_getElem hk]
  rfl
theorem keptG_no {α : Type} {keep : Int} {l : List α} {k : Nat} (hb : bitOf keep k = false) : keptG keep l (k + 1) = keptG keep l k := by
  rw [keptG, if_neg (by simp [hb])]
  simp
theorem keptG_map {α β : Type} (g : α → β) (keep : Int) (l : List α) : ∀ k, (keptG keep l k).map g = keptG keep (l.map g) k
  | 0 => rfl
  | k + 1 => by
    rw [keptG, keptG, List.map_append, keptG_map g keep l k]
    congr 1
    split
    · cases h : l[k]? <;> simp [h]
    · rfl
theorem keptG_mem {α : Type} {keep : Int} {l : List α} : ∀ {k : Nat} {x : α}, x ∈ keptG keep l k → x ∈ l
  | 0, _, h => by simp [keptG] at h
  | k + 1, x, h => by
    rw [keptG, List.mem_append] at h
    rcases h with h | h
    · exact keptG_mem h
    · split at h
      · exact List.mem_of_getElem? (Option.mem_toList.1 h)
      · simp at h
theorem keptG_len {α : Type} (keep : Int) (l : List α) : ∀ k, (keptG keep l k).length ≤ k
  | 0 => Nat.le_refl _
  | k + 1 => by
    rw [keptG, List.length_append]
    have := keptG_len keep l k
    split
    · cases h : l[k]? <;> simp <;> omega
    · simp; omega
/-- Behind the twentieth nothing is kept. -/
theorem keptG_far {α : Type} {keep : Int} (h0 : 0 ≤ keep) (h1 : keep ≤ 1048575) (l : List α) {k : Nat} (hk : 20 ≤ k) : keptG keep l k = keptG keep l 20 := by
  obtain ⟨d, rfl⟩ : ∃ d, k = 20 + d := ⟨k - 20, by omega⟩
  induction d with
  | zero => rfl
  | succ d ih => rw [← Nat.add_assoc, keptG_no (bitOf_far h0 h1 (by omega)), ih (by omega)]
/-- The last is cut. -/
def cutLast {α : Type} (g : α → α) (l : List α) : List α := match l.getLast? with
  | none => l
  | some x => l.dropLast ++ [g x]
theorem cutLast_nil {α : Type} (g : α → α) : cutLast g [] = [] := rfl
theorem cutLast_app {α : Type} (g : α → α) (l : List α) (x : α) : cutLast g (l ++ [x]) = l ++ [g x] := by simp [cutLast]
theorem keptG_len_eq {α β : Type} {keep : Int} {l : List α} {m : List β} (h : l.length = m.length) : ∀ k, (keptG keep l k).length = (keptG keep m k).length
  | 0 => rfl
  | k + 1 => by
    rw [keptG, keptG, List.length_append, List.length_append, keptG_len_eq h k]
    congr 1
    split
    · by_cases hk : k < l.length
      · rw [List.getElem?_eq_getElem hk, List.getElem?_eq_getElem (by omega)]; rfl
      · rw [List.getElem?_eq_none (by omega), List.getElem?_eq_none (by omega)]; rfl
    · rfl
theorem bit_and {q : Int} (h0 : 0 ≤ q) (h1 : q ≤ 1048575) (k : Nat) : bits .and .i64 (q / 2 ^ k) 1 = q / 2 ^ k % 2 := by
  obtain ⟨x, rfl⟩ := Int.eq_ofNat_of_zero_le h0
  have e : ((x : Int) / 2 ^ k) = ((x / 2 ^ k : Nat) : Int) := by simp
  rw [e, i64_and1 _ (by have : x / 2 ^ k ≤ x := Nat.div_le_self _ _; omega)]
  omega
end Go.Proofs.Yteojgajpokkgiaa

/-
  What the model keeps of the cache, plainly: it comes to what is kept with its last one cut.
-/
namespace Go.Proofs.Yteojgajpokkgiaa
open Go.RowKit
set_option maxRecDepth 4000

def cutW (c : Nat) (x : Int × List Int) : Int × List Int := (x.1, x.2.take c)
/-- What comes into its sectors of the first k writes. -/
def lostL (keep : Int) (cut last : Nat) (l : List (Int × List Int)) : Nat → List (Int × List Int)
  | 0 => []
  | k + 1 => lostL keep cut last l k ++ (if bitOf keep k then (l[k]?).toList.map (fun x => if k = last then cutW cut x else x) else [])
theorem lostL_yes {keep : Int} {cut last : Nat} {l : List (Int × List Int)} {k : Nat} (hb : bitOf keep k = true) (hk : k < l.length) : lostL keep cut last l (k + 1) = lostL keep cut last l k ++ [if k = last then cutW cut l[k] else l[k]] := by
  rw [lostL, if_pos hb, List.getElem?_eq_getElem hk]
  rfl
theorem lostL_no {keep : Int} {cut last : Nat} {l : List (Int × List Int)} {k : Nat} (hb : bitOf keep k = false) : lostL keep cut last l (k + 1) = lostL keep cut last l k := by
  rw [lostL, if_neg (by simp [hb])]
  simp
theorem lostL_kept {keep : Int} {cut last : Nat} {l : List (Int × List Int)} : ∀ {k : Nat}, k ≤ last → lostL keep cut last l k = keptG keep l k
  | 0, _ => rfl
  | k + 1, h => by
    rw [lostL, keptG, lostL_kept (by omega)]
    congr 1
    split
    · cases hx : l[k]? with
      | none => rfl
      | some x => simp [show k ≠ last by omega]
    · rfl
/-- The last bit that is set of the first k. -/
def LastIs (keep : Int) (k : Nat) (last : Int) : Prop := (last = -1 ∧ ∀ j, j < k → bitOf keep j = false) ∨ ∃ m : Nat, last = m ∧ m < k ∧ bitOf keep m = true ∧ ∀ j, m < j → j < k → bitOf keep j = false
theorem LastIs.zero (keep : Int) : LastIs keep 0 (-1) := .inl ⟨rfl, fun _ h => absurd h (Nat.not_lt_zero _)⟩
theorem LastIs.yes {keep : Int} {k : Nat} (hb : bitOf keep k = true) : LastIs keep (k + 1) (k : Int) := .inr ⟨k, rfl, Nat.lt_succ_self _, hb, fun j h1 h2 => by omega⟩
theorem LastIs.no {keep : Int} {k : Nat} {last : Int} (h : LastIs keep k last) (hb : bitOf keep k = false) : LastIs keep (k + 1) last := by
  have key : ∀ j, j < k + 1 → ¬ j < k → bitOf keep j = false := fun j h1 h2 => by rw [show j = k by omega]; exact hb
  rcases h with ⟨rfl, h⟩ | ⟨m, rfl, h1, h2, h3⟩
  · exact .inl ⟨rfl, fun j hj => if e : j < k then h j e else key j hj e⟩
  · exact .inr ⟨m, rfl, by omega, h2, fun j g1 g2 => if e : j < k then h3 j g1 e else key j g2 e⟩
theorem keptG_stop {α : Type} {keep : Int} {l : List α} {i : Nat} : ∀ {k : Nat}, i ≤ k → (∀ j, i ≤ j → j < k → bitOf keep j = false) → keptG keep l k = keptG keep l i
  | 0, h, _ => by rw [show i = 0 by omega]
  | k + 1, h, hb => by
    by_cases e : i = k + 1
    · rw [e]
    · rw [keptG_no (hb k (by omega) (by omega))]
      exact keptG_stop (by omega) (fun j h1 h2 => hb j h1 (by omega))
theorem lost_all {keep : Int} {cut : Nat} {l : List (Int × List Int)} {n : Nat} {last : Int} (h0 : 0 ≤ keep) (h1 : keep ≤ 1048575) (hn : n = min l.length 20) (h : LastIs keep n last) :
    (last = -1 ∧ cutLast (cutW cut) (keptG keep l l.length) = []) ∨ ∃ m : Nat, last = m ∧ m < n ∧ cutLast (cutW cut) (keptG keep l l.length) = lostL keep cut m l (m + 1) := by
  have hfar : ∀ j, n ≤ j → j < l.length → bitOf keep j = false := fun j g1 g2 => bitOf_far h0 h1 (by omega)
  rcases h with ⟨rfl, h⟩ | ⟨m, rfl, g1, g2, g3⟩
  · left
    refine ⟨rfl, ?_⟩
    rw [keptG_stop (i := 0) (Nat.zero_le _) (fun j _ hj => if e : j < n then h j e else hfar j (by omega) hj)]
    rfl
  · right
    have hm : m < l.length := by omega
    refine ⟨m, rfl, g1, ?_⟩
    rw [keptG_stop (i := m + 1) (by omega) (fun j g4 hj => if e : j < n then g3 j (by omega) e else hfar j (by omega) hj), keptG_yes g2 hm, cutLast_app, lostL_yes g2 hm, lostL_kept (Nat.le_refl _), if_pos rfl]
/-- The disk behind a fault; behind a flush. -/
def loseD (D : PDisk) (f : PFault) : PDisk := { D with secs := settleL D.secs (cutLast (cutW f.cut.toNat) (keptG f.keep D.cache D.cache.length)), cache := [], down := true }
def calmD (D : PDisk) : PDisk := { D with secs := settleL D.secs D.cache, cache := [] }
theorem settle_snoc {α : Type} (s : List α) (l : List (Int × α)) (x : Int × α) : settleL s (l ++ [x]) = (settleL s l).set x.1.toNat x.2 := by rw [settleL_app]; rfl
end Go.Proofs.Yteojgajpokkgiaa

/-
  What the law's own helper eqByteS comes to on rows that are alike.
-/
namespace Go.Proofs.Yteojgajpokkgiaa
open Go.RowKit
set_option maxRecDepth 4000

/-- Two slices that read alike: true. -/
theorem eqByteS_same (a1 a2 : Option Addr) (n c1 c2 : Nat) (f g : Nat → Int) (w : World) (h1 : View w a1 n c1 f) (h2 : View w a2 n c2 g) (hn : n ≤ 281474976710656) (he : ∀ i, i < n → f i = g i) :
    Calls Try.prog 40 #[.slice a1 n c1, .slice a2 n c2] w fun e w' => e = .returned (.bool true) ∧ Below w.heap.size w w' := by
  go_enter Try.func40, Try.ntmps40
  go_wp2
  go_loopg [5] n (fun q i wr => ∃ k : Nat, k ≤ n ∧ q = n - k ∧ i = .int .i64 k ∧ Below w.heap.size w wr)
  case atStart => exact ⟨0, Nat.zero_le _, rfl, rfl, Below.refl _ _⟩
  case round =>
    obtain ⟨k, hk, rfl, rfl, hB⟩ := hrel
    by_cases hlt : k < n
    · obtain ⟨b1, o1, rfl, hb1, hc1⟩ := h1.cells (by omega)
      obtain ⟨b2, o2, rfl, hb2, hc2⟩ := h2.cells (by omega)
      have hkz : (k : Int) < (n : Int) := by omega
      have e1 : wr.cell? ⟨b1, o1 + k, none⟩ = some (.int .u8 (f k)) := by rw [hB.cell (p := ⟨b1, o1 + k, none⟩) hb1]; exact hc1 k hlt
      have e2 : wr.cell? ⟨b2, o2 + k, none⟩ = some (.int .u8 (f k)) := by rw [hB.cell (p := ⟨b2, o2 + k, none⟩) hb2, he k hlt]; exact hc2 k hlt
      clear hc1 hc2 he
      go_wp2
      go_region
      all_goals go_wp2
      all_goals
        go_roundg (n - (k + 1))
        case measure => omega
        case rel => exact ⟨k + 1, by omega, rfl, by go_num, by first | exact hB.drew | exact hB⟩
    · go_wp2
      go_ret
      exact ⟨rfl, hB⟩
end Go.Proofs.Yteojgajpokkgiaa

