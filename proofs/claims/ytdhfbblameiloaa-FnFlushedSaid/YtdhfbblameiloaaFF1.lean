/-
  Together: Base, Plain, PutPlain, Info, Draw, But, DrawBut, CurKit, DrawInt, DrawList, DrawIntMem, DiskView
-/
import Derived.WalkKit
import Derived.Deep.OwnRows
import Derived.Deep.LoopGhost
import Derived.OpenShut
import Derived.Laws.BitsAllLaws
import Derived.Laws.Bits128
import Derived.Test.YtdhfbblameiloaaChecked
import Derived.WalkSpells
/-
  What a walk over bytes is told of a slice of bytes that it reads ('View'), and how that is carried from one world to the next. No program text is named here.
-/
namespace Go.Proofs.Ytdhfbblameiloaa
open Go.RowKit
set_option maxRecDepth 4000

/-- The slice value '.slice ao n cap' reads, in the world w, as the n bytes f 0 up to f (n - 1). -/
structure View (w : World) (ao : Option Addr) (n cap : Nat) (f : Nat → Int) : Prop where
  le : n ≤ cap
  byte : ∀ i, i < n → 0 ≤ f i ∧ f i ≤ 255
  cells : 0 < n → ∃ b off, ao = some ⟨b, off, none⟩ ∧ b < w.heap.size ∧ ∀ i, i < n → w.cell? ⟨b, off + i, none⟩ = some (.int .u8 (f i))

/-- What was there reads as it did. -/
theorem View.below {w w' : World} {ao : Option Addr} {n cap : Nat} {f : Nat → Int} (h : View w ao n cap f) (hb : Below w.heap.size w w') : View w' ao n cap f := by
  refine ⟨h.le, h.byte, fun hn => ?_⟩
  obtain ⟨b, off, e, hlt, hc⟩ := h.cells hn
  exact ⟨b, off, e, Nat.lt_of_lt_of_le hlt hb.size, fun i hi => by rw [hb.cell (p := ⟨b, off + i, none⟩) hlt]; exact hc i hi⟩

theorem View.drew {w : World} {ao : Option Addr} {n cap : Nat} {f : Nat → Int} (h : View w ao n cap f) : View w.drew ao n cap f := h.below (Below.refl _ _).drew

theorem View.take {w : World} {ao : Option Addr} {n cap m : Nat} {f : Nat → Int} (h : View w ao n cap f) (hm : m ≤ n) : View w ao m cap f := by
  refine ⟨Nat.le_trans hm h.le, fun i hi => h.byte i (by omega), fun h0 => ?_⟩
  obtain ⟨b, off, e, hb, hc⟩ := h.cells (by omega)
  exact ⟨b, off, e, hb, fun i hi => hc i (by omega)⟩

theorem View.congr {w : World} {ao : Option Addr} {n cap : Nat} {f g : Nat → Int} (h : View w ao n cap f) (e : ∀ i, i < n → f i = g i) : View w ao n cap g := by
  refine ⟨h.le, fun i hi => by rw [← e i hi]; exact h.byte i hi, fun hn => ?_⟩
  obtain ⟨b, off, ea, hlt, hc⟩ := h.cells hn
  exact ⟨b, off, ea, hlt, fun i hi => by rw [← e i hi]; exact hc i hi⟩

/-- What the frame of a row hands over of a slice of bytes that came in, as a view. -/
theorem View.ofIn {w : World} {a : Option Addr} {len cap : Nat} {zs : List Int}
    (h : (a = none ∧ len = 0 ∧ cap = 0 ∧ zs = []) ∨ ∃ x, a = some x ∧ len ≤ cap ∧ cap ≤ maxLen ∧ zs.length = cap ∧ (∀ i, i < zs.length → w.cell? (x.add i) = some (.int .u8 (zs.getD i 0))) ∧ ∀ n ∈ zs, (Lit.int .u8 n).wf = true) :
    View w a len cap (fun i => zs.getD i 0) := by
  rcases h with ⟨rfl, rfl, rfl, rfl⟩ | ⟨x, rfl, hl, _, hz, hc, hw⟩
  · exact ⟨Nat.le_refl _, fun i hi => absurd hi (Nat.not_lt_zero _), fun h => absurd h (Nat.lt_irrefl _)⟩
  · refine ⟨hl, fun i _ => by simpa using range_u8 hw i, fun hn => ?_⟩
    obtain ⟨b, off, spot⟩ := x
    have h0 := hc 0 (by omega)
    have hs : spot = none := by simpa [Addr.add] using World.cell?_spot h0
    subst hs
    refine ⟨b, off, rfl, ?_, fun i hi => ?_⟩
    · exact World.block_lt_of_cell? _ _ h0
    · have h1 := hc i (by omega)
      have e : (⟨b, off, none⟩ : Addr).add i = ⟨b, off + i, none⟩ := by unfold Addr.add; split <;> simp_all
      rw [e] at h1
      exact h1

theorem lenOfIn {w : World} {a : Option Addr} {len cap : Nat} {zs : List Int}
    (h : (a = none ∧ len = 0 ∧ cap = 0 ∧ zs = []) ∨ ∃ x, a = some x ∧ len ≤ cap ∧ cap ≤ maxLen ∧ zs.length = cap ∧ (∀ i, i < zs.length → w.cell? (x.add i) = some (.int .u8 (zs.getD i 0))) ∧ ∀ n ∈ zs, (Lit.int .u8 n).wf = true) : len ≤ 9223372036854775807 := by
  rcases h with ⟨_, rfl, _, _⟩ | ⟨_, _, h1, h2, _⟩
  · exact Nat.zero_le _
  · unfold maxLen at h2; omega

/-- A row of the call's own reads as what it holds. -/
theorem View.ofRow {w : World} {b : Nat} {t : TypeId} {m n cap : Nat} {f : Nat → Int} (h : w.rowIs b t m (fun i => .int .u8 (f i))) (hn : n ≤ m) (hc : n ≤ cap) (hb : ∀ i, i < n → 0 ≤ f i ∧ f i ≤ 255) : View w (some ⟨b, 0, none⟩) n cap f :=
  ⟨hc, hb, fun _ => ⟨b, 0, rfl, h.lt, fun i hi => by rw [Nat.zero_add]; exact h.cell (by omega)⟩⟩

theorem rowBelow {w w' : World} {b : Nat} {t : TypeId} {n : Nat} {f : Nat → Value} {B : Nat} (h : w.rowIs b t n f) (hb : Below B w w') (hlt : b < B) : w'.rowIs b t n f := h.of_block (hb.block b hlt)

/-- Block b is a row of bytes of the call's own, none frozen, whose first n are f 0 up to f (n - 1) (t: the number of the bytes' type). -/
def Row (t : TypeId) (w : World) (b n : Nat) (f : Nat → Int) : Prop :=
  ∃ c : Array Value, w.heap[b]? = some (.cells c t (0, 0)) ∧ n ≤ c.size ∧ ∀ i, i < n → c[i]? = some (.int .u8 (f i))

namespace Row
variable {t : TypeId} {w w' : World} {b n : Nat} {f g : Nat → Int}
theorem cell (h : Row t w b n f) {i : Nat} (hi : i < n) : w.cell? ⟨b, i, none⟩ = some (.int .u8 (f i)) := by
  obtain ⟨c, hb, _, hc⟩ := h
  simp [World.cell?, hb, hc i hi]
theorem frozen (h : Row t w b n f) (i : Nat) : w.frozen? ⟨b, i, none⟩ = false := by
  obtain ⟨c, hb, _, _⟩ := h
  simp [World.frozen?, hb]
theorem lt (h : Row t w b n f) : b < w.heap.size := by
  obtain ⟨c, hb, _, _⟩ := h
  exact (Array.getElem?_eq_some_iff.1 hb).1
theorem congr (h : Row t w b n f) (e : ∀ i, i < n → f i = g i) : Row t w b n g := by
  obtain ⟨c, hb, hn, hc⟩ := h
  exact ⟨c, hb, hn, fun i hi => by rw [hc i hi, e i hi]⟩
theorem of_block (h : Row t w b n f) (e : w'.heap[b]? = w.heap[b]?) : Row t w' b n f := by
  obtain ⟨c, hb, hn, hc⟩ := h
  exact ⟨c, e.trans hb, hn, hc⟩
theorem below {B : Nat} (h : Row t w b n f) (hb : Below B w w') (hlt : b < B) : Row t w' b n f := h.of_block (hb.block b hlt)
theorem belowAll (h : Row t w b n f) (hb : Below w.heap.size w w') : Row t w' b n f := h.below hb h.lt
theorem ofIs (h : w.rowIs b t n (fun i => .int .u8 (f i))) : Row t w b n f := by
  obtain ⟨c, hb, hn, hc⟩ := h
  exact ⟨c, hb, by omega, hc⟩
theorem set (h : Row t w b n f) (i : Nat) (x : Int) : Row t (w.setCell ⟨b, i, none⟩ (.int .u8 x)) b n (fun j => if j = i then x else f j) := by
  obtain ⟨c, hb, hn, hc⟩ := h
  refine ⟨c.setIfInBounds i (.int .u8 x), ?_, by simpa using hn, fun j hj => ?_⟩
  · simp [World.setCell, Array.getElem?_modify, hb]
  · rw [Array.getElem?_setIfInBounds]
    by_cases e : j = i
    · subst e
      have : j < c.size := by omega
      simp [this]
    · rw [if_neg (fun h => e h.symm)]
      show c[j]? = some (.int .u8 (if j = i then x else f j))
      rw [if_neg e]
      exact hc j hj
theorem view {cap : Nat} (h : Row t w b n f) (hc : n ≤ cap) (hb : ∀ i, i < n → 0 ≤ f i ∧ f i ≤ 255) : View w (some ⟨b, 0, none⟩) n cap f :=
  ⟨hc, hb, fun _ => ⟨b, 0, rfl, h.lt, fun i hi => by rw [Nat.zero_add]; exact h.cell hi⟩⟩
end Row

/-- Block b alone may have turned; no block has come or gone. -/
structure Only (b : Nat) (w w' : World) : Prop where
  os : w'.os = w.os
  tape : w'.tape = w.tape
  output : w'.output = w.output
  size : w'.heap.size = w.heap.size
  block : ∀ k, k ≠ b → w'.heap[k]? = w.heap[k]?

theorem Only.refl (b : Nat) (w : World) : Only b w w := ⟨rfl, rfl, rfl, rfl, fun _ _ => rfl⟩
theorem Only.drew {b : Nat} {w w' : World} (h : Only b w w') : Only b w w'.drew := ⟨h.os, h.tape, h.output, h.size, h.block⟩
theorem Only.setCell {b i : Nat} {w w' : World} (h : Only b w w') (u : Value) : Only b w (w'.setCell ⟨b, i, none⟩ u) :=
  ⟨h.os, h.tape, h.output, by simpa using h.size, fun k hk => by rw [Below.heap_setCell _ _ _ _ (by exact hk)]; exact h.block k hk⟩
theorem Only.below {b B : Nat} {w w' : World} (h : Only b w w') (hB : B ≤ b) : Below B w w' :=
  ⟨h.os, h.tape, h.output, by rw [h.size]; exact Nat.le_refl _, fun k hk => h.block k (by omega)⟩
theorem Only.row {t : TypeId} {b b' n : Nat} {f : Nat → Int} {w w' : World} (h : Only b w w') (hr : Row t w b' n f) (hne : b' ≠ b) : Row t w' b' n f := hr.of_block (h.block b' hne)
theorem Only.view {b : Nat} {ao : Option Addr} {n cap : Nat} {f : Nat → Int} {w w' : World} (h : Only b w w') (hv : View w ao n cap f) (hne : ∀ a, ao = some a → a.block ≠ b) : View w' ao n cap f := by
  refine ⟨hv.le, hv.byte, fun hn => ?_⟩
  obtain ⟨b', off, e, hlt, hc⟩ := hv.cells hn
  refine ⟨b', off, e, by rw [h.size]; exact hlt, fun i hi => ?_⟩
  rw [World.cell?_of_block (w := w) (h.block b' (hne _ e))]
  exact hc i hi

end Go.Proofs.Ytdhfbblameiloaa

/-
  Plain facts on numbers: and, or, exclusive or of two numbers that are not negative, as Go's int has them. No program text is named here.
-/
namespace Go.Proofs.Ytdhfbblameiloaa
open Go.RowKit
set_option maxRecDepth 4000

theorem wrapNat63 (n : Nat) (h : n < 9223372036854775808) : IntKind.i64.wrap (n : Int) = (n : Int) := by
  rw [IntKind.wrap_i64]; omega

theorem i64_xor_nat (a b : Nat) (ha : a < 9223372036854775808) (hb : b < 9223372036854775808) : bits .xor .i64 (a : Int) (b : Int) = ((a ^^^ b : Nat) : Int) := by
  have h : a ^^^ b < 9223372036854775808 := Nat.xor_lt_two_pow (n := 63) ha hb
  show IntKind.i64.wrap ((BitVec.ofInt 64 (a : Int) ^^^ BitVec.ofInt 64 (b : Int)).toNat : Nat) = _
  rw [BitVec.toNat_xor, ofInt_u64 a (by omega), ofInt_u64 b (by omega), wrapNat63 _ h]

theorem i64_or_nat (a b : Nat) (ha : a < 9223372036854775808) (hb : b < 9223372036854775808) : bits .or .i64 (a : Int) (b : Int) = ((a ||| b : Nat) : Int) := by
  have h : a ||| b < 9223372036854775808 := Nat.or_lt_two_pow (n := 63) ha hb
  show IntKind.i64.wrap ((BitVec.ofInt 64 (a : Int) ||| BitVec.ofInt 64 (b : Int)).toNat : Nat) = _
  rw [BitVec.toNat_or, ofInt_u64 a (by omega), ofInt_u64 b (by omega), wrapNat63 _ h]

theorem i64_and_nat (a b : Nat) (ha : a < 9223372036854775808) (hb : b < 9223372036854775808) : bits .and .i64 (a : Int) (b : Int) = ((a &&& b : Nat) : Int) := by
  have h : a &&& b < 9223372036854775808 := Nat.and_lt_two_pow (n := 63) _ hb
  show IntKind.i64.wrap ((BitVec.ofInt 64 (a : Int) &&& BitVec.ofInt 64 (b : Int)).toNat : Nat) = _
  rw [BitVec.toNat_and, ofInt_u64 a (by omega), ofInt_u64 b (by omega), wrapNat63 _ h]

theorem i64_and1 (n : Nat) (h : n < 9223372036854775808) : bits .and .i64 (n : Int) 1 = ((n % 2 : Nat) : Int) := by
  have := i64_and_nat n 1 h (by decide)
  rw [nat_mask1] at this; exact this

/-- What is laid above the lower i bits is added. -/
theorem i64_or_add (i : Nat) (a b : Int) (h0 : 0 ≤ a) (h1 : a < 2 ^ i) (h2 : 0 ≤ b) (h3 : b % 2 ^ i = 0) (h4 : b < 9223372036854775808) (h5 : (2 : Int) ^ i ≤ 9223372036854775808) : bits .or .i64 a b = a + b := by
  obtain ⟨x, rfl⟩ := Int.eq_ofNat_of_zero_le h0
  obtain ⟨y, rfl⟩ := Int.eq_ofNat_of_zero_le h2
  have e : ((2 ^ i : Nat) : Int) = 2 ^ i := by simp
  rw [← e] at h1 h3 h5
  have h3' : y % 2 ^ i = 0 := by omega
  rw [i64_or_nat x y (by omega) (by omega), Nat.or_comm, nat_join i y x h3' (by omega)]
  omega

theorem u8_wrap (x : Int) : IntKind.u8.wrap x = x % 256 := by simp [IntKind.wrap, IntKind.bits, IntKind.signed]

end Go.Proofs.Ytdhfbblameiloaa

/-
  A number as its groups, plainly; lists of bytes that the call owns as rows.
-/
namespace Go.Proofs.Ytdhfbblameiloaa
open Go.RowKit
set_option maxRecDepth 4000

def groups (x : Int) : List Int := if x < 128 then [x] else if x < 16384 then [x % 128 + 128, x / 128] else [x % 128 + 128, x / 128 % 128 + 128, x / 16384]
theorem groups_last (x : Int) (h : x < 128) : groups x = [x] := by unfold groups; rw [if_pos h]
theorem groups_step (x : Int) (h : 128 ≤ x) (h1 : x ≤ 1000000) : groups x = (x % 128 + 128) :: groups (x / 128) := by
  unfold groups
  rw [if_neg (by omega)]
  by_cases h2 : x < 16384
  · rw [if_pos h2, if_pos (by omega)]
  · rw [if_neg h2, if_neg (by omega), if_pos (by omega)]
    have : x / 128 / 128 = x / 16384 := by omega
    rw [this]
theorem groups_len (x : Int) : 1 ≤ (groups x).length ∧ (groups x).length ≤ 3 := by
  unfold groups; split
  · simp
  · split <;> simp
theorem groups_byte (x : Int) (h0 : 0 ≤ x) (h1 : x ≤ 1000000) : ∀ y ∈ groups x, 0 ≤ y ∧ y ≤ 255 := by
  unfold groups; intro y hy; split at hy
  · simp at hy; omega
  · split at hy
    · simp at hy; omega
    · simp at hy; omega

def clampN (x : Int) : Int := if x < 0 then 0 else if 1000000 < x then 1000000 else x
theorem clampN_bd (x : Int) : 0 ≤ clampN x ∧ clampN x ≤ 1000000 := by unfold clampN; split <;> (try split) <;> omega

def lof (n : Nat) (f : Nat → Int) : List Int := (List.range n).map f
theorem lof_len (n : Nat) (f : Nat → Int) : (lof n f).length = n := by simp [lof]
theorem lof_get (n : Nat) (f : Nat → Int) (i : Nat) (h : i < n) : (lof n f).getD i 0 = f i := by simp [lof, h]
def bl (l : List Int) : List Value := l.map (Value.int .u8)
theorem bl_len (l : List Int) : (bl l).length = l.length := by simp [bl]
theorem bl_append (l m : List Int) : bl (l ++ m) = bl l ++ bl m := by simp [bl]
theorem bl_one (l : List Int) : ∀ u ∈ bl l, u.oneCell' = true := by
  intro u hu
  simp only [bl, List.mem_map] at hu
  obtain ⟨x, _, rfl⟩ := hu
  rfl

/-- What the call owns as a list of bytes, as a row. -/
theorem row_of_own {base : Nat} {t : TypeId} {v : Value} {N : Nat} {l : List Int} {w : World} (h : w.ownsRow base t 1 v N (bl l)) (hN : 0 < N) :
    ∃ g c, v = .slice (some ⟨g, 0, none⟩) N c ∧ base ≤ g ∧ N ≤ c ∧ Row t w g N (fun i => l.getD i 0) := by
  obtain ⟨hl, h⟩ := h
  rcases h with ⟨_, h0⟩ | ⟨g, c, cur, rfl, hb, hg, hnc, _, hcs, ht⟩
  · omega
  · refine ⟨g, c, rfl, hb, hnc, cur, hg, by omega, fun i hi => ?_⟩
    have e : (bl l)[i]? = some (.int .u8 (l.getD i 0)) := by
      have : i < l.length := by rw [bl_len] at hl; omega
      simp [bl, this]
    rw [← ht, List.getElem?_take, if_pos (by omega)] at e
    simpa using e

theorem row_of_own' {base : Nat} {t : TypeId} {v : Value} {N : Nat} {l : List Int} {w : World} (h : w.ownsRow base t 1 v N (bl l)) (hv : v ≠ .slice none 0 0) :
    ∃ g c, v = .slice (some ⟨g, 0, none⟩) N c ∧ base ≤ g ∧ N ≤ c ∧ Row t w g N (fun i => l.getD i 0) := by
  obtain ⟨hl, h⟩ := h
  rcases h with ⟨h0, _⟩ | ⟨g, c, cur, rfl, hb, hg, hnc, _, hcs, ht⟩
  · exact absurd h0 hv
  · refine ⟨g, c, rfl, hb, hnc, cur, hg, by omega, fun i hi => ?_⟩
    have e : (bl l)[i]? = some (.int .u8 (l.getD i 0)) := by
      have : i < l.length := by rw [bl_len] at hl; omega
      simp [bl, this]
    rw [← ht, List.getElem?_take, if_pos (by omega)] at e
    simpa using e
theorem row_of_owned {base : Nat} {t : TypeId} {g N c : Nat} {l : List Int} {w : World} (h : w.ownsRow base t 1 (.slice (some ⟨g, 0, none⟩) N c) N (bl l)) : Row t w g N (fun i => l.getD i 0) := by
  obtain ⟨hl, h⟩ := h
  rcases h with ⟨h, _⟩ | ⟨g', c', cur, e, hb, hg, hnc, _, hcs, ht⟩
  · cases h
  · simp only [Value.slice.injEq, Option.some.injEq, Addr.mk.injEq, and_true, true_and] at e
    obtain ⟨rfl, rfl⟩ := e
    refine ⟨cur, hg, by omega, fun i hi => ?_⟩
    have e : (bl l)[i]? = some (.int .u8 (l.getD i 0)) := by
      have : i < l.length := by rw [bl_len] at hl; omega
      simp [bl, this]
    rw [← ht, List.getElem?_take, if_pos (by omega)] at e
    simpa using e
theorem lof_self (l : List Int) : lof l.length (fun i => l.getD i 0) = l := by
  apply List.ext_getElem
  · simp [lof]
  · intro i h1 h2
    simp [lof, h2]

/-- One new cell. -/
theorem cellNew (w : World) (x : Value) (t : TypeId) : ∀ j u, [x][j]? = some u → (w.alloc (.cells #[x] t)).cell? ((⟨w.heap.size, 0, none⟩ : Addr).add j) = some u := by
  intro j u hj
  match j, hj with
  | 0, hj => simp at hj; subst hj; simp [Addr.add]

/-- The cells of a slice that reads, as the law on appending asks for them. -/
theorem cells_of_view {w : World} {b off n cap : Nat} {f : Nat → Int} (h : View w (some ⟨b, off, none⟩) n cap f) : ∀ j u, (bl (lof n f))[j]? = some u → w.cell? ((⟨b, off, none⟩ : Addr).add j) = some u := by
  intro j u hu
  have hj : j < n := by
    by_cases hj : j < n
    · exact hj
    · rw [List.getElem?_eq_none (by rw [bl_len, lof_len]; omega)] at hu; cases hu
  obtain ⟨b', off', e, _, hc⟩ := h.cells (by omega)
  simp only [Option.some.injEq, Addr.mk.injEq, and_true] at e
  obtain ⟨rfl, rfl⟩ := e
  have ea : (⟨b, off, none⟩ : Addr).add j = ⟨b, off + j, none⟩ := by unfold Addr.add; split <;> simp_all
  rw [ea, hc j hj]
  simp [bl, lof, hj] at hu
  rw [hu]

theorem put_byte (n : Nat) (f : Nat → Int) (gs : List Int) (hf : ∀ i, i < n → 0 ≤ f i ∧ f i ≤ 255) (hg : ∀ y ∈ gs, 0 ≤ y ∧ y ≤ 255) : ∀ i, i < n + gs.length → 0 ≤ (lof n f ++ gs).getD i 0 ∧ (lof n f ++ gs).getD i 0 ≤ 255 := by
  intro i hi
  by_cases h : i < n
  · have e : (lof n f ++ gs).getD i 0 = f i := by
      rw [← lof_get n f i h, List.getD_eq_getElem?_getD, List.getD_eq_getElem?_getD, List.getElem?_append_left (by rw [lof_len]; exact h)]
    rw [e]; exact hf i h
  · have e : (lof n f ++ gs).getD i 0 = gs.getD (i - n) 0 := by
      rw [List.getD_eq_getElem?_getD, List.getD_eq_getElem?_getD, List.getElem?_append_right (by rw [lof_len]; omega), lof_len]
    rw [e]
    have hi' : i - n < gs.length := by omega
    have : gs.getD (i - n) 0 = gs[i - n] := by simp [hi']
    rw [this]
    exact hg _ (List.getElem_mem hi')

end Go.Proofs.Ytdhfbblameiloaa

/-
  What the table of the types says of the bytes.
-/
namespace Go.Proofs.Ytdhfbblameiloaa
open Go.RowKit
set_option maxRecDepth 4000

theorem Try.info5 : (Try.prog.info? 5).map (fun i => (i.zero, i.size, i.bytes)) = some (some (.int .u8 0), 1, 1) := by kernel_rfl

end Go.Proofs.Ytdhfbblameiloaa

/-
  The cursor that the draws go by: what each draw comes to, as far as a law leans on it: a number within its bounds, bytes of their own; nothing turns but the cursor.
-/
namespace Go.Proofs.Ytdhfbblameiloaa
open Go.RowKit
set_option maxRecDepth 4000

theorem i64_and255 (n : Int) : bits .and .i64 n 255 = n % 256 := by
  have h255 : (BitVec.ofInt 64 255).toNat = 2 ^ 8 - 1 := by decide
  have key : (BitVec.ofInt 64 n &&& BitVec.ofInt 64 255).toNat = (n % ((2 ^ 64 : Nat) : Int)).toNat % 2 ^ 8 := by
    rw [BitVec.toNat_and, BitVec.toNat_ofInt, h255, Nat.and_two_pow_sub_one_eq_mod]
  show IntKind.i64.wrap ((BitVec.ofInt 64 n &&& BitVec.ofInt 64 255).toNat : Nat) = n % 256
  rw [key, IntKind.wrap_i64]
  omega

theorem Only.trans {b : Nat} {w w1 w2 : World} (h : Only b w w1) (k : Only b w1 w2) : Only b w w2 :=
  ⟨k.os.trans h.os, k.tape.trans h.tape, k.output.trans h.output, k.size.trans h.size, fun i hi => (k.block i hi).trans (h.block i hi)⟩

/-- The three cells of a cursor. -/
def curF (ao : Option Addr) (n cap : Nat) (i h : Int) : Nat → Value
  | 0 => .slice ao n cap
  | 1 => .int .i64 i
  | _ => .int .i64 h

structure Cur (w : World) (g : Nat) (ao : Option Addr) (n cap : Nat) (f : Nat → Int) : Prop where
  cells : ∃ i h : Int, w.rowIs g 132 3 (curF ao n cap i h) ∧ 0 ≤ i ∧ i ≤ n
  view : View w ao n cap f
  apart : ∀ a, ao = some a → 0 < n → a.block ≠ g

theorem Cur.lt {w : World} {g : Nat} {ao : Option Addr} {n cap : Nat} {f : Nat → Int} (h : Cur w g ao n cap f) : g < w.heap.size := by
  obtain ⟨i, k, hr, _⟩ := h.cells
  exact hr.lt

theorem Cur.below {w w' : World} {g : Nat} {ao : Option Addr} {n cap : Nat} {f : Nat → Int} (h : Cur w g ao n cap f) (hb : Below w.heap.size w w') : Cur w' g ao n cap f := by
  obtain ⟨i, k, hr, h0, h1⟩ := h.cells
  exact ⟨⟨i, k, hr.of_block (hb.block g hr.lt), h0, h1⟩, h.view.below hb, h.apart⟩

set_option maxHeartbeats 2000000 in
theorem l1Byte_any (g : Nat) (ao : Option Addr) (n cap : Nat) (f : Nat → Int) (w : World) (hn : n ≤ 1048576) (hC : Cur w g ao n cap f) :
    Calls Try.prog 124 #[.pointer (some ⟨g, 0, none⟩)] w fun e w' => ∃ x : Int, e = .returned (.int .i64 x) ∧ 0 ≤ x ∧ x ≤ 255 ∧ Cur w' g ao n cap f ∧ Only g w w' := by
  obtain ⟨i, h, hr, hi0, hi1⟩ := hC.cells
  have c0 : w.cell? ⟨g, 0, none⟩ = some (.slice ao n cap) := hr.cell (by decide)
  have c1 : w.cell? ⟨g, 1, none⟩ = some (.int .i64 i) := hr.cell (by decide)
  have c2 : w.cell? ⟨g, 2, none⟩ = some (.int .i64 h) := hr.cell (by decide)
  have z1 := hr.frozen 1
  have z2 := hr.frozen 2
  have hA : ∀ z : Int, bits .and .i64 z 255 = z % 256 := i64_and255
  by_cases hlt : i < n
  · have hv := hC.view
    obtain ⟨b, off, rfl, hb, hc⟩ := hv.cells (by omega)
    have hne : b ≠ g := hC.apart _ rfl (by omega)
    obtain ⟨k, rfl⟩ := Int.eq_ofNat_of_zero_le hi0
    have hbk := hv.byte k (by omega)
    have hck := hc k (by omega)
    clear hc
    go_enter Try.func124, Try.ntmps124
    go_wp2
    go_region
    all_goals go_wp2
    all_goals go_region
    all_goals go_wp2
    all_goals go_region
    all_goals go_wp2
    go_ret
    have hO : Only g w ((w.setCell ⟨g, 2, none⟩ (.int .i64 (wrap64 (wrap64 (h * 6364136223846793005) + 1442695040888963407)))).setCell ⟨g, 1, none⟩ (.int .i64 ((k : Int) + 1))) := ((Only.refl _ _).setCell _).setCell _
    have hR := ((hr.set 2 (.int .i64 (wrap64 (wrap64 (h * 6364136223846793005) + 1442695040888963407)))).set 1 (.int .i64 ((k : Int) + 1))).congr (g := curF (some ⟨b, off, none⟩) n cap ((k : Int) + 1) (wrap64 (wrap64 (h * 6364136223846793005) + 1442695040888963407)))
      (fun j hj => by match j, hj with | 0, _ => rfl | 1, _ => rfl | 2, _ => rfl)
    exact ⟨_, rfl, by omega, by omega, ⟨⟨_, _, hR, by omega, by omega⟩, (hO.view hv (fun a ha => hC.apart a ha (by omega))).drew.drew.drew, hC.apart⟩, hO.os, hO.tape, hO.output, hO.size, hO.block⟩
  · go_enter Try.func124, Try.ntmps124
    go_wp2
    go_region
    all_goals go_wp2
    all_goals go_region
    all_goals go_wp2
    go_ret
    have hO : Only g w (w.setCell ⟨g, 2, none⟩ (.int .i64 (wrap64 (wrap64 (h * 6364136223846793005) + 1442695040888963407)))) := (Only.refl _ _).setCell _
    have hR := (hr.set 2 (.int .i64 (wrap64 (wrap64 (h * 6364136223846793005) + 1442695040888963407)))).congr (g := curF ao n cap i (wrap64 (wrap64 (h * 6364136223846793005) + 1442695040888963407)))
      (fun j hj => by match j, hj with | 0, _ => rfl | 1, _ => rfl | 2, _ => rfl)
    have hV : View (w.setCell ⟨g, 2, none⟩ (.int .i64 (wrap64 (wrap64 (h * 6364136223846793005) + 1442695040888963407)))) ao n cap f := by
      by_cases h0 : 0 < n
      · exact hO.view hC.view (fun a ha => hC.apart a ha h0)
      · exact ⟨hC.view.le, hC.view.byte, fun h => absurd h h0⟩
    exact ⟨_, rfl, by omega, by omega, ⟨⟨_, _, hR, hi0, hi1⟩, hV.drew.drew, hC.apart⟩, hO.os, hO.tape, hO.output, hO.size, hO.block⟩

set_option maxHeartbeats 1000000 in
theorem l1Below_any (g : Nat) (ao : Option Addr) (n cap : Nat) (f : Nat → Int) (m : Int) (w : World) (hn : n ≤ 1048576) (hm : 0 < m) (hm1 : m ≤ 16777216) (hC : Cur w g ao n cap f) :
    Calls Try.prog 80 #[.pointer (some ⟨g, 0, none⟩), .int .i64 m] w fun e w' => ∃ x : Int, e = .returned (.int .i64 x) ∧ 0 ≤ x ∧ x < m ∧ Cur w' g ao n cap f ∧ Only g w w' := by
  by_cases h256 : m ≤ 256
  · go_enter Try.func80, Try.ntmps80
    go_wp2_with fail
    refine (l1Byte_any g ao n cap f w hn hC).mono ?_
    rintro e w1 ⟨x, rfl, hx0, hx1, hC1, hO1⟩
    go_wp2
    go_ret
    exact ⟨_, rfl, Int.emod_nonneg _ (by omega), Int.emod_lt_of_pos _ hm, hC1, hO1⟩
  · go_enter Try.func80, Try.ntmps80
    go_wp2_with fail
    refine (l1Byte_any g ao n cap f w hn hC).mono ?_
    rintro e w1 ⟨x, rfl, hx0, hx1, hC1, hO1⟩
    go_wp2_with fail
    refine (l1Byte_any g ao n cap f w1 hn hC1).mono ?_
    rintro e w2 ⟨y, rfl, hy0, hy1, hC2, hO2⟩
    go_wp2_with fail
    refine (l1Byte_any g ao n cap f w2 hn hC2).mono ?_
    rintro e w3 ⟨z, rfl, hz0, hz1, hC3, hO3⟩
    go_wp2
    go_ret
    exact ⟨_, rfl, Int.emod_nonneg _ (by omega), Int.emod_lt_of_pos _ hm, hC3, (hO1.trans hO2).trans hO3⟩

set_option maxHeartbeats 1000000 in
theorem l1New_any (ao : Option Addr) (n cap : Nat) (f : Nat → Int) (w : World) (hn : n ≤ 1048576) (hv : View w ao n cap f) :
    Calls Try.prog 77 #[.slice ao n cap] w fun e w' => e = .returned (.pointer (some ⟨w.heap.size, 0, none⟩)) ∧ Cur w' w.heap.size ao n cap f ∧ Below w.heap.size w w' := by
  go_enter Try.func77, Try.ntmps77
  go_wp2
  go_loopg [3, 4] n (fun q s i wr => w = wr ∧ ∃ (k : Nat) (h : Int), k ≤ n ∧ q = n - k ∧ s = .int .i64 h ∧ i = .int .i64 k)
  case atStart => exact ⟨rfl, 0, _, Nat.zero_le _, rfl, rfl, rfl⟩
  case round =>
    obtain ⟨rfl, k, h, hk, rfl, rfl, rfl⟩ := hrel
    by_cases hlt : k < n
    · obtain ⟨b, off, rfl, hb, hc⟩ := hv.cells (by omega)
      have hkz : (k : Int) < (n : Int) := by omega
      have hc1 := hc k hlt
      have hbk := hv.byte k hlt
      by_cases h4 : k < 4000
      · have hz4 : (k : Int) < 4000 := by omega
        clear hc
        go_wp2
        go_roundg (n - (k + 1))
        case measure => omega
        case rel => exact ⟨rfl, k + 1, _, by omega, rfl, rfl, by go_num⟩
      · have hz4 : ¬ (k : Int) < 4000 := by omega
        clear h4
        clear hc
        go_wp2
        go_ret
        refine ⟨rfl, ⟨⟨0, _, World.rowIs_alloc w _ 132 (curF (some ⟨b, off, none⟩) n cap 0 h) (fun j hj => ?_), by omega, by omega⟩, hv.below ((Below.refl _ _).alloc (Nat.le_refl _) _), fun a ha _ => ?_⟩, (Below.refl _ _).alloc (Nat.le_refl _) _⟩
        · match j, hj with | 0, _ => rfl | 1, _ => rfl | 2, _ => rfl
        · cases ha; show b ≠ w.heap.size; omega
    · have hkz : (n : Int) ≤ (k : Int) := by omega
      go_wp2
      go_ret
      refine ⟨rfl, ⟨⟨0, _, World.rowIs_alloc w _ 132 (curF ao n cap 0 h) (fun j hj => ?_), by omega, by omega⟩, hv.below ((Below.refl _ _).alloc (Nat.le_refl _) _), fun a ha h0 => ?_⟩, (Below.refl _ _).alloc (Nat.le_refl _) _⟩
      · match j, hj with | 0, _ => rfl | 1, _ => rfl | 2, _ => rfl
      · obtain ⟨b, off, e, hb, _⟩ := hv.cells h0
        rw [e] at ha; cases ha; show b ≠ w.heap.size; omega
end Go.Proofs.Ytdhfbblameiloaa

/-
  What turns but one block: how it is carried.
-/
namespace Go.Proofs.Ytdhfbblameiloaa
open Go.RowKit
set_option maxRecDepth 4000

/-- Of what was there block g alone may have turned. -/
structure But (g : Nat) (w w' : World) : Prop where
  os : w'.os = w.os
  tape : w'.tape = w.tape
  output : w'.output = w.output
  size : w.heap.size ≤ w'.heap.size
  block : ∀ k, k < w.heap.size → k ≠ g → w'.heap[k]? = w.heap[k]?

theorem But.refl (g : Nat) (w : World) : But g w w := ⟨rfl, rfl, rfl, Nat.le_refl _, fun _ _ _ => rfl⟩
theorem But.trans {g : Nat} {a b c : World} (h : But g a b) (k : But g b c) : But g a c :=
  ⟨k.os.trans h.os, k.tape.trans h.tape, k.output.trans h.output, Nat.le_trans h.size k.size, fun i hi hg => (k.block i (Nat.lt_of_lt_of_le hi h.size) hg).trans (h.block i hi hg)⟩
theorem But.ofOnly {g : Nat} {w w' : World} (h : Only g w w') : But g w w' := ⟨h.os, h.tape, h.output, by rw [h.size]; exact Nat.le_refl _, fun k _ hk => h.block k hk⟩
theorem But.ofBelow {g : Nat} {w w' : World} (h : Below w.heap.size w w') : But g w w' := ⟨h.os, h.tape, h.output, h.size, fun k hk _ => h.block k hk⟩
theorem But.below {g B : Nat} {w w' : World} (h : But g w w') (hB : B ≤ g) (hs : B ≤ w.heap.size) : Below B w w' := ⟨h.os, h.tape, h.output, h.size, fun k hk => h.block k (by omega) (by omega)⟩
theorem But.row {t : TypeId} {g b n : Nat} {f : Nat → Int} {w w' : World} (h : But g w w') (hr : Row t w b n f) (hne : b ≠ g) : Row t w' b n f := hr.of_block (h.block b hr.lt hne)
theorem But.view {g : Nat} {ao : Option Addr} {n cap : Nat} {f : Nat → Int} {w w' : World} (h : But g w w') (hv : View w ao n cap f) (hne : ∀ a, ao = some a → 0 < n → a.block ≠ g) : View w' ao n cap f := by
  refine ⟨hv.le, hv.byte, fun hn => ?_⟩
  obtain ⟨b', off, e, hlt, hc⟩ := hv.cells hn
  refine ⟨b', off, e, Nat.lt_of_lt_of_le hlt h.size, fun i hi => ?_⟩
  rw [World.cell?_of_block (w := w) (h.block b' hlt (hne _ e hn))]
  exact hc i hi
theorem Only.grown {g : Nat} {w w' : World} (h : Only g w w') : w.grownBy w' (some g) :=
  ⟨h.os, h.tape, h.output, by rw [h.size]; exact Nat.le_refl _, fun k _ hk => h.block k (fun e => hk (by rw [e]))⟩
theorem But.grown {g : Nat} {w w' : World} (h : But g w w') : w.grownBy w' (some g) := ⟨h.os, h.tape, h.output, h.size, fun k hk hne => h.block k hk (fun e => hne (by rw [e]))⟩
end Go.Proofs.Ytdhfbblameiloaa

/-
  What turns but the cursor: how it is carried.
-/
namespace Go.Proofs.Ytdhfbblameiloaa
open Go.RowKit
set_option maxRecDepth 4000

theorem Cur.grown {w w' : World} {g : Nat} {ao : Option Addr} {n cap : Nat} {f : Nat → Int} {row : Option Nat} (h : Cur w g ao n cap f) (hg : w.grownBy w' row) (h1 : row ≠ some g) (h2 : ∀ a, ao = some a → 0 < n → row ≠ some a.block) : Cur w' g ao n cap f := by
  obtain ⟨i, k, hr, h0, hi⟩ := h.cells
  refine ⟨⟨i, k, hr.of_block (hg.block g hr.lt (fun e => h1 e.symm)), h0, hi⟩, ⟨h.view.le, h.view.byte, fun hn => ?_⟩, h.apart⟩
  obtain ⟨b', off, e, hlt, hc⟩ := h.view.cells hn
  refine ⟨b', off, e, Nat.lt_of_lt_of_le hlt hg.size, fun j hj => ?_⟩
  rw [World.cell?_of_block (w := w) (hg.block b' hlt (fun e' => h2 _ e hn e'.symm))]
  exact hc j hj
theorem Cur.code {w : World} {g : Nat} {ao : Option Addr} {n cap : Nat} {f : Nat → Int} (h : Cur w g ao n cap f) : ∀ a, ao = some a → 0 < n → a.block < w.heap.size := by
  rintro a rfl hn
  obtain ⟨b, off, e, hlt, _⟩ := h.view.cells hn
  cases e
  exact hlt

end Go.Proofs.Ytdhfbblameiloaa

/-
  The cursor and rows of the call's own, how they are carried.
-/
namespace Go.Proofs.Ytdhfbblameiloaa
open Go.RowKit
set_option maxRecDepth 4000

theorem own_blkN {W : World} {base T c N : Nat} {v : Value} {xs : List Value} (h : W.ownsRow base T c v N xs) {k : Nat} (hk : v.ownBlock = some k) : base ≤ k ∧ k < W.heap.size ∧ ∃ cur z, W.heap[k]? = some (.cells cur T z) := by
  rcases h.2 with ⟨e, -⟩ | ⟨g, cp, cur, e, hb, hg, -⟩
  · rw [e] at hk; cases hk
  · rw [e] at hk
    simp only [Value.ownBlock, Option.some.injEq] at hk
    subst hk
    exact ⟨hb, (Array.getElem?_eq_some_iff.1 hg).1, cur, _, hg⟩
theorem own_grownN {W W' : World} {base T c N : Nat} {v : Value} {xs : List Value} {row : Option Nat} (h : W.ownsRow base T c v N xs) (hg : W.grownBy W' row) (hne : ∀ k, v.ownBlock = some k → row ≠ some k) : W'.ownsRow base T c v N xs := by
  refine ⟨h.1, ?_⟩
  rcases h.2 with ⟨e, h0⟩ | ⟨g, k, cur, e, hb0, hg0, hr⟩
  · exact .inl ⟨e, h0⟩
  · refine .inr ⟨g, k, cur, e, hb0, ?_, hr⟩
    rw [hg.block g (Array.getElem?_eq_some_iff.1 hg0).1 (fun x => hne g (by rw [e]; rfl) x.symm)]
    exact hg0
theorem grown_set (W : World) (B i : Nat) (u : Value) : W.grownBy (W.setCell ⟨B, i, none⟩ u) (some B) :=
  ⟨rfl, rfl, rfl, by simp, fun k _ hk => Below.heap_setCell _ _ _ _ (fun e => hk (by rw [show k = B from e]))⟩
theorem own_base' {W : World} {base base' T c N : Nat} {v : Value} {xs : List Value} (h : W.ownsRow base T c v N xs) (hb : ∀ k, v.ownBlock = some k → base' ≤ k) : W.ownsRow base' T c v N xs := by
  refine ⟨h.1, ?_⟩
  rcases h.2 with ⟨e, h0⟩ | ⟨g, k, cur, e, hb0, hr⟩
  · exact .inl ⟨e, h0⟩
  · exact .inr ⟨g, k, cur, e, hb g (by rw [e]; rfl), hr⟩

theorem own_form {W : World} {base T c N : Nat} {v : Value} {xs : List Value} (h : W.ownsRow base T c v N xs) (hc : 0 < c := by decide) : ∃ a k, v = .slice a N k := by
  obtain ⟨hl, h⟩ := h
  rcases h with ⟨rfl, h0⟩ | ⟨g, k, cur, rfl, -⟩
  · have hN : N = 0 := by
      rcases Nat.eq_zero_or_pos N with h | h
      · exact h
      · have := Nat.mul_pos h hc
        omega
    subst hN
    exact ⟨none, 0, rfl⟩
  · exact ⟨_, k, rfl⟩
/-- The cursor, where the draw began, and that it alone of what was there has turned. -/
structure CN (w : World) (g : Nat) (ao : Option Addr) (n cap : Nat) (f : Nat → Int) (W : World) : Prop where
  cur : Cur W g ao n cap f
  but : But g w W
  lt : g < w.heap.size
  code : ∀ a, ao = some a → 0 < n → a.block < w.heap.size
theorem CN.start {w : World} {g : Nat} {ao : Option Addr} {n cap : Nat} {f : Nat → Int} (h : Cur w g ao n cap f) : CN w g ao n cap f w := ⟨h, But.refl _ _, h.lt, h.code⟩
theorem CN.size {w : World} {g : Nat} {ao : Option Addr} {n cap : Nat} {f : Nat → Int} {W : World} (h : CN w g ao n cap f W) : w.heap.size ≤ W.heap.size := h.but.size
theorem CN.next {w : World} {g : Nat} {ao : Option Addr} {n cap : Nat} {f : Nat → Int} {W W' : World} (h : CN w g ao n cap f W) (hc : Cur W' g ao n cap f) (hb : But g W W') : CN w g ao n cap f W' := ⟨hc, h.but.trans hb, h.lt, h.code⟩
theorem CN.below {w : World} {g : Nat} {ao : Option Addr} {n cap : Nat} {f : Nat → Int} {W W' : World} (h : CN w g ao n cap f W) (hb : Below W.heap.size W W') : CN w g ao n cap f W' := h.next (h.cur.below hb) (But.ofBelow hb)
theorem CN.grown {w : World} {g : Nat} {ao : Option Addr} {n cap : Nat} {f : Nat → Int} {W W' : World} {row : Option Nat} (h : CN w g ao n cap f W) (hg : W.grownBy W' row) (hr : ∀ j, row = some j → w.heap.size ≤ j) : CN w g ao n cap f W' :=
  ⟨h.cur.grown hg (fun e => by have := hr g e; have := h.lt; omega) (fun a e hn e' => by have := hr _ e'; have := h.code a e hn; omega), ⟨hg.os.trans h.but.os, hg.tape.trans h.but.tape, hg.output.trans h.but.output, Nat.le_trans h.but.size hg.size, fun k hk hne => (hg.block k (Nat.lt_of_lt_of_le hk h.but.size) (fun e => by have := hr k e.symm; omega)).trans (h.but.block k hk hne)⟩, h.lt, h.code⟩
theorem CN.set {w : World} {g : Nat} {ao : Option Addr} {n cap : Nat} {f : Nat → Int} {W : World} (h : CN w g ao n cap f W) {X : Nat} (hX : w.heap.size ≤ X) (i : Nat) (u : Value) : CN w g ao n cap f (W.setCell ⟨X, i, none⟩ u) := h.grown (grown_set W X i u) (fun j e => by cases e; exact hX)
end Go.Proofs.Ytdhfbblameiloaa

/-
  One of a row of numbers, as it is drawn.
-/
namespace Go.Proofs.Ytdhfbblameiloaa
open Go.RowKit
set_option maxRecDepth 4000

set_option maxHeartbeats 1000000 in
theorem l1Int_any (g : Nat) (ao : Option Addr) (n cap : Nat) (f : Nat → Int) (b m : Nat) (z : Nat → Int) (w : World) (hn : n ≤ 1048576) (hm : 0 < m) (hm1 : m ≤ 16777216) (hz : ∀ i, i < m → w.cell? ⟨b, i, none⟩ = some (.int .i64 (z i))) (hbg : b ≠ g) (hC : Cur w g ao n cap f) :
    Calls Try.prog 93 #[.pointer (some ⟨g, 0, none⟩), .slice (some ⟨b, 0, none⟩) m m] w fun e w' => ∃ j : Nat, j < m ∧ e = .returned (.int .i64 (z j)) ∧ Cur w' g ao n cap f ∧ Only g w w' := by
  go_enter Try.func93, Try.ntmps93
  go_wp2_with fail
  refine (l1Below_any g ao n cap f m w hn (by omega) (by omega) hC).mono ?_
  rintro e w1 ⟨x, rfl, hx0, hx1, hC1, hO1⟩
  obtain ⟨j, rfl⟩ := Int.eq_ofNat_of_zero_le hx0
  have hj : w1.cell? ⟨b, j, none⟩ = some (.int .i64 (z j)) := by
    rw [World.cell?_of_block (w := w) (hO1.block b hbg)]; exact hz j (by omega)
  go_wp2
  go_ret
  exact ⟨j, by omega, rfl, hC1, hO1⟩
end Go.Proofs.Ytdhfbblameiloaa

/-
  Lists that are drawn of.
-/
namespace Go.Proofs.Ytdhfbblameiloaa
open Go.RowKit
set_option maxRecDepth 4000

/-- The cells of a list of numbers that is laid anew. -/
theorem newInts (w : World) (l : List Int) (t : TypeId) : ∀ i, i < l.length → (w.alloc (.cells (l.map (Value.int .i64)).toArray t)).cell? ⟨w.heap.size, i, none⟩ = some (.int .i64 (l.getD i 0)) := by
  intro i hi
  rw [World.cell?, show (w.alloc (.cells (l.map (Value.int .i64)).toArray t)).heap[w.heap.size]? = some (.cells (l.map (Value.int .i64)).toArray t) from Deep.blk_alloc_new _ _]
  simp [hi]

theorem getD_mem {l : List Int} {j : Nat} (h : j < l.length) : l.getD j 0 ∈ l := by
  simp [h]

theorem Cur.drew {w : World} {g : Nat} {ao : Option Addr} {n cap : Nat} {f : Nat → Int} (h : Cur w g ao n cap f) : Cur w.drew g ao n cap f := h.below (Below.refl _ _).drew
end Go.Proofs.Ytdhfbblameiloaa

/-
  One of a list of numbers that is laid anew.
-/
namespace Go.Proofs.Ytdhfbblameiloaa
open Go.RowKit
set_option maxRecDepth 4000

theorem l1Int_mem (g : Nat) (ao : Option Addr) (n cap : Nat) (f : Nat → Int) (l : List Int) (A : Nat) (w : World) (hA : A = w.heap.size) (hn : n ≤ 1048576) (h0 : 0 < l.length) (h1 : l.length ≤ 1000) (hC : Cur w g ao n cap f) :
    Calls Try.prog 93 #[.pointer (some ⟨g, 0, none⟩), .slice (some ⟨A, 0, none⟩) l.length l.length] (w.alloc (.cells (l.map (Value.int .i64)).toArray 3)) fun e w' => ∃ z : Int, e = .returned (.int .i64 z) ∧ z ∈ l ∧ Cur w' g ao n cap f ∧ But g w w' := by
  subst hA
  have hb : Below w.heap.size w (w.alloc (.cells (l.map (Value.int .i64)).toArray 3)) := (Below.refl _ _).alloc (Nat.le_refl _) _
  have hg := hC.lt
  refine (l1Int_any g ao n cap f w.heap.size l.length (fun i => l.getD i 0) _ hn h0 (by omega) (newInts w l 3) (by omega) (hC.below hb)).mono ?_
  rintro e w' ⟨j, hj, rfl, hC2, hO2⟩
  exact ⟨_, rfl, getD_mem hj, hC2, (But.ofBelow hb).trans (But.ofOnly hO2)⟩
end Go.Proofs.Ytdhfbblameiloaa

/-
  Disks, plainly; rows whose elements have several cells that read; a disk that reads.
-/
namespace Go.Proofs.Ytdhfbblameiloaa
open Go.RowKit
set_option maxRecDepth 4000

/-- A letter for a thing. -/
theorem hidEx {α : Type} (y : α) : ∃ x, Hid (y = x) := ⟨y, rfl⟩
structure PFault where
  pos : Int
  keep : Int
  cut : Int
structure PDisk where
  secs : List (List Int)
  cache : List (Int × List Int)
  ops : Int
  faults : List PFault
  down : Bool
def bf (l : List Int) (i : Nat) : Int := l.getD i 0
theorem lof_bf (l : List Int) : lof l.length (bf l) = l := lof_self l

/-- A slice value that reads as these bytes. -/
structure LV (w : World) (v : Value) (l : List Int) : Prop where
  is : ∃ a c, v = .slice a l.length c ∧ View w a l.length c (bf l) ∧ (a = none → c = 0)
theorem LV.below {w w' : World} {v : Value} {l : List Int} (h : LV w v l) (hb : Below w.heap.size w w') : LV w' v l := by
  obtain ⟨a, c, e, hv, hn⟩ := h.is
  exact ⟨a, c, e, hv.below hb, hn⟩

/-- A row whose elements have c cells each, of which P says what they are. -/
structure RV {α : Type} (c : Nat) (P : World → List Value → α → Prop) (w : World) (a : Option Addr) (cap : Nat) (l : List α) : Prop where
  le : l.length ≤ cap
  nil : a = none → cap = 0
  cells : 0 < l.length → ∃ b off, a = some ⟨b, off, none⟩ ∧ b < w.heap.size ∧ ∀ i x, l[i]? = some x → ∃ us, P w us x ∧ ∀ j u, us[j]? = some u → w.cell? ⟨b, off + i * c + j, none⟩ = some u
theorem RV.below {α : Type} {c : Nat} {P : World → List Value → α → Prop} {w w' : World} {a : Option Addr} {cap : Nat} {l : List α} (h : RV c P w a cap l) (hP : ∀ us x, P w us x → P w' us x) (hb : Below w.heap.size w w') : RV c P w' a cap l := by
  refine ⟨h.le, h.nil, fun hn => ?_⟩
  obtain ⟨b, off, e, hlt, hc⟩ := h.cells hn
  refine ⟨b, off, e, Nat.lt_of_lt_of_le hlt hb.size, fun i x hi => ?_⟩
  obtain ⟨us, h1, h2⟩ := hc i x hi
  exact ⟨us, hP _ _ h1, fun j u hj => by rw [hb.cell (p := ⟨b, off + i * c + j, none⟩) hlt]; exact h2 j u hj⟩

def SP (w : World) (us : List Value) (x : List Int) : Prop := ∃ u, us = [u] ∧ LV w u x
def WP (w : World) (us : List Value) (x : Int × List Int) : Prop := ∃ u, us = [.int .i64 x.1, u] ∧ LV w u x.2
def FP (_ : World) (us : List Value) (x : PFault) : Prop := us = [.int .i64 x.pos, .int .i64 x.keep, .int .i64 x.cut]
abbrev SView := RV 1 SP
abbrev WView := RV 2 WP
abbrev FView := RV 3 FP
theorem SP.below {w w' : World} (hb : Below w.heap.size w w') (us : List Value) (x : List Int) (h : SP w us x) : SP w' us x := by
  obtain ⟨u, e, hu⟩ := h
  exact ⟨u, e, hu.below hb⟩
theorem WP.below {w w' : World} (hb : Below w.heap.size w w') (us : List Value) (x : Int × List Int) (h : WP w us x) : WP w' us x := by
  obtain ⟨u, e, hu⟩ := h
  exact ⟨u, e, hu.below hb⟩
theorem sview_below {w w' : World} {a : Option Addr} {cap : Nat} {l : List (List Int)} (h : SView w a cap l) (hb : Below w.heap.size w w') : SView w' a cap l := h.below (SP.below hb) hb
theorem wview_below {w w' : World} {a : Option Addr} {cap : Nat} {l : List (Int × List Int)} (h : WView w a cap l) (hb : Below w.heap.size w w') : WView w' a cap l := h.below (WP.below hb) hb
theorem fview_below {w w' : World} {a : Option Addr} {cap : Nat} {l : List PFault} (h : FView w a cap l) (hb : Below w.heap.size w w') : FView w' a cap l := h.below (fun _ _ h => h) hb
/-- An element of a row of byte slices. -/
theorem sview_at {w : World} {a : Option Addr} {cap : Nat} {l : List (List Int)} (h : SView w a cap l) {i : Nat} (hi : i < l.length) : ∃ b off a' c', a = some ⟨b, off, none⟩ ∧ b < w.heap.size ∧ w.cell? ⟨b, off + i, none⟩ = some (.slice a' (l[i]).length c') ∧ View w a' (l[i]).length c' (bf l[i]) ∧ (a' = none → c' = 0) := by
  obtain ⟨b, off, e, hlt, hc⟩ := h.cells (by omega)
  obtain ⟨us, ⟨u, rfl, hu⟩, h2⟩ := hc i l[i] (List.getElem?_eq_getElem hi)
  obtain ⟨a', c', rfl, hv, hn⟩ := hu.is
  exact ⟨b, off, a', c', e, hlt, by simpa using h2 0 _ rfl, hv, hn⟩
theorem wview_at {w : World} {a : Option Addr} {cap : Nat} {l : List (Int × List Int)} (h : WView w a cap l) {i : Nat} (hi : i < l.length) : ∃ b off a' c', a = some ⟨b, off, none⟩ ∧ b < w.heap.size ∧ w.cell? ⟨b, off + i * 2, none⟩ = some (.int .i64 (l[i]).1) ∧ w.cell? ⟨b, off + i * 2 + 1, none⟩ = some (.slice a' (l[i]).2.length c') ∧ View w a' (l[i]).2.length c' (bf (l[i]).2) ∧ (a' = none → c' = 0) := by
  obtain ⟨b, off, e, hlt, hc⟩ := h.cells (by omega)
  obtain ⟨us, ⟨u, rfl, hu⟩, h2⟩ := hc i l[i] (List.getElem?_eq_getElem hi)
  obtain ⟨a', c', rfl, hv, hn⟩ := hu.is
  exact ⟨b, off, a', c', e, hlt, by simpa using h2 0 _ rfl, by simpa using h2 1 _ rfl, hv, hn⟩
theorem fview_at {w : World} {a : Option Addr} {cap : Nat} {l : List PFault} (h : FView w a cap l) {i : Nat} (hi : i < l.length) : ∃ b off, a = some ⟨b, off, none⟩ ∧ b < w.heap.size ∧ w.cell? ⟨b, off + i * 3, none⟩ = some (.int .i64 (l[i]).pos) ∧ w.cell? ⟨b, off + i * 3 + 1, none⟩ = some (.int .i64 (l[i]).keep) ∧ w.cell? ⟨b, off + i * 3 + 2, none⟩ = some (.int .i64 (l[i]).cut) := by
  obtain ⟨b, off, e, hlt, hc⟩ := h.cells (by omega)
  obtain ⟨us, rfl, h2⟩ := hc i l[i] (List.getElem?_eq_getElem hi)
  exact ⟨b, off, e, hlt, by simpa using h2 0 _ rfl, by simpa using h2 1 _ rfl, by simpa using h2 2 _ rfl⟩

/-- A disk's value. -/
structure KView (w : World) (v : Value) (D : PDisk) : Prop where
  is : ∃ sa sc ca cc fa fc, v = .agg #[.slice sa D.secs.length sc, .slice ca D.cache.length cc, .int .i64 D.ops, .slice fa D.faults.length fc, .bool D.down] ∧ SView w sa sc D.secs ∧ WView w ca cc D.cache ∧ FView w fa fc D.faults
theorem KView.below {w w' : World} {v : Value} {D : PDisk} (h : KView w v D) (hb : Below w.heap.size w w') : KView w' v D := by
  obtain ⟨sa, sc, ca, cc, fa, fc, e, h1, h2, h3⟩ := h.is
  exact ⟨sa, sc, ca, cc, fa, fc, e, sview_below h1 hb, wview_below h2 hb, fview_below h3 hb⟩
/-- Nothing is great. -/
structure KFine (D : PDisk) : Prop where
  ns : D.secs.length ≤ 1048576
  sec : ∀ x, x ∈ D.secs → x.length ≤ 1048576
  nc : D.cache.length ≤ 1048576
  cache : ∀ x, x ∈ D.cache → x.2.length ≤ 1048576
  nf : D.faults.length ≤ 1048576
end Go.Proofs.Ytdhfbblameiloaa

