/-
  Together: ValPlain, Base, Plain, PutPlain, TextPlain, EscPlain, NumPlain, GetVarPlain, PartPlain, KeyPlain, Info, FlipPlain, Parts
-/
import Derived.Lib.ItoaNum
import Derived.Lib.ItoaMem
import Derived.Lib.AtoiTie
import Derived.Lib.AtoiAllCases
import Derived.WalkKit
import Derived.Deep.OwnRows
import Derived.Deep.LoopGhost
import Derived.OpenShut
import Derived.Laws.BitsAllLaws
import Derived.Laws.Bits128
import Derived.Lib.AppendStr
import Derived.Test.YtkakkjnbhklfpaaGreatDoorChecked
/-
  Values, plainly: which are sound, their texts, and that a text has one value.
-/
namespace Go.Proofs.YtkakkjnbhklfpaaGreatDoor
open Go.Lib

/-- A value within: a type for each kind. -/
inductive V where
  | null
  | int (n : Int)
  | num (n : Int)
  | text (s : ByteArray)
  | bool (b : Bool)

def noBytes : ByteArray := ⟨#[]⟩

def V.k : V → Int
  | .null => 0 | .int _ => 1 | .num _ => 2 | .text _ => 3 | .bool _ => 4
def V.n : V → Int
  | .int n => n | .num n => n | .bool b => (if b then 1 else 0) | _ => 0
def V.s : V → ByteArray
  | .text s => s | _ => noBytes
def V.rng : V → Bool
  | .int n => decide (-2147483648 ≤ n) && decide (n ≤ 2147483647)
  | .num n => decide (-1000000000000000 ≤ n) && decide (n ≤ 1000000000000000)
  | .text s => decide (s.size ≤ 30)
  | _ => true

/-- A byte that may be seen on a line, and is no quote. -/
def seenB (c : UInt8) : Bool := decide (32 ≤ c.toNat) && decide (c.toNat ≤ 126) && decide (c.toNat ≠ 39)
def plainL (l : List UInt8) : Bool := l.all seenB

def quotedL (s : ByteArray) : List UInt8 := if plainL s.data.toList then 39 :: (s.data.toList ++ [39]) else []
def V.txt : V → List UInt8
  | .null => [110, 117, 108, 108]
  | .int n => 105 :: itoa n
  | .num n => 110 :: itoa n
  | .text s => quotedL s
  | .bool b => if b then [121, 101, 115] else [110, 111]

def bytesOf (l : List UInt8) : ByteArray := ⟨l.toArray⟩

/-- The value of three fields, by the first. -/
def ofFields (k n : Int) (s : ByteArray) : Option V :=
  if k = 0 then some .null else if k = 1 then some (.int n) else if k = 2 then some (.num n) else if k = 3 then some (.text s) else if k = 4 then some (.bool (n != 0)) else none

/-- Sound: what the kind does not name is nothing, and what it names is in its range. -/
def okF (k n : Int) (s : ByteArray) : Bool :=
  match ofFields k n s with
  | none => false
  | some v => v.rng && (decide (v.k = k) && decide (v.n = n) && decide (v.s = s))

def textF (k n : Int) (s : ByteArray) : List UInt8 :=
  if okF k n s then match ofFields k n s with
    | none => []
    | some v => v.txt
  else []

theorem ofFields_v (v : V) : ofFields v.k v.n v.s = some v := by
  cases v with
  | bool b => cases b <;> simp [ofFields, V.k, V.n]
  | _ => simp [ofFields, V.k, V.n, V.s]

theorem okF_v (v : V) : okF v.k v.n v.s = v.rng := by
  unfold okF
  rw [ofFields_v]
  simp

theorem okF_iff {k n : Int} {s : ByteArray} : okF k n s = true ↔ ∃ v : V, v.rng = true ∧ v.k = k ∧ v.n = n ∧ v.s = s := by
  constructor
  · intro h
    unfold okF at h
    split at h
    · cases h
    · rename_i v _
      simp only [Bool.and_eq_true, decide_eq_true_eq] at h
      exact ⟨v, h.1, h.2.1.1, h.2.1.2, h.2.2⟩
  · rintro ⟨v, h, rfl, rfl, rfl⟩
    rw [okF_v, h]

theorem textF_v {v : V} (h : v.rng = true) : textF v.k v.n v.s = v.txt := by
  unfold textF
  rw [okF_v, h, ofFields_v]
  rfl

theorem V.ext {v u : V} (h1 : v.k = u.k) (h2 : v.n = u.n) (h3 : v.s = u.s) : v = u := by
  have := ofFields_v v
  rw [h1, h2, h3, ofFields_v] at this
  exact (Option.some.inj this).symm

/-! A text has one value. -/

/-- What is read of a text: the one value that has it; or nothing. -/
def Parsed (l : List UInt8) (k n : Int) (s : ByteArray) (b : Bool) : Prop :=
  (b = true ∧ okF k n s = true ∧ textF k n s = l ∧ l ≠ []) ∨ (b = false ∧ k = 0 ∧ n = 0 ∧ s = noBytes ∧ ∀ v : V, v.rng = true → v.txt = l → l = [])

theorem Parsed.some {v : V} (hv : v.rng = true) (h : v.txt ≠ []) : Parsed v.txt v.k v.n v.s true :=
  .inl ⟨rfl, by rw [okF_v, hv], textF_v hv, h⟩

theorem Parsed.none {l : List UInt8} (h : ∀ v : V, v.rng = true → v.txt = l → l = []) : Parsed l 0 0 noBytes false :=
  .inr ⟨rfl, rfl, rfl, rfl, h⟩

end Go.Proofs.YtkakkjnbhklfpaaGreatDoor

/-
  What a walk over bytes is told of a slice of bytes that it reads ('View'), and how that is carried from one world to the next. No program text is named here.
-/
namespace Go.Proofs.YtkakkjnbhklfpaaGreatDoor
open Go.RowKit
set_option maxRecDepth 4000

/-- The slice value '.slice ao n cap' reads, in the world w, as the n bytes f 0 up to f (n - 1). -/
structure View (w : World) (ao : Option Addr) (n cap : Nat) (f : Nat → Int) : Prop where
  le : n ≤ cap
  byte : ∀ i, i < n → 0 ≤ f i ∧ f i ≤ 255
  cells : 0 < n → ∃ b off, ao = some ⟨b, off, none⟩ ∧ b < w.heap.size ∧ ∀ i, i < n → w.cell? ⟨b, off + i, none⟩ = some (.int .u8 (f i))

/-- What was there reads as it did. -/
theorem View.below {w w' : World} {ao : Option Addr} {n cap : Nat} {f : Nat → Int} (h : View w ao n cap f) (hb : Below w.heap.size w w') : View w' ao n cap f := by
  refine ⟨h.le, h.byte, fun hn => ?_⟩
  obtain ⟨b, off, e, hlt, hc⟩ := h.cells hn
  exact ⟨b, off, e, Nat.lt_of_lt_of_le hlt hb.size, fun i hi => by rw [hb.cell (p := ⟨b, off + i, none⟩) hlt]; exact hc i hi⟩

theorem View.drew {w : World} {ao : Option Addr} {n cap : Nat} {f : Nat → Int} (h : View w ao n cap f) : View w.drew ao n cap f := h.below (Below.refl _ _).drew

theorem View.take {w : World} {ao : Option Addr} {n cap m : Nat} {f : Nat → Int} (h : View w ao n cap f) (hm : m ≤ n) : View w ao m cap f := by
  refine ⟨Nat.le_trans hm h.le, fun i hi => h.byte i (by omega), fun h0 => ?_⟩
  obtain ⟨b, off, e, hb, hc⟩ := h.cells (by omega)
  exact ⟨b, off, e, hb, fun i hi => hc i (by omega)⟩

theorem View.congr {w : World} {ao : Option Addr} {n cap : Nat} {f g : Nat → Int} (h : View w ao n cap f) (e : ∀ i, i < n → f i = g i) : View w ao n cap g := by
  refine ⟨h.le, fun i hi => by rw [← e i hi]; exact h.byte i hi, fun hn => ?_⟩
  obtain ⟨b, off, ea, hlt, hc⟩ := h.cells hn
  exact ⟨b, off, ea, hlt, fun i hi => by rw [← e i hi]; exact hc i hi⟩

/-- Block b is a row of bytes of the call's own, none frozen, whose first n are f 0 up to f (n - 1) (t: the number of the bytes' type). -/
def Row (t : TypeId) (w : World) (b n : Nat) (f : Nat → Int) : Prop :=
  ∃ c : Array Value, w.heap[b]? = some (.cells c t (0, 0)) ∧ n ≤ c.size ∧ ∀ i, i < n → c[i]? = some (.int .u8 (f i))

namespace Row
variable {t : TypeId} {w w' : World} {b n : Nat} {f g : Nat → Int}
theorem cell (h : Row t w b n f) {i : Nat} (hi : i < n) : w.cell? ⟨b, i, none⟩ = some (.int .u8 (f i)) := by
  obtain ⟨c, hb, _, hc⟩ := h
  simp [World.cell?, hb, hc i hi]
theorem frozen (h : Row t w b n f) (i : Nat) : w.frozen? ⟨b, i, none⟩ = false := by
  obtain ⟨c, hb, _, _⟩ := h
  simp [World.frozen?, hb]
theorem lt (h : Row t w b n f) : b < w.heap.size := by
  obtain ⟨c, hb, _, _⟩ := h
  exact (Array.getElem?_eq_some_iff.1 hb).1
theorem congr (h : Row t w b n f) (e : ∀ i, i < n → f i = g i) : Row t w b n g := by
  obtain ⟨c, hb, hn, hc⟩ := h
  exact ⟨c, hb, hn, fun i hi => by rw [hc i hi, e i hi]⟩
theorem of_block (h : Row t w b n f) (e : w'.heap[b]? = w.heap[b]?) : Row t w' b n f := by
  obtain ⟨c, hb, hn, hc⟩ := h
  exact ⟨c, e.trans hb, hn, hc⟩
theorem below {B : Nat} (h : Row t w b n f) (hb : Below B w w') (hlt : b < B) : Row t w' b n f := h.of_block (hb.block b hlt)
theorem belowAll (h : Row t w b n f) (hb : Below w.heap.size w w') : Row t w' b n f := h.below hb h.lt
theorem ofIs (h : w.rowIs b t n (fun i => .int .u8 (f i))) : Row t w b n f := by
  obtain ⟨c, hb, hn, hc⟩ := h
  exact ⟨c, hb, by omega, hc⟩
theorem set (h : Row t w b n f) (i : Nat) (x : Int) : Row t (w.setCell ⟨b, i, none⟩ (.int .u8 x)) b n (fun j => if j = i then x else f j) := by
  obtain ⟨c, hb, hn, hc⟩ := h
  refine ⟨c.setIfInBounds i (.int .u8 x), ?_, by simpa using hn, fun j hj => ?_⟩
  · simp [World.setCell, Array.getElem?_modify, hb]
  · rw [Array.getElem?_setIfInBounds]
    by_cases e : j = i
    · subst e
      have : j < c.size := by omega
      simp [this]
    · rw [if_neg (fun h => e h.symm)]
      show c[j]? = some (.int .u8 (if j = i then x else f j))
      rw [if_neg e]
      exact hc j hj
theorem view {cap : Nat} (h : Row t w b n f) (hc : n ≤ cap) (hb : ∀ i, i < n → 0 ≤ f i ∧ f i ≤ 255) : View w (some ⟨b, 0, none⟩) n cap f :=
  ⟨hc, hb, fun _ => ⟨b, 0, rfl, h.lt, fun i hi => by rw [Nat.zero_add]; exact h.cell hi⟩⟩
end Row

/-- Block b alone may have turned; no block has come or gone. -/
structure Only (b : Nat) (w w' : World) : Prop where
  os : w'.os = w.os
  tape : w'.tape = w.tape
  output : w'.output = w.output
  size : w'.heap.size = w.heap.size
  block : ∀ k, k ≠ b → w'.heap[k]? = w.heap[k]?

theorem Only.refl (b : Nat) (w : World) : Only b w w := ⟨rfl, rfl, rfl, rfl, fun _ _ => rfl⟩
theorem Only.drew {b : Nat} {w w' : World} (h : Only b w w') : Only b w w'.drew := ⟨h.os, h.tape, h.output, h.size, h.block⟩
theorem Only.setCell {b i : Nat} {w w' : World} (h : Only b w w') (u : Value) : Only b w (w'.setCell ⟨b, i, none⟩ u) :=
  ⟨h.os, h.tape, h.output, by simpa using h.size, fun k hk => by rw [Below.heap_setCell _ _ _ _ (by exact hk)]; exact h.block k hk⟩
theorem Only.below {b B : Nat} {w w' : World} (h : Only b w w') (hB : B ≤ b) : Below B w w' :=
  ⟨h.os, h.tape, h.output, by rw [h.size]; exact Nat.le_refl _, fun k hk => h.block k (by omega)⟩
theorem Only.row {t : TypeId} {b b' n : Nat} {f : Nat → Int} {w w' : World} (h : Only b w w') (hr : Row t w b' n f) (hne : b' ≠ b) : Row t w' b' n f := hr.of_block (h.block b' hne)
theorem Only.view {b : Nat} {ao : Option Addr} {n cap : Nat} {f : Nat → Int} {w w' : World} (h : Only b w w') (hv : View w ao n cap f) (hne : ∀ a, ao = some a → a.block ≠ b) : View w' ao n cap f := by
  refine ⟨hv.le, hv.byte, fun hn => ?_⟩
  obtain ⟨b', off, e, hlt, hc⟩ := hv.cells hn
  refine ⟨b', off, e, by rw [h.size]; exact hlt, fun i hi => ?_⟩
  rw [World.cell?_of_block (w := w) (h.block b' (hne _ e))]
  exact hc i hi

end Go.Proofs.YtkakkjnbhklfpaaGreatDoor

/-
  Plain facts on numbers: and, or, exclusive or of two numbers that are not negative, as Go's int has them. No program text is named here.
-/
namespace Go.Proofs.YtkakkjnbhklfpaaGreatDoor
open Go.RowKit
set_option maxRecDepth 4000

theorem wrapNat63 (n : Nat) (h : n < 9223372036854775808) : IntKind.i64.wrap (n : Int) = (n : Int) := by
  rw [IntKind.wrap_i64]; omega

theorem i64_xor_nat (a b : Nat) (ha : a < 9223372036854775808) (hb : b < 9223372036854775808) : bits .xor .i64 (a : Int) (b : Int) = ((a ^^^ b : Nat) : Int) := by
  have h : a ^^^ b < 9223372036854775808 := Nat.xor_lt_two_pow (n := 63) ha hb
  show IntKind.i64.wrap ((BitVec.ofInt 64 (a : Int) ^^^ BitVec.ofInt 64 (b : Int)).toNat : Nat) = _
  rw [BitVec.toNat_xor, ofInt_u64 a (by omega), ofInt_u64 b (by omega), wrapNat63 _ h]

theorem i64_or_nat (a b : Nat) (ha : a < 9223372036854775808) (hb : b < 9223372036854775808) : bits .or .i64 (a : Int) (b : Int) = ((a ||| b : Nat) : Int) := by
  have h : a ||| b < 9223372036854775808 := Nat.or_lt_two_pow (n := 63) ha hb
  show IntKind.i64.wrap ((BitVec.ofInt 64 (a : Int) ||| BitVec.ofInt 64 (b : Int)).toNat : Nat) = _
  rw [BitVec.toNat_or, ofInt_u64 a (by omega), ofInt_u64 b (by omega), wrapNat63 _ h]

theorem i64_and_nat (a b : Nat) (ha : a < 9223372036854775808) (hb : b < 9223372036854775808) : bits .and .i64 (a : Int) (b : Int) = ((a &&& b : Nat) : Int) := by
  have h : a &&& b < 9223372036854775808 := Nat.and_lt_two_pow (n := 63) _ hb
  show IntKind.i64.wrap ((BitVec.ofInt 64 (a : Int) &&& BitVec.ofInt 64 (b : Int)).toNat : Nat) = _
  rw [BitVec.toNat_and, ofInt_u64 a (by omega), ofInt_u64 b (by omega), wrapNat63 _ h]

theorem i64_and1 (n : Nat) (h : n < 9223372036854775808) : bits .and .i64 (n : Int) 1 = ((n % 2 : Nat) : Int) := by
  have := i64_and_nat n 1 h (by decide)
  rw [nat_mask1] at this; exact this

/-- What is laid above the lower i bits is added. -/
theorem i64_or_add (i : Nat) (a b : Int) (h0 : 0 ≤ a) (h1 : a < 2 ^ i) (h2 : 0 ≤ b) (h3 : b % 2 ^ i = 0) (h4 : b < 9223372036854775808) (h5 : (2 : Int) ^ i ≤ 9223372036854775808) : bits .or .i64 a b = a + b := by
  obtain ⟨x, rfl⟩ := Int.eq_ofNat_of_zero_le h0
  obtain ⟨y, rfl⟩ := Int.eq_ofNat_of_zero_le h2
  have e : ((2 ^ i : Nat) : Int) = 2 ^ i := by simp
  rw [← e] at h1 h3 h5
  have h3' : y % 2 ^ i = 0 := by omega
  rw [i64_or_nat x y (by omega) (by omega), Nat.or_comm, nat_join i y x h3' (by omega)]
  omega

theorem u8_wrap (x : Int) : IntKind.u8.wrap x = x % 256 := by simp [IntKind.wrap, IntKind.bits, IntKind.signed]

end Go.Proofs.YtkakkjnbhklfpaaGreatDoor

/-
  A number as its groups, plainly; lists of bytes that the call owns as rows.
-/
namespace Go.Proofs.YtkakkjnbhklfpaaGreatDoor
open Go.RowKit
set_option maxRecDepth 4000

def groups (x : Int) : List Int := if x < 128 then [x] else if x < 16384 then [x % 128 + 128, x / 128] else [x % 128 + 128, x / 128 % 128 + 128, x / 16384]
theorem groups_last (x : Int) (h : x < 128) : groups x = [x] := by unfold groups; rw [if_pos h]
theorem groups_step (x : Int) (h : 128 ≤ x) (h1 : x ≤ 1000000) : groups x = (x % 128 + 128) :: groups (x / 128) := by
  unfold groups
  rw [if_neg (by omega)]
  by_cases h2 : x < 16384
  · rw [if_pos h2, if_pos (by omega)]
  · rw [if_neg h2, if_neg (by omega), if_pos (by omega)]
    have : x / 128 / 128 = x / 16384 := by omega
    rw [this]
theorem groups_len (x : Int) : 1 ≤ (groups x).length ∧ (groups x).length ≤ 3 := by
  unfold groups; split
  · simp
  · split <;> simp
theorem groups_byte (x : Int) (h0 : 0 ≤ x) (h1 : x ≤ 1000000) : ∀ y ∈ groups x, 0 ≤ y ∧ y ≤ 255 := by
  unfold groups; intro y hy; split at hy
  · simp at hy; omega
  · split at hy
    · simp at hy; omega
    · simp at hy; omega

def clampN (x : Int) : Int := if x < 0 then 0 else if 1000000 < x then 1000000 else x
theorem clampN_bd (x : Int) : 0 ≤ clampN x ∧ clampN x ≤ 1000000 := by unfold clampN; split <;> (try split) <;> omega

def lof (n : Nat) (f : Nat → Int) : List Int := (List.range n).map f
theorem lof_len (n : Nat) (f : Nat → Int) : (lof n f).length = n := by simp [lof]
theorem lof_get (n : Nat) (f : Nat → Int) (i : Nat) (h : i < n) : (lof n f).getD i 0 = f i := by simp [lof, h]
def bl (l : List Int) : List Value := l.map (Value.int .u8)
theorem bl_len (l : List Int) : (bl l).length = l.length := by simp [bl]
theorem bl_append (l m : List Int) : bl (l ++ m) = bl l ++ bl m := by simp [bl]
theorem bl_one (l : List Int) : ∀ u ∈ bl l, u.oneCell' = true := by
  intro u hu
  simp only [bl, List.mem_map] at hu
  obtain ⟨x, _, rfl⟩ := hu
  rfl

/-- What the call owns as a list of bytes, as a row. -/
theorem row_of_own {base : Nat} {t : TypeId} {v : Value} {N : Nat} {l : List Int} {w : World} (h : w.ownsRow base t 1 v N (bl l)) (hN : 0 < N) :
    ∃ g c, v = .slice (some ⟨g, 0, none⟩) N c ∧ base ≤ g ∧ N ≤ c ∧ Row t w g N (fun i => l.getD i 0) := by
  obtain ⟨hl, h⟩ := h
  rcases h with ⟨_, h0⟩ | ⟨g, c, cur, rfl, hb, hg, hnc, _, hcs, ht⟩
  · omega
  · refine ⟨g, c, rfl, hb, hnc, cur, hg, by omega, fun i hi => ?_⟩
    have e : (bl l)[i]? = some (.int .u8 (l.getD i 0)) := by
      have : i < l.length := by rw [bl_len] at hl; omega
      simp [bl, this]
    rw [← ht, List.getElem?_take, if_pos (by omega)] at e
    simpa using e

theorem row_of_own' {base : Nat} {t : TypeId} {v : Value} {N : Nat} {l : List Int} {w : World} (h : w.ownsRow base t 1 v N (bl l)) (hv : v ≠ .slice none 0 0) :
    ∃ g c, v = .slice (some ⟨g, 0, none⟩) N c ∧ base ≤ g ∧ N ≤ c ∧ Row t w g N (fun i => l.getD i 0) := by
  obtain ⟨hl, h⟩ := h
  rcases h with ⟨h0, _⟩ | ⟨g, c, cur, rfl, hb, hg, hnc, _, hcs, ht⟩
  · exact absurd h0 hv
  · refine ⟨g, c, rfl, hb, hnc, cur, hg, by omega, fun i hi => ?_⟩
    have e : (bl l)[i]? = some (.int .u8 (l.getD i 0)) := by
      have : i < l.length := by rw [bl_len] at hl; omega
      simp [bl, this]
    rw [← ht, List.getElem?_take, if_pos (by omega)] at e
    simpa using e
theorem row_of_owned {base : Nat} {t : TypeId} {g N c : Nat} {l : List Int} {w : World} (h : w.ownsRow base t 1 (.slice (some ⟨g, 0, none⟩) N c) N (bl l)) : Row t w g N (fun i => l.getD i 0) := by
  obtain ⟨hl, h⟩ := h
  rcases h with ⟨h, _⟩ | ⟨g', c', cur, e, hb, hg, hnc, _, hcs, ht⟩
  · cases h
  · simp only [Value.slice.injEq, Option.some.injEq, Addr.mk.injEq, and_true, true_and] at e
    obtain ⟨rfl, rfl⟩ := e
    refine ⟨cur, hg, by omega, fun i hi => ?_⟩
    have e : (bl l)[i]? = some (.int .u8 (l.getD i 0)) := by
      have : i < l.length := by rw [bl_len] at hl; omega
      simp [bl, this]
    rw [← ht, List.getElem?_take, if_pos (by omega)] at e
    simpa using e
theorem lof_self (l : List Int) : lof l.length (fun i => l.getD i 0) = l := by
  apply List.ext_getElem
  · simp [lof]
  · intro i h1 h2
    simp [lof, h2]

/-- One new cell. -/
theorem cellNew (w : World) (x : Value) (t : TypeId) : ∀ j u, [x][j]? = some u → (w.alloc (.cells #[x] t)).cell? ((⟨w.heap.size, 0, none⟩ : Addr).add j) = some u := by
  intro j u hj
  match j, hj with
  | 0, hj => simp at hj; subst hj; simp [Addr.add]

/-- The cells of a slice that reads, as the law on appending asks for them. -/
theorem cells_of_view {w : World} {b off n cap : Nat} {f : Nat → Int} (h : View w (some ⟨b, off, none⟩) n cap f) : ∀ j u, (bl (lof n f))[j]? = some u → w.cell? ((⟨b, off, none⟩ : Addr).add j) = some u := by
  intro j u hu
  have hj : j < n := by
    by_cases hj : j < n
    · exact hj
    · rw [List.getElem?_eq_none (by rw [bl_len, lof_len]; omega)] at hu; cases hu
  obtain ⟨b', off', e, _, hc⟩ := h.cells (by omega)
  simp only [Option.some.injEq, Addr.mk.injEq, and_true] at e
  obtain ⟨rfl, rfl⟩ := e
  have ea : (⟨b, off, none⟩ : Addr).add j = ⟨b, off + j, none⟩ := by unfold Addr.add; split <;> simp_all
  rw [ea, hc j hj]
  simp [bl, lof, hj] at hu
  rw [hu]

theorem put_byte (n : Nat) (f : Nat → Int) (gs : List Int) (hf : ∀ i, i < n → 0 ≤ f i ∧ f i ≤ 255) (hg : ∀ y ∈ gs, 0 ≤ y ∧ y ≤ 255) : ∀ i, i < n + gs.length → 0 ≤ (lof n f ++ gs).getD i 0 ∧ (lof n f ++ gs).getD i 0 ≤ 255 := by
  intro i hi
  by_cases h : i < n
  · have e : (lof n f ++ gs).getD i 0 = f i := by
      rw [← lof_get n f i h, List.getD_eq_getElem?_getD, List.getD_eq_getElem?_getD, List.getElem?_append_left (by rw [lof_len]; exact h)]
    rw [e]; exact hf i h
  · have e : (lof n f ++ gs).getD i 0 = gs.getD (i - n) 0 := by
      rw [List.getD_eq_getElem?_getD, List.getD_eq_getElem?_getD, List.getElem?_append_right (by rw [lof_len]; omega), lof_len]
    rw [e]
    have hi' : i - n < gs.length := by omega
    have : gs.getD (i - n) 0 = gs[i - n] := by simp [hi']
    rw [this]
    exact hg _ (List.getElem_mem hi')

end Go.Proofs.YtkakkjnbhklfpaaGreatDoor

/-
  A text's bytes as numbers; what is put of a text.
-/
namespace Go.Proofs.YtkakkjnbhklfpaaGreatDoor
open Go.RowKit
set_option maxRecDepth 4000

/-- A text's bytes as numbers. -/
def sl (s : ByteArray) : List Int := s.data.toList.map (fun b => (b.toNat : Int))
theorem sl_len (s : ByteArray) : (sl s).length = s.size := by unfold sl; rw [List.length_map, Array.length_toList]; rfl
theorem sl_byte (s : ByteArray) : ∀ y ∈ sl s, 0 ≤ y ∧ y ≤ 255 := by
  intro y hy
  simp only [sl, List.mem_map] at hy
  obtain ⟨b, _, rfl⟩ := hy
  have := b.toNat_lt
  omega
theorem sl_cells (s : ByteArray) : Lib.strCells s = bl (sl s) := by simp [Lib.strCells, bl, sl]

/-- What is put: the bytes, the count's groups, the text. -/
def textL (n : Nat) (f : Nat → Int) (s : ByteArray) : List Int := lof n f ++ groups (clampN s.size) ++ sl s
end Go.Proofs.YtkakkjnbhklfpaaGreatDoor

/-
  Texts in order, plainly: each 0 is followed by 255, and 0 and 1 end the text; what is read of bytes as such a text.
-/
namespace Go.Proofs.YtkakkjnbhklfpaaGreatDoor
open Go.RowKit
set_option maxRecDepth 4000

/-- One byte, as it is put. -/
def esc1 (x : Int) : List Int := if x = 0 then [0, 255] else [x]
/-- The bytes of a text, each as it is put. -/
def escL : List Int → List Int
  | [] => []
  | x :: xs => esc1 x ++ escL xs

theorem escL_append (a b : List Int) : escL (a ++ b) = escL a ++ escL b := by
  induction a with
  | nil => rfl
  | cons x xs ih => simp [escL, ih]
theorem escL_one (x : Int) : escL [x] = esc1 x := by simp [escL]
theorem escL_len (a : List Int) : a.length ≤ (escL a).length ∧ (escL a).length ≤ 2 * a.length := by
  induction a with
  | nil => simp [escL]
  | cons x xs ih =>
    have : (esc1 x).length = 1 ∨ (esc1 x).length = 2 := by unfold esc1; split <;> simp
    simp only [escL, List.length_append, List.length_cons]
    omega
theorem escL_byte (a : List Int) (h : ∀ y ∈ a, 0 ≤ y ∧ y ≤ 255) : ∀ y ∈ escL a, 0 ≤ y ∧ y ≤ 255 := by
  induction a with
  | nil => intro y hy; cases hy
  | cons x xs ih =>
    intro y hy
    rcases List.mem_append.1 hy with hy | hy
    · have hx := h x (by simp)
      unfold esc1 at hy
      split at hy
      · simp at hy; omega
      · simp at hy; omega
    · exact ih (fun z hz => h z (by simp [hz])) y hy
/-- Where no byte is 0 a text is put as it is. -/
theorem escL_plain (a : List Int) (h : ∀ y ∈ a, y ≠ 0) : escL a = a := by
  induction a with
  | nil => rfl
  | cons x xs ih =>
    have hx := h x (by simp)
    simp only [escL, esc1, if_neg hx, ih (fun z hz => h z (by simp [hz]))]
    rfl

/-- What is put of a text behind n bytes. -/
def escT (n : Nat) (f : Nat → Int) (s : ByteArray) : List Int := lof n f ++ (escL (sl s) ++ [0, 1])
def escN (s : ByteArray) : Nat := (escL (sl s)).length + 2
theorem escT_len (n : Nat) (f : Nat → Int) (s : ByteArray) : (escT n f s).length = n + escN s := by simp [escT, escN, lof_len]
theorem escN_le (s : ByteArray) : escN s ≤ 2 * s.size + 2 := by unfold escN; have := (escL_len (sl s)).2; rw [sl_len] at this; omega
theorem escT_byte (n : Nat) (f : Nat → Int) (s : ByteArray) (hf : ∀ i, i < n → 0 ≤ f i ∧ f i ≤ 255) : ∀ y ∈ escT n f s, 0 ≤ y ∧ y ≤ 255 := by
  intro y hy
  rcases List.mem_append.1 hy with hy | hy
  · simp only [lof, List.mem_map, List.mem_range] at hy
    obtain ⟨j, hj, rfl⟩ := hy
    exact hf j hj
  · rcases List.mem_append.1 hy with hy | hy
    · exact escL_byte _ (sl_byte s) y hy
    · simp at hy; omega
theorem escT_at (n : Nat) (f : Nat → Int) (s : ByteArray) (hf : ∀ i, i < n → 0 ≤ f i ∧ f i ≤ 255) : ∀ i, i < n + escN s → 0 ≤ (escT n f s).getD i 0 ∧ (escT n f s).getD i 0 ≤ 255 := by
  intro i hi
  have hi' : i < (escT n f s).length := by rw [escT_len]; exact hi
  have := escT_byte n f s hf _ (List.getElem_mem hi')
  simpa [hi'] using this

/-- What is read of bytes as a text: its bytes, and how many were read. -/
def readE : List Int → Option (List Int × Nat)
  | [] => none
  | [_] => none
  | x :: y :: ys => if x ≠ 0 then (readE (y :: ys)).map (fun r => (x :: r.1, r.2 + 1)) else if y = 1 then some ([], 2) else if y = 255 then (readE ys).map (fun r => (0 :: r.1, r.2 + 2)) else none

theorem readE_put (t rest : List Int) : readE (escL t ++ 0 :: 1 :: rest) = some (t, (escL t).length + 2) := by
  induction t with
  | nil => simp [escL, readE]
  | cons x xs ih =>
    by_cases hx : x = 0
    · subst hx
      have e : escL (0 :: xs) ++ 0 :: 1 :: rest = 0 :: 255 :: (escL xs ++ 0 :: 1 :: rest) := by simp [escL, esc1]
      rw [e, readE, ih]
      simp [escL, esc1]
    · have e : escL (x :: xs) ++ 0 :: 1 :: rest = x :: (escL xs ++ 0 :: 1 :: rest) := by simp [escL, esc1, hx]
      have ne : escL xs ++ 0 :: 1 :: rest ≠ [] := by simp
      obtain ⟨y, ys, hy⟩ := List.exists_cons_of_ne_nil ne
      rw [e, hy, readE, if_pos hx, ← hy, ih]
      simp [escL, esc1, hx]

/-- The bytes from the place k on. -/
def fromL (n : Nat) (f : Nat → Int) (k : Nat) : List Int := lof (n - k) (fun i => f (k + i))
theorem fromL_step (n : Nat) (f : Nat → Int) (k : Nat) (h : k < n) : fromL n f k = f k :: fromL n f (k + 1) := by
  unfold fromL lof
  obtain ⟨m, hm⟩ : ∃ m, n - k = m + 1 := ⟨n - k - 1, by omega⟩
  rw [hm, show n - (k + 1) = m by omega, List.range_succ_eq_map]
  simp only [List.map_cons, List.map_map, Nat.add_zero, List.cons.injEq, true_and]
  apply List.map_congr_left
  intro i _
  simp only [Function.comp]
  rw [show k + 1 + i = k + (i + 1) by omega]

/-- What is read from the place p on is what is read from k on, with acc ahead. -/
def Seen (n : Nat) (f : Nat → Int) (p k : Nat) (acc : List Int) : Prop :=
  p ≤ k ∧ readE (fromL n f p) = (readE (fromL n f k)).map (fun r => (acc ++ r.1, (k - p) + r.2))
theorem Seen.start (n : Nat) (f : Nat → Int) (p : Nat) : Seen n f p p [] := by
  refine ⟨Nat.le_refl _, ?_⟩
  cases readE (fromL n f p) <;> simp
theorem Seen.plain {n : Nat} {f : Nat → Int} {p k : Nat} {acc : List Int} (h : Seen n f p k acc) (hk : k + 1 < n) (h0 : f k ≠ 0) : Seen n f p (k + 1) (acc ++ [f k]) := by
  have := h.1
  refine ⟨by omega, ?_⟩
  rw [h.2, fromL_step n f k (by omega), fromL_step n f (k + 1) hk, readE, if_pos h0]
  cases readE (f (k + 1) :: fromL n f (k + 1 + 1)) with
  | none => rfl
  | some r => simp; omega
end Go.Proofs.YtkakkjnbhklfpaaGreatDoor

/-
  Numbers as bytes that keep their order, plainly: a number's bytes, the highest first, and what is read of them.
-/
namespace Go.Proofs.YtkakkjnbhklfpaaGreatDoor
open Go.RowKit
set_option maxRecDepth 4000

/-- A number's byte that lies j from its end. -/
def dg (n : Int) (j : Nat) : Int := n / 256 ^ j % 256
theorem dg_bd (n : Int) (j : Nat) : 0 ≤ dg n j ∧ dg n j ≤ 255 := by unfold dg; omega
theorem dg_zero (n : Int) : dg n 0 = n % 256 := by unfold dg; simp
theorem div_pow_succ (n : Int) (j : Nat) : n / 256 ^ j / 256 = n / 256 ^ (j + 1) := by
  rw [Int.pow_succ, Int.ediv_ediv_of_nonneg (Int.le_of_lt (Int.pow_pos (by decide)))]
theorem dg_succ (n : Int) (j : Nat) : dg n (j + 1) = dg (n / 256) j := by
  unfold dg
  rw [Int.pow_succ, Int.mul_comm, ← Int.ediv_ediv_of_nonneg (by decide)]
/-- The last k bytes of a number, the highest first. -/
def be (k : Nat) (n : Int) (i : Nat) : Int := dg n (k - 1 - i)
theorem be_bd (k : Nat) (n : Int) (i : Nat) : 0 ≤ be k n i ∧ be k n i ≤ 255 := dg_bd _ _

/-- What k bytes are as a number. -/
def valF : Nat → (Nat → Int) → Int
  | 0, _ => 0
  | k + 1, f => valF k f * 256 + f k
theorem valF_congr : ∀ (k : Nat) (f g : Nat → Int), (∀ i, i < k → f i = g i) → valF k f = valF k g
  | 0, _, _, _ => rfl
  | k + 1, f, g, h => by rw [valF, valF, valF_congr k f g (fun i hi => h i (by omega)), h k (by omega)]

theorem mod_split (a m : Int) (hm : 0 < m) : a % (m * 256) = a / 256 % m * 256 + a % 256 := by
  have h1 : a = 256 * (a / 256) + a % 256 := (Int.mul_ediv_add_emod a 256).symm
  have h2 : a / 256 = m * (a / 256 / m) + a / 256 % m := (Int.mul_ediv_add_emod (a / 256) m).symm
  have b1 := Int.emod_nonneg (a / 256) (Int.ne_of_gt hm)
  have b2 := Int.emod_lt_of_pos (a / 256) hm
  generalize a / 256 / m = q at *
  generalize a / 256 % m = t at *
  have e : a = (t * 256 + a % 256) + m * 256 * q := by
    have : m * 256 * q = 256 * (m * q) := by rw [Int.mul_comm m 256, Int.mul_assoc]
    rw [this]
    omega
  conv => lhs; rw [e]
  rw [Int.add_mul_emod_self_left]
  exact Int.emod_eq_of_lt (by omega) (by omega)

theorem valF_be' (k : Nat) (n : Int) : ∀ j, j ≤ k → valF j (be k n) = n / 256 ^ (k - j) % 256 ^ j
  | 0, _ => by simp [valF, Int.emod_one]
  | j + 1, h => by
    have ih := valF_be' k n j (by omega)
    have e : k - j = (k - (j + 1)) + 1 := by omega
    rw [valF, ih, e, ← div_pow_succ, Int.pow_succ, mod_split _ _ (Int.pow_pos (by decide))]
    unfold be dg
    rw [show k - 1 - j = k - (j + 1) by omega]
theorem valF_be (k : Nat) (n : Int) (h0 : 0 ≤ n) (h1 : n < 256 ^ k) : valF k (be k n) = n := by
  rw [valF_be' k n k (Nat.le_refl _), Nat.sub_self]
  simp only [Int.pow_zero, Int.ediv_one]
  exact Int.emod_eq_of_lt h0 h1

/-- What bytes are as a number has these bytes. -/
theorem be_valF : ∀ (k : Nat) (f : Nat → Int), (∀ i, i < k → 0 ≤ f i ∧ f i ≤ 255) → ∀ i, i < k → be k (valF k f) i = f i
  | 0, _, _, i, hi => absurd hi (Nat.not_lt_zero _)
  | k + 1, f, h, i, hi => by
    have hk := h k (by omega)
    unfold be
    by_cases e : i = k
    · subst e
      rw [show i + 1 - 1 - i = 0 by omega, dg_zero, valF]
      omega
    · have ih := be_valF k f (fun j hj => h j (by omega)) i (by omega)
      rw [show k + 1 - 1 - i = (k - 1 - i) + 1 by omega, dg_succ, valF]
      rw [show (valF k f * 256 + f k) / 256 = valF k f by omega]
      exact ih

/-- How many bytes a number has (0 of 0). -/
def cnt (n : Int) : Nat :=
  if n < 1 then 0 else if n < 256 then 1 else if n < 65536 then 2 else if n < 16777216 then 3 else if n < 4294967296 then 4 else if n < 1099511627776 then 5 else if n < 281474976710656 then 6 else 7
theorem cnt_le (n : Int) : cnt n ≤ 7 := by
  unfold cnt
  repeat (first | omega | split)
theorem cnt_lt (n : Int) (h1 : n < 72057594037927936) : n < 256 ^ cnt n := by
  unfold cnt
  repeat (first | (simp only [Int.reducePow, Int.pow_zero]; omega) | split)
theorem cnt_ge (n : Int) (h : 0 < cnt n) : 256 ^ (cnt n - 1) ≤ n := by
  unfold cnt at h ⊢
  split
  · rename_i h1; rw [if_pos h1] at h; omega
  · repeat (first | (simp only [Nat.reduceSub, Int.pow_zero, Nat.sub_self, Int.pow_succ]; omega) | split)
theorem pow_mono {a b : Nat} (h : a ≤ b) : (256 : Int) ^ a ≤ 256 ^ b := by
  have h1 : 256 ^ a ≤ 256 ^ b := Nat.pow_le_pow_right (by decide) h
  have e1 : ((256 ^ a : Nat) : Int) = 256 ^ a := by simp
  have e2 : ((256 ^ b : Nat) : Int) = 256 ^ b := by simp
  rw [← e1, ← e2]
  exact Int.ofNat_le.2 h1
theorem cnt_is (n : Int) (k : Nat) (hk : k ≤ 7) (h1 : n < 256 ^ k) (h2 : 0 < k → 256 ^ (k - 1) ≤ n) : cnt n = k := by
  have hc := cnt_lt n (by
    have : (256 : Int) ^ k ≤ 256 ^ 7 := pow_mono hk
    have e : (256 : Int) ^ 7 = 72057594037927936 := by decide
    omega)
  rcases Nat.lt_trichotomy (cnt n) k with h | h | h
  · have := h2 (by omega)
    have e : (256 : Int) ^ cnt n ≤ 256 ^ (k - 1) := pow_mono (by omega)
    omega
  · exact h
  · have := cnt_ge n (by omega)
    have e : (256 : Int) ^ k ≤ 256 ^ (cnt n - 1) := pow_mono (by omega)
    omega

theorem lof_cons (k : Nat) (f : Nat → Int) : lof (1 + k) f = f 0 :: lof k (fun i => f (i + 1)) := by
  unfold lof
  rw [Nat.add_comm, List.range_succ_eq_map, List.map_cons, List.map_map]
  rfl
/-- The nearest number that four bytes have. -/
def clampF (x : Int) : Int := if x < -2147483648 then -2147483648 else if 2147483647 < x then 2147483647 else x
theorem clampF_bd (x : Int) : -2147483648 ≤ clampF x ∧ clampF x ≤ 2147483647 := by unfold clampF; split <;> (try split) <;> omega
/-- The nearest number that is kept. -/
def clampV (x : Int) : Int := if x < -1000000000000000 then -1000000000000000 else if 1000000000000000 < x then 1000000000000000 else x
theorem clampV_bd (x : Int) : -1000000000000000 ≤ clampV x ∧ clampV x ≤ 1000000000000000 := by unfold clampV; split <;> (try split) <;> omega

/-- The four bytes of a number. -/
def fixL (x : Int) : List Int := lof 4 (be 4 (clampF x + 2147483648))
theorem fixL_len (x : Int) : (fixL x).length = 4 := lof_len _ _
theorem getD_in {l : List Int} {i : Nat} (h : i < l.length) : l.getD i 0 ∈ l := by
  rw [List.getD_eq_getElem?_getD, List.getElem?_eq_getElem h]
  exact List.getElem_mem h
theorem lof_byte {k : Nat} {f : Nat → Int} (h : ∀ i, i < k → 0 ≤ f i ∧ f i ≤ 255) : ∀ y ∈ lof k f, 0 ≤ y ∧ y ≤ 255 := by
  intro y hy
  simp only [lof, List.mem_map, List.mem_range] at hy
  obtain ⟨j, hj, rfl⟩ := hy
  exact h j hj
theorem fixL_byte (x : Int) : ∀ y ∈ fixL x, 0 ≤ y ∧ y ≤ 255 := lof_byte (fun i _ => be_bd _ _ i)

/-- A number without its sign: what its bytes are of. -/
def sizeV (x : Int) : Int := if x < 0 then -1 - x else x
theorem sizeV_bd (x : Int) (h : -1000000000000000 ≤ x ∧ x ≤ 1000000000000000) : 0 ≤ sizeV x ∧ sizeV x ≤ 1000000000000000 := by unfold sizeV; split <;> omega
/-- Its first byte. -/
def headV (x : Int) : Int := if x < 0 then 127 - (cnt (sizeV x) : Int) else 128 + (cnt (sizeV x) : Int)
/-- Those behind it. -/
def tailV (x : Int) (i : Nat) : Int := if x < 0 then 255 - be (cnt (sizeV x)) (sizeV x) i else be (cnt (sizeV x)) (sizeV x) i
/-- A kept number's bytes. -/
def keptL (x : Int) : List Int := headV x :: lof (cnt (sizeV x)) (tailV x)
def varL (x : Int) : List Int := keptL (clampV x)
theorem keptL_len (x : Int) : (keptL x).length = cnt (sizeV x) + 1 := by simp [keptL, lof_len]
theorem headV_bd (x : Int) : 0 ≤ headV x ∧ headV x ≤ 255 := by
  have := cnt_le (sizeV x)
  unfold headV
  split <;> omega
theorem tailV_bd (x : Int) (i : Nat) : 0 ≤ tailV x i ∧ tailV x i ≤ 255 := by
  have := be_bd (cnt (sizeV x)) (sizeV x) i
  unfold tailV
  split <;> omega
theorem keptL_byte (x : Int) : ∀ y ∈ keptL x, 0 ≤ y ∧ y ≤ 255 := by
  intro y hy
  rcases List.mem_cons.1 hy with rfl | hy
  · exact headV_bd x
  · exact lof_byte (fun i _ => tailV_bd x i) y hy
theorem varL_len (x : Int) : 1 ≤ (varL x).length ∧ (varL x).length ≤ 8 := by
  have := cnt_le (sizeV (clampV x))
  unfold varL
  rw [keptL_len]
  omega
theorem varL_byte (x : Int) : ∀ y ∈ varL x, 0 ≤ y ∧ y ≤ 255 := keptL_byte _
end Go.Proofs.YtkakkjnbhklfpaaGreatDoor

/-
  What is read of bytes as a number of the kept ones, plainly.
-/
namespace Go.Proofs.YtkakkjnbhklfpaaGreatDoor
open Go.RowKit
set_option maxRecDepth 4000

/-- The byte as it is, or turned. -/
def turnF (t : Bool) (f : Nat → Int) (i : Nat) : Int := if t then 255 - f i else f i
/-- How many bytes a head says. -/
def hcnt (h : Int) : Nat := (if h < 128 then 127 - h else h - 128).toNat
/-- The digits behind the head at i. -/
def digF (f : Nat → Int) (i : Nat) : Nat → Int := turnF (decide (f i < 128)) (fun j => f (i + 1 + j))
/-- The number that head and digits say. -/
def numV (f : Nat → Int) (i : Nat) : Int := if f i < 128 then -1 - valF (hcnt (f i)) (digF f i) else valF (hcnt (f i)) (digF f i)
/-- What is there whole, and is not to be read. -/
def badV (f : Nat → Int) (i : Nat) : Prop := (0 < hcnt (f i) ∧ digF f i 0 = 0) ∨ numV f i < -1000000000000000 ∨ 1000000000000000 < numV f i
instance (f : Nat → Int) (i : Nat) : Decidable (badV f i) := by unfold badV; infer_instance

end Go.Proofs.YtkakkjnbhklfpaaGreatDoor

/-
  One value in a key, plainly: which parts are right, what fits, its bytes, and what is read of bytes.
-/
namespace Go.Proofs.YtkakkjnbhklfpaaGreatDoor
open Go.RowKit
set_option maxRecDepth 4000

def partOk (c t : Int) : Bool := decide (0 ≤ c) && decide (c ≤ 9) && (decide (1 ≤ t) && decide (t ≤ 4))
def fitsP (t : Int) (nul : Bool) (k n : Int) (s : ByteArray) : Bool := okF k n s && ((decide (k = t) && decide (k ≠ 0)) || (decide (k = 0) && nul))

/-- The bytes of a value that is there. -/
def valL (k n : Int) (s : ByteArray) : List Int := if k = 1 then fixL n else if k = 2 then varL n else if k = 3 then escL (sl s) ++ [0, 1] else [n % 256]
/-- The bytes of a value that fits. -/
def partL (nul : Bool) (k n : Int) (s : ByteArray) : List Int := if k = 0 then [0] else if nul then 1 :: valL k n s else valL k n s
def turnL (d : Bool) (l : List Int) : List Int := if d then l.map (fun y => 255 - y) else l
/-- What is put. -/
def putPL (c t : Int) (nul d : Bool) (k n : Int) (s : ByteArray) : List Int := if partOk c t && fitsP t nul k n s then turnL d (partL nul k n s) else []

def turned (d : Bool) (f : Nat → Int) : Nat → Int := if d then fun i => 255 - f i else f
theorem okF_few {k n : Int} {s : ByteArray} (h : okF k n s = true) : s.size ≤ 30 := by
  obtain ⟨v, hr, rfl, rfl, rfl⟩ := okF_iff.1 h
  cases v with
  | text s => simpa [V.rng, V.s] using hr
  | _ => exact Nat.zero_le _
theorem valL_byte (k n : Int) (s : ByteArray) : ∀ y ∈ valL k n s, 0 ≤ y ∧ y ≤ 255 := by
  intro y hy
  unfold valL at hy
  split at hy
  · exact fixL_byte n y hy
  · split at hy
    · exact varL_byte n y hy
    · split at hy
      · rcases List.mem_append.1 hy with hy | hy
        · exact escL_byte _ (sl_byte s) y hy
        · simp at hy; omega
      · simp at hy; omega
theorem partL_byte (nul : Bool) (k n : Int) (s : ByteArray) : ∀ y ∈ partL nul k n s, 0 ≤ y ∧ y ≤ 255 := by
  intro y hy
  unfold partL at hy
  split at hy
  · simp at hy; omega
  · split at hy
    · rcases List.mem_cons.1 hy with rfl | hy
      · omega
      · exact valL_byte k n s y hy
    · exact valL_byte k n s y hy
theorem turnL_byte (d : Bool) (l : List Int) (h : ∀ y ∈ l, 0 ≤ y ∧ y ≤ 255) : ∀ y ∈ turnL d l, 0 ≤ y ∧ y ≤ 255 := by
  intro y hy
  unfold turnL at hy
  split at hy
  · obtain ⟨z, hz, rfl⟩ := List.mem_map.1 hy
    have := h z hz
    omega
  · exact h y hy
theorem turnL_len (d : Bool) (l : List Int) : (turnL d l).length = l.length := by unfold turnL; split <;> simp
theorem putPL_byte (c t : Int) (nul d : Bool) (k n : Int) (s : ByteArray) : ∀ y ∈ putPL c t nul d k n s, 0 ≤ y ∧ y ≤ 255 := by
  intro y hy
  unfold putPL at hy
  split at hy
  · exact turnL_byte d _ (partL_byte nul k n s) y hy
  · cases hy
theorem valL_len (k n : Int) (s : ByteArray) : 1 ≤ (valL k n s).length ∧ (valL k n s).length ≤ 2 * s.size + 8 := by
  unfold valL
  split
  · rw [fixL_len]; omega
  · split
    · have := varL_len n; omega
    · split
      · have := (escL_len (sl s)).2
        rw [sl_len] at this
        rw [List.length_append]
        simp
        omega
      · simp
theorem partL_len (nul : Bool) (k n : Int) (s : ByteArray) : 1 ≤ (partL nul k n s).length ∧ (partL nul k n s).length ≤ 2 * s.size + 9 := by
  have := valL_len k n s
  unfold partL
  split
  · simp
  · split
    · rw [List.length_cons]; omega
    · omega
theorem putPL_len (c t : Int) (nul d : Bool) (k n : Int) (s : ByteArray) : (putPL c t nul d k n s).length ≤ 2 * s.size + 9 := by
  have := partL_len nul k n s
  unfold putPL
  split
  · rw [turnL_len]; omega
  · simp
end Go.Proofs.YtkakkjnbhklfpaaGreatDoor

/-
  Keys, plainly: which plans are right, what fits, the bytes of values one behind the other, and what is read of bytes.
-/
namespace Go.Proofs.YtkakkjnbhklfpaaGreatDoor
open Go.RowKit
set_option maxRecDepth 4000

/-- A plan is right. -/
def planOk (n : Nat) (fc ft : Nat → Int) : Bool := (List.range n).all (fun i => partOk (fc i) (ft i)) && decide (n ≤ 6)
/-- Values fit. -/
def fitsAll (n m : Nat) (ft : Nat → Int) (fu : Nat → Bool) (fk fn : Nat → Int) (fs : Nat → ByteArray) : Bool := decide (m ≤ n) && (List.range m).all (fun i => fitsP (ft i) (fu i) (fk i) (fn i) (fs i))
theorem planOk_iff {n : Nat} {fc ft : Nat → Int} : planOk n fc ft = true ↔ (∀ i, i < n → partOk (fc i) (ft i) = true) ∧ n ≤ 6 := by
  unfold planOk; simp
theorem fitsAll_iff {n m : Nat} {ft : Nat → Int} {fu : Nat → Bool} {fk fn : Nat → Int} {fs : Nat → ByteArray} : fitsAll n m ft fu fk fn fs = true ↔ m ≤ n ∧ ∀ i, i < m → fitsP (ft i) (fu i) (fk i) (fn i) (fs i) = true := by
  unfold fitsAll; simp
/-- The first k of the lists, one behind the other. -/
def keyT (g : Nat → List Int) : Nat → List Int
  | 0 => []
  | k + 1 => keyT g k ++ g k
/-- The bytes of the value at a place of a plan. -/
def onePL (fc ft : Nat → Int) (fu fd : Nat → Bool) (fk fn : Nat → Int) (fs : Nat → ByteArray) (i : Nat) : List Int := putPL (fc i) (ft i) (fu i) (fd i) (fk i) (fn i) (fs i)
/-- The bytes of a key. -/
def keyL (n : Nat) (fc ft : Nat → Int) (fu fd : Nat → Bool) (m : Nat) (fk fn : Nat → Int) (fs : Nat → ByteArray) : List Int :=
  if planOk n fc ft && fitsAll n m ft fu fk fn fs then keyT (onePL fc ft fu fd fk fn fs) m else []

theorem keyT_congr {g h : Nat → List Int} : ∀ {k : Nat}, (∀ i, i < k → g i = h i) → keyT g k = keyT h k
  | 0, _ => rfl
  | k + 1, e => by rw [keyT, keyT, keyT_congr (fun i hi => e i (by omega)), e k (by omega)]
/-- What stands behind the first k. -/
theorem keyT_split (g : Nat → List Int) (k : Nat) : ∀ j, keyT g (k + j) = keyT g k ++ keyT (fun i => g (k + i)) j
  | 0 => by simp [keyT]
  | j + 1 => by rw [← Nat.add_assoc, keyT, keyT_split g k j, keyT, List.append_assoc]
theorem keyT_byte {g : Nat → List Int} : ∀ {k : Nat}, (∀ i, i < k → ∀ y ∈ g i, 0 ≤ y ∧ y ≤ 255) → ∀ y ∈ keyT g k, 0 ≤ y ∧ y ≤ 255
  | 0, _, y, hy => by simp [keyT] at hy
  | k + 1, h, y, hy => by
    rw [keyT] at hy
    rcases List.mem_append.1 hy with hy | hy
    · exact keyT_byte (fun i hi => h i (by omega)) y hy
    · exact h k (by omega) y hy
theorem keyL_byte (n : Nat) (fc ft : Nat → Int) (fu fd : Nat → Bool) (m : Nat) (fk fn : Nat → Int) (fs : Nat → ByteArray) : ∀ y ∈ keyL n fc ft fu fd m fk fn fs, 0 ≤ y ∧ y ≤ 255 := by
  intro y hy
  unfold keyL at hy
  split at hy
  · exact keyT_byte (fun i _ => putPL_byte _ _ _ _ _ _ _) y hy
  · cases hy
theorem onePL_len {ft : Nat → Int} {fu : Nat → Bool} {fk fn : Nat → Int} {fs : Nat → ByteArray} {i : Nat} (fc : Nat → Int) (fd : Nat → Bool) (h : fitsP (ft i) (fu i) (fk i) (fn i) (fs i) = true) : (onePL fc ft fu fd fk fn fs i).length ≤ 69 := by
  unfold onePL
  have h1 := putPL_len (fc i) (ft i) (fu i) (fd i) (fk i) (fn i) (fs i)
  have h2 : (fs i).size ≤ 30 := by unfold fitsP at h; simp only [Bool.and_eq_true] at h; exact okF_few h.1
  omega
theorem keyT_len {g : Nat → List Int} : ∀ {k : Nat}, (∀ i, i < k → (g i).length ≤ 69) → (keyT g k).length ≤ k * 69
  | 0, _ => by simp [keyT]
  | k + 1, h => by
    rw [keyT, List.length_append]
    have h1 := keyT_len (fun i hi => h i (by omega)) (k := k)
    have h2 := h k (by omega)
    omega
theorem keyL_len (n : Nat) (fc ft : Nat → Int) (fu fd : Nat → Bool) (m : Nat) (fk fn : Nat → Int) (fs : Nat → ByteArray) : (keyL n fc ft fu fd m fk fn fs).length ≤ 414 := by
  unfold keyL
  split
  · rename_i h
    simp only [Bool.and_eq_true] at h
    obtain ⟨h1, h2⟩ := h
    have hp := planOk_iff.1 h1
    have hf := fitsAll_iff.1 h2
    have := keyT_len (g := onePL fc ft fu fd fk fn fs) (k := m) (fun i hi => onePL_len fc fd (hf.2 i hi))
    omega
  · simp

section
variable (N : Nat) (F : Nat → Int) (fc ft : Nat → Int) (fu fd : Nat → Bool)
end
end Go.Proofs.YtkakkjnbhklfpaaGreatDoor

/-
  What the table of the types says of the bytes.
-/
namespace Go.Proofs.YtkakkjnbhklfpaaGreatDoor
open Go.RowKit
set_option maxRecDepth 4000

theorem Tryz.info5 : (Tryz.prog.info? 5).map (fun i => (i.zero, i.size, i.bytes)) = some (some (.int .u8 0), 1, 1) := by kernel_rfl

end Go.Proofs.YtkakkjnbhklfpaaGreatDoor

/-
  All bits of a byte turned.
-/
namespace Go.Proofs.YtkakkjnbhklfpaaGreatDoor
open Go.RowKit
set_option maxRecDepth 4000

theorem u8_not (x : Int) (h0 : 0 ≤ x) (h1 : x ≤ 255) : bits .xor .u8 IntKind.u8.max x = 255 - x := by
  obtain ⟨n, rfl⟩ := Int.eq_ofNat_of_zero_le h0
  have key : ∀ n : Fin 256, bits .xor .u8 IntKind.u8.max (n.val : Int) = 255 - (n.val : Int) := by decide +kernel
  exact key ⟨n, by omega⟩
end Go.Proofs.YtkakkjnbhklfpaaGreatDoor

/-
  A part of a slice of bytes that reads.
-/
namespace Go.Proofs.YtkakkjnbhklfpaaGreatDoor
open Go.RowKit
set_option maxRecDepth 4000

theorem View.part {w : World} {b off n cap m k : Nat} {f : Nat → Int} (h : View w (some ⟨b, off, none⟩) n cap f) (hm : k + m ≤ n) (c : Nat) (hc : m ≤ c) : View w (some ⟨b, off + k, none⟩) m c (fun i => f (k + i)) := by
  refine ⟨hc, fun i hi => h.byte (k + i) (by omega), fun h0 => ?_⟩
  obtain ⟨b', off', e, hb, hcl⟩ := h.cells (by omega)
  simp only [Option.some.injEq, Addr.mk.injEq, and_true] at e
  obtain ⟨rfl, rfl⟩ := e
  exact ⟨b, off + k, rfl, hb, fun i hi => by have := hcl (k + i) (by omega); rw [← Nat.add_assoc] at this; exact this⟩
end Go.Proofs.YtkakkjnbhklfpaaGreatDoor

