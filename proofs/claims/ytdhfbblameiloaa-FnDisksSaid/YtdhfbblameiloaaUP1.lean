/-
  Together: Base, Plain, PutPlain, Info, Draw, But, DrawBut, CurKit, DrawInt, DrawList, DrawIntMem, DiskView, DiskOwn, SettlePlain
-/
import Derived.WalkKit
import Derived.Deep.OwnRows
import Derived.Deep.LoopGhost
import Derived.OpenShut
import Derived.Laws.BitsAllLaws
import Derived.Laws.Bits128
import Derived.Test.YtdhfbblameiloaaChecked
import Derived.WalkSpells
/-
  What a walk over bytes is told of a slice of bytes that it reads ('View'), and how that is carried from one world to the next. No program text is named here.
-/
namespace Go.Proofs.Ytdhfbblameiloaa
open Go.RowKit
set_option maxRecDepth 4000

/-- The slice value '.slice ao n cap' reads, in the world w, as the n bytes f 0 up to f (n - 1). -/
structure View (w : World) (ao : Option Addr) (n cap : Nat) (f : Nat → Int) : Prop where
  le : n ≤ cap
  byte : ∀ i, i < n → 0 ≤ f i ∧ f i ≤ 255
  cells : 0 < n → ∃ b off, ao = some ⟨b, off, none⟩ ∧ b < w.heap.size ∧ ∀ i, i < n → w.cell? ⟨b, off + i, none⟩ = some (.int .u8 (f i))

/-- What was there reads as it did. -/
theorem View.below {w w' : World} {ao : Option Addr} {n cap : Nat} {f : Nat → Int} (h : View w ao n cap f) (hb : Below w.heap.size w w') : View w' ao n cap f := by
  refine ⟨h.le, h.byte, fun hn => ?_⟩
  obtain ⟨b, off, e, hlt, hc⟩ := h.cells hn
  exact ⟨b, off, e, Nat.lt_of_lt_of_le hlt hb.size, fun i hi => by rw [hb.cell (p := ⟨b, off + i, none⟩) hlt]; exact hc i hi⟩

theorem View.drew {w : World} {ao : Option Addr} {n cap : Nat} {f : Nat → Int} (h : View w ao n cap f) : View w.drew ao n cap f := h.below (Below.refl _ _).drew

theorem View.take {w : World} {ao : Option Addr} {n cap m : Nat} {f : Nat → Int} (h : View w ao n cap f) (hm : m ≤ n) : View w ao m cap f := by
  refine ⟨Nat.le_trans hm h.le, fun i hi => h.byte i (by omega), fun h0 => ?_⟩
  obtain ⟨b, off, e, hb, hc⟩ := h.cells (by omega)
  exact ⟨b, off, e, hb, fun i hi => hc i (by omega)⟩

theorem View.congr {w : World} {ao : Option Addr} {n cap : Nat} {f g : Nat → Int} (h : View w ao n cap f) (e : ∀ i, i < n → f i = g i) : View w ao n cap g := by
  refine ⟨h.le, fun i hi => by rw [← e i hi]; exact h.byte i hi, fun hn => ?_⟩
  obtain ⟨b, off, ea, hlt, hc⟩ := h.cells hn
  exact ⟨b, off, ea, hlt, fun i hi => by rw [← e i hi]; exact hc i hi⟩

/-- What the frame of a row hands over of a slice of bytes that came in, as a view. -/
theorem View.ofIn {w : World} {a : Option Addr} {len cap : Nat} {zs : List Int}
    (h : (a = none ∧ len = 0 ∧ cap = 0 ∧ zs = []) ∨ ∃ x, a = some x ∧ len ≤ cap ∧ cap ≤ maxLen ∧ zs.length = cap ∧ (∀ i, i < zs.length → w.cell? (x.add i) = some (.int .u8 (zs.getD i 0))) ∧ ∀ n ∈ zs, (Lit.int .u8 n).wf = true) :
    View w a len cap (fun i => zs.getD i 0) := by
  rcases h with ⟨rfl, rfl, rfl, rfl⟩ | ⟨x, rfl, hl, _, hz, hc, hw⟩
  · exact ⟨Nat.le_refl _, fun i hi => absurd hi (Nat.not_lt_zero _), fun h => absurd h (Nat.lt_irrefl _)⟩
  · refine ⟨hl, fun i _ => by simpa using range_u8 hw i, fun hn => ?_⟩
    obtain ⟨b, off, spot⟩ := x
    have h0 := hc 0 (by omega)
    have hs : spot = none := by simpa [Addr.add] using World.cell?_spot h0
    subst hs
    refine ⟨b, off, rfl, ?_, fun i hi => ?_⟩
    · exact World.block_lt_of_cell? _ _ h0
    · have h1 := hc i (by omega)
      have e : (⟨b, off, none⟩ : Addr).add i = ⟨b, off + i, none⟩ := by unfold Addr.add; split <;> simp_all
      rw [e] at h1
      exact h1

theorem lenOfIn {w : World} {a : Option Addr} {len cap : Nat} {zs : List Int}
    (h : (a = none ∧ len = 0 ∧ cap = 0 ∧ zs = []) ∨ ∃ x, a = some x ∧ len ≤ cap ∧ cap ≤ maxLen ∧ zs.length = cap ∧ (∀ i, i < zs.length → w.cell? (x.add i) = some (.int .u8 (zs.getD i 0))) ∧ ∀ n ∈ zs, (Lit.int .u8 n).wf = true) : len ≤ 9223372036854775807 := by
  rcases h with ⟨_, rfl, _, _⟩ | ⟨_, _, h1, h2, _⟩
  · exact Nat.zero_le _
  · unfold maxLen at h2; omega

/-- A row of the call's own reads as what it holds. -/
theorem View.ofRow {w : World} {b : Nat} {t : TypeId} {m n cap : Nat} {f : Nat → Int} (h : w.rowIs b t m (fun i => .int .u8 (f i))) (hn : n ≤ m) (hc : n ≤ cap) (hb : ∀ i, i < n → 0 ≤ f i ∧ f i ≤ 255) : View w (some ⟨b, 0, none⟩) n cap f :=
  ⟨hc, hb, fun _ => ⟨b, 0, rfl, h.lt, fun i hi => by rw [Nat.zero_add]; exact h.cell (by omega)⟩⟩

/-- Block b is a row of bytes of the call's own, none frozen, whose first n are f 0 up to f (n - 1) (t: the number of the bytes' type). -/
def Row (t : TypeId) (w : World) (b n : Nat) (f : Nat → Int) : Prop :=
  ∃ c : Array Value, w.heap[b]? = some (.cells c t (0, 0)) ∧ n ≤ c.size ∧ ∀ i, i < n → c[i]? = some (.int .u8 (f i))

namespace Row
variable {t : TypeId} {w w' : World} {b n : Nat} {f g : Nat → Int}
theorem cell (h : Row t w b n f) {i : Nat} (hi : i < n) : w.cell? ⟨b, i, none⟩ = some (.int .u8 (f i)) := by
  obtain ⟨c, hb, _, hc⟩ := h
  simp [World.cell?, hb, hc i hi]
theorem frozen (h : Row t w b n f) (i : Nat) : w.frozen? ⟨b, i, none⟩ = false := by
  obtain ⟨c, hb, _, _⟩ := h
  simp [World.frozen?, hb]
theorem lt (h : Row t w b n f) : b < w.heap.size := by
  obtain ⟨c, hb, _, _⟩ := h
  exact (Array.getElem?_eq_some_iff.1 hb).1
theorem congr (h : Row t w b n f) (e : ∀ i, i < n → f i = g i) : Row t w b n g := by
  obtain ⟨c, hb, hn, hc⟩ := h
  exact ⟨c, hb, hn, fun i hi => by rw [hc i hi, e i hi]⟩
theorem of_block (h : Row t w b n f) (e : w'.heap[b]? = w.heap[b]?) : Row t w' b n f := by
  obtain ⟨c, hb, hn, hc⟩ := h
  exact ⟨c, e.trans hb, hn, hc⟩
theorem below {B : Nat} (h : Row t w b n f) (hb : Below B w w') (hlt : b < B) : Row t w' b n f := h.of_block (hb.block b hlt)
theorem ofIs (h : w.rowIs b t n (fun i => .int .u8 (f i))) : Row t w b n f := by
  obtain ⟨c, hb, hn, hc⟩ := h
  exact ⟨c, hb, by omega, hc⟩
theorem set (h : Row t w b n f) (i : Nat) (x : Int) : Row t (w.setCell ⟨b, i, none⟩ (.int .u8 x)) b n (fun j => if j = i then x else f j) := by
  obtain ⟨c, hb, hn, hc⟩ := h
  refine ⟨c.setIfInBounds i (.int .u8 x), ?_, by simpa using hn, fun j hj => ?_⟩
  · simp [World.setCell, Array.getElem?_modify, hb]
  · rw [Array.getElem?_setIfInBounds]
    by_cases e : j = i
    · subst e
      have : j < c.size := by omega
      simp [this]
    · rw [if_neg (fun h => e h.symm)]
      show c[j]? = some (.int .u8 (if j = i then x else f j))
      rw [if_neg e]
      exact hc j hj
theorem view {cap : Nat} (h : Row t w b n f) (hc : n ≤ cap) (hb : ∀ i, i < n → 0 ≤ f i ∧ f i ≤ 255) : View w (some ⟨b, 0, none⟩) n cap f :=
  ⟨hc, hb, fun _ => ⟨b, 0, rfl, h.lt, fun i hi => by rw [Nat.zero_add]; exact h.cell hi⟩⟩
end Row

/-- Block b alone may have turned; no block has come or gone. -/
structure Only (b : Nat) (w w' : World) : Prop where
  os : w'.os = w.os
  tape : w'.tape = w.tape
  output : w'.output = w.output
  size : w'.heap.size = w.heap.size
  block : ∀ k, k ≠ b → w'.heap[k]? = w.heap[k]?

theorem Only.refl (b : Nat) (w : World) : Only b w w := ⟨rfl, rfl, rfl, rfl, fun _ _ => rfl⟩
theorem Only.drew {b : Nat} {w w' : World} (h : Only b w w') : Only b w w'.drew := ⟨h.os, h.tape, h.output, h.size, h.block⟩
theorem Only.setCell {b i : Nat} {w w' : World} (h : Only b w w') (u : Value) : Only b w (w'.setCell ⟨b, i, none⟩ u) :=
  ⟨h.os, h.tape, h.output, by simpa using h.size, fun k hk => by rw [Below.heap_setCell _ _ _ _ (by exact hk)]; exact h.block k hk⟩
theorem Only.below {b B : Nat} {w w' : World} (h : Only b w w') (hB : B ≤ b) : Below B w w' :=
  ⟨h.os, h.tape, h.output, by rw [h.size]; exact Nat.le_refl _, fun k hk => h.block k (by omega)⟩
theorem Only.row {t : TypeId} {b b' n : Nat} {f : Nat → Int} {w w' : World} (h : Only b w w') (hr : Row t w b' n f) (hne : b' ≠ b) : Row t w' b' n f := hr.of_block (h.block b' hne)
theorem Only.view {b : Nat} {ao : Option Addr} {n cap : Nat} {f : Nat → Int} {w w' : World} (h : Only b w w') (hv : View w ao n cap f) (hne : ∀ a, ao = some a → a.block ≠ b) : View w' ao n cap f := by
  refine ⟨hv.le, hv.byte, fun hn => ?_⟩
  obtain ⟨b', off, e, hlt, hc⟩ := hv.cells hn
  refine ⟨b', off, e, by rw [h.size]; exact hlt, fun i hi => ?_⟩
  rw [World.cell?_of_block (w := w) (h.block b' (hne _ e))]
  exact hc i hi

end Go.Proofs.Ytdhfbblameiloaa

/-
  Plain facts on numbers: and, or, exclusive or of two numbers that are not negative, as Go's int has them. No program text is named here.
-/
namespace Go.Proofs.Ytdhfbblameiloaa
open Go.RowKit
set_option maxRecDepth 4000

theorem wrapNat63 (n : Nat) (h : n < 9223372036854775808) : IntKind.i64.wrap (n : Int) = (n : Int) := by
  rw [IntKind.wrap_i64]; omega

theorem i64_and_nat (a b : Nat) (ha : a < 9223372036854775808) (hb : b < 9223372036854775808) : bits .and .i64 (a : Int) (b : Int) = ((a &&& b : Nat) : Int) := by
  have h : a &&& b < 9223372036854775808 := Nat.and_lt_two_pow (n := 63) _ hb
  show IntKind.i64.wrap ((BitVec.ofInt 64 (a : Int) &&& BitVec.ofInt 64 (b : Int)).toNat : Nat) = _
  rw [BitVec.toNat_and, ofInt_u64 a (by omega), ofInt_u64 b (by omega), wrapNat63 _ h]

theorem i64_and1 (n : Nat) (h : n < 9223372036854775808) : bits .and .i64 (n : Int) 1 = ((n % 2 : Nat) : Int) := by
  have := i64_and_nat n 1 h (by decide)
  rw [nat_mask1] at this; exact this

end Go.Proofs.Ytdhfbblameiloaa

/-
  A number as its groups, plainly; lists of bytes that the call owns as rows.
-/
namespace Go.Proofs.Ytdhfbblameiloaa
open Go.RowKit
set_option maxRecDepth 4000

def groups (x : Int) : List Int := if x < 128 then [x] else if x < 16384 then [x % 128 + 128, x / 128] else [x % 128 + 128, x / 128 % 128 + 128, x / 16384]
def lof (n : Nat) (f : Nat → Int) : List Int := (List.range n).map f
theorem lof_len (n : Nat) (f : Nat → Int) : (lof n f).length = n := by simp [lof]
theorem lof_get (n : Nat) (f : Nat → Int) (i : Nat) (h : i < n) : (lof n f).getD i 0 = f i := by simp [lof, h]
def bl (l : List Int) : List Value := l.map (Value.int .u8)
theorem bl_len (l : List Int) : (bl l).length = l.length := by simp [bl]
theorem bl_append (l m : List Int) : bl (l ++ m) = bl l ++ bl m := by simp [bl]
theorem bl_one (l : List Int) : ∀ u ∈ bl l, u.oneCell' = true := by
  intro u hu
  simp only [bl, List.mem_map] at hu
  obtain ⟨x, _, rfl⟩ := hu
  rfl

theorem row_of_own' {base : Nat} {t : TypeId} {v : Value} {N : Nat} {l : List Int} {w : World} (h : w.ownsRow base t 1 v N (bl l)) (hv : v ≠ .slice none 0 0) :
    ∃ g c, v = .slice (some ⟨g, 0, none⟩) N c ∧ base ≤ g ∧ N ≤ c ∧ Row t w g N (fun i => l.getD i 0) := by
  obtain ⟨hl, h⟩ := h
  rcases h with ⟨h0, _⟩ | ⟨g, c, cur, rfl, hb, hg, hnc, _, hcs, ht⟩
  · exact absurd h0 hv
  · refine ⟨g, c, rfl, hb, hnc, cur, hg, by omega, fun i hi => ?_⟩
    have e : (bl l)[i]? = some (.int .u8 (l.getD i 0)) := by
      have : i < l.length := by rw [bl_len] at hl; omega
      simp [bl, this]
    rw [← ht, List.getElem?_take, if_pos (by omega)] at e
    simpa using e
theorem lof_self (l : List Int) : lof l.length (fun i => l.getD i 0) = l := by
  apply List.ext_getElem
  · simp [lof]
  · intro i h1 h2
    simp [lof, h2]

/-- One new cell. -/
theorem cellNew (w : World) (x : Value) (t : TypeId) : ∀ j u, [x][j]? = some u → (w.alloc (.cells #[x] t)).cell? ((⟨w.heap.size, 0, none⟩ : Addr).add j) = some u := by
  intro j u hj
  match j, hj with
  | 0, hj => simp at hj; subst hj; simp [Addr.add]

/-- The cells of a slice that reads, as the law on appending asks for them. -/
theorem cells_of_view {w : World} {b off n cap : Nat} {f : Nat → Int} (h : View w (some ⟨b, off, none⟩) n cap f) : ∀ j u, (bl (lof n f))[j]? = some u → w.cell? ((⟨b, off, none⟩ : Addr).add j) = some u := by
  intro j u hu
  have hj : j < n := by
    by_cases hj : j < n
    · exact hj
    · rw [List.getElem?_eq_none (by rw [bl_len, lof_len]; omega)] at hu; cases hu
  obtain ⟨b', off', e, _, hc⟩ := h.cells (by omega)
  simp only [Option.some.injEq, Addr.mk.injEq, and_true] at e
  obtain ⟨rfl, rfl⟩ := e
  have ea : (⟨b, off, none⟩ : Addr).add j = ⟨b, off + j, none⟩ := by unfold Addr.add; split <;> simp_all
  rw [ea, hc j hj]
  simp [bl, lof, hj] at hu
  rw [hu]

end Go.Proofs.Ytdhfbblameiloaa

/-
  What the table of the types says of the bytes.
-/
namespace Go.Proofs.Ytdhfbblameiloaa
open Go.RowKit
set_option maxRecDepth 4000

theorem Try.info5 : (Try.prog.info? 5).map (fun i => (i.zero, i.size, i.bytes)) = some (some (.int .u8 0), 1, 1) := by kernel_rfl

end Go.Proofs.Ytdhfbblameiloaa

/-
  The cursor that the draws go by: what each draw comes to, as far as a law leans on it: a number within its bounds, bytes of their own; nothing turns but the cursor.
-/
namespace Go.Proofs.Ytdhfbblameiloaa
open Go.RowKit
set_option maxRecDepth 4000

theorem i64_and255 (n : Int) : bits .and .i64 n 255 = n % 256 := by
  have h255 : (BitVec.ofInt 64 255).toNat = 2 ^ 8 - 1 := by decide
  have key : (BitVec.ofInt 64 n &&& BitVec.ofInt 64 255).toNat = (n % ((2 ^ 64 : Nat) : Int)).toNat % 2 ^ 8 := by
    rw [BitVec.toNat_and, BitVec.toNat_ofInt, h255, Nat.and_two_pow_sub_one_eq_mod]
  show IntKind.i64.wrap ((BitVec.ofInt 64 n &&& BitVec.ofInt 64 255).toNat : Nat) = n % 256
  rw [key, IntKind.wrap_i64]
  omega

theorem Only.trans {b : Nat} {w w1 w2 : World} (h : Only b w w1) (k : Only b w1 w2) : Only b w w2 :=
  ⟨k.os.trans h.os, k.tape.trans h.tape, k.output.trans h.output, k.size.trans h.size, fun i hi => (k.block i hi).trans (h.block i hi)⟩

/-- The three cells of a cursor. -/
def curF (ao : Option Addr) (n cap : Nat) (i h : Int) : Nat → Value
  | 0 => .slice ao n cap
  | 1 => .int .i64 i
  | _ => .int .i64 h

structure Cur (w : World) (g : Nat) (ao : Option Addr) (n cap : Nat) (f : Nat → Int) : Prop where
  cells : ∃ i h : Int, w.rowIs g 132 3 (curF ao n cap i h) ∧ 0 ≤ i ∧ i ≤ n
  view : View w ao n cap f
  apart : ∀ a, ao = some a → 0 < n → a.block ≠ g

theorem Cur.lt {w : World} {g : Nat} {ao : Option Addr} {n cap : Nat} {f : Nat → Int} (h : Cur w g ao n cap f) : g < w.heap.size := by
  obtain ⟨i, k, hr, _⟩ := h.cells
  exact hr.lt

theorem Cur.below {w w' : World} {g : Nat} {ao : Option Addr} {n cap : Nat} {f : Nat → Int} (h : Cur w g ao n cap f) (hb : Below w.heap.size w w') : Cur w' g ao n cap f := by
  obtain ⟨i, k, hr, h0, h1⟩ := h.cells
  exact ⟨⟨i, k, hr.of_block (hb.block g hr.lt), h0, h1⟩, h.view.below hb, h.apart⟩

set_option maxHeartbeats 2000000 in
theorem l1Byte_any (g : Nat) (ao : Option Addr) (n cap : Nat) (f : Nat → Int) (w : World) (hn : n ≤ 1048576) (hC : Cur w g ao n cap f) :
    Calls Try.prog 124 #[.pointer (some ⟨g, 0, none⟩)] w fun e w' => ∃ x : Int, e = .returned (.int .i64 x) ∧ 0 ≤ x ∧ x ≤ 255 ∧ Cur w' g ao n cap f ∧ Only g w w' := by
  obtain ⟨i, h, hr, hi0, hi1⟩ := hC.cells
  have c0 : w.cell? ⟨g, 0, none⟩ = some (.slice ao n cap) := hr.cell (by decide)
  have c1 : w.cell? ⟨g, 1, none⟩ = some (.int .i64 i) := hr.cell (by decide)
  have c2 : w.cell? ⟨g, 2, none⟩ = some (.int .i64 h) := hr.cell (by decide)
  have z1 := hr.frozen 1
  have z2 := hr.frozen 2
  have hA : ∀ z : Int, bits .and .i64 z 255 = z % 256 := i64_and255
  by_cases hlt : i < n
  · have hv := hC.view
    obtain ⟨b, off, rfl, hb, hc⟩ := hv.cells (by omega)
    have hne : b ≠ g := hC.apart _ rfl (by omega)
    obtain ⟨k, rfl⟩ := Int.eq_ofNat_of_zero_le hi0
    have hbk := hv.byte k (by omega)
    have hck := hc k (by omega)
    clear hc
    go_enter Try.func124, Try.ntmps124
    go_wp2
    go_region
    all_goals go_wp2
    all_goals go_region
    all_goals go_wp2
    all_goals go_region
    all_goals go_wp2
    go_ret
    have hO : Only g w ((w.setCell ⟨g, 2, none⟩ (.int .i64 (wrap64 (wrap64 (h * 6364136223846793005) + 1442695040888963407)))).setCell ⟨g, 1, none⟩ (.int .i64 ((k : Int) + 1))) := ((Only.refl _ _).setCell _).setCell _
    have hR := ((hr.set 2 (.int .i64 (wrap64 (wrap64 (h * 6364136223846793005) + 1442695040888963407)))).set 1 (.int .i64 ((k : Int) + 1))).congr (g := curF (some ⟨b, off, none⟩) n cap ((k : Int) + 1) (wrap64 (wrap64 (h * 6364136223846793005) + 1442695040888963407)))
      (fun j hj => by match j, hj with | 0, _ => rfl | 1, _ => rfl | 2, _ => rfl)
    exact ⟨_, rfl, by omega, by omega, ⟨⟨_, _, hR, by omega, by omega⟩, (hO.view hv (fun a ha => hC.apart a ha (by omega))).drew.drew.drew, hC.apart⟩, hO.os, hO.tape, hO.output, hO.size, hO.block⟩
  · go_enter Try.func124, Try.ntmps124
    go_wp2
    go_region
    all_goals go_wp2
    all_goals go_region
    all_goals go_wp2
    go_ret
    have hO : Only g w (w.setCell ⟨g, 2, none⟩ (.int .i64 (wrap64 (wrap64 (h * 6364136223846793005) + 1442695040888963407)))) := (Only.refl _ _).setCell _
    have hR := (hr.set 2 (.int .i64 (wrap64 (wrap64 (h * 6364136223846793005) + 1442695040888963407)))).congr (g := curF ao n cap i (wrap64 (wrap64 (h * 6364136223846793005) + 1442695040888963407)))
      (fun j hj => by match j, hj with | 0, _ => rfl | 1, _ => rfl | 2, _ => rfl)
    have hV : View (w.setCell ⟨g, 2, none⟩ (.int .i64 (wrap64 (wrap64 (h * 6364136223846793005) + 1442695040888963407)))) ao n cap f := by
      by_cases h0 : 0 < n
      · exact hO.view hC.view (fun a ha => hC.apart a ha h0)
      · exact ⟨hC.view.le, hC.view.byte, fun h => absurd h h0⟩
    exact ⟨_, rfl, by omega, by omega, ⟨⟨_, _, hR, hi0, hi1⟩, hV.drew.drew, hC.apart⟩, hO.os, hO.tape, hO.output, hO.size, hO.block⟩

set_option maxHeartbeats 1000000 in
theorem l1Below_any (g : Nat) (ao : Option Addr) (n cap : Nat) (f : Nat → Int) (m : Int) (w : World) (hn : n ≤ 1048576) (hm : 0 < m) (hm1 : m ≤ 16777216) (hC : Cur w g ao n cap f) :
    Calls Try.prog 80 #[.pointer (some ⟨g, 0, none⟩), .int .i64 m] w fun e w' => ∃ x : Int, e = .returned (.int .i64 x) ∧ 0 ≤ x ∧ x < m ∧ Cur w' g ao n cap f ∧ Only g w w' := by
  by_cases h256 : m ≤ 256
  · go_enter Try.func80, Try.ntmps80
    go_wp2_with fail
    refine (l1Byte_any g ao n cap f w hn hC).mono ?_
    rintro e w1 ⟨x, rfl, hx0, hx1, hC1, hO1⟩
    go_wp2
    go_ret
    exact ⟨_, rfl, Int.emod_nonneg _ (by omega), Int.emod_lt_of_pos _ hm, hC1, hO1⟩
  · go_enter Try.func80, Try.ntmps80
    go_wp2_with fail
    refine (l1Byte_any g ao n cap f w hn hC).mono ?_
    rintro e w1 ⟨x, rfl, hx0, hx1, hC1, hO1⟩
    go_wp2_with fail
    refine (l1Byte_any g ao n cap f w1 hn hC1).mono ?_
    rintro e w2 ⟨y, rfl, hy0, hy1, hC2, hO2⟩
    go_wp2_with fail
    refine (l1Byte_any g ao n cap f w2 hn hC2).mono ?_
    rintro e w3 ⟨z, rfl, hz0, hz1, hC3, hO3⟩
    go_wp2
    go_ret
    exact ⟨_, rfl, Int.emod_nonneg _ (by omega), Int.emod_lt_of_pos _ hm, hC3, (hO1.trans hO2).trans hO3⟩

set_option maxHeartbeats 1000000 in
theorem l1New_any (ao : Option Addr) (n cap : Nat) (f : Nat → Int) (w : World) (hn : n ≤ 1048576) (hv : View w ao n cap f) :
    Calls Try.prog 77 #[.slice ao n cap] w fun e w' => e = .returned (.pointer (some ⟨w.heap.size, 0, none⟩)) ∧ Cur w' w.heap.size ao n cap f ∧ Below w.heap.size w w' := by
  go_enter Try.func77, Try.ntmps77
  go_wp2
  go_loopg [3, 4] n (fun q s i wr => w = wr ∧ ∃ (k : Nat) (h : Int), k ≤ n ∧ q = n - k ∧ s = .int .i64 h ∧ i = .int .i64 k)
  case atStart => exact ⟨rfl, 0, _, Nat.zero_le _, rfl, rfl, rfl⟩
  case round =>
    obtain ⟨rfl, k, h, hk, rfl, rfl, rfl⟩ := hrel
    by_cases hlt : k < n
    · obtain ⟨b, off, rfl, hb, hc⟩ := hv.cells (by omega)
      have hkz : (k : Int) < (n : Int) := by omega
      have hc1 := hc k hlt
      have hbk := hv.byte k hlt
      by_cases h4 : k < 4000
      · have hz4 : (k : Int) < 4000 := by omega
        clear hc
        go_wp2
        go_roundg (n - (k + 1))
        case measure => omega
        case rel => exact ⟨rfl, k + 1, _, by omega, rfl, rfl, by go_num⟩
      · have hz4 : ¬ (k : Int) < 4000 := by omega
        clear h4
        clear hc
        go_wp2
        go_ret
        refine ⟨rfl, ⟨⟨0, _, World.rowIs_alloc w _ 132 (curF (some ⟨b, off, none⟩) n cap 0 h) (fun j hj => ?_), by omega, by omega⟩, hv.below ((Below.refl _ _).alloc (Nat.le_refl _) _), fun a ha _ => ?_⟩, (Below.refl _ _).alloc (Nat.le_refl _) _⟩
        · match j, hj with | 0, _ => rfl | 1, _ => rfl | 2, _ => rfl
        · cases ha; show b ≠ w.heap.size; omega
    · have hkz : (n : Int) ≤ (k : Int) := by omega
      go_wp2
      go_ret
      refine ⟨rfl, ⟨⟨0, _, World.rowIs_alloc w _ 132 (curF ao n cap 0 h) (fun j hj => ?_), by omega, by omega⟩, hv.below ((Below.refl _ _).alloc (Nat.le_refl _) _), fun a ha h0 => ?_⟩, (Below.refl _ _).alloc (Nat.le_refl _) _⟩
      · match j, hj with | 0, _ => rfl | 1, _ => rfl | 2, _ => rfl
      · obtain ⟨b, off, e, hb, _⟩ := hv.cells h0
        rw [e] at ha; cases ha; show b ≠ w.heap.size; omega
end Go.Proofs.Ytdhfbblameiloaa

/-
  What turns but one block: how it is carried.
-/
namespace Go.Proofs.Ytdhfbblameiloaa
open Go.RowKit
set_option maxRecDepth 4000

/-- Of what was there block g alone may have turned. -/
structure But (g : Nat) (w w' : World) : Prop where
  os : w'.os = w.os
  tape : w'.tape = w.tape
  output : w'.output = w.output
  size : w.heap.size ≤ w'.heap.size
  block : ∀ k, k < w.heap.size → k ≠ g → w'.heap[k]? = w.heap[k]?

theorem But.refl (g : Nat) (w : World) : But g w w := ⟨rfl, rfl, rfl, Nat.le_refl _, fun _ _ _ => rfl⟩
theorem But.trans {g : Nat} {a b c : World} (h : But g a b) (k : But g b c) : But g a c :=
  ⟨k.os.trans h.os, k.tape.trans h.tape, k.output.trans h.output, Nat.le_trans h.size k.size, fun i hi hg => (k.block i (Nat.lt_of_lt_of_le hi h.size) hg).trans (h.block i hi hg)⟩
theorem But.ofOnly {g : Nat} {w w' : World} (h : Only g w w') : But g w w' := ⟨h.os, h.tape, h.output, by rw [h.size]; exact Nat.le_refl _, fun k _ hk => h.block k hk⟩
theorem But.ofBelow {g : Nat} {w w' : World} (h : Below w.heap.size w w') : But g w w' := ⟨h.os, h.tape, h.output, h.size, fun k hk _ => h.block k hk⟩
theorem But.below {g B : Nat} {w w' : World} (h : But g w w') (hB : B ≤ g) (hs : B ≤ w.heap.size) : Below B w w' := ⟨h.os, h.tape, h.output, h.size, fun k hk => h.block k (by omega) (by omega)⟩
theorem But.row {t : TypeId} {g b n : Nat} {f : Nat → Int} {w w' : World} (h : But g w w') (hr : Row t w b n f) (hne : b ≠ g) : Row t w' b n f := hr.of_block (h.block b hr.lt hne)
theorem But.view {g : Nat} {ao : Option Addr} {n cap : Nat} {f : Nat → Int} {w w' : World} (h : But g w w') (hv : View w ao n cap f) (hne : ∀ a, ao = some a → 0 < n → a.block ≠ g) : View w' ao n cap f := by
  refine ⟨hv.le, hv.byte, fun hn => ?_⟩
  obtain ⟨b', off, e, hlt, hc⟩ := hv.cells hn
  refine ⟨b', off, e, Nat.lt_of_lt_of_le hlt h.size, fun i hi => ?_⟩
  rw [World.cell?_of_block (w := w) (h.block b' hlt (hne _ e hn))]
  exact hc i hi
theorem Only.grown {g : Nat} {w w' : World} (h : Only g w w') : w.grownBy w' (some g) :=
  ⟨h.os, h.tape, h.output, by rw [h.size]; exact Nat.le_refl _, fun k _ hk => h.block k (fun e => hk (by rw [e]))⟩
theorem But.grown {g : Nat} {w w' : World} (h : But g w w') : w.grownBy w' (some g) := ⟨h.os, h.tape, h.output, h.size, fun k hk hne => h.block k hk (fun e => hne (by rw [e]))⟩
end Go.Proofs.Ytdhfbblameiloaa

/-
  What turns but the cursor: how it is carried.
-/
namespace Go.Proofs.Ytdhfbblameiloaa
open Go.RowKit
set_option maxRecDepth 4000

theorem Cur.grown {w w' : World} {g : Nat} {ao : Option Addr} {n cap : Nat} {f : Nat → Int} {row : Option Nat} (h : Cur w g ao n cap f) (hg : w.grownBy w' row) (h1 : row ≠ some g) (h2 : ∀ a, ao = some a → 0 < n → row ≠ some a.block) : Cur w' g ao n cap f := by
  obtain ⟨i, k, hr, h0, hi⟩ := h.cells
  refine ⟨⟨i, k, hr.of_block (hg.block g hr.lt (fun e => h1 e.symm)), h0, hi⟩, ⟨h.view.le, h.view.byte, fun hn => ?_⟩, h.apart⟩
  obtain ⟨b', off, e, hlt, hc⟩ := h.view.cells hn
  refine ⟨b', off, e, Nat.lt_of_lt_of_le hlt hg.size, fun j hj => ?_⟩
  rw [World.cell?_of_block (w := w) (hg.block b' hlt (fun e' => h2 _ e hn e'.symm))]
  exact hc j hj
theorem Cur.code {w : World} {g : Nat} {ao : Option Addr} {n cap : Nat} {f : Nat → Int} (h : Cur w g ao n cap f) : ∀ a, ao = some a → 0 < n → a.block < w.heap.size := by
  rintro a rfl hn
  obtain ⟨b, off, e, hlt, _⟩ := h.view.cells hn
  cases e
  exact hlt

end Go.Proofs.Ytdhfbblameiloaa

/-
  The cursor and rows of the call's own, how they are carried.
-/
namespace Go.Proofs.Ytdhfbblameiloaa
open Go.RowKit
set_option maxRecDepth 4000

theorem own_blkN {W : World} {base T c N : Nat} {v : Value} {xs : List Value} (h : W.ownsRow base T c v N xs) {k : Nat} (hk : v.ownBlock = some k) : base ≤ k ∧ k < W.heap.size ∧ ∃ cur z, W.heap[k]? = some (.cells cur T z) := by
  rcases h.2 with ⟨e, -⟩ | ⟨g, cp, cur, e, hb, hg, -⟩
  · rw [e] at hk; cases hk
  · rw [e] at hk
    simp only [Value.ownBlock, Option.some.injEq] at hk
    subst hk
    exact ⟨hb, (Array.getElem?_eq_some_iff.1 hg).1, cur, _, hg⟩
theorem own_grownN {W W' : World} {base T c N : Nat} {v : Value} {xs : List Value} {row : Option Nat} (h : W.ownsRow base T c v N xs) (hg : W.grownBy W' row) (hne : ∀ k, v.ownBlock = some k → row ≠ some k) : W'.ownsRow base T c v N xs := by
  refine ⟨h.1, ?_⟩
  rcases h.2 with ⟨e, h0⟩ | ⟨g, k, cur, e, hb0, hg0, hr⟩
  · exact .inl ⟨e, h0⟩
  · refine .inr ⟨g, k, cur, e, hb0, ?_, hr⟩
    rw [hg.block g (Array.getElem?_eq_some_iff.1 hg0).1 (fun x => hne g (by rw [e]; rfl) x.symm)]
    exact hg0
theorem grown_set (W : World) (B i : Nat) (u : Value) : W.grownBy (W.setCell ⟨B, i, none⟩ u) (some B) :=
  ⟨rfl, rfl, rfl, by simp, fun k _ hk => Below.heap_setCell _ _ _ _ (fun e => hk (by rw [show k = B from e]))⟩
theorem own_form {W : World} {base T c N : Nat} {v : Value} {xs : List Value} (h : W.ownsRow base T c v N xs) (hc : 0 < c := by decide) : ∃ a k, v = .slice a N k := by
  obtain ⟨hl, h⟩ := h
  rcases h with ⟨rfl, h0⟩ | ⟨g, k, cur, rfl, -⟩
  · have hN : N = 0 := by
      rcases Nat.eq_zero_or_pos N with h | h
      · exact h
      · have := Nat.mul_pos h hc
        omega
    subst hN
    exact ⟨none, 0, rfl⟩
  · exact ⟨_, k, rfl⟩
/-- The cursor, where the draw began, and that it alone of what was there has turned. -/
structure CN (w : World) (g : Nat) (ao : Option Addr) (n cap : Nat) (f : Nat → Int) (W : World) : Prop where
  cur : Cur W g ao n cap f
  but : But g w W
  lt : g < w.heap.size
  code : ∀ a, ao = some a → 0 < n → a.block < w.heap.size
theorem CN.start {w : World} {g : Nat} {ao : Option Addr} {n cap : Nat} {f : Nat → Int} (h : Cur w g ao n cap f) : CN w g ao n cap f w := ⟨h, But.refl _ _, h.lt, h.code⟩
theorem CN.size {w : World} {g : Nat} {ao : Option Addr} {n cap : Nat} {f : Nat → Int} {W : World} (h : CN w g ao n cap f W) : w.heap.size ≤ W.heap.size := h.but.size
theorem CN.next {w : World} {g : Nat} {ao : Option Addr} {n cap : Nat} {f : Nat → Int} {W W' : World} (h : CN w g ao n cap f W) (hc : Cur W' g ao n cap f) (hb : But g W W') : CN w g ao n cap f W' := ⟨hc, h.but.trans hb, h.lt, h.code⟩
theorem CN.below {w : World} {g : Nat} {ao : Option Addr} {n cap : Nat} {f : Nat → Int} {W W' : World} (h : CN w g ao n cap f W) (hb : Below W.heap.size W W') : CN w g ao n cap f W' := h.next (h.cur.below hb) (But.ofBelow hb)
theorem CN.grown {w : World} {g : Nat} {ao : Option Addr} {n cap : Nat} {f : Nat → Int} {W W' : World} {row : Option Nat} (h : CN w g ao n cap f W) (hg : W.grownBy W' row) (hr : ∀ j, row = some j → w.heap.size ≤ j) : CN w g ao n cap f W' :=
  ⟨h.cur.grown hg (fun e => by have := hr g e; have := h.lt; omega) (fun a e hn e' => by have := hr _ e'; have := h.code a e hn; omega), ⟨hg.os.trans h.but.os, hg.tape.trans h.but.tape, hg.output.trans h.but.output, Nat.le_trans h.but.size hg.size, fun k hk hne => (hg.block k (Nat.lt_of_lt_of_le hk h.but.size) (fun e => by have := hr k e.symm; omega)).trans (h.but.block k hk hne)⟩, h.lt, h.code⟩
theorem CN.set {w : World} {g : Nat} {ao : Option Addr} {n cap : Nat} {f : Nat → Int} {W : World} (h : CN w g ao n cap f W) {X : Nat} (hX : w.heap.size ≤ X) (i : Nat) (u : Value) : CN w g ao n cap f (W.setCell ⟨X, i, none⟩ u) := h.grown (grown_set W X i u) (fun j e => by cases e; exact hX)
end Go.Proofs.Ytdhfbblameiloaa

/-
  One of a row of numbers, as it is drawn.
-/
namespace Go.Proofs.Ytdhfbblameiloaa
open Go.RowKit
set_option maxRecDepth 4000

set_option maxHeartbeats 1000000 in
theorem l1Int_any (g : Nat) (ao : Option Addr) (n cap : Nat) (f : Nat → Int) (b m : Nat) (z : Nat → Int) (w : World) (hn : n ≤ 1048576) (hm : 0 < m) (hm1 : m ≤ 16777216) (hz : ∀ i, i < m → w.cell? ⟨b, i, none⟩ = some (.int .i64 (z i))) (hbg : b ≠ g) (hC : Cur w g ao n cap f) :
    Calls Try.prog 93 #[.pointer (some ⟨g, 0, none⟩), .slice (some ⟨b, 0, none⟩) m m] w fun e w' => ∃ j : Nat, j < m ∧ e = .returned (.int .i64 (z j)) ∧ Cur w' g ao n cap f ∧ Only g w w' := by
  go_enter Try.func93, Try.ntmps93
  go_wp2_with fail
  refine (l1Below_any g ao n cap f m w hn (by omega) (by omega) hC).mono ?_
  rintro e w1 ⟨x, rfl, hx0, hx1, hC1, hO1⟩
  obtain ⟨j, rfl⟩ := Int.eq_ofNat_of_zero_le hx0
  have hj : w1.cell? ⟨b, j, none⟩ = some (.int .i64 (z j)) := by
    rw [World.cell?_of_block (w := w) (hO1.block b hbg)]; exact hz j (by omega)
  go_wp2
  go_ret
  exact ⟨j, by omega, rfl, hC1, hO1⟩
end Go.Proofs.Ytdhfbblameiloaa

/-
  Lists that are drawn of.
-/
namespace Go.Proofs.Ytdhfbblameiloaa
open Go.RowKit
set_option maxRecDepth 4000

/-- The cells of a list of numbers that is laid anew. -/
theorem newInts (w : World) (l : List Int) (t : TypeId) : ∀ i, i < l.length → (w.alloc (.cells (l.map (Value.int .i64)).toArray t)).cell? ⟨w.heap.size, i, none⟩ = some (.int .i64 (l.getD i 0)) := by
  intro i hi
  rw [World.cell?, show (w.alloc (.cells (l.map (Value.int .i64)).toArray t)).heap[w.heap.size]? = some (.cells (l.map (Value.int .i64)).toArray t) from Deep.blk_alloc_new _ _]
  simp [hi]

theorem getD_mem {l : List Int} {j : Nat} (h : j < l.length) : l.getD j 0 ∈ l := by
  simp [h]

theorem Cur.drew {w : World} {g : Nat} {ao : Option Addr} {n cap : Nat} {f : Nat → Int} (h : Cur w g ao n cap f) : Cur w.drew g ao n cap f := h.below (Below.refl _ _).drew
end Go.Proofs.Ytdhfbblameiloaa

/-
  One of a list of numbers that is laid anew.
-/
namespace Go.Proofs.Ytdhfbblameiloaa
open Go.RowKit
set_option maxRecDepth 4000

theorem l1Int_mem (g : Nat) (ao : Option Addr) (n cap : Nat) (f : Nat → Int) (l : List Int) (A : Nat) (w : World) (hA : A = w.heap.size) (hn : n ≤ 1048576) (h0 : 0 < l.length) (h1 : l.length ≤ 1000) (hC : Cur w g ao n cap f) :
    Calls Try.prog 93 #[.pointer (some ⟨g, 0, none⟩), .slice (some ⟨A, 0, none⟩) l.length l.length] (w.alloc (.cells (l.map (Value.int .i64)).toArray 3)) fun e w' => ∃ z : Int, e = .returned (.int .i64 z) ∧ z ∈ l ∧ Cur w' g ao n cap f ∧ But g w w' := by
  subst hA
  have hb : Below w.heap.size w (w.alloc (.cells (l.map (Value.int .i64)).toArray 3)) := (Below.refl _ _).alloc (Nat.le_refl _) _
  have hg := hC.lt
  refine (l1Int_any g ao n cap f w.heap.size l.length (fun i => l.getD i 0) _ hn h0 (by omega) (newInts w l 3) (by omega) (hC.below hb)).mono ?_
  rintro e w' ⟨j, hj, rfl, hC2, hO2⟩
  exact ⟨_, rfl, getD_mem hj, hC2, (But.ofBelow hb).trans (But.ofOnly hO2)⟩
end Go.Proofs.Ytdhfbblameiloaa

/-
  Disks, plainly; rows whose elements have several cells that read; a disk that reads.
-/
namespace Go.Proofs.Ytdhfbblameiloaa
open Go.RowKit
set_option maxRecDepth 4000

/-- A letter for a thing. -/
theorem hidEx {α : Type} (y : α) : ∃ x, Hid (y = x) := ⟨y, rfl⟩
structure PFault where
  pos : Int
  keep : Int
  cut : Int
structure PDisk where
  secs : List (List Int)
  cache : List (Int × List Int)
  ops : Int
  faults : List PFault
  down : Bool
def bf (l : List Int) (i : Nat) : Int := l.getD i 0
theorem lof_bf (l : List Int) : lof l.length (bf l) = l := lof_self l

/-- A slice value that reads as these bytes. -/
structure LV (w : World) (v : Value) (l : List Int) : Prop where
  is : ∃ a c, v = .slice a l.length c ∧ View w a l.length c (bf l) ∧ (a = none → c = 0)
theorem LV.below {w w' : World} {v : Value} {l : List Int} (h : LV w v l) (hb : Below w.heap.size w w') : LV w' v l := by
  obtain ⟨a, c, e, hv, hn⟩ := h.is
  exact ⟨a, c, e, hv.below hb, hn⟩

/-- A row whose elements have c cells each, of which P says what they are. -/
structure RV {α : Type} (c : Nat) (P : World → List Value → α → Prop) (w : World) (a : Option Addr) (cap : Nat) (l : List α) : Prop where
  le : l.length ≤ cap
  nil : a = none → cap = 0
  cells : 0 < l.length → ∃ b off, a = some ⟨b, off, none⟩ ∧ b < w.heap.size ∧ ∀ i x, l[i]? = some x → ∃ us, P w us x ∧ ∀ j u, us[j]? = some u → w.cell? ⟨b, off + i * c + j, none⟩ = some u
theorem RV.below {α : Type} {c : Nat} {P : World → List Value → α → Prop} {w w' : World} {a : Option Addr} {cap : Nat} {l : List α} (h : RV c P w a cap l) (hP : ∀ us x, P w us x → P w' us x) (hb : Below w.heap.size w w') : RV c P w' a cap l := by
  refine ⟨h.le, h.nil, fun hn => ?_⟩
  obtain ⟨b, off, e, hlt, hc⟩ := h.cells hn
  refine ⟨b, off, e, Nat.lt_of_lt_of_le hlt hb.size, fun i x hi => ?_⟩
  obtain ⟨us, h1, h2⟩ := hc i x hi
  exact ⟨us, hP _ _ h1, fun j u hj => by rw [hb.cell (p := ⟨b, off + i * c + j, none⟩) hlt]; exact h2 j u hj⟩

def SP (w : World) (us : List Value) (x : List Int) : Prop := ∃ u, us = [u] ∧ LV w u x
def WP (w : World) (us : List Value) (x : Int × List Int) : Prop := ∃ u, us = [.int .i64 x.1, u] ∧ LV w u x.2
def FP (_ : World) (us : List Value) (x : PFault) : Prop := us = [.int .i64 x.pos, .int .i64 x.keep, .int .i64 x.cut]
abbrev SView := RV 1 SP
abbrev WView := RV 2 WP
abbrev FView := RV 3 FP
theorem SP.below {w w' : World} (hb : Below w.heap.size w w') (us : List Value) (x : List Int) (h : SP w us x) : SP w' us x := by
  obtain ⟨u, e, hu⟩ := h
  exact ⟨u, e, hu.below hb⟩
theorem WP.below {w w' : World} (hb : Below w.heap.size w w') (us : List Value) (x : Int × List Int) (h : WP w us x) : WP w' us x := by
  obtain ⟨u, e, hu⟩ := h
  exact ⟨u, e, hu.below hb⟩
theorem sview_below {w w' : World} {a : Option Addr} {cap : Nat} {l : List (List Int)} (h : SView w a cap l) (hb : Below w.heap.size w w') : SView w' a cap l := h.below (SP.below hb) hb
theorem wview_below {w w' : World} {a : Option Addr} {cap : Nat} {l : List (Int × List Int)} (h : WView w a cap l) (hb : Below w.heap.size w w') : WView w' a cap l := h.below (WP.below hb) hb
theorem fview_below {w w' : World} {a : Option Addr} {cap : Nat} {l : List PFault} (h : FView w a cap l) (hb : Below w.heap.size w w') : FView w' a cap l := h.below (fun _ _ h => h) hb
/-- An element of a row of byte slices. -/
theorem sview_at {w : World} {a : Option Addr} {cap : Nat} {l : List (List Int)} (h : SView w a cap l) {i : Nat} (hi : i < l.length) : ∃ b off a' c', a = some ⟨b, off, none⟩ ∧ b < w.heap.size ∧ w.cell? ⟨b, off + i, none⟩ = some (.slice a' (l[i]).length c') ∧ View w a' (l[i]).length c' (bf l[i]) ∧ (a' = none → c' = 0) := by
  obtain ⟨b, off, e, hlt, hc⟩ := h.cells (by omega)
  obtain ⟨us, ⟨u, rfl, hu⟩, h2⟩ := hc i l[i] (List.getElem?_eq_getElem hi)
  obtain ⟨a', c', rfl, hv, hn⟩ := hu.is
  exact ⟨b, off, a', c', e, hlt, by simpa using h2 0 _ rfl, hv, hn⟩
theorem wview_at {w : World} {a : Option Addr} {cap : Nat} {l : List (Int × List Int)} (h : WView w a cap l) {i : Nat} (hi : i < l.length) : ∃ b off a' c', a = some ⟨b, off, none⟩ ∧ b < w.heap.size ∧ w.cell? ⟨b, off + i * 2, none⟩ = some (.int .i64 (l[i]).1) ∧ w.cell? ⟨b, off + i * 2 + 1, none⟩ = some (.slice a' (l[i]).2.length c') ∧ View w a' (l[i]).2.length c' (bf (l[i]).2) ∧ (a' = none → c' = 0) := by
  obtain ⟨b, off, e, hlt, hc⟩ := h.cells (by omega)
  obtain ⟨us, ⟨u, rfl, hu⟩, h2⟩ := hc i l[i] (List.getElem?_eq_getElem hi)
  obtain ⟨a', c', rfl, hv, hn⟩ := hu.is
  exact ⟨b, off, a', c', e, hlt, by simpa using h2 0 _ rfl, by simpa using h2 1 _ rfl, hv, hn⟩
theorem fview_at {w : World} {a : Option Addr} {cap : Nat} {l : List PFault} (h : FView w a cap l) {i : Nat} (hi : i < l.length) : ∃ b off, a = some ⟨b, off, none⟩ ∧ b < w.heap.size ∧ w.cell? ⟨b, off + i * 3, none⟩ = some (.int .i64 (l[i]).pos) ∧ w.cell? ⟨b, off + i * 3 + 1, none⟩ = some (.int .i64 (l[i]).keep) ∧ w.cell? ⟨b, off + i * 3 + 2, none⟩ = some (.int .i64 (l[i]).cut) := by
  obtain ⟨b, off, e, hlt, hc⟩ := h.cells (by omega)
  obtain ⟨us, rfl, h2⟩ := hc i l[i] (List.getElem?_eq_getElem hi)
  exact ⟨b, off, e, hlt, by simpa using h2 0 _ rfl, by simpa using h2 1 _ rfl, by simpa using h2 2 _ rfl⟩

/-- A disk's value. -/
structure KView (w : World) (v : Value) (D : PDisk) : Prop where
  is : ∃ sa sc ca cc fa fc, v = .agg #[.slice sa D.secs.length sc, .slice ca D.cache.length cc, .int .i64 D.ops, .slice fa D.faults.length fc, .bool D.down] ∧ SView w sa sc D.secs ∧ WView w ca cc D.cache ∧ FView w fa fc D.faults
theorem KView.below {w w' : World} {v : Value} {D : PDisk} (h : KView w v D) (hb : Below w.heap.size w w') : KView w' v D := by
  obtain ⟨sa, sc, ca, cc, fa, fc, e, h1, h2, h3⟩ := h.is
  exact ⟨sa, sc, ca, cc, fa, fc, e, sview_below h1 hb, wview_below h2 hb, fview_below h3 hb⟩
/-- Nothing is great. -/
structure KFine (D : PDisk) : Prop where
  ns : D.secs.length ≤ 1048576
  sec : ∀ x, x ∈ D.secs → x.length ≤ 1048576
  nc : D.cache.length ≤ 1048576
  cache : ∀ x, x ∈ D.cache → x.2.length ≤ 1048576
  nf : D.faults.length ≤ 1048576
end Go.Proofs.Ytdhfbblameiloaa

/-
  Disks of the call's own: rows that may be written, byte rows that lie apart.
-/
namespace Go.Proofs.Ytdhfbblameiloaa
open Go.RowKit
set_option maxRecDepth 4000

theorem flat_get {α β : Type} (f : α → List β) (c : Nat) (hf : ∀ x, (f x).length = c) : ∀ (l : List α) (i j : Nat), j < c → (l.flatMap f)[i * c + j]? = (l[i]?).bind (fun x => (f x)[j]?)
  | [], i, j, _ => by simp
  | x :: l, 0, j, hj => by
    rw [List.flatMap_cons, Nat.zero_mul, Nat.zero_add, List.getElem?_append_left (by rw [hf]; exact hj)]
    simp
  | x :: l, i + 1, j, hj => by
    rw [List.flatMap_cons, List.getElem?_append_right (by rw [hf, Nat.add_mul]; omega), hf]
    have e : (i + 1) * c + j - c = i * c + j := by rw [Nat.add_mul]; omega
    rw [e, flat_get f c hf l i j hj]
    simp
theorem flat_len {α β : Type} (f : α → List β) (c : Nat) (hf : ∀ x, (f x).length = c) : ∀ (l : List α), (l.flatMap f).length = l.length * c
  | [] => by simp
  | x :: l => by rw [List.flatMap_cons, List.length_append, hf, flat_len f c hf l, List.length_cons, Nat.add_mul]; omega
/-- The cells of writes, whose bytes are these slices; of faults. -/
def wEl (p : Int × Value) : List Value := [.int .i64 p.1, p.2]
def fEl (x : PFault) : List Value := [.int .i64 x.pos, .int .i64 x.keep, .int .i64 x.cut]
def wcells (l : List (Int × List Int)) (cs : List Value) : List Value := ((l.map (·.1)).zip cs).flatMap wEl
def fcells (l : List PFault) : List Value := l.flatMap fEl
theorem zip_get {l : List (Int × List Int)} {cs : List Value} {i : Nat} {x : Int × List Int} {v : Value} (h1 : l[i]? = some x) (h2 : cs[i]? = some v) : ((l.map (·.1)).zip cs)[i]? = some (x.1, v) := by
  simp [List.getElem?_zip_eq_some, h1, h2]
theorem wcells_get {l : List (Int × List Int)} {cs : List Value} {i : Nat} {x : Int × List Int} {v : Value} (h1 : l[i]? = some x) (h2 : cs[i]? = some v) : (wcells l cs)[i * 2]? = some (.int .i64 x.1) ∧ (wcells l cs)[i * 2 + 1]? = some v := by
  have e := zip_get h1 h2
  have g0 := flat_get wEl 2 (fun _ => rfl) ((l.map (·.1)).zip cs) i 0 (by decide)
  have g1 := flat_get wEl 2 (fun _ => rfl) ((l.map (·.1)).zip cs) i 1 (by decide)
  rw [e] at g0 g1
  exact ⟨g0, g1⟩
theorem fcells_get {l : List PFault} {i j : Nat} {x : PFault} (h1 : l[i]? = some x) (hj : j < 3) : (fcells l)[i * 3 + j]? = (fEl x)[j]? := by
  have g0 := flat_get fEl 3 (fun _ => rfl) l i j hj
  rw [h1] at g0
  exact g0

/-- Bytes of the call's own. -/
structure OB (w : World) (B : Nat) (v : Value) (l : List Int) : Prop where
  is : ∃ a c, v = .slice a l.length c ∧ l.length ≤ c ∧ (a = none → c = 0) ∧ (∀ x ∈ l, 0 ≤ x ∧ x ≤ 255) ∧ (l = [] ∨ ∃ g, a = some ⟨g, 0, none⟩ ∧ B ≤ g ∧ Row 5 w g l.length (bf l))
/-- Two slices do not share a block. -/
def Apt (u v : Value) : Prop := ∀ g, u.ownBlock = some g → v.ownBlock = some g → False
/-- Byte rows of the call's own, each by itself. -/
structure Bs (w : World) (B : Nat) (vs : List Value) (ls : List (List Int)) : Prop where
  len : vs.length = ls.length
  ob : ∀ (i : Nat) v l, vs[i]? = some v → ls[i]? = some l → OB w B v l
  lt : ∀ v, v ∈ vs → ∀ g, v.ownBlock = some g → B ≤ g ∧ g < w.heap.size
  apt : vs.Pairwise Apt
/-- A row of the call's own with (at least) these cells. -/
def RL (T : TypeId) (w : World) (B : Nat) (a : Option Addr) (xs : List Value) : Prop := xs = [] ∨ ∃ g cur, a = some ⟨g, 0, none⟩ ∧ B ≤ g ∧ w.heap[g]? = some (.cells cur T (0, 0)) ∧ ∀ (i : Nat) u, xs[i]? = some u → cur[i]? = some u
/-- A disk of the call's own. -/
structure KO (w : World) (B : Nat) (sa : Option Addr) (sc : Nat) (ca : Option Addr) (cc : Nat) (fa : Option Addr) (fc : Nat) (ss cs : List Value) (D : PDisk) : Prop where
  sle : D.secs.length ≤ sc
  snil : sa = none → sc = 0
  cle : D.cache.length ≤ cc
  cnil : ca = none → cc = 0
  fle : D.faults.length ≤ fc
  fnil : fa = none → fc = 0
  ns : ss.length = D.secs.length
  nc : cs.length = D.cache.length
  secs : RL 27 w B sa ss
  cache : RL 51 w B ca (wcells D.cache cs)
  faults : RL 79 w B fa (fcells D.faults)
  bytes : Bs w B (ss ++ cs) (D.secs ++ D.cache.map (·.2))
def dval (D : PDisk) (sa : Option Addr) (sc : Nat) (ca : Option Addr) (cc : Nat) (fa : Option Addr) (fc : Nat) : Value := .agg #[.slice sa D.secs.length sc, .slice ca D.cache.length cc, .int .i64 D.ops, .slice fa D.faults.length fc, .bool D.down]
def KOwn (w : World) (B : Nat) (v : Value) (D : PDisk) : Prop := ∃ sa sc ca cc fa fc ss cs, v = dval D sa sc ca cc fa fc ∧ KO w B sa sc ca cc fa fc ss cs D

/-- What was there from B on is there. -/
def Up (B : Nat) (w w' : World) : Prop := w.heap.size ≤ w'.heap.size ∧ ∀ k, B ≤ k → k < w.heap.size → w'.heap[k]? = w.heap[k]?
theorem Up.ofBelow {B : Nat} {w w' : World} (h : Below w.heap.size w w') : Up B w w' := ⟨h.size, fun k _ hk => h.block k hk⟩
theorem OB.up {w w' : World} {B : Nat} {v : Value} {l : List Int} (h : OB w B v l) (hu : Up B w w') : OB w' B v l := by
  obtain ⟨a, c, e, h1, h2, h3, h4⟩ := h.is
  refine ⟨a, c, e, h1, h2, h3, ?_⟩
  rcases h4 with h4 | ⟨g, ea, hb, hr⟩
  · exact .inl h4
  · exact .inr ⟨g, ea, hb, hr.of_block (hu.2 g hb hr.lt)⟩
theorem RL.up {T : TypeId} {w w' : World} {B : Nat} {a : Option Addr} {xs : List Value} (h : RL T w B a xs) (hu : Up B w w') : RL T w' B a xs := by
  rcases h with h | ⟨g, cur, ea, hb, hg, hc⟩
  · exact .inl h
  · exact .inr ⟨g, cur, ea, hb, (hu.2 g hb (Array.getElem?_eq_some_iff.1 hg).1).trans hg, hc⟩
theorem Bs.up {w w' : World} {B : Nat} {vs : List Value} {ls : List (List Int)} (h : Bs w B vs ls) (hu : Up B w w') : Bs w' B vs ls :=
  ⟨h.len, fun i v l h1 h2 => (h.ob i v l h1 h2).up hu, fun v hv g hg => ⟨(h.lt v hv g hg).1, Nat.lt_of_lt_of_le (h.lt v hv g hg).2 hu.1⟩, h.apt⟩
theorem KO.up {w w' : World} {B : Nat} {sa : Option Addr} {sc : Nat} {ca : Option Addr} {cc : Nat} {fa : Option Addr} {fc : Nat} {ss cs : List Value} {D : PDisk} (h : KO w B sa sc ca cc fa fc ss cs D) (hu : Up B w w') : KO w' B sa sc ca cc fa fc ss cs D :=
  ⟨h.sle, h.snil, h.cle, h.cnil, h.fle, h.fnil, h.ns, h.nc, h.secs.up hu, h.cache.up hu, h.faults.up hu, h.bytes.up hu⟩
theorem KOwn.up {w w' : World} {B : Nat} {v : Value} {D : PDisk} (h : KOwn w B v D) (hu : Up B w w') : KOwn w' B v D := by
  obtain ⟨sa, sc, ca, cc, fa, fc, ss, cs, e, hk⟩ := h
  exact ⟨sa, sc, ca, cc, fa, fc, ss, cs, e, hk.up hu⟩
theorem KOwn.below {w w' : World} {B : Nat} {v : Value} {D : PDisk} (h : KOwn w B v D) (hb : Below w.heap.size w w') : KOwn w' B v D := h.up (Up.ofBelow hb)
theorem OB.mono {w : World} {B B' : Nat} {v : Value} {l : List Int} (h : OB w B v l) (hB : B' ≤ B) : OB w B' v l := by
  obtain ⟨a, c, e, h1, h2, h3, h4⟩ := h.is
  refine ⟨a, c, e, h1, h2, h3, ?_⟩
  rcases h4 with h4 | ⟨g, ea, hb, hr⟩
  · exact .inl h4
  · exact .inr ⟨g, ea, by omega, hr⟩
theorem RL.mono {T : TypeId} {w : World} {B B' : Nat} {a : Option Addr} {xs : List Value} (h : RL T w B a xs) (hB : B' ≤ B) : RL T w B' a xs := by
  rcases h with h | ⟨g, cur, ea, hb, hg, hc⟩
  · exact .inl h
  · exact .inr ⟨g, cur, ea, by omega, hg, hc⟩
theorem Bs.mono {w : World} {B B' : Nat} {vs : List Value} {ls : List (List Int)} (h : Bs w B vs ls) (hB : B' ≤ B) : Bs w B' vs ls := ⟨h.len, fun i v l h1 h2 => (h.ob i v l h1 h2).mono hB, fun v hv g hg => ⟨Nat.le_trans hB (h.lt v hv g hg).1, (h.lt v hv g hg).2⟩, h.apt⟩

theorem OB.lv {w : World} {B : Nat} {v : Value} {l : List Int} (h : OB w B v l) : LV w v l := by
  obtain ⟨a, c, e, h1, h2, h3, h4⟩ := h.is
  refine ⟨a, c, e, ⟨h1, fun i hi => ?_, fun hn => ?_⟩, h2⟩
  · have : bf l i = l[i] := by simp [bf, hi]
    rw [this]
    exact h3 _ (List.getElem_mem hi)
  · rcases h4 with h4 | ⟨g, ea, hb, hr⟩
    · subst h4; simp at hn
    · exact ⟨g, 0, ea, hr.lt, fun i hi => by rw [Nat.zero_add]; exact hr.cell hi⟩
theorem RL.cell {T : TypeId} {w : World} {B : Nat} {a : Option Addr} {xs : List Value} (h : RL T w B a xs) (hn : 0 < xs.length) : ∃ g, a = some ⟨g, 0, none⟩ ∧ B ≤ g ∧ g < w.heap.size ∧ ∀ (i : Nat) u, xs[i]? = some u → w.cell? ⟨g, i, none⟩ = some u := by
  rcases h with h | ⟨g, cur, ea, hb, hg, hc⟩
  · subst h; simp at hn
  · exact ⟨g, ea, hb, (Array.getElem?_eq_some_iff.1 hg).1, fun i u hi => by simp [World.cell?, hg, hc i u hi]⟩
theorem KO.view {w : World} {B : Nat} {sa : Option Addr} {sc : Nat} {ca : Option Addr} {cc : Nat} {fa : Option Addr} {fc : Nat} {ss cs : List Value} {D : PDisk} (h : KO w B sa sc ca cc fa fc ss cs D) : SView w sa sc D.secs ∧ WView w ca cc D.cache ∧ FView w fa fc D.faults := by
  refine ⟨⟨h.sle, h.snil, fun hn => ?_⟩, ⟨h.cle, h.cnil, fun hn => ?_⟩, ⟨h.fle, h.fnil, fun hn => ?_⟩⟩
  · obtain ⟨g, ea, -, hlt, hc⟩ := h.secs.cell (by rw [h.ns]; exact hn)
    refine ⟨g, 0, ea, hlt, fun i x hi => ?_⟩
    have hi' : i < ss.length := by rw [h.ns]; exact (List.getElem?_eq_some_iff.1 hi).1
    have hv := List.getElem?_eq_getElem hi'
    refine ⟨[ss[i]], ⟨ss[i], rfl, (h.bytes.ob i _ x ?_ ?_).lv⟩, fun j u hj => ?_⟩
    · rw [List.getElem?_append_left hi']; exact hv
    · rw [List.getElem?_append_left (by rw [← h.ns]; exact hi')]; exact hi
    · match j, hj with
      | 0, hj => cases hj; simpa using hc i _ hv
  · have hl : (wcells D.cache cs).length = D.cache.length * 2 := by
      unfold wcells
      rw [flat_len wEl 2 (fun _ => rfl), List.length_zip, List.length_map, h.nc, Nat.min_self]
    obtain ⟨g, ea, -, hlt, hc⟩ := h.cache.cell (by omega)
    refine ⟨g, 0, ea, hlt, fun i x hi => ?_⟩
    have hi1 := (List.getElem?_eq_some_iff.1 hi).1
    have hi' : i < cs.length := by rw [h.nc]; exact hi1
    have hv := List.getElem?_eq_getElem hi'
    obtain ⟨g0, g1⟩ := wcells_get hi hv
    refine ⟨[.int .i64 x.1, cs[i]], ⟨cs[i], rfl, (h.bytes.ob (ss.length + i) _ x.2 ?_ ?_).lv⟩, fun j u hj => ?_⟩
    · rw [List.getElem?_append_right (by omega), Nat.add_sub_cancel_left]; exact hv
    · rw [h.ns, List.getElem?_append_right (by omega), Nat.add_sub_cancel_left]; simp [hi]
    · match j, hj with
      | 0, hj => cases hj; simpa using hc _ _ g0
      | 1, hj => cases hj; simpa using hc _ _ g1
  · have hl : (fcells D.faults).length = D.faults.length * 3 := flat_len fEl 3 (fun _ => rfl) _
    obtain ⟨g, ea, -, hlt, hc⟩ := h.faults.cell (by omega)
    refine ⟨g, 0, ea, hlt, fun i x hi => ⟨fEl x, rfl, fun j u hj => ?_⟩⟩
    have hj3 : j < 3 := (List.getElem?_eq_some_iff.1 hj).1
    have g0 := fcells_get hi hj3
    rw [hj] at g0
    simpa using hc _ _ g0
theorem KOwn.view {w : World} {B : Nat} {v : Value} {D : PDisk} (h : KOwn w B v D) : KView w v D := by
  obtain ⟨sa, sc, ca, cc, fa, fc, ss, cs, e, hk⟩ := h
  obtain ⟨h1, h2, h3⟩ := hk.view
  exact ⟨sa, sc, ca, cc, fa, fc, e, h1, h2, h3⟩

/-- One more byte row, a new one. -/
theorem Bs.push {w : World} {B : Nat} {vs : List Value} {ls : List (List Int)} (h : Bs w B vs ls) {v : Value} {l : List Int} (hb : OB w B v l) (hv : ∀ g, v.ownBlock = some g → (B ≤ g ∧ g < w.heap.size) ∧ ∀ u ∈ vs, u.ownBlock ≠ some g) : Bs w B (vs ++ [v]) (ls ++ [l]) := by
  refine ⟨by simp [h.len], fun i u x h1 h2 => ?_, fun u hu g hg => ?_, ?_⟩
  · by_cases hi : i < vs.length
    · rw [List.getElem?_append_left hi] at h1
      rw [List.getElem?_append_left (by rw [← h.len]; exact hi)] at h2
      exact h.ob i u x h1 h2
    · rw [List.getElem?_append_right (by omega)] at h1
      rw [List.getElem?_append_right (by rw [← h.len]; omega)] at h2
      have e0 : i - vs.length = 0 := by
        have := (List.getElem?_eq_some_iff.1 h1).1
        simp at this; omega
      rw [← h.len] at h2
      rw [e0] at h1 h2
      simp at h1 h2
      subst h1 h2
      exact hb
  · rcases List.mem_append.1 hu with hu | hu
    · exact h.lt u hu g hg
    · simp at hu; subst hu
      exact (hv g hg).1
  · rw [List.pairwise_append]
    refine ⟨h.apt, by simp, fun a ha b hb' => ?_⟩
    simp at hb'; subst hb'
    intro g h1 h2
    exact (hv g h2).2 a ha h1
theorem Bs.nil (w : World) (B : Nat) : Bs w B [] [] := ⟨rfl, fun i v l h => by simp at h, fun v hv => by simp at hv, List.Pairwise.nil⟩
/-- What came behind is new to what was there. -/
theorem Bs.newer {w : World} {B : Nat} {vs : List Value} {ls : List (List Int)} (h : Bs w B vs ls) {g : Nat} (hg : w.heap.size ≤ g) : ∀ u ∈ vs, u.ownBlock ≠ some g := by
  intro u hu e
  have := (h.lt u hu g e).2
  omega
/-- A cell of a block below is written. -/
theorem Up.set {B C i : Nat} {w : World} {u : Value} (h : C < B) : Up B w (w.setCell ⟨C, i, none⟩ u) := ⟨by simp, fun k hk _ => Below.heap_setCell _ _ _ _ (show k ≠ C by omega)⟩
theorem Up.refl (B : Nat) (w : World) : Up B w w := ⟨Nat.le_refl _, fun _ _ _ => rfl⟩
theorem Up.trans {B : Nat} {a b c : World} (h : Up B a b) (k : Up B b c) : Up B a c := ⟨Nat.le_trans h.1 k.1, fun i hi hl => (k.2 i hi (Nat.lt_of_lt_of_le hl h.1)).trans (h.2 i hi hl)⟩
theorem OB.ofIs {w : World} {B g : Nat} {l : List Int} (h : w.rowIs g 5 l.length (fun i => .int .u8 (bf l i))) (hB : B ≤ g) (hb : ∀ i, i < l.length → 0 ≤ bf l i ∧ bf l i ≤ 255) : OB w B (.slice (some ⟨g, 0, none⟩) l.length l.length) l := by
  refine ⟨_, _, rfl, Nat.le_refl _, (fun e => by cases e), fun x hx => ?_, .inr ⟨g, rfl, hB, Row.ofIs h⟩⟩
  obtain ⟨i, hi, rfl⟩ := List.getElem_of_mem hx
  have := hb i hi
  have e : bf l i = l[i] := by simp [bf, hi]
  rw [e] at this
  exact this

/-- A variable of several cells. -/
def VN (w : World) (B : Nat) (T : TypeId) (xs : List Value) : Prop := w.heap[B]? = some (.cells ⟨xs⟩ T (0, 0))
theorem VN.new (w : World) (T : TypeId) (xs : List Value) : VN (w.alloc (.cells ⟨xs⟩ T)) w.heap.size T xs := by unfold VN; show (w.heap.push _)[w.heap.size]? = _; simp
theorem VN.lt {w : World} {B : Nat} {T : TypeId} {xs : List Value} (h : VN w B T xs) : B < w.heap.size := (Array.getElem?_eq_some_iff.1 h).1
theorem VN.block {w w' : World} {B : Nat} {T : TypeId} {xs : List Value} (h : VN w B T xs) (e : w'.heap[B]? = w.heap[B]?) : VN w' B T xs := e.trans h
theorem VN.below {w w' : World} {B : Nat} {T : TypeId} {xs : List Value} (h : VN w B T xs) (hb : Below w.heap.size w w') : VN w' B T xs := h.block (hb.block B h.lt)
theorem VN.other {w : World} {B C i : Nat} {T : TypeId} {xs : List Value} {u : Value} (h : VN w B T xs) (hne : B ≠ C) : VN (w.setCell ⟨C, i, none⟩ u) B T xs := h.block (Below.heap_setCell _ _ _ _ hne)
theorem VN.cell {w : World} {B : Nat} {T : TypeId} {xs : List Value} (h : VN w B T xs) (i : Nat) : w.cell? ⟨B, i, none⟩ = xs[i]? := by
  unfold VN at h
  simp [World.cell?, h]
theorem VN.fz {w : World} {B : Nat} {T : TypeId} {xs : List Value} (h : VN w B T xs) (i : Nat) : w.frozen? ⟨B, i, none⟩ = false := by
  unfold VN at h
  simp [World.frozen?, h]
theorem VN.set {w : World} {B : Nat} {T : TypeId} {xs : List Value} (h : VN w B T xs) (i : Nat) (u : Value) : VN (w.setCell ⟨B, i, none⟩ u) B T (xs.set i u) := by
  unfold VN at h ⊢
  simp [World.setCell, Array.getElem?_modify, h]
end Go.Proofs.Ytdhfbblameiloaa

/-
  Writes that come into their sectors, plainly: what the sectors have, and whose rows they are.
-/
namespace Go.Proofs.Ytdhfbblameiloaa
open Go.RowKit
set_option maxRecDepth 4000

/-- Each write comes into its sector, in order. -/
def settleL {α : Type} (s : List α) : List (Int × α) → List α
  | [] => s
  | x :: l => settleL (s.set x.1.toNat x.2) l
theorem settleL_len {α : Type} : ∀ (l : List (Int × α)) (s : List α), (settleL s l).length = s.length
  | [], _ => rfl
  | x :: l, s => by rw [settleL, settleL_len l]; simp
theorem settleL_app {α : Type} : ∀ (l m : List (Int × α)) (s : List α), settleL s (l ++ m) = settleL (settleL s l) m
  | [], _, _ => rfl
  | x :: l, m, s => by rw [List.cons_append, settleL, settleL, settleL_app l m]
theorem settleL_one {α : Type} {l : List (Int × α)} {s : List α} {k : Nat} (h : k < l.length) : settleL s (l.take (k + 1)) = (settleL s (l.take k)).set (l[k]).1.toNat (l[k]).2 := by
  rw [List.take_add_one, List.getElem?_eq_getElem h]
  exact settleL_app _ _ _
/-- The sectors' slices are those of before, or of the writes: each of them once. -/
theorem settle_pairs {ss cs : List Value} {s c : List (List Int)} {ns : List Int} (hs : ss.length = s.length) (hc : cs.length = c.length) (hn : ns.length = cs.length) :
    ∀ (i : Nat) v l, (settleL ss (ns.zip cs))[i]? = some v → (settleL s (ns.zip c))[i]? = some l → ∃ j : Nat, (ss ++ cs)[j]? = some v ∧ (s ++ c)[j]? = some l := by
  suffices H : ∀ (m : List Int) (cs' : List Value) (c' : List (List Int)) (off : Nat) (ss' : List Value) (s' : List (List Int)), cs'.length = c'.length → m.length = cs'.length → ss'.length = s'.length →
      (∀ (j : Nat) v l, cs'[j]? = some v → c'[j]? = some l → (ss ++ cs)[off + j]? = some v ∧ (s ++ c)[off + j]? = some l) →
      (∀ (i : Nat) v l, ss'[i]? = some v → s'[i]? = some l → ∃ j : Nat, (ss ++ cs)[j]? = some v ∧ (s ++ c)[j]? = some l) →
      ∀ (i : Nat) v l, (settleL ss' (m.zip cs'))[i]? = some v → (settleL s' (m.zip c'))[i]? = some l → ∃ j : Nat, (ss ++ cs)[j]? = some v ∧ (s ++ c)[j]? = some l by
    refine H ns cs c ss.length ss s hc hn hs (fun j v l h1 h2 => ⟨?_, ?_⟩) (fun i v l h1 h2 => ⟨i, ?_, ?_⟩)
    · rw [List.getElem?_append_right (by omega), Nat.add_sub_cancel_left]; exact h1
    · rw [hs, List.getElem?_append_right (by omega), Nat.add_sub_cancel_left]; exact h2
    · rw [List.getElem?_append_left (List.getElem?_eq_some_iff.1 h1).1]; exact h1
    · rw [List.getElem?_append_left (List.getElem?_eq_some_iff.1 h2).1]; exact h2
  intro m
  induction m with
  | nil => intro cs' c' off ss' s' _ _ _ _ hp i v l h1 h2; exact hp i v l h1 h2
  | cons x m ih =>
    intro cs' c' off ss' s' hcc hm hss hq hp i v l h1 h2
    match cs', c', hcc, hm, hq, h1, h2 with
    | u :: cs', b :: c', hcc, hm, hq, h1, h2 =>
      refine ih cs' c' (off + 1) (ss'.set x.toNat u) (s'.set x.toNat b) (by simpa using hcc) (by simpa using hm) (by simpa using hss) (fun j v l g1 g2 => ?_) (fun i v l g1 g2 => ?_) i v l h1 h2
      · have := hq (j + 1) v l (by simpa using g1) (by simpa using g2)
        rw [show off + 1 + j = off + (j + 1) by omega]
        exact this
      · rw [List.getElem?_set] at g1 g2
        by_cases e : x.toNat = i
        · rw [if_pos e] at g1 g2
          by_cases hlt : x.toNat < ss'.length
          · rw [if_pos hlt] at g1
            rw [if_pos (by rw [← hss]; exact hlt)] at g2
            cases g1; cases g2
            exact ⟨off, by simpa using (hq 0 _ _ rfl rfl).1, by simpa using (hq 0 _ _ rfl rfl).2⟩
          · rw [if_neg hlt] at g1; cases g1
        · rw [if_neg e] at g1 g2
          exact hp i v l g1 g2
theorem Apt.symm {u v : Value} (h : Apt u v) : Apt v u := fun g h1 h2 => h g h2 h1
theorem apt_set {ss cs : List Value} {u : Value} (i : Nat) (h : (ss ++ u :: cs).Pairwise Apt) : (ss.set i u ++ cs).Pairwise Apt := by
  rw [List.pairwise_append] at h ⊢
  obtain ⟨h1, h2, h3⟩ := h
  rw [List.pairwise_cons] at h2
  refine ⟨?_, h2.2, fun a ha b hb => ?_⟩
  · rw [List.pairwise_iff_getElem] at h1 ⊢
    intro p q hp hq hpq
    rw [List.length_set] at hp hq
    rw [List.getElem_set, List.getElem_set]
    by_cases e1 : i = p
    · rw [if_pos e1, if_neg (by omega)]
      exact (h3 _ (List.getElem_mem hq) u List.mem_cons_self).symm
    · rw [if_neg e1]
      by_cases e2 : i = q
      · rw [if_pos e2]
        exact h3 _ (List.getElem_mem hp) u List.mem_cons_self
      · rw [if_neg e2]
        exact h1 p q hp hq hpq
  · rcases List.mem_or_eq_of_mem_set ha with ha | rfl
    · exact h3 a ha b (List.mem_cons_of_mem _ hb)
    · exact h2.1 b hb
theorem settle_apt : ∀ (ns : List Int) (cs ss : List Value), (ss ++ cs).Pairwise Apt → (settleL ss (ns.zip cs)).Pairwise Apt
  | [], _, ss, h => (List.pairwise_append.1 h).1
  | _ :: _, [], ss, h => (List.pairwise_append.1 h).1
  | x :: ns, u :: cs, ss, h => by
    rw [List.zip_cons_cons, settleL]
    exact settle_apt ns cs _ (apt_set _ h)
/-- The rows of the sectors behind it. -/
theorem Bs.settle {w : World} {B : Nat} {ss cs : List Value} {s c : List (List Int)} {ns : List Int} (h : Bs w B (ss ++ cs) (s ++ c)) (hs : ss.length = s.length) (hn : ns.length = cs.length) : Bs w B (settleL ss (ns.zip cs)) (settleL s (ns.zip c)) := by
  have hc : cs.length = c.length := by have := h.len; simp at this; omega
  refine ⟨by rw [settleL_len, settleL_len]; exact hs, fun i v l h1 h2 => ?_, fun v hv g hg => ?_, settle_apt ns cs ss h.apt⟩
  · obtain ⟨j, g1, g2⟩ := settle_pairs hs hc hn i v l h1 h2
    exact h.ob j v l g1 g2
  · obtain ⟨i, hi, rfl⟩ := List.getElem_of_mem hv
    have hi2 : i < (settleL s (ns.zip c)).length := by rw [settleL_len, ← hs, ← settleL_len (ns.zip cs) ss]; exact hi
    obtain ⟨j, g1, -⟩ := settle_pairs hs hc hn i _ _ (List.getElem?_eq_getElem hi) (List.getElem?_eq_getElem hi2)
    exact h.lt _ (List.mem_of_getElem? g1) g hg
end Go.Proofs.Ytdhfbblameiloaa

