/-
  Together: NodeSet, DrawInt, DrawList, DrawIntMem, Conv
-/
import Derived.Test.YtaiinlcdfeboiaaNP1
import Derived.Laws.BytesArg
/-
  The rows of a node that read, while a variable of a node, or the cursor, turns.
-/
namespace Go.Proofs.Ytaiinlcdfeboiaa
open Go.RowKit
set_option maxRecDepth 4000

/-- The rows lie from B on. -/
def GeB (B : Nat) (kv vv dv : Value) : Prop := (∀ j, kv.ownBlock = some j → B ≤ j) ∧ (∀ j, vv.ownBlock = some j → B ≤ j) ∧ ∀ j, dv.ownBlock = some j → B ≤ j
theorem RN.ge {w W : World} {b2 B : Nat} {kv vv dv : Value} {L : NL} (h : RN w W b2 kv vv dv L) (hB : B ≤ w.heap.size) : GeB B kv vv dv :=
  ⟨fun j e => by have := (own_blkN h.k e).1; omega, fun j e => by have := (own_blkN h.v e).1; have := h.b2w.1; omega, fun j e => by have := (own_blkN h.d e).1; omega⟩
theorem RV3.but {W W' : World} {B g : Nat} {kv vv dv : Value} {L : NL} (h : RV3 W kv vv dv L) (hG : GeB B kv vv dv) (hb : But g W W') (hg : g < B) : RV3 W' kv vv dv L := by
  have key : ∀ {a : Option Addr} {m c : Nat} {F : Nat → Value}, (∀ j, (Value.slice a m c).ownBlock = some j → B ≤ j) → OV W a m c F → OV W' a m c F := by
    intro a m c F hF hO
    refine ⟨hO.le, fun hm => ?_⟩
    obtain ⟨b, off, e, hlt, hc⟩ := hO.cells hm
    have hne : b ≠ g := fun e2 => by have := hF b (by rw [e]; rfl); omega
    refine ⟨b, off, e, Nat.lt_of_lt_of_le hlt hb.size, fun j hj => ?_⟩
    rw [World.cell?_of_block (w := W) (a := ⟨b, off + j, none⟩) (hb.block b hlt hne)]
    exact hc j hj
  obtain ⟨⟨a, c, e, h1, q1⟩, ⟨a2, c2, e2, h2, q2⟩, ⟨a3, c3, e3, h3, q3⟩⟩ := h
  subst e e2 e3
  exact ⟨⟨a, c, rfl, key hG.1 h1, q1⟩, ⟨a2, c2, rfl, key hG.2.1 h2, q2⟩, ⟨a3, c3, rfl, key hG.2.2 h3, q3⟩⟩
theorem RV3.setN {W : World} {X i : Nat} {kv vv dv u : Value} {L : NL} {x0 x1 x2 x3 : Value} (h : RV3 W kv vv dv L) (hV : V4 W X 27 x0 x1 x2 x3) (hx : ∀ j v, (cell4 x0 x1 x2 x3 j) = v → (∀ s, v ≠ .string s) ∧ ∀ y, v ≠ .int .i64 y) : RV3 (W.setCell ⟨X, i, none⟩ u) kv vv dv L := by
  have key : ∀ {a : Option Addr} {m c : Nat} {F : Nat → Value}, (∀ j, (∃ s, F j = .string s) ∨ ∃ y, F j = .int .i64 y) → OV W a m c F → OV (W.setCell ⟨X, i, none⟩ u) a m c F := by
    intro a m c F hF hO
    refine ⟨hO.le, fun hm => ?_⟩
    obtain ⟨b, off, e, hlt, hc⟩ := hO.cells hm
    have hne : b ≠ X := by
      rintro rfl
      have h0 := hc 0 hm
      obtain ⟨c2, h2, hs2, hc2⟩ := hV
      simp only [World.cell?, h2, Nat.add_zero] at h0
      have hlt4 : off < 4 := by
        have := (Array.getElem?_eq_some_iff.1 (by simpa using h0 : c2[off]? = some (F 0))).1
        omega
      rw [hc2 off hlt4] at h0
      have h1 := hx off _ rfl
      rcases hF 0 with ⟨s, hs⟩ | ⟨y, hy⟩
      · rw [hs] at h0; exact h1.1 s (by simpa using h0)
      · rw [hy] at h0; exact h1.2 y (by simpa using h0)
    refine ⟨b, off, e, by simpa using hlt, fun j hj => ?_⟩
    rw [World.cell?_of_block (w := W) (a := ⟨b, off + j, none⟩) (Below.heap_setCell _ _ _ _ hne)]
    exact hc j hj
  obtain ⟨⟨a, c, e, h1, q1⟩, ⟨a2, c2, e2, h2, q2⟩, ⟨a3, c3, e3, h3, q3⟩⟩ := h
  exact ⟨⟨a, c, e, key (fun j => .inl ⟨_, rfl⟩) h1, q1⟩, ⟨a2, c2, e2, key (fun j => .inl ⟨_, rfl⟩) h2, q2⟩, ⟨a3, c3, e3, key (fun j => .inr ⟨_, rfl⟩) h3, q3⟩⟩
theorem cell4_no {b : Bool} {a c d : Option Addr} {i j k l m o : Nat} : ∀ q v, cell4 (.bool b) (.slice a i j) (.slice c k l) (.slice d m o) q = v → (∀ s, v ≠ .string s) ∧ ∀ y, v ≠ .int .i64 y := by
  rintro q v rfl
  match q with
  | 0 => exact ⟨(fun s h => by cases h), (fun s h => by cases h)⟩
  | 1 => exact ⟨(fun s h => by cases h), (fun s h => by cases h)⟩
  | 2 => exact ⟨(fun s h => by cases h), (fun s h => by cases h)⟩
  | _ + 3 => exact ⟨(fun s h => by cases h), (fun s h => by cases h)⟩
end Go.Proofs.Ytaiinlcdfeboiaa

/-
  One of a row of numbers, as it is drawn.
-/
namespace Go.Proofs.Ytaiinlcdfeboiaa
open Go.RowKit
set_option maxRecDepth 4000

set_option maxHeartbeats 1000000 in
theorem l1Int_any (g : Nat) (ao : Option Addr) (n cap : Nat) (f : Nat → Int) (b m : Nat) (z : Nat → Int) (w : World) (hn : n ≤ 1048576) (hm : 0 < m) (hm1 : m ≤ 16777216) (hz : ∀ i, i < m → w.cell? ⟨b, i, none⟩ = some (.int .i64 (z i))) (hbg : b ≠ g) (hC : Cur w g ao n cap f) :
    Calls Try.prog 63 #[.pointer (some ⟨g, 0, none⟩), .slice (some ⟨b, 0, none⟩) m m] w fun e w' => ∃ j : Nat, j < m ∧ e = .returned (.int .i64 (z j)) ∧ Cur w' g ao n cap f ∧ Only g w w' := by
  go_enter Try.func63, Try.ntmps63
  go_wp2_with fail
  refine (l1Below_any g ao n cap f m w hn (by omega) (by omega) hC).mono ?_
  rintro e w1 ⟨x, rfl, hx0, hx1, hC1, hO1⟩
  obtain ⟨j, rfl⟩ := Int.eq_ofNat_of_zero_le hx0
  have hj : w1.cell? ⟨b, j, none⟩ = some (.int .i64 (z j)) := by
    rw [World.cell?_of_block (w := w) (hO1.block b hbg)]; exact hz j (by omega)
  go_wp2
  go_ret
  exact ⟨j, by omega, rfl, hC1, hO1⟩
end Go.Proofs.Ytaiinlcdfeboiaa

/-
  Lists that are drawn of.
-/
namespace Go.Proofs.Ytaiinlcdfeboiaa
open Go.RowKit
set_option maxRecDepth 4000

/-- The cells of a list of numbers that is laid anew. -/
theorem newInts (w : World) (l : List Int) (t : TypeId) : ∀ i, i < l.length → (w.alloc (.cells (l.map (Value.int .i64)).toArray t)).cell? ⟨w.heap.size, i, none⟩ = some (.int .i64 (l.getD i 0)) := by
  intro i hi
  rw [World.cell?, show (w.alloc (.cells (l.map (Value.int .i64)).toArray t)).heap[w.heap.size]? = some (.cells (l.map (Value.int .i64)).toArray t) from Deep.blk_alloc_new _ _]
  simp [hi]

theorem getD_mem {l : List Int} {j : Nat} (h : j < l.length) : l.getD j 0 ∈ l := by
  simp [h]

theorem Cur.drew {w : World} {g : Nat} {ao : Option Addr} {n cap : Nat} {f : Nat → Int} (h : Cur w g ao n cap f) : Cur w.drew g ao n cap f := h.below (Below.refl _ _).drew
end Go.Proofs.Ytaiinlcdfeboiaa

/-
  One of a list of numbers that is laid anew.
-/
namespace Go.Proofs.Ytaiinlcdfeboiaa
open Go.RowKit
set_option maxRecDepth 4000

theorem l1Int_mem (g : Nat) (ao : Option Addr) (n cap : Nat) (f : Nat → Int) (l : List Int) (A : Nat) (w : World) (hA : A = w.heap.size) (hn : n ≤ 1048576) (h0 : 0 < l.length) (h1 : l.length ≤ 1000) (hC : Cur w g ao n cap f) :
    Calls Try.prog 63 #[.pointer (some ⟨g, 0, none⟩), .slice (some ⟨A, 0, none⟩) l.length l.length] (w.alloc (.cells (l.map (Value.int .i64)).toArray 3)) fun e w' => ∃ z : Int, e = .returned (.int .i64 z) ∧ z ∈ l ∧ Cur w' g ao n cap f ∧ But g w w' := by
  subst hA
  have hb : Below w.heap.size w (w.alloc (.cells (l.map (Value.int .i64)).toArray 3)) := (Below.refl _ _).alloc (Nat.le_refl _) _
  have hg := hC.lt
  refine (l1Int_any g ao n cap f w.heap.size l.length (fun i => l.getD i 0) _ hn h0 (by omega) (newInts w l 3) (by omega) (hC.below hb)).mono ?_
  rintro e w' ⟨j, hj, rfl, hC2, hO2⟩
  exact ⟨_, rfl, getD_mem hj, hC2, (But.ofBelow hb).trans (But.ofOnly hO2)⟩
end Go.Proofs.Ytaiinlcdfeboiaa

/-
  Bytes as a string: what 'string(b)' comes to at a slice of bytes that reads.
-/
namespace Go.Proofs.Ytaiinlcdfeboiaa
open Go.RowKit
set_option maxRecDepth 4000

theorem conv_view {w : World} {b off n cap : Nat} {f : Nat → Int} (hv : View w (some ⟨b, off, none⟩) n cap f) :
    (convert 22 9 (.slice (some ⟨b, off, none⟩) n cap)).run Try.prog w = .ok (.string (strOfNums (lof n f))) w := by
  refine run_convert_bytes_arg w 22 5 Try.underlying22 Try.underlying5 b off n cap (lof n f) (lof_len n f) ?_ 9 Try.underlying9
  intro i hi
  obtain ⟨b', off', e, _, hc⟩ := hv.cells (by omega)
  simp only [Option.some.injEq, Addr.mk.injEq, and_true] at e
  obtain ⟨rfl, rfl⟩ := e
  rw [hc i hi, lof_get n f i hi]

theorem strOfNums_inj {xs ys : List Int} (hx : ∀ y ∈ xs, 0 ≤ y ∧ y ≤ 255) (hy : ∀ y ∈ ys, 0 ≤ y ∧ y ≤ 255) (h : strOfNums xs = strOfNums ys) : xs = ys := by
  have h1 : xs.map (fun n => UInt8.ofNat n.toNat) = ys.map (fun n => UInt8.ofNat n.toNat) := by
    rw [← strOfNums_data, ← strOfNums_data, h]
  have key : ∀ a b : Int, 0 ≤ a ∧ a ≤ 255 → 0 ≤ b ∧ b ≤ 255 → UInt8.ofNat a.toNat = UInt8.ofNat b.toNat → a = b := by
    intro a b ha hb e
    have := congrArg UInt8.toNat e
    simp at this
    omega
  clear h
  induction xs generalizing ys with
  | nil => cases ys with
    | nil => rfl
    | cons y ys => simp at h1
  | cons x xs ih => cases ys with
    | nil => simp at h1
    | cons y ys =>
      simp only [List.map_cons, List.cons.injEq] at h1
      rw [key x y (hx x (by simp)) (hy y (by simp)) h1.1, ih (fun z hz => hx z (by simp [hz])) (fun z hz => hy z (by simp [hz])) h1.2]

end Go.Proofs.Ytaiinlcdfeboiaa

