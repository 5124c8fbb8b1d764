/-
  Together: Boxed, ValBox, ValOkSpec, FormGet, GetPLemmas, PartGetPlain, Ahead, NumOrder, NumBack, EscOrder, EscRead
-/
import Derived.Test.YtclegljalndaeacPack2
import Derived.Test.YtclegljalndaeacPack1
/-
  Values that were put into variables of the call's own, in later worlds.
-/
namespace Go.Proofs.Ytclegljalndaeac
open Go.RowKit
set_option maxRecDepth 4000

/-- A value that was put into a variable of the call's own reads as it did. -/
theorem boxed {w W' : World} {T : TypeId} {k n : Int} {s : ByteArray} {B : Nat} (h : Below B (w.alloc (.cells #[.int .i64 k, .int .i64 n, .string s] T)) W') (hB : w.heap.size < B) : W'.cell? ⟨w.heap.size, 0, none⟩ = some (.int .i64 k) ∧ W'.cell? ⟨w.heap.size, 1, none⟩ = some (.int .i64 n) ∧ W'.cell? ⟨w.heap.size, 2, none⟩ = some (.string s) := by
  refine ⟨?_, ?_, ?_⟩
  all_goals (rw [h.cell hB]; simp [go_sem])

/-- And it may be written. -/
theorem boxedF {w W' : World} {T : TypeId} {k n : Int} {s : ByteArray} {B : Nat} (h : Below B (w.alloc (.cells #[.int .i64 k, .int .i64 n, .string s] T)) W') (hB : w.heap.size < B) : W'.frozen? ⟨w.heap.size, 0, none⟩ = false ∧ W'.frozen? ⟨w.heap.size, 1, none⟩ = false ∧ W'.frozen? ⟨w.heap.size, 2, none⟩ = false := by
  refine ⟨?_, ?_, ?_⟩
  all_goals (rw [h.frozen hB]; simp [go_sem])

theorem sc_other (W : World) (B i j : Nat) (v : Value) (h : i ≠ j) : (W.setCell ⟨B, i, none⟩ v).cell? ⟨B, j, none⟩ = W.cell? ⟨B, j, none⟩ :=
  World.cell?_setCell_other W _ _ v (by intro e; exact h (congrArg Addr.off e))
theorem sc_same {W : World} {B i : Nat} {v u : Value} (h : W.cell? ⟨B, i, none⟩ = some u) : (W.setCell ⟨B, i, none⟩ v).cell? ⟨B, i, none⟩ = some v := World.cell?_setCell_same W _ v h

/-- A value that is put into the result's variable. -/
theorem stored3 {W : World} {B : Nat} {x0 x1 x2 : Value} (a b c : Value) (c0 : W.cell? ⟨B, 0, none⟩ = some x0) (c1 : W.cell? ⟨B, 1, none⟩ = some x1) (c2 : W.cell? ⟨B, 2, none⟩ = some x2) :
    (((W.setCell ⟨B, 0, none⟩ a).setCell ⟨B, 1, none⟩ b).setCell ⟨B, 2, none⟩ c).cell? ⟨B, 0, none⟩ = some a ∧
    (((W.setCell ⟨B, 0, none⟩ a).setCell ⟨B, 1, none⟩ b).setCell ⟨B, 2, none⟩ c).cell? ⟨B, 1, none⟩ = some b ∧
    (((W.setCell ⟨B, 0, none⟩ a).setCell ⟨B, 1, none⟩ b).setCell ⟨B, 2, none⟩ c).cell? ⟨B, 2, none⟩ = some c := by
  refine ⟨?_, ?_, ?_⟩
  · rw [sc_other _ _ 2 0 _ (by decide), sc_other _ _ 1 0 _ (by decide), sc_same c0]
  · rw [sc_other _ _ 2 1 _ (by decide), sc_same (u := x1) (by rw [sc_other _ _ 0 1 _ (by decide)]; exact c1)]
  · rw [sc_same (u := x2) (by rw [sc_other _ _ 1 2 _ (by decide), sc_other _ _ 0 2 _ (by decide)]; exact c2)]

theorem stored3A {W : World} {B : Nat} {x0 x1 x2 : Value} (a b c : Value) (c0 : W.cell? ⟨B, 0, none⟩ = some x0) (c1 : W.cell? ⟨B, 1, none⟩ = some x1) (c2 : W.cell? ⟨B, 2, none⟩ = some x2) (h : B < W.heap.size) (o : Obj) :
    ((((W.setCell ⟨B, 0, none⟩ a).setCell ⟨B, 1, none⟩ b).setCell ⟨B, 2, none⟩ c).alloc o).cell? ⟨B, 0, none⟩ = some a ∧
    ((((W.setCell ⟨B, 0, none⟩ a).setCell ⟨B, 1, none⟩ b).setCell ⟨B, 2, none⟩ c).alloc o).cell? ⟨B, 1, none⟩ = some b ∧
    ((((W.setCell ⟨B, 0, none⟩ a).setCell ⟨B, 1, none⟩ b).setCell ⟨B, 2, none⟩ c).alloc o).cell? ⟨B, 2, none⟩ = some c := by
  have g := stored3 a b c c0 c1 c2
  have hB : B < (((W.setCell ⟨B, 0, none⟩ a).setCell ⟨B, 1, none⟩ b).setCell ⟨B, 2, none⟩ c).heap.size := by simpa using h
  rw [World.cell?_alloc_past _ _ _ hB, World.cell?_alloc_past _ _ _ hB, World.cell?_alloc_past _ _ _ hB]
  exact g

/-- Two values that were put into variables of the call's own stand in a later world. -/
structure Two (w : World) (T : TypeId) (k n : Int) (s : ByteArray) (k' n' : Int) (s' : ByteArray) (W : World) : Prop where
  below : Below (w.heap.size + 2) ((w.alloc (.cells #[.int .i64 k, .int .i64 n, .string s] T)).alloc (.cells #[.int .i64 k', .int .i64 n', .string s'] T)) W
  size : w.heap.size + 2 ≤ W.heap.size

theorem Two.start (w : World) (T : TypeId) (k n : Int) (s : ByteArray) (k' n' : Int) (s' : ByteArray) : Two w T k n s k' n' s' ((w.alloc (.cells #[.int .i64 k, .int .i64 n, .string s] T)).alloc (.cells #[.int .i64 k', .int .i64 n', .string s'] T)) := ⟨Below.refl _ _, by simp⟩
theorem Two.drew {w W : World} {T : TypeId} {k n : Int} {s : ByteArray} {k' n' : Int} {s' : ByteArray} (h : Two w T k n s k' n' s' W) : Two w T k n s k' n' s' W.drew := ⟨h.below.drew, h.size⟩
theorem Two.step {w W W' : World} {T : TypeId} {k n : Int} {s : ByteArray} {k' n' : Int} {s' : ByteArray} (h : Two w T k n s k' n' s' W) (hB : Below W.heap.size W W') : Two w T k n s k' n' s' W' :=
  ⟨h.below.trans (hB.mono h.size), Nat.le_trans h.size hB.size⟩
theorem Two.cells {w W : World} {T : TypeId} {k n : Int} {s : ByteArray} {k' n' : Int} {s' : ByteArray} (h : Two w T k n s k' n' s' W) :
    (W.cell? ⟨w.heap.size, 0, none⟩ = some (.int .i64 k) ∧ W.cell? ⟨w.heap.size, 1, none⟩ = some (.int .i64 n) ∧ W.cell? ⟨w.heap.size, 2, none⟩ = some (.string s)) ∧
    (W.cell? ⟨w.heap.size + 1, 0, none⟩ = some (.int .i64 k') ∧ W.cell? ⟨w.heap.size + 1, 1, none⟩ = some (.int .i64 n') ∧ W.cell? ⟨w.heap.size + 1, 2, none⟩ = some (.string s')) := by
  refine ⟨⟨?_, ?_, ?_⟩, ?_, ?_, ?_⟩
  all_goals (rw [h.below.cell (by show _ < _; simp <;> omega)]; simp [go_sem])
theorem Two.all {w W : World} {T : TypeId} {k n : Int} {s : ByteArray} {k' n' : Int} {s' : ByteArray} (h : Two w T k n s k' n' s' W) : Below w.heap.size w W :=
  (((Below.refl _ _).alloc (Nat.le_refl _) _).alloc (by simp) _).trans (h.below.mono (by omega))

end Go.Proofs.Ytclegljalndaeac

/-
  A value in a variable of the call's own.
-/
namespace Go.Proofs.Ytclegljalndaeac
open Go.RowKit
set_option maxRecDepth 4000

/-- The three cells of a value. -/
def valC (k n : Int) (s : ByteArray) : Nat → Value
  | 0 => .int .i64 k
  | 1 => .int .i64 n
  | _ => .string s

/-- A value in a variable of the call's own. -/
def Box (w : World) (B : Nat) (k n : Int) (s : ByteArray) : Prop := w.rowIs B 29 3 (valC k n s)
theorem Box.new (w : World) (k n : Int) (s : ByteArray) : Box (w.alloc (.cells #[.int .i64 k, .int .i64 n, .string s] 29)) w.heap.size k n s :=
  World.rowIs_alloc w _ 29 (valC k n s) (fun j hj => by match j, hj with | 0, _ => rfl | 1, _ => rfl | 2, _ => rfl)
theorem Box.cells {w : World} {B : Nat} {k n : Int} {s : ByteArray} (h : Box w B k n s) : w.cell? ⟨B, 0, none⟩ = some (.int .i64 k) ∧ w.cell? ⟨B, 1, none⟩ = some (.int .i64 n) ∧ w.cell? ⟨B, 2, none⟩ = some (.string s) :=
  ⟨h.cell (i := 0) (by decide), h.cell (i := 1) (by decide), h.cell (i := 2) (by decide)⟩
theorem Box.frozen {w : World} {B : Nat} {k n : Int} {s : ByteArray} (h : Box w B k n s) : w.frozen? ⟨B, 0, none⟩ = false ∧ w.frozen? ⟨B, 1, none⟩ = false ∧ w.frozen? ⟨B, 2, none⟩ = false :=
  ⟨World.rowIs.frozen h 0, World.rowIs.frozen h 1, World.rowIs.frozen h 2⟩
theorem Box.lt {w : World} {B : Nat} {k n : Int} {s : ByteArray} (h : Box w B k n s) : B < w.heap.size := World.rowIs.lt h
theorem Box.below {w w' : World} {B : Nat} {k n : Int} {s : ByteArray} (h : Box w B k n s) (hb : Below w.heap.size w w') : Box w' B k n s := h.of_block (hb.block B h.lt)
theorem Box.set0 {w : World} {B : Nat} {k n : Int} {s : ByteArray} (h : Box w B k n s) (x : Int) : Box (w.setCell ⟨B, 0, none⟩ (.int .i64 x)) B x n s :=
  (World.rowIs.set h 0 _).congr (fun j hj => by match j, hj with | 0, _ => rfl | 1, _ => rfl | 2, _ => rfl)
theorem Box.set1 {w : World} {B : Nat} {k n : Int} {s : ByteArray} (h : Box w B k n s) (x : Int) : Box (w.setCell ⟨B, 1, none⟩ (.int .i64 x)) B k x s :=
  (World.rowIs.set h 1 _).congr (fun j hj => by match j, hj with | 0, _ => rfl | 1, _ => rfl | 2, _ => rfl)
theorem Box.set2 {w : World} {B : Nat} {k n : Int} {s : ByteArray} (h : Box w B k n s) (t : ByteArray) : Box (w.setCell ⟨B, 2, none⟩ (.string t)) B k n t :=
  (World.rowIs.set h 2 _).congr (fun j hj => by match j, hj with | 0, _ => rfl | 1, _ => rfl | 2, _ => rfl)
theorem Box.put {w : World} {B : Nat} {k n : Int} {s : ByteArray} (h : Box w B k n s) (k' n' : Int) (s' : ByteArray) : Box (((w.setCell ⟨B, 0, none⟩ (.int .i64 k')).setCell ⟨B, 1, none⟩ (.int .i64 n')).setCell ⟨B, 2, none⟩ (.string s')) B k' n' s' :=
  ((h.set0 k').set1 n').set2 s'
theorem Box.other {w : World} {B D i : Nat} {k n : Int} {s : ByteArray} (h : Box w B k n s) (hne : B ≠ D) (u : Value) : Box (w.setCell ⟨D, i, none⟩ u) B k n s := h.of_block (Below.heap_setCell _ _ _ _ hne)
theorem Box.drew {w : World} {B : Nat} {k n : Int} {s : ByteArray} (h : Box w B k n s) : Box w.drew B k n s := h
/-- The result's variable and the value's, behind what was there. -/
theorem boxes2 (w : World) (t : Int) : Box ((w.alloc (.cells #[.int .i64 0, .int .i64 0, .string ⟨#[]⟩] 29)).alloc (.cells #[.int .i64 t, .int .i64 0, .string ⟨#[]⟩] 29)) w.heap.size 0 0 ⟨#[]⟩ ∧ Box ((w.alloc (.cells #[.int .i64 0, .int .i64 0, .string ⟨#[]⟩] 29)).alloc (.cells #[.int .i64 t, .int .i64 0, .string ⟨#[]⟩] 29)) (w.heap.size + 1) t 0 ⟨#[]⟩ ∧
    Below w.heap.size w ((w.alloc (.cells #[.int .i64 0, .int .i64 0, .string ⟨#[]⟩] 29)).alloc (.cells #[.int .i64 t, .int .i64 0, .string ⟨#[]⟩] 29)) := by
  have h2 := Box.new (w.alloc (.cells #[.int .i64 0, .int .i64 0, .string ⟨#[]⟩] 29)) t 0 ⟨#[]⟩
  rw [show (w.alloc (.cells #[.int .i64 0, .int .i64 0, .string ⟨#[]⟩] 29)).heap.size = w.heap.size + 1 by simp] at h2
  exact ⟨(Box.new w 0 0 ⟨#[]⟩).below ((Below.refl _ _).alloc (Nat.le_refl _) _), h2, ((Below.refl _ _).alloc (Nat.le_refl _) _).alloc (by simp) _⟩
end Go.Proofs.Ytclegljalndaeac

/-
  The model's soundness of a value comes to the plain one.
-/
namespace Go.Proofs.Ytclegljalndaeac
open Go.RowKit
set_option maxRecDepth 4000

/-- What the model asks, kind by kind. -/
theorem okF_spec0 (n : Int) (s : ByteArray) : okF 0 n s = (decide (n = 0) && decide (s = noBytes)) := by
  simp [okF, ofFields, V.rng, V.k, V.n, V.s, eq_comm]
theorem okF_spec1 (n : Int) (s : ByteArray) : okF 1 n s = (decide (-2147483648 ≤ n) && decide (n ≤ 2147483647) && decide (s = noBytes)) := by
  simp [okF, ofFields, V.rng, V.k, V.n, V.s, eq_comm]
theorem okF_spec2 (n : Int) (s : ByteArray) : okF 2 n s = (decide (-1000000000000000 ≤ n) && decide (n ≤ 1000000000000000) && decide (s = noBytes)) := by
  simp [okF, ofFields, V.rng, V.k, V.n, V.s, eq_comm]
theorem okF_spec3 (n : Int) (s : ByteArray) : okF 3 n s = (decide (s.size ≤ 30) && decide (n = 0)) := by
  simp [okF, ofFields, V.rng, V.k, V.n, V.s, eq_comm]
theorem okF_spec4 (n : Int) (s : ByteArray) : okF 4 n s = (decide (0 ≤ n) && decide (n ≤ 1) && decide (s = noBytes)) := by
  by_cases h0 : n = 0
  · subst h0; simp [okF, ofFields, V.rng, V.k, V.n, V.s, eq_comm]
  · by_cases h1 : n = 1
    · subst h1; simp [okF, ofFields, V.rng, V.k, V.n, V.s, eq_comm]
    · have e : (decide (0 ≤ n) && decide (n ≤ 1)) = false := by simp; omega
      rw [e]
      simp [okF, ofFields, V.rng, V.k, V.n, V.s, h0]
      intro h; omega
theorem okF_specX {k : Int} (n : Int) (s : ByteArray) (h0 : k ≠ 0) (h1 : k ≠ 1) (h2 : k ≠ 2) (h3 : k ≠ 3) (h4 : k ≠ 4) : okF k n s = false := by
  simp [okF, ofFields, h0, h1, h2, h3, h4]

theorem isE (s : ByteArray) : s.toList.isEmpty = decide (s = noBytes) := by
  rw [ByteArray.toList_eq]
  obtain ⟨⟨l⟩⟩ := s
  cases l with
  | nil => simp [noBytes]
  | cons c r => simp [noBytes]

set_option maxHeartbeats 1000000 in
theorem specValOk_any (k n : Int) (s : ByteArray) (w : World) (hs : s.size ≤ 281474976710656) :
    Calls Try.prog 53 #[valAgg k n s] w fun e w' => e = .returned (.bool (okF k n s)) ∧ Below w.heap.size w w' := by
  unfold valAgg
  by_cases k0 : k = 0
  · subst k0
    rw [okF_spec0]
    go_enter Try.func53, Try.ntmps53
    go_wp2
    all_goals
      go_ret
      refine ⟨congrArg (fun b => Ending.returned (.bool b)) ?_, (Below.refl _ _).alloc (Nat.le_refl _) _⟩
      first | rfl | (simp [isE, *] <;> omega) | (simp_all [isE] <;> omega)
  by_cases k1 : k = 1
  · subst k1
    rw [okF_spec1]
    go_enter Try.func53, Try.ntmps53
    go_wp2
    all_goals
      go_ret
      refine ⟨congrArg (fun b => Ending.returned (.bool b)) ?_, (Below.refl _ _).alloc (Nat.le_refl _) _⟩
      first | rfl | (simp [isE, *] <;> omega) | (simp_all [isE] <;> omega)
  by_cases k2 : k = 2
  · subst k2
    rw [okF_spec2]
    go_enter Try.func53, Try.ntmps53
    go_wp2
    all_goals
      go_ret
      refine ⟨congrArg (fun b => Ending.returned (.bool b)) ?_, (Below.refl _ _).alloc (Nat.le_refl _) _⟩
      first | rfl | (simp [isE, *] <;> omega) | (simp_all [isE] <;> omega)
  by_cases k3 : k = 3
  · subst k3
    rw [okF_spec3]
    go_enter Try.func53, Try.ntmps53
    go_wp2
    all_goals
      go_ret
      refine ⟨congrArg (fun b => Ending.returned (.bool b)) ?_, (Below.refl _ _).alloc (Nat.le_refl _) _⟩
      (rw [Bool.eq_iff_iff]; simp; omega)
  by_cases k4 : k = 4
  · subst k4
    rw [okF_spec4]
    go_enter Try.func53, Try.ntmps53
    go_wp2
    all_goals
      go_ret
      refine ⟨congrArg (fun b => Ending.returned (.bool b)) ?_, (Below.refl _ _).alloc (Nat.le_refl _) _⟩
      first | rfl | (simp [isE, *] <;> omega) | (simp_all [isE] <;> omega)
  rw [okF_specX n s k0 k1 k2 k3 k4]
  have q0 : (k == 0) = false := by simpa using k0
  have q1 : (k == 1) = false := by simpa using k1
  have q2 : (k == 2) = false := by simpa using k2
  have q3 : (k == 3) = false := by simpa using k3
  have q4 : (k == 4) = false := by simpa using k4
  clear k0 k1 k2 k3 k4
  go_enter Try.func53, Try.ntmps53
  go_wp2
  go_ret
  exact ⟨rfl, (Below.refl _ _).alloc (Nat.le_refl _) _⟩
end Go.Proofs.Ytclegljalndaeac

/-
  The program's readers of a value of each type, as they read.
-/
namespace Go.Proofs.Ytclegljalndaeac
open Go.RowKit
set_option maxRecDepth 4000

/-- A byte of 0 or 1 at a place. -/
def getB (n : Nat) (f : Nat → Int) (p : Int) : Int × Int × Bool := if p < 0 ∨ (n : Int) ≤ p ∨ 1 < f p.toNat then (0, 0, false) else (f p.toNat, p + 1, true)

set_option maxHeartbeats 1000000 in
theorem getBit_any {a q : Int} {ok : Bool} (b off n cap : Nat) (f : Nat → Int) (p : Int) (w : World) (hg : Hid (getB n f p = (a, q, ok))) (hv : View w (some ⟨b, off, none⟩) n cap f) (hn : n ≤ 70368744177664) (hp1 : p ≤ 9223372036854775807) :
    Calls Try.prog 48 #[.slice (some ⟨b, off, none⟩) n cap, .int .i64 p] w fun e w' => e = .returned (.tuple #[.int .i64 a, .int .i64 q, .bool ok]) ∧ Below w.heap.size w w' := by
  by_cases hp : p < 0
  · have e := hg.out
    unfold getB at e
    rw [if_pos (Or.inl hp)] at e
    obtain ⟨rfl, rfl, rfl⟩ : 0 = a ∧ 0 = q ∧ false = ok := by simpa using e
    clear hg e hv
    go_enter Try.func48, Try.ntmps48
    go_wp2
    exact bodyPost_ret (v := .tuple #[_, _, _]) (by simp [results, Try.results48, go_sem]) rfl ⟨rfl, Below.refl _ _⟩
  by_cases hq : (n : Int) ≤ p
  · have e := hg.out
    unfold getB at e
    rw [if_pos (Or.inr (Or.inl hq))] at e
    obtain ⟨rfl, rfl, rfl⟩ : 0 = a ∧ 0 = q ∧ false = ok := by simpa using e
    clear hg e hv
    go_enter Try.func48, Try.ntmps48
    go_wp2
    exact bodyPost_ret (v := .tuple #[_, _, _]) (by simp [results, Try.results48, go_sem]) rfl ⟨rfl, Below.refl _ _⟩
  obtain ⟨i, rfl⟩ : ∃ i : Nat, p = i := ⟨p.toNat, by omega⟩
  have hi : i < n := by omega
  obtain ⟨b', off', eb, -, hc⟩ := hv.cells (by omega)
  cases eb
  have hci := hc i hi
  have hby := hv.byte i hi
  obtain ⟨y, hy⟩ : ∃ y, y = f i := ⟨_, rfl⟩
  rw [← hy] at hci hby
  have e := hg.out
  unfold getB at e
  rw [Int.toNat_natCast, ← hy] at e
  clear hg hc hv hy
  by_cases h1 : 1 < y
  · rw [if_pos (Or.inr (Or.inr h1))] at e
    obtain ⟨rfl, rfl, rfl⟩ : 0 = a ∧ 0 = q ∧ false = ok := by simpa using e
    clear e
    go_enter Try.func48, Try.ntmps48
    go_wp2
    exact bodyPost_ret (v := .tuple #[_, _, _]) (by simp [results, Try.results48, go_sem]) rfl ⟨rfl, Below.refl _ _⟩
  · rw [if_neg (by omega)] at e
    obtain ⟨rfl, rfl, rfl⟩ : y = a ∧ (i : Int) + 1 = q ∧ true = ok := by simpa using e
    clear e
    go_enter Try.func48, Try.ntmps48
    go_wp2
    exact bodyPost_ret (v := .tuple #[_, _, _]) (by simp [results, Try.results48, go_sem]) rfl ⟨rfl, Below.refl _ _⟩

/-- A value of a type, as the program's readers read it. -/
def rawI (n : Nat) (f : Nat → Int) (t : Int) (p : Int) : Got :=
  if t = 1 then ⟨1, (getF n f p).1, noBytes, (getF n f p).2.1, (getF n f p).2.2⟩
  else if t = 2 then ⟨2, (getV n f p).1, noBytes, (getV n f p).2.1, (getV n f p).2.2⟩
  else if t = 3 then ⟨3, 0, (getE n f p).1, (getE n f p).2.1, (getE n f p).2.2⟩
  else ⟨4, (getB n f p).1, noBytes, (getB n f p).2.1, (getB n f p).2.2⟩

theorem getFix_implB {a q : Int} {ok : Bool} (b off n cap : Nat) (f : Nat → Int) (p : Int) (w : World) (hg : Hid (getF n f p = (a, q, ok))) (hv : View w (some ⟨b, off, none⟩) n cap f) (hn : n ≤ 281474976710656) (hp1 : p ≤ 9223372036854775807) :
    Calls Try.prog 109 #[.slice (some ⟨b, off, none⟩) n cap, .int .i64 p] w fun e w' => e = .returned (.tuple #[.int .i64 a, .int .i64 q, .bool ok]) ∧ Below w.heap.size w w' := by
  refine (getFix_impl b off n cap f p w hg hv hn hp1).mono ?_
  rintro e _ ⟨h, rfl⟩
  exact ⟨h, Below.refl _ _⟩

/-- What a reader of values comes to. -/
def ReadsV (fn : Nat) (n : Nat) (f : Nat → Int) (p : Int) (g : Got) : Prop :=
  ∀ (b off cap : Nat) (w : World), View w (some ⟨b, off, none⟩) n cap f → Calls Try.prog fn #[.slice (some ⟨b, off, none⟩) n cap, .int .i64 p] w fun e w' => e = gotRet g ∧ Below w.heap.size w w'

set_option maxHeartbeats 1000000 in
theorem getInt_any (n : Nat) (f : Nat → Int) (p : Int) (hn : n ≤ 10000000) (hp1 : p ≤ 9223372036854775807) : ReadsV 82 n f p (rawI n f 1 p) := by
  intro b off cap w hv
  obtain ⟨a, q, ok, hg⟩ : ∃ a q ok, Hid (getF n f p = (a, q, ok)) := ⟨_, _, _, rfl⟩
  have HR : Hid (rawI n f 1 p = ⟨1, a, noBytes, q, ok⟩) := by show _ = _; unfold rawI; rw [if_pos rfl, hg.out]
  rw [HR.out]
  have hR := Box.new w 0 0 ⟨#[]⟩
  have hb : Below w.heap.size w (w.alloc (.cells #[.int .i64 0, .int .i64 0, .string ⟨#[]⟩] 29)) := (Below.refl _ _).alloc (Nat.le_refl _) _
  have hv2 := hv.below hb
  go_enter Try.func82, Try.ntmps82
  go_wp2_with fail
  refine (getFix_implB b off n cap f p _ hg hv2 (by omega) hp1).mono ?_
  rintro e w1 ⟨rfl, hb1⟩
  have hR1 := hR.below hb1
  have hB1 : Below w.heap.size w w1 := hb.trans (hb1.mono hb.size)
  clear hv hv2 hg hR hb hb1
  obtain ⟨r0, r1, r2⟩ := hR1.frozen
  obtain ⟨p0, p1, p2⟩ := hR1.cells
  have hgs := stored3 (.int .i64 1) (.int .i64 a) (.string ⟨#[]⟩) p0 p1 p2
  have HB : Hid (Below w.heap.size w (((w1.setCell ⟨w.heap.size, 0, none⟩ (.int .i64 1)).setCell ⟨w.heap.size, 1, none⟩ (.int .i64 a)).setCell ⟨w.heap.size, 2, none⟩ (.string ⟨#[]⟩))) := ((hB1.setCell (Nat.le_refl _) _).setCell (Nat.le_refl _) _).setCell (Nat.le_refl _) _
  clear hR1 hB1
  go_wp2
  exact bodyPost_ret (v := .tuple #[.agg #[_, _, _], _, _]) (by simp [results, Try.results82, go_sem, hgs, noBytes]) rfl ⟨rfl, HB.out⟩

set_option maxHeartbeats 1000000 in
theorem getNum_any (n : Nat) (f : Nat → Int) (p : Int) (hn : n ≤ 10000000) (hp1 : p ≤ 9223372036854775807) : ReadsV 84 n f p (rawI n f 2 p) := by
  intro b off cap w hv
  obtain ⟨a, q, ok, hg⟩ : ∃ a q ok, Hid (getV n f p = (a, q, ok)) := ⟨_, _, _, rfl⟩
  have HR : Hid (rawI n f 2 p = ⟨2, a, noBytes, q, ok⟩) := by show _ = _; unfold rawI; rw [if_neg (by decide), if_pos rfl, hg.out]
  rw [HR.out]
  have hR := Box.new w 0 0 ⟨#[]⟩
  have hb : Below w.heap.size w (w.alloc (.cells #[.int .i64 0, .int .i64 0, .string ⟨#[]⟩] 29)) := (Below.refl _ _).alloc (Nat.le_refl _) _
  have hv2 := hv.below hb
  go_enter Try.func84, Try.ntmps84
  go_wp2_with fail
  refine (getVar_impl b off n cap f p _ hg hv2 (by omega) hp1).mono ?_
  rintro e w1 ⟨rfl, hb1⟩
  have hR1 := hR.below hb1
  have hB1 : Below w.heap.size w w1 := hb.trans (hb1.mono hb.size)
  clear hv hv2 hg hR hb hb1
  obtain ⟨r0, r1, r2⟩ := hR1.frozen
  obtain ⟨p0, p1, p2⟩ := hR1.cells
  have hgs := stored3 (.int .i64 2) (.int .i64 a) (.string ⟨#[]⟩) p0 p1 p2
  have HB : Hid (Below w.heap.size w (((w1.setCell ⟨w.heap.size, 0, none⟩ (.int .i64 2)).setCell ⟨w.heap.size, 1, none⟩ (.int .i64 a)).setCell ⟨w.heap.size, 2, none⟩ (.string ⟨#[]⟩))) := ((hB1.setCell (Nat.le_refl _) _).setCell (Nat.le_refl _) _).setCell (Nat.le_refl _) _
  clear hR1 hB1
  go_wp2
  exact bodyPost_ret (v := .tuple #[.agg #[_, _, _], _, _]) (by simp [results, Try.results84, go_sem, hgs, noBytes]) rfl ⟨rfl, HB.out⟩

set_option maxHeartbeats 1000000 in
theorem getText_any (n : Nat) (f : Nat → Int) (p : Int) (hn : n ≤ 10000000) (hp1 : p ≤ 9223372036854775807) : ReadsV 86 n f p (rawI n f 3 p) := by
  intro b off cap w hv
  obtain ⟨a, q, ok, hg⟩ : ∃ a q ok, Hid (getE n f p = (a, q, ok)) := ⟨_, _, _, rfl⟩
  have HR : Hid (rawI n f 3 p = ⟨3, 0, a, q, ok⟩) := by show _ = _; unfold rawI; rw [if_neg (by decide), if_neg (by decide), if_pos rfl, hg.out]
  rw [HR.out]
  have hR := Box.new w 0 0 ⟨#[]⟩
  have hb : Below w.heap.size w (w.alloc (.cells #[.int .i64 0, .int .i64 0, .string ⟨#[]⟩] 29)) := (Below.refl _ _).alloc (Nat.le_refl _) _
  have hv2 := hv.below hb
  go_enter Try.func86, Try.ntmps86
  go_wp2_with fail
  refine (getEsc_impl _ n cap f p _ a q ok hg hv2 (by omega) hp1).mono ?_
  rintro e w1 ⟨rfl, hb1⟩
  have hR1 := hR.below hb1
  have hB1 : Below w.heap.size w w1 := hb.trans (hb1.mono hb.size)
  clear hv hv2 hg hR hb hb1
  obtain ⟨r0, r1, r2⟩ := hR1.frozen
  obtain ⟨p0, p1, p2⟩ := hR1.cells
  have hgs := stored3 (.int .i64 3) (.int .i64 0) (.string a) p0 p1 p2
  have HB : Hid (Below w.heap.size w (((w1.setCell ⟨w.heap.size, 0, none⟩ (.int .i64 3)).setCell ⟨w.heap.size, 1, none⟩ (.int .i64 0)).setCell ⟨w.heap.size, 2, none⟩ (.string a))) := ((hB1.setCell (Nat.le_refl _) _).setCell (Nat.le_refl _) _).setCell (Nat.le_refl _) _
  clear hR1 hB1
  go_wp2
  exact bodyPost_ret (v := .tuple #[.agg #[_, _, _], _, _]) (by simp [results, Try.results86, go_sem, hgs]) rfl ⟨rfl, HB.out⟩

set_option maxHeartbeats 1000000 in
theorem getBool_any (n : Nat) (f : Nat → Int) (p : Int) (hn : n ≤ 10000000) (hp1 : p ≤ 9223372036854775807) : ReadsV 88 n f p (rawI n f 4 p) := by
  intro b off cap w hv
  obtain ⟨a, q, ok, hg⟩ : ∃ a q ok, Hid (getB n f p = (a, q, ok)) := ⟨_, _, _, rfl⟩
  have HR : Hid (rawI n f 4 p = ⟨4, a, noBytes, q, ok⟩) := by show _ = _; unfold rawI; rw [if_neg (by decide), if_neg (by decide), if_neg (by decide), hg.out]
  rw [HR.out]
  have hR := Box.new w 0 0 ⟨#[]⟩
  have hb : Below w.heap.size w (w.alloc (.cells #[.int .i64 0, .int .i64 0, .string ⟨#[]⟩] 29)) := (Below.refl _ _).alloc (Nat.le_refl _) _
  have hv2 := hv.below hb
  go_enter Try.func88, Try.ntmps88
  go_wp2_with fail
  refine (getBit_any b off n cap f p _ hg hv2 (by omega) hp1).mono ?_
  rintro e w1 ⟨rfl, hb1⟩
  have hR1 := hR.below hb1
  have hB1 : Below w.heap.size w w1 := hb.trans (hb1.mono hb.size)
  clear hv hv2 hg hR hb hb1
  obtain ⟨r0, r1, r2⟩ := hR1.frozen
  obtain ⟨p0, p1, p2⟩ := hR1.cells
  have hgs := stored3 (.int .i64 4) (.int .i64 a) (.string ⟨#[]⟩) p0 p1 p2
  have HB : Hid (Below w.heap.size w (((w1.setCell ⟨w.heap.size, 0, none⟩ (.int .i64 4)).setCell ⟨w.heap.size, 1, none⟩ (.int .i64 a)).setCell ⟨w.heap.size, 2, none⟩ (.string ⟨#[]⟩))) := ((hB1.setCell (Nat.le_refl _) _).setCell (Nat.le_refl _) _).setCell (Nat.le_refl _) _
  clear hR1 hB1
  go_wp2
  exact bodyPost_ret (v := .tuple #[.agg #[_, _, _], _, _]) (by simp [results, Try.results88, go_sem, hgs, noBytes]) rfl ⟨rfl, HB.out⟩

theorem rawI_chk {n : Nat} {f : Nat → Int} {t p : Int} (ht : 1 ≤ t ∧ t ≤ 4) : (rawI n f t p).chk = getT n f t p := by
  unfold getT
  obtain rfl | rfl | rfl | rfl : t = 1 ∨ t = 2 ∨ t = 3 ∨ t = 4 := by omega
  · rfl
  · rfl
  · rfl
  · unfold rawI rawT
    rw [if_neg (by decide), if_neg (by decide), if_neg (by decide), if_neg (by decide), if_neg (by decide), if_neg (by decide)]
    unfold getB
    by_cases h : 0 ≤ p ∧ p < n
    · rw [if_pos h]
      by_cases h1 : 1 < f p.toNat
      · rw [if_pos (Or.inr (Or.inr h1))]
        have e : okF 4 (f p.toNat) noBytes = false := by rw [okF_spec4]; simp; omega
        unfold Got.chk
        simp [e]
      · rw [if_neg (by omega)]
    · rw [if_neg h, if_pos (by omega)]
end Go.Proofs.Ytclegljalndaeac

/-
  What is to be read as one value of a key, case by case.
-/
namespace Go.Proofs.Ytclegljalndaeac
open Go.RowKit
set_option maxRecDepth 4000

section
variable {n : Nat} {f : Nat → Int} {c t : Int} {nul d : Bool} {p : Int} {i : Nat}
theorem getP_no (h : partOk c t = false) : getP n f c t nul d p = .no := by unfold getP; rw [if_pos (Or.inl h)]
theorem getP_out (h : p < 0 ∨ (n : Int) < p) : getP n f c t nul d p = .no := by unfold getP; rw [if_pos (Or.inr h)]
theorem getP_in (h : partOk c t = true) (h0 : 0 ≤ p) (h1 : p ≤ n) : getP n f c t nul d p = getN n (turned d f) nul t p := by
  unfold getP; rw [if_neg (by rw [h]; simp; omega)]
theorem getN_no : getN n f false t p = getT n f t p := rfl
theorem getN_end : getN n f true t (n : Int) = .no := by unfold getN; simp
theorem getN_big (h : 1 < f i) : getN n f true t (i : Int) = .no := by unfold getN; rw [Int.toNat_natCast]; simp [h]
theorem getN_zero (hi : i < n) (h : f i = 0) : getN n f true t (i : Int) = ⟨0, 0, noBytes, (i : Int) + 1, true⟩ := by
  unfold getN; rw [Int.toNat_natCast, h]
  simp only [if_true]
  rw [if_neg (by omega)]
theorem getN_one (hi : i < n) (h : f i = 1) : getN n f true t (i : Int) = getT n f t ((i : Int) + 1) := by
  unfold getN; rw [Int.toNat_natCast, h]
  simp only [if_true]
  rw [if_neg (by omega), if_neg (by decide)]
end
end Go.Proofs.Ytclegljalndaeac

/-
  What the program reads as one value of a key, plainly: it is what is to be read.
-/
namespace Go.Proofs.Ytclegljalndaeac
open Go.RowKit
set_option maxRecDepth 4000

theorem getF_from {n : Nat} {f g : Nat → Int} {p : Int} (h : ∀ i : Nat, p ≤ i → f i = g i) : getF n f p = getF n g p := by
  unfold getF
  by_cases hp : p < 0 ∨ (n : Int) - p < 4
  · rw [if_pos hp, if_pos hp]
  · rw [if_neg hp, if_neg hp, show (fun i => f (p.toNat + i)) = (fun i => g (p.toNat + i)) from funext (fun i => h _ (by omega))]
theorem getV_from {n : Nat} {f g : Nat → Int} {p : Int} (h : ∀ i : Nat, p ≤ i → f i = g i) : getV n f p = getV n g p := by
  unfold getV
  by_cases hp : p < 0 ∨ (n : Int) ≤ p
  · rw [if_pos hp, if_pos hp]
  · have h0 : f p.toNat = g p.toNat := h _ (by omega)
    have h1 : (fun j => f (p.toNat + 1 + j)) = (fun j => g (p.toNat + 1 + j)) := funext (fun j => h _ (by omega))
    have hd : digF f p.toNat = digF g p.toNat := by unfold digF; rw [h0, h1]
    have hm : numV f p.toNat = numV g p.toNat := by unfold numV; rw [h0, hd]
    have hb : badV f p.toNat ↔ badV g p.toNat := by unfold badV; rw [h0, hd, hm]
    simp only [h0, hm, hb]
theorem getE_from {n : Nat} {f g : Nat → Int} {p : Int} (h : ∀ i : Nat, p ≤ i → f i = g i) : getE n f p = getE n g p := by
  unfold getE
  by_cases hp : p < 0
  · rw [if_pos hp, if_pos hp]
  · have e : fromL n f p.toNat = fromL n g p.toNat := by
      unfold fromL
      rw [show (fun i => f (p.toNat + i)) = (fun i => g (p.toNat + i)) from funext (fun i => h _ (by omega))]
    rw [e]
theorem getB_from {n : Nat} {f g : Nat → Int} {p : Int} (h : ∀ i : Nat, p ≤ i → f i = g i) : getB n f p = getB n g p := by
  unfold getB
  rw [h p.toNat (by omega)]
theorem rawI_from {n : Nat} {f g : Nat → Int} {t p : Int} (h : ∀ i : Nat, p ≤ i → f i = g i) : rawI n f t p = rawI n g t p := by
  unfold rawI
  rw [getF_from h, getV_from h, getE_from h, getB_from h]

theorem rawI_out {n : Nat} {f : Nat → Int} {t p : Int} (h : p < 0 ∨ (n : Int) < p) : (rawI n f t p).ok = false := by
  unfold rawI
  split
  · rw [getF_no n f p (by omega)]
  · split
    · rw [getV_out n f p (by omega)]
    · split
      · rcases h with h | h
        · rw [getE_neg n f p h]
        · obtain ⟨i, rfl⟩ : ∃ i : Nat, p = i := ⟨p.toNat, by omega⟩
          rw [getE_none (by rw [fromL_end n f i (by omega)]; rfl)]
      · unfold getB
        rw [if_pos (by omega)]

/-- What the program reads behind the part's own words: of bytes F from p on. -/
def nextI (n : Nat) (F : Nat → Int) (t : Int) (nul : Bool) (p : Int) : Got :=
  if nul then (if (getB n F p).2.2 = false then .no else if (getB n F p).1 = 0 then ⟨0, 0, noBytes, (getB n F p).2.1, true⟩ else (rawI n F t (getB n F p).2.1).chk) else (rawI n F t p).chk

theorem chk_no {g : Got} (h : g.ok = false) : g.chk = .no := by unfold Got.chk; rw [h]; rfl

theorem nextI_is {n : Nat} {f F : Nat → Int} {c t p : Int} {nul d : Bool} (hok : partOk c t = true) (ht : 1 ≤ t ∧ t ≤ 4) (hb : ∀ i, i < n → 0 ≤ f i ∧ f i ≤ 255) (hF : ∀ i : Nat, p ≤ i → F i = turned d f i) : nextI n F t nul p = getP n f c t nul d p := by
  by_cases hp : p < 0 ∨ (n : Int) < p
  · rw [getP_out hp]
    unfold nextI
    cases nul with
    | false => exact chk_no (rawI_out hp)
    | true =>
      have e : getB n F p = (0, 0, false) := by unfold getB; rw [if_pos (by omega)]
      simp [e]
  · rw [getP_in hok (by omega) (by omega)]
    obtain ⟨i, rfl⟩ : ∃ i : Nat, p = i := ⟨p.toNat, by omega⟩
    cases nul with
    | false =>
      rw [getN_no]
      show (rawI n F t (i : Int)).chk = _
      rw [rawI_from hF, rawI_chk ht]
    | true =>
      by_cases hn : i = n
      · subst hn
        rw [getN_end]
        have e : getB i F (i : Int) = (0, 0, false) := by unfold getB; rw [if_pos (by omega)]
        unfold nextI
        simp [e]
      · have hi : i < n := by omega
        have hG := hF i (Int.le_refl _)
        have hby : 0 ≤ turned d f i := by have := hb i hi; unfold turned; split <;> simp <;> omega
        by_cases h1 : 1 < turned d f i
        · rw [getN_big h1]
          have e : getB n F (i : Int) = (0, 0, false) := by unfold getB; rw [Int.toNat_natCast, hG, if_pos (Or.inr (Or.inr h1))]
          unfold nextI
          simp [e]
        · have e : getB n F (i : Int) = (turned d f i, (i : Int) + 1, true) := by unfold getB; rw [Int.toNat_natCast, hG, if_neg (by omega)]
          by_cases h0 : turned d f i = 0
          · rw [getN_zero hi h0]
            unfold nextI
            simp [e, h0]
          · rw [getN_one hi (by omega)]
            unfold nextI
            simp only [e, h0, if_true, if_false, Bool.true_eq_false]
            rw [rawI_from (fun j hj => hF j (by omega)), rawI_chk ht]
end Go.Proofs.Ytclegljalndaeac

/-
  Whether bytes are ahead of others, as texts are.
-/
namespace Go.Proofs.Ytclegljalndaeac
open Go.RowKit
set_option maxRecDepth 4000

/-- Whether the bytes of the one are ahead of the other's. -/
def ahead (l k : List Int) : Bool := Op.bytesLess (strOfNums l).toList (strOfNums k).toList
theorem toList_data (s : ByteArray) : s.toList = s.data.toList := ByteArray.toList_eq s
end Go.Proofs.Ytclegljalndaeac

/-
  Numbers in order, plainly: the order of their bytes is theirs, none is the beginning of another one, and they come back.
-/
namespace Go.Proofs.Ytclegljalndaeac
open Go.RowKit
set_option maxRecDepth 4000

def u8 (z : Int) : UInt8 := UInt8.ofNat z.toNat
theorem u8_lt {a b : Int} (ha : 0 ≤ a ∧ a ≤ 255) (hb : 0 ≤ b ∧ b ≤ 255) : u8 a < u8 b ↔ a < b := by
  unfold u8
  rw [UInt8.lt_iff_toNat_lt, UInt8.toNat_ofNat', UInt8.toNat_ofNat']
  omega
theorem u8_inj {a b : Int} (ha : 0 ≤ a ∧ a ≤ 255) (hb : 0 ≤ b ∧ b ≤ 255) : u8 a = u8 b ↔ a = b := by
  constructor
  · intro h
    have := congrArg UInt8.toNat h
    unfold u8 at this
    rw [UInt8.toNat_ofNat', UInt8.toNat_ofNat'] at this
    omega
  · intro h; rw [h]

theorem less_snoc (x y : UInt8) : ∀ a b : List UInt8, a.length = b.length → Op.bytesLess (a ++ [x]) (b ++ [y]) = (Op.bytesLess a b || (decide (a = b) && decide (x < y)))
  | [], [], _ => by
    by_cases h : x < y
    · simp [Op.bytesLess, h]
    · simp [Op.bytesLess, h]
  | p :: ps, q :: qs, h => by
    have ih := less_snoc x y ps qs (by simpa using h)
    simp only [List.cons_append, Op.bytesLess]
    by_cases h1 : p < q
    · simp [h1]
    · by_cases h2 : p = q
      · subst h2
        simp [h1, ih]
      · have hb : (p == q) = false := by simpa using h2
        simp [h1, h2, hb]

theorem ahead_eq (l k : List Int) : ahead l k = Op.bytesLess (l.map u8) (k.map u8) := by
  unfold ahead
  rw [toList_data, toList_data, strOfNums_data, strOfNums_data]
  rfl
theorem lof_snoc (k : Nat) (f : Nat → Int) : lof (k + 1) f = lof k f ++ [f k] := by simp [lof, List.range_succ]

theorem map_u8_inj : ∀ (l k : List Int), (∀ y ∈ l, 0 ≤ y ∧ y ≤ 255) → (∀ y ∈ k, 0 ≤ y ∧ y ≤ 255) → (l.map u8 = k.map u8 ↔ l = k)
  | [], [], _, _ => by simp
  | [], _ :: _, _, _ => by simp
  | _ :: _, [], _, _ => by simp
  | x :: xs, y :: ys, h1, h2 => by
    have ih := map_u8_inj xs ys (fun z hz => h1 z (by simp [hz])) (fun z hz => h2 z (by simp [hz]))
    simp only [List.map_cons, List.cons.injEq, ih, u8_inj (h1 x (by simp)) (h2 y (by simp))]

section
variable {f g : Nat → Int}
theorem valF_inj (k : Nat) (hf : ∀ i, i < k → 0 ≤ f i ∧ f i ≤ 255) (hg : ∀ i, i < k → 0 ≤ g i ∧ g i ≤ 255) : lof k f = lof k g ↔ valF k f = valF k g := by
  constructor
  · intro h
    apply valF_congr
    intro i hi
    rw [← lof_get k f i hi, ← lof_get k g i hi, h]
  · intro h
    unfold lof
    apply List.map_congr_left
    intro i hi
    have hi := List.mem_range.1 hi
    rw [← be_valF k f hf i hi, ← be_valF k g hg i hi, h]

/-- Of as many bytes the order is that of the numbers. -/
theorem ahead_valF : ∀ (k : Nat), (∀ i, i < k → 0 ≤ f i ∧ f i ≤ 255) → (∀ i, i < k → 0 ≤ g i ∧ g i ≤ 255) → ahead (lof k f) (lof k g) = decide (valF k f < valF k g)
  | 0, _, _ => by rw [ahead_eq]; rfl
  | k + 1, hf, hg => by
    have ih := ahead_valF k (fun i hi => hf i (by omega)) (fun i hi => hg i (by omega))
    have hj := valF_inj k (fun i hi => hf i (by omega)) (fun i hi => hg i (by omega))
    have hfk := hf k (by omega)
    have hgk := hg k (by omega)
    rw [ahead_eq] at ih ⊢
    rw [lof_snoc, lof_snoc, List.map_append, List.map_append]
    show Op.bytesLess ((lof k f).map u8 ++ [u8 (f k)]) ((lof k g).map u8 ++ [u8 (g k)]) = _
    rw [less_snoc _ _ _ _ (by simp [lof_len]), ih]
    have e1 : ((lof k f).map u8 = (lof k g).map u8) = (valF k f = valF k g) := propext ((map_u8_inj _ _ (lof_byte (fun i hi => hf i (by omega))) (lof_byte (fun i hi => hg i (by omega)))).trans hj)
    have e2 : (u8 (f k) < u8 (g k)) = (f k < g k) := propext (u8_lt hfk hgk)
    simp only [e1, e2, valF]
    rw [← Bool.decide_and, ← Bool.decide_or]
    apply decide_eq_decide.2
    omega
end

theorem ahead_cons (x y : Int) (l k : List Int) (hx : 0 ≤ x ∧ x ≤ 255) (hy : 0 ≤ y ∧ y ≤ 255) : ahead (x :: l) (y :: k) = if x < y then true else if x = y then ahead l k else false := by
  rw [ahead_eq, ahead_eq]
  simp only [List.map_cons, Op.bytesLess]
  by_cases h1 : x < y
  · simp [h1, (u8_lt hx hy).2 h1]
  · have n1 : ¬ u8 x < u8 y := fun h => h1 ((u8_lt hx hy).1 h)
    by_cases h2 : x = y
    · subst h2; simp
    · have n2 : u8 x ≠ u8 y := fun h => h2 ((u8_inj hx hy).1 h)
      simp [h1, h2, n1, n2]

theorem clampF_self (x : Int) (h : -2147483648 ≤ x ∧ x ≤ 2147483647) : clampF x = x := by unfold clampF; rw [if_neg (by omega), if_neg (by omega)]
theorem clampV_self (x : Int) (h : -1000000000000000 ≤ x ∧ x ≤ 1000000000000000) : clampV x = x := by unfold clampV; rw [if_neg (by omega), if_neg (by omega)]
theorem valF_fix (x : Int) : valF 4 (be 4 (clampF x + 2147483648)) = clampF x + 2147483648 := by
  have := clampF_bd x
  have e : (256 : Int) ^ 4 = 4294967296 := by decide
  exact valF_be 4 _ (by omega) (by omega)
theorem fix_ahead (x y : Int) : ahead (fixL x) (fixL y) = decide (clampF x < clampF y) := by
  unfold fixL
  rw [ahead_valF 4 (fun i _ => be_bd _ _ i) (fun i _ => be_bd _ _ i), valF_fix, valF_fix]
  apply decide_eq_decide.2
  omega
theorem fixL_clamp (x : Int) : fixL (clampF x) = fixL x := by unfold fixL; rw [clampF_self _ (clampF_bd x)]
theorem varL_clamp (x : Int) : varL (clampV x) = varL x := by unfold varL; rw [clampV_self _ (clampV_bd x)]

theorem behind (l k : List Int) (m i : Nat) (h : l.length = m) : (l ++ k).getD (m + i) 0 = k.getD i 0 := by
  rw [List.getD_eq_getElem?_getD, List.getD_eq_getElem?_getD, List.getElem?_append_right (by omega), show m + i - l.length = i by omega]

section
variable {x y : Int} (hx : -1000000000000000 ≤ x ∧ x ≤ 1000000000000000) (hy : -1000000000000000 ≤ y ∧ y ≤ 1000000000000000)
include hx
theorem size_lt : sizeV x < 256 ^ cnt (sizeV x) := cnt_lt _ (by have := sizeV_bd x hx; omega)
theorem size_back : valF (cnt (sizeV x)) (be (cnt (sizeV x)) (sizeV x)) = sizeV x := valF_be _ _ (sizeV_bd x hx).1 (size_lt hx)
/-- The digits, turned or not, as a number. -/
theorem tail_val : valF (cnt (sizeV x)) (tailV x) = if x < 0 then 256 ^ cnt (sizeV x) + x else x := by
  have hb := size_back hx
  by_cases h : x < 0
  · rw [if_pos h]
    have e : sizeV x = -1 - x := by unfold sizeV; rw [if_pos h]
    have key : ∀ k, valF k (tailV x) = 256 ^ k - 1 - valF k (be (cnt (sizeV x)) (sizeV x)) := by
      intro k
      induction k with
      | zero => rfl
      | succ k ih =>
        rw [valF, valF, ih, Int.pow_succ]
        unfold tailV
        rw [if_pos h]
        omega
    rw [key, hb, e]
    omega
  · rw [if_neg h]
    have e : sizeV x = x := by unfold sizeV; rw [if_neg h]
    have : valF (cnt (sizeV x)) (tailV x) = valF (cnt (sizeV x)) (be (cnt (sizeV x)) (sizeV x)) := by
      apply valF_congr
      intro i _
      unfold tailV
      rw [if_neg h]
    rw [this, hb, e]

include hy
theorem head_lt (h : headV x < headV y) : x < y := by
  have lx := size_lt hx
  have ly := size_lt hy
  unfold headV at h
  by_cases h1 : x < 0
  · by_cases h2 : y < 0
    · rw [if_pos h1, if_pos h2] at h
      have e1 : sizeV x = -1 - x := by unfold sizeV; rw [if_pos h1]
      have e2 : sizeV y = -1 - y := by unfold sizeV; rw [if_pos h2]
      have hg := cnt_ge (sizeV x) (by omega)
      have hm : (256 : Int) ^ cnt (sizeV y) ≤ 256 ^ (cnt (sizeV x) - 1) := pow_mono (by omega)
      omega
    · omega
  · by_cases h2 : y < 0
    · rw [if_neg h1, if_pos h2] at h
      omega
    · rw [if_neg h1, if_neg h2] at h
      have e1 : sizeV x = x := by unfold sizeV; rw [if_neg h1]
      have e2 : sizeV y = y := by unfold sizeV; rw [if_neg h2]
      have hg := cnt_ge (sizeV y) (by omega)
      have hm : (256 : Int) ^ cnt (sizeV x) ≤ 256 ^ (cnt (sizeV y) - 1) := pow_mono (by omega)
      omega
omit hx hy in
theorem head_same (h : headV x = headV y) : cnt (sizeV x) = cnt (sizeV y) ∧ (x < 0 ↔ y < 0) := by
  unfold headV at h
  (repeat' split at h) <;> omega
theorem kept_ahead : ahead (keptL x) (keptL y) = decide (x < y) := by
  unfold keptL
  rw [ahead_cons _ _ _ _ (headV_bd x) (headV_bd y)]
  by_cases h1 : headV x < headV y
  · rw [if_pos h1, decide_eq_true (head_lt hx hy h1)]
  · rw [if_neg h1]
    by_cases h2 : headV x = headV y
    · rw [if_pos h2]
      obtain ⟨hc, hs⟩ := head_same h2
      have tx := tail_val hx
      have ty := tail_val hy
      rw [← hc] at ty ⊢
      rw [ahead_valF _ (fun i _ => tailV_bd x i) (fun i _ => tailV_bd y i), tx, ty]
      apply decide_eq_decide.2
      by_cases h : x < 0
      · rw [if_pos h, if_pos (hs.1 h)]; omega
      · rw [if_neg h, if_neg (fun h' => h (hs.2 h'))]
    · rw [if_neg h2, decide_eq_false]
      intro h
      rcases Int.lt_trichotomy (headV x) (headV y) with h3 | h3 | h3
      · exact h1 h3
      · exact h2 h3
      · have := head_lt hy hx h3
        omega
theorem kept_same (h : headV x = headV y) (ht : lof (cnt (sizeV x)) (tailV x) = lof (cnt (sizeV y)) (tailV y)) : x = y := by
  obtain ⟨hc, hs⟩ := head_same h
  have tx := tail_val hx
  have ty := tail_val hy
  rw [← hc] at ty ht
  have e := (valF_inj _ (fun i _ => tailV_bd x i) (fun i _ => tailV_bd y i)).1 ht
  rw [tx, ty] at e
  by_cases h : x < 0
  · rw [if_pos h, if_pos (hs.1 h)] at e; omega
  · rw [if_neg h, if_neg (fun h' => h (hs.2 h'))] at e; exact e
theorem kept_prefix {r : List Int} (h : keptL x = keptL y ++ r) : x = y := by
  have hh : headV x = headV y := by unfold keptL at h; simpa using (List.cons.inj h).1
  have hl := congrArg List.length h
  rw [List.length_append, keptL_len, keptL_len, (head_same hh).1] at hl
  have : r = [] := List.eq_nil_of_length_eq_zero (by omega)
  rw [this, List.append_nil] at h
  unfold keptL at h
  exact kept_same hx hy hh (List.cons.inj h).2
end
end Go.Proofs.Ytclegljalndaeac

/-
  Numbers in order, plainly: they come back of their bytes, and what is read of bytes has these.
-/
namespace Go.Proofs.Ytclegljalndaeac
open Go.RowKit
set_option maxRecDepth 4000

theorem getF_put (l : List Int) (m : Nat) (x : Int) (hl : l.length = m) : getF (m + 4) (fun i => (l ++ fixL x).getD i 0) (m : Int) = (clampF x, (m : Int) + 4, true) := by
  rw [getF_is _ _ _ (Nat.le_refl _)]
  have e : valF 4 (fun i => (l ++ fixL x).getD (m + i) 0) = clampF x + 2147483648 := by
    rw [← valF_fix x]
    apply valF_congr
    intro i hi
    rw [behind _ _ _ _ hl]
    unfold fixL
    rw [lof_get 4 _ i hi]
  rw [e]
  simp only [Prod.mk.injEq, and_true]
  omega

theorem fix_read {n : Nat} {F : Nat → Int} {p a q : Int} (hb : ∀ i, i < n → 0 ≤ F i ∧ F i ≤ 255) (h : getF n F p = (a, q, true)) :
    ∃ i : Nat, p = (i : Int) ∧ q = (i : Int) + 4 ∧ i + 4 ≤ n ∧ -2147483648 ≤ a ∧ a ≤ 2147483647 ∧ fixL a = lof 4 (fun j => F (i + j)) := by
  unfold getF at h
  split at h
  · simp at h
  · obtain ⟨i, rfl⟩ := Int.eq_ofNat_of_zero_le (a := p) (by omega)
    simp only [Prod.mk.injEq, and_true, Int.toNat_natCast] at h
    obtain ⟨rfl, rfl⟩ := h
    have hbi : ∀ j, j < 4 → 0 ≤ F (i + j) ∧ F (i + j) ≤ 255 := fun j hj => hb _ (by omega)
    have hv := valF4_bd (fun j => F (i + j)) hbi
    refine ⟨i, rfl, rfl, by omega, by omega, by omega, ?_⟩
    unfold fixL
    rw [clampF_self _ (by omega), Int.sub_add_cancel]
    unfold lof
    apply List.map_congr_left
    intro j hj
    exact be_valF 4 _ hbi j (List.mem_range.1 hj)

theorem hcnt_head (x : Int) : hcnt (headV x) = cnt (sizeV x) ∧ (headV x < 128 ↔ x < 0) := by
  unfold headV hcnt
  (repeat' split) <;> omega

theorem getV_put (l : List Int) (m : Nat) (x : Int) (hl : l.length = m) : getV (m + (varL x).length) (fun i => (l ++ varL x).getD i 0) (m : Int) = (clampV x, (m : Int) + ((varL x).length : Int), true) := by
  have hy := clampV_bd x
  unfold varL
  generalize clampV x = y at *
  have hlen := keptL_len y
  obtain ⟨hh, hs⟩ := hcnt_head y
  have hF0 : (l ++ keptL y).getD m 0 = headV y := by
    have := behind l (keptL y) m 0 hl
    rw [Nat.add_zero] at this
    rw [this]
    rfl
  have hFt : ∀ j, j < cnt (sizeV y) → (l ++ keptL y).getD (m + 1 + j) 0 = tailV y j := by
    intro j hj
    rw [Nat.add_assoc, behind _ _ _ _ hl, Nat.add_comm 1 j]
    show (lof (cnt (sizeV y)) (tailV y)).getD j 0 = _
    exact lof_get _ _ j hj
  have hD : ∀ j, j < cnt (sizeV y) → digF (fun i => (l ++ keptL y).getD i 0) m j = be (cnt (sizeV y)) (sizeV y) j := by
    intro j hj
    unfold digF turnF
    simp only [hF0, hFt j hj]
    unfold tailV
    by_cases h : y < 0
    · rw [if_pos (by simpa using hs.2 h), if_pos h]; omega
    · rw [if_neg (by simpa using fun h' => h (hs.1 h')), if_neg h]
  have hv : valF (cnt (sizeV y)) (digF (fun i => (l ++ keptL y).getD i 0) m) = sizeV y := by
    rw [valF_congr _ _ _ hD]
    exact size_back hy
  have hn : numV (fun i => (l ++ keptL y).getD i 0) m = y := by
    unfold numV
    simp only [hF0, hh, hv]
    unfold sizeV
    by_cases h : y < 0
    · rw [if_pos (hs.2 h), if_pos h]; omega
    · rw [if_neg (fun h' => h (hs.1 h')), if_neg h]
  rw [getV_is]
  · simp only [hF0, hh, hn, hlen, Prod.mk.injEq, and_true, true_and]
    omega
  · omega
  · simp only [hF0, hh, hlen]
    have := cnt_le (sizeV y)
    omega
  · unfold badV
    simp only [hF0, hh, hn]
    have hc := (cnt_valF (cnt (sizeV y)) (be (cnt (sizeV y)) (sizeV y)) (cnt_le _) (fun i _ => be_bd _ _ i)).1 (by rw [size_back hy])
    rintro (⟨h0, h1⟩ | h | h)
    · rw [hD 0 h0] at h1
      exact hc ⟨h0, h1⟩
    · omega
    · omega

theorem var_read {n : Nat} {F : Nat → Int} {p a q : Int} (hb : ∀ i, i < n → 0 ≤ F i ∧ F i ≤ 255) (h : getV n F p = (a, q, true)) :
    ∃ i : Nat, p = (i : Int) ∧ q = (i : Int) + ((varL a).length : Int) ∧ i + (varL a).length ≤ n ∧ -1000000000000000 ≤ a ∧ a ≤ 1000000000000000 ∧ varL a = lof (varL a).length (fun j => F (i + j)) := by
  by_cases h1 : p < 0 ∨ (n : Int) ≤ p
  · rw [getV_out n F p h1] at h; simp at h
  obtain ⟨i, rfl⟩ := Int.eq_ofNat_of_zero_le (a := p) (by omega)
  have hin : i < n := by omega
  by_cases h2 : 7 < hcnt (F i) ∨ n < i + 1 + hcnt (F i)
  · rw [getV_few n F i hin h2] at h; simp at h
  by_cases h3 : badV F i
  · rw [getV_bad n F i hin h2 h3] at h; simp at h
  rw [getV_is n F i hin h2 h3] at h
  simp only [Prod.mk.injEq, and_true] at h
  obtain ⟨rfl, rfl⟩ := h
  unfold badV at h3
  have hhi := hb i hin
  have hD : ∀ j, j < hcnt (F i) → 0 ≤ digF F i j ∧ digF F i j ≤ 255 := turnF_bd _ (fun j hj => hb _ (by omega))
  have hv := valF7 (hcnt (F i)) (digF F i) (by omega) hD
  have hcv := (cnt_valF (hcnt (F i)) (digF F i) (by omega) hD).2 (fun h => h3 (Or.inl h))
  have hbe := be_valF (hcnt (F i)) (digF F i) hD
  have hrange : -1000000000000000 ≤ numV F i ∧ numV F i ≤ 1000000000000000 := by omega
  have hneg : numV F i < 0 ↔ F i < 128 := by unfold numV; split <;> omega
  have hsz : sizeV (numV F i) = valF (hcnt (F i)) (digF F i) := by
    unfold sizeV
    by_cases h : F i < 128
    · rw [if_pos (hneg.2 h)]; unfold numV; rw [if_pos h]; omega
    · rw [if_neg (fun h' => h (hneg.1 h'))]; unfold numV; rw [if_neg h]
  have hlen : (varL (numV F i)).length = hcnt (F i) + 1 := by unfold varL; rw [clampV_self _ hrange, keptL_len, hsz, hcv]
  refine ⟨i, rfl, by rw [hlen]; omega, by rw [hlen]; omega, hrange.1, hrange.2, ?_⟩
  rw [hlen, Nat.add_comm (hcnt (F i)) 1, lof_cons]
  unfold varL keptL
  rw [clampV_self _ hrange, hsz, hcv]
  congr 1
  · unfold headV
    rw [hsz, hcv, Nat.add_zero]
    unfold hcnt
    by_cases h : F i < 128
    · rw [if_pos (hneg.2 h), if_pos h]; omega
    · rw [if_neg (fun h' => h (hneg.1 h')), if_neg h]; omega
  · unfold lof
    apply List.map_congr_left
    intro j hj
    have hj := List.mem_range.1 hj
    unfold tailV
    rw [hsz, hcv, hbe j hj, show i + (j + 1) = i + 1 + j by omega]
    unfold digF turnF
    by_cases h : F i < 128
    · rw [if_pos (hneg.2 h), if_pos (by simpa using h)]
      show 255 - (255 - F (i + 1 + j)) = F (i + 1 + j)
      omega
    · rw [if_neg (fun h' => h (hneg.1 h')), if_neg (by simpa using h)]
end Go.Proofs.Ytclegljalndaeac

/-
  Texts in order, plainly: they come back of their bytes; the order of the bytes is theirs; none is the beginning of another one.
-/
namespace Go.Proofs.Ytclegljalndaeac
open Go.RowKit
set_option maxRecDepth 4000

theorem byteBack (b : UInt8) : UInt8.ofNat ((b.toNat : Int)).toNat = b := by simp
theorem strOfNums_sl (s : ByteArray) : strOfNums (sl s) = s := by
  apply ByteArray.ext
  apply Array.toList_inj.1
  rw [strOfNums_data]
  unfold sl
  rw [List.map_map]
  conv => rhs; rw [← List.map_id s.data.toList]
  apply List.map_congr_left
  intro b _
  exact byteBack b
theorem sl_inj {s t : ByteArray} (h : sl s = sl t) : s = t := by rw [← strOfNums_sl s, ← strOfNums_sl t, h]

def escU : List UInt8 → List UInt8
  | [] => []
  | x :: xs => (if x = 0 then [0, 255] else [x]) ++ escU xs

theorem less_esc : ∀ a b : List UInt8, Op.bytesLess (escU a ++ [0, 1]) (escU b ++ [0, 1]) = Op.bytesLess a b
  | [], [] => by decide
  | [], y :: ys => by
    by_cases h : y = 0
    · subst h; simp [escU, Op.bytesLess]
    · have h0 : (0 : UInt8) < y := by
        rw [UInt8.lt_iff_toNat_lt]
        have : y.toNat ≠ 0 := fun e => h (UInt8.toNat_inj.1 e)
        show 0 < y.toNat
        omega
      simp [escU, Op.bytesLess, h, h0]
  | x :: xs, [] => by
    by_cases h : x = 0
    · subst h; simp [escU, Op.bytesLess]
    · simp [escU, Op.bytesLess, h]
  | x :: xs, y :: ys => by
    have ih := less_esc xs ys
    by_cases hx : x = 0
    · by_cases hy : y = 0
      · subst hx hy
        simp [escU, Op.bytesLess, ih]
      · subst hx
        have h0 : (0 : UInt8) < y := by
          rw [UInt8.lt_iff_toNat_lt]
          have : y.toNat ≠ 0 := fun e => hy (UInt8.toNat_inj.1 e)
          show 0 < y.toNat
          omega
        simp [escU, Op.bytesLess, hy, h0]
    · by_cases hy : y = 0
      · subst hy
        have hb : (x == 0) = false := by simpa using hx
        simp [escU, Op.bytesLess, hx, hb]
      · simp [escU, Op.bytesLess, hx, hy, ih]

theorem escL_U : ∀ l : List UInt8, (escL (l.map (fun b => (b.toNat : Int)))).map (fun n => UInt8.ofNat n.toNat) = escU l
  | [] => rfl
  | x :: xs => by
    have ih := escL_U xs
    simp only [List.map_cons, escL, List.map_append, ih, escU]
    congr 1
    by_cases h : x = 0
    · subst h; simp [esc1]
    · have : ((x.toNat : Int)) ≠ 0 := by
        intro e
        apply h
        apply UInt8.toNat_inj.1
        show x.toNat = 0
        omega
      unfold esc1
      rw [if_neg this, if_neg h]
      simp

theorem esc_ahead (s t : ByteArray) : ahead (escL (sl s) ++ [0, 1]) (escL (sl t) ++ [0, 1]) = Op.bytesLess s.toList t.toList := by
  unfold ahead
  rw [toList_data, toList_data, toList_data, toList_data, strOfNums_data, strOfNums_data, List.map_append, List.map_append]
  unfold sl
  rw [escL_U, escL_U]
  exact less_esc _ _

theorem esc_prefix {a b rest : List Int} (h : escL a ++ [0, 1] = (escL b ++ [0, 1]) ++ rest) : a = b := by
  have h1 := readE_put a []
  have h2 := readE_put b rest
  rw [h, List.append_assoc] at h1
  rw [show [0, 1] ++ rest = 0 :: 1 :: rest from rfl, h2] at h1
  cases h1
  rfl

theorem fromL_drop (l : List Int) (k : Nat) : fromL l.length (fun i => l.getD i 0) k = l.drop k := by
  unfold fromL lof
  apply List.ext_getElem
  · simp
  · intro i h1 h2
    simp at h1
    have : k + i < l.length := by omega
    simp [this]

theorem getE_putE (m : Nat) (f : Nat → Int) (s : ByteArray) : getE (m + escN s) (fun i => (escT m f s).getD i 0) (m : Int) = (s, ((m + escN s : Nat) : Int), true) := by
  have h := fromL_drop (escT m f s) m
  rw [escT_len] at h
  have h2 : readE (fromL (m + escN s) (fun i => (escT m f s).getD i 0) m) = some (sl s, escN s) := by
    rw [h]
    unfold escT
    rw [List.drop_left' (lof_len m f)]
    exact readE_put (sl s) []
  rw [getE_some h2, strOfNums_sl]
  simp

end Go.Proofs.Ytclegljalndaeac

/-
  What is read as a text in order has these bytes.
-/
namespace Go.Proofs.Ytclegljalndaeac
open Go.RowKit
set_option maxRecDepth 4000

theorem mem_escL {t : List Int} {y : Int} (h : y ∈ t) : y ∈ escL t := by
  induction t with
  | nil => cases h
  | cons x xs ih =>
    rcases List.mem_cons.1 h with rfl | h
    · refine List.mem_append_left _ ?_
      unfold esc1
      split
      · rename_i e; subst e; simp
      · simp
    · exact List.mem_append_right _ (ih h)

theorem sl_strOfNums {t : List Int} (h : ∀ y ∈ t, 0 ≤ y ∧ y ≤ 255) : sl (strOfNums t) = t :=
  strOfNums_inj (sl_byte _) h (strOfNums_sl _)

theorem fromL_len (n : Nat) (f : Nat → Int) (k : Nat) : (fromL n f k).length = n - k := by unfold fromL; rw [lof_len]

theorem getE_back {m : Nat} {F : Nat → Int} {x : Int} {s : ByteArray} {q : Int} (hF : ∀ i, i < m → 0 ≤ F i ∧ F i ≤ 255) (h : getE m F x = (s, q, true)) :
    ∃ p K : Nat, x = (p : Int) ∧ q = (p : Int) + (K : Int) ∧ p + K ≤ m ∧ 2 ≤ K ∧ s.size ≤ K ∧ lof K (fun i => F (p + i)) = escL (sl s) ++ [0, 1] := by
  unfold getE at h
  by_cases hx : x < 0
  · rw [if_pos hx] at h; cases h
  · rw [if_neg hx] at h
    cases hr : readE (fromL m F x.toNat) with
    | none => rw [hr] at h; cases h
    | some r =>
      obtain ⟨t, K⟩ := r
      rw [hr] at h
      cases h
      obtain ⟨h1, h2⟩ := readE_is _ _ _ hr
      rw [fromL_len] at h1
      have hK : K = (escL t).length + 2 := by
        have := congrArg List.length h2
        rw [List.length_take, fromL_len, List.length_append] at this
        simp at this
        omega
      have hle := escL_len t
      have e1 : (fromL m F x.toNat).take K = lof K (fun i => F (x.toNat + i)) := by
        unfold fromL lof
        rw [← List.map_take, List.take_range, Nat.min_eq_left h1]
      rw [e1] at h2
      have hby : ∀ y ∈ t, 0 ≤ y ∧ y ≤ 255 := by
        intro y hy
        have hm : y ∈ lof K (fun i => F (x.toNat + i)) := by rw [h2]; exact List.mem_append_left _ (mem_escL hy)
        simp only [lof, List.mem_map, List.mem_range] at hm
        obtain ⟨j, hj, rfl⟩ := hm
        exact hF _ (by omega)
      refine ⟨x.toNat, K, by omega, by omega, by omega, by omega, ?_, ?_⟩
      · show (strOfNums t).size ≤ K
        rw [strOfNums_size]; omega
      · rw [sl_strOfNums hby]; exact h2
end Go.Proofs.Ytclegljalndaeac

