/-
  Together: ValBox, PartImpl, PlanImpl
-/
import Derived.Test.YtjoimkfpenbkmaaGreatDoorPackP23
import Derived.Test.YtjoimkfpenbkmaaGreatDoorPackP22
import Derived.Test.YtjoimkfpenbkmaaGreatDoorPackP4
import Derived.Deep.LoopGhost
import Derived.Deep.RegionHeld3
/-
  A value in a variable of the call's own.
-/
namespace Go.Proofs.YtjoimkfpenbkmaaGreatDoor
open Go.RowKit
set_option maxRecDepth 4000

/-- The three cells of a value. -/
def valC (k n : Int) (s : ByteArray) : Nat → Value
  | 0 => .int .i64 k
  | 1 => .int .i64 n
  | _ => .string s

/-- A value in a variable of the call's own. -/
def Box (w : World) (B : Nat) (k n : Int) (s : ByteArray) : Prop := w.rowIs B 88 3 (valC k n s)
theorem Box.new (w : World) (k n : Int) (s : ByteArray) : Box (w.alloc (.cells #[.int .i64 k, .int .i64 n, .string s] 88)) w.heap.size k n s :=
  World.rowIs_alloc w _ 88 (valC k n s) (fun j hj => by match j, hj with | 0, _ => rfl | 1, _ => rfl | 2, _ => rfl)
theorem Box.cells {w : World} {B : Nat} {k n : Int} {s : ByteArray} (h : Box w B k n s) : w.cell? ⟨B, 0, none⟩ = some (.int .i64 k) ∧ w.cell? ⟨B, 1, none⟩ = some (.int .i64 n) ∧ w.cell? ⟨B, 2, none⟩ = some (.string s) :=
  ⟨h.cell (i := 0) (by decide), h.cell (i := 1) (by decide), h.cell (i := 2) (by decide)⟩
theorem Box.frozen {w : World} {B : Nat} {k n : Int} {s : ByteArray} (h : Box w B k n s) : w.frozen? ⟨B, 0, none⟩ = false ∧ w.frozen? ⟨B, 1, none⟩ = false ∧ w.frozen? ⟨B, 2, none⟩ = false :=
  ⟨World.rowIs.frozen h 0, World.rowIs.frozen h 1, World.rowIs.frozen h 2⟩
theorem Box.lt {w : World} {B : Nat} {k n : Int} {s : ByteArray} (h : Box w B k n s) : B < w.heap.size := World.rowIs.lt h
theorem Box.below {w w' : World} {B : Nat} {k n : Int} {s : ByteArray} (h : Box w B k n s) (hb : Below w.heap.size w w') : Box w' B k n s := h.of_block (hb.block B h.lt)
theorem Box.set0 {w : World} {B : Nat} {k n : Int} {s : ByteArray} (h : Box w B k n s) (x : Int) : Box (w.setCell ⟨B, 0, none⟩ (.int .i64 x)) B x n s :=
  (World.rowIs.set h 0 _).congr (fun j hj => by match j, hj with | 0, _ => rfl | 1, _ => rfl | 2, _ => rfl)
theorem Box.set1 {w : World} {B : Nat} {k n : Int} {s : ByteArray} (h : Box w B k n s) (x : Int) : Box (w.setCell ⟨B, 1, none⟩ (.int .i64 x)) B k x s :=
  (World.rowIs.set h 1 _).congr (fun j hj => by match j, hj with | 0, _ => rfl | 1, _ => rfl | 2, _ => rfl)
theorem Box.set2 {w : World} {B : Nat} {k n : Int} {s : ByteArray} (h : Box w B k n s) (t : ByteArray) : Box (w.setCell ⟨B, 2, none⟩ (.string t)) B k n t :=
  (World.rowIs.set h 2 _).congr (fun j hj => by match j, hj with | 0, _ => rfl | 1, _ => rfl | 2, _ => rfl)
theorem Box.put {w : World} {B : Nat} {k n : Int} {s : ByteArray} (h : Box w B k n s) (k' n' : Int) (s' : ByteArray) : Box (((w.setCell ⟨B, 0, none⟩ (.int .i64 k')).setCell ⟨B, 1, none⟩ (.int .i64 n')).setCell ⟨B, 2, none⟩ (.string s')) B k' n' s' :=
  ((h.set0 k').set1 n').set2 s'
theorem Box.other {w : World} {B D i : Nat} {k n : Int} {s : ByteArray} (h : Box w B k n s) (hne : B ≠ D) (u : Value) : Box (w.setCell ⟨D, i, none⟩ u) B k n s := h.of_block (Below.heap_setCell _ _ _ _ hne)
theorem Box.drew {w : World} {B : Nat} {k n : Int} {s : ByteArray} (h : Box w B k n s) : Box w.drew B k n s := h
/-- The result's variable and the value's, behind what was there. -/
theorem boxes2 (w : World) (t : Int) : Box ((w.alloc (.cells #[.int .i64 0, .int .i64 0, .string ⟨#[]⟩] 88)).alloc (.cells #[.int .i64 t, .int .i64 0, .string ⟨#[]⟩] 88)) w.heap.size 0 0 ⟨#[]⟩ ∧ Box ((w.alloc (.cells #[.int .i64 0, .int .i64 0, .string ⟨#[]⟩] 88)).alloc (.cells #[.int .i64 t, .int .i64 0, .string ⟨#[]⟩] 88)) (w.heap.size + 1) t 0 ⟨#[]⟩ ∧
    Below w.heap.size w ((w.alloc (.cells #[.int .i64 0, .int .i64 0, .string ⟨#[]⟩] 88)).alloc (.cells #[.int .i64 t, .int .i64 0, .string ⟨#[]⟩] 88)) := by
  have h2 := Box.new (w.alloc (.cells #[.int .i64 0, .int .i64 0, .string ⟨#[]⟩] 88)) t 0 ⟨#[]⟩
  rw [show (w.alloc (.cells #[.int .i64 0, .int .i64 0, .string ⟨#[]⟩] 88)).heap.size = w.heap.size + 1 by simp] at h2
  exact ⟨(Box.new w 0 0 ⟨#[]⟩).below ((Below.refl _ _).alloc (Nat.le_refl _) _), h2, ((Below.refl _ _).alloc (Nat.le_refl _) _).alloc (by simp) _⟩
end Go.Proofs.YtjoimkfpenbkmaaGreatDoor

/-
  The program's PartOk and Fits. (Nothing fits a part of no type, even where it may not be nothing: as the program has it.)
-/
namespace Go.Proofs.YtjoimkfpenbkmaaGreatDoor
open Go.RowKit
set_option maxRecDepth 4000

set_option maxHeartbeats 1000000 in
theorem implPartOk_any (c t : Int) (nul d : Bool) (w : World) :
    Calls Tryz.prog 52 #[.agg #[.int .i64 c, .int .i64 t, .bool nul, .bool d]] w fun e w' => e = .returned (.bool (partOk c t)) ∧ Below w.heap.size w w' := by
  have hb0 : ∀ o, Below w.heap.size w (w.alloc o) := fun o => (Below.refl _ _).alloc (Nat.le_refl _) _
  by_cases h1 : 0 ≤ c
  · by_cases h2 : c ≤ 9
    · by_cases h3 : 1 ≤ t
      · by_cases h4 : t ≤ 4
        · have e : partOk c t = true := by unfold partOk; simp [h1, h2, h3, h4]
          rw [e]
          go_enter Tryz.func52, Tryz.ntmps52
          go_wp2
          go_ret
          exact ⟨rfl, hb0 _⟩
        · have e : partOk c t = false := by unfold partOk; simp [h1, h2, h3, h4]
          rw [e]
          go_enter Tryz.func52, Tryz.ntmps52
          go_wp2
          go_ret
          exact ⟨rfl, hb0 _⟩
      · have e : partOk c t = false := by unfold partOk; simp [h1, h2, h3]
        rw [e]
        go_enter Tryz.func52, Tryz.ntmps52
        go_wp2
        go_ret
        exact ⟨rfl, hb0 _⟩
    · have e : partOk c t = false := by unfold partOk; simp [h1, h2]
      rw [e]
      go_enter Tryz.func52, Tryz.ntmps52
      go_wp2
      go_ret
      exact ⟨rfl, hb0 _⟩
  · have e : partOk c t = false := by unfold partOk; simp [h1]
    rw [e]
    go_enter Tryz.func52, Tryz.ntmps52
    go_wp2
    go_ret
    exact ⟨rfl, hb0 _⟩

/-- What fits, as the program has it. -/
def fitsI (t : Int) (nul : Bool) (k n : Int) (s : ByteArray) : Bool := okF k n s && (decide (k = t) || (decide (k = 0) && nul))
theorem fitsI_ok {t : Int} {nul : Bool} {k n : Int} {s : ByteArray} (ht : 1 ≤ t) : fitsI t nul k n s = fitsP t nul k n s := by
  unfold fitsI fitsP
  by_cases hk : k = t
  · simp [hk, show t ≠ 0 by omega]
  · simp [hk]

set_option maxHeartbeats 1000000 in
theorem implFits_any (c t : Int) (nul d : Bool) (k n : Int) (s : ByteArray) (w : World) :
    Calls Tryz.prog 183 #[.agg #[.int .i64 c, .int .i64 t, .bool nul, .bool d], .agg #[.int .i64 k, .int .i64 n, .string s]] w fun e w' => e = .returned (.bool (fitsI t nul k n s)) ∧ Below w.heap.size w w' := by
  have hP := (PBox.new w c t nul d).below ((Below.refl _ _).alloc (Nat.le_refl _) (.cells #[.int .i64 k, .int .i64 n, .string s] 88))
  have hV := Box.new (w.alloc (.cells #[.int .i64 c, .int .i64 t, .bool nul, .bool d] 39)) k n s
  rw [show (w.alloc (.cells #[.int .i64 c, .int .i64 t, .bool nul, .bool d] 39)).heap.size = w.heap.size + 1 by simp] at hV
  have hb0 : Below w.heap.size w ((w.alloc (.cells #[.int .i64 c, .int .i64 t, .bool nul, .bool d] 39)).alloc (.cells #[.int .i64 k, .int .i64 n, .string s] 88)) := ((Below.refl _ _).alloc (Nat.le_refl _) _).alloc (by simp) _
  cases ho : okF k n s with
  | false =>
    have hr : fitsI t nul k n s = false := by unfold fitsI; rw [ho]; rfl
    rw [hr]
    clear hr
    go_enter Tryz.func183, Tryz.ntmps183
    go_wp2_with fail
    refine (valOk_any k n s _).mono ?_
    rw [ho]
    rintro e w1 ⟨rfl, hb1⟩
    have hB : Below w.heap.size w w1 := hb0.trans (hb1.mono hb0.size)
    clear hP hV hb0 hb1 ho
    go_wp2
    go_ret
    exact ⟨rfl, hB⟩
  | true =>
    by_cases kt : k = t
    · subst kt
      have hr : fitsI k nul k n s = true := by unfold fitsI; rw [ho]; simp
      rw [hr]
      have q4 : (k == k) = true := by simp
      clear hr
      go_enter Tryz.func183, Tryz.ntmps183
      go_wp2_with fail
      refine (valOk_any k n s _).mono ?_
      rw [ho]
      rintro e w1 ⟨rfl, hb1⟩
      obtain ⟨p0, p1, p2, p3⟩ := (hP.below hb1).cells
      obtain ⟨v0, v1, v2⟩ := (hV.below hb1).cells
      have hB : Below w.heap.size w w1 := hb0.trans (hb1.mono hb0.size)
      clear hP hV hb0 hb1 ho
      go_wp2
      go_ret
      exact ⟨rfl, hB⟩
    · have q4 : (k == t) = false := by simpa using kt
      by_cases k0 : k = 0
      · have hr : fitsI t nul k n s = nul := by unfold fitsI; rw [ho]; simp [k0, show ¬ (0 : Int) = t by omega]
        rw [hr]
        have q2 : (k == 0) = true := by simpa using k0
        clear hr k0 kt
        go_enter Tryz.func183, Tryz.ntmps183
        go_wp2_with fail
        refine (valOk_any k n s _).mono ?_
        rw [ho]
        rintro e w1 ⟨rfl, hb1⟩
        obtain ⟨p0, p1, p2, p3⟩ := (hP.below hb1).cells
        obtain ⟨v0, v1, v2⟩ := (hV.below hb1).cells
        have hB : Below w.heap.size w w1 := hb0.trans (hb1.mono hb0.size)
        clear hP hV hb0 hb1 ho
        go_wp2
        go_ret
        exact ⟨rfl, hB⟩
      · have hr : fitsI t nul k n s = false := by unfold fitsI; rw [ho]; simp [kt, k0]
        rw [hr]
        have q2 : (k == 0) = false := by simpa using k0
        clear hr k0 kt
        go_enter Tryz.func183, Tryz.ntmps183
        go_wp2_with fail
        refine (valOk_any k n s _).mono ?_
        rw [ho]
        rintro e w1 ⟨rfl, hb1⟩
        obtain ⟨p0, p1, p2, p3⟩ := (hP.below hb1).cells
        obtain ⟨v0, v1, v2⟩ := (hV.below hb1).cells
        have hB : Below w.heap.size w w1 := hb0.trans (hb1.mono hb0.size)
        clear hP hV hb0 hb1 ho
        go_wp2
        go_ret
        exact ⟨rfl, hB⟩
end Go.Proofs.YtjoimkfpenbkmaaGreatDoor

/-
  The program's PlanOk comes to the plain one.
-/
namespace Go.Proofs.YtjoimkfpenbkmaaGreatDoor
open Go.RowKit
set_option maxRecDepth 4000

set_option maxHeartbeats 2000000 in
theorem implPlanOk_any (a : Option Addr) (n cap : Nat) (fc ft : Nat → Int) (fu fd : Nat → Bool) (w : World) (h : PView w a n cap fc ft fu fd) :
    Calls Tryz.prog 15 #[.slice a n cap] w fun e w' => e = .returned (.bool (planOk n fc ft)) ∧ Below w.heap.size w w' := by
  by_cases h6 : n ≤ 6
  · have h6z : ¬ (n : Int) > 6 := by omega
    have h6y : (n : Int) ≤ 6 := by omega
    go_enter Tryz.func15, Tryz.ntmps15
    go_wp2
    go_loopg [10] n (fun q i wr => ∃ k : Nat, k ≤ n ∧ q = n - k ∧ i = .int .i64 k ∧ Below w.heap.size w wr ∧ ∀ j, j < k → partOk (fc j) (ft j) = true)
    case atStart => exact ⟨0, Nat.zero_le _, rfl, rfl, Below.refl _ _, fun j hj => absurd hj (Nat.not_lt_zero _)⟩
    case round =>
      obtain ⟨k, hk, rfl, rfl, hB, hall⟩ := hrel
      have HA : Hid (∀ j, j < k → partOk (fc j) (ft j) = true) := hall
      clear hall
      by_cases hlt : k < n
      · obtain ⟨b1, o1, rfl, hb1, hd1⟩ := (h.below hB).cells (by omega)
        obtain ⟨x0, x1, x2, x3⟩ := hd1 k hlt
        have hkz : (k : Int) < (n : Int) := by omega
        clear hd1 h
        go_wp2_with fail
        clear x0 x1 x2 x3
        refine (implPartOk_any (fc k) (ft k) (fu k) (fd k) _).mono ?_
        cases ho : partOk (fc k) (ft k) with
        | true =>
          rintro e w2 ⟨rfl, hB2⟩
          have hB3 : Hid (Below w.heap.size w w2) := (hB.alloc hB.size _).trans (hB2.mono (by have := hB.size; simp; omega))
          clear hB2
          have HN : Hid (∀ j, j < k + 1 → partOk (fc j) (ft j) = true) := by
            intro j hj
            by_cases e : j < k
            · exact HA.out j e
            · obtain rfl : j = k := by omega
              exact ho
          clear ho HA
          go_wp2
          go_roundg (n - (k + 1))
          case measure => omega
          case rel => exact ⟨k + 1, by omega, rfl, by go_num, hB3.out, HN.out⟩
        | false =>
          rintro e w2 ⟨rfl, hB2⟩
          have hB3 : Hid (Below w.heap.size w w2) := (hB.alloc hB.size _).trans (hB2.mono (by have := hB.size; simp; omega))
          have HF : Hid (planOk n fc ft = false) := by show _ = _; unfold planOk; rw [allUpto_no hlt ho]; rfl
          clear hB2 ho HA
          go_wp2
          go_ret
          exact ⟨by rw [HF.out]; rfl, hB3.out⟩
      · have hkz : ¬ (k : Int) < (n : Int) := by omega
        have HF : Hid (planOk n fc ft = true) := planOk_iff.2 ⟨fun i hi => HA.out i (by omega), h6⟩
        clear HA
        go_wp2
        go_ret
        exact ⟨by rw [HF.out]; rfl, hB⟩
  · have h6z : (n : Int) > 6 := by omega
    have HF : Hid (planOk n fc ft = false) := by show _ = _; unfold planOk; simp [h6]
    go_enter Tryz.func15, Tryz.ntmps15
    go_wp2
    go_ret
    exact ⟨by rw [HF.out]; rfl, Below.refl _ _⟩
end Go.Proofs.YtjoimkfpenbkmaaGreatDoor

