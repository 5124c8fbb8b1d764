/-
  The model's PartOk, Fits and LessPart come to the plain ones.
-/
import Derived.Test.YtbcgonfihdpjnaqPartPlain
import Derived.Test.YtbcgonfihdpjnaqValOkSpec
import Derived.Test.YtbcgonfihdpjnaqGetVarSpec
import Derived.Test.YtbcgonfihdpjnaqValBox
import Derived.Test.YtbcgonfihdpjnaqPartBox
namespace Go.Proofs.Ytbcgonfihdpjnaq
open Go.RowKit
set_option maxRecDepth 4000

def partAgg (c t : Int) (nul d : Bool) : Value := .agg #[.int .i64 c, .int .i64 t, .bool nul, .bool d]

set_option maxHeartbeats 1000000 in
theorem specPartOk_any (c t : Int) (nul d : Bool) (w : World) :
    Calls Try.prog 12 #[.agg #[.int .i64 c, .int .i64 t, .bool nul, .bool d]] w fun e w' => e = .returned (.bool (partOk c t)) ∧ Below w.heap.size w w' := by
  have hb0 : ∀ o, Below w.heap.size w (w.alloc o) := fun o => (Below.refl _ _).alloc (Nat.le_refl _) _
  by_cases h1 : 0 ≤ c ∧ c ≤ 9
  · by_cases h2 : 1 ≤ t ∧ t ≤ 4
    · have e : partOk c t = true := by unfold partOk; simp; omega
      rw [e]
      go_enter Try.func12, Try.ntmps12
      go_wp2_with fail
      refine (l1In_yes c 0 9 _ h1.1 h1.2).mono ?_
      rintro e _ ⟨rfl, rfl⟩
      go_wp2_with fail
      refine (l1In_yes t 1 4 _ h2.1 h2.2).mono ?_
      rintro e _ ⟨rfl, rfl⟩
      go_wp2
      go_ret
      exact ⟨rfl, hb0 _⟩
    · have e : partOk c t = false := by unfold partOk; simp; omega
      rw [e]
      go_enter Try.func12, Try.ntmps12
      go_wp2_with fail
      refine (l1In_yes c 0 9 _ h1.1 h1.2).mono ?_
      rintro e _ ⟨rfl, rfl⟩
      go_wp2_with fail
      refine (l1In_no t 1 4 _ (by omega)).mono ?_
      rintro e _ ⟨rfl, rfl⟩
      go_wp2
      go_ret
      exact ⟨rfl, hb0 _⟩
  · have e : partOk c t = false := by unfold partOk; simp; omega
    rw [e]
    go_enter Try.func12, Try.ntmps12
    go_wp2_with fail
    refine (l1In_no c 0 9 _ (by omega)).mono ?_
    rintro e _ ⟨rfl, rfl⟩
    go_wp2
    go_ret
    exact ⟨rfl, hb0 _⟩

set_option maxHeartbeats 1000000 in
theorem specFits_any (c t : Int) (nul d : Bool) (k n : Int) (s : ByteArray) (w : World) (hs : s.size ≤ 281474976710656) :
    Calls Try.prog 32 #[.agg #[.int .i64 c, .int .i64 t, .bool nul, .bool d], .agg #[.int .i64 k, .int .i64 n, .string s]] w fun e w' => e = .returned (.bool (fitsP t nul k n s)) ∧ Below w.heap.size w w' := by
  have hP := (PBox.new w c t nul d).below ((Below.refl _ _).alloc (Nat.le_refl _) (.cells #[.int .i64 k, .int .i64 n, .string s] 38))
  have hV := Box.new (w.alloc (.cells #[.int .i64 c, .int .i64 t, .bool nul, .bool d] 31)) k n s
  rw [show (w.alloc (.cells #[.int .i64 c, .int .i64 t, .bool nul, .bool d] 31)).heap.size = w.heap.size + 1 by simp] at hV
  have hb0 : Below w.heap.size w ((w.alloc (.cells #[.int .i64 c, .int .i64 t, .bool nul, .bool d] 31)).alloc (.cells #[.int .i64 k, .int .i64 n, .string s] 38)) := ((Below.refl _ _).alloc (Nat.le_refl _) _).alloc (by simp) _
  cases ho : okF k n s with
  | false =>
    have hr : fitsP t nul k n s = false := by unfold fitsP; rw [ho]; rfl
    rw [hr]
    clear hr
    go_enter Try.func32, Try.ntmps32
    go_wp2_with fail
    refine (specValOk_any k n s _ hs).mono ?_
    rw [ho]
    rintro e w1 ⟨rfl, hb1⟩
    obtain ⟨p0, p1, p2, p3⟩ := (hP.below hb1).cells
    obtain ⟨v0, v1, v2⟩ := (hV.below hb1).cells
    have hB : Below w.heap.size w w1 := hb0.trans (hb1.mono hb0.size)
    clear hP hV hb0 hb1 ho
    go_wp2
    go_ret
    exact ⟨rfl, hB⟩
  | true =>
    by_cases k0 : k = 0
    · subst k0
      have hr : fitsP t nul 0 n s = nul := by unfold fitsP; rw [ho]; simp
      rw [hr]
      clear hr
      by_cases ht : t = 0
      · subst ht
        have q0 : ((0 : Int) == 0) = true := by simp
        have q1 : ((0 : Int) != 0) = false := by simp
        go_enter Try.func32, Try.ntmps32
        go_wp2_with fail
        refine (specValOk_any 0 n s _ hs).mono ?_
        rw [ho]
        rintro e w1 ⟨rfl, hb1⟩
        obtain ⟨p0, p1, p2, p3⟩ := (hP.below hb1).cells
        obtain ⟨v0, v1, v2⟩ := (hV.below hb1).cells
        have hB : Below w.heap.size w w1 := hb0.trans (hb1.mono hb0.size)
        clear hP hV hb0 hb1 ho
        go_wp2
        go_ret
        exact ⟨rfl, hB⟩
      · have q0 : ((0 : Int) == t) = false := by simp; omega
        have q1 : ((0 : Int) == 0) = true := by simp
        clear ht
        go_enter Try.func32, Try.ntmps32
        go_wp2_with fail
        refine (specValOk_any 0 n s _ hs).mono ?_
        rw [ho]
        rintro e w1 ⟨rfl, hb1⟩
        obtain ⟨p0, p1, p2, p3⟩ := (hP.below hb1).cells
        obtain ⟨v0, v1, v2⟩ := (hV.below hb1).cells
        have hB : Below w.heap.size w w1 := hb0.trans (hb1.mono hb0.size)
        clear hP hV hb0 hb1 ho
        go_wp2
        go_ret
        exact ⟨rfl, hB⟩
    · have q2 : (k == 0) = false := by simpa using k0
      have q3 : (k != 0) = true := by simpa using k0
      by_cases kt : k = t
      · subst kt
        have hr : fitsP k nul k n s = true := by unfold fitsP; rw [ho]; simp [k0]
        rw [hr]
        have q4 : (k == k) = true := by simp
        clear hr k0
        go_enter Try.func32, Try.ntmps32
        go_wp2_with fail
        refine (specValOk_any k n s _ hs).mono ?_
        rw [ho]
        rintro e w1 ⟨rfl, hb1⟩
        obtain ⟨p0, p1, p2, p3⟩ := (hP.below hb1).cells
        obtain ⟨v0, v1, v2⟩ := (hV.below hb1).cells
        have hB : Below w.heap.size w w1 := hb0.trans (hb1.mono hb0.size)
        clear hP hV hb0 hb1 ho
        go_wp2
        go_ret
        exact ⟨rfl, hB⟩
      · have hr : fitsP t nul k n s = false := by unfold fitsP; rw [ho]; simp [k0, kt]
        rw [hr]
        have q4 : (k == t) = false := by simpa using kt
        clear hr k0 kt
        go_enter Try.func32, Try.ntmps32
        go_wp2_with fail
        refine (specValOk_any k n s _ hs).mono ?_
        rw [ho]
        rintro e w1 ⟨rfl, hb1⟩
        obtain ⟨p0, p1, p2, p3⟩ := (hP.below hb1).cells
        obtain ⟨v0, v1, v2⟩ := (hV.below hb1).cells
        have hB : Below w.heap.size w w1 := hb0.trans (hb1.mono hb0.size)
        clear hP hV hb0 hb1 ho
        go_wp2
        go_ret
        exact ⟨rfl, hB⟩
end Go.Proofs.Ytbcgonfihdpjnaq
