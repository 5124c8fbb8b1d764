/-
  Together: ValOfWalk, ValOkImpl, PartImpl, FormOf, SetDigits, PutFixImpl
-/
import Derived.Test.YtbcgonfihdpjnabPack6
import Derived.Deep.RegionWith
import Derived.BigQuiet
import Derived.Test.YtbcgonfihdpjnabPack3
import Derived.Test.YtbcgonfihdpjnabPack1
import Derived.Test.YtbcgonfihdpjnabPack4
/-
  What the program holds of three fields: the value within, and whether it is sound.
-/
namespace Go.Proofs.Ytbcgonfihdpjnab
open Go.RowKit
set_option maxRecDepth 4000

theorem okF_at {k n : Int} {s : ByteArray} {v : V} (h : ofFields k n s = some v) : okF k n s = (v.rng && eqV v.k v.n v.s k n s) := by
  unfold okF
  rw [h]
  rfl

theorem box_cells (w W' : World) (k n : Int) (s : ByteArray) (h : Below (w.heap.size + 1) (w.alloc (.cells #[.int .i64 k, .int .i64 n, .string s] 39)) W') : W'.cell? ⟨w.heap.size, 0, none⟩ = some (.int .i64 k) ∧ W'.cell? ⟨w.heap.size, 1, none⟩ = some (.int .i64 n) ∧ W'.cell? ⟨w.heap.size, 2, none⟩ = some (.string s) := by
  refine ⟨?_, ?_, ?_⟩
  all_goals (rw [h.cell (by simp)]; simp [go_sem])

set_option maxHeartbeats 2000000 in
theorem valueOf_bool_true (n : Int) (s : ByteArray) (hz : (n != 0) = true) (w : World) :
    Calls Try.prog 87 #[.agg #[.int .i64 4, .int .i64 n, .string s]] w fun e w' => e = .returned (.tuple #[V.enc (.bool true), .bool (eqV 4 1 ⟨#[]⟩ 4 n s)]) ∧ Below w.heap.size w w' := by
  have hO : ∀ W, Calls Try.prog 89 #[.iface 105 (.bool true)] W fun e w' => e = .returned (.agg #[.int .i64 4, .int .i64 1, .string ⟨#[]⟩]) ∧ Below W.heap.size W w' := fun W => valOf_any (.bool true) W
  have hbox := fun W' h => box_cells w W' 4 n s h
  have qe := eqVal_run 4 1 ⟨#[]⟩ 4 n s
  have hI : ∀ W, Calls Try.prog 88 #[.iface 105 (.bool true)] W fun e w' => e = .returned (.bool true) ∧ w' = W := fun W => inRange_any (.bool true) W
  go_enter Try.func87, Try.ntmps87
  go_wp2_with (fail)
  go_region_with (first | (go_at_call 88; refine (hI _).mono ?_; rintro e _ ⟨rfl, rfl⟩) | (go_at_call 89; refine (hO _).mono ?_; rintro e w2 ⟨rfl, hB⟩; obtain ⟨hb0, hb1, hb2⟩ := hbox _ (Below.trans (by repeat (first | exact Below.refl _ _ | refine Below.drew ?_)) (hB.mono (by simp)))))
  all_goals go_wp2
  all_goals go_ret2
  all_goals refine ⟨rfl, Below.trans (b := w.alloc _) ((Below.refl _ _).alloc (Nat.le_refl _) _) (Below.trans (by repeat (first | exact Below.refl _ _ | refine Below.drew ?_)) (hB.mono (by simp)))⟩

set_option maxHeartbeats 2000000 in
theorem valueOf_bool_false (s : ByteArray) (w : World) :
    Calls Try.prog 87 #[.agg #[.int .i64 4, .int .i64 0, .string s]] w fun e w' => e = .returned (.tuple #[V.enc (.bool false), .bool (eqV 4 0 ⟨#[]⟩ 4 0 s)]) ∧ Below w.heap.size w w' := by
  have hO : ∀ W, Calls Try.prog 89 #[.iface 105 (.bool false)] W fun e w' => e = .returned (.agg #[.int .i64 4, .int .i64 0, .string ⟨#[]⟩]) ∧ Below W.heap.size W w' := fun W => valOf_any (.bool false) W
  have hbox := fun W' h => box_cells w W' 4 0 s h
  have qe := eqVal_run 4 0 ⟨#[]⟩ 4 0 s
  have hI : ∀ W, Calls Try.prog 88 #[.iface 105 (.bool false)] W fun e w' => e = .returned (.bool true) ∧ w' = W := fun W => inRange_any (.bool false) W
  go_enter Try.func87, Try.ntmps87
  go_wp2_with (fail)
  go_region_with (first | (go_at_call 88; refine (hI _).mono ?_; rintro e _ ⟨rfl, rfl⟩) | (go_at_call 89; refine (hO _).mono ?_; rintro e w2 ⟨rfl, hB⟩; obtain ⟨hb0, hb1, hb2⟩ := hbox _ (Below.trans (by repeat (first | exact Below.refl _ _ | refine Below.drew ?_)) (hB.mono (by simp)))))
  all_goals go_wp2
  all_goals go_ret2
  all_goals refine ⟨rfl, Below.trans (b := w.alloc _) ((Below.refl _ _).alloc (Nat.le_refl _) _) (Below.trans (by repeat (first | exact Below.refl _ _ | refine Below.drew ?_)) (hB.mono (by simp)))⟩

set_option maxHeartbeats 2000000 in
theorem valueOf_null (n : Int) (s : ByteArray) (w : World) :
    Calls Try.prog 87 #[.agg #[.int .i64 0, .int .i64 n, .string s]] w fun e w' => e = .returned (.tuple #[V.enc .null, .bool (V.rng .null && eqV 0 0 ⟨#[]⟩ 0 n s)]) ∧ Below w.heap.size w w' := by
  have hO : ∀ W, Calls Try.prog 89 #[.iface 101 (.agg #[])] W fun e w' => e = .returned (.agg #[.int .i64 0, .int .i64 0, .string ⟨#[]⟩]) ∧ Below W.heap.size W w' := fun W => valOf_any .null W
  have hbox := fun W' h => box_cells w W' 0 n s h
  have qe := eqVal_run 0 0 ⟨#[]⟩ 0 n s
  have hI : ∀ W, Calls Try.prog 88 #[.iface 101 (.agg #[])] W fun e w' => e = .returned (.bool true) ∧ w' = W := fun W => by have := inRange_any .null W; exact this
  go_enter Try.func87, Try.ntmps87
  go_wp2_with (fail)
  go_region_with (first | (go_at_call 88; refine (hI _).mono ?_; rintro e _ ⟨rfl, rfl⟩) | (go_at_call 89; refine (hO _).mono ?_; rintro e w2 ⟨rfl, hB⟩; obtain ⟨hb0, hb1, hb2⟩ := hbox _ (Below.trans (by repeat (first | exact Below.refl _ _ | refine Below.drew ?_)) (hB.mono (by simp)))))
  all_goals go_wp2
  all_goals go_ret2
  all_goals refine ⟨rfl, Below.trans (b := w.alloc _) ((Below.refl _ _).alloc (Nat.le_refl _) _) (Below.trans (by repeat (first | exact Below.refl _ _ | refine Below.drew ?_)) (hB.mono (by simp)))⟩

set_option maxHeartbeats 2000000 in
theorem valueOf_int (n : Int) (s : ByteArray) (w : World) :
    Calls Try.prog 87 #[.agg #[.int .i64 1, .int .i64 n, .string s]] w fun e w' => e = .returned (.tuple #[V.enc (.int n), .bool (V.rng (.int n) && eqV 1 n ⟨#[]⟩ 1 n s)]) ∧ Below w.heap.size w w' := by
  have hO : ∀ W, Calls Try.prog 89 #[.iface 102 (.int .i64 n)] W fun e w' => e = .returned (.agg #[.int .i64 1, .int .i64 n, .string ⟨#[]⟩]) ∧ Below W.heap.size W w' := fun W => valOf_any (.int n) W
  have hbox := fun W' h => box_cells w W' 1 n s h
  have qe := eqVal_run 1 n ⟨#[]⟩ 1 n s
  cases hr : V.rng (.int n)
  case true =>
    have hI : ∀ W, Calls Try.prog 88 #[.iface 102 (.int .i64 n)] W fun e w' => e = .returned (.bool true) ∧ w' = W := fun W => by have := inRange_any (.int n) W; rw [hr] at this; exact this
    clear hr
    go_enter Try.func87, Try.ntmps87
    go_wp2_with (fail)
    go_region_with (first | (go_at_call 88; refine (hI _).mono ?_; rintro e _ ⟨rfl, rfl⟩) | (go_at_call 89; refine (hO _).mono ?_; rintro e w2 ⟨rfl, hB⟩; obtain ⟨hb0, hb1, hb2⟩ := hbox _ (Below.trans (by repeat (first | exact Below.refl _ _ | refine Below.drew ?_)) (hB.mono (by simp)))))
    all_goals go_wp2
    all_goals go_ret2
    all_goals refine ⟨rfl, Below.trans (b := w.alloc _) ((Below.refl _ _).alloc (Nat.le_refl _) _) (Below.trans (by repeat (first | exact Below.refl _ _ | refine Below.drew ?_)) (hB.mono (by simp)))⟩
  case false =>
    have hI : ∀ W, Calls Try.prog 88 #[.iface 102 (.int .i64 n)] W fun e w' => e = .returned (.bool false) ∧ w' = W := fun W => by have := inRange_any (.int n) W; rw [hr] at this; exact this
    clear hr
    go_enter Try.func87, Try.ntmps87
    go_wp2_with (fail)
    go_quiet (first | (go_at_call 88; exact Calls.quiet_of_same (hI _)))
    all_goals go_wp2
    all_goals go_ret2
    all_goals refine ⟨rfl, ?_⟩
    exact Below.trans ((Below.refl _ _).alloc (Nat.le_refl _) _) ⟨rfl, rfl, rfl, Nat.le_refl _, fun _ _ => rfl⟩

set_option maxHeartbeats 2000000 in
theorem valueOf_num (n : Int) (s : ByteArray) (w : World) :
    Calls Try.prog 87 #[.agg #[.int .i64 2, .int .i64 n, .string s]] w fun e w' => e = .returned (.tuple #[V.enc (.num n), .bool (V.rng (.num n) && eqV 2 n ⟨#[]⟩ 2 n s)]) ∧ Below w.heap.size w w' := by
  have hO : ∀ W, Calls Try.prog 89 #[.iface 103 (.int .i64 n)] W fun e w' => e = .returned (.agg #[.int .i64 2, .int .i64 n, .string ⟨#[]⟩]) ∧ Below W.heap.size W w' := fun W => valOf_any (.num n) W
  have hbox := fun W' h => box_cells w W' 2 n s h
  have qe := eqVal_run 2 n ⟨#[]⟩ 2 n s
  cases hr : V.rng (.num n)
  case true =>
    have hI : ∀ W, Calls Try.prog 88 #[.iface 103 (.int .i64 n)] W fun e w' => e = .returned (.bool true) ∧ w' = W := fun W => by have := inRange_any (.num n) W; rw [hr] at this; exact this
    clear hr
    go_enter Try.func87, Try.ntmps87
    go_wp2_with (fail)
    go_region_with (first | (go_at_call 88; refine (hI _).mono ?_; rintro e _ ⟨rfl, rfl⟩) | (go_at_call 89; refine (hO _).mono ?_; rintro e w2 ⟨rfl, hB⟩; obtain ⟨hb0, hb1, hb2⟩ := hbox _ (Below.trans (by repeat (first | exact Below.refl _ _ | refine Below.drew ?_)) (hB.mono (by simp)))))
    all_goals go_wp2
    all_goals go_ret2
    all_goals refine ⟨rfl, Below.trans (b := w.alloc _) ((Below.refl _ _).alloc (Nat.le_refl _) _) (Below.trans (by repeat (first | exact Below.refl _ _ | refine Below.drew ?_)) (hB.mono (by simp)))⟩
  case false =>
    have hI : ∀ W, Calls Try.prog 88 #[.iface 103 (.int .i64 n)] W fun e w' => e = .returned (.bool false) ∧ w' = W := fun W => by have := inRange_any (.num n) W; rw [hr] at this; exact this
    clear hr
    go_enter Try.func87, Try.ntmps87
    go_wp2_with (fail)
    go_quiet (first | (go_at_call 88; exact Calls.quiet_of_same (hI _)))
    all_goals go_wp2
    all_goals go_ret2
    all_goals refine ⟨rfl, ?_⟩
    exact Below.trans ((Below.refl _ _).alloc (Nat.le_refl _) _) ⟨rfl, rfl, rfl, Nat.le_refl _, fun _ _ => rfl⟩

set_option maxHeartbeats 2000000 in
theorem valueOf_text (n : Int) (s : ByteArray) (w : World) :
    Calls Try.prog 87 #[.agg #[.int .i64 3, .int .i64 n, .string s]] w fun e w' => e = .returned (.tuple #[V.enc (.text s), .bool (V.rng (.text s) && eqV 3 0 s 3 n s)]) ∧ Below w.heap.size w w' := by
  have hO : ∀ W, Calls Try.prog 89 #[.iface 104 (.string s)] W fun e w' => e = .returned (.agg #[.int .i64 3, .int .i64 0, .string s]) ∧ Below W.heap.size W w' := fun W => valOf_any (.text s) W
  have hbox := fun W' h => box_cells w W' 3 n s h
  have qe := eqVal_run 3 0 s 3 n s
  cases hr : V.rng (.text s)
  case true =>
    have hI : ∀ W, Calls Try.prog 88 #[.iface 104 (.string s)] W fun e w' => e = .returned (.bool true) ∧ w' = W := fun W => by have := inRange_any (.text s) W; rw [hr] at this; exact this
    clear hr
    go_enter Try.func87, Try.ntmps87
    go_wp2_with (fail)
    go_region_with (first | (go_at_call 88; refine (hI _).mono ?_; rintro e _ ⟨rfl, rfl⟩) | (go_at_call 89; refine (hO _).mono ?_; rintro e w2 ⟨rfl, hB⟩; obtain ⟨hb0, hb1, hb2⟩ := hbox _ (Below.trans (by repeat (first | exact Below.refl _ _ | refine Below.drew ?_)) (hB.mono (by simp)))))
    all_goals go_wp2
    all_goals go_ret2
    all_goals refine ⟨rfl, Below.trans (b := w.alloc _) ((Below.refl _ _).alloc (Nat.le_refl _) _) (Below.trans (by repeat (first | exact Below.refl _ _ | refine Below.drew ?_)) (hB.mono (by simp)))⟩
  case false =>
    have hI : ∀ W, Calls Try.prog 88 #[.iface 104 (.string s)] W fun e w' => e = .returned (.bool false) ∧ w' = W := fun W => by have := inRange_any (.text s) W; rw [hr] at this; exact this
    clear hr
    go_enter Try.func87, Try.ntmps87
    go_wp2_with (fail)
    go_quiet (first | (go_at_call 88; exact Calls.quiet_of_same (hI _)))
    all_goals go_wp2
    all_goals go_ret2
    all_goals refine ⟨rfl, ?_⟩
    exact Below.trans ((Below.refl _ _).alloc (Nat.le_refl _) _) ⟨rfl, rfl, rfl, Nat.le_refl _, fun _ _ => rfl⟩

def vOpt : Option V → Value
  | none => .nilIface
  | some v => v.enc

set_option maxHeartbeats 2000000 in
theorem valueOf_any (k n : Int) (s : ByteArray) (w : World) :
    Calls Try.prog 87 #[valAgg k n s] w fun e w' => e = .returned (.tuple #[vOpt (ofFields k n s), .bool (okF k n s)]) ∧ Below w.heap.size w w' := by
  unfold valAgg
  by_cases k0 : k = 0
  · subst k0
    have e : ofFields 0 n s = some .null := rfl
    rw [okF_at e, e]
    exact valueOf_null n s w
  by_cases k1 : k = 1
  · subst k1
    have e : ofFields 1 n s = some (.int n) := rfl
    rw [okF_at e, e]
    exact valueOf_int n s w
  by_cases k2 : k = 2
  · subst k2
    have e : ofFields 2 n s = some (.num n) := rfl
    rw [okF_at e, e]
    exact valueOf_num n s w
  by_cases k3 : k = 3
  · subst k3
    have e : ofFields 3 n s = some (.text s) := rfl
    rw [okF_at e, e]
    exact valueOf_text n s w
  by_cases k4 : k = 4
  · subst k4
    have e : ofFields 4 n s = some (.bool (n != 0)) := rfl
    rw [okF_at e, e]
    by_cases hz : n = 0
    · subst hz
      exact valueOf_bool_false s w
    · have hz : (n != 0) = true := by simpa using hz
      rw [hz]
      exact valueOf_bool_true n s hz w
  have e : ofFields k n s = none := by simp [ofFields, k0, k1, k2, k3, k4]
  have e2 : okF k n s = false := by unfold okF; rw [e]
  rw [e2, e]
  have q0 : (k == 0) = false := by simpa using k0
  have q1 : (k == 1) = false := by simpa using k1
  have q2 : (k == 2) = false := by simpa using k2
  have q3 : (k == 3) = false := by simpa using k3
  have q4 : (k == 4) = false := by simpa using k4
  clear e e2 k0 k1 k2 k3 k4
  go_enter Try.func87, Try.ntmps87
  go_wp2
  go_ret2
  refine ⟨rfl, ?_⟩
  repeat (first | exact Below.refl _ _ | refine Below.alloc ?_ (by simp <;> omega) _ | refine Below.drew ?_)
end Go.Proofs.Ytbcgonfihdpjnab

/-
  The program's ValOk comes to the plain one.
-/
namespace Go.Proofs.Ytbcgonfihdpjnab
open Go.RowKit
set_option maxRecDepth 4000

set_option maxHeartbeats 1000000 in
theorem valOk_any (k n : Int) (s : ByteArray) (w : World) :
    Calls Try.prog 65 #[.agg #[.int .i64 k, .int .i64 n, .string s]] w fun e w' => e = .returned (.bool (okF k n s)) ∧ Below w.heap.size w w' := by
  go_enter Try.func65, Try.ntmps65
  go_wp2_with fail
  refine (valueOf_any k n s _).mono ?_
  rintro e w1 ⟨rfl, hB⟩
  go_wp2
  go_ret
  exact ⟨rfl, ((Below.refl _ _).alloc (Nat.le_refl _) _).trans (hB.mono (by simp))⟩

end Go.Proofs.Ytbcgonfihdpjnab

/-
  The program's PartOk and Fits. (Nothing fits a part of no type, even where it may not be nothing: as the program has it.)
-/
namespace Go.Proofs.Ytbcgonfihdpjnab
open Go.RowKit
set_option maxRecDepth 4000

set_option maxHeartbeats 1000000 in
theorem implPartOk_any (c t : Int) (nul d : Bool) (w : World) :
    Calls Try.prog 38 #[.agg #[.int .i64 c, .int .i64 t, .bool nul, .bool d]] w fun e w' => e = .returned (.bool (partOk c t)) ∧ Below w.heap.size w w' := by
  have hb0 : ∀ o, Below w.heap.size w (w.alloc o) := fun o => (Below.refl _ _).alloc (Nat.le_refl _) _
  by_cases h1 : 0 ≤ c
  · by_cases h2 : c ≤ 9
    · by_cases h3 : 1 ≤ t
      · by_cases h4 : t ≤ 4
        · have e : partOk c t = true := by unfold partOk; simp [h1, h2, h3, h4]
          rw [e]
          go_enter Try.func38, Try.ntmps38
          go_wp2
          go_ret
          exact ⟨rfl, hb0 _⟩
        · have e : partOk c t = false := by unfold partOk; simp [h1, h2, h3, h4]
          rw [e]
          go_enter Try.func38, Try.ntmps38
          go_wp2
          go_ret
          exact ⟨rfl, hb0 _⟩
      · have e : partOk c t = false := by unfold partOk; simp [h1, h2, h3]
        rw [e]
        go_enter Try.func38, Try.ntmps38
        go_wp2
        go_ret
        exact ⟨rfl, hb0 _⟩
    · have e : partOk c t = false := by unfold partOk; simp [h1, h2]
      rw [e]
      go_enter Try.func38, Try.ntmps38
      go_wp2
      go_ret
      exact ⟨rfl, hb0 _⟩
  · have e : partOk c t = false := by unfold partOk; simp [h1]
    rw [e]
    go_enter Try.func38, Try.ntmps38
    go_wp2
    go_ret
    exact ⟨rfl, hb0 _⟩

/-- What fits, as the program has it. -/
def fitsI (t : Int) (nul : Bool) (k n : Int) (s : ByteArray) : Bool := okF k n s && (decide (k = t) || (decide (k = 0) && nul))
theorem fitsI_ok {t : Int} {nul : Bool} {k n : Int} {s : ByteArray} (ht : 1 ≤ t) : fitsI t nul k n s = fitsP t nul k n s := by
  unfold fitsI fitsP
  by_cases hk : k = t
  · simp [hk, show t ≠ 0 by omega]
  · simp [hk]

set_option maxHeartbeats 1000000 in
theorem implFits_any (c t : Int) (nul d : Bool) (k n : Int) (s : ByteArray) (w : World) :
    Calls Try.prog 39 #[.agg #[.int .i64 c, .int .i64 t, .bool nul, .bool d], .agg #[.int .i64 k, .int .i64 n, .string s]] w fun e w' => e = .returned (.bool (fitsI t nul k n s)) ∧ Below w.heap.size w w' := by
  have hP := (PBox.new w c t nul d).below ((Below.refl _ _).alloc (Nat.le_refl _) (.cells #[.int .i64 k, .int .i64 n, .string s] 39))
  have hV := Box.new (w.alloc (.cells #[.int .i64 c, .int .i64 t, .bool nul, .bool d] 37)) k n s
  rw [show (w.alloc (.cells #[.int .i64 c, .int .i64 t, .bool nul, .bool d] 37)).heap.size = w.heap.size + 1 by simp] at hV
  have hb0 : Below w.heap.size w ((w.alloc (.cells #[.int .i64 c, .int .i64 t, .bool nul, .bool d] 37)).alloc (.cells #[.int .i64 k, .int .i64 n, .string s] 39)) := ((Below.refl _ _).alloc (Nat.le_refl _) _).alloc (by simp) _
  cases ho : okF k n s with
  | false =>
    have hr : fitsI t nul k n s = false := by unfold fitsI; rw [ho]; rfl
    rw [hr]
    clear hr
    go_enter Try.func39, Try.ntmps39
    go_wp2_with fail
    refine (valOk_any k n s _).mono ?_
    rw [ho]
    rintro e w1 ⟨rfl, hb1⟩
    have hB : Below w.heap.size w w1 := hb0.trans (hb1.mono hb0.size)
    clear hP hV hb0 hb1 ho
    go_wp2
    go_ret
    exact ⟨rfl, hB⟩
  | true =>
    by_cases kt : k = t
    · subst kt
      have hr : fitsI k nul k n s = true := by unfold fitsI; rw [ho]; simp
      rw [hr]
      have q4 : (k == k) = true := by simp
      clear hr
      go_enter Try.func39, Try.ntmps39
      go_wp2_with fail
      refine (valOk_any k n s _).mono ?_
      rw [ho]
      rintro e w1 ⟨rfl, hb1⟩
      obtain ⟨p0, p1, p2, p3⟩ := (hP.below hb1).cells
      obtain ⟨v0, v1, v2⟩ := (hV.below hb1).cells
      have hB : Below w.heap.size w w1 := hb0.trans (hb1.mono hb0.size)
      clear hP hV hb0 hb1 ho
      go_wp2
      go_ret
      exact ⟨rfl, hB⟩
    · have q4 : (k == t) = false := by simpa using kt
      by_cases k0 : k = 0
      · have hr : fitsI t nul k n s = nul := by unfold fitsI; rw [ho]; simp [k0, show ¬ (0 : Int) = t by omega]
        rw [hr]
        have q2 : (k == 0) = true := by simpa using k0
        clear hr k0 kt
        go_enter Try.func39, Try.ntmps39
        go_wp2_with fail
        refine (valOk_any k n s _).mono ?_
        rw [ho]
        rintro e w1 ⟨rfl, hb1⟩
        obtain ⟨p0, p1, p2, p3⟩ := (hP.below hb1).cells
        obtain ⟨v0, v1, v2⟩ := (hV.below hb1).cells
        have hB : Below w.heap.size w w1 := hb0.trans (hb1.mono hb0.size)
        clear hP hV hb0 hb1 ho
        go_wp2
        go_ret
        exact ⟨rfl, hB⟩
      · have hr : fitsI t nul k n s = false := by unfold fitsI; rw [ho]; simp [kt, k0]
        rw [hr]
        have q2 : (k == 0) = false := by simpa using k0
        clear hr k0 kt
        go_enter Try.func39, Try.ntmps39
        go_wp2_with fail
        refine (valOk_any k n s _).mono ?_
        rw [ho]
        rintro e w1 ⟨rfl, hb1⟩
        obtain ⟨p0, p1, p2, p3⟩ := (hP.below hb1).cells
        obtain ⟨v0, v1, v2⟩ := (hV.below hb1).cells
        have hB : Below w.heap.size w w1 := hb0.trans (hb1.mono hb0.size)
        clear hP hV hb0 hb1 ho
        go_wp2
        go_ret
        exact ⟨rfl, hB⟩
end Go.Proofs.Ytbcgonfihdpjnab

/-
  The program's table of forms: a type's writer and reader.
-/
namespace Go.Proofs.Ytbcgonfihdpjnab
open Go.RowKit
set_option maxRecDepth 4000

theorem form_put (F G : Nat) (W : World) : (Instr.field 75 (.agg #[.func (.func F) #[] #[], .func (.func G) #[] #[]]) 0).run Try.prog W = .ok (.func (.func F) #[] #[]) W := by kernel_rfl
theorem form_get (F G : Nat) (W : World) : (Instr.field 75 (.agg #[.func (.func F) #[] #[], .func (.func G) #[] #[]]) 1).run Try.prog W = .ok (.func (.func G) #[] #[]) W := by kernel_rfl
theorem store_nil (W : World) (a : Addr) (m : Mode) : (store a .nilFunc m).run Try.prog W = stored Try.prog W a .nilFunc m := run_store Try.prog W a _ m rfl
theorem store_fn (W : World) (a : Addr) (m : Mode) (n : Nat) : (store a (.func (.func n) #[] #[]) m).run Try.prog W = stored Try.prog W a (.func (.func n) #[] #[]) m := run_store Try.prog W a _ m rfl
def fv (n : Nat) : Value := .func (.func n) #[] #[]
/-- The form of a type: its writer and its reader. -/
def formV (t : Int) : Value × Value := if t = 1 then (fv 79, fv 80) else if t = 2 then (fv 81, fv 82) else if t = 3 then (fv 83, fv 84) else (fv 85, fv 86)

set_option maxHeartbeats 1000000 in
theorem formOf_Int (w : World) :
    Calls Try.prog 63 #[.int .i64 1] w fun e w' => e = .returned (.agg #[.func (.func 79) #[] #[], .func (.func 80) #[] #[]]) ∧ Below w.heap.size w w' := by
  have hR := World.rowIs_alloc (w.alloc (.cells #[.nilFunc, .nilFunc] 75)) #[.nilFunc, .nilFunc, .nilFunc, .nilFunc, .nilFunc, .nilFunc, .nilFunc, .nilFunc, .nilFunc, .nilFunc] 95 (fun _ => .nilFunc) (fun j hj => by match j, hj with | 0, _ => rfl | 1, _ => rfl | 2, _ => rfl | 3, _ => rfl | 4, _ => rfl | 5, _ => rfl | 6, _ => rfl | 7, _ => rfl | 8, _ => rfl | 9, _ => rfl)
  rw [show (w.alloc (.cells #[.nilFunc, .nilFunc] 75)).heap.size = w.heap.size + 1 by simp] at hR
  have hS := (World.rowIs_alloc w #[.nilFunc, .nilFunc] 75 (fun _ => .nilFunc) (fun j hj => by match j, hj with | 0, _ => rfl | 1, _ => rfl)).of_block (w' := ((w.alloc (.cells #[.nilFunc, .nilFunc] 75)).alloc (.cells #[.nilFunc, .nilFunc, .nilFunc, .nilFunc, .nilFunc, .nilFunc, .nilFunc, .nilFunc, .nilFunc, .nilFunc] 95))) (Below.heap_alloc _ _ _ (by simp))
  have hB : Below w.heap.size w ((w.alloc (.cells #[.nilFunc, .nilFunc] 75)).alloc (.cells #[.nilFunc, .nilFunc, .nilFunc, .nilFunc, .nilFunc, .nilFunc, .nilFunc, .nilFunc, .nilFunc, .nilFunc] 95)) := ((Below.refl _ _).alloc (Nat.le_refl _) _).alloc (by simp) _
  obtain ⟨W, hW⟩ : ∃ W, Hid (W = ((w.alloc (.cells #[.nilFunc, .nilFunc] 75)).alloc (.cells #[.nilFunc, .nilFunc, .nilFunc, .nilFunc, .nilFunc, .nilFunc, .nilFunc, .nilFunc, .nilFunc, .nilFunc] 95))) := ⟨_, rfl⟩
  rw [← hW.out] at hR hS hB
  have c0 : W.cell? ⟨w.heap.size + 1, 0, none⟩ = some .nilFunc := hR.cell (i := 0) (by decide)
  have r0 : W.frozen? ⟨w.heap.size + 1, 0, none⟩ = false := World.rowIs.frozen hR 0
  have c1 : W.cell? ⟨w.heap.size + 1, 1, none⟩ = some .nilFunc := hR.cell (i := 1) (by decide)
  have r1 : W.frozen? ⟨w.heap.size + 1, 1, none⟩ = false := World.rowIs.frozen hR 1
  have c2 : W.cell? ⟨w.heap.size + 1, 2, none⟩ = some .nilFunc := hR.cell (i := 2) (by decide)
  have r2 : W.frozen? ⟨w.heap.size + 1, 2, none⟩ = false := World.rowIs.frozen hR 2
  have c3 : W.cell? ⟨w.heap.size + 1, 3, none⟩ = some .nilFunc := hR.cell (i := 3) (by decide)
  have r3 : W.frozen? ⟨w.heap.size + 1, 3, none⟩ = false := World.rowIs.frozen hR 3
  have c4 : W.cell? ⟨w.heap.size + 1, 4, none⟩ = some .nilFunc := hR.cell (i := 4) (by decide)
  have r4 : W.frozen? ⟨w.heap.size + 1, 4, none⟩ = false := World.rowIs.frozen hR 4
  have c5 : W.cell? ⟨w.heap.size + 1, 5, none⟩ = some .nilFunc := hR.cell (i := 5) (by decide)
  have r5 : W.frozen? ⟨w.heap.size + 1, 5, none⟩ = false := World.rowIs.frozen hR 5
  have c6 : W.cell? ⟨w.heap.size + 1, 6, none⟩ = some .nilFunc := hR.cell (i := 6) (by decide)
  have r6 : W.frozen? ⟨w.heap.size + 1, 6, none⟩ = false := World.rowIs.frozen hR 6
  have c7 : W.cell? ⟨w.heap.size + 1, 7, none⟩ = some .nilFunc := hR.cell (i := 7) (by decide)
  have r7 : W.frozen? ⟨w.heap.size + 1, 7, none⟩ = false := World.rowIs.frozen hR 7
  have c8 : W.cell? ⟨w.heap.size + 1, 8, none⟩ = some .nilFunc := hR.cell (i := 8) (by decide)
  have r8 : W.frozen? ⟨w.heap.size + 1, 8, none⟩ = false := World.rowIs.frozen hR 8
  have c9 : W.cell? ⟨w.heap.size + 1, 9, none⟩ = some .nilFunc := hR.cell (i := 9) (by decide)
  have r9 : W.frozen? ⟨w.heap.size + 1, 9, none⟩ = false := World.rowIs.frozen hR 9
  have d0 : W.cell? ⟨w.heap.size, 0, none⟩ = some .nilFunc := hS.cell (i := 0) (by decide)
  have s0 : W.frozen? ⟨w.heap.size, 0, none⟩ = false := World.rowIs.frozen hS 0
  have d1 : W.cell? ⟨w.heap.size, 1, none⟩ = some .nilFunc := hS.cell (i := 1) (by decide)
  have s1 : W.frozen? ⟨w.heap.size, 1, none⟩ = false := World.rowIs.frozen hS 1
  have HB : Hid (Below w.heap.size w ((((((((((((W.setCell ⟨w.heap.size + 1, 0, none⟩ (.nilFunc)).setCell ⟨w.heap.size + 1, 1, none⟩ (.nilFunc)).setCell ⟨w.heap.size + 1, 2, none⟩ (.func (.func 79) #[] #[])).setCell ⟨w.heap.size + 1, 3, none⟩ (.func (.func 80) #[] #[])).setCell ⟨w.heap.size + 1, 4, none⟩ (.func (.func 81) #[] #[])).setCell ⟨w.heap.size + 1, 5, none⟩ (.func (.func 82) #[] #[])).setCell ⟨w.heap.size + 1, 6, none⟩ (.func (.func 83) #[] #[])).setCell ⟨w.heap.size + 1, 7, none⟩ (.func (.func 84) #[] #[])).setCell ⟨w.heap.size + 1, 8, none⟩ (.func (.func 85) #[] #[])).setCell ⟨w.heap.size + 1, 9, none⟩ (.func (.func 86) #[] #[])).setCell ⟨w.heap.size, 0, none⟩ (.func (.func 79) #[] #[])).setCell ⟨w.heap.size, 1, none⟩ (.func (.func 80) #[] #[]))) := (((((((((((hB.setCell (Nat.le_succ _) _).setCell (Nat.le_succ _) _).setCell (Nat.le_succ _) _).setCell (Nat.le_succ _) _).setCell (Nat.le_succ _) _).setCell (Nat.le_succ _) _).setCell (Nat.le_succ _) _).setCell (Nat.le_succ _) _).setCell (Nat.le_succ _) _).setCell (Nat.le_succ _) _).setCell (Nat.le_refl _) _).setCell (Nat.le_refl _) _
  clear hR hS
  have sn := store_nil
  have sf := store_fn
  go_enter Try.func63, Try.ntmps63
  go_wp2_with (rw [← hW.out])
  exact bodyPost_ret (v := .agg #[.func (.func 79) #[] #[], .func (.func 80) #[] #[]]) (by simp [results, Try.results63, go_sem, d0, d1]) rfl ⟨rfl, HB.out⟩
set_option maxHeartbeats 1000000 in
theorem formOf_Num (w : World) :
    Calls Try.prog 63 #[.int .i64 2] w fun e w' => e = .returned (.agg #[.func (.func 81) #[] #[], .func (.func 82) #[] #[]]) ∧ Below w.heap.size w w' := by
  have hR := World.rowIs_alloc (w.alloc (.cells #[.nilFunc, .nilFunc] 75)) #[.nilFunc, .nilFunc, .nilFunc, .nilFunc, .nilFunc, .nilFunc, .nilFunc, .nilFunc, .nilFunc, .nilFunc] 95 (fun _ => .nilFunc) (fun j hj => by match j, hj with | 0, _ => rfl | 1, _ => rfl | 2, _ => rfl | 3, _ => rfl | 4, _ => rfl | 5, _ => rfl | 6, _ => rfl | 7, _ => rfl | 8, _ => rfl | 9, _ => rfl)
  rw [show (w.alloc (.cells #[.nilFunc, .nilFunc] 75)).heap.size = w.heap.size + 1 by simp] at hR
  have hS := (World.rowIs_alloc w #[.nilFunc, .nilFunc] 75 (fun _ => .nilFunc) (fun j hj => by match j, hj with | 0, _ => rfl | 1, _ => rfl)).of_block (w' := ((w.alloc (.cells #[.nilFunc, .nilFunc] 75)).alloc (.cells #[.nilFunc, .nilFunc, .nilFunc, .nilFunc, .nilFunc, .nilFunc, .nilFunc, .nilFunc, .nilFunc, .nilFunc] 95))) (Below.heap_alloc _ _ _ (by simp))
  have hB : Below w.heap.size w ((w.alloc (.cells #[.nilFunc, .nilFunc] 75)).alloc (.cells #[.nilFunc, .nilFunc, .nilFunc, .nilFunc, .nilFunc, .nilFunc, .nilFunc, .nilFunc, .nilFunc, .nilFunc] 95)) := ((Below.refl _ _).alloc (Nat.le_refl _) _).alloc (by simp) _
  obtain ⟨W, hW⟩ : ∃ W, Hid (W = ((w.alloc (.cells #[.nilFunc, .nilFunc] 75)).alloc (.cells #[.nilFunc, .nilFunc, .nilFunc, .nilFunc, .nilFunc, .nilFunc, .nilFunc, .nilFunc, .nilFunc, .nilFunc] 95))) := ⟨_, rfl⟩
  rw [← hW.out] at hR hS hB
  have c0 : W.cell? ⟨w.heap.size + 1, 0, none⟩ = some .nilFunc := hR.cell (i := 0) (by decide)
  have r0 : W.frozen? ⟨w.heap.size + 1, 0, none⟩ = false := World.rowIs.frozen hR 0
  have c1 : W.cell? ⟨w.heap.size + 1, 1, none⟩ = some .nilFunc := hR.cell (i := 1) (by decide)
  have r1 : W.frozen? ⟨w.heap.size + 1, 1, none⟩ = false := World.rowIs.frozen hR 1
  have c2 : W.cell? ⟨w.heap.size + 1, 2, none⟩ = some .nilFunc := hR.cell (i := 2) (by decide)
  have r2 : W.frozen? ⟨w.heap.size + 1, 2, none⟩ = false := World.rowIs.frozen hR 2
  have c3 : W.cell? ⟨w.heap.size + 1, 3, none⟩ = some .nilFunc := hR.cell (i := 3) (by decide)
  have r3 : W.frozen? ⟨w.heap.size + 1, 3, none⟩ = false := World.rowIs.frozen hR 3
  have c4 : W.cell? ⟨w.heap.size + 1, 4, none⟩ = some .nilFunc := hR.cell (i := 4) (by decide)
  have r4 : W.frozen? ⟨w.heap.size + 1, 4, none⟩ = false := World.rowIs.frozen hR 4
  have c5 : W.cell? ⟨w.heap.size + 1, 5, none⟩ = some .nilFunc := hR.cell (i := 5) (by decide)
  have r5 : W.frozen? ⟨w.heap.size + 1, 5, none⟩ = false := World.rowIs.frozen hR 5
  have c6 : W.cell? ⟨w.heap.size + 1, 6, none⟩ = some .nilFunc := hR.cell (i := 6) (by decide)
  have r6 : W.frozen? ⟨w.heap.size + 1, 6, none⟩ = false := World.rowIs.frozen hR 6
  have c7 : W.cell? ⟨w.heap.size + 1, 7, none⟩ = some .nilFunc := hR.cell (i := 7) (by decide)
  have r7 : W.frozen? ⟨w.heap.size + 1, 7, none⟩ = false := World.rowIs.frozen hR 7
  have c8 : W.cell? ⟨w.heap.size + 1, 8, none⟩ = some .nilFunc := hR.cell (i := 8) (by decide)
  have r8 : W.frozen? ⟨w.heap.size + 1, 8, none⟩ = false := World.rowIs.frozen hR 8
  have c9 : W.cell? ⟨w.heap.size + 1, 9, none⟩ = some .nilFunc := hR.cell (i := 9) (by decide)
  have r9 : W.frozen? ⟨w.heap.size + 1, 9, none⟩ = false := World.rowIs.frozen hR 9
  have d0 : W.cell? ⟨w.heap.size, 0, none⟩ = some .nilFunc := hS.cell (i := 0) (by decide)
  have s0 : W.frozen? ⟨w.heap.size, 0, none⟩ = false := World.rowIs.frozen hS 0
  have d1 : W.cell? ⟨w.heap.size, 1, none⟩ = some .nilFunc := hS.cell (i := 1) (by decide)
  have s1 : W.frozen? ⟨w.heap.size, 1, none⟩ = false := World.rowIs.frozen hS 1
  have HB : Hid (Below w.heap.size w ((((((((((((W.setCell ⟨w.heap.size + 1, 0, none⟩ (.nilFunc)).setCell ⟨w.heap.size + 1, 1, none⟩ (.nilFunc)).setCell ⟨w.heap.size + 1, 2, none⟩ (.func (.func 79) #[] #[])).setCell ⟨w.heap.size + 1, 3, none⟩ (.func (.func 80) #[] #[])).setCell ⟨w.heap.size + 1, 4, none⟩ (.func (.func 81) #[] #[])).setCell ⟨w.heap.size + 1, 5, none⟩ (.func (.func 82) #[] #[])).setCell ⟨w.heap.size + 1, 6, none⟩ (.func (.func 83) #[] #[])).setCell ⟨w.heap.size + 1, 7, none⟩ (.func (.func 84) #[] #[])).setCell ⟨w.heap.size + 1, 8, none⟩ (.func (.func 85) #[] #[])).setCell ⟨w.heap.size + 1, 9, none⟩ (.func (.func 86) #[] #[])).setCell ⟨w.heap.size, 0, none⟩ (.func (.func 81) #[] #[])).setCell ⟨w.heap.size, 1, none⟩ (.func (.func 82) #[] #[]))) := (((((((((((hB.setCell (Nat.le_succ _) _).setCell (Nat.le_succ _) _).setCell (Nat.le_succ _) _).setCell (Nat.le_succ _) _).setCell (Nat.le_succ _) _).setCell (Nat.le_succ _) _).setCell (Nat.le_succ _) _).setCell (Nat.le_succ _) _).setCell (Nat.le_succ _) _).setCell (Nat.le_succ _) _).setCell (Nat.le_refl _) _).setCell (Nat.le_refl _) _
  clear hR hS
  have sn := store_nil
  have sf := store_fn
  go_enter Try.func63, Try.ntmps63
  go_wp2_with (rw [← hW.out])
  exact bodyPost_ret (v := .agg #[.func (.func 81) #[] #[], .func (.func 82) #[] #[]]) (by simp [results, Try.results63, go_sem, d0, d1]) rfl ⟨rfl, HB.out⟩
set_option maxHeartbeats 1000000 in
theorem formOf_Text (w : World) :
    Calls Try.prog 63 #[.int .i64 3] w fun e w' => e = .returned (.agg #[.func (.func 83) #[] #[], .func (.func 84) #[] #[]]) ∧ Below w.heap.size w w' := by
  have hR := World.rowIs_alloc (w.alloc (.cells #[.nilFunc, .nilFunc] 75)) #[.nilFunc, .nilFunc, .nilFunc, .nilFunc, .nilFunc, .nilFunc, .nilFunc, .nilFunc, .nilFunc, .nilFunc] 95 (fun _ => .nilFunc) (fun j hj => by match j, hj with | 0, _ => rfl | 1, _ => rfl | 2, _ => rfl | 3, _ => rfl | 4, _ => rfl | 5, _ => rfl | 6, _ => rfl | 7, _ => rfl | 8, _ => rfl | 9, _ => rfl)
  rw [show (w.alloc (.cells #[.nilFunc, .nilFunc] 75)).heap.size = w.heap.size + 1 by simp] at hR
  have hS := (World.rowIs_alloc w #[.nilFunc, .nilFunc] 75 (fun _ => .nilFunc) (fun j hj => by match j, hj with | 0, _ => rfl | 1, _ => rfl)).of_block (w' := ((w.alloc (.cells #[.nilFunc, .nilFunc] 75)).alloc (.cells #[.nilFunc, .nilFunc, .nilFunc, .nilFunc, .nilFunc, .nilFunc, .nilFunc, .nilFunc, .nilFunc, .nilFunc] 95))) (Below.heap_alloc _ _ _ (by simp))
  have hB : Below w.heap.size w ((w.alloc (.cells #[.nilFunc, .nilFunc] 75)).alloc (.cells #[.nilFunc, .nilFunc, .nilFunc, .nilFunc, .nilFunc, .nilFunc, .nilFunc, .nilFunc, .nilFunc, .nilFunc] 95)) := ((Below.refl _ _).alloc (Nat.le_refl _) _).alloc (by simp) _
  obtain ⟨W, hW⟩ : ∃ W, Hid (W = ((w.alloc (.cells #[.nilFunc, .nilFunc] 75)).alloc (.cells #[.nilFunc, .nilFunc, .nilFunc, .nilFunc, .nilFunc, .nilFunc, .nilFunc, .nilFunc, .nilFunc, .nilFunc] 95))) := ⟨_, rfl⟩
  rw [← hW.out] at hR hS hB
  have c0 : W.cell? ⟨w.heap.size + 1, 0, none⟩ = some .nilFunc := hR.cell (i := 0) (by decide)
  have r0 : W.frozen? ⟨w.heap.size + 1, 0, none⟩ = false := World.rowIs.frozen hR 0
  have c1 : W.cell? ⟨w.heap.size + 1, 1, none⟩ = some .nilFunc := hR.cell (i := 1) (by decide)
  have r1 : W.frozen? ⟨w.heap.size + 1, 1, none⟩ = false := World.rowIs.frozen hR 1
  have c2 : W.cell? ⟨w.heap.size + 1, 2, none⟩ = some .nilFunc := hR.cell (i := 2) (by decide)
  have r2 : W.frozen? ⟨w.heap.size + 1, 2, none⟩ = false := World.rowIs.frozen hR 2
  have c3 : W.cell? ⟨w.heap.size + 1, 3, none⟩ = some .nilFunc := hR.cell (i := 3) (by decide)
  have r3 : W.frozen? ⟨w.heap.size + 1, 3, none⟩ = false := World.rowIs.frozen hR 3
  have c4 : W.cell? ⟨w.heap.size + 1, 4, none⟩ = some .nilFunc := hR.cell (i := 4) (by decide)
  have r4 : W.frozen? ⟨w.heap.size + 1, 4, none⟩ = false := World.rowIs.frozen hR 4
  have c5 : W.cell? ⟨w.heap.size + 1, 5, none⟩ = some .nilFunc := hR.cell (i := 5) (by decide)
  have r5 : W.frozen? ⟨w.heap.size + 1, 5, none⟩ = false := World.rowIs.frozen hR 5
  have c6 : W.cell? ⟨w.heap.size + 1, 6, none⟩ = some .nilFunc := hR.cell (i := 6) (by decide)
  have r6 : W.frozen? ⟨w.heap.size + 1, 6, none⟩ = false := World.rowIs.frozen hR 6
  have c7 : W.cell? ⟨w.heap.size + 1, 7, none⟩ = some .nilFunc := hR.cell (i := 7) (by decide)
  have r7 : W.frozen? ⟨w.heap.size + 1, 7, none⟩ = false := World.rowIs.frozen hR 7
  have c8 : W.cell? ⟨w.heap.size + 1, 8, none⟩ = some .nilFunc := hR.cell (i := 8) (by decide)
  have r8 : W.frozen? ⟨w.heap.size + 1, 8, none⟩ = false := World.rowIs.frozen hR 8
  have c9 : W.cell? ⟨w.heap.size + 1, 9, none⟩ = some .nilFunc := hR.cell (i := 9) (by decide)
  have r9 : W.frozen? ⟨w.heap.size + 1, 9, none⟩ = false := World.rowIs.frozen hR 9
  have d0 : W.cell? ⟨w.heap.size, 0, none⟩ = some .nilFunc := hS.cell (i := 0) (by decide)
  have s0 : W.frozen? ⟨w.heap.size, 0, none⟩ = false := World.rowIs.frozen hS 0
  have d1 : W.cell? ⟨w.heap.size, 1, none⟩ = some .nilFunc := hS.cell (i := 1) (by decide)
  have s1 : W.frozen? ⟨w.heap.size, 1, none⟩ = false := World.rowIs.frozen hS 1
  have HB : Hid (Below w.heap.size w ((((((((((((W.setCell ⟨w.heap.size + 1, 0, none⟩ (.nilFunc)).setCell ⟨w.heap.size + 1, 1, none⟩ (.nilFunc)).setCell ⟨w.heap.size + 1, 2, none⟩ (.func (.func 79) #[] #[])).setCell ⟨w.heap.size + 1, 3, none⟩ (.func (.func 80) #[] #[])).setCell ⟨w.heap.size + 1, 4, none⟩ (.func (.func 81) #[] #[])).setCell ⟨w.heap.size + 1, 5, none⟩ (.func (.func 82) #[] #[])).setCell ⟨w.heap.size + 1, 6, none⟩ (.func (.func 83) #[] #[])).setCell ⟨w.heap.size + 1, 7, none⟩ (.func (.func 84) #[] #[])).setCell ⟨w.heap.size + 1, 8, none⟩ (.func (.func 85) #[] #[])).setCell ⟨w.heap.size + 1, 9, none⟩ (.func (.func 86) #[] #[])).setCell ⟨w.heap.size, 0, none⟩ (.func (.func 83) #[] #[])).setCell ⟨w.heap.size, 1, none⟩ (.func (.func 84) #[] #[]))) := (((((((((((hB.setCell (Nat.le_succ _) _).setCell (Nat.le_succ _) _).setCell (Nat.le_succ _) _).setCell (Nat.le_succ _) _).setCell (Nat.le_succ _) _).setCell (Nat.le_succ _) _).setCell (Nat.le_succ _) _).setCell (Nat.le_succ _) _).setCell (Nat.le_succ _) _).setCell (Nat.le_succ _) _).setCell (Nat.le_refl _) _).setCell (Nat.le_refl _) _
  clear hR hS
  have sn := store_nil
  have sf := store_fn
  go_enter Try.func63, Try.ntmps63
  go_wp2_with (rw [← hW.out])
  exact bodyPost_ret (v := .agg #[.func (.func 83) #[] #[], .func (.func 84) #[] #[]]) (by simp [results, Try.results63, go_sem, d0, d1]) rfl ⟨rfl, HB.out⟩
set_option maxHeartbeats 1000000 in
theorem formOf_Bool (w : World) :
    Calls Try.prog 63 #[.int .i64 4] w fun e w' => e = .returned (.agg #[.func (.func 85) #[] #[], .func (.func 86) #[] #[]]) ∧ Below w.heap.size w w' := by
  have hR := World.rowIs_alloc (w.alloc (.cells #[.nilFunc, .nilFunc] 75)) #[.nilFunc, .nilFunc, .nilFunc, .nilFunc, .nilFunc, .nilFunc, .nilFunc, .nilFunc, .nilFunc, .nilFunc] 95 (fun _ => .nilFunc) (fun j hj => by match j, hj with | 0, _ => rfl | 1, _ => rfl | 2, _ => rfl | 3, _ => rfl | 4, _ => rfl | 5, _ => rfl | 6, _ => rfl | 7, _ => rfl | 8, _ => rfl | 9, _ => rfl)
  rw [show (w.alloc (.cells #[.nilFunc, .nilFunc] 75)).heap.size = w.heap.size + 1 by simp] at hR
  have hS := (World.rowIs_alloc w #[.nilFunc, .nilFunc] 75 (fun _ => .nilFunc) (fun j hj => by match j, hj with | 0, _ => rfl | 1, _ => rfl)).of_block (w' := ((w.alloc (.cells #[.nilFunc, .nilFunc] 75)).alloc (.cells #[.nilFunc, .nilFunc, .nilFunc, .nilFunc, .nilFunc, .nilFunc, .nilFunc, .nilFunc, .nilFunc, .nilFunc] 95))) (Below.heap_alloc _ _ _ (by simp))
  have hB : Below w.heap.size w ((w.alloc (.cells #[.nilFunc, .nilFunc] 75)).alloc (.cells #[.nilFunc, .nilFunc, .nilFunc, .nilFunc, .nilFunc, .nilFunc, .nilFunc, .nilFunc, .nilFunc, .nilFunc] 95)) := ((Below.refl _ _).alloc (Nat.le_refl _) _).alloc (by simp) _
  obtain ⟨W, hW⟩ : ∃ W, Hid (W = ((w.alloc (.cells #[.nilFunc, .nilFunc] 75)).alloc (.cells #[.nilFunc, .nilFunc, .nilFunc, .nilFunc, .nilFunc, .nilFunc, .nilFunc, .nilFunc, .nilFunc, .nilFunc] 95))) := ⟨_, rfl⟩
  rw [← hW.out] at hR hS hB
  have c0 : W.cell? ⟨w.heap.size + 1, 0, none⟩ = some .nilFunc := hR.cell (i := 0) (by decide)
  have r0 : W.frozen? ⟨w.heap.size + 1, 0, none⟩ = false := World.rowIs.frozen hR 0
  have c1 : W.cell? ⟨w.heap.size + 1, 1, none⟩ = some .nilFunc := hR.cell (i := 1) (by decide)
  have r1 : W.frozen? ⟨w.heap.size + 1, 1, none⟩ = false := World.rowIs.frozen hR 1
  have c2 : W.cell? ⟨w.heap.size + 1, 2, none⟩ = some .nilFunc := hR.cell (i := 2) (by decide)
  have r2 : W.frozen? ⟨w.heap.size + 1, 2, none⟩ = false := World.rowIs.frozen hR 2
  have c3 : W.cell? ⟨w.heap.size + 1, 3, none⟩ = some .nilFunc := hR.cell (i := 3) (by decide)
  have r3 : W.frozen? ⟨w.heap.size + 1, 3, none⟩ = false := World.rowIs.frozen hR 3
  have c4 : W.cell? ⟨w.heap.size + 1, 4, none⟩ = some .nilFunc := hR.cell (i := 4) (by decide)
  have r4 : W.frozen? ⟨w.heap.size + 1, 4, none⟩ = false := World.rowIs.frozen hR 4
  have c5 : W.cell? ⟨w.heap.size + 1, 5, none⟩ = some .nilFunc := hR.cell (i := 5) (by decide)
  have r5 : W.frozen? ⟨w.heap.size + 1, 5, none⟩ = false := World.rowIs.frozen hR 5
  have c6 : W.cell? ⟨w.heap.size + 1, 6, none⟩ = some .nilFunc := hR.cell (i := 6) (by decide)
  have r6 : W.frozen? ⟨w.heap.size + 1, 6, none⟩ = false := World.rowIs.frozen hR 6
  have c7 : W.cell? ⟨w.heap.size + 1, 7, none⟩ = some .nilFunc := hR.cell (i := 7) (by decide)
  have r7 : W.frozen? ⟨w.heap.size + 1, 7, none⟩ = false := World.rowIs.frozen hR 7
  have c8 : W.cell? ⟨w.heap.size + 1, 8, none⟩ = some .nilFunc := hR.cell (i := 8) (by decide)
  have r8 : W.frozen? ⟨w.heap.size + 1, 8, none⟩ = false := World.rowIs.frozen hR 8
  have c9 : W.cell? ⟨w.heap.size + 1, 9, none⟩ = some .nilFunc := hR.cell (i := 9) (by decide)
  have r9 : W.frozen? ⟨w.heap.size + 1, 9, none⟩ = false := World.rowIs.frozen hR 9
  have d0 : W.cell? ⟨w.heap.size, 0, none⟩ = some .nilFunc := hS.cell (i := 0) (by decide)
  have s0 : W.frozen? ⟨w.heap.size, 0, none⟩ = false := World.rowIs.frozen hS 0
  have d1 : W.cell? ⟨w.heap.size, 1, none⟩ = some .nilFunc := hS.cell (i := 1) (by decide)
  have s1 : W.frozen? ⟨w.heap.size, 1, none⟩ = false := World.rowIs.frozen hS 1
  have HB : Hid (Below w.heap.size w ((((((((((((W.setCell ⟨w.heap.size + 1, 0, none⟩ (.nilFunc)).setCell ⟨w.heap.size + 1, 1, none⟩ (.nilFunc)).setCell ⟨w.heap.size + 1, 2, none⟩ (.func (.func 79) #[] #[])).setCell ⟨w.heap.size + 1, 3, none⟩ (.func (.func 80) #[] #[])).setCell ⟨w.heap.size + 1, 4, none⟩ (.func (.func 81) #[] #[])).setCell ⟨w.heap.size + 1, 5, none⟩ (.func (.func 82) #[] #[])).setCell ⟨w.heap.size + 1, 6, none⟩ (.func (.func 83) #[] #[])).setCell ⟨w.heap.size + 1, 7, none⟩ (.func (.func 84) #[] #[])).setCell ⟨w.heap.size + 1, 8, none⟩ (.func (.func 85) #[] #[])).setCell ⟨w.heap.size + 1, 9, none⟩ (.func (.func 86) #[] #[])).setCell ⟨w.heap.size, 0, none⟩ (.func (.func 85) #[] #[])).setCell ⟨w.heap.size, 1, none⟩ (.func (.func 86) #[] #[]))) := (((((((((((hB.setCell (Nat.le_succ _) _).setCell (Nat.le_succ _) _).setCell (Nat.le_succ _) _).setCell (Nat.le_succ _) _).setCell (Nat.le_succ _) _).setCell (Nat.le_succ _) _).setCell (Nat.le_succ _) _).setCell (Nat.le_succ _) _).setCell (Nat.le_succ _) _).setCell (Nat.le_succ _) _).setCell (Nat.le_refl _) _).setCell (Nat.le_refl _) _
  clear hR hS
  have sn := store_nil
  have sf := store_fn
  go_enter Try.func63, Try.ntmps63
  go_wp2_with (rw [← hW.out])
  exact bodyPost_ret (v := .agg #[.func (.func 85) #[] #[], .func (.func 86) #[] #[]]) (by simp [results, Try.results63, go_sem, d0, d1]) rfl ⟨rfl, HB.out⟩

theorem formOf_any (t : Int) (w : World) (h : 1 ≤ t ∧ t ≤ 4) :
    Calls Try.prog 63 #[.int .i64 t] w fun e w' => e = .returned (.agg #[(formV t).1, (formV t).2]) ∧ Below w.heap.size w w' := by
  obtain rfl | rfl | rfl | rfl : t = 1 ∨ t = 2 ∨ t = 3 ∨ t = 4 := by omega
  · exact formOf_Int w
  · exact formOf_Num w
  · exact formOf_Text w
  · exact formOf_Bool w
end Go.Proofs.Ytbcgonfihdpjnab

/-
  The program's setDigits: it fills all of the room with the number's last bytes, the highest first, and writes nothing else.
-/
namespace Go.Proofs.Ytbcgonfihdpjnab
open Go.RowKit
set_option maxRecDepth 4000

/-- From d on the room holds what it is to hold. -/
def fillF (off k d : Nat) (n : Int) (f : Nat → Int) (i : Nat) : Int := if off + d ≤ i ∧ i < off + k then be k n (i - off) else f i
theorem fillF_step (off k d : Nat) (n : Int) (f : Nat → Int) (hd : d + 1 ≤ k) (i : Nat) : (if i = off + d then n / 256 ^ (k - (d + 1)) % 256 else fillF off k (d + 1) n f i) = fillF off k d n f i := by
  unfold fillF
  by_cases e : i = off + d
  · subst e
    rw [if_pos rfl, if_pos (by omega)]
    unfold be dg
    rw [show k - 1 - (off + d - off) = k - (d + 1) by omega]
  · rw [if_neg e]
    by_cases h : off + (d + 1) ≤ i ∧ i < off + k
    · rw [if_pos h, if_pos (by omega)]
    · rw [if_neg h, if_neg (by omega)]

/-- Of the room all behind d is filled. -/
structure Filled (t : TypeId) (w wr : World) (g off k m : Nat) (n : Int) (f : Nat → Int) (d : Nat) : Prop where
  row : Row t wr g m (fillF off k d n f)
  only : Only g w wr
theorem filled_step {t : TypeId} {w wr : World} {g off k m : Nat} {n : Int} {f : Nat → Int} {d : Nat} (h : Filled t w wr g off k m n f (d + 1)) (hd : d + 1 ≤ k) : Filled t w (wr.setCell ⟨g, off + d, none⟩ (.int .u8 (n / 256 ^ (k - (d + 1)) % 256))) g off k m n f d :=
  ⟨(h.row.set (off + d) _).congr (fun i _ => fillF_step off k d n f hd i), h.only.setCell _⟩

set_option maxHeartbeats 1000000 in
theorem setDigits_any (t : TypeId) (g off k c m : Nat) (f : Nat → Int) (n : Int) (w : World) (hr : Row t w g m f) (hm : off + k ≤ m) (hk : k ≤ 1000) (hn0 : 0 ≤ n) :
    Calls Try.prog 52 #[.slice (some ⟨g, off, none⟩) k c, .int .i64 n] w fun e w' => e = .returned (.tuple #[]) ∧ Row t w' g m (fillF off k 0 n f) ∧ Only g w w' := by
  have hF0 : Filled t w w g off k m n f k := ⟨hr.congr (fun i _ => by unfold fillF; rw [if_neg (by omega)]), Only.refl _ _⟩
  clear hr
  go_enter Try.func52, Try.ntmps52
  go_wp2
  go_loopg [1, 4] k (fun q a i wr => ∃ d : Nat, d ≤ k ∧ q = d ∧ a = .int .i64 (n / 256 ^ (k - d)) ∧ i = .int .i64 ((d : Int) - 1) ∧ Filled t w wr g off k m n f d)
  case atStart => exact ⟨k, Nat.le_refl _, rfl, by simp, rfl, hF0⟩
  case round =>
    obtain ⟨d, hd, hq, rfl, rfl, hF⟩ := hrel
    clear hF0
    have ha0 : 0 ≤ n / 256 ^ (k - d) := Int.ediv_nonneg hn0 (Int.le_of_lt (Int.pow_pos (by decide)))
    have ha1 : n / 256 ^ (k - d) ≤ n := Int.ediv_le_self _ hn0
    rcases d with _ | d
    · have hR := hF.row
      have hO := hF.only
      clear hF
      go_wp2
      go_end0
      exact ⟨rfl, hR, hO⟩
    · have HS : Hid _ := filled_step hF hd
      have hc := hF.row.cell (i := off + d) (by omega)
      have hf := hF.row.frozen (off + d)
      have HN : Hid (n / 256 ^ (k - (d + 1)) / 256 = n / 256 ^ (k - d)) := by show _ = _; rw [div_pow_succ, show k - (d + 1) + 1 = k - d by omega]
      clear hF
      generalize n / 256 ^ (k - (d + 1)) = a at *
      go_wp2
      go_roundg d
      case measure => omega
      case rel => exact ⟨d, by omega, rfl, by rw [← HN.out], by go_num, HS.out⟩
end Go.Proofs.Ytbcgonfihdpjnab

/-
  The program's PutFix: what was there, and behind it the number's four bytes, in memory of its own.
-/
namespace Go.Proofs.Ytbcgonfihdpjnab
open Go.RowKit
set_option maxRecDepth 4000

theorem Row.zero4 (w : World) (t : TypeId) : Row t (w.alloc (.cells #[.int .u8 0, .int .u8 0, .int .u8 0, .int .u8 0] t)) w.heap.size 4 (fun _ => 0) :=
  Row.ofIs (World.rowIs_alloc w #[.int .u8 0, .int .u8 0, .int .u8 0, .int .u8 0] t (fun _ => .int .u8 0) (fun j hj => by match j, hj with | 0, _ => rfl | 1, _ => rfl | 2, _ => rfl | 3, _ => rfl))

theorem fix_row {t : TypeId} {w : World} {g : Nat} {y : Int} {f : Nat → Int} (x : Int) (h : Row t w g 4 (fillF 0 4 0 y f)) (hy : y = clampF x + 2147483648) : Row t w g 4 (fun i => (fixL x).getD i 0) := by
  subst hy
  refine h.congr (fun i hi => ?_)
  unfold fillF
  rw [if_pos (by omega), Nat.sub_zero]
  unfold fixL
  rw [lof_get 4 _ i hi]

set_option maxHeartbeats 1000000 in
theorem putFix_impl (b off n cap : Nat) (f : Nat → Int) (x : Int) (w : World) (hv : View w (some ⟨b, off, none⟩) n cap f) (hn : n ≤ 70368744170000) (hx0 : -9223372036854775808 ≤ x) (hx1 : x ≤ 9223372036854775807) :
    Calls Try.prog 24 #[.slice (some ⟨b, off, none⟩) n cap, .int .i64 x] w fun e w' => ∃ g c, e = .returned (.slice (some ⟨g, 0, none⟩) (n + 4) c) ∧ w.heap.size ≤ g ∧ n + 4 ≤ c ∧ Row 5 w' g (n + 4) (fun i => (lof n f ++ fixL x).getD i 0) ∧ Below w.heap.size w w' := by
  have hb0 : ∀ o, Below w.heap.size w (w.alloc o) := fun o => (Below.refl _ _).alloc (Nat.le_refl _) _
  go_enter Try.func24, Try.ntmps24
  go_wp2_with fail
  all_goals
    refine (setDigits_any _ w.heap.size 0 4 4 4 (fun _ => 0) _ _ (Row.zero4 w _) (by omega) (by omega) (by omega)).mono ?_
    rintro e w1 ⟨rfl, hr1, ho1⟩
    replace hr1 := fix_row x hr1 (by unfold clampF; split <;> (try split) <;> omega)
    have hb1 : Below w.heap.size w w1 := (hb0 _).trans (ho1.below (Nat.le_refl _))
    have hV1 := hr1.view (cap := 4) (Nat.le_refl _) (fun i hi => fixL_byte x _ (getD_in (by rw [fixL_len]; exact hi)))
    clear hb0 ho1 hr1
    go_wp2_with fail
    refine (putBytes_any b off n cap f (some ⟨w.heap.size, 0, none⟩) 4 4 _ w1 (hv.below hb1) hV1 (fun h => by cases h) (by omega)).mono ?_
    rintro e w2 ⟨rfl, hown, hb2⟩
    have hE : lof 4 (fun i => (fixL x).getD i 0) = fixL x := by have := lof_self (fixL x); rw [fixL_len] at this; exact this
    rw [hE] at hown
    have HR : Hid _ := row_of_owned hown
    replace hb2 := hb1.trans (hb2.mono hb1.size)
    have hs := hb1.size
    clear hown hE hV1 hb1
    go_wp2
    go_ret
    exact ⟨_, _, rfl, hs, Nat.le_refl _, HR.out, hb2⟩
end Go.Proofs.Ytbcgonfihdpjnab

