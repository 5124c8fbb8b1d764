/-
  The model's soundness of a value comes to the plain one.
-/
import Derived.Test.YtbcgonfihdpjnaqValPlain
import Derived.Test.YtbcgonfihdpjnaqValEq
namespace Go.Proofs.Ytbcgonfihdpjnaq
open Go.RowKit
set_option maxRecDepth 4000

/-- What the model asks, kind by kind. -/
theorem okF_spec0 (n : Int) (s : ByteArray) : okF 0 n s = (decide (n = 0) && decide (s = noBytes)) := by
  simp [okF, ofFields, V.rng, V.k, V.n, V.s, eq_comm]
theorem okF_spec1 (n : Int) (s : ByteArray) : okF 1 n s = (decide (-2147483648 ≤ n) && decide (n ≤ 2147483647) && decide (s = noBytes)) := by
  simp [okF, ofFields, V.rng, V.k, V.n, V.s, eq_comm]
theorem okF_spec2 (n : Int) (s : ByteArray) : okF 2 n s = (decide (-1000000000000000 ≤ n) && decide (n ≤ 1000000000000000) && decide (s = noBytes)) := by
  simp [okF, ofFields, V.rng, V.k, V.n, V.s, eq_comm]
theorem okF_spec3 (n : Int) (s : ByteArray) : okF 3 n s = (decide (s.size ≤ 30) && decide (n = 0)) := by
  simp [okF, ofFields, V.rng, V.k, V.n, V.s, eq_comm]
theorem okF_spec4 (n : Int) (s : ByteArray) : okF 4 n s = (decide (0 ≤ n) && decide (n ≤ 1) && decide (s = noBytes)) := by
  by_cases h0 : n = 0
  · subst h0; simp [okF, ofFields, V.rng, V.k, V.n, V.s, eq_comm]
  · by_cases h1 : n = 1
    · subst h1; simp [okF, ofFields, V.rng, V.k, V.n, V.s, eq_comm]
    · have e : (decide (0 ≤ n) && decide (n ≤ 1)) = false := by simp; omega
      rw [e]
      simp [okF, ofFields, V.rng, V.k, V.n, V.s, h0]
      intro h; omega
theorem okF_specX {k : Int} (n : Int) (s : ByteArray) (h0 : k ≠ 0) (h1 : k ≠ 1) (h2 : k ≠ 2) (h3 : k ≠ 3) (h4 : k ≠ 4) : okF k n s = false := by
  simp [okF, ofFields, h0, h1, h2, h3, h4]

theorem isE (s : ByteArray) : s.toList.isEmpty = decide (s = noBytes) := by
  rw [ByteArray.toList_eq]
  obtain ⟨⟨l⟩⟩ := s
  cases l with
  | nil => simp [noBytes]
  | cons c r => simp [noBytes]

set_option maxHeartbeats 1000000 in
theorem specValOk_any (k n : Int) (s : ByteArray) (w : World) (hs : s.size ≤ 281474976710656) :
    Calls Try.prog 40 #[valAgg k n s] w fun e w' => e = .returned (.bool (okF k n s)) ∧ Below w.heap.size w w' := by
  unfold valAgg
  by_cases k0 : k = 0
  · subst k0
    rw [okF_spec0]
    go_enter Try.func40, Try.ntmps40
    go_wp2
    all_goals
      go_ret
      refine ⟨congrArg (fun b => Ending.returned (.bool b)) ?_, (Below.refl _ _).alloc (Nat.le_refl _) _⟩
      first | rfl | (simp [isE, *] <;> omega) | (simp_all [isE] <;> omega)
  by_cases k1 : k = 1
  · subst k1
    rw [okF_spec1]
    go_enter Try.func40, Try.ntmps40
    go_wp2
    all_goals
      go_ret
      refine ⟨congrArg (fun b => Ending.returned (.bool b)) ?_, (Below.refl _ _).alloc (Nat.le_refl _) _⟩
      first | rfl | (simp [isE, *] <;> omega) | (simp_all [isE] <;> omega)
  by_cases k2 : k = 2
  · subst k2
    rw [okF_spec2]
    go_enter Try.func40, Try.ntmps40
    go_wp2
    all_goals
      go_ret
      refine ⟨congrArg (fun b => Ending.returned (.bool b)) ?_, (Below.refl _ _).alloc (Nat.le_refl _) _⟩
      first | rfl | (simp [isE, *] <;> omega) | (simp_all [isE] <;> omega)
  by_cases k3 : k = 3
  · subst k3
    rw [okF_spec3]
    go_enter Try.func40, Try.ntmps40
    go_wp2
    all_goals
      go_ret
      refine ⟨congrArg (fun b => Ending.returned (.bool b)) ?_, (Below.refl _ _).alloc (Nat.le_refl _) _⟩
      (rw [Bool.eq_iff_iff]; simp; omega)
  by_cases k4 : k = 4
  · subst k4
    rw [okF_spec4]
    go_enter Try.func40, Try.ntmps40
    go_wp2
    all_goals
      go_ret
      refine ⟨congrArg (fun b => Ending.returned (.bool b)) ?_, (Below.refl _ _).alloc (Nat.le_refl _) _⟩
      first | rfl | (simp [isE, *] <;> omega) | (simp_all [isE] <;> omega)
  rw [okF_specX n s k0 k1 k2 k3 k4]
  have q0 : (k == 0) = false := by simpa using k0
  have q1 : (k == 1) = false := by simpa using k1
  have q2 : (k == 2) = false := by simpa using k2
  have q3 : (k == 3) = false := by simpa using k3
  have q4 : (k == 4) = false := by simpa using k4
  clear k0 k1 k2 k3 k4
  go_enter Try.func40, Try.ntmps40
  go_wp2
  go_ret
  exact ⟨rfl, (Below.refl _ _).alloc (Nat.le_refl _) _⟩
end Go.Proofs.Ytbcgonfihdpjnaq
