/-
  The model's ValText comes to the plain text.
-/
import Derived.Test.YthjddmhcppdleaaDoorTextSpec
import Derived.Test.YthjddmhcppdleaaDoorBoxed
import Derived.Lib.ItoaLen
namespace Go.Proofs.YthjddmhcppdleaaDoor
open Go.RowKit Go.Lib

theorem textF_bad {k n : Int} {s : ByteArray} (h : okF k n s = false) : textF k n s = [] := by
  unfold textF
  rw [h]
  rfl

theorem plain_none : plainL noBytes.data.toList = true := rfl

set_option maxHeartbeats 1000000 in
theorem specValText_bad (k n : Int) (s : ByteArray) (w : World) (hs : s.size ≤ 281474976710656) (hb : okF k n s = false) :
    Calls Tryd.prog 11 #[.agg #[.int .i64 k, .int .i64 n, .string s]] w fun e w' => e = .returned (.string ⟨#[]⟩) ∧ Below w.heap.size w w' := by
  have hok : ∀ W, Calls Tryd.prog 12 #[.agg #[.int .i64 k, .int .i64 n, .string s]] W fun e w' => e = .returned (.bool false) ∧ Below W.heap.size W w' := fun W => by have := specValOk_any k n s W hs; rw [hb] at this; exact this
  go_enter Tryd.func11, Tryd.ntmps11
  go_wp2_with fail
  refine (hok _).mono ?_
  rintro e w1 ⟨rfl, hB1⟩
  have hC1 := hB1.mono (show w.heap.size + 1 ≤ _ by simp)
  have hD1 : Below w.heap.size w w1 := ((Below.refl _ _).alloc (Nat.le_refl _) _).trans (hB1.mono (by simp))
  obtain ⟨c0, c1, c2⟩ := boxed hC1 (by omega)
  have hE : Hid (Below w.heap.size w w1) := hD1
  clear hB1 hC1 hD1
  go_wp2
  go_ret
  exact ⟨rfl, hE.out⟩

set_option maxHeartbeats 1000000 in
theorem specValText_null (w : World) :
    Calls Tryd.prog 11 #[.agg #[.int .i64 0, .int .i64 0, .string ⟨#[]⟩]] w fun e w' => e = .returned (.string ⟨#[110, 117, 108, 108]⟩) ∧ Below w.heap.size w w' := by
  have hg : okF 0 0 ⟨#[]⟩ = true := by decide
  have hok : ∀ W, Calls Tryd.prog 12 #[.agg #[.int .i64 0, .int .i64 0, .string ⟨#[]⟩]] W fun e w' => e = .returned (.bool true) ∧ Below W.heap.size W w' := fun W => by have := specValOk_any 0 0 ⟨#[]⟩ W (by first | decide | omega); rw [hg] at this; exact this
  have hpl : ∀ W, Calls Tryd.prog 23 #[.string ⟨#[]⟩] W fun e w' => e = .returned (.bool true) ∧ w' = W := fun W => by have := l2Plain_any ⟨#[]⟩ W (by first | decide | omega); exact this
  go_enter Tryd.func11, Tryd.ntmps11
  go_wp2_with fail
  refine (hok _).mono ?_
  rintro e w1 ⟨rfl, hB1⟩
  have hC1 := hB1.mono (show w.heap.size + 1 ≤ _ by simp)
  have hD1 : Below w.heap.size w w1 := ((Below.refl _ _).alloc (Nat.le_refl _) _).trans (hB1.mono (by simp))
  obtain ⟨c0, c1, c2⟩ := boxed hC1 (by omega)
  clear hB1 hC1
  go_wp2_with (first | (go_at_call 23; refine (hpl _).mono ?_; rintro e _ ⟨rfl, rfl⟩))
  go_ret
  exact ⟨rfl, hD1⟩

set_option maxHeartbeats 1000000 in
theorem specValText_int (n : Int) (w : World) (hg : okF 1 n ⟨#[]⟩ = true) (h0 : -2147483648 ≤ n) (h1 : n ≤ 2147483647) :
    Calls Tryd.prog 11 #[.agg #[.int .i64 1, .int .i64 n, .string ⟨#[]⟩]] w fun e w' => e = .returned (.string (bytesOf (105 :: itoa n))) ∧ Below w.heap.size w w' := by
  have hok : ∀ W, Calls Tryd.prog 12 #[.agg #[.int .i64 1, .int .i64 n, .string ⟨#[]⟩]] W fun e w' => e = .returned (.bool true) ∧ Below W.heap.size W w' := fun W => by have := specValOk_any 1 n ⟨#[]⟩ W (by first | decide | omega); rw [hg] at this; exact this
  have hpl : ∀ W, Calls Tryd.prog 23 #[.string ⟨#[]⟩] W fun e w' => e = .returned (.bool true) ∧ w' = W := fun W => by have := l2Plain_any ⟨#[]⟩ W (by first | decide | omega); exact this
  have hI := fun W => l2Num_any n W (by omega) (by omega)
  have hlen : (bytesOf (itoa n)).size ≤ 21 := by rw [bytes_size]; exact itoa_length_le n (by omega) (by omega)
  have e2 : bytesOf (105 :: itoa n) = ⟨#[105]⟩ ++ bytesOf (itoa n) := bytes_app [105] _
  rw [e2]
  clear e2 hg h0 h1
  generalize bytesOf (itoa n) = r at *
  go_enter Tryd.func11, Tryd.ntmps11
  go_wp2_with fail
  refine (hok _).mono ?_
  rintro e w1 ⟨rfl, hB1⟩
  have hC1 := hB1.mono (show w.heap.size + 1 ≤ _ by simp)
  have hD1 : Below w.heap.size w w1 := ((Below.refl _ _).alloc (Nat.le_refl _) _).trans (hB1.mono (by simp))
  obtain ⟨c0, c1, c2⟩ := boxed hC1 (by omega)
  clear hB1 hC1
  go_wp2_with (first | (go_at_call 23; refine (hpl _).mono ?_; rintro e _ ⟨rfl, rfl⟩) | (go_at_call 24; refine (hI _).mono ?_; rintro e w2 ⟨rfl, hB2⟩))
  go_ret
  exact ⟨rfl, hD1.trans (hB2.mono hD1.size)⟩

set_option maxHeartbeats 1000000 in
theorem specValText_num (n : Int) (w : World) (hg : okF 2 n ⟨#[]⟩ = true) (h0 : -1000000000000000 ≤ n) (h1 : n ≤ 1000000000000000) :
    Calls Tryd.prog 11 #[.agg #[.int .i64 2, .int .i64 n, .string ⟨#[]⟩]] w fun e w' => e = .returned (.string (bytesOf (110 :: itoa n))) ∧ Below w.heap.size w w' := by
  have hok : ∀ W, Calls Tryd.prog 12 #[.agg #[.int .i64 2, .int .i64 n, .string ⟨#[]⟩]] W fun e w' => e = .returned (.bool true) ∧ Below W.heap.size W w' := fun W => by have := specValOk_any 2 n ⟨#[]⟩ W (by first | decide | omega); rw [hg] at this; exact this
  have hpl : ∀ W, Calls Tryd.prog 23 #[.string ⟨#[]⟩] W fun e w' => e = .returned (.bool true) ∧ w' = W := fun W => by have := l2Plain_any ⟨#[]⟩ W (by first | decide | omega); exact this
  have hI := fun W => l2Num_any n W (by omega) (by omega)
  have hlen : (bytesOf (itoa n)).size ≤ 21 := by rw [bytes_size]; exact itoa_length_le n (by omega) (by omega)
  have e2 : bytesOf (110 :: itoa n) = ⟨#[110]⟩ ++ bytesOf (itoa n) := bytes_app [110] _
  rw [e2]
  clear e2 hg h0 h1
  generalize bytesOf (itoa n) = r at *
  go_enter Tryd.func11, Tryd.ntmps11
  go_wp2_with fail
  refine (hok _).mono ?_
  rintro e w1 ⟨rfl, hB1⟩
  have hC1 := hB1.mono (show w.heap.size + 1 ≤ _ by simp)
  have hD1 : Below w.heap.size w w1 := ((Below.refl _ _).alloc (Nat.le_refl _) _).trans (hB1.mono (by simp))
  obtain ⟨c0, c1, c2⟩ := boxed hC1 (by omega)
  clear hB1 hC1
  go_wp2_with (first | (go_at_call 23; refine (hpl _).mono ?_; rintro e _ ⟨rfl, rfl⟩) | (go_at_call 24; refine (hI _).mono ?_; rintro e w2 ⟨rfl, hB2⟩))
  go_ret
  exact ⟨rfl, hD1.trans (hB2.mono hD1.size)⟩

set_option maxHeartbeats 1000000 in
theorem specValText_text (s : ByteArray) (w : World) (hg : okF 3 0 s = true) (hs : s.size ≤ 30) (hp : plainL s.data.toList = true) :
    Calls Tryd.prog 11 #[.agg #[.int .i64 3, .int .i64 0, .string s]] w fun e w' => e = .returned (.string (bytesOf (39 :: (s.data.toList ++ [39])))) ∧ Below w.heap.size w w' := by
  have hok : ∀ W, Calls Tryd.prog 12 #[.agg #[.int .i64 3, .int .i64 0, .string s]] W fun e w' => e = .returned (.bool true) ∧ Below W.heap.size W w' := fun W => by have := specValOk_any 3 0 s W (by first | decide | omega); rw [hg] at this; exact this
  have hpl : ∀ W, Calls Tryd.prog 23 #[.string s] W fun e w' => e = .returned (.bool true) ∧ w' = W := fun W => by have := l2Plain_any s W (by first | decide | omega); rw [hp] at this; exact this
  have e2 : bytesOf (39 :: (s.data.toList ++ [39])) = (⟨#[39]⟩ ++ s) ++ ⟨#[39]⟩ := ByteArray.ext (by simp [bytesOf])
  rw [e2]
  clear e2
  clear hg hp
  go_enter Tryd.func11, Tryd.ntmps11
  go_wp2_with fail
  refine (hok _).mono ?_
  rintro e w1 ⟨rfl, hB1⟩
  have hC1 := hB1.mono (show w.heap.size + 1 ≤ _ by simp)
  have hD1 : Below w.heap.size w w1 := ((Below.refl _ _).alloc (Nat.le_refl _) _).trans (hB1.mono (by simp))
  obtain ⟨c0, c1, c2⟩ := boxed hC1 (by omega)
  clear hB1 hC1
  go_wp2_with (first | (go_at_call 23; refine (hpl _).mono ?_; rintro e _ ⟨rfl, rfl⟩))
  go_ret
  exact ⟨rfl, hD1⟩

set_option maxHeartbeats 1000000 in
theorem specValText_dark (s : ByteArray) (w : World) (hg : okF 3 0 s = true) (hs : s.size ≤ 30) (hp : plainL s.data.toList = false) :
    Calls Tryd.prog 11 #[.agg #[.int .i64 3, .int .i64 0, .string s]] w fun e w' => e = .returned (.string ⟨#[]⟩) ∧ Below w.heap.size w w' := by
  have hok : ∀ W, Calls Tryd.prog 12 #[.agg #[.int .i64 3, .int .i64 0, .string s]] W fun e w' => e = .returned (.bool true) ∧ Below W.heap.size W w' := fun W => by have := specValOk_any 3 0 s W (by first | decide | omega); rw [hg] at this; exact this
  have hpl : ∀ W, Calls Tryd.prog 23 #[.string s] W fun e w' => e = .returned (.bool false) ∧ w' = W := fun W => by have := l2Plain_any s W (by first | decide | omega); rw [hp] at this; exact this
  clear hg hp
  go_enter Tryd.func11, Tryd.ntmps11
  go_wp2_with fail
  refine (hok _).mono ?_
  rintro e w1 ⟨rfl, hB1⟩
  have hC1 := hB1.mono (show w.heap.size + 1 ≤ _ by simp)
  have hD1 : Below w.heap.size w w1 := ((Below.refl _ _).alloc (Nat.le_refl _) _).trans (hB1.mono (by simp))
  obtain ⟨c0, c1, c2⟩ := boxed hC1 (by omega)
  clear hB1 hC1
  go_wp2_with (first | (go_at_call 23; refine (hpl _).mono ?_; rintro e _ ⟨rfl, rfl⟩))
  go_ret
  exact ⟨rfl, hD1⟩

set_option maxHeartbeats 1000000 in
theorem specValText_bool1 (w : World) :
    Calls Tryd.prog 11 #[.agg #[.int .i64 4, .int .i64 1, .string ⟨#[]⟩]] w fun e w' => e = .returned (.string ⟨#[121, 101, 115]⟩) ∧ Below w.heap.size w w' := by
  have hg : okF 4 1 ⟨#[]⟩ = true := by decide
  have hok : ∀ W, Calls Tryd.prog 12 #[.agg #[.int .i64 4, .int .i64 1, .string ⟨#[]⟩]] W fun e w' => e = .returned (.bool true) ∧ Below W.heap.size W w' := fun W => by have := specValOk_any 4 1 ⟨#[]⟩ W (by first | decide | omega); rw [hg] at this; exact this
  have hpl : ∀ W, Calls Tryd.prog 23 #[.string ⟨#[]⟩] W fun e w' => e = .returned (.bool true) ∧ w' = W := fun W => by have := l2Plain_any ⟨#[]⟩ W (by first | decide | omega); exact this
  go_enter Tryd.func11, Tryd.ntmps11
  go_wp2_with fail
  refine (hok _).mono ?_
  rintro e w1 ⟨rfl, hB1⟩
  have hC1 := hB1.mono (show w.heap.size + 1 ≤ _ by simp)
  have hD1 : Below w.heap.size w w1 := ((Below.refl _ _).alloc (Nat.le_refl _) _).trans (hB1.mono (by simp))
  obtain ⟨c0, c1, c2⟩ := boxed hC1 (by omega)
  clear hB1 hC1
  go_wp2_with (first | (go_at_call 23; refine (hpl _).mono ?_; rintro e _ ⟨rfl, rfl⟩))
  go_ret
  exact ⟨rfl, hD1⟩

set_option maxHeartbeats 1000000 in
theorem specValText_bool0 (w : World) :
    Calls Tryd.prog 11 #[.agg #[.int .i64 4, .int .i64 0, .string ⟨#[]⟩]] w fun e w' => e = .returned (.string ⟨#[110, 111]⟩) ∧ Below w.heap.size w w' := by
  have hg : okF 4 0 ⟨#[]⟩ = true := by decide
  have hok : ∀ W, Calls Tryd.prog 12 #[.agg #[.int .i64 4, .int .i64 0, .string ⟨#[]⟩]] W fun e w' => e = .returned (.bool true) ∧ Below W.heap.size W w' := fun W => by have := specValOk_any 4 0 ⟨#[]⟩ W (by first | decide | omega); rw [hg] at this; exact this
  have hpl : ∀ W, Calls Tryd.prog 23 #[.string ⟨#[]⟩] W fun e w' => e = .returned (.bool true) ∧ w' = W := fun W => by have := l2Plain_any ⟨#[]⟩ W (by first | decide | omega); exact this
  go_enter Tryd.func11, Tryd.ntmps11
  go_wp2_with fail
  refine (hok _).mono ?_
  rintro e w1 ⟨rfl, hB1⟩
  have hC1 := hB1.mono (show w.heap.size + 1 ≤ _ by simp)
  have hD1 : Below w.heap.size w w1 := ((Below.refl _ _).alloc (Nat.le_refl _) _).trans (hB1.mono (by simp))
  obtain ⟨c0, c1, c2⟩ := boxed hC1 (by omega)
  clear hB1 hC1
  go_wp2_with (first | (go_at_call 23; refine (hpl _).mono ?_; rintro e _ ⟨rfl, rfl⟩))
  go_ret
  exact ⟨rfl, hD1⟩

theorem specValText_any (k n : Int) (s : ByteArray) (w : World) (hs : s.size ≤ 281474976710656) :
    Calls Tryd.prog 11 #[.agg #[.int .i64 k, .int .i64 n, .string s]] w fun e w' => e = .returned (.string (bytesOf (textF k n s))) ∧ Below w.heap.size w w' := by
  cases hb : okF k n s with
  | false =>
    rw [textF_bad hb]
    exact specValText_bad k n s w hs hb
  | true =>
    obtain ⟨v, hv, rfl, rfl, rfl⟩ := okF_iff.1 hb
    rw [textF_v hv]
    cases v with
    | null => exact specValText_null w
    | int m =>
      simp only [V.rng, Bool.and_eq_true, decide_eq_true_eq] at hv
      exact specValText_int m w hb hv.1 hv.2
    | num m =>
      simp only [V.rng, Bool.and_eq_true, decide_eq_true_eq] at hv
      exact specValText_num m w hb hv.1 hv.2
    | text t =>
      simp only [V.rng, decide_eq_true_eq] at hv
      cases hp : plainL t.data.toList with
      | true =>
        have e : V.txt (.text t) = 39 :: (t.data.toList ++ [39]) := by simp [V.txt, quotedL, hp]
        rw [e]
        exact specValText_text t w hb hv hp
      | false =>
        have e : V.txt (.text t) = [] := by simp [V.txt, quotedL, hp]
        rw [e]
        exact specValText_dark t w hb hv hp
    | bool b =>
      cases b
      · exact specValText_bool0 w
      · exact specValText_bool1 w
end Go.Proofs.YthjddmhcppdleaaDoor
