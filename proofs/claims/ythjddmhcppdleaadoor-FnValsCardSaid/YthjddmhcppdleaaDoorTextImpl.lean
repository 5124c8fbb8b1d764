/-
  The program's text of a value within; and its ValText.
-/
import Derived.Test.YthjddmhcppdleaaDoorValText
import Derived.Test.YthjddmhcppdleaaDoorValOfWalk
import Derived.Test.YthjddmhcppdleaaDoorBoxed
import Derived.Test.YthjddmhcppdleaaDoorShelf
import Derived.Lib.ItoaLen
import Derived.Lib.AppendIntMem
namespace Go.Proofs.YthjddmhcppdleaaDoor
open Go.RowKit Go.Lib

/-- The library's table of the powers of ten, as its initialiser lays it. -/
def Tab (w : World) : Prop := Lib.TabIs Tryd.prog w "internal/strconv.uint64pow10" .u64 Lib.pow10Tab

theorem bytes_cons (c : UInt8) (l : List UInt8) : bytesOf (c :: l) = ⟨#[c]⟩ ++ bytesOf l := ByteArray.ext (by simp [bytesOf])
theorem bytes_len (l : List UInt8) : (bytesOf l).size = l.length := by simp [bytesOf, ByteArray.size]

theorem itoa_any (n : Int) (w : World) (h0 : -9223372036854775808 ≤ n) (h1 : n ≤ 9223372036854775807) (ht : Tab w) :
    Calls Tryd.prog 28 #[.int .i64 n] w fun e w' => e = .returned (.string (bytesOf (itoa n))) ∧ Below w.heap.size w w' := by
  refine (Tryd.strconv_Itoa n h0 h1 w ht).mono ?_
  rintro e w' ⟨rfl, k, os, rfl⟩
  exact ⟨rfl, Lib.below_grow _ w (Nat.le_refl _) k os⟩

set_option maxHeartbeats 1000000 in
theorem valueText_any (v : V) (w : World) (ht : Tab w) (hv : v.rng = true) :
    Calls Tryd.prog 16 #[v.enc] w fun e w' => e = .returned (.string (bytesOf v.txt)) ∧ Below w.heap.size w w' := by
  cases v with
  | null =>
    have q_null := as_null_null
    unfold V.enc
    go_enter Tryd.func16, Tryd.ntmps16
    go_wp2
    go_ret
    refine ⟨rfl, ?_⟩
    repeat (first | exact Below.refl _ _ | refine Below.alloc ?_ (by simp <;> omega) _ | refine Below.drew ?_)
  | int n =>
    have q_null := as_int_null n
    have q_int := as_int_int n
    simp only [V.rng, Bool.and_eq_true, decide_eq_true_eq] at hv
    have hI := fun W h => itoa_any n W (by omega) (by omega) h
    have hlen : (bytesOf (itoa n)).size ≤ 21 := by rw [bytes_len]; exact itoa_length_le n (by omega) (by omega)
    unfold V.enc
    rw [show V.txt (.int n) = 105 :: itoa n from rfl, bytes_cons]
    clear hv
    generalize bytesOf (itoa n) = r at *
    go_enter Tryd.func16, Tryd.ntmps16
    go_wp2_with (first | (go_at_call 28; refine (hI _ ht).mono ?_; rintro e w1 ⟨rfl, hB⟩))
    go_ret
    exact ⟨rfl, by first | exact hB | exact Below.refl _ _⟩
  | num n =>
    have q_null := as_num_null n
    have q_int := as_num_int n
    have q_num := as_num_num n
    simp only [V.rng, Bool.and_eq_true, decide_eq_true_eq] at hv
    have hI := fun W h => itoa_any n W (by omega) (by omega) h
    have hlen : (bytesOf (itoa n)).size ≤ 21 := by rw [bytes_len]; exact itoa_length_le n (by omega) (by omega)
    unfold V.enc
    rw [show V.txt (.num n) = 110 :: itoa n from rfl, bytes_cons]
    clear hv
    generalize bytesOf (itoa n) = r at *
    go_enter Tryd.func16, Tryd.ntmps16
    go_wp2_with (first | (go_at_call 28; refine (hI _ ht).mono ?_; rintro e w1 ⟨rfl, hB⟩))
    go_ret
    exact ⟨rfl, by first | exact hB | exact Below.refl _ _⟩
  | text s =>
    have q_null := as_text_null s
    have q_int := as_text_int s
    have q_num := as_text_num s
    have q_text := as_text_text s
    simp only [V.rng, decide_eq_true_eq] at hv
    have hI := fun W => quoted_any s W (by omega)
    unfold V.enc
    rw [show V.txt (.text s) = quotedL s from rfl]
    clear hv
    generalize bytesOf (quotedL s) = r at *
    go_enter Tryd.func16, Tryd.ntmps16
    go_wp2_with (first | (go_at_call 29; refine (hI _).mono ?_; rintro e _ ⟨rfl, rfl⟩))
    go_ret
    exact ⟨rfl, by first | exact hB | exact Below.refl _ _⟩
  | bool b =>
    have q_null := as_bool_null b
    have q_int := as_bool_int b
    have q_num := as_bool_num b
    have q_text := as_bool_text b
    have q_bool := as_bool_bool b
    unfold V.enc
    cases b
    all_goals
      go_enter Tryd.func16, Tryd.ntmps16
      go_wp2
      go_ret
      refine ⟨rfl, ?_⟩
      repeat (first | exact Below.refl _ _ | refine Below.alloc ?_ (by simp <;> omega) _ | refine Below.drew ?_)

theorem tab_below {w w' : World} (h : Tab w) (hB : Below w.heap.size w w') : Tab w' := Lib.tabBelow_of_tabIs h w' hB

set_option maxHeartbeats 1000000 in
theorem valText_any (k n : Int) (s : ByteArray) (w : World) (ht : Tab w) :
    Calls Tryd.prog 6 #[.agg #[.int .i64 k, .int .i64 n, .string s]] w fun e w' => e = .returned (.string (bytesOf (textF k n s))) ∧ Below w.heap.size w w' := by
  have hV := fun W => valueOf_any k n s W
  have hb0 : Below w.heap.size w (w.alloc (.cells #[.int .i64 k, .int .i64 n, .string s] 25)) := (Below.refl _ _).alloc (Nat.le_refl _) _
  cases hb : okF k n s with
  | false =>
    rw [hb] at hV
    have e : bytesOf (textF k n s) = ⟨#[]⟩ := by unfold textF; rw [hb]; rfl
    rw [e]
    clear e hb
    generalize vOpt (ofFields k n s) = x at *
    go_enter Tryd.func6, Tryd.ntmps6
    go_wp2_with fail
    refine (hV _).mono ?_
    rintro e w1 ⟨rfl, hB⟩
    go_wp2
    go_ret
    exact ⟨rfl, hb0.trans (hB.mono (by simp))⟩
  | true =>
    obtain ⟨v, hv, rfl, rfl, rfl⟩ := okF_iff.1 hb
    rw [hb, ofFields_v] at hV
    rw [textF_v hv]
    have hX := fun W h => valueText_any v W h hv
    have hV : ∀ W, Calls Tryd.prog 15 #[.agg #[.int .i64 v.k, .int .i64 v.n, .string v.s]] W fun e w' => e = .returned (.tuple #[v.enc, .bool true]) ∧ Below W.heap.size W w' := hV
    clear hb hv
    generalize bytesOf v.txt = r at *
    generalize v.enc = x at *
    generalize v.k = k at *
    generalize v.n = n at *
    generalize v.s = s at *
    go_enter Tryd.func6, Tryd.ntmps6
    go_wp2_with fail
    refine (hV _).mono ?_
    rintro e w1 ⟨rfl, hB⟩
    have hB1 := hb0.trans (hB.mono (by simp))
    have ht1 := tab_below ht hB1
    go_wp2_with fail
    refine (hX _ ht1).mono ?_
    rintro e w2 ⟨rfl, hB2⟩
    have hB3 : Hid (Below w.heap.size w w2) := hB1.trans (hB2.mono hB1.size)
    clear hB hB1 hB2 ht1 hb0
    go_wp2
    go_ret
    exact ⟨rfl, hB3.out⟩
end Go.Proofs.YthjddmhcppdleaaDoor
