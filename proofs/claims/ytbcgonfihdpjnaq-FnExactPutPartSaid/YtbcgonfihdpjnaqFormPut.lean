/-
  The program's writers of a value of each type: the value's bytes behind what is there, in a row of the call's own.
-/
import Derived.Test.YtbcgonfihdpjnaqPartPlain
import Derived.Test.YtbcgonfihdpjnaqPutFixImpl
import Derived.Test.YtbcgonfihdpjnaqPutVarImpl
import Derived.Test.YtbcgonfihdpjnaqPutEscImpl
import Derived.Test.YtbcgonfihdpjnaqPutBytes
import Derived.Test.YtbcgonfihdpjnaqValBox
namespace Go.Proofs.Ytbcgonfihdpjnaq
open Go.RowKit
set_option maxRecDepth 4000

/-- What a writer of values comes to: the list's bytes behind those that are there. -/
def Writes (fn : Nat) (n : Nat) (f : Nat → Int) (k x : Int) (s : ByteArray) (l : List Int) : Prop :=
  ∀ (b off cap : Nat) (w : World), View w (some ⟨b, off, none⟩) n cap f → Calls Try.prog fn #[.slice (some ⟨b, off, none⟩) n cap, .agg #[.int .i64 k, .int .i64 x, .string s]] w fun e w' =>
    ∃ g c, e = .returned (.slice (some ⟨g, 0, none⟩) (n + l.length) c) ∧ w.heap.size ≤ g ∧ n + l.length ≤ c ∧ Row 5 w' g (n + l.length) (fun i => (lof n f ++ l).getD i 0) ∧ Below w.heap.size w w'

set_option maxHeartbeats 1000000 in
theorem putInt_any (n : Nat) (f : Nat → Int) (k x : Int) (s : ByteArray) (hn : n ≤ 70368744170000) (hx : -9223372036854775808 ≤ x ∧ x ≤ 9223372036854775807) : Writes 48 n f k x s (fixL x) := by
  intro b off cap w hv
  have hb0 : Below w.heap.size w (w.alloc (.cells #[.int .i64 k, .int .i64 x, .string s] 38)) := (Below.refl _ _).alloc (Nat.le_refl _) _
  have hv0 := hv.below hb0
  go_enter Try.func48, Try.ntmps48
  go_wp2_with fail
  refine (putFix_impl b off n cap f x _ hv0 hn hx.1 hx.2).mono ?_
  rintro e w1 ⟨g, c, rfl, hg, hc, hr, hb1⟩
  have hB := hb0.trans (hb1.mono hb0.size)
  have hg1 := Nat.le_trans hb0.size hg
  clear hb0 hb1 hv0 hv
  go_wp2
  go_ret
  rw [fixL_len]
  exact ⟨g, c, rfl, hg1, hc, hr, hB⟩

set_option maxHeartbeats 1000000 in
theorem putNum_any (n : Nat) (f : Nat → Int) (k x : Int) (s : ByteArray) (hn : n ≤ 70368744170000) (hx : -9223372036854775808 ≤ x ∧ x ≤ 9223372036854775807) : Writes 50 n f k x s (varL x) := by
  intro b off cap w hv
  have hb0 : Below w.heap.size w (w.alloc (.cells #[.int .i64 k, .int .i64 x, .string s] 38)) := (Below.refl _ _).alloc (Nat.le_refl _) _
  have hv0 := hv.below hb0
  go_enter Try.func50, Try.ntmps50
  go_wp2_with fail
  refine (putVar_impl b off n cap f x _ hv0 hn hx.1 hx.2).mono ?_
  rintro e w1 ⟨g, c, rfl, hg, hc, hr, hb1⟩
  have hB := hb0.trans (hb1.mono hb0.size)
  have hg1 := Nat.le_trans hb0.size hg
  clear hb0 hb1 hv0 hv
  go_wp2
  go_ret
  exact ⟨g, c, rfl, hg1, hc, hr, hB⟩

set_option maxHeartbeats 1000000 in
theorem putText_any (n : Nat) (f : Nat → Int) (k x : Int) (s : ByteArray) (hn : n ≤ 8796093022208) (hs : s.size ≤ 8796093022208) : Writes 52 n f k x s (escL (sl s) ++ [0, 1]) := by
  intro b off cap w hv
  have hb0 : Below w.heap.size w (w.alloc (.cells #[.int .i64 k, .int .i64 x, .string s] 38)) := (Below.refl _ _).alloc (Nat.le_refl _) _
  have hv0 := hv.below hb0
  go_enter Try.func52, Try.ntmps52
  go_wp2_with fail
  refine (putEsc_impl b off n cap f s _ hv0 hn hs).mono ?_
  rintro e w1 ⟨g, c, rfl, hg, hc, hr, hb1⟩
  have hB := hb0.trans (hb1.mono hb0.size)
  have hg1 := Nat.le_trans hb0.size hg
  clear hb0 hb1 hv0 hv
  go_wp2
  go_ret
  have el : escN s = (escL (sl s) ++ [0, 1]).length := by unfold escN; simp
  have et : escT n f s = lof n f ++ (escL (sl s) ++ [0, 1]) := by unfold escT; simp
  rw [el, et] at hr
  rw [el] at hc
  rw [el]
  exact ⟨g, c, rfl, hg1, hc, hr, hB⟩

theorem lof_one (g : Nat → Int) : lof 1 g = [g 0] := by simp [lof]

theorem Row.lit1 (w : World) (t : TypeId) (h : Int) : Row t (w.alloc (.cells #[.int .u8 h] t)) w.heap.size 1 (fun _ => h) :=
  Row.ofIs (World.rowIs_alloc w #[.int .u8 h] t (fun _ => .int .u8 h) (fun j hj => by match j, hj with | 0, _ => rfl))

set_option maxHeartbeats 1000000 in
theorem putBool_any (n : Nat) (f : Nat → Int) (k x : Int) (s : ByteArray) (hn : n ≤ 70368744170000) (hx : 0 ≤ x ∧ x ≤ 255) : Writes 54 n f k x s [x % 256] := by
  intro b off cap w hv
  have hx6 : x % 256 = x := by omega
  have hx8 : IntKind.u8.wrap x = x := by rw [u8_wrap, hx6]
  rw [hx6]
  have hb0 : Below w.heap.size w ((w.alloc (.cells #[.int .i64 k, .int .i64 x, .string s] 38)).alloc (.cells #[.int .u8 x] 5)) := ((Below.refl _ _).alloc (Nat.le_refl _) _).alloc (by simp) _
  have hv0 := hv.below hb0
  have hr0 := Row.lit1 (w.alloc (.cells #[.int .i64 k, .int .i64 x, .string s] 38)) 5 x
  rw [show (w.alloc (.cells #[.int .i64 k, .int .i64 x, .string s] 38)).heap.size = w.heap.size + 1 by simp] at hr0
  have hg0 := hr0.view (cap := 1) (Nat.le_refl _) (fun _ _ => hx)
  go_enter Try.func54, Try.ntmps54
  go_wp2_with fail
  refine (putBytes_any b off n cap f (some ⟨w.heap.size + 1, 0, none⟩) 1 1 (fun _ => x) _ hv0 hg0 (fun h => by cases h) (by omega)).mono ?_
  rintro e w1 ⟨rfl, hown, hb1⟩
  have hB := hb0.trans (hb1.mono hb0.size)
  have hg1 := hb0.size
  rw [lof_one] at hown
  clear hb0 hb1 hv0 hv hg0 hr0
  go_wp2
  go_ret
  obtain ⟨g, c, e, -, hc, hr⟩ := row_of_own hown (by omega)
  cases e
  have hz : ((w.alloc (.cells #[.int .i64 k, .int .i64 x, .string s] 38)).alloc (.cells #[.int .u8 x] 5)).heap.size = w.heap.size + 1 + 1 := by simp
  rw [hz] at hr hg1
  exact ⟨_, _, rfl, hg1, hc, hr, hB⟩
end Go.Proofs.Ytbcgonfihdpjnaq
