/-
  The program's PutFix: what was there, and behind it the number's four bytes, in memory of its own.
-/
import Derived.Test.YtbcgonfihdpjnaqSetDigits
import Derived.Test.YtbcgonfihdpjnaqPutBytes
namespace Go.Proofs.Ytbcgonfihdpjnaq
open Go.RowKit
set_option maxRecDepth 4000

theorem Row.zero4 (w : World) (t : TypeId) : Row t (w.alloc (.cells #[.int .u8 0, .int .u8 0, .int .u8 0, .int .u8 0] t)) w.heap.size 4 (fun _ => 0) :=
  Row.ofIs (World.rowIs_alloc w #[.int .u8 0, .int .u8 0, .int .u8 0, .int .u8 0] t (fun _ => .int .u8 0) (fun j hj => by match j, hj with | 0, _ => rfl | 1, _ => rfl | 2, _ => rfl | 3, _ => rfl))

theorem fix_row {t : TypeId} {w : World} {g : Nat} {y : Int} {f : Nat → Int} (x : Int) (h : Row t w g 4 (fillF 0 4 0 y f)) (hy : y = clampF x + 2147483648) : Row t w g 4 (fun i => (fixL x).getD i 0) := by
  subst hy
  refine h.congr (fun i hi => ?_)
  unfold fillF
  rw [if_pos (by omega), Nat.sub_zero]
  unfold fixL
  rw [lof_get 4 _ i hi]

set_option maxHeartbeats 1000000 in
theorem putFix_impl (b off n cap : Nat) (f : Nat → Int) (x : Int) (w : World) (hv : View w (some ⟨b, off, none⟩) n cap f) (hn : n ≤ 70368744170000) (hx0 : -9223372036854775808 ≤ x) (hx1 : x ≤ 9223372036854775807) :
    Calls Try.prog 62 #[.slice (some ⟨b, off, none⟩) n cap, .int .i64 x] w fun e w' => ∃ g c, e = .returned (.slice (some ⟨g, 0, none⟩) (n + 4) c) ∧ w.heap.size ≤ g ∧ n + 4 ≤ c ∧ Row 5 w' g (n + 4) (fun i => (lof n f ++ fixL x).getD i 0) ∧ Below w.heap.size w w' := by
  have hb0 : ∀ o, Below w.heap.size w (w.alloc o) := fun o => (Below.refl _ _).alloc (Nat.le_refl _) _
  go_enter Try.func62, Try.ntmps62
  go_wp2_with fail
  all_goals
    refine (setDigits_any _ w.heap.size 0 4 4 4 (fun _ => 0) _ _ (Row.zero4 w _) (by omega) (by omega) (by omega)).mono ?_
    rintro e w1 ⟨rfl, hr1, ho1⟩
    replace hr1 := fix_row x hr1 (by unfold clampF; split <;> (try split) <;> omega)
    have hb1 : Below w.heap.size w w1 := (hb0 _).trans (ho1.below (Nat.le_refl _))
    have hV1 := hr1.view (cap := 4) (Nat.le_refl _) (fun i hi => fixL_byte x _ (getD_in (by rw [fixL_len]; exact hi)))
    clear hb0 ho1 hr1
    go_wp2_with fail
    refine (putBytes_any b off n cap f (some ⟨w.heap.size, 0, none⟩) 4 4 _ w1 (hv.below hb1) hV1 (fun h => by cases h) (by omega)).mono ?_
    rintro e w2 ⟨rfl, hown, hb2⟩
    have hE : lof 4 (fun i => (fixL x).getD i 0) = fixL x := by have := lof_self (fixL x); rw [fixL_len] at this; exact this
    rw [hE] at hown
    have HR : Hid _ := row_of_owned hown
    replace hb2 := hb1.trans (hb2.mono hb1.size)
    have hs := hb1.size
    clear hown hE hV1 hb1
    go_wp2
    go_ret
    exact ⟨_, _, rfl, hs, Nat.le_refl _, HR.out, hb2⟩
end Go.Proofs.Ytbcgonfihdpjnaq
