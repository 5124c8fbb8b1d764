/-
  The exact law of PutPart, whole.
-/
import Derived.Test.YtbcgonfihdpjnaqLawPutPart
import Derived.Test.YtbcgonfihdpjnaqPartPut
import Derived.Test.YtbcgonfihdpjnaqPartPutImpl
namespace Go.Proofs.Ytbcgonfihdpjnaq
open Go.RowKit
set_option maxRecDepth 4000

theorem endPutPart (ao : Option Addr) (n cap : Nat) (f : Nat → Int) (c t : Int) (nul d : Bool) (k x : Int) (s : ByteArray) (w : World) (hv : View w ao n cap f) (hs : s.size ≤ maxLen) (hx : -9223372036854775808 ≤ x ∧ x ≤ 9223372036854775807) :
    Calls Try.prog 5 #[.slice ao n cap, .agg #[.int .i64 c, .int .i64 t, .bool nul, .bool d], .agg #[.int .i64 k, .int .i64 x, .string s]] w fun e w' => e = .returned (.bool true) ∧ Below w.heap.size w w' := by
  have hl := putPL_len c t nul d k x s
  by_cases hbig : n ≤ 1048576 ∧ s.size ≤ 1048576
  case neg => exact lawPutPart ao n cap f c t nul d k x s 0 (fun _ => 0) w hv hs (fun h1 h2 => absurd ⟨h1, h2⟩ hbig) (fun h1 h2 => absurd ⟨h1, h2⟩ hbig) (by decide) (fun i hi => absurd hi (Nat.not_lt_zero _))
  refine lawPutPart ao n cap f c t nul d k x s (n + (putPL c t nul d k x s).length) (fun i => (lof n f ++ putPL c t nul d k x s).getD i 0) w hv hs (fun h1 h2 b cap w hv => ?_) (fun h1 h2 b cap w hv => ?_) (by omega) (fun i hi => ?_)
  · refine (putPart_own b 0 n cap f c t nul d k x s w hv (by omega) hx (by omega)).mono ?_
    rintro e w' ⟨v, rfl, hne, hown, hb⟩
    obtain ⟨g, cc, rfl, hg, hc, hr⟩ := row_of_own' hown hne
    exact ⟨g, cc, rfl, hg, hc, hr, hb⟩
  · refine (putPart_impl b 0 n cap f c t nul d k x s w hv (by omega)).mono ?_
    rintro e w' ⟨g, cc, rfl, hg, hc, hr, hb⟩
    exact ⟨g, cc, rfl, hg, hc, hr, hb⟩
  · have := (List.forall_mem_append.2 ⟨lof_byte hv.byte, putPL_byte c t nul d k x s⟩ : ∀ y ∈ lof n f ++ putPL c t nul d k x s, 0 ≤ y ∧ y ≤ 255)
    exact this _ (getD_in (by rw [List.length_append, lof_len]; exact hi))
end Go.Proofs.Ytbcgonfihdpjnaq
