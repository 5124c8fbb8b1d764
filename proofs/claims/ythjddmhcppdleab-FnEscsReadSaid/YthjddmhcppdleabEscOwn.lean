/-
  Bytes that the call owns, or none, as a string.
-/
import Derived.Test.YthjddmhcppdleabConv
import Derived.Test.YthjddmhcppdleabEscPlain
namespace Go.Proofs.Ythjddmhcppdleab
open Go.RowKit

theorem conv_own {w : World} {base : Nat} {v : Value} {N : Nat} {l : List Int} (h : w.ownsRow base 5 1 v N (bl l)) (hl : l.length = N) (hy : ∀ y ∈ l, 0 ≤ y ∧ y ≤ 255) :
    (convert 22 9 v).run Try.prog w = .ok (.string (strOfNums l)) w := by
  by_cases hv : v = .slice none 0 0
  · subst hv
    have h0 : N = 0 := by
      rcases h.2 with ⟨_, h0⟩ | ⟨g, c, cur, e, _⟩
      · exact h0
      · cases e
    obtain rfl : l = [] := by
      cases l with
      | nil => rfl
      | cons x xs => simp at hl; omega
    have := run_convert_bytes_nil (P := Try.prog) (w := w) 22 5 Try.underlying22 Try.underlying5 0 0 9 Try.underlying9
    exact this
  · obtain ⟨g, c, rfl, _, hc, hr⟩ := row_of_own' h hv
    have hb : ∀ i, i < N → 0 ≤ l.getD i 0 ∧ l.getD i 0 ≤ 255 := by
      intro i hi
      have hi' : i < l.length := by omega
      have := hy _ (List.getElem_mem hi')
      simpa [hi'] using this
    have := conv_view (hr.view hc hb)
    rw [← hl] at this ⊢
    rw [this, lof_self]
end Go.Proofs.Ythjddmhcppdleab
