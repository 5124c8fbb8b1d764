/-
  The four bytes of a sum; new rows of bytes.
-/
import Derived.Test.YtjkoipdcpkkkeanCrcPlain
import Derived.Test.YtjkoipdcpkkkeanPutPlain
namespace Go.Proofs.Ytjkoipdcpkkkean
open Go.RowKit

def sumL (c : Nat) : List Int := [(c : Int) / 16777216 % 256, (c : Int) / 65536 % 256, (c : Int) / 256 % 256, (c : Int) % 256]
theorem sumL_len (c : Nat) : (sumL c).length = 4 := rfl
theorem sumL_byte (c : Nat) : ∀ y ∈ sumL c, 0 ≤ y ∧ y ≤ 255 := by
  intro y hy
  simp only [sumL, List.mem_cons, List.not_mem_nil, or_false] at hy
  rcases hy with rfl | rfl | rfl | rfl <;> omega

theorem lof_sumL (c : Nat) : lof 4 (fun i => (sumL c).getD i 0) = sumL c := lof_self (sumL c)

/-- New cells. -/
theorem cellNews (w : World) (l : List Value) (t : TypeId) : ∀ j u, l[j]? = some u → (w.alloc (.cells l.toArray t)).cell? ((⟨w.heap.size, 0, none⟩ : Addr).add j) = some u := by
  intro j u hj
  have e : (⟨w.heap.size, 0, none⟩ : Addr).add j = ⟨w.heap.size, j, none⟩ := by unfold Addr.add; split <;> simp_all
  rw [e]
  simp [hj]

theorem newRow (w : World) (l : List Int) (t : TypeId) : Row t (w.alloc (.cells (l.map (Value.int .u8)).toArray t)) w.heap.size l.length (fun i => l.getD i 0) :=
  Row.ofIs ⟨_, Deep.blk_alloc_new _ _, by simp, fun i hi => by simp [hi]⟩

theorem bytes_of_list {l : List Int} (h : ∀ y ∈ l, 0 ≤ y ∧ y ≤ 255) : ∀ i, i < l.length → 0 ≤ l.getD i 0 ∧ l.getD i 0 ≤ 255 := by
  intro i hi
  have := h _ (List.getElem_mem hi)
  simpa [hi] using this

end Go.Proofs.Ytjkoipdcpkkkean
