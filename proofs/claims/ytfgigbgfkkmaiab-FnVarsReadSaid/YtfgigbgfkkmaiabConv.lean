/-
  Bytes as a string: what 'string(b)' comes to at a slice of bytes that reads.
-/
import Derived.Test.YtfgigbgfkkmaiabInfo
import Derived.Test.YtfgigbgfkkmaiabPutPlain
import Derived.Laws.BytesArg
namespace Go.Proofs.Ytfgigbgfkkmaiab
open Go.RowKit

theorem conv_view {w : World} {b off n cap : Nat} {f : Nat → Int} (hv : View w (some ⟨b, off, none⟩) n cap f) :
    (convert 22 9 (.slice (some ⟨b, off, none⟩) n cap)).run Try.prog w = .ok (.string (strOfNums (lof n f))) w := by
  refine run_convert_bytes_arg w 22 5 Try.underlying22 Try.underlying5 b off n cap (lof n f) (lof_len n f) ?_ 9 Try.underlying9
  intro i hi
  obtain ⟨b', off', e, _, hc⟩ := hv.cells (by omega)
  simp only [Option.some.injEq, Addr.mk.injEq, and_true] at e
  obtain ⟨rfl, rfl⟩ := e
  rw [hc i hi, lof_get n f i hi]

theorem strOfNums_inj {xs ys : List Int} (hx : ∀ y ∈ xs, 0 ≤ y ∧ y ≤ 255) (hy : ∀ y ∈ ys, 0 ≤ y ∧ y ≤ 255) (h : strOfNums xs = strOfNums ys) : xs = ys := by
  have h1 : xs.map (fun n => UInt8.ofNat n.toNat) = ys.map (fun n => UInt8.ofNat n.toNat) := by
    rw [← strOfNums_data, ← strOfNums_data, h]
  have key : ∀ a b : Int, 0 ≤ a ∧ a ≤ 255 → 0 ≤ b ∧ b ≤ 255 → UInt8.ofNat a.toNat = UInt8.ofNat b.toNat → a = b := by
    intro a b ha hb e
    have := congrArg UInt8.toNat e
    simp at this
    omega
  clear h
  induction xs generalizing ys with
  | nil => cases ys with
    | nil => rfl
    | cons y ys => simp at h1
  | cons x xs ih => cases ys with
    | nil => simp at h1
    | cons y ys =>
      simp only [List.map_cons, List.cons.injEq] at h1
      rw [key x y (hx x (by simp)) (hy y (by simp)) h1.1, ih (fun z hz => hx z (by simp [hz])) (fun z hz => hy z (by simp [hz])) h1.2]

end Go.Proofs.Ytfgigbgfkkmaiab
