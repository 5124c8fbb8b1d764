/-
  What is read as a text, plainly.
-/
import Derived.Test.YtjkoipdcpkkkeanGetPlain
import Derived.Test.YtjkoipdcpkkkeanConv
namespace Go.Proofs.Ytjkoipdcpkkkean
open Go.RowKit

theorem getU_bd {n : Nat} {f : Nat → Int} {p a q : Int} (hf : ∀ i, i < n → 0 ≤ f i ∧ f i ≤ 255) (h : getU n f p = (a, q, true)) : 0 ≤ a ∧ a ≤ 1000000 ∧ 0 ≤ q ∧ q ≤ n := by
  unfold getU at h
  by_cases h0 : p < 0 ∨ (n : Int) ≤ p
  · rw [if_pos h0] at h; cases h
  rw [if_neg h0] at h
  have b0 := hf p.toNat (by omega)
  by_cases h1 : f p.toNat < 128
  · rw [if_pos h1] at h; cases h; omega
  rw [if_neg h1] at h
  by_cases h2 : n ≤ p.toNat + 1
  · rw [if_pos h2] at h; cases h
  rw [if_neg h2] at h
  have b1 := hf (p.toNat + 1) (by omega)
  by_cases h3 : f (p.toNat + 1) < 128
  · rw [if_pos h3] at h
    by_cases h4 : f (p.toNat + 1) = 0
    · rw [if_pos h4] at h; cases h
    · rw [if_neg h4] at h; cases h; omega
  rw [if_neg h3] at h
  by_cases h5 : n ≤ p.toNat + 2
  · rw [if_pos h5] at h; cases h
  rw [if_neg h5] at h
  have b2 := hf (p.toNat + 2) (by omega)
  by_cases h6 : f (p.toNat + 2) < 128
  · rw [if_pos h6] at h
    by_cases h7 : f (p.toNat + 2) = 0 ∨ 1000000 < f p.toNat - 128 + (f (p.toNat + 1) - 128) * 128 + f (p.toNat + 2) * 16384
    · rw [if_pos h7] at h; cases h
    · rw [if_neg h7] at h; cases h; omega
  rw [if_neg h6] at h; cases h

/-- What is read as a text. -/
def getText (n : Nat) (f : Nat → Int) (p : Int) : ByteArray × Int × Bool :=
  if (getU n f p).2.2 = true ∧ (getU n f p).1 ≤ n - (getU n f p).2.1 then (strOfNums (lof (getU n f p).1.toNat (fun i => f ((getU n f p).2.1.toNat + i))), (getU n f p).2.1 + (getU n f p).1, true) else (strOfNums [], 0, false)

theorem View.cut {w : World} {b off n cap m k : Nat} {f : Nat → Int} (h : View w (some ⟨b, off, none⟩) n cap f) (hm : k + m ≤ n) : View w (some ⟨b, off + k, none⟩) m (cap - k) (fun i => f (k + i)) := by
  have := h.le
  refine ⟨by omega, fun i hi => h.byte (k + i) (by omega), fun h0 => ?_⟩
  obtain ⟨b', off', e, hb, hc⟩ := h.cells (by omega)
  simp only [Option.some.injEq, Addr.mk.injEq, and_true] at e
  obtain ⟨rfl, rfl⟩ := e
  exact ⟨b, off + k, rfl, hb, fun i hi => by rw [Nat.add_assoc]; exact hc (k + i) (by omega)⟩

theorem retT {s s' : ByteArray} {b b' : Int} {c c' : Bool} (h1 : s = s') (h2 : b = b') (h3 : c = c') :
    Ending.returned (.tuple #[.string s, .int .i64 b, .bool c]) = .returned (.tuple #[.string s', .int .i64 b', .bool c']) := by rw [h1, h2, h3]

end Go.Proofs.Ytjkoipdcpkkkean
