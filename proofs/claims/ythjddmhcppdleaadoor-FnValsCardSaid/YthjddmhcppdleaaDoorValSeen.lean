/-
  Bytes that may be seen on a line.
-/
import Derived.Test.YthjddmhcppdleaaDoorValPlain
namespace Go.Proofs.YthjddmhcppdleaaDoor

theorem seen_of {c : UInt8} (h1 : (32 : Int) ≤ (c.toNat : Int)) (h2 : (c.toNat : Int) ≤ 126) (h3 : ((c.toNat : Int) == 39) = false) : seenB c = true := by
  rw [beq_eq_false_iff_ne] at h3
  simp only [seenB, Bool.and_eq_true, decide_eq_true_eq]
  omega

theorem quoted_bad {s : ByteArray} {k : Nat} (hk : k < s.size) (h : seenB s[k] = false) : quotedL s = [] := by
  unfold quotedL
  rw [if_neg]
  intro hp
  have := List.all_eq_true.1 hp s.data[k] (by simp)
  rw [show s.data[k] = s[k] from rfl, h] at this
  cases this

theorem quoted_good {s : ByteArray} (h : ∀ x, x < s.size → ∃ h : x < s.data.size, seenB s.data[x] = true) : quotedL s = 39 :: (s.data.toList ++ [39]) := by
  unfold quotedL
  rw [if_pos]
  refine List.all_eq_true.2 fun c hc => ?_
  obtain ⟨x, hx, rfl⟩ := List.mem_iff_getElem.1 hc
  obtain ⟨h1, h2⟩ := h x (by simpa using hx)
  simpa using h2

theorem seen_not {c : UInt8} (h : (((c.toNat : Int) < 32 ∨ (126 : Int) < (c.toNat : Int)) ∨ ((c.toNat : Int) == 39) = true)) : seenB c = false := by
  rw [beq_iff_eq] at h
  simp only [seenB, Bool.and_eq_false_iff, decide_eq_false_iff_not]
  omega

theorem plain_bad {s : ByteArray} {k : Nat} (hk : k < s.size) (h : seenB s[k] = false) : plainL s.data.toList = false := by
  by_cases hp : plainL s.data.toList = true
  · have := List.all_eq_true.1 hp s.data[k] (by simp)
    rw [show s.data[k] = s[k] from rfl, h] at this
    cases this
  · simpa using hp

theorem plain_good {s : ByteArray} (h : ∀ x, x < s.size → ∃ h : x < s.data.size, seenB s.data[x] = true) : plainL s.data.toList = true := by
  refine List.all_eq_true.2 fun c hc => ?_
  obtain ⟨x, hx, rfl⟩ := List.mem_iff_getElem.1 hc
  obtain ⟨h1, h2⟩ := h x (by simpa using hx)
  simpa using h2

end Go.Proofs.YthjddmhcppdleaaDoor
