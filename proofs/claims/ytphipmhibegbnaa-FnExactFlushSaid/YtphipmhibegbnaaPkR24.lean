/-
  LawFlush
-/
import Derived.Test.YtphipmhibegbnaaPkR23
/-
  The law FnExactFlush.
-/
namespace Go.Proofs.Ytphipmhibegbnaa
open Go.RowKit
set_option maxRecDepth 4000

theorem settleL_mem {α : Type} : ∀ {l : List (Int × α)} {s : List α} {x : α}, x ∈ settleL s l → x ∈ s ∨ x ∈ l.map (·.2)
  | [], _, _, h => .inl h
  | y :: l, s, x, h => by
    rw [settleL] at h
    rcases settleL_mem h with h | h
    · rcases List.mem_or_eq_of_mem_set h with h | rfl
      · exact .inl h
      · exact .inr (by simp)
    · exact .inr (by simp only [List.map_cons, List.mem_cons]; exact .inr h)
theorem cutLast_mem {r : Nat} {l : List (Int × List Int)} {x : Int × List Int} (h : x ∈ cutLast (cutW r) l) : ∃ y ∈ l, x.2.length ≤ y.2.length := by
  rcases List.eq_nil_or_concat l with rfl | ⟨l0, y, rfl⟩
  · simp [cutLast_nil] at h
  · rw [List.concat_eq_append] at h ⊢
    rw [cutLast_app, List.mem_append] at h
    rcases h with h | h
    · exact ⟨x, List.mem_append_left _ h, Nat.le_refl _⟩
    · simp at h
      subst h
      exact ⟨y, by simp, by simp [cutW, List.length_take]; omega⟩
theorem loseD_fine {D : PDisk} (h : KFine D) (f : PFault) : KFine (loseD D f) := by
  refine ⟨?_, fun x hx => ?_, Nat.zero_le _, (fun x hx => by cases hx), h.nf⟩
  · show (settleL D.secs _).length ≤ _
    rw [settleL_len]; exact h.ns
  · rcases settleL_mem hx with hx | hx
    · exact h.sec x hx
    · obtain ⟨y, hy, rfl⟩ := List.mem_map.1 hx
      obtain ⟨z, hz, hl⟩ := cutLast_mem hy
      have := h.cache z (keptG_mem hz)
      omega
theorem calmD_fine {D : PDisk} (h : KFine D) : KFine (calmD D) := by
  refine ⟨?_, fun x hx => ?_, Nat.zero_le _, (fun x hx => by cases hx), h.nf⟩
  · show (settleL D.secs _).length ≤ _
    rw [settleL_len]; exact h.ns
  · rcases settleL_mem hx with hx | hx
    · exact h.sec x hx
    · obtain ⟨y, hy, rfl⟩ := List.mem_map.1 hx
      exact h.cache y hy
theorem flushD_fine {D : PDisk} (h : KFine D) : KFine (flushD D).1 := by
  have h1 : KFine { D with ops := D.ops + 1 } := ⟨h.ns, h.sec, h.nc, h.cache, h.nf⟩
  unfold flushD
  split
  · unfold flushF
    split
    · exact h
    · split
      · exact loseD_fine h1 _
      · exact calmD_fine h1
  · exact h
theorem lawFlush (v : Value) (D : PDisk) (w : World) (h : KView w v D) (hm : KLim D) :
    Calls Try.prog 5 #[v] w fun e w' => e = .returned (.bool true) ∧ Below w.heap.size w w' :=
  lawFlushOf v D (flushD D).1 (flushD D).2 w h hm (fun W u hf hu => specFlush_any u D W hu hf) (fun W u hf hu => implFlush_any u D W hu hf) flushD_fine
end Go.Proofs.Ytphipmhibegbnaa

