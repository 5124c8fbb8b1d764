/-
  The law FnExactPutText at every slice of bytes that reads and every text: its callees' answers are laid into its walk.
-/
import Derived.Test.YtjkoipdcpkkkeanLawPutText
namespace Go.Proofs.Ytjkoipdcpkkkean
open Go.RowKit

theorem textL_byte (n : Nat) (f : Nat → Int) (s : ByteArray) (hf : ∀ i, i < n → 0 ≤ f i ∧ f i ≤ 255) : ∀ i, i < n + (groups (clampN s.size)).length + s.size → 0 ≤ (textL n f s).getD i 0 ∧ (textL n f s).getD i 0 ≤ 255 := by
  intro i hi
  have h : ∀ y ∈ textL n f s, 0 ≤ y ∧ y ≤ 255 := by
    intro y hy
    unfold textL at hy
    rcases List.mem_append.1 hy with hy | hy
    · rcases List.mem_append.1 hy with hy | hy
      · simp only [lof, List.mem_map, List.mem_range] at hy
        obtain ⟨j, hj, rfl⟩ := hy
        exact hf j hj
      · exact groups_byte _ (clampN_bd _).1 (clampN_bd _).2 y hy
    · exact sl_byte s y hy
  have hi' : i < (textL n f s).length := by rw [textL_len]; exact hi
  have := h _ (List.getElem_mem hi')
  simpa [hi'] using this

theorem endPutText (ao : Option Addr) (n cap : Nat) (f : Nat → Int) (s : ByteArray) (w : World) (hv : View w ao n cap f) (hs : s.size ≤ maxLen) :
    Calls Try.prog 3 #[.slice ao n cap, .string s] w fun e w' => e = .returned (.bool true) ∧ Below w.heap.size w w' := by
  unfold maxLen at hs
  by_cases hn : n ≤ 1048576
  · by_cases hs2 : s.size ≤ 1048576
    · exact lawFnExactPutText ao n cap f s _ _ w hv (by omega) (fun _ _ b cap w hv => putText_spec b 0 n cap f s w hv (by omega) (by omega)) (fun _ _ b cap w hv => putText_impl b 0 n cap f s w hv (by omega) (by omega))
        (by have := (groups_len (clampN s.size)).2; omega) (textL_byte n f s hv.byte)
    · exact lawFnExactPutText ao n cap f s 0 (fun _ => 0) w hv (by omega) (fun _ h => absurd h hs2) (fun _ h => absurd h hs2) (by omega) (fun i hi => absurd hi (Nat.not_lt_zero _))
  · exact lawFnExactPutText ao n cap f s 0 (fun _ => 0) w hv (by omega) (fun h => absurd h hn) (fun h => absurd h hn) (by omega) (fun i hi => absurd hi (Nat.not_lt_zero _))
end Go.Proofs.Ytjkoipdcpkkkean
