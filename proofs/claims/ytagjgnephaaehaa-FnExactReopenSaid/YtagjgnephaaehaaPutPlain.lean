/-
  A number as its groups, plainly; lists of bytes that the call owns as rows.
-/
import Derived.Test.YtagjgnephaaehaaPlain
namespace Go.Proofs.Ytagjgnephaaehaa
open Go.RowKit
set_option maxRecDepth 4000

def groups (x : Int) : List Int := if x < 128 then [x] else if x < 16384 then [x % 128 + 128, x / 128] else [x % 128 + 128, x / 128 % 128 + 128, x / 16384]
theorem groups_last (x : Int) (h : x < 128) : groups x = [x] := by unfold groups; rw [if_pos h]
theorem groups_step (x : Int) (h : 128 ≤ x) (h1 : x ≤ 1000000) : groups x = (x % 128 + 128) :: groups (x / 128) := by
  unfold groups
  rw [if_neg (by omega)]
  by_cases h2 : x < 16384
  · rw [if_pos h2, if_pos (by omega)]
  · rw [if_neg h2, if_neg (by omega), if_pos (by omega)]
    have : x / 128 / 128 = x / 16384 := by omega
    rw [this]
theorem groups_len (x : Int) : 1 ≤ (groups x).length ∧ (groups x).length ≤ 3 := by
  unfold groups; split
  · simp
  · split <;> simp
theorem groups_byte (x : Int) (h0 : 0 ≤ x) (h1 : x ≤ 1000000) : ∀ y ∈ groups x, 0 ≤ y ∧ y ≤ 255 := by
  unfold groups; intro y hy; split at hy
  · simp at hy; omega
  · split at hy
    · simp at hy; omega
    · simp at hy; omega

def clampN (x : Int) : Int := if x < 0 then 0 else if 1000000 < x then 1000000 else x
theorem clampN_bd (x : Int) : 0 ≤ clampN x ∧ clampN x ≤ 1000000 := by unfold clampN; split <;> (try split) <;> omega

def lof (n : Nat) (f : Nat → Int) : List Int := (List.range n).map f
theorem lof_len (n : Nat) (f : Nat → Int) : (lof n f).length = n := by simp [lof]
theorem lof_get (n : Nat) (f : Nat → Int) (i : Nat) (h : i < n) : (lof n f).getD i 0 = f i := by simp [lof, h]
def bl (l : List Int) : List Value := l.map (Value.int .u8)
theorem bl_len (l : List Int) : (bl l).length = l.length := by simp [bl]
theorem bl_append (l m : List Int) : bl (l ++ m) = bl l ++ bl m := by simp [bl]
theorem bl_one (l : List Int) : ∀ u ∈ bl l, u.oneCell' = true := by
  intro u hu
  simp only [bl, List.mem_map] at hu
  obtain ⟨x, _, rfl⟩ := hu
  rfl

/-- What the call owns as a list of bytes, as a row. -/
theorem row_of_own {base : Nat} {t : TypeId} {v : Value} {N : Nat} {l : List Int} {w : World} (h : w.ownsRow base t 1 v N (bl l)) (hN : 0 < N) :
    ∃ g c, v = .slice (some ⟨g, 0, none⟩) N c ∧ base ≤ g ∧ N ≤ c ∧ Row t w g N (fun i => l.getD i 0) := by
  obtain ⟨hl, h⟩ := h
  rcases h with ⟨_, h0⟩ | ⟨g, c, cur, rfl, hb, hg, hnc, _, hcs, ht⟩
  · omega
  · refine ⟨g, c, rfl, hb, hnc, cur, hg, by omega, fun i hi => ?_⟩
    have e : (bl l)[i]? = some (.int .u8 (l.getD i 0)) := by
      have : i < l.length := by rw [bl_len] at hl; omega
      simp [bl, this]
    rw [← ht, List.getElem?_take, if_pos (by omega)] at e
    simpa using e

theorem row_of_own' {base : Nat} {t : TypeId} {v : Value} {N : Nat} {l : List Int} {w : World} (h : w.ownsRow base t 1 v N (bl l)) (hv : v ≠ .slice none 0 0) :
    ∃ g c, v = .slice (some ⟨g, 0, none⟩) N c ∧ base ≤ g ∧ N ≤ c ∧ Row t w g N (fun i => l.getD i 0) := by
  obtain ⟨hl, h⟩ := h
  rcases h with ⟨h0, _⟩ | ⟨g, c, cur, rfl, hb, hg, hnc, _, hcs, ht⟩
  · exact absurd h0 hv
  · refine ⟨g, c, rfl, hb, hnc, cur, hg, by omega, fun i hi => ?_⟩
    have e : (bl l)[i]? = some (.int .u8 (l.getD i 0)) := by
      have : i < l.length := by rw [bl_len] at hl; omega
      simp [bl, this]
    rw [← ht, List.getElem?_take, if_pos (by omega)] at e
    simpa using e
theorem row_of_owned {base : Nat} {t : TypeId} {g N c : Nat} {l : List Int} {w : World} (h : w.ownsRow base t 1 (.slice (some ⟨g, 0, none⟩) N c) N (bl l)) : Row t w g N (fun i => l.getD i 0) := by
  obtain ⟨hl, h⟩ := h
  rcases h with ⟨h, _⟩ | ⟨g', c', cur, e, hb, hg, hnc, _, hcs, ht⟩
  · cases h
  · simp only [Value.slice.injEq, Option.some.injEq, Addr.mk.injEq, and_true, true_and] at e
    obtain ⟨rfl, rfl⟩ := e
    refine ⟨cur, hg, by omega, fun i hi => ?_⟩
    have e : (bl l)[i]? = some (.int .u8 (l.getD i 0)) := by
      have : i < l.length := by rw [bl_len] at hl; omega
      simp [bl, this]
    rw [← ht, List.getElem?_take, if_pos (by omega)] at e
    simpa using e
theorem lof_self (l : List Int) : lof l.length (fun i => l.getD i 0) = l := by
  apply List.ext_getElem
  · simp [lof]
  · intro i h1 h2
    simp [lof, h2]

/-- One new cell. -/
theorem cellNew (w : World) (x : Value) (t : TypeId) : ∀ j u, [x][j]? = some u → (w.alloc (.cells #[x] t)).cell? ((⟨w.heap.size, 0, none⟩ : Addr).add j) = some u := by
  intro j u hj
  match j, hj with
  | 0, hj => simp at hj; subst hj; simp [Addr.add]

/-- The cells of a slice that reads, as the law on appending asks for them. -/
theorem cells_of_view {w : World} {b off n cap : Nat} {f : Nat → Int} (h : View w (some ⟨b, off, none⟩) n cap f) : ∀ j u, (bl (lof n f))[j]? = some u → w.cell? ((⟨b, off, none⟩ : Addr).add j) = some u := by
  intro j u hu
  have hj : j < n := by
    by_cases hj : j < n
    · exact hj
    · rw [List.getElem?_eq_none (by rw [bl_len, lof_len]; omega)] at hu; cases hu
  obtain ⟨b', off', e, _, hc⟩ := h.cells (by omega)
  simp only [Option.some.injEq, Addr.mk.injEq, and_true] at e
  obtain ⟨rfl, rfl⟩ := e
  have ea : (⟨b, off, none⟩ : Addr).add j = ⟨b, off + j, none⟩ := by unfold Addr.add; split <;> simp_all
  rw [ea, hc j hj]
  simp [bl, lof, hj] at hu
  rw [hu]

theorem put_byte (n : Nat) (f : Nat → Int) (gs : List Int) (hf : ∀ i, i < n → 0 ≤ f i ∧ f i ≤ 255) (hg : ∀ y ∈ gs, 0 ≤ y ∧ y ≤ 255) : ∀ i, i < n + gs.length → 0 ≤ (lof n f ++ gs).getD i 0 ∧ (lof n f ++ gs).getD i 0 ≤ 255 := by
  intro i hi
  by_cases h : i < n
  · have e : (lof n f ++ gs).getD i 0 = f i := by
      rw [← lof_get n f i h, List.getD_eq_getElem?_getD, List.getD_eq_getElem?_getD, List.getElem?_append_left (by rw [lof_len]; exact h)]
    rw [e]; exact hf i h
  · have e : (lof n f ++ gs).getD i 0 = gs.getD (i - n) 0 := by
      rw [List.getD_eq_getElem?_getD, List.getD_eq_getElem?_getD, List.getElem?_append_right (by rw [lof_len]; omega), lof_len]
    rw [e]
    have hi' : i - n < gs.length := by omega
    have : gs.getD (i - n) 0 = gs[i - n] := by simp [hi']
    rw [this]
    exact hg _ (List.getElem_mem hi')

end Go.Proofs.Ytagjgnephaaehaa
