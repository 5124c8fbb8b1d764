/-
  Together: PartPutSpec, KeyPickSpec, IterKit, IterBox
-/
import Derived.Test.YtclegljalndaearPack3
import Derived.Deep.RegionHeld3
import Derived.Test.YtclegljalndaearPack1
import Derived.Deep.LoopGhost
import Derived.RangeFuncNested
import Derived.RangeFuncBound
import Derived.RangeFuncCalls
import Derived.RangeFuncLeaves
import Derived.OwnWalkIn
import Derived.TacticsInMore
import Derived.LoopNIn
import Derived.LoopIn
import Derived.Shelf.RegionOpen
/-
  The model's PutPart: what was there, and behind it the bytes of what fits, in memory of its own.
-/
namespace Go.Proofs.Ytclegljalndaear
open Go.RowKit
set_option maxRecDepth 4000

/-- A new row without bytes. -/
theorem own_nil (W : World) (A B : Nat) (hA : A = W.heap.size) (hB : B ≤ A) : (W.alloc (.cells #[] 5)).ownsRow B 5 1 (.slice (some ⟨A, 0, none⟩) 0 0) 0 [] := by
  subst hA
  exact World.ownsRow_lit W #[] 0 hB (Nat.zero_le _) rfl
/-- A new row of one byte. -/
theorem cell_nil (W : World) (A : Nat) (z : Value) (t : TypeId) (hA : A = W.heap.size) : ∀ j u, [z][j]? = some u → (W.alloc (.cells #[z] t)).cell? ((⟨A, 0, none⟩ : Addr).add j) = some u := by
  subst hA
  exact cellNew W z t
theorem cells_kept {W W' : World} {A : Nat} {z : Value} {row : Option Nat} (h : ∀ j u, [z][j]? = some u → W.cell? ((⟨A, 0, none⟩ : Addr).add j) = some u) (hg : W.grownBy W' row) (hA : A < W.heap.size) (hne : row ≠ some A) : ∀ j u, [z][j]? = some u → W'.cell? ((⟨A, 0, none⟩ : Addr).add j) = some u := by
  intro j u hj
  rw [← h j u hj]
  apply World.cell?_of_block
  show W'.heap[((⟨A, 0, none⟩ : Addr).add j).block]? = _
  have : ((⟨A, 0, none⟩ : Addr).add j).block = A := by unfold Addr.add; split <;> rfl
  rw [this]
  exact hg.block A hA hne.symm
theorem cells_alloc {W : World} {A : Nat} {z : Value} (h : ∀ j u, [z][j]? = some u → W.cell? ((⟨A, 0, none⟩ : Addr).add j) = some u) (hA : A < W.heap.size) (o : Obj) : ∀ j u, [z][j]? = some u → (W.alloc o).cell? ((⟨A, 0, none⟩ : Addr).add j) = some u := by
  intro j u hj
  rw [← h j u hj]
  apply World.cell?_of_block
  show (W.alloc o).heap[((⟨A, 0, none⟩ : Addr).add j).block]? = _
  have : ((⟨A, 0, none⟩ : Addr).add j).block = A := by unfold Addr.add; split <;> rfl
  rw [this]
  exact Below.heap_alloc _ _ _ hA
theorem cellD (W : World) (A : Nat) (z : Value) (t : TypeId) (hA : A = W.heap.size) : ∀ j u, [z][j]? = some u → (W.alloc (.cells #[z] t)).drew.cell? ((⟨A, 0, none⟩ : Addr).add j) = some u := cell_nil W A z t hA
theorem cellDD (W : World) (A : Nat) (z : Value) (t : TypeId) (hA : A = W.heap.size) (o : Obj) : ∀ j u, [z][j]? = some u → ((W.alloc (.cells #[z] t)).alloc o).drew.cell? ((⟨A, 0, none⟩ : Addr).add j) = some u := cells_alloc (cell_nil W A z t hA) (by simp; omega) o
theorem Box.grown {W W' : World} {B : Nat} {k n : Int} {s : ByteArray} {row : Option Nat} (h : Box W B k n s) (hg : W.grownBy W' row) (hne : row ≠ some B) : Box W' B k n s := h.of_block (hg.block B h.lt hne.symm)
theorem own_down {W : World} {B D : Nat} {t : TypeId} {v : Value} {N : Nat} {l : List Value} (h : W.ownsRow B t 1 v N l) (hD : D ≤ B) : W.ownsRow D t 1 v N l := by
  obtain ⟨h1, h2⟩ := h
  refine ⟨h1, ?_⟩
  rcases h2 with h2 | ⟨g, cap, cur, rfl, hB, r⟩
  · exact Or.inl h2
  · exact Or.inr ⟨g, cap, cur, rfl, Nat.le_trans hD hB, r⟩
theorem one_more {W : World} {B : Nat} {t : TypeId} {v : Value} {n : Nat} {f : Nat → Int} {z : Int} (h : W.ownsRow B t 1 v (0 + n + 1) ([] ++ bl (lof n f) ++ [.int .u8 z])) : W.ownsRow B t 1 v (n + 1) (bl (lof n f ++ [z])) := by
  rw [Nat.zero_add, List.nil_append] at h
  rw [bl_append]
  exact h

set_option linter.unusedSimpArgs false in
set_option maxHeartbeats 2000000 in
theorem l5Value_own (b off n cap : Nat) (f : Nat → Int) (k x : Int) (s : ByteArray) (w : World) (hv : View w (some ⟨b, off, none⟩) n cap f) (hn : n ≤ 17592186000000) (hx : -9223372036854775808 ≤ x ∧ x ≤ 9223372036854775807) (hs : s.size ≤ 1000) :
    Calls Try.prog 59 #[.slice (some ⟨b, off, none⟩) n cap, .agg #[.int .i64 k, .int .i64 x, .string s]] w fun e w' => ∃ v, e = .returned v ∧ w'.ownsRow w.heap.size 5 1 v (n + (valL k x s).length) (bl (lof n f ++ valL k x s)) ∧ Below w.heap.size w w' := by
  obtain ⟨i0, hi, hz0, hz1, hz2⟩ := info_parts Try.info5
  have hb0 : Below w.heap.size w (w.alloc (.cells #[.int .i64 k, .int .i64 x, .string s] 59)) := (Below.refl _ _).alloc (Nat.le_refl _) _
  have hV := Box.new w k x s
  have hsz : (w.alloc (.cells #[.int .i64 k, .int .i64 x, .string s] 59)).heap.size = w.heap.size + 1 := by simp
  have hv1 := hv.below hb0
  by_cases k1 : k = 1
  · subst k1
    have e : valL 1 x s = fixL x := rfl
    rw [e, fixL_len]
    go_enter Try.func59, Try.ntmps59
    go_wp2_with fail
    refine (putFix_own b off n cap f x _ hv1 (by omega) hx.1 hx.2).mono ?_
    rintro e w1 ⟨v, rfl, hown, hb1⟩
    have HO : Hid _ := own_down hown (by rw [hsz]; omega : w.heap.size ≤ _)
    have HB : Hid (Below w.heap.size w w1) := hb0.trans (hb1.mono (by rw [hsz]; omega))
    clear hown hb1 hv1 hV hb0
    go_wp2
    go_ret
    exact ⟨v, rfl, HO.out, HB.out⟩
  by_cases k2 : k = 2
  · subst k2
    have e : valL 2 x s = varL x := rfl
    rw [e]
    go_enter Try.func59, Try.ntmps59
    go_wp2_with fail
    refine (putVar_own b off n cap f x _ hv1 (by omega) hx.1 hx.2).mono ?_
    rintro e w1 ⟨v, rfl, hown, hb1⟩
    have HO : Hid _ := own_down hown (by rw [hsz]; omega : w.heap.size ≤ _)
    have HB : Hid (Below w.heap.size w w1) := hb0.trans (hb1.mono (by rw [hsz]; omega))
    clear hown hb1 hv1 hV hb0
    go_wp2
    go_ret
    exact ⟨v, rfl, HO.out, HB.out⟩
  by_cases k3 : k = 3
  · subst k3
    have e : valL 3 x s = escL (sl s) ++ [0, 1] := rfl
    have hE : (escL (sl s) ++ [0, 1]).length = escN s := by simp [escN]
    rw [e, hE]
    go_enter Try.func59, Try.ntmps59
    go_wp2_with fail
    refine (putEsc_own b off n cap f s _ hv1 (by omega) (by omega)).mono ?_
    rintro e w1 ⟨v, rfl, hown, hb1⟩
    have HO : Hid _ := own_down hown (by rw [hsz]; omega : w.heap.size ≤ _)
    have HB : Hid (Below w.heap.size w w1) := hb0.trans (hb1.mono (by rw [hsz]; omega))
    clear hown hb1 hv1 hV hb0
    go_wp2
    go_ret
    exact ⟨v, rfl, HO.out, HB.out⟩
  have e : valL k x s = [x % 256] := by unfold valL; rw [if_neg k1, if_neg k2, if_neg k3]
  rw [e]
  have q1 : (k == 1) = false := by simpa using k1
  have q2 : (k == 2) = false := by simpa using k2
  have q3 : (k == 3) = false := by simpa using k3
  have hw : IntKind.u8.wrap x = x % 256 := u8_wrap x
  clear k1 k2 k3 e
  go_enter Try.func59, Try.ntmps59
  go_wp2_with fail
  refine wp_region_held_drew (S := fun W => Box W w.heap.size k x s) (by kernel_rfl) hV.drew (fun hHeld => ?_)
  refine' wpAnyH_take (i := 1) (v := _) rfl (by kernel_rfl) (by kernel_rfl) (by kernel_rfl) (fun _ _ _ h => h) (Or.inl ⟨by kernel_rfl, ?h1⟩) (by assumption) ?r1
  case h1 => intro W hW; go_simp; all_goals with_reducible rfl
  change wpAnyH _ _ _ _ _ _ _ (Act.put _ (some 26) _) _
  simp only [Act.put, List.setIfInBounds_toArray, List.set_cons_zero, List.set_cons_succ]
  refine' wpAnyH_take (i := 3) (v := _) rfl (by kernel_rfl) (by kernel_rfl) (by kernel_rfl) (fun _ _ _ h => h) (Or.inl ⟨by kernel_rfl, ?h3⟩) (by assumption) ?r3
  case h3 => intro W hW; go_simp; all_goals with_reducible rfl
  change wpAnyH _ _ _ _ _ _ _ (Act.put _ (some 28) _) _
  simp only [Act.put, List.setIfInBounds_toArray, List.set_cons_zero, List.set_cons_succ]
  refine' wpAnyH_take (i := 4) (v := _) rfl (by kernel_rfl) (by kernel_rfl) (by kernel_rfl) (fun _ _ _ h => h) (Or.inl ⟨by kernel_rfl, ?h4⟩) (by assumption) ?r4
  case h4 => intro W hW; obtain ⟨c0, c1, c2⟩ := Box.cells hW; go_simp; all_goals with_reducible rfl
  change wpAnyH _ _ _ _ _ _ _ (Act.put _ (some 29) _) _
  simp only [Act.put, List.setIfInBounds_toArray, List.set_cons_zero, List.set_cons_succ]
  refine' wpAnyH_take (i := 5) (v := _) rfl (by kernel_rfl) (by kernel_rfl) (by kernel_rfl) (fun _ _ _ h => h) (Or.inl ⟨by kernel_rfl, ?h5⟩) (by assumption) ?r5
  case h5 => intro W hW; go_simp; all_goals with_reducible rfl
  change wpAnyH _ _ _ _ _ _ _ (Act.put _ (some 30) _) _
  simp only [Act.put, List.setIfInBounds_toArray, List.set_cons_zero, List.set_cons_succ]
  refine wpAnyH_ready (rs := [0, 6]) (by kernel_rfl) (by simp) ?_
  refine AllReadyH.cons rfl (fun KK hK => ?_) (AllReadyH.cons rfl (fun KK hK => ?_) AllReadyH.nil)
  ·
    go_simp
    refine hK.out _ _ (hHeld.below ((Below.refl _ _).alloc (Nat.le_refl _) _)) (fun hHeld => ?_)
    clear hK KK
    try simp only [Act.put, List.setIfInBounds_toArray, List.set_cons_zero, List.set_cons_succ]
    refine wpAnyH_ready (rs := [2, 6]) (by kernel_rfl) (by simp) ?_
    refine AllReadyH.cons rfl (fun KK hK => ?_) (AllReadyH.cons rfl (fun KK hK => ?_) AllReadyH.nil)
    ·
      rw [if_pos (by kernel_rfl)]
      have hbw := (hb0.drew).alloc (by simp) (.cells #[] 5)
      refine wp_append_own _ (.tmp 25) (.tmp 26) 36 rfl (w.heap.size + 1) 5 i0 (.int .u8 0) 1 1 Try.underlying36 hi hz0 hz1 hz2 rfl (by decide) (.slice (some ⟨w.heap.size + 1, 0, none⟩) 0 0) 0 [] rfl (own_nil _ (w.heap.size + 1) _ (by simp) (by omega)) ⟨b, off, none⟩ n cap (bl (lof n f)) rfl (by rw [bl_len, lof_len]; omega) (cells_of_view (hv.below hbw)) (bl_one _) (by unfold maxLen; omega) (by omega) (by simp) ?_
      intro v1 w1 hown1 hgr1 hnil1
      have hb1 : Below w.heap.size w w1 := hbw.grown hgr1 hbw.size (fun k hk => by simp only [Value.ownBlock, Option.some.injEq] at hk; omega)
      have hs1 : w.heap.size + 1 ≤ w1.heap.size := by have := hgr1.size; simp at this; omega
      refine hK.out _ _ (hHeld.grown hgr1 (by simp only [Value.ownBlock, ne_eq, Option.some.injEq]; omega)) (fun hHeld => ?_)
      clear hK KK
      change wpAnyH _ _ _ _ _ _ _ (Act.put _ (some 27) _) _
      try simp only [Act.put, List.setIfInBounds_toArray, List.set_cons_zero, List.set_cons_succ]
      refine wpAnyH_ready (rs := [6]) (by kernel_rfl) (by simp) ?_
      refine AllReadyH.cons rfl (fun KK hK => ?_) AllReadyH.nil
      go_simp
      refine hK.out _ _ (hHeld.below ((Below.refl _ _).alloc (Nat.le_refl _) _)) (fun hHeld => ?_)
      clear hK KK
      try simp only [Act.put, List.setIfInBounds_toArray, List.set_cons_zero, List.set_cons_succ]
      refine wpAnyH_ready (rs := [7]) (by kernel_rfl) (by simp) ?_
      refine AllReadyH.cons rfl (fun KK hK => ?_) AllReadyH.nil
      rw [if_pos (by kernel_rfl)]
      refine wp_append_own _ (.tmp 27) (.tmp 31) 36 rfl (w.heap.size + 1) 5 i0 (.int .u8 0) 1 1 Try.underlying36 hi hz0 hz1 hz2 rfl (by decide) v1 _ _ rfl (hown1.alloc _) ⟨w1.heap.size, 0, none⟩ 1 1 [.int .u8 (x % 256)] rfl rfl (cellNew _ _ _) (bl_one [x % 256]) (by unfold maxLen; omega) (by omega) (by first | omega | (simp; omega)) ?_
      intro v2 w2 hown2 hgr2 hnil2
      have hB2 : Below w.heap.size w w2 := (hb1.alloc hb1.size _).grown hgr2 (by have := hb1.size; simp; omega) (fun k hk => by have := (hown1.lt k hk).1; omega)
      have hO2 := own_down (one_more hown2) (Nat.le_succ w.heap.size)
      refine hK.out _ _ (hHeld.grown hgr2 (fun e => by have := (hown1.lt _ e).1; omega)) (fun hHeld => ?_)
      clear hK KK
      change wpAnyH _ _ _ _ _ _ _ (Act.put _ (some 32) _) _
      try simp only [Act.put, List.setIfInBounds_toArray, List.set_cons_zero, List.set_cons_succ]
      refine' wpAnyH_take (i := 8) (v := _) rfl (by kernel_rfl) (by kernel_rfl) (by kernel_rfl) (fun _ _ _ h => h) (Or.inl ⟨by kernel_rfl, ?hlastA⟩) (by assumption) ?rlastA
      case hlastA => intro W hW; go_simp; all_goals with_reducible rfl
      change wpAnyH _ _ _ _ _ _ _ (Act.put _ (some 4) _) _
      simp only [Act.put, List.setIfInBounds_toArray, List.set_cons_zero, List.set_cons_succ]
      refine wpAnyH_done (by kernel_rfl) ?_ _
      go_wp2
      go_ret
      exact ⟨v2, rfl, hO2, hB2⟩
    ·
      go_simp
      refine hK.out _ _ (hHeld.below ((Below.refl _ _).alloc (Nat.le_refl _) _)) (fun hHeld => ?_)
      clear hK KK
      try simp only [Act.put, List.setIfInBounds_toArray, List.set_cons_zero, List.set_cons_succ]
      refine wpAnyH_ready (rs := [2]) (by kernel_rfl) (by simp) ?_
      refine AllReadyH.cons rfl (fun KK hK => ?_) AllReadyH.nil
      rw [if_pos (by kernel_rfl)]
      have hbw := ((hb0.drew).alloc (by simp) (.cells #[] 5)).alloc (by simp; omega) (.cells #[.int .u8 (x % 256)] 5)
      refine wp_append_own _ (.tmp 25) (.tmp 26) 36 rfl (w.heap.size + 1) 5 i0 (.int .u8 0) 1 1 Try.underlying36 hi hz0 hz1 hz2 rfl (by decide) (.slice (some ⟨w.heap.size + 1, 0, none⟩) 0 0) 0 [] rfl ((own_nil _ (w.heap.size + 1) _ (by simp) (by omega)).alloc _) ⟨b, off, none⟩ n cap (bl (lof n f)) rfl (by rw [bl_len, lof_len]; omega) (cells_of_view (hv.below hbw)) (bl_one _) (by unfold maxLen; omega) (by omega) (by simp) ?_
      intro v1 w1 hown1 hgr1 hnil1
      have hb1 : Below w.heap.size w w1 := hbw.grown hgr1 hbw.size (fun k hk => by simp only [Value.ownBlock, Option.some.injEq] at hk; omega)
      have hs1 : w.heap.size + 1 ≤ w1.heap.size := by have := hgr1.size; simp at this; omega
      refine hK.out _ _ (hHeld.grown hgr1 (by simp only [Value.ownBlock, ne_eq, Option.some.injEq]; omega)) (fun hHeld => ?_)
      clear hK KK
      change wpAnyH _ _ _ _ _ _ _ (Act.put _ (some 27) _) _
      try simp only [Act.put, List.setIfInBounds_toArray, List.set_cons_zero, List.set_cons_succ]
      refine wpAnyH_ready (rs := [7]) (by kernel_rfl) (by simp) ?_
      refine AllReadyH.cons rfl (fun KK hK => ?_) AllReadyH.nil
      rw [if_pos (by kernel_rfl)]
      refine wp_append_own _ (.tmp 27) (.tmp 31) 36 rfl (w.heap.size + 1) 5 i0 (.int .u8 0) 1 1 Try.underlying36 hi hz0 hz1 hz2 rfl (by decide) v1 _ _ rfl (hown1) ⟨w.heap.size + 2, 0, none⟩ 1 1 [.int .u8 (x % 256)] rfl rfl (cells_kept (cellD _ (w.heap.size + 2) _ _ (by simp)) hgr1 (by simp) (by simp [Value.ownBlock])) (bl_one [x % 256]) (by unfold maxLen; omega) (by omega) (by first | omega | (simp; omega)) ?_
      intro v2 w2 hown2 hgr2 hnil2
      have hB2 : Below w.heap.size w w2 := hb1.grown hgr2 hb1.size (fun k hk => by have := (hown1.lt k hk).1; omega)
      have hO2 := own_down (one_more hown2) (Nat.le_succ w.heap.size)
      refine hK.out _ _ (hHeld.grown hgr2 (fun e => by have := (hown1.lt _ e).1; omega)) (fun hHeld => ?_)
      clear hK KK
      change wpAnyH _ _ _ _ _ _ _ (Act.put _ (some 32) _) _
      try simp only [Act.put, List.setIfInBounds_toArray, List.set_cons_zero, List.set_cons_succ]
      refine' wpAnyH_take (i := 8) (v := _) rfl (by kernel_rfl) (by kernel_rfl) (by kernel_rfl) (fun _ _ _ h => h) (Or.inl ⟨by kernel_rfl, ?hlastB⟩) (by assumption) ?rlastB
      case hlastB => intro W hW; go_simp; all_goals with_reducible rfl
      change wpAnyH _ _ _ _ _ _ _ (Act.put _ (some 4) _) _
      simp only [Act.put, List.setIfInBounds_toArray, List.set_cons_zero, List.set_cons_succ]
      refine wpAnyH_done (by kernel_rfl) ?_ _
      go_wp2
      go_ret
      exact ⟨v2, rfl, hO2, hB2⟩
  ·
    go_simp
    refine hK.out _ _ (hHeld.below ((Below.refl _ _).alloc (Nat.le_refl _) _)) (fun hHeld => ?_)
    clear hK KK
    try simp only [Act.put, List.setIfInBounds_toArray, List.set_cons_zero, List.set_cons_succ]
    refine wpAnyH_ready (rs := [0]) (by kernel_rfl) (by simp) ?_
    refine AllReadyH.cons rfl (fun KK hK => ?_) AllReadyH.nil
    go_simp
    refine hK.out _ _ (hHeld.below ((Below.refl _ _).alloc (Nat.le_refl _) _)) (fun hHeld => ?_)
    clear hK KK
    try simp only [Act.put, List.setIfInBounds_toArray, List.set_cons_zero, List.set_cons_succ]
    refine wpAnyH_ready (rs := [2]) (by kernel_rfl) (by simp) ?_
    refine AllReadyH.cons rfl (fun KK hK => ?_) AllReadyH.nil
    rw [if_pos (by kernel_rfl)]
    have hbw := ((hb0.drew).alloc (by simp) (.cells #[.int .u8 (x % 256)] 5)).alloc (by simp; omega) (.cells #[] 5)
    refine wp_append_own _ (.tmp 25) (.tmp 26) 36 rfl (w.heap.size + 1) 5 i0 (.int .u8 0) 1 1 Try.underlying36 hi hz0 hz1 hz2 rfl (by decide) (.slice (some ⟨w.heap.size + 2, 0, none⟩) 0 0) 0 [] rfl (own_nil _ (w.heap.size + 2) _ (by simp) (by omega)) ⟨b, off, none⟩ n cap (bl (lof n f)) rfl (by rw [bl_len, lof_len]; omega) (cells_of_view (hv.below hbw)) (bl_one _) (by unfold maxLen; omega) (by omega) (by simp) ?_
    intro v1 w1 hown1 hgr1 hnil1
    have hb1 : Below w.heap.size w w1 := hbw.grown hgr1 hbw.size (fun k hk => by simp only [Value.ownBlock, Option.some.injEq] at hk; omega)
    have hs1 : w.heap.size + 1 ≤ w1.heap.size := by have := hgr1.size; simp at this; omega
    refine hK.out _ _ (hHeld.grown hgr1 (by simp only [Value.ownBlock, ne_eq, Option.some.injEq]; omega)) (fun hHeld => ?_)
    clear hK KK
    change wpAnyH _ _ _ _ _ _ _ (Act.put _ (some 27) _) _
    try simp only [Act.put, List.setIfInBounds_toArray, List.set_cons_zero, List.set_cons_succ]
    refine wpAnyH_ready (rs := [7]) (by kernel_rfl) (by simp) ?_
    refine AllReadyH.cons rfl (fun KK hK => ?_) AllReadyH.nil
    rw [if_pos (by kernel_rfl)]
    refine wp_append_own _ (.tmp 27) (.tmp 31) 36 rfl (w.heap.size + 1) 5 i0 (.int .u8 0) 1 1 Try.underlying36 hi hz0 hz1 hz2 rfl (by decide) v1 _ _ rfl (hown1) ⟨w.heap.size + 1, 0, none⟩ 1 1 [.int .u8 (x % 256)] rfl rfl (cells_kept (cellDD _ (w.heap.size + 1) _ _ (by simp) _) hgr1 (by simp) (by simp [Value.ownBlock])) (bl_one [x % 256]) (by unfold maxLen; omega) (by omega) (by first | omega | (simp; omega)) ?_
    intro v2 w2 hown2 hgr2 hnil2
    have hB2 : Below w.heap.size w w2 := hb1.grown hgr2 hb1.size (fun k hk => by have := (hown1.lt k hk).1; omega)
    have hO2 := own_down (one_more hown2) (Nat.le_succ w.heap.size)
    refine hK.out _ _ (hHeld.grown hgr2 (fun e => by have := (hown1.lt _ e).1; omega)) (fun hHeld => ?_)
    clear hK KK
    change wpAnyH _ _ _ _ _ _ _ (Act.put _ (some 32) _) _
    try simp only [Act.put, List.setIfInBounds_toArray, List.set_cons_zero, List.set_cons_succ]
    refine' wpAnyH_take (i := 8) (v := _) rfl (by kernel_rfl) (by kernel_rfl) (by kernel_rfl) (fun _ _ _ h => h) (Or.inl ⟨by kernel_rfl, ?hlastC⟩) (by assumption) ?rlastC
    case hlastC => intro W hW; go_simp; all_goals with_reducible rfl
    change wpAnyH _ _ _ _ _ _ _ (Act.put _ (some 4) _) _
    simp only [Act.put, List.setIfInBounds_toArray, List.set_cons_zero, List.set_cons_succ]
    refine wpAnyH_done (by kernel_rfl) ?_ _
    go_wp2
    go_ret
    exact ⟨v2, rfl, hO2, hB2⟩
end Go.Proofs.Ytclegljalndaear

/-
  The model's Pick: of each part the value of its column, in a row of its own.
-/
namespace Go.Proofs.Ytclegljalndaear
open Go.RowKit
set_option maxRecDepth 4000

set_option linter.unusedSimpArgs false in
set_option maxHeartbeats 4000000 in
theorem specPick_any (a : Option Addr) (n cap : Nat) (fc ft : Nat → Int) (fu fd : Nat → Bool) (a2 : Option Addr) (m cap2 : Nat) (fk fn : Nat → Int) (fs : Nat → ByteArray) (w : World) (h : PView w a n cap fc ft fu fd) (h2 : VView w a2 m cap2 fk fn fs) (hn : n ≤ 1048576) (hm : m ≤ 1048576) :
    Calls Try.prog 32 #[.slice a n cap, .slice a2 m cap2] w fun e w' => ∃ v, e = .returned v ∧ v ≠ .slice none 0 0 ∧ w'.ownsRow w.heap.size 59 3 v n (rowC (pickK fc m fk) (pickK fc m fn) (pickS fc m fs) n) ∧ Below w.heap.size w w' := by
  obtain ⟨i0, hi, hz0, hz1, hz2⟩ := infoVal3
  have hown0 := World.ownsRow_lit (base := w.heap.size) (e := 59) (size := 3) w #[] 0 (Nat.le_refl _) (Nat.zero_le _) rfl
  have hb0 : Below w.heap.size w (w.alloc (.cells #[] 59)) := (Below.refl _ _).alloc (Nat.le_refl _) _
  go_enter Try.func32, Try.ntmps32
  go_wp2
  go_loopg [5, 6] n (fun q bv i wr => ∃ (k : Nat) (v : Value), k ≤ n ∧ q = n - k ∧ v = bv ∧ i = .int .i64 k ∧ v ≠ .slice none 0 0 ∧ wr.ownsRow w.heap.size 59 3 v k (rowC (pickK fc m fk) (pickK fc m fn) (pickS fc m fs) k) ∧ Below w.heap.size w wr)
  case atStart => exact ⟨0, _, Nat.zero_le _, rfl, rfl, rfl, by simp, hown0, hb0⟩
  case round =>
    obtain ⟨k, bv, hk, rfl, hbv, rfl, hne, hown, hB⟩ := hrel
    subst hbv
    have Hne : Hid (bv ≠ .slice none 0 0) := hne
    clear hne hown0 hb0
    by_cases hlt : k < n
    · have hkz : (k : Int) < (n : Int) := by omega
      have hV := Box.new wr 0 0 ⟨#[]⟩
      have hb2 : Below wr.heap.size wr (wr.alloc (.cells #[.int .i64 0, .int .i64 0, .string ⟨#[]⟩] 59)) := (Below.refl _ _).alloc (Nat.le_refl _) _
      obtain ⟨W1, hW1⟩ : ∃ W1, Hid (W1 = wr.alloc (.cells #[.int .i64 0, .int .i64 0, .string ⟨#[]⟩] 59)) := ⟨_, rfl⟩
      obtain ⟨A, hA⟩ : ∃ A, Hid (A = wr.heap.size) := ⟨_, rfl⟩
      rw [← hW1.out] at hV hb2
      rw [← hA.out] at hV
      have hAw : wr.heap.size ≤ A := by rw [hA.out]; exact Nat.le_refl _
      have hBW := hB.trans (hb2.mono hB.size)
      obtain ⟨b1, o1, rfl, hb1, hd1⟩ := (h.below hB).cells (by omega)
      obtain ⟨xw, -, -, -⟩ := hd1 k hlt
      have x0 : W1.cell? ⟨b1, o1 + k * 4, none⟩ = some (.int .i64 (fc k)) := by rw [hb2.cell (p := ⟨b1, o1 + k * 4, none⟩) hb1]; exact xw
      clear hd1
      by_cases hc : 0 ≤ fc k ∧ fc k < m
      · obtain ⟨b2, o2, rfl, hbb, hd2⟩ := (h2.below hBW).cells (by omega)
        obtain ⟨j, hj⟩ : ∃ j : Nat, Hid (fc k = j) := ⟨(fc k).toNat, by show _ = _; omega⟩
        have hjm : j < m := by have := hj.out; omega
        have hjz : (j : Int) < (m : Int) := by omega
        obtain ⟨y0, y1, y2⟩ := hd2 j hjm
        have HK : Hid (pickK fc m fk k = fk j) := by show _ = _; unfold pickK; rw [if_pos hc, hj.out]; simp
        have HN : Hid (pickK fc m fn k = fn j) := by show _ = _; unfold pickK; rw [if_pos hc, hj.out]; simp
        have HS : Hid (pickS fc m fs k = fs j) := by show _ = _; unfold pickS; rw [if_pos hc, hj.out]; simp
        rw [hj.out] at x0 xw
        clear hd2 h h2 hc
        obtain ⟨q0, hq0⟩ : ∃ p, Hid (fk j = p) := ⟨_, rfl⟩
        obtain ⟨q1, hq1⟩ : ∃ p, Hid (fn j = p) := ⟨_, rfl⟩
        obtain ⟨q2, hq2⟩ : ∃ p, Hid (fs j = p) := ⟨_, rfl⟩
        rw [hq0.out] at y0 HK
        rw [hq1.out] at y1 HN
        rw [hq2.out] at y2 HS
        go_wp2_with fail
        clear xw
        rw [← hW1.out, ← hA.out]
        refine (l1In_yes (j : Int) 0 ((m : Int) - 1) _ (by omega) (by omega)).mono ?_
        rintro e _ ⟨rfl, rfl⟩
        obtain ⟨f0, f1, f2⟩ := hV.frozen
        obtain ⟨c0, c1, c2⟩ := hV.cells
        have hV2 := hV.put q0 q1 q2
        replace hb2 := ((hb2.setCell (p := ⟨A, 0, none⟩) hAw (.int .i64 q0)).setCell (p := ⟨A, 1, none⟩) hAw (.int .i64 q1)).setCell (p := ⟨A, 2, none⟩) hAw (.string q2)
        obtain ⟨W2, hW2⟩ : ∃ W2, Hid (W2 = ((W1.setCell ⟨A, 0, none⟩ (.int .i64 q0)).setCell ⟨A, 1, none⟩ (.int .i64 q1)).setCell ⟨A, 2, none⟩ (.string q2)) := ⟨_, rfl⟩
        rw [← hW2.out] at hV2 hb2
        obtain ⟨z0, z1, z2⟩ := hV2.cells
        have hb3 : Below wr.heap.size wr (W2.alloc (.cells #[.int .i64 q0, .int .i64 q1, .string q2] 59)) := hb2.alloc hb2.size _
        have hown3 := own_below3 hown hb3
        have hcl := cells_one W2 q0 q1 q2
        have hsz3 : (W2.alloc (.cells #[.int .i64 q0, .int .i64 q1, .string q2] 59)).heap.size = W2.heap.size + 1 := by simp
        have hB3 := hB.trans (hb3.mono hB.size)
        obtain ⟨W3, hW3⟩ : ∃ W3, Hid (W3 = W2.alloc (.cells #[.int .i64 q0, .int .i64 q1, .string q2] 59)) := ⟨_, rfl⟩
        obtain ⟨B3, hB3e⟩ : ∃ B3, Hid (B3 = W2.heap.size) := ⟨_, rfl⟩
        rw [← hW3.out] at hown3 hcl hsz3 hB3
        rw [← hB3e.out] at hcl
        have hbs : w.heap.size ≤ W3.heap.size := hB3.size
        go_wp2_with (first | (at_builtin; refine wpList_append_own _ rfl (.tmp 33) (.tmp 35) 32 rfl w.heap.size 59 i0 (.agg #[.int .i64 0, .int .i64 0, .string ⟨#[]⟩]) 3 32 Try.underlying32 hi hz0 hz1 hz2 rfl (by decide) bv k (rowC (pickK fc m fk) (pickK fc m fn) (pickS fc m fs) k) rfl hown3 ⟨B3, 0, none⟩ 1 1 [.int .i64 q0, .int .i64 q1, .string q2] rfl rfl hcl (one_cells _ _ _) (by unfold maxLen; omega) (by omega) hbs ?_; intro v4 w4 hown4 hgr4 hnil4) | rw [← hW3.out, ← hB3e.out] | rw [← hW2.out])
        have Hne4 : Hid (v4 ≠ .slice none 0 0) := fun e => Hne.out ((hnil4.1 e).1)
        have hB4 : Hid (Below w.heap.size w w4) := hB3.grown hgr4 hB3.size (fun j hj => (hown3.lt j hj).1)
        have hown5 : Hid (w4.ownsRow w.heap.size 59 3 v4 (k + 1) (rowC (pickK fc m fk) (pickK fc m fn) (pickS fc m fs) (k + 1))) := by
          show w4.ownsRow _ _ _ _ _ _
          rw [rowC, HK.out, HN.out, HS.out]
          exact hown4
        clear z0 z1 z2 c0 c1 c2 f0 f1 f2 y0 y1 y2 x0 hown hown3 hown4 hgr4 hnil4 hcl hB3 hb3 hb2
        go_wp2
        go_roundg (n - (k + 1))
        case measure => omega
        case rel => exact ⟨k + 1, v4, by omega, rfl, rfl, by go_num, Hne4.out, hown5.out, hB4.out⟩
      · have HK : Hid (pickK fc m fk k = 0) := by show _ = _; unfold pickK; rw [if_neg hc]
        have HN : Hid (pickK fc m fn k = 0) := by show _ = _; unfold pickK; rw [if_neg hc]
        have HS : Hid (pickS fc m fs k = ⟨#[]⟩) := by show _ = _; unfold pickS; rw [if_neg hc]
        have hc2 : fc k < 0 ∨ (m : Int) - 1 < fc k := by omega
        obtain ⟨p0, hp0⟩ : ∃ p, Hid (fc k = p) := ⟨_, rfl⟩
        rw [hp0.out] at x0 xw hc2
        clear h h2 hc
        go_wp2_with fail
        clear xw
        rw [← hW1.out, ← hA.out]
        refine (l1In_no p0 0 ((m : Int) - 1) _ hc2).mono ?_
        rintro e _ ⟨rfl, rfl⟩
        obtain ⟨z0, z1, z2⟩ := hV.cells
        have hb3 : Below wr.heap.size wr (W1.alloc (.cells #[.int .i64 0, .int .i64 0, .string ⟨#[]⟩] 59)) := hb2.alloc hb2.size _
        have hown3 := own_below3 hown hb3
        have hcl := cells_one W1 0 0 ⟨#[]⟩
        have hsz3 : (W1.alloc (.cells #[.int .i64 0, .int .i64 0, .string ⟨#[]⟩] 59)).heap.size = W1.heap.size + 1 := by simp
        have hB3 := hB.trans (hb3.mono hB.size)
        obtain ⟨W3, hW3⟩ : ∃ W3, Hid (W3 = W1.alloc (.cells #[.int .i64 0, .int .i64 0, .string ⟨#[]⟩] 59)) := ⟨_, rfl⟩
        obtain ⟨B3, hB3e⟩ : ∃ B3, Hid (B3 = W1.heap.size) := ⟨_, rfl⟩
        rw [← hW3.out] at hown3 hcl hsz3 hB3
        rw [← hB3e.out] at hcl
        have hbs : w.heap.size ≤ W3.heap.size := hB3.size
        go_wp2_with (first | (at_builtin; refine wpList_append_own _ rfl (.tmp 33) (.tmp 35) 32 rfl w.heap.size 59 i0 (.agg #[.int .i64 0, .int .i64 0, .string ⟨#[]⟩]) 3 32 Try.underlying32 hi hz0 hz1 hz2 rfl (by decide) bv k (rowC (pickK fc m fk) (pickK fc m fn) (pickS fc m fs) k) rfl hown3 ⟨B3, 0, none⟩ 1 1 [.int .i64 0, .int .i64 0, .string ⟨#[]⟩] rfl rfl hcl (one_cells _ _ _) (by unfold maxLen; omega) (by omega) hbs ?_; intro v4 w4 hown4 hgr4 hnil4) | rw [← hW3.out, ← hB3e.out])
        have Hne4 : Hid (v4 ≠ .slice none 0 0) := fun e => Hne.out ((hnil4.1 e).1)
        have hB4 : Hid (Below w.heap.size w w4) := hB3.grown hgr4 hB3.size (fun j hj => (hown3.lt j hj).1)
        have hown5 : Hid (w4.ownsRow w.heap.size 59 3 v4 (k + 1) (rowC (pickK fc m fk) (pickK fc m fn) (pickS fc m fs) (k + 1))) := by
          show w4.ownsRow _ _ _ _ _ _
          rw [rowC, HK.out, HN.out, HS.out]
          exact hown4
        clear z0 z1 z2 x0 hown hown3 hown4 hgr4 hnil4 hcl hB3 hb3 hb2
        go_wp2
        go_roundg (n - (k + 1))
        case measure => omega
        case rel => exact ⟨k + 1, v4, by omega, rfl, rfl, by go_num, Hne4.out, hown5.out, hB4.out⟩
    · have hkz : ¬ (k : Int) < (n : Int) := by omega
      obtain rfl : k = n := by omega
      have hO : Hid _ := hown
      clear hown
      go_wp2
      go_ret
      exact ⟨_, rfl, Hne.out, hO.out, hB⟩
end Go.Proofs.Ytclegljalndaear

/-
  What a round of a loop over an iterator keeps: all that lay at the start of the call, and the two boxes that the iterator holds.
-/
namespace Go.Proofs.Ytclegljalndaear
open Go.RowKit
set_option maxRecDepth 4000

/-- What a round that goes on keeps. -/
structure KpB (n₀ Bl Bv : Nat) (W W' : World) : Prop where
  below : Below n₀ W W'
  bl : W'.heap[Bl]? = W.heap[Bl]?
  bv : W'.heap[Bv]? = W.heap[Bv]?
theorem KpB.refl (n₀ Bl Bv : Nat) (W : World) : KpB n₀ Bl Bv W W := ⟨Below.refl _ _, rfl, rfl⟩
theorem KpB.trans {n₀ Bl Bv : Nat} {A B C : World} (h : KpB n₀ Bl Bv A B) (k : KpB n₀ Bl Bv B C) : KpB n₀ Bl Bv A C := ⟨h.below.trans k.below, k.bl.trans h.bl, k.bv.trans h.bv⟩
/-- Whatever leaves all that lay as it lay. -/
theorem KpB.ofBelow {n₀ Bl Bv : Nat} {W W' : World} (h : Below W.heap.size W W') (hn : n₀ ≤ W.heap.size) (hl : Bl < W.heap.size) (hv : Bv < W.heap.size) : KpB n₀ Bl Bv W W' := ⟨h.mono hn, h.block Bl hl, h.block Bv hv⟩
/-- A step that turns one block. -/
theorem KpB.ofGrown {n₀ Bl Bv : Nat} {W W' : World} {row : Option Nat} (hg : W.grownBy W' row) (hn : n₀ ≤ W.heap.size) (hl : Bl < W.heap.size) (hv : Bv < W.heap.size) (hr : ∀ k, row = some k → n₀ ≤ k ∧ k ≠ Bl ∧ k ≠ Bv) : KpB n₀ Bl Bv W W' :=
  ⟨⟨hg.os, hg.tape, hg.output, hg.size, fun k hk => hg.block k (by omega) (fun e => by have := (hr k e.symm).1; omega)⟩, hg.block Bl hl (fun e => (hr Bl e.symm).2.1 rfl), hg.block Bv hv (fun e => (hr Bv e.symm).2.2 rfl)⟩
theorem KpB.put {n₀ Bl Bv : Nat} {w : World} (hn : n₀ ≤ w.heap.size) (hl : Bl < w.heap.size) (hv : Bv < w.heap.size) (W : World) (l : Nat) (o o' : Obj) (hle : w.heap.size ≤ l) (h : W.heap[l]? = some o) (h1 : o.isCells = false) (h2 : o.isWalk = false) : KpB n₀ Bl Bv W (W.putObj l o') :=
  ⟨belowK_b hn W l o o' hle h h1 h2, World.putObj_heap_other (by omega), World.putObj_heap_other (by omega)⟩
theorem Boxed.kpl {n₀ Bl Bv : Nat} {W W' : World} {t : TypeId} {v : Value} (h : Boxed W Bl t v) (k : KpB n₀ Bl Bv W W') : Boxed W' Bl t v := k.bl.trans h
theorem Boxed.kpv {n₀ Bl Bv : Nat} {W W' : World} {t : TypeId} {v : Value} (h : Boxed W Bv t v) (k : KpB n₀ Bl Bv W W') : Boxed W' Bv t v := k.bv.trans h
theorem Boxed.below' {W W' : World} {B : Nat} {t : TypeId} {v : Value} (h : Boxed W B t v) (k : Below W.heap.size W W') : Boxed W' B t v := (k.block B h.lt).trans h
theorem grownBy_drew' (W : World) : W.grownBy W.drew none := ⟨rfl, rfl, rfl, Nat.le_refl _, fun _ _ _ => rfl⟩
theorem grownBy_below' {W W' : World} (h : Below W.heap.size W W') : W.grownBy W' none := ⟨h.os, h.tape, h.output, h.size, fun k hk _ => h.block k hk⟩
theorem AbidesFrom.step {β : Type} {B : Nat} {J : β → World → Prop} (h : AbidesFrom B J) {s : β} {W W' : World} (hs : J s W) (hg : W.grownBy W' none) : J s W' := h s W W' none hs hg (fun _ e => by cases e)
/-- 'KeepsFrom' of whatever leaves all that lay as it lay. -/
theorem KeepsFrom.ofBelow {B : Nat} {W W' : World} (h : Below W.heap.size W W') : KeepsFrom B W W' := ⟨h.size, fun k _ _ hk _ => (h.block k (Array.getElem?_eq_some_iff.1 hk).1).trans hk⟩
/-- 'KpB .. w₀ ·' abides what the loop itself turns. -/
theorem ownFrom_kpB {β : Type} {n₀ Bl Bv B' : Nat} {w₀ : World} (hn : n₀ ≤ B') (hl : Bl < B') (hv : Bv < B') (hB : B' ≤ w₀.heap.size) : OwnFrom B' (fun (_ : β) W => KpB n₀ Bl Bv w₀ W) :=
  fun _ X Y row hs hg hr => by
    have hs0 := hs.below.size
    refine ⟨hs.below.trans ⟨hg.os, hg.tape, hg.output, hg.size, fun k hk => hg.block k (by omega) (fun e => by have := (hr k e.symm).1; omega)⟩, ?_, ?_⟩
    · exact (hg.block Bl (by omega) (fun e => by have := (hr Bl e.symm).1; omega)).trans hs.bl
    · exact (hg.block Bv (by omega) (fun e => by have := (hr Bv e.symm).1; omega)).trans hs.bv

/-- The first j of the indices. -/
theorem fin_take {k j : Nat} (h : j < k) : (List.finRange k).take (j + 1) = (List.finRange k).take j ++ [⟨j, h⟩] := by
  rw [List.take_add_one, List.getElem?_eq_getElem (by simpa using h)]
  simp
theorem fin_len {k j : Nat} (h : j ≤ k) : ((List.finRange k).take j).length = j := by simp [h]
end Go.Proofs.Ytclegljalndaear

/-
  Parts and values in boxes of a round, and what the loop itself turns.
-/
namespace Go.Proofs.Ytclegljalndaear
open Go.RowKit
set_option maxRecDepth 4000

theorem PBox.ownK {W W' : World} {row : Option Nat} {B : Nat} {c t : Int} {nul d : Bool} (h : PBox W B c t nul d) (hg : W.grownBy W' row) (hr : ∀ r, row = some r → ∃ o : Obj, W.heap[r]? = some o ∧ o.isCells = false) : PBox W' B c t nul d := by
  obtain ⟨o, ho, hc⟩ := cells_of_cell h.cells.1
  exact h.of_block (grownBy_keeps_cells hg hr ho hc)
theorem Box.ownK {W W' : World} {row : Option Nat} {B : Nat} {k n : Int} {s : ByteArray} (h : Box W B k n s) (hg : W.grownBy W' row) (hr : ∀ r, row = some r → ∃ o : Obj, W.heap[r]? = some o ∧ o.isCells = false) : Box W' B k n s := by
  obtain ⟨o, ho, hc⟩ := cells_of_cell h.cells.1
  exact h.of_block (grownBy_keeps_cells hg hr ho hc)
theorem Boxed.ownK {W W' : World} {row : Option Nat} {B : Nat} {t : TypeId} {v : Value} (h : Boxed W B t v) (hg : W.grownBy W' row) (hr : ∀ r, row = some r → ∃ o : Obj, W.heap[r]? = some o ∧ o.isCells = false) : Boxed W' B t v := by
  obtain ⟨o, ho, hc⟩ := cells_of_cell h.cell
  exact (grownBy_keeps_cells hg hr ho hc).trans h
theorem Below.put' {n₀ : Nat} {w₀ W : World} {D : Nat} {o o' : Obj} (h : Below n₀ w₀ W) (hn : n₀ ≤ D) (hK : W.heap[D]? = some o) : Below n₀ w₀ (W.putObj D o') :=
  h.trans ((Below.refl n₀ W).grown (grownBy_putObj' W D o') (by have := (Array.getElem?_eq_some_iff.1 hK).1; omega) (fun k e => by cases e; omega))
end Go.Proofs.Ytclegljalndaear

