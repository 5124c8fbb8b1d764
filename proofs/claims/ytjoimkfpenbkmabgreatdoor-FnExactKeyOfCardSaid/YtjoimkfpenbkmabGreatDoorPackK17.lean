/-
  Together: PartPutSpec, RowCOwn, FlipOwn, TurnList
-/
import Derived.Test.YtjoimkfpenbkmabGreatDoorPackK15
import Derived.Test.YtjoimkfpenbkmabGreatDoorPackK16
import Derived.Deep.RegionHeld3
import Derived.Test.YtjoimkfpenbkmabGreatDoorPackK1
import Derived.Test.YtjoimkfpenbkmabGreatDoorFlipWalks
/-
  The model's PutPart: what was there, and behind it the bytes of what fits, in memory of its own.
-/
namespace Go.Proofs.YtjoimkfpenbkmabGreatDoor
open Go.RowKit
set_option maxRecDepth 4000

/-- A new row without bytes. -/
theorem own_nil (W : World) (A B : Nat) (hA : A = W.heap.size) (hB : B ≤ A) : (W.alloc (.cells #[] 5)).ownsRow B 5 1 (.slice (some ⟨A, 0, none⟩) 0 0) 0 [] := by
  subst hA
  exact World.ownsRow_lit W #[] 0 hB (Nat.zero_le _) rfl
/-- A new row of one byte. -/
theorem cell_nil (W : World) (A : Nat) (z : Value) (t : TypeId) (hA : A = W.heap.size) : ∀ j u, [z][j]? = some u → (W.alloc (.cells #[z] t)).cell? ((⟨A, 0, none⟩ : Addr).add j) = some u := by
  subst hA
  exact cellNew W z t
theorem cells_kept {W W' : World} {A : Nat} {z : Value} {row : Option Nat} (h : ∀ j u, [z][j]? = some u → W.cell? ((⟨A, 0, none⟩ : Addr).add j) = some u) (hg : W.grownBy W' row) (hA : A < W.heap.size) (hne : row ≠ some A) : ∀ j u, [z][j]? = some u → W'.cell? ((⟨A, 0, none⟩ : Addr).add j) = some u := by
  intro j u hj
  rw [← h j u hj]
  apply World.cell?_of_block
  show W'.heap[((⟨A, 0, none⟩ : Addr).add j).block]? = _
  have : ((⟨A, 0, none⟩ : Addr).add j).block = A := by unfold Addr.add; split <;> rfl
  rw [this]
  exact hg.block A hA hne.symm
theorem cells_alloc {W : World} {A : Nat} {z : Value} (h : ∀ j u, [z][j]? = some u → W.cell? ((⟨A, 0, none⟩ : Addr).add j) = some u) (hA : A < W.heap.size) (o : Obj) : ∀ j u, [z][j]? = some u → (W.alloc o).cell? ((⟨A, 0, none⟩ : Addr).add j) = some u := by
  intro j u hj
  rw [← h j u hj]
  apply World.cell?_of_block
  show (W.alloc o).heap[((⟨A, 0, none⟩ : Addr).add j).block]? = _
  have : ((⟨A, 0, none⟩ : Addr).add j).block = A := by unfold Addr.add; split <;> rfl
  rw [this]
  exact Below.heap_alloc _ _ _ hA
theorem cellD (W : World) (A : Nat) (z : Value) (t : TypeId) (hA : A = W.heap.size) : ∀ j u, [z][j]? = some u → (W.alloc (.cells #[z] t)).drew.cell? ((⟨A, 0, none⟩ : Addr).add j) = some u := cell_nil W A z t hA
theorem cellDD (W : World) (A : Nat) (z : Value) (t : TypeId) (hA : A = W.heap.size) (o : Obj) : ∀ j u, [z][j]? = some u → ((W.alloc (.cells #[z] t)).alloc o).drew.cell? ((⟨A, 0, none⟩ : Addr).add j) = some u := cells_alloc (cell_nil W A z t hA) (by simp; omega) o
theorem Box.grown {W W' : World} {B : Nat} {k n : Int} {s : ByteArray} {row : Option Nat} (h : Box W B k n s) (hg : W.grownBy W' row) (hne : row ≠ some B) : Box W' B k n s := h.of_block (hg.block B h.lt hne.symm)
theorem own_down {W : World} {B D : Nat} {t : TypeId} {v : Value} {N : Nat} {l : List Value} (h : W.ownsRow B t 1 v N l) (hD : D ≤ B) : W.ownsRow D t 1 v N l := by
  obtain ⟨h1, h2⟩ := h
  refine ⟨h1, ?_⟩
  rcases h2 with h2 | ⟨g, cap, cur, rfl, hB, r⟩
  · exact Or.inl h2
  · exact Or.inr ⟨g, cap, cur, rfl, Nat.le_trans hD hB, r⟩
theorem one_more {W : World} {B : Nat} {t : TypeId} {v : Value} {n : Nat} {f : Nat → Int} {z : Int} (h : W.ownsRow B t 1 v (0 + n + 1) ([] ++ bl (lof n f) ++ [.int .u8 z])) : W.ownsRow B t 1 v (n + 1) (bl (lof n f ++ [z])) := by
  rw [Nat.zero_add, List.nil_append] at h
  rw [bl_append]
  exact h

set_option linter.unusedSimpArgs false in
set_option maxHeartbeats 2000000 in
theorem l5Value_own (b off n cap : Nat) (f : Nat → Int) (k x : Int) (s : ByteArray) (w : World) (hv : View w (some ⟨b, off, none⟩) n cap f) (hn : n ≤ 17592186000000) (hx : -9223372036854775808 ≤ x ∧ x ≤ 9223372036854775807) (hs : s.size ≤ 1000) :
    Calls Tryz.prog 112 #[.slice (some ⟨b, off, none⟩) n cap, .agg #[.int .i64 k, .int .i64 x, .string s]] w fun e w' => ∃ v, e = .returned v ∧ w'.ownsRow w.heap.size 5 1 v (n + (valL k x s).length) (bl (lof n f ++ valL k x s)) ∧ Below w.heap.size w w' := by
  obtain ⟨i0, hi, hz0, hz1, hz2⟩ := info_parts Tryz.info5
  have hb0 : Below w.heap.size w (w.alloc (.cells #[.int .i64 k, .int .i64 x, .string s] 62)) := (Below.refl _ _).alloc (Nat.le_refl _) _
  have hV := Box.new w k x s
  have hsz : (w.alloc (.cells #[.int .i64 k, .int .i64 x, .string s] 62)).heap.size = w.heap.size + 1 := by simp
  have hv1 := hv.below hb0
  by_cases k1 : k = 1
  · subst k1
    have e : valL 1 x s = fixL x := rfl
    rw [e, fixL_len]
    go_enter Tryz.func112, Tryz.ntmps112
    go_wp2_with fail
    refine (putFix_own b off n cap f x _ hv1 (by omega) hx.1 hx.2).mono ?_
    rintro e w1 ⟨v, rfl, hown, hb1⟩
    have HO : Hid _ := own_down hown (by rw [hsz]; omega : w.heap.size ≤ _)
    have HB : Hid (Below w.heap.size w w1) := hb0.trans (hb1.mono (by rw [hsz]; omega))
    clear hown hb1 hv1 hV hb0
    go_wp2
    go_ret
    exact ⟨v, rfl, HO.out, HB.out⟩
  by_cases k2 : k = 2
  · subst k2
    have e : valL 2 x s = varL x := rfl
    rw [e]
    go_enter Tryz.func112, Tryz.ntmps112
    go_wp2_with fail
    refine (putVar_own b off n cap f x _ hv1 (by omega) hx.1 hx.2).mono ?_
    rintro e w1 ⟨v, rfl, hown, hb1⟩
    have HO : Hid _ := own_down hown (by rw [hsz]; omega : w.heap.size ≤ _)
    have HB : Hid (Below w.heap.size w w1) := hb0.trans (hb1.mono (by rw [hsz]; omega))
    clear hown hb1 hv1 hV hb0
    go_wp2
    go_ret
    exact ⟨v, rfl, HO.out, HB.out⟩
  by_cases k3 : k = 3
  · subst k3
    have e : valL 3 x s = escL (sl s) ++ [0, 1] := rfl
    have hE : (escL (sl s) ++ [0, 1]).length = escN s := by simp [escN]
    rw [e, hE]
    go_enter Tryz.func112, Tryz.ntmps112
    go_wp2_with fail
    refine (putEsc_own b off n cap f s _ hv1 (by omega) (by omega)).mono ?_
    rintro e w1 ⟨v, rfl, hown, hb1⟩
    have HO : Hid _ := own_down hown (by rw [hsz]; omega : w.heap.size ≤ _)
    have HB : Hid (Below w.heap.size w w1) := hb0.trans (hb1.mono (by rw [hsz]; omega))
    clear hown hb1 hv1 hV hb0
    go_wp2
    go_ret
    exact ⟨v, rfl, HO.out, HB.out⟩
  have e : valL k x s = [x % 256] := by unfold valL; rw [if_neg k1, if_neg k2, if_neg k3]
  rw [e]
  have q1 : (k == 1) = false := by simpa using k1
  have q2 : (k == 2) = false := by simpa using k2
  have q3 : (k == 3) = false := by simpa using k3
  have hw : IntKind.u8.wrap x = x % 256 := u8_wrap x
  clear k1 k2 k3 e
  go_enter Tryz.func112, Tryz.ntmps112
  go_wp2_with fail
  refine wp_region_held_drew (S := fun W => Box W w.heap.size k x s) (by kernel_rfl) hV.drew (fun hHeld => ?_)
  refine' wpAnyH_take (i := 1) (v := _) rfl (by kernel_rfl) (by kernel_rfl) (by kernel_rfl) (fun _ _ _ h => h) (Or.inl ⟨by kernel_rfl, ?h1⟩) (by assumption) ?r1
  case h1 => intro W hW; go_simp; all_goals with_reducible rfl
  change wpAnyH _ _ _ _ _ _ _ (Act.put _ (some 26) _) _
  simp only [Act.put, List.setIfInBounds_toArray, List.set_cons_zero, List.set_cons_succ]
  refine' wpAnyH_take (i := 3) (v := _) rfl (by kernel_rfl) (by kernel_rfl) (by kernel_rfl) (fun _ _ _ h => h) (Or.inl ⟨by kernel_rfl, ?h3⟩) (by assumption) ?r3
  case h3 => intro W hW; go_simp; all_goals with_reducible rfl
  change wpAnyH _ _ _ _ _ _ _ (Act.put _ (some 28) _) _
  simp only [Act.put, List.setIfInBounds_toArray, List.set_cons_zero, List.set_cons_succ]
  refine' wpAnyH_take (i := 4) (v := _) rfl (by kernel_rfl) (by kernel_rfl) (by kernel_rfl) (fun _ _ _ h => h) (Or.inl ⟨by kernel_rfl, ?h4⟩) (by assumption) ?r4
  case h4 => intro W hW; obtain ⟨c0, c1, c2⟩ := Box.cells hW; go_simp; all_goals with_reducible rfl
  change wpAnyH _ _ _ _ _ _ _ (Act.put _ (some 29) _) _
  simp only [Act.put, List.setIfInBounds_toArray, List.set_cons_zero, List.set_cons_succ]
  refine' wpAnyH_take (i := 5) (v := _) rfl (by kernel_rfl) (by kernel_rfl) (by kernel_rfl) (fun _ _ _ h => h) (Or.inl ⟨by kernel_rfl, ?h5⟩) (by assumption) ?r5
  case h5 => intro W hW; go_simp; all_goals with_reducible rfl
  change wpAnyH _ _ _ _ _ _ _ (Act.put _ (some 30) _) _
  simp only [Act.put, List.setIfInBounds_toArray, List.set_cons_zero, List.set_cons_succ]
  refine wpAnyH_ready (rs := [0, 6]) (by kernel_rfl) (by simp) ?_
  refine AllReadyH.cons rfl (fun KK hK => ?_) (AllReadyH.cons rfl (fun KK hK => ?_) AllReadyH.nil)
  ·
    go_simp
    refine hK.out _ _ (hHeld.below ((Below.refl _ _).alloc (Nat.le_refl _) _)) (fun hHeld => ?_)
    clear hK KK
    try simp only [Act.put, List.setIfInBounds_toArray, List.set_cons_zero, List.set_cons_succ]
    refine wpAnyH_ready (rs := [2, 6]) (by kernel_rfl) (by simp) ?_
    refine AllReadyH.cons rfl (fun KK hK => ?_) (AllReadyH.cons rfl (fun KK hK => ?_) AllReadyH.nil)
    ·
      rw [if_pos (by kernel_rfl)]
      have hbw := (hb0.drew).alloc (by simp) (.cells #[] 5)
      refine wp_append_own _ (.tmp 25) (.tmp 26) 26 rfl (w.heap.size + 1) 5 i0 (.int .u8 0) 1 1 Tryz.underlying26 hi hz0 hz1 hz2 rfl (by decide) (.slice (some ⟨w.heap.size + 1, 0, none⟩) 0 0) 0 [] rfl (own_nil _ (w.heap.size + 1) _ (by simp) (by omega)) ⟨b, off, none⟩ n cap (bl (lof n f)) rfl (by rw [bl_len, lof_len]; omega) (cells_of_view (hv.below hbw)) (bl_one _) (by unfold maxLen; omega) (by omega) (by simp) ?_
      intro v1 w1 hown1 hgr1 hnil1
      have hb1 : Below w.heap.size w w1 := hbw.grown hgr1 hbw.size (fun k hk => by simp only [Value.ownBlock, Option.some.injEq] at hk; omega)
      have hs1 : w.heap.size + 1 ≤ w1.heap.size := by have := hgr1.size; simp at this; omega
      refine hK.out _ _ (hHeld.grown hgr1 (by simp only [Value.ownBlock, ne_eq, Option.some.injEq]; omega)) (fun hHeld => ?_)
      clear hK KK
      change wpAnyH _ _ _ _ _ _ _ (Act.put _ (some 27) _) _
      try simp only [Act.put, List.setIfInBounds_toArray, List.set_cons_zero, List.set_cons_succ]
      refine wpAnyH_ready (rs := [6]) (by kernel_rfl) (by simp) ?_
      refine AllReadyH.cons rfl (fun KK hK => ?_) AllReadyH.nil
      go_simp
      refine hK.out _ _ (hHeld.below ((Below.refl _ _).alloc (Nat.le_refl _) _)) (fun hHeld => ?_)
      clear hK KK
      try simp only [Act.put, List.setIfInBounds_toArray, List.set_cons_zero, List.set_cons_succ]
      refine wpAnyH_ready (rs := [7]) (by kernel_rfl) (by simp) ?_
      refine AllReadyH.cons rfl (fun KK hK => ?_) AllReadyH.nil
      rw [if_pos (by kernel_rfl)]
      refine wp_append_own _ (.tmp 27) (.tmp 31) 26 rfl (w.heap.size + 1) 5 i0 (.int .u8 0) 1 1 Tryz.underlying26 hi hz0 hz1 hz2 rfl (by decide) v1 _ _ rfl (hown1.alloc _) ⟨w1.heap.size, 0, none⟩ 1 1 [.int .u8 (x % 256)] rfl rfl (cellNew _ _ _) (bl_one [x % 256]) (by unfold maxLen; omega) (by omega) (by first | omega | (simp; omega)) ?_
      intro v2 w2 hown2 hgr2 hnil2
      have hB2 : Below w.heap.size w w2 := (hb1.alloc hb1.size _).grown hgr2 (by have := hb1.size; simp; omega) (fun k hk => by have := (hown1.lt k hk).1; omega)
      have hO2 := own_down (one_more hown2) (Nat.le_succ w.heap.size)
      refine hK.out _ _ (hHeld.grown hgr2 (fun e => by have := (hown1.lt _ e).1; omega)) (fun hHeld => ?_)
      clear hK KK
      change wpAnyH _ _ _ _ _ _ _ (Act.put _ (some 32) _) _
      try simp only [Act.put, List.setIfInBounds_toArray, List.set_cons_zero, List.set_cons_succ]
      refine' wpAnyH_take (i := 8) (v := _) rfl (by kernel_rfl) (by kernel_rfl) (by kernel_rfl) (fun _ _ _ h => h) (Or.inl ⟨by kernel_rfl, ?hlastA⟩) (by assumption) ?rlastA
      case hlastA => intro W hW; go_simp; all_goals with_reducible rfl
      change wpAnyH _ _ _ _ _ _ _ (Act.put _ (some 4) _) _
      simp only [Act.put, List.setIfInBounds_toArray, List.set_cons_zero, List.set_cons_succ]
      refine wpAnyH_done (by kernel_rfl) ?_ _
      go_wp2
      go_ret
      exact ⟨v2, rfl, hO2, hB2⟩
    ·
      go_simp
      refine hK.out _ _ (hHeld.below ((Below.refl _ _).alloc (Nat.le_refl _) _)) (fun hHeld => ?_)
      clear hK KK
      try simp only [Act.put, List.setIfInBounds_toArray, List.set_cons_zero, List.set_cons_succ]
      refine wpAnyH_ready (rs := [2]) (by kernel_rfl) (by simp) ?_
      refine AllReadyH.cons rfl (fun KK hK => ?_) AllReadyH.nil
      rw [if_pos (by kernel_rfl)]
      have hbw := ((hb0.drew).alloc (by simp) (.cells #[] 5)).alloc (by simp; omega) (.cells #[.int .u8 (x % 256)] 5)
      refine wp_append_own _ (.tmp 25) (.tmp 26) 26 rfl (w.heap.size + 1) 5 i0 (.int .u8 0) 1 1 Tryz.underlying26 hi hz0 hz1 hz2 rfl (by decide) (.slice (some ⟨w.heap.size + 1, 0, none⟩) 0 0) 0 [] rfl ((own_nil _ (w.heap.size + 1) _ (by simp) (by omega)).alloc _) ⟨b, off, none⟩ n cap (bl (lof n f)) rfl (by rw [bl_len, lof_len]; omega) (cells_of_view (hv.below hbw)) (bl_one _) (by unfold maxLen; omega) (by omega) (by simp) ?_
      intro v1 w1 hown1 hgr1 hnil1
      have hb1 : Below w.heap.size w w1 := hbw.grown hgr1 hbw.size (fun k hk => by simp only [Value.ownBlock, Option.some.injEq] at hk; omega)
      have hs1 : w.heap.size + 1 ≤ w1.heap.size := by have := hgr1.size; simp at this; omega
      refine hK.out _ _ (hHeld.grown hgr1 (by simp only [Value.ownBlock, ne_eq, Option.some.injEq]; omega)) (fun hHeld => ?_)
      clear hK KK
      change wpAnyH _ _ _ _ _ _ _ (Act.put _ (some 27) _) _
      try simp only [Act.put, List.setIfInBounds_toArray, List.set_cons_zero, List.set_cons_succ]
      refine wpAnyH_ready (rs := [7]) (by kernel_rfl) (by simp) ?_
      refine AllReadyH.cons rfl (fun KK hK => ?_) AllReadyH.nil
      rw [if_pos (by kernel_rfl)]
      refine wp_append_own _ (.tmp 27) (.tmp 31) 26 rfl (w.heap.size + 1) 5 i0 (.int .u8 0) 1 1 Tryz.underlying26 hi hz0 hz1 hz2 rfl (by decide) v1 _ _ rfl (hown1) ⟨w.heap.size + 2, 0, none⟩ 1 1 [.int .u8 (x % 256)] rfl rfl (cells_kept (cellD _ (w.heap.size + 2) _ _ (by simp)) hgr1 (by simp) (by simp [Value.ownBlock])) (bl_one [x % 256]) (by unfold maxLen; omega) (by omega) (by first | omega | (simp; omega)) ?_
      intro v2 w2 hown2 hgr2 hnil2
      have hB2 : Below w.heap.size w w2 := hb1.grown hgr2 hb1.size (fun k hk => by have := (hown1.lt k hk).1; omega)
      have hO2 := own_down (one_more hown2) (Nat.le_succ w.heap.size)
      refine hK.out _ _ (hHeld.grown hgr2 (fun e => by have := (hown1.lt _ e).1; omega)) (fun hHeld => ?_)
      clear hK KK
      change wpAnyH _ _ _ _ _ _ _ (Act.put _ (some 32) _) _
      try simp only [Act.put, List.setIfInBounds_toArray, List.set_cons_zero, List.set_cons_succ]
      refine' wpAnyH_take (i := 8) (v := _) rfl (by kernel_rfl) (by kernel_rfl) (by kernel_rfl) (fun _ _ _ h => h) (Or.inl ⟨by kernel_rfl, ?hlastB⟩) (by assumption) ?rlastB
      case hlastB => intro W hW; go_simp; all_goals with_reducible rfl
      change wpAnyH _ _ _ _ _ _ _ (Act.put _ (some 4) _) _
      simp only [Act.put, List.setIfInBounds_toArray, List.set_cons_zero, List.set_cons_succ]
      refine wpAnyH_done (by kernel_rfl) ?_ _
      go_wp2
      go_ret
      exact ⟨v2, rfl, hO2, hB2⟩
  ·
    go_simp
    refine hK.out _ _ (hHeld.below ((Below.refl _ _).alloc (Nat.le_refl _) _)) (fun hHeld => ?_)
    clear hK KK
    try simp only [Act.put, List.setIfInBounds_toArray, List.set_cons_zero, List.set_cons_succ]
    refine wpAnyH_ready (rs := [0]) (by kernel_rfl) (by simp) ?_
    refine AllReadyH.cons rfl (fun KK hK => ?_) AllReadyH.nil
    go_simp
    refine hK.out _ _ (hHeld.below ((Below.refl _ _).alloc (Nat.le_refl _) _)) (fun hHeld => ?_)
    clear hK KK
    try simp only [Act.put, List.setIfInBounds_toArray, List.set_cons_zero, List.set_cons_succ]
    refine wpAnyH_ready (rs := [2]) (by kernel_rfl) (by simp) ?_
    refine AllReadyH.cons rfl (fun KK hK => ?_) AllReadyH.nil
    rw [if_pos (by kernel_rfl)]
    have hbw := ((hb0.drew).alloc (by simp) (.cells #[.int .u8 (x % 256)] 5)).alloc (by simp; omega) (.cells #[] 5)
    refine wp_append_own _ (.tmp 25) (.tmp 26) 26 rfl (w.heap.size + 1) 5 i0 (.int .u8 0) 1 1 Tryz.underlying26 hi hz0 hz1 hz2 rfl (by decide) (.slice (some ⟨w.heap.size + 2, 0, none⟩) 0 0) 0 [] rfl (own_nil _ (w.heap.size + 2) _ (by simp) (by omega)) ⟨b, off, none⟩ n cap (bl (lof n f)) rfl (by rw [bl_len, lof_len]; omega) (cells_of_view (hv.below hbw)) (bl_one _) (by unfold maxLen; omega) (by omega) (by simp) ?_
    intro v1 w1 hown1 hgr1 hnil1
    have hb1 : Below w.heap.size w w1 := hbw.grown hgr1 hbw.size (fun k hk => by simp only [Value.ownBlock, Option.some.injEq] at hk; omega)
    have hs1 : w.heap.size + 1 ≤ w1.heap.size := by have := hgr1.size; simp at this; omega
    refine hK.out _ _ (hHeld.grown hgr1 (by simp only [Value.ownBlock, ne_eq, Option.some.injEq]; omega)) (fun hHeld => ?_)
    clear hK KK
    change wpAnyH _ _ _ _ _ _ _ (Act.put _ (some 27) _) _
    try simp only [Act.put, List.setIfInBounds_toArray, List.set_cons_zero, List.set_cons_succ]
    refine wpAnyH_ready (rs := [7]) (by kernel_rfl) (by simp) ?_
    refine AllReadyH.cons rfl (fun KK hK => ?_) AllReadyH.nil
    rw [if_pos (by kernel_rfl)]
    refine wp_append_own _ (.tmp 27) (.tmp 31) 26 rfl (w.heap.size + 1) 5 i0 (.int .u8 0) 1 1 Tryz.underlying26 hi hz0 hz1 hz2 rfl (by decide) v1 _ _ rfl (hown1) ⟨w.heap.size + 1, 0, none⟩ 1 1 [.int .u8 (x % 256)] rfl rfl (cells_kept (cellDD _ (w.heap.size + 1) _ _ (by simp) _) hgr1 (by simp) (by simp [Value.ownBlock])) (bl_one [x % 256]) (by unfold maxLen; omega) (by omega) (by first | omega | (simp; omega)) ?_
    intro v2 w2 hown2 hgr2 hnil2
    have hB2 : Below w.heap.size w w2 := hb1.grown hgr2 hb1.size (fun k hk => by have := (hown1.lt k hk).1; omega)
    have hO2 := own_down (one_more hown2) (Nat.le_succ w.heap.size)
    refine hK.out _ _ (hHeld.grown hgr2 (fun e => by have := (hown1.lt _ e).1; omega)) (fun hHeld => ?_)
    clear hK KK
    change wpAnyH _ _ _ _ _ _ _ (Act.put _ (some 32) _) _
    try simp only [Act.put, List.setIfInBounds_toArray, List.set_cons_zero, List.set_cons_succ]
    refine' wpAnyH_take (i := 8) (v := _) rfl (by kernel_rfl) (by kernel_rfl) (by kernel_rfl) (fun _ _ _ h => h) (Or.inl ⟨by kernel_rfl, ?hlastC⟩) (by assumption) ?rlastC
    case hlastC => intro W hW; go_simp; all_goals with_reducible rfl
    change wpAnyH _ _ _ _ _ _ _ (Act.put _ (some 4) _) _
    simp only [Act.put, List.setIfInBounds_toArray, List.set_cons_zero, List.set_cons_succ]
    refine wpAnyH_done (by kernel_rfl) ?_ _
    go_wp2
    go_ret
    exact ⟨v2, rfl, hO2, hB2⟩
end Go.Proofs.YtjoimkfpenbkmabGreatDoor

/-
  A row of bytes of the call's own, its room with it.
-/
namespace Go.Proofs.YtjoimkfpenbkmabGreatDoor
open Go.RowKit
set_option maxRecDepth 4000

/-- Block b is a row of bytes of the call's own, none frozen, with room for c of them; the first n are f 0 up to f (n - 1). -/
def RowC (t : TypeId) (w : World) (b n c : Nat) (f : Nat → Int) : Prop :=
  ∃ cur : Array Value, w.heap[b]? = some (.cells cur t (0, 0)) ∧ cur.size = c ∧ n ≤ c ∧ c ≤ maxLen ∧ ∀ i, i < n → cur[i]? = some (.int .u8 (f i))
namespace RowC
variable {t : TypeId} {w w' : World} {b n c : Nat} {f g : Nat → Int}
theorem row (h : RowC t w b n c f) : Row t w b n f := by
  obtain ⟨cur, h1, h2, h3, _, h5⟩ := h
  exact ⟨cur, h1, by omega, h5⟩
theorem congr (h : RowC t w b n c f) (e : ∀ i, i < n → f i = g i) : RowC t w b n c g := by
  obtain ⟨cur, h1, h2, h3, h4, h5⟩ := h
  exact ⟨cur, h1, h2, h3, h4, fun i hi => by rw [h5 i hi, e i hi]⟩
theorem of_block (h : RowC t w b n c f) (e : w'.heap[b]? = w.heap[b]?) : RowC t w' b n c f := by
  obtain ⟨cur, h1, r⟩ := h
  exact ⟨cur, e.trans h1, r⟩
theorem set (h : RowC t w b n c f) (i : Nat) (x : Int) : RowC t (w.setCell ⟨b, i, none⟩ (.int .u8 x)) b n c (fun j => if j = i then x else f j) := by
  obtain ⟨cur, hb, hs, hn, hm, hc⟩ := h
  refine ⟨cur.setIfInBounds i (.int .u8 x), ?_, by simpa using hs, hn, hm, fun j hj => ?_⟩
  · simp [World.setCell, Array.getElem?_modify, hb]
  · rw [Array.getElem?_setIfInBounds]
    by_cases e : j = i
    · subst e
      have : j < cur.size := by omega
      simp [this]
    · rw [if_neg (fun h => e h.symm)]
      show cur[j]? = some (.int .u8 (if j = i then x else f j))
      rw [if_neg e]
      exact hc j hj
theorem own (h : RowC t w b n c f) {base : Nat} (hb : base ≤ b) : w.ownsRow base t 1 (.slice (some ⟨b, 0, none⟩) n c) n (bl (lof n f)) := by
  obtain ⟨cur, h1, h2, h3, h4, h5⟩ := h
  refine ⟨by rw [bl_len, lof_len]; omega, Or.inr ⟨b, c, cur, rfl, hb, h1, h3, h4, by omega, ?_⟩⟩
  apply List.ext_getElem?
  intro i
  rw [Nat.mul_one, List.getElem?_take]
  by_cases hi : i < n
  · rw [if_pos hi, Array.getElem?_toList, h5 i hi]
    simp [bl, lof, hi]
  · rw [if_neg hi, List.getElem?_eq_none (by rw [bl_len, lof_len]; omega)]
theorem ofOwn {base : Nat} {v : Value} {l : List Int} (h : w.ownsRow base t 1 v n (bl l)) (hv : v ≠ .slice none 0 0) : ∃ b c, v = .slice (some ⟨b, 0, none⟩) n c ∧ base ≤ b ∧ RowC t w b n c (fun i => l.getD i 0) := by
  obtain ⟨hl, h⟩ := h
  rcases h with ⟨h0, _⟩ | ⟨g, c, cur, rfl, hb, hg, hnc, hcm, hcs, ht⟩
  · exact absurd h0 hv
  · refine ⟨g, c, rfl, hb, cur, hg, by omega, hnc, hcm, fun i hi => ?_⟩
    have e : (bl l)[i]? = some (.int .u8 (l.getD i 0)) := by
      have : i < l.length := by rw [bl_len] at hl; omega
      simp [bl, this]
    rw [← ht, List.getElem?_take, if_pos (by omega)] at e
    simpa using e
end RowC
end Go.Proofs.YtjoimkfpenbkmabGreatDoor

/-
  The model's Flip once more: what it answers is a row of the call's own.
-/
namespace Go.Proofs.YtjoimkfpenbkmabGreatDoor
open Go.RowKit
set_option maxRecDepth 4000

/-- k of the n bytes are turned, as far as they are to be. -/
structure FlippedC (t : TypeId) (w wr : World) (g n c : Nat) (f : Nat → Int) (p : Int) (k : Nat) : Prop where
  row : RowC t wr g n c (fun i => if i < k then flipF f p i else f i)
  below : Below w.heap.size w wr

theorem flippedC_turn {t : TypeId} {w wr : World} {g n c : Nat} {f : Nat → Int} {p : Int} {k : Nat} (h : FlippedC t w wr g n c f p k) (hg : w.heap.size ≤ g) (hp : p ≤ k) : FlippedC t w (wr.setCell ⟨g, k, none⟩ (.int .u8 (255 - f k))) g n c f p (k + 1) := by
  refine ⟨(h.row.set k _).congr (fun i _ => ?_), h.below.setCell hg _⟩
  by_cases e : i = k
  · subst e; simp [flipF, hp]
  · rw [if_neg e]
    by_cases hlt : i < k
    · rw [if_pos hlt, if_pos (by omega)]
    · rw [if_neg hlt, if_neg (by omega)]
theorem flippedC_keep {t : TypeId} {w wr : World} {g n c : Nat} {f : Nat → Int} {p : Int} {k : Nat} (h : FlippedC t w wr g n c f p k) (hp : ¬ p ≤ k) : FlippedC t w wr g n c f p (k + 1) := by
  refine ⟨h.row.congr (fun i _ => ?_), h.below⟩
  by_cases e : i = k
  · subst e; simp [flipF, hp]
  · by_cases hlt : i < k
    · rw [if_pos hlt, if_pos (by omega)]
    · rw [if_neg hlt, if_neg (by omega)]

set_option maxHeartbeats 1000000 in
theorem flip_own (b off n cap : Nat) (f : Nat → Int) (p : Int) (w : World) (hv : View w (some ⟨b, off, none⟩) n cap f) (hn : n ≤ 70368744177664) :
    Calls Tryz.prog 102 #[.slice (some ⟨b, off, none⟩) n cap, .int .i64 p] w fun e w' => ∃ g c, e = .returned (.slice (some ⟨g, 0, none⟩) n c) ∧ w.heap.size ≤ g ∧ RowC 5 w' g n c (flipF f p) ∧ Below w.heap.size w w' := by
  obtain ⟨i0, hi, hz0, hz1, hz2⟩ := info_parts Tryz.info5
  have hown0 := World.ownsRow_lit (base := w.heap.size) (e := 5) (size := 1) w #[] 0 (Nat.le_refl _) (Nat.zero_le _) rfl
  have hb0 : Below w.heap.size w (w.alloc (.cells #[] 5)) := (Below.refl _ _).alloc (Nat.le_refl _) _
  have hcl := cells_of_view (hv.below hb0)
  have hsz : (w.alloc (.cells #[] 5)).heap.size = w.heap.size + 1 := by simp
  have hby := hv.byte
  go_enter Tryz.func102, Tryz.ntmps102
  go_wp2_with (at_builtin; go_must (refine wpList_append_own _ rfl (.tmp 7) (.tmp 8) 26 rfl w.heap.size 5 i0 (.int .u8 0) 1 1 Tryz.underlying26 hi hz0 hz1 hz2 rfl (by decide) (.slice (some ⟨w.heap.size, 0, none⟩) 0 0) 0 [] rfl hown0 ⟨b, off, none⟩ n cap (bl (lof n f)) rfl (by rw [bl_len, lof_len]; omega) hcl (bl_one _) (by unfold maxLen; omega) (by omega) (by rw [hsz]; omega) ?_); intro v1 w1 hown1 hgr1 hnil; simp only [Nat.zero_add, List.nil_append] at hown1; obtain ⟨g, c, rfl, hg, hrow⟩ := RowC.ofOwn hown1 (by intro h; have := (hnil.1 h).1; cases this))
  have hb1 : Below w.heap.size w w1 := hb0.grown hgr1 (by simp) (fun k hk => by simp only [Value.ownBlock, Option.some.injEq] at hk; omega)
  have hF0 : FlippedC 5 w w1 g n c f p 0 := ⟨hrow.congr (fun i hi => by rw [lof_get n f i hi]; simp), hb1⟩
  clear hown0 hcl hsz hgr1 hb0 hv hown1 hnil hrow hb1
  go_loopg [6] n (fun q i wr => ∃ k : Nat, k ≤ n ∧ q = n - k ∧ i = .int .i64 k ∧ FlippedC 5 w wr g n c f p k)
  case atStart => exact ⟨0, Nat.zero_le _, rfl, rfl, hF0⟩
  case round =>
    obtain ⟨k, hk, rfl, rfl, hF⟩ := hrel
    clear hF0
    by_cases hlt : k < n
    · have hkz : (k : Int) < (n : Int) := by omega
      by_cases hp : p ≤ (k : Int)
      · have hS : Hid (FlippedC 5 w (wr.setCell ⟨g, k, none⟩ (.int .u8 (255 - f k))) g n c f p (k + 1)) := flippedC_turn hF hg hp
        have hc : wr.cell? ⟨g, k, none⟩ = some (.int .u8 (f k)) := by rw [hF.row.row.cell hlt, if_neg (Nat.lt_irrefl _)]
        have hf := hF.row.row.frozen k
        have hx : bits .xor .u8 IntKind.u8.max (f k) = 255 - f k := u8_not _ (hby k hlt).1 (hby k hlt).2
        clear hF hby
        go_wp2
        go_roundg (n - (k + 1))
        case measure => omega
        case rel => exact ⟨k + 1, by omega, rfl, by go_num, hS.out⟩
      · have hS : Hid (FlippedC 5 w wr g n c f p (k + 1)) := flippedC_keep hF hp
        clear hF hby
        go_wp2
        go_roundg (n - (k + 1))
        case measure => omega
        case rel => exact ⟨k + 1, by omega, rfl, by go_num, hS.out⟩
    · obtain rfl : k = n := by omega
      have hR : Hid (RowC 5 wr g k c (flipF f p)) := hF.row.congr (fun i hi => by rw [if_pos hi])
      have hB := hF.below
      clear hF hby
      go_wp2
      go_ret
      exact ⟨g, c, rfl, hg, hR.out, hB⟩
end Go.Proofs.YtjoimkfpenbkmabGreatDoor

/-
  What was there, and behind it bytes that are turned.
-/
namespace Go.Proofs.YtjoimkfpenbkmabGreatDoor
open Go.RowKit
set_option maxRecDepth 4000

theorem turn_list (n : Nat) (f : Nat → Int) (p : List Int) : lof (n + p.length) (flipF (fun i => (lof n f ++ p).getD i 0) (n : Int)) = lof n f ++ p.map (fun y => 255 - y) := by
  apply List.ext_getElem?
  intro i
  by_cases h1 : i < n
  · rw [List.getElem?_append_left (by rw [lof_len]; exact h1)]
    simp only [lof, List.getElem?_map, List.getElem?_range (show i < n + p.length by omega), List.getElem?_range h1, Option.map_some]
    unfold flipF
    rw [if_neg (by omega)]
    dsimp only
    rw [List.getD_eq_getElem?_getD, List.getElem?_append_left (by simpa using h1)]
    simp [h1]
  · by_cases h2 : i < n + p.length
    · obtain ⟨j, rfl⟩ : ∃ j, i = n + j := ⟨i - n, by omega⟩
      have hj : j < p.length := by omega
      rw [List.getElem?_append_right (by rw [lof_len]; omega), lof_len, Nat.add_sub_cancel_left]
      simp only [lof, List.getElem?_map, List.getElem?_range h2, Option.map_some, List.getElem?_eq_getElem hj]
      unfold flipF
      rw [if_pos (by omega)]
      dsimp only
      rw [List.getD_eq_getElem?_getD, List.getElem?_append_right (by simp)]
      simp [hj]
    · rw [List.getElem?_eq_none (by rw [lof_len]; omega), List.getElem?_eq_none (by simp [lof_len]; omega)]

/-- Bytes behind those that are there, in a row of the call's own. -/
theorem turn_row {t : TypeId} {w : World} {g n N : Nat} {f : Nat → Int} {p : List Int} {F : Nat → Int} (hN : N = n + p.length) (hF : ∀ i, i < N → F i = (lof n f ++ p).getD i 0) (h : Row t w g N (flipF F (n : Int))) : Row t w g (n + (p.map (fun y => 255 - y)).length) (fun i => (lof n f ++ p.map (fun y => 255 - y)).getD i 0) := by
  subst hN
  rw [List.length_map]
  refine h.congr (fun i hi => ?_)
  show flipF F n i = (lof n f ++ p.map (fun y => 255 - y)).getD i 0
  rw [← turn_list n f p, lof_get _ _ i hi]
  unfold flipF
  rw [hF i hi]
end Go.Proofs.YtjoimkfpenbkmabGreatDoor

