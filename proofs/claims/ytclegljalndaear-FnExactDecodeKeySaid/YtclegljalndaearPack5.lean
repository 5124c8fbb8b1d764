/-
  Together: PartPutSpec, KeyPickSpec, GotRet, EscOwn, GetEscImpl, GetEscSpec, PartGetSpec, FlipOwn, GetPLemmas
-/
import Derived.Test.YtclegljalndaearPack3
import Derived.Test.YtclegljalndaearPack4
import Derived.Deep.RegionHeld3
import Derived.Test.YtclegljalndaearPack2
import Derived.Deep.LoopGhost
import Derived.Test.YtclegljalndaearPack1
import Derived.WalkSpells
/-
  The model's PutPart: what was there, and behind it the bytes of what fits, in memory of its own.
-/
namespace Go.Proofs.Ytclegljalndaear
open Go.RowKit
set_option maxRecDepth 4000

/-- A new row without bytes. -/
theorem own_nil (W : World) (A B : Nat) (hA : A = W.heap.size) (hB : B ≤ A) : (W.alloc (.cells #[] 5)).ownsRow B 5 1 (.slice (some ⟨A, 0, none⟩) 0 0) 0 [] := by
  subst hA
  exact World.ownsRow_lit W #[] 0 hB (Nat.zero_le _) rfl
/-- A new row of one byte. -/
theorem cell_nil (W : World) (A : Nat) (z : Value) (t : TypeId) (hA : A = W.heap.size) : ∀ j u, [z][j]? = some u → (W.alloc (.cells #[z] t)).cell? ((⟨A, 0, none⟩ : Addr).add j) = some u := by
  subst hA
  exact cellNew W z t
theorem cells_kept {W W' : World} {A : Nat} {z : Value} {row : Option Nat} (h : ∀ j u, [z][j]? = some u → W.cell? ((⟨A, 0, none⟩ : Addr).add j) = some u) (hg : W.grownBy W' row) (hA : A < W.heap.size) (hne : row ≠ some A) : ∀ j u, [z][j]? = some u → W'.cell? ((⟨A, 0, none⟩ : Addr).add j) = some u := by
  intro j u hj
  rw [← h j u hj]
  apply World.cell?_of_block
  show W'.heap[((⟨A, 0, none⟩ : Addr).add j).block]? = _
  have : ((⟨A, 0, none⟩ : Addr).add j).block = A := by unfold Addr.add; split <;> rfl
  rw [this]
  exact hg.block A hA hne.symm
theorem cells_alloc {W : World} {A : Nat} {z : Value} (h : ∀ j u, [z][j]? = some u → W.cell? ((⟨A, 0, none⟩ : Addr).add j) = some u) (hA : A < W.heap.size) (o : Obj) : ∀ j u, [z][j]? = some u → (W.alloc o).cell? ((⟨A, 0, none⟩ : Addr).add j) = some u := by
  intro j u hj
  rw [← h j u hj]
  apply World.cell?_of_block
  show (W.alloc o).heap[((⟨A, 0, none⟩ : Addr).add j).block]? = _
  have : ((⟨A, 0, none⟩ : Addr).add j).block = A := by unfold Addr.add; split <;> rfl
  rw [this]
  exact Below.heap_alloc _ _ _ hA
theorem cellD (W : World) (A : Nat) (z : Value) (t : TypeId) (hA : A = W.heap.size) : ∀ j u, [z][j]? = some u → (W.alloc (.cells #[z] t)).drew.cell? ((⟨A, 0, none⟩ : Addr).add j) = some u := cell_nil W A z t hA
theorem cellDD (W : World) (A : Nat) (z : Value) (t : TypeId) (hA : A = W.heap.size) (o : Obj) : ∀ j u, [z][j]? = some u → ((W.alloc (.cells #[z] t)).alloc o).drew.cell? ((⟨A, 0, none⟩ : Addr).add j) = some u := cells_alloc (cell_nil W A z t hA) (by simp; omega) o
theorem Box.grown {W W' : World} {B : Nat} {k n : Int} {s : ByteArray} {row : Option Nat} (h : Box W B k n s) (hg : W.grownBy W' row) (hne : row ≠ some B) : Box W' B k n s := h.of_block (hg.block B h.lt hne.symm)
theorem own_down {W : World} {B D : Nat} {t : TypeId} {v : Value} {N : Nat} {l : List Value} (h : W.ownsRow B t 1 v N l) (hD : D ≤ B) : W.ownsRow D t 1 v N l := by
  obtain ⟨h1, h2⟩ := h
  refine ⟨h1, ?_⟩
  rcases h2 with h2 | ⟨g, cap, cur, rfl, hB, r⟩
  · exact Or.inl h2
  · exact Or.inr ⟨g, cap, cur, rfl, Nat.le_trans hD hB, r⟩
theorem one_more {W : World} {B : Nat} {t : TypeId} {v : Value} {n : Nat} {f : Nat → Int} {z : Int} (h : W.ownsRow B t 1 v (0 + n + 1) ([] ++ bl (lof n f) ++ [.int .u8 z])) : W.ownsRow B t 1 v (n + 1) (bl (lof n f ++ [z])) := by
  rw [Nat.zero_add, List.nil_append] at h
  rw [bl_append]
  exact h

set_option linter.unusedSimpArgs false in
set_option maxHeartbeats 2000000 in
theorem l5Value_own (b off n cap : Nat) (f : Nat → Int) (k x : Int) (s : ByteArray) (w : World) (hv : View w (some ⟨b, off, none⟩) n cap f) (hn : n ≤ 17592186000000) (hx : -9223372036854775808 ≤ x ∧ x ≤ 9223372036854775807) (hs : s.size ≤ 1000) :
    Calls Try.prog 59 #[.slice (some ⟨b, off, none⟩) n cap, .agg #[.int .i64 k, .int .i64 x, .string s]] w fun e w' => ∃ v, e = .returned v ∧ w'.ownsRow w.heap.size 5 1 v (n + (valL k x s).length) (bl (lof n f ++ valL k x s)) ∧ Below w.heap.size w w' := by
  obtain ⟨i0, hi, hz0, hz1, hz2⟩ := info_parts Try.info5
  have hb0 : Below w.heap.size w (w.alloc (.cells #[.int .i64 k, .int .i64 x, .string s] 59)) := (Below.refl _ _).alloc (Nat.le_refl _) _
  have hV := Box.new w k x s
  have hsz : (w.alloc (.cells #[.int .i64 k, .int .i64 x, .string s] 59)).heap.size = w.heap.size + 1 := by simp
  have hv1 := hv.below hb0
  by_cases k1 : k = 1
  · subst k1
    have e : valL 1 x s = fixL x := rfl
    rw [e, fixL_len]
    go_enter Try.func59, Try.ntmps59
    go_wp2_with fail
    refine (putFix_own b off n cap f x _ hv1 (by omega) hx.1 hx.2).mono ?_
    rintro e w1 ⟨v, rfl, hown, hb1⟩
    have HO : Hid _ := own_down hown (by rw [hsz]; omega : w.heap.size ≤ _)
    have HB : Hid (Below w.heap.size w w1) := hb0.trans (hb1.mono (by rw [hsz]; omega))
    clear hown hb1 hv1 hV hb0
    go_wp2
    go_ret
    exact ⟨v, rfl, HO.out, HB.out⟩
  by_cases k2 : k = 2
  · subst k2
    have e : valL 2 x s = varL x := rfl
    rw [e]
    go_enter Try.func59, Try.ntmps59
    go_wp2_with fail
    refine (putVar_own b off n cap f x _ hv1 (by omega) hx.1 hx.2).mono ?_
    rintro e w1 ⟨v, rfl, hown, hb1⟩
    have HO : Hid _ := own_down hown (by rw [hsz]; omega : w.heap.size ≤ _)
    have HB : Hid (Below w.heap.size w w1) := hb0.trans (hb1.mono (by rw [hsz]; omega))
    clear hown hb1 hv1 hV hb0
    go_wp2
    go_ret
    exact ⟨v, rfl, HO.out, HB.out⟩
  by_cases k3 : k = 3
  · subst k3
    have e : valL 3 x s = escL (sl s) ++ [0, 1] := rfl
    have hE : (escL (sl s) ++ [0, 1]).length = escN s := by simp [escN]
    rw [e, hE]
    go_enter Try.func59, Try.ntmps59
    go_wp2_with fail
    refine (putEsc_own b off n cap f s _ hv1 (by omega) (by omega)).mono ?_
    rintro e w1 ⟨v, rfl, hown, hb1⟩
    have HO : Hid _ := own_down hown (by rw [hsz]; omega : w.heap.size ≤ _)
    have HB : Hid (Below w.heap.size w w1) := hb0.trans (hb1.mono (by rw [hsz]; omega))
    clear hown hb1 hv1 hV hb0
    go_wp2
    go_ret
    exact ⟨v, rfl, HO.out, HB.out⟩
  have e : valL k x s = [x % 256] := by unfold valL; rw [if_neg k1, if_neg k2, if_neg k3]
  rw [e]
  have q1 : (k == 1) = false := by simpa using k1
  have q2 : (k == 2) = false := by simpa using k2
  have q3 : (k == 3) = false := by simpa using k3
  have hw : IntKind.u8.wrap x = x % 256 := u8_wrap x
  clear k1 k2 k3 e
  go_enter Try.func59, Try.ntmps59
  go_wp2_with fail
  refine wp_region_held_drew (S := fun W => Box W w.heap.size k x s) (by kernel_rfl) hV.drew (fun hHeld => ?_)
  refine' wpAnyH_take (i := 1) (v := _) rfl (by kernel_rfl) (by kernel_rfl) (by kernel_rfl) (fun _ _ _ h => h) (Or.inl ⟨by kernel_rfl, ?h1⟩) (by assumption) ?r1
  case h1 => intro W hW; go_simp; all_goals with_reducible rfl
  change wpAnyH _ _ _ _ _ _ _ (Act.put _ (some 26) _) _
  simp only [Act.put, List.setIfInBounds_toArray, List.set_cons_zero, List.set_cons_succ]
  refine' wpAnyH_take (i := 3) (v := _) rfl (by kernel_rfl) (by kernel_rfl) (by kernel_rfl) (fun _ _ _ h => h) (Or.inl ⟨by kernel_rfl, ?h3⟩) (by assumption) ?r3
  case h3 => intro W hW; go_simp; all_goals with_reducible rfl
  change wpAnyH _ _ _ _ _ _ _ (Act.put _ (some 28) _) _
  simp only [Act.put, List.setIfInBounds_toArray, List.set_cons_zero, List.set_cons_succ]
  refine' wpAnyH_take (i := 4) (v := _) rfl (by kernel_rfl) (by kernel_rfl) (by kernel_rfl) (fun _ _ _ h => h) (Or.inl ⟨by kernel_rfl, ?h4⟩) (by assumption) ?r4
  case h4 => intro W hW; obtain ⟨c0, c1, c2⟩ := Box.cells hW; go_simp; all_goals with_reducible rfl
  change wpAnyH _ _ _ _ _ _ _ (Act.put _ (some 29) _) _
  simp only [Act.put, List.setIfInBounds_toArray, List.set_cons_zero, List.set_cons_succ]
  refine' wpAnyH_take (i := 5) (v := _) rfl (by kernel_rfl) (by kernel_rfl) (by kernel_rfl) (fun _ _ _ h => h) (Or.inl ⟨by kernel_rfl, ?h5⟩) (by assumption) ?r5
  case h5 => intro W hW; go_simp; all_goals with_reducible rfl
  change wpAnyH _ _ _ _ _ _ _ (Act.put _ (some 30) _) _
  simp only [Act.put, List.setIfInBounds_toArray, List.set_cons_zero, List.set_cons_succ]
  refine wpAnyH_ready (rs := [0, 6]) (by kernel_rfl) (by simp) ?_
  refine AllReadyH.cons rfl (fun KK hK => ?_) (AllReadyH.cons rfl (fun KK hK => ?_) AllReadyH.nil)
  ·
    go_simp
    refine hK.out _ _ (hHeld.below ((Below.refl _ _).alloc (Nat.le_refl _) _)) (fun hHeld => ?_)
    clear hK KK
    try simp only [Act.put, List.setIfInBounds_toArray, List.set_cons_zero, List.set_cons_succ]
    refine wpAnyH_ready (rs := [2, 6]) (by kernel_rfl) (by simp) ?_
    refine AllReadyH.cons rfl (fun KK hK => ?_) (AllReadyH.cons rfl (fun KK hK => ?_) AllReadyH.nil)
    ·
      rw [if_pos (by kernel_rfl)]
      have hbw := (hb0.drew).alloc (by simp) (.cells #[] 5)
      refine wp_append_own _ (.tmp 25) (.tmp 26) 36 rfl (w.heap.size + 1) 5 i0 (.int .u8 0) 1 1 Try.underlying36 hi hz0 hz1 hz2 rfl (by decide) (.slice (some ⟨w.heap.size + 1, 0, none⟩) 0 0) 0 [] rfl (own_nil _ (w.heap.size + 1) _ (by simp) (by omega)) ⟨b, off, none⟩ n cap (bl (lof n f)) rfl (by rw [bl_len, lof_len]; omega) (cells_of_view (hv.below hbw)) (bl_one _) (by unfold maxLen; omega) (by omega) (by simp) ?_
      intro v1 w1 hown1 hgr1 hnil1
      have hb1 : Below w.heap.size w w1 := hbw.grown hgr1 hbw.size (fun k hk => by simp only [Value.ownBlock, Option.some.injEq] at hk; omega)
      have hs1 : w.heap.size + 1 ≤ w1.heap.size := by have := hgr1.size; simp at this; omega
      refine hK.out _ _ (hHeld.grown hgr1 (by simp only [Value.ownBlock, ne_eq, Option.some.injEq]; omega)) (fun hHeld => ?_)
      clear hK KK
      change wpAnyH _ _ _ _ _ _ _ (Act.put _ (some 27) _) _
      try simp only [Act.put, List.setIfInBounds_toArray, List.set_cons_zero, List.set_cons_succ]
      refine wpAnyH_ready (rs := [6]) (by kernel_rfl) (by simp) ?_
      refine AllReadyH.cons rfl (fun KK hK => ?_) AllReadyH.nil
      go_simp
      refine hK.out _ _ (hHeld.below ((Below.refl _ _).alloc (Nat.le_refl _) _)) (fun hHeld => ?_)
      clear hK KK
      try simp only [Act.put, List.setIfInBounds_toArray, List.set_cons_zero, List.set_cons_succ]
      refine wpAnyH_ready (rs := [7]) (by kernel_rfl) (by simp) ?_
      refine AllReadyH.cons rfl (fun KK hK => ?_) AllReadyH.nil
      rw [if_pos (by kernel_rfl)]
      refine wp_append_own _ (.tmp 27) (.tmp 31) 36 rfl (w.heap.size + 1) 5 i0 (.int .u8 0) 1 1 Try.underlying36 hi hz0 hz1 hz2 rfl (by decide) v1 _ _ rfl (hown1.alloc _) ⟨w1.heap.size, 0, none⟩ 1 1 [.int .u8 (x % 256)] rfl rfl (cellNew _ _ _) (bl_one [x % 256]) (by unfold maxLen; omega) (by omega) (by first | omega | (simp; omega)) ?_
      intro v2 w2 hown2 hgr2 hnil2
      have hB2 : Below w.heap.size w w2 := (hb1.alloc hb1.size _).grown hgr2 (by have := hb1.size; simp; omega) (fun k hk => by have := (hown1.lt k hk).1; omega)
      have hO2 := own_down (one_more hown2) (Nat.le_succ w.heap.size)
      refine hK.out _ _ (hHeld.grown hgr2 (fun e => by have := (hown1.lt _ e).1; omega)) (fun hHeld => ?_)
      clear hK KK
      change wpAnyH _ _ _ _ _ _ _ (Act.put _ (some 32) _) _
      try simp only [Act.put, List.setIfInBounds_toArray, List.set_cons_zero, List.set_cons_succ]
      refine' wpAnyH_take (i := 8) (v := _) rfl (by kernel_rfl) (by kernel_rfl) (by kernel_rfl) (fun _ _ _ h => h) (Or.inl ⟨by kernel_rfl, ?hlastA⟩) (by assumption) ?rlastA
      case hlastA => intro W hW; go_simp; all_goals with_reducible rfl
      change wpAnyH _ _ _ _ _ _ _ (Act.put _ (some 4) _) _
      simp only [Act.put, List.setIfInBounds_toArray, List.set_cons_zero, List.set_cons_succ]
      refine wpAnyH_done (by kernel_rfl) ?_ _
      go_wp2
      go_ret
      exact ⟨v2, rfl, hO2, hB2⟩
    ·
      go_simp
      refine hK.out _ _ (hHeld.below ((Below.refl _ _).alloc (Nat.le_refl _) _)) (fun hHeld => ?_)
      clear hK KK
      try simp only [Act.put, List.setIfInBounds_toArray, List.set_cons_zero, List.set_cons_succ]
      refine wpAnyH_ready (rs := [2]) (by kernel_rfl) (by simp) ?_
      refine AllReadyH.cons rfl (fun KK hK => ?_) AllReadyH.nil
      rw [if_pos (by kernel_rfl)]
      have hbw := ((hb0.drew).alloc (by simp) (.cells #[] 5)).alloc (by simp; omega) (.cells #[.int .u8 (x % 256)] 5)
      refine wp_append_own _ (.tmp 25) (.tmp 26) 36 rfl (w.heap.size + 1) 5 i0 (.int .u8 0) 1 1 Try.underlying36 hi hz0 hz1 hz2 rfl (by decide) (.slice (some ⟨w.heap.size + 1, 0, none⟩) 0 0) 0 [] rfl ((own_nil _ (w.heap.size + 1) _ (by simp) (by omega)).alloc _) ⟨b, off, none⟩ n cap (bl (lof n f)) rfl (by rw [bl_len, lof_len]; omega) (cells_of_view (hv.below hbw)) (bl_one _) (by unfold maxLen; omega) (by omega) (by simp) ?_
      intro v1 w1 hown1 hgr1 hnil1
      have hb1 : Below w.heap.size w w1 := hbw.grown hgr1 hbw.size (fun k hk => by simp only [Value.ownBlock, Option.some.injEq] at hk; omega)
      have hs1 : w.heap.size + 1 ≤ w1.heap.size := by have := hgr1.size; simp at this; omega
      refine hK.out _ _ (hHeld.grown hgr1 (by simp only [Value.ownBlock, ne_eq, Option.some.injEq]; omega)) (fun hHeld => ?_)
      clear hK KK
      change wpAnyH _ _ _ _ _ _ _ (Act.put _ (some 27) _) _
      try simp only [Act.put, List.setIfInBounds_toArray, List.set_cons_zero, List.set_cons_succ]
      refine wpAnyH_ready (rs := [7]) (by kernel_rfl) (by simp) ?_
      refine AllReadyH.cons rfl (fun KK hK => ?_) AllReadyH.nil
      rw [if_pos (by kernel_rfl)]
      refine wp_append_own _ (.tmp 27) (.tmp 31) 36 rfl (w.heap.size + 1) 5 i0 (.int .u8 0) 1 1 Try.underlying36 hi hz0 hz1 hz2 rfl (by decide) v1 _ _ rfl (hown1) ⟨w.heap.size + 2, 0, none⟩ 1 1 [.int .u8 (x % 256)] rfl rfl (cells_kept (cellD _ (w.heap.size + 2) _ _ (by simp)) hgr1 (by simp) (by simp [Value.ownBlock])) (bl_one [x % 256]) (by unfold maxLen; omega) (by omega) (by first | omega | (simp; omega)) ?_
      intro v2 w2 hown2 hgr2 hnil2
      have hB2 : Below w.heap.size w w2 := hb1.grown hgr2 hb1.size (fun k hk => by have := (hown1.lt k hk).1; omega)
      have hO2 := own_down (one_more hown2) (Nat.le_succ w.heap.size)
      refine hK.out _ _ (hHeld.grown hgr2 (fun e => by have := (hown1.lt _ e).1; omega)) (fun hHeld => ?_)
      clear hK KK
      change wpAnyH _ _ _ _ _ _ _ (Act.put _ (some 32) _) _
      try simp only [Act.put, List.setIfInBounds_toArray, List.set_cons_zero, List.set_cons_succ]
      refine' wpAnyH_take (i := 8) (v := _) rfl (by kernel_rfl) (by kernel_rfl) (by kernel_rfl) (fun _ _ _ h => h) (Or.inl ⟨by kernel_rfl, ?hlastB⟩) (by assumption) ?rlastB
      case hlastB => intro W hW; go_simp; all_goals with_reducible rfl
      change wpAnyH _ _ _ _ _ _ _ (Act.put _ (some 4) _) _
      simp only [Act.put, List.setIfInBounds_toArray, List.set_cons_zero, List.set_cons_succ]
      refine wpAnyH_done (by kernel_rfl) ?_ _
      go_wp2
      go_ret
      exact ⟨v2, rfl, hO2, hB2⟩
  ·
    go_simp
    refine hK.out _ _ (hHeld.below ((Below.refl _ _).alloc (Nat.le_refl _) _)) (fun hHeld => ?_)
    clear hK KK
    try simp only [Act.put, List.setIfInBounds_toArray, List.set_cons_zero, List.set_cons_succ]
    refine wpAnyH_ready (rs := [0]) (by kernel_rfl) (by simp) ?_
    refine AllReadyH.cons rfl (fun KK hK => ?_) AllReadyH.nil
    go_simp
    refine hK.out _ _ (hHeld.below ((Below.refl _ _).alloc (Nat.le_refl _) _)) (fun hHeld => ?_)
    clear hK KK
    try simp only [Act.put, List.setIfInBounds_toArray, List.set_cons_zero, List.set_cons_succ]
    refine wpAnyH_ready (rs := [2]) (by kernel_rfl) (by simp) ?_
    refine AllReadyH.cons rfl (fun KK hK => ?_) AllReadyH.nil
    rw [if_pos (by kernel_rfl)]
    have hbw := ((hb0.drew).alloc (by simp) (.cells #[.int .u8 (x % 256)] 5)).alloc (by simp; omega) (.cells #[] 5)
    refine wp_append_own _ (.tmp 25) (.tmp 26) 36 rfl (w.heap.size + 1) 5 i0 (.int .u8 0) 1 1 Try.underlying36 hi hz0 hz1 hz2 rfl (by decide) (.slice (some ⟨w.heap.size + 2, 0, none⟩) 0 0) 0 [] rfl (own_nil _ (w.heap.size + 2) _ (by simp) (by omega)) ⟨b, off, none⟩ n cap (bl (lof n f)) rfl (by rw [bl_len, lof_len]; omega) (cells_of_view (hv.below hbw)) (bl_one _) (by unfold maxLen; omega) (by omega) (by simp) ?_
    intro v1 w1 hown1 hgr1 hnil1
    have hb1 : Below w.heap.size w w1 := hbw.grown hgr1 hbw.size (fun k hk => by simp only [Value.ownBlock, Option.some.injEq] at hk; omega)
    have hs1 : w.heap.size + 1 ≤ w1.heap.size := by have := hgr1.size; simp at this; omega
    refine hK.out _ _ (hHeld.grown hgr1 (by simp only [Value.ownBlock, ne_eq, Option.some.injEq]; omega)) (fun hHeld => ?_)
    clear hK KK
    change wpAnyH _ _ _ _ _ _ _ (Act.put _ (some 27) _) _
    try simp only [Act.put, List.setIfInBounds_toArray, List.set_cons_zero, List.set_cons_succ]
    refine wpAnyH_ready (rs := [7]) (by kernel_rfl) (by simp) ?_
    refine AllReadyH.cons rfl (fun KK hK => ?_) AllReadyH.nil
    rw [if_pos (by kernel_rfl)]
    refine wp_append_own _ (.tmp 27) (.tmp 31) 36 rfl (w.heap.size + 1) 5 i0 (.int .u8 0) 1 1 Try.underlying36 hi hz0 hz1 hz2 rfl (by decide) v1 _ _ rfl (hown1) ⟨w.heap.size + 1, 0, none⟩ 1 1 [.int .u8 (x % 256)] rfl rfl (cells_kept (cellDD _ (w.heap.size + 1) _ _ (by simp) _) hgr1 (by simp) (by simp [Value.ownBlock])) (bl_one [x % 256]) (by unfold maxLen; omega) (by omega) (by first | omega | (simp; omega)) ?_
    intro v2 w2 hown2 hgr2 hnil2
    have hB2 : Below w.heap.size w w2 := hb1.grown hgr2 hb1.size (fun k hk => by have := (hown1.lt k hk).1; omega)
    have hO2 := own_down (one_more hown2) (Nat.le_succ w.heap.size)
    refine hK.out _ _ (hHeld.grown hgr2 (fun e => by have := (hown1.lt _ e).1; omega)) (fun hHeld => ?_)
    clear hK KK
    change wpAnyH _ _ _ _ _ _ _ (Act.put _ (some 32) _) _
    try simp only [Act.put, List.setIfInBounds_toArray, List.set_cons_zero, List.set_cons_succ]
    refine' wpAnyH_take (i := 8) (v := _) rfl (by kernel_rfl) (by kernel_rfl) (by kernel_rfl) (fun _ _ _ h => h) (Or.inl ⟨by kernel_rfl, ?hlastC⟩) (by assumption) ?rlastC
    case hlastC => intro W hW; go_simp; all_goals with_reducible rfl
    change wpAnyH _ _ _ _ _ _ _ (Act.put _ (some 4) _) _
    simp only [Act.put, List.setIfInBounds_toArray, List.set_cons_zero, List.set_cons_succ]
    refine wpAnyH_done (by kernel_rfl) ?_ _
    go_wp2
    go_ret
    exact ⟨v2, rfl, hO2, hB2⟩
end Go.Proofs.Ytclegljalndaear

/-
  The model's Pick: of each part the value of its column, in a row of its own.
-/
namespace Go.Proofs.Ytclegljalndaear
open Go.RowKit
set_option maxRecDepth 4000

set_option linter.unusedSimpArgs false in
set_option maxHeartbeats 4000000 in
theorem specPick_any (a : Option Addr) (n cap : Nat) (fc ft : Nat → Int) (fu fd : Nat → Bool) (a2 : Option Addr) (m cap2 : Nat) (fk fn : Nat → Int) (fs : Nat → ByteArray) (w : World) (h : PView w a n cap fc ft fu fd) (h2 : VView w a2 m cap2 fk fn fs) (hn : n ≤ 1048576) (hm : m ≤ 1048576) :
    Calls Try.prog 32 #[.slice a n cap, .slice a2 m cap2] w fun e w' => ∃ v, e = .returned v ∧ v ≠ .slice none 0 0 ∧ w'.ownsRow w.heap.size 59 3 v n (rowC (pickK fc m fk) (pickK fc m fn) (pickS fc m fs) n) ∧ Below w.heap.size w w' := by
  obtain ⟨i0, hi, hz0, hz1, hz2⟩ := infoVal3
  have hown0 := World.ownsRow_lit (base := w.heap.size) (e := 59) (size := 3) w #[] 0 (Nat.le_refl _) (Nat.zero_le _) rfl
  have hb0 : Below w.heap.size w (w.alloc (.cells #[] 59)) := (Below.refl _ _).alloc (Nat.le_refl _) _
  go_enter Try.func32, Try.ntmps32
  go_wp2
  go_loopg [5, 6] n (fun q bv i wr => ∃ (k : Nat) (v : Value), k ≤ n ∧ q = n - k ∧ v = bv ∧ i = .int .i64 k ∧ v ≠ .slice none 0 0 ∧ wr.ownsRow w.heap.size 59 3 v k (rowC (pickK fc m fk) (pickK fc m fn) (pickS fc m fs) k) ∧ Below w.heap.size w wr)
  case atStart => exact ⟨0, _, Nat.zero_le _, rfl, rfl, rfl, by simp, hown0, hb0⟩
  case round =>
    obtain ⟨k, bv, hk, rfl, hbv, rfl, hne, hown, hB⟩ := hrel
    subst hbv
    have Hne : Hid (bv ≠ .slice none 0 0) := hne
    clear hne hown0 hb0
    by_cases hlt : k < n
    · have hkz : (k : Int) < (n : Int) := by omega
      have hV := Box.new wr 0 0 ⟨#[]⟩
      have hb2 : Below wr.heap.size wr (wr.alloc (.cells #[.int .i64 0, .int .i64 0, .string ⟨#[]⟩] 59)) := (Below.refl _ _).alloc (Nat.le_refl _) _
      obtain ⟨W1, hW1⟩ : ∃ W1, Hid (W1 = wr.alloc (.cells #[.int .i64 0, .int .i64 0, .string ⟨#[]⟩] 59)) := ⟨_, rfl⟩
      obtain ⟨A, hA⟩ : ∃ A, Hid (A = wr.heap.size) := ⟨_, rfl⟩
      rw [← hW1.out] at hV hb2
      rw [← hA.out] at hV
      have hAw : wr.heap.size ≤ A := by rw [hA.out]; exact Nat.le_refl _
      have hBW := hB.trans (hb2.mono hB.size)
      obtain ⟨b1, o1, rfl, hb1, hd1⟩ := (h.below hB).cells (by omega)
      obtain ⟨xw, -, -, -⟩ := hd1 k hlt
      have x0 : W1.cell? ⟨b1, o1 + k * 4, none⟩ = some (.int .i64 (fc k)) := by rw [hb2.cell (p := ⟨b1, o1 + k * 4, none⟩) hb1]; exact xw
      clear hd1
      by_cases hc : 0 ≤ fc k ∧ fc k < m
      · obtain ⟨b2, o2, rfl, hbb, hd2⟩ := (h2.below hBW).cells (by omega)
        obtain ⟨j, hj⟩ : ∃ j : Nat, Hid (fc k = j) := ⟨(fc k).toNat, by show _ = _; omega⟩
        have hjm : j < m := by have := hj.out; omega
        have hjz : (j : Int) < (m : Int) := by omega
        obtain ⟨y0, y1, y2⟩ := hd2 j hjm
        have HK : Hid (pickK fc m fk k = fk j) := by show _ = _; unfold pickK; rw [if_pos hc, hj.out]; simp
        have HN : Hid (pickK fc m fn k = fn j) := by show _ = _; unfold pickK; rw [if_pos hc, hj.out]; simp
        have HS : Hid (pickS fc m fs k = fs j) := by show _ = _; unfold pickS; rw [if_pos hc, hj.out]; simp
        rw [hj.out] at x0 xw
        clear hd2 h h2 hc
        obtain ⟨q0, hq0⟩ : ∃ p, Hid (fk j = p) := ⟨_, rfl⟩
        obtain ⟨q1, hq1⟩ : ∃ p, Hid (fn j = p) := ⟨_, rfl⟩
        obtain ⟨q2, hq2⟩ : ∃ p, Hid (fs j = p) := ⟨_, rfl⟩
        rw [hq0.out] at y0 HK
        rw [hq1.out] at y1 HN
        rw [hq2.out] at y2 HS
        go_wp2_with fail
        clear xw
        rw [← hW1.out, ← hA.out]
        refine (l1In_yes (j : Int) 0 ((m : Int) - 1) _ (by omega) (by omega)).mono ?_
        rintro e _ ⟨rfl, rfl⟩
        obtain ⟨f0, f1, f2⟩ := hV.frozen
        obtain ⟨c0, c1, c2⟩ := hV.cells
        have hV2 := hV.put q0 q1 q2
        replace hb2 := ((hb2.setCell (p := ⟨A, 0, none⟩) hAw (.int .i64 q0)).setCell (p := ⟨A, 1, none⟩) hAw (.int .i64 q1)).setCell (p := ⟨A, 2, none⟩) hAw (.string q2)
        obtain ⟨W2, hW2⟩ : ∃ W2, Hid (W2 = ((W1.setCell ⟨A, 0, none⟩ (.int .i64 q0)).setCell ⟨A, 1, none⟩ (.int .i64 q1)).setCell ⟨A, 2, none⟩ (.string q2)) := ⟨_, rfl⟩
        rw [← hW2.out] at hV2 hb2
        obtain ⟨z0, z1, z2⟩ := hV2.cells
        have hb3 : Below wr.heap.size wr (W2.alloc (.cells #[.int .i64 q0, .int .i64 q1, .string q2] 59)) := hb2.alloc hb2.size _
        have hown3 := own_below3 hown hb3
        have hcl := cells_one W2 q0 q1 q2
        have hsz3 : (W2.alloc (.cells #[.int .i64 q0, .int .i64 q1, .string q2] 59)).heap.size = W2.heap.size + 1 := by simp
        have hB3 := hB.trans (hb3.mono hB.size)
        obtain ⟨W3, hW3⟩ : ∃ W3, Hid (W3 = W2.alloc (.cells #[.int .i64 q0, .int .i64 q1, .string q2] 59)) := ⟨_, rfl⟩
        obtain ⟨B3, hB3e⟩ : ∃ B3, Hid (B3 = W2.heap.size) := ⟨_, rfl⟩
        rw [← hW3.out] at hown3 hcl hsz3 hB3
        rw [← hB3e.out] at hcl
        have hbs : w.heap.size ≤ W3.heap.size := hB3.size
        go_wp2_with (first | (at_builtin; refine wpList_append_own _ rfl (.tmp 33) (.tmp 35) 32 rfl w.heap.size 59 i0 (.agg #[.int .i64 0, .int .i64 0, .string ⟨#[]⟩]) 3 32 Try.underlying32 hi hz0 hz1 hz2 rfl (by decide) bv k (rowC (pickK fc m fk) (pickK fc m fn) (pickS fc m fs) k) rfl hown3 ⟨B3, 0, none⟩ 1 1 [.int .i64 q0, .int .i64 q1, .string q2] rfl rfl hcl (one_cells _ _ _) (by unfold maxLen; omega) (by omega) hbs ?_; intro v4 w4 hown4 hgr4 hnil4) | rw [← hW3.out, ← hB3e.out] | rw [← hW2.out])
        have Hne4 : Hid (v4 ≠ .slice none 0 0) := fun e => Hne.out ((hnil4.1 e).1)
        have hB4 : Hid (Below w.heap.size w w4) := hB3.grown hgr4 hB3.size (fun j hj => (hown3.lt j hj).1)
        have hown5 : Hid (w4.ownsRow w.heap.size 59 3 v4 (k + 1) (rowC (pickK fc m fk) (pickK fc m fn) (pickS fc m fs) (k + 1))) := by
          show w4.ownsRow _ _ _ _ _ _
          rw [rowC, HK.out, HN.out, HS.out]
          exact hown4
        clear z0 z1 z2 c0 c1 c2 f0 f1 f2 y0 y1 y2 x0 hown hown3 hown4 hgr4 hnil4 hcl hB3 hb3 hb2
        go_wp2
        go_roundg (n - (k + 1))
        case measure => omega
        case rel => exact ⟨k + 1, v4, by omega, rfl, rfl, by go_num, Hne4.out, hown5.out, hB4.out⟩
      · have HK : Hid (pickK fc m fk k = 0) := by show _ = _; unfold pickK; rw [if_neg hc]
        have HN : Hid (pickK fc m fn k = 0) := by show _ = _; unfold pickK; rw [if_neg hc]
        have HS : Hid (pickS fc m fs k = ⟨#[]⟩) := by show _ = _; unfold pickS; rw [if_neg hc]
        have hc2 : fc k < 0 ∨ (m : Int) - 1 < fc k := by omega
        obtain ⟨p0, hp0⟩ : ∃ p, Hid (fc k = p) := ⟨_, rfl⟩
        rw [hp0.out] at x0 xw hc2
        clear h h2 hc
        go_wp2_with fail
        clear xw
        rw [← hW1.out, ← hA.out]
        refine (l1In_no p0 0 ((m : Int) - 1) _ hc2).mono ?_
        rintro e _ ⟨rfl, rfl⟩
        obtain ⟨z0, z1, z2⟩ := hV.cells
        have hb3 : Below wr.heap.size wr (W1.alloc (.cells #[.int .i64 0, .int .i64 0, .string ⟨#[]⟩] 59)) := hb2.alloc hb2.size _
        have hown3 := own_below3 hown hb3
        have hcl := cells_one W1 0 0 ⟨#[]⟩
        have hsz3 : (W1.alloc (.cells #[.int .i64 0, .int .i64 0, .string ⟨#[]⟩] 59)).heap.size = W1.heap.size + 1 := by simp
        have hB3 := hB.trans (hb3.mono hB.size)
        obtain ⟨W3, hW3⟩ : ∃ W3, Hid (W3 = W1.alloc (.cells #[.int .i64 0, .int .i64 0, .string ⟨#[]⟩] 59)) := ⟨_, rfl⟩
        obtain ⟨B3, hB3e⟩ : ∃ B3, Hid (B3 = W1.heap.size) := ⟨_, rfl⟩
        rw [← hW3.out] at hown3 hcl hsz3 hB3
        rw [← hB3e.out] at hcl
        have hbs : w.heap.size ≤ W3.heap.size := hB3.size
        go_wp2_with (first | (at_builtin; refine wpList_append_own _ rfl (.tmp 33) (.tmp 35) 32 rfl w.heap.size 59 i0 (.agg #[.int .i64 0, .int .i64 0, .string ⟨#[]⟩]) 3 32 Try.underlying32 hi hz0 hz1 hz2 rfl (by decide) bv k (rowC (pickK fc m fk) (pickK fc m fn) (pickS fc m fs) k) rfl hown3 ⟨B3, 0, none⟩ 1 1 [.int .i64 0, .int .i64 0, .string ⟨#[]⟩] rfl rfl hcl (one_cells _ _ _) (by unfold maxLen; omega) (by omega) hbs ?_; intro v4 w4 hown4 hgr4 hnil4) | rw [← hW3.out, ← hB3e.out])
        have Hne4 : Hid (v4 ≠ .slice none 0 0) := fun e => Hne.out ((hnil4.1 e).1)
        have hB4 : Hid (Below w.heap.size w w4) := hB3.grown hgr4 hB3.size (fun j hj => (hown3.lt j hj).1)
        have hown5 : Hid (w4.ownsRow w.heap.size 59 3 v4 (k + 1) (rowC (pickK fc m fk) (pickK fc m fn) (pickS fc m fs) (k + 1))) := by
          show w4.ownsRow _ _ _ _ _ _
          rw [rowC, HK.out, HN.out, HS.out]
          exact hown4
        clear z0 z1 z2 x0 hown hown3 hown4 hgr4 hnil4 hcl hB3 hb3 hb2
        go_wp2
        go_roundg (n - (k + 1))
        case measure => omega
        case rel => exact ⟨k + 1, v4, by omega, rfl, rfl, by go_num, Hne4.out, hown5.out, hB4.out⟩
    · have hkz : ¬ (k : Int) < (n : Int) := by omega
      obtain rfl : k = n := by omega
      have hO : Hid _ := hown
      clear hown
      go_wp2
      go_ret
      exact ⟨_, rfl, Hne.out, hO.out, hB⟩
end Go.Proofs.Ytclegljalndaear

/-
  A value, a place and a word, as they are handed back.
-/
namespace Go.Proofs.Ytclegljalndaear
open Go.RowKit
set_option maxRecDepth 4000

def gotRet (g : Got) : Ending := .returned (.tuple #[.agg #[.int .i64 g.k, .int .i64 g.n, .string g.s], .int .i64 g.q, .bool g.ok])
end Go.Proofs.Ytclegljalndaear

/-
  Bytes that the call owns, or none, as a string.
-/
namespace Go.Proofs.Ytclegljalndaear
open Go.RowKit
set_option maxRecDepth 4000

theorem conv_own {w : World} {base : Nat} {v : Value} {N : Nat} {l : List Int} (h : w.ownsRow base 5 1 v N (bl l)) (hl : l.length = N) (hy : ∀ y ∈ l, 0 ≤ y ∧ y ≤ 255) :
    (convert 36 9 v).run Try.prog w = .ok (.string (strOfNums l)) w := by
  by_cases hv : v = .slice none 0 0
  · subst hv
    have h0 : N = 0 := by
      rcases h.2 with ⟨_, h0⟩ | ⟨g, c, cur, e, _⟩
      · exact h0
      · cases e
    obtain rfl : l = [] := by
      cases l with
      | nil => rfl
      | cons x xs => simp at hl; omega
    have := run_convert_bytes_nil (P := Try.prog) (w := w) 36 5 Try.underlying36 Try.underlying5 0 0 9 Try.underlying9
    exact this
  · obtain ⟨g, c, rfl, _, hc, hr⟩ := row_of_own' h hv
    have hb : ∀ i, i < N → 0 ≤ l.getD i 0 ∧ l.getD i 0 ≤ 255 := by
      intro i hi
      have hi' : i < l.length := by omega
      have := hy _ (List.getElem_mem hi')
      simpa [hi'] using this
    have := conv_view (hr.view hc hb)
    rw [← hl] at this ⊢
    rw [this, lof_self]
end Go.Proofs.Ytclegljalndaear

/-
  The program's GetEsc: what is read of the bytes as a text in order, at every slice of bytes that reads and at every place.
-/
namespace Go.Proofs.Ytclegljalndaear
open Go.RowKit
set_option maxRecDepth 4000

theorem retE {s s' : ByteArray} {b b' : Int} {c c' : Bool} (h1 : s = s') (h2 : b = b') (h3 : c = c') :
    Ending.returned (.tuple #[.string s, .int .i64 b, .bool c]) = .returned (.tuple #[.string s', .int .i64 b', .bool c']) := by rw [h1, h2, h3]

theorem snoc_byte {l : List Int} (h : ∀ y ∈ l, 0 ≤ y ∧ y ≤ 255) (x : Int) (h0 : 0 ≤ x) (h1 : x ≤ 255) : ∀ y ∈ l ++ [x], 0 ≤ y ∧ y ≤ 255 := by
  intro y hy
  rcases List.mem_append.1 hy with hy | hy
  · exact h y hy
  · simp at hy; omega

set_option maxRecDepth 4000 in
set_option maxHeartbeats 2000000 in
theorem getEsc_impl (ao : Option Addr) (n cap : Nat) (f : Nat → Int) (p : Int) (w : World) (s : ByteArray) (q : Int) (ok : Bool) (hg : Hid (getE n f p = (s, q, ok))) (hv : View w ao n cap f) (hn : n ≤ 17592186044416) (hp1 : p ≤ 9223372036854775807) :
    Calls Try.prog 100 #[.slice ao n cap, .int .i64 p] w fun e w' => e = .returned (.tuple #[.string s, .int .i64 q, .bool ok]) ∧ Below w.heap.size w w' := by
  by_cases hp : p < 0
  · have := hg.out
    rw [getE_neg n f p hp] at this
    cases this
    go_enter Try.func100, Try.ntmps100
    go_wp2
    go_ret3
    exact ⟨rfl, Below.refl _ _⟩
  obtain ⟨p, rfl⟩ := Int.eq_ofNat_of_zero_le (Int.not_lt.1 hp)
  obtain ⟨i0, hi, hz0, hz1, hz2⟩ := info_parts Try.info5
  have hown0 : w.ownsRow w.heap.size 5 1 (.slice none 0 0) 0 (bl []) := ⟨rfl, .inl ⟨rfl, rfl⟩⟩
  go_enter Try.func100, Try.ntmps100
  go_wp2
  go_loopg [7, 8] (n - p) (fun g v i wr => ∃ (k : Nat) (acc : List Int), g = n - k ∧ i = .int .i64 k ∧ (k : Int) ≤ 9223372036854775807 ∧ acc.length + p ≤ k ∧ Seen n f p k acc ∧ (∀ y ∈ acc, 0 ≤ y ∧ y ≤ 255) ∧ wr.ownsRow w.heap.size 5 1 v acc.length (bl acc) ∧ Below w.heap.size w wr)
  case atStart => exact ⟨p, [], rfl, rfl, hp1, by simp, Seen.start n f p, (fun y hy => by cases hy), hown0, Below.refl _ _⟩
  case round =>
    obtain ⟨k, acc, rfl, rfl, hk63, hak, hsn, hyb, hown, hB⟩ := hrel
    clear hown0
    have HS : Hid (Seen n f p k acc) := hsn
    have HY : Hid (∀ y ∈ acc, 0 ≤ y ∧ y ≤ 255) := hyb
    clear hsn hyb
    by_cases hlt : k + 1 < n
    · obtain ⟨b, off, rfl, hb, hc⟩ := hv.cells (by omega)
      have hkz : (k : Int) < (n : Int) - 1 := by omega
      have hkz1 : (k : Int) + 1 < (n : Int) := by omega
      have hc0 : wr.cell? ⟨b, off + k, none⟩ = some (.int .u8 (f k)) := by rw [hB.cell (p := ⟨b, off + k, none⟩) hb]; exact hc k (by omega)
      have hc1 : wr.cell? ⟨b, off + (k + 1), none⟩ = some (.int .u8 (f (k + 1))) := by rw [hB.cell (p := ⟨b, off + (k + 1), none⟩) hb]; exact hc (k + 1) hlt
      have hb0 := hv.byte k (by omega)
      obtain ⟨hb00, hb01⟩ := hb0
      have hcv : (convert 36 9 u7).run Try.prog wr = .ok (.string (strOfNums acc)) wr := conv_own hown rfl HY.out
      clear hc
      by_cases h0 : f k = 0
      · have H0 : Hid (f k = 0) := h0
        rw [h0] at hc0
        clear h0 hb00 hb01
        by_cases h1 : f (k + 1) = 1
        · have HG := hg.out
          rw [getE_some (HS.out.ends hlt H0.out h1)] at HG
          cases HG
          rw [h1] at hc1
          go_wp2
          go_ret3
          have := HS.out.1
          exact ⟨retE rfl (by omega) rfl, hB⟩
        · by_cases h2 : f (k + 1) = 255
          · have HS2 : Hid (Seen n f p (k + 2) (acc ++ [0])) := HS.out.goes hlt H0.out h2
            rw [h2] at hc1
            clear hcv
            go_wp2_with (at_builtin; go_must (refine wpList_append_own _ rfl (.tmp 50) (.tmp 51) 36 rfl w.heap.size 5 i0 (.int .u8 0) 1 1 Try.underlying36 hi hz0 hz1 hz2 rfl (by decide) u7 _ _ rfl (hown.alloc _) ⟨wr.heap.size, 0, none⟩ 1 1 [.int .u8 0] rfl rfl (cellNew _ _ _) (bl_one [0]) (by unfold maxLen; omega) (by omega) (by have := hB.size; simp; omega) ?_); intro v2 w2 hown2 hgr2 _)
            have hB2 : Below w.heap.size w w2 := (hB.alloc hB.size _).grown hgr2 (by have := hB.size; simp; omega) (fun k hk => (hown.lt k hk).1)
            have hO2 : w2.ownsRow w.heap.size 5 1 v2 (acc ++ [0]).length (bl (acc ++ [0])) := by
              rw [List.length_append, bl_append]
              exact hown2
            clear hgr2 hown hown2 hB
            go_wp2
            go_roundg (n - (k + 2))
            case measure => omega
            case rel => exact ⟨k + 2, acc ++ [0], rfl, by go_num, by omega, by simp; omega, HS2.out, snoc_byte HY.out 0 (by omega) (by omega), hO2, hB2⟩
          · have HG := hg.out
            rw [getE_none (HS.out.wrong hlt H0.out h1 h2)] at HG
            cases HG
            have q1 : (f (k + 1) == 1) = false := by simpa using h1
            have q2 : (f (k + 1) == 255) = false := by simpa using h2
            clear h1 h2 hcv
            go_wp2
            go_ret3
            exact ⟨rfl, hB⟩
      · have q0 : (f k != 0) = true := by simpa using h0
        have HS2 : Hid (Seen n f p (k + 1) (acc ++ [f k])) := HS.out.plain hlt h0
        clear h0 hcv hc1
        go_wp2_with (at_builtin; go_must (refine wpList_append_own _ rfl (.tmp 25) (.tmp 30) 36 rfl w.heap.size 5 i0 (.int .u8 0) 1 1 Try.underlying36 hi hz0 hz1 hz2 rfl (by decide) u7 _ _ rfl (hown.alloc _) ⟨wr.heap.size, 0, none⟩ 1 1 [.int .u8 (f k)] rfl rfl (cellNew _ _ _) (bl_one [f k]) (by unfold maxLen; omega) (by omega) (by have := hB.size; simp; omega) ?_); intro v2 w2 hown2 hgr2 _)
        have hB2 : Below w.heap.size w w2 := (hB.alloc hB.size _).grown hgr2 (by have := hB.size; simp; omega) (fun k hk => (hown.lt k hk).1)
        have hO2 : w2.ownsRow w.heap.size 5 1 v2 (acc ++ [f k]).length (bl (acc ++ [f k])) := by
          rw [List.length_append, bl_append]
          exact hown2
        clear hgr2 hown hown2 hB
        go_wp2
        go_roundg (n - (k + 1))
        case measure => omega
        case rel => exact ⟨k + 1, acc ++ [f k], rfl, by go_num, by omega, by simp; omega, HS2.out, snoc_byte HY.out (f k) hb00 hb01, hO2, hB2⟩
    · have hkz : (n : Int) - 1 ≤ (k : Int) := by omega
      have HG := hg.out
      rw [getE_none (HS.out.past (by omega))] at HG
      cases HG
      clear hlt
      go_wp2
      go_ret3
      exact ⟨rfl, hB⟩
end Go.Proofs.Ytclegljalndaear

/-
  The model's GetEsc: what is read of the bytes as a text in order, at every slice of bytes that reads and at every place.
-/
namespace Go.Proofs.Ytclegljalndaear
open Go.RowKit
set_option maxRecDepth 4000

set_option maxHeartbeats 2000000 in
theorem getEsc_spec (ao : Option Addr) (n cap : Nat) (f : Nat → Int) (p : Int) (w : World) (s : ByteArray) (q : Int) (ok : Bool) (hg : Hid (getE n f p = (s, q, ok))) (hv : View w ao n cap f) (hn : n ≤ 17592186044416) (hp1 : p ≤ 9223372036854775807) :
    Calls Try.prog 86 #[.slice ao n cap, .int .i64 p] w fun e w' => e = .returned (.tuple #[.string s, .int .i64 q, .bool ok]) ∧ Below w.heap.size w w' := by
  by_cases hp : p < 0
  · have := hg.out
    rw [getE_neg n f p hp] at this
    cases this
    go_enter Try.func86, Try.ntmps86
    go_wp2
    go_ret3
    exact ⟨rfl, (Below.refl _ _).alloc (Nat.le_refl _) _⟩
  obtain ⟨p, rfl⟩ := Int.eq_ofNat_of_zero_le (Int.not_lt.1 hp)
  obtain ⟨i0, hi, hz0, hz1, hz2⟩ := info_parts Try.info5
  have hown0 := World.ownsRow_lit (base := w.heap.size) (e := 5) (size := 1) w #[] 0 (Nat.le_refl _) (Nat.zero_le _) rfl
  have hb0 : Below w.heap.size w (w.alloc (.cells #[] 5)) := (Below.refl _ _).alloc (Nat.le_refl _) _
  go_enter Try.func86, Try.ntmps86
  go_wp2
  go_loopg [1, 7] (n - p) (fun g i v wr => ∃ (k : Nat) (acc : List Int), g = n - k ∧ i = .int .i64 k ∧ (k : Int) ≤ 9223372036854775807 ∧ acc.length + p ≤ k ∧ Seen n f p k acc ∧ (∀ y ∈ acc, 0 ≤ y ∧ y ≤ 255) ∧ wr.ownsRow w.heap.size 5 1 v acc.length (bl acc) ∧ Below w.heap.size w wr)
  case atStart => exact ⟨p, [], rfl, rfl, hp1, by simp, Seen.start n f p, (fun y hy => by cases hy), hown0, hb0⟩
  case round =>
    obtain ⟨k, acc, rfl, rfl, hk63, hak, hsn, hyb, hown, hB⟩ := hrel
    clear hown0 hb0
    have HS : Hid (Seen n f p k acc) := hsn
    have HY : Hid (∀ y ∈ acc, 0 ≤ y ∧ y ≤ 255) := hyb
    clear hsn hyb
    by_cases hend : k < n
    · obtain ⟨b, off, rfl, hb, hc⟩ := hv.cells (by omega)
      have hkz : (k : Int) < (n : Int) := by omega
      have hc0 : wr.cell? ⟨b, off + k, none⟩ = some (.int .u8 (f k)) := by rw [hB.cell (p := ⟨b, off + k, none⟩) hb]; exact hc k (by omega)
      obtain ⟨hb00, hb01⟩ := hv.byte k hend
      by_cases h0 : f k = 0
      · have H0 : Hid (f k = 0) := h0
        rw [h0] at hc0
        clear h0 hb00 hb01
        by_cases hlt : k + 1 < n
        · have hkz1 : (k : Int) + 1 < (n : Int) := by omega
          have hne : ((k : Int) + 1 == (n : Int)) = false := by simp; omega
          have hc1 : wr.cell? ⟨b, off + (k + 1), none⟩ = some (.int .u8 (f (k + 1))) := by rw [hB.cell (p := ⟨b, off + (k + 1), none⟩) hb]; exact hc (k + 1) hlt
          have hcv : (convert 36 9 u7).run Try.prog wr = .ok (.string (strOfNums acc)) wr := conv_own hown rfl HY.out
          clear hc
          by_cases h1 : f (k + 1) = 1
          · have HG := hg.out
            rw [getE_some (HS.out.ends hlt H0.out h1)] at HG
            cases HG
            rw [h1] at hc1
            go_wp2
            go_ret3
            have := HS.out.1
            exact ⟨retE rfl (by omega) rfl, hB⟩
          · by_cases h2 : f (k + 1) = 255
            · have HS2 : Hid (Seen n f p (k + 2) (acc ++ [0])) := HS.out.goes hlt H0.out h2
              rw [h2] at hc1
              clear hcv
              go_wp2_with (at_builtin; go_must (refine wpList_append_own _ rfl (.tmp 59) (.tmp 60) 36 rfl w.heap.size 5 i0 (.int .u8 0) 1 1 Try.underlying36 hi hz0 hz1 hz2 rfl (by decide) u7 _ _ rfl (hown.alloc _) ⟨wr.heap.size, 0, none⟩ 1 1 [.int .u8 0] rfl rfl (cellNew _ _ _) (bl_one [0]) (by unfold maxLen; omega) (by omega) (by have := hB.size; simp; omega) ?_); intro v2 w2 hown2 hgr2 _)
              have hB2 : Below w.heap.size w w2 := (hB.alloc hB.size _).grown hgr2 (by have := hB.size; simp; omega) (fun k hk => (hown.lt k hk).1)
              have hO2 : w2.ownsRow w.heap.size 5 1 v2 (acc ++ [0]).length (bl (acc ++ [0])) := by
                rw [List.length_append, bl_append]
                exact hown2
              clear hgr2 hown hown2 hB
              go_wp2
              go_roundg (n - (k + 2))
              case measure => omega
              case rel => exact ⟨k + 2, acc ++ [0], rfl, by go_num, by omega, by simp; omega, HS2.out, snoc_byte HY.out 0 (by omega) (by omega), hO2, hB2⟩
            · have HG := hg.out
              rw [getE_none (HS.out.wrong hlt H0.out h1 h2)] at HG
              cases HG
              have q1 : (f (k + 1) != 1) = true := by simpa using h1
              have q2 : (f (k + 1) != 255) = true := by simpa using h2
              clear h1 h2 hcv
              go_wp2
              go_ret3
              exact ⟨rfl, hB⟩
        · have HG := hg.out
          rw [getE_none (HS.out.past (by omega))] at HG
          cases HG
          have hne : ((k : Int) + 1 == (n : Int)) = true := by simp; omega
          clear hc
          go_wp2
          go_ret3
          exact ⟨rfl, hB⟩
      · have q0 : (f k != 0) = true := by simpa using h0
        have HS2 : Hid (Seen n f p (k + 1) (acc ++ [f k])) := by
          by_cases hlt : k + 1 < n
          · exact HS.out.plain hlt h0
          · exact HS.out.last (by omega) _
        clear h0 hc
        go_wp2_with (at_builtin; go_must (refine wpList_append_own _ rfl (.tmp 22) (.tmp 24) 36 rfl w.heap.size 5 i0 (.int .u8 0) 1 1 Try.underlying36 hi hz0 hz1 hz2 rfl (by decide) u7 _ _ rfl (hown.alloc _) ⟨wr.heap.size, 0, none⟩ 1 1 [.int .u8 (f k)] rfl rfl (cellNew _ _ _) (bl_one [f k]) (by unfold maxLen; omega) (by omega) (by have := hB.size; simp; omega) ?_); intro v2 w2 hown2 hgr2 _)
        have hB2 : Below w.heap.size w w2 := (hB.alloc hB.size _).grown hgr2 (by have := hB.size; simp; omega) (fun k hk => (hown.lt k hk).1)
        have hO2 : w2.ownsRow w.heap.size 5 1 v2 (acc ++ [f k]).length (bl (acc ++ [f k])) := by
          rw [List.length_append, bl_append]
          exact hown2
        clear hgr2 hown hown2 hB
        go_wp2
        go_roundg (n - (k + 1))
        case measure => omega
        case rel => exact ⟨k + 1, acc ++ [f k], rfl, by go_num, by omega, by simp; omega, HS2.out, snoc_byte HY.out (f k) hb00 hb01, hO2, hB2⟩
    · have hkz : (n : Int) ≤ (k : Int) := by omega
      have HG := hg.out
      rw [getE_none (HS.out.past (by omega))] at HG
      cases HG
      go_wp2
      go_ret3
      exact ⟨rfl, hB⟩
end Go.Proofs.Ytclegljalndaear

/-
  The model's l5Get: a value of a type, as it is read.
-/
namespace Go.Proofs.Ytclegljalndaear
open Go.RowKit
set_option maxRecDepth 4000

theorem getFix_specB {a q : Int} {ok : Bool} (b off n cap : Nat) (f : Nat → Int) (p : Int) (w : World) (hg : Hid (getF n f p = (a, q, ok))) (hv : View w (some ⟨b, off, none⟩) n cap f) (hn : n ≤ 281474976710656) (hp1 : p ≤ 9223372036854775807) :
    Calls Try.prog 84 #[.slice (some ⟨b, off, none⟩) n cap, .int .i64 p] w fun e w' => e = .returned (.tuple #[.int .i64 a, .int .i64 q, .bool ok]) ∧ Below w.heap.size w w' := by
  refine (getFix_spec b off n cap f p w hg hv hn hp1).mono ?_
  rintro e _ ⟨h, rfl⟩
  exact ⟨h, Below.refl _ _⟩

set_option maxHeartbeats 2000000 in
theorem l5Get_fix (b off n cap : Nat) (f : Nat → Int) (p : Int) (w : World) (hv : View w (some ⟨b, off, none⟩) n cap f) (hn : n ≤ 10000000) (hp1 : p ≤ 9223372036854775807) :
    Calls Try.prog 65 #[.slice (some ⟨b, off, none⟩) n cap, .int .i64 1, .int .i64 p] w fun e w' => e = gotRet (rawT n f 1 p) ∧ Below w.heap.size w w' := by
  obtain ⟨a, q, ok, hg⟩ : ∃ a q ok, Hid (getF n f p = (a, q, ok)) := ⟨_, _, _, rfl⟩
  have HR : Hid (rawT n f 1 p = ⟨1, a, noBytes, q, ok⟩) := by show _ = _; unfold rawT; rw [if_pos rfl, hg.out]
  rw [HR.out]
  obtain ⟨hR, hV, hb⟩ := boxes2 w 1
  have hv2 := hv.below hb
  go_enter Try.func65, Try.ntmps65
  go_wp2_with fail
  refine (getFix_specB b off n cap f p _ hg hv2 (by omega) hp1).mono ?_
  rintro e w1 ⟨rfl, hb1⟩
  have hR1 := hR.below hb1
  have hV1 := hV.below hb1
  have hB1 : Below w.heap.size w w1 := hb.trans (hb1.mono hb.size)
  clear hv2 hg hR hV hb hb1
  obtain ⟨c0, c1, c2⟩ := hV1.cells
  obtain ⟨f0, f1, f2⟩ := hV1.frozen
  have hR4 := hR1.other (D := w.heap.size + 1) (i := 1) (by omega) (.int .i64 a)
  obtain ⟨d0, d1, d2⟩ := hR4.cells
  obtain ⟨r0, r1, r2⟩ := hR1.frozen
  obtain ⟨p0, p1, p2⟩ := hR1.cells
  have hgs := stored3 (.int .i64 1) (.int .i64 a) (.string ⟨#[]⟩) d0 d1 d2
  have HB : Hid (Below w.heap.size w ((((w1.setCell ⟨w.heap.size + 1, 1, none⟩ (.int .i64 a)).setCell ⟨w.heap.size, 0, none⟩ (.int .i64 1)).setCell ⟨w.heap.size, 1, none⟩ (.int .i64 a)).setCell ⟨w.heap.size, 2, none⟩ (.string ⟨#[]⟩))) := (((hB1.setCell (Nat.le_succ _) _).setCell (Nat.le_refl _) _).setCell (Nat.le_refl _) _).setCell (Nat.le_refl _) _
  clear hR1 hV1 hR4 hB1
  go_wp2
  exact bodyPost_ret (v := .tuple #[.agg #[_, _, _], _, _]) (by simp [results, Try.results65, go_sem, hgs, noBytes]) rfl ⟨rfl, HB.out⟩

set_option maxHeartbeats 2000000 in
theorem l5Get_var (b off n cap : Nat) (f : Nat → Int) (p : Int) (w : World) (hv : View w (some ⟨b, off, none⟩) n cap f) (hn : n ≤ 10000000) (hp1 : p ≤ 9223372036854775807) :
    Calls Try.prog 65 #[.slice (some ⟨b, off, none⟩) n cap, .int .i64 2, .int .i64 p] w fun e w' => e = gotRet (rawT n f 2 p) ∧ Below w.heap.size w w' := by
  obtain ⟨a, q, ok, hg⟩ : ∃ a q ok, Hid (getV n f p = (a, q, ok)) := ⟨_, _, _, rfl⟩
  have HR : Hid (rawT n f 2 p = ⟨2, a, noBytes, q, ok⟩) := by show _ = _; unfold rawT; rw [if_neg (by decide), if_pos rfl, hg.out]
  rw [HR.out]
  obtain ⟨hR, hV, hb⟩ := boxes2 w 2
  have hv2 := hv.below hb
  go_enter Try.func65, Try.ntmps65
  go_wp2_with fail
  refine (getVar_spec b off n cap f p _ hg hv2 (by omega) hp1).mono ?_
  rintro e w1 ⟨rfl, hb1⟩
  have hR1 := hR.below hb1
  have hV1 := hV.below hb1
  have hB1 : Below w.heap.size w w1 := hb.trans (hb1.mono hb.size)
  clear hv2 hg hR hV hb hb1
  obtain ⟨c0, c1, c2⟩ := hV1.cells
  obtain ⟨f0, f1, f2⟩ := hV1.frozen
  have hR4 := hR1.other (D := w.heap.size + 1) (i := 1) (by omega) (.int .i64 a)
  obtain ⟨d0, d1, d2⟩ := hR4.cells
  obtain ⟨r0, r1, r2⟩ := hR1.frozen
  obtain ⟨p0, p1, p2⟩ := hR1.cells
  have hgs := stored3 (.int .i64 2) (.int .i64 a) (.string ⟨#[]⟩) d0 d1 d2
  have HB : Hid (Below w.heap.size w ((((w1.setCell ⟨w.heap.size + 1, 1, none⟩ (.int .i64 a)).setCell ⟨w.heap.size, 0, none⟩ (.int .i64 2)).setCell ⟨w.heap.size, 1, none⟩ (.int .i64 a)).setCell ⟨w.heap.size, 2, none⟩ (.string ⟨#[]⟩))) := (((hB1.setCell (Nat.le_succ _) _).setCell (Nat.le_refl _) _).setCell (Nat.le_refl _) _).setCell (Nat.le_refl _) _
  clear hR1 hV1 hR4 hB1
  go_wp2
  exact bodyPost_ret (v := .tuple #[.agg #[_, _, _], _, _]) (by simp [results, Try.results65, go_sem, hgs, noBytes]) rfl ⟨rfl, HB.out⟩

set_option maxHeartbeats 2000000 in
theorem l5Get_esc (b off n cap : Nat) (f : Nat → Int) (p : Int) (w : World) (hv : View w (some ⟨b, off, none⟩) n cap f) (hn : n ≤ 10000000) (hp1 : p ≤ 9223372036854775807) :
    Calls Try.prog 65 #[.slice (some ⟨b, off, none⟩) n cap, .int .i64 3, .int .i64 p] w fun e w' => e = gotRet (rawT n f 3 p) ∧ Below w.heap.size w w' := by
  obtain ⟨a, q, ok, hg⟩ : ∃ a q ok, Hid (getE n f p = (a, q, ok)) := ⟨_, _, _, rfl⟩
  have HR : Hid (rawT n f 3 p = ⟨3, 0, a, q, ok⟩) := by show _ = _; unfold rawT; rw [if_neg (by decide), if_neg (by decide), if_pos rfl, hg.out]
  rw [HR.out]
  obtain ⟨hR, hV, hb⟩ := boxes2 w 3
  have hv2 := hv.below hb
  go_enter Try.func65, Try.ntmps65
  go_wp2_with fail
  refine (getEsc_spec _ n cap f p _ a q ok hg hv2 (by omega) hp1).mono ?_
  rintro e w1 ⟨rfl, hb1⟩
  have hR1 := hR.below hb1
  have hV1 := hV.below hb1
  have hB1 : Below w.heap.size w w1 := hb.trans (hb1.mono hb.size)
  clear hv2 hg hR hV hb hb1
  obtain ⟨c0, c1, c2⟩ := hV1.cells
  obtain ⟨f0, f1, f2⟩ := hV1.frozen
  have hR4 := hR1.other (D := w.heap.size + 1) (i := 2) (by omega) (.string a)
  obtain ⟨d0, d1, d2⟩ := hR4.cells
  obtain ⟨r0, r1, r2⟩ := hR1.frozen
  obtain ⟨p0, p1, p2⟩ := hR1.cells
  have hgs := stored3 (.int .i64 3) (.int .i64 0) (.string a) d0 d1 d2
  have HB : Hid (Below w.heap.size w ((((w1.setCell ⟨w.heap.size + 1, 2, none⟩ (.string a)).setCell ⟨w.heap.size, 0, none⟩ (.int .i64 3)).setCell ⟨w.heap.size, 1, none⟩ (.int .i64 0)).setCell ⟨w.heap.size, 2, none⟩ (.string a))) := (((hB1.setCell (Nat.le_succ _) _).setCell (Nat.le_refl _) _).setCell (Nat.le_refl _) _).setCell (Nat.le_refl _) _
  clear hR1 hV1 hR4 hB1
  go_wp2
  exact bodyPost_ret (v := .tuple #[.agg #[_, _, _], _, _]) (by simp [results, Try.results65, go_sem, hgs]) rfl ⟨rfl, HB.out⟩

set_option maxHeartbeats 2000000 in
theorem l5Get_bool (b off n cap : Nat) (f : Nat → Int) (p : Int) (w : World) (hv : View w (some ⟨b, off, none⟩) n cap f) (hn : n ≤ 10000000) (hp1 : p ≤ 9223372036854775807) :
    Calls Try.prog 65 #[.slice (some ⟨b, off, none⟩) n cap, .int .i64 4, .int .i64 p] w fun e w' => e = gotRet (rawT n f 4 p) ∧ Below w.heap.size w w' := by
  have hb0 : ∀ o o', Below w.heap.size w ((w.alloc o).alloc o') := fun o o' => ((Below.refl _ _).alloc (Nat.le_refl _) _).alloc (by simp) _
  by_cases h : 0 ≤ p ∧ p < n
  · have HR : Hid (rawT n f 4 p = ⟨4, f p.toNat, noBytes, p + 1, true⟩) := by show _ = _; unfold rawT; rw [if_neg (by decide), if_neg (by decide), if_neg (by decide), if_pos h]
    rw [HR.out]
    obtain ⟨i, rfl⟩ := Int.eq_ofNat_of_zero_le h.1
    have hin : i < n := by omega
    have hz : (i : Int) < (n : Int) := by omega
    have hbi := hv.byte i hin
    obtain ⟨b', off', e', hbl, hcs⟩ := hv.cells (by omega)
    cases e'
    have hc : ∀ o o', ((w.alloc o).alloc o').cell? ⟨b, off + i, none⟩ = some (.int .u8 (f i)) := fun o o' => by
      rw [(hb0 o o').cell (p := ⟨b, off + i, none⟩) hbl]
      exact hcs i hin
    rw [Int.toNat_natCast]
    clear hcs h HR
    go_enter Try.func65, Try.ntmps65
    go_wp2
    exact bodyPost_ret (v := .tuple #[.agg #[_, _, _], _, _]) (by simp [results, Try.results65, go_sem, noBytes]) rfl ⟨rfl, hb0 _ _⟩
  · have HR : Hid (rawT n f 4 p = ⟨4, 0, noBytes, 0, false⟩) := by show _ = _; unfold rawT; rw [if_neg (by decide), if_neg (by decide), if_neg (by decide), if_neg h]
    rw [HR.out]
    by_cases h0 : 0 ≤ p
    · have hz : (n : Int) ≤ p := by omega
      clear h HR
      go_enter Try.func65, Try.ntmps65
      go_wp2
      exact bodyPost_ret (v := .tuple #[.agg #[_, _, _], _, _]) (by simp [results, Try.results65, go_sem, noBytes]) rfl ⟨rfl, hb0 _ _⟩
    · clear h HR
      go_enter Try.func65, Try.ntmps65
      go_wp2
      exact bodyPost_ret (v := .tuple #[.agg #[_, _, _], _, _]) (by simp [results, Try.results65, go_sem, noBytes]) rfl ⟨rfl, hb0 _ _⟩
end Go.Proofs.Ytclegljalndaear

/-
  The model's Flip once more: what it answers is a row of the call's own.
-/
namespace Go.Proofs.Ytclegljalndaear
open Go.RowKit
set_option maxRecDepth 4000

/-- Block b is a row of bytes of the call's own, none frozen, with room for c of them; the first n are f 0 up to f (n - 1). -/
def RowC (t : TypeId) (w : World) (b n c : Nat) (f : Nat → Int) : Prop :=
  ∃ cur : Array Value, w.heap[b]? = some (.cells cur t (0, 0)) ∧ cur.size = c ∧ n ≤ c ∧ c ≤ maxLen ∧ ∀ i, i < n → cur[i]? = some (.int .u8 (f i))
namespace RowC
variable {t : TypeId} {w w' : World} {b n c : Nat} {f g : Nat → Int}
theorem row (h : RowC t w b n c f) : Row t w b n f := by
  obtain ⟨cur, h1, h2, h3, _, h5⟩ := h
  exact ⟨cur, h1, by omega, h5⟩
theorem congr (h : RowC t w b n c f) (e : ∀ i, i < n → f i = g i) : RowC t w b n c g := by
  obtain ⟨cur, h1, h2, h3, h4, h5⟩ := h
  exact ⟨cur, h1, h2, h3, h4, fun i hi => by rw [h5 i hi, e i hi]⟩
theorem of_block (h : RowC t w b n c f) (e : w'.heap[b]? = w.heap[b]?) : RowC t w' b n c f := by
  obtain ⟨cur, h1, r⟩ := h
  exact ⟨cur, e.trans h1, r⟩
theorem set (h : RowC t w b n c f) (i : Nat) (x : Int) : RowC t (w.setCell ⟨b, i, none⟩ (.int .u8 x)) b n c (fun j => if j = i then x else f j) := by
  obtain ⟨cur, hb, hs, hn, hm, hc⟩ := h
  refine ⟨cur.setIfInBounds i (.int .u8 x), ?_, by simpa using hs, hn, hm, fun j hj => ?_⟩
  · simp [World.setCell, Array.getElem?_modify, hb]
  · rw [Array.getElem?_setIfInBounds]
    by_cases e : j = i
    · subst e
      have : j < cur.size := by omega
      simp [this]
    · rw [if_neg (fun h => e h.symm)]
      show cur[j]? = some (.int .u8 (if j = i then x else f j))
      rw [if_neg e]
      exact hc j hj
theorem own (h : RowC t w b n c f) {base : Nat} (hb : base ≤ b) : w.ownsRow base t 1 (.slice (some ⟨b, 0, none⟩) n c) n (bl (lof n f)) := by
  obtain ⟨cur, h1, h2, h3, h4, h5⟩ := h
  refine ⟨by rw [bl_len, lof_len]; omega, Or.inr ⟨b, c, cur, rfl, hb, h1, h3, h4, by omega, ?_⟩⟩
  apply List.ext_getElem?
  intro i
  rw [Nat.mul_one, List.getElem?_take]
  by_cases hi : i < n
  · rw [if_pos hi, Array.getElem?_toList, h5 i hi]
    simp [bl, lof, hi]
  · rw [if_neg hi, List.getElem?_eq_none (by rw [bl_len, lof_len]; omega)]
theorem ofOwn {base : Nat} {v : Value} {l : List Int} (h : w.ownsRow base t 1 v n (bl l)) (hv : v ≠ .slice none 0 0) : ∃ b c, v = .slice (some ⟨b, 0, none⟩) n c ∧ base ≤ b ∧ RowC t w b n c (fun i => l.getD i 0) := by
  obtain ⟨hl, h⟩ := h
  rcases h with ⟨h0, _⟩ | ⟨g, c, cur, rfl, hb, hg, hnc, hcm, hcs, ht⟩
  · exact absurd h0 hv
  · refine ⟨g, c, rfl, hb, cur, hg, by omega, hnc, hcm, fun i hi => ?_⟩
    have e : (bl l)[i]? = some (.int .u8 (l.getD i 0)) := by
      have : i < l.length := by rw [bl_len] at hl; omega
      simp [bl, this]
    rw [← ht, List.getElem?_take, if_pos (by omega)] at e
    simpa using e
end RowC

/-- k of the n bytes are turned, as far as they are to be. -/
structure FlippedC (t : TypeId) (w wr : World) (g n c : Nat) (f : Nat → Int) (p : Int) (k : Nat) : Prop where
  row : RowC t wr g n c (fun i => if i < k then flipF f p i else f i)
  below : Below w.heap.size w wr

theorem flippedC_turn {t : TypeId} {w wr : World} {g n c : Nat} {f : Nat → Int} {p : Int} {k : Nat} (h : FlippedC t w wr g n c f p k) (hg : w.heap.size ≤ g) (hp : p ≤ k) : FlippedC t w (wr.setCell ⟨g, k, none⟩ (.int .u8 (255 - f k))) g n c f p (k + 1) := by
  refine ⟨(h.row.set k _).congr (fun i _ => ?_), h.below.setCell hg _⟩
  by_cases e : i = k
  · subst e; simp [flipF, hp]
  · rw [if_neg e]
    by_cases hlt : i < k
    · rw [if_pos hlt, if_pos (by omega)]
    · rw [if_neg hlt, if_neg (by omega)]
theorem flippedC_keep {t : TypeId} {w wr : World} {g n c : Nat} {f : Nat → Int} {p : Int} {k : Nat} (h : FlippedC t w wr g n c f p k) (hp : ¬ p ≤ k) : FlippedC t w wr g n c f p (k + 1) := by
  refine ⟨h.row.congr (fun i _ => ?_), h.below⟩
  by_cases e : i = k
  · subst e; simp [flipF, hp]
  · by_cases hlt : i < k
    · rw [if_pos hlt, if_pos (by omega)]
    · rw [if_neg hlt, if_neg (by omega)]

set_option maxHeartbeats 1000000 in
theorem flip_own (b off n cap : Nat) (f : Nat → Int) (p : Int) (w : World) (hv : View w (some ⟨b, off, none⟩) n cap f) (hn : n ≤ 70368744177664) :
    Calls Try.prog 60 #[.slice (some ⟨b, off, none⟩) n cap, .int .i64 p] w fun e w' => ∃ g c, e = .returned (.slice (some ⟨g, 0, none⟩) n c) ∧ w.heap.size ≤ g ∧ RowC 5 w' g n c (flipF f p) ∧ Below w.heap.size w w' := by
  obtain ⟨i0, hi, hz0, hz1, hz2⟩ := info_parts Try.info5
  have hown0 := World.ownsRow_lit (base := w.heap.size) (e := 5) (size := 1) w #[] 0 (Nat.le_refl _) (Nat.zero_le _) rfl
  have hb0 : Below w.heap.size w (w.alloc (.cells #[] 5)) := (Below.refl _ _).alloc (Nat.le_refl _) _
  have hcl := cells_of_view (hv.below hb0)
  have hsz : (w.alloc (.cells #[] 5)).heap.size = w.heap.size + 1 := by simp
  have hby := hv.byte
  go_enter Try.func60, Try.ntmps60
  go_wp2_with (at_builtin; go_must (refine wpList_append_own _ rfl (.tmp 7) (.tmp 8) 36 rfl w.heap.size 5 i0 (.int .u8 0) 1 1 Try.underlying36 hi hz0 hz1 hz2 rfl (by decide) (.slice (some ⟨w.heap.size, 0, none⟩) 0 0) 0 [] rfl hown0 ⟨b, off, none⟩ n cap (bl (lof n f)) rfl (by rw [bl_len, lof_len]; omega) hcl (bl_one _) (by unfold maxLen; omega) (by omega) (by rw [hsz]; omega) ?_); intro v1 w1 hown1 hgr1 hnil; simp only [Nat.zero_add, List.nil_append] at hown1; obtain ⟨g, c, rfl, hg, hrow⟩ := RowC.ofOwn hown1 (by intro h; have := (hnil.1 h).1; cases this))
  have hb1 : Below w.heap.size w w1 := hb0.grown hgr1 (by simp) (fun k hk => by simp only [Value.ownBlock, Option.some.injEq] at hk; omega)
  have hF0 : FlippedC 5 w w1 g n c f p 0 := ⟨hrow.congr (fun i hi => by rw [lof_get n f i hi]; simp), hb1⟩
  clear hown0 hcl hsz hgr1 hb0 hv hown1 hnil hrow hb1
  go_loopg [6] n (fun q i wr => ∃ k : Nat, k ≤ n ∧ q = n - k ∧ i = .int .i64 k ∧ FlippedC 5 w wr g n c f p k)
  case atStart => exact ⟨0, Nat.zero_le _, rfl, rfl, hF0⟩
  case round =>
    obtain ⟨k, hk, rfl, rfl, hF⟩ := hrel
    clear hF0
    by_cases hlt : k < n
    · have hkz : (k : Int) < (n : Int) := by omega
      by_cases hp : p ≤ (k : Int)
      · have hS : Hid (FlippedC 5 w (wr.setCell ⟨g, k, none⟩ (.int .u8 (255 - f k))) g n c f p (k + 1)) := flippedC_turn hF hg hp
        have hc : wr.cell? ⟨g, k, none⟩ = some (.int .u8 (f k)) := by rw [hF.row.row.cell hlt, if_neg (Nat.lt_irrefl _)]
        have hf := hF.row.row.frozen k
        have hx : bits .xor .u8 IntKind.u8.max (f k) = 255 - f k := u8_not _ (hby k hlt).1 (hby k hlt).2
        clear hF hby
        go_wp2
        go_roundg (n - (k + 1))
        case measure => omega
        case rel => exact ⟨k + 1, by omega, rfl, by go_num, hS.out⟩
      · have hS : Hid (FlippedC 5 w wr g n c f p (k + 1)) := flippedC_keep hF hp
        clear hF hby
        go_wp2
        go_roundg (n - (k + 1))
        case measure => omega
        case rel => exact ⟨k + 1, by omega, rfl, by go_num, hS.out⟩
    · obtain rfl : k = n := by omega
      have hR : Hid (RowC 5 wr g k c (flipF f p)) := hF.row.congr (fun i hi => by rw [if_pos hi])
      have hB := hF.below
      clear hF hby
      go_wp2
      go_ret
      exact ⟨g, c, rfl, hg, hR.out, hB⟩
end Go.Proofs.Ytclegljalndaear

/-
  What is to be read as one value of a key, case by case.
-/
namespace Go.Proofs.Ytclegljalndaear
open Go.RowKit
set_option maxRecDepth 4000

section
variable {n : Nat} {f : Nat → Int} {c t : Int} {nul d : Bool} {p : Int} {i : Nat}
theorem getP_no (h : partOk c t = false) : getP n f c t nul d p = .no := by unfold getP; rw [if_pos (Or.inl h)]
theorem getP_out (h : p < 0 ∨ (n : Int) < p) : getP n f c t nul d p = .no := by unfold getP; rw [if_pos (Or.inr h)]
theorem getP_in (h : partOk c t = true) (h0 : 0 ≤ p) (h1 : p ≤ n) : getP n f c t nul d p = getN n (turned d f) nul t p := by
  unfold getP; rw [if_neg (by rw [h]; simp; omega)]
theorem getN_no : getN n f false t p = getT n f t p := rfl
theorem getN_end : getN n f true t (n : Int) = .no := by unfold getN; simp
theorem getN_big (h : 1 < f i) : getN n f true t (i : Int) = .no := by unfold getN; rw [Int.toNat_natCast]; simp [h]
theorem getN_zero (hi : i < n) (h : f i = 0) : getN n f true t (i : Int) = ⟨0, 0, noBytes, (i : Int) + 1, true⟩ := by
  unfold getN; rw [Int.toNat_natCast, h]
  simp only [if_true]
  rw [if_neg (by omega)]
theorem getN_one (hi : i < n) (h : f i = 1) : getN n f true t (i : Int) = getT n f t ((i : Int) + 1) := by
  unfold getN; rw [Int.toNat_natCast, h]
  simp only [if_true]
  rw [if_neg (by omega), if_neg (by decide)]
end
end Go.Proofs.Ytclegljalndaear

