/-
  Together: PutEscSpec, PartPutSpec, KeyPickSpec, DrawVals6, DrawNew, DrawKeys6
-/
import Derived.Test.YtclegljalndaeacPack1
import Derived.WalkSpells
import Derived.Test.YtclegljalndaeacPack7
import Derived.Test.YtclegljalndaeacPack6
import Derived.Deep.RegionHeld3
import Derived.Test.YtclegljalndaeacPack5
import Derived.Deep.LoopGhost
/-
  The model's PutEsc: what was there, and behind it the text as it is put, in memory of its own.
-/
namespace Go.Proofs.Ytclegljalndaeac
open Go.RowKit
set_option maxRecDepth 4000

theorem sl_take (s : ByteArray) (k : Nat) (h : k < s.size) : (sl s).take (k + 1) = (sl s).take k ++ [(s[k].toNat : Int)] := by
  have hd : k < (sl s).length := by rw [sl_len]; exact h
  rw [List.take_succ_eq_append_getElem hd]
  simp [sl]
  rfl
theorem sl_all (s : ByteArray) : (sl s).take s.size = sl s := by rw [← sl_len]; exact List.take_length
theorem escK_len (s : ByteArray) (k : Nat) (h : k ≤ s.size) : (escL ((sl s).take k)).length ≤ 2 * k := by
  have := (escL_len ((sl s).take k)).2
  rw [List.length_take, sl_len] at this
  omega

/-- Two new cells. -/
theorem cellsTwo (w : World) (x y : Value) (t : TypeId) : ∀ j u, [x, y][j]? = some u → (w.alloc (.cells #[x, y] t)).cell? ((⟨w.heap.size, 0, none⟩ : Addr).add j) = some u := by
  intro j u hj
  match j, hj with
  | 0, hj => simp at hj; subst hj; simp [Addr.add]
  | 1, hj => simp at hj; subst hj; simp [Addr.add]
  | (j + 2), hj => simp at hj

set_option maxHeartbeats 1000000 in
theorem putEsc_own (b off n cap : Nat) (f : Nat → Int) (s : ByteArray) (w : World) (hv : View w (some ⟨b, off, none⟩) n cap f) (hn : n ≤ 17592186044416) (hs : s.size ≤ 17592186044416) :
    Calls Try.prog 106 #[.slice (some ⟨b, off, none⟩) n cap, .string s] w fun e w' => ∃ v, e = .returned v ∧ w'.ownsRow w.heap.size 5 1 v (n + escN s) (bl (escT n f s)) ∧ Below w.heap.size w w' := by
  obtain ⟨i0, hi, hz0, hz1, hz2⟩ := info_parts Try.info5
  have hown0 := World.ownsRow_lit (base := w.heap.size) (e := 5) (size := 1) w #[] 0 (Nat.le_refl _) (Nat.zero_le _) rfl
  have hb0 : Below w.heap.size w (w.alloc (.cells #[] 5)) := (Below.refl _ _).alloc (Nat.le_refl _) _
  have hcl := cells_of_view (hv.below hb0)
  have hsz : (w.alloc (.cells #[] 5)).heap.size = w.heap.size + 1 := by simp
  go_enter Try.func106, Try.ntmps106
  go_wp2_with (at_builtin; go_must (refine wpList_append_own _ rfl (.tmp 7) (.tmp 8) 22 rfl w.heap.size 5 i0 (.int .u8 0) 1 1 Try.underlying22 hi hz0 hz1 hz2 rfl (by decide) (.slice (some ⟨w.heap.size, 0, none⟩) 0 0) 0 [] rfl hown0 ⟨b, off, none⟩ n cap (bl (lof n f)) rfl (by rw [bl_len, lof_len]; omega) hcl (bl_one _) (by unfold maxLen; omega) (by omega) (by rw [hsz]; omega) ?_); intro v1 w1 hown1 hgr1 _)
  have hb1 : Below w.heap.size w w1 := hb0.grown hgr1 (by simp) (fun k hk => by simp only [Value.ownBlock, Option.some.injEq] at hk; omega)
  clear hown0 hcl hsz hgr1 hb0 hv
  simp only [Nat.zero_add, List.nil_append] at hown1
  go_loopg [5, 6] s.size (fun g v i wr => ∃ (k : Nat) (l : List Int), k ≤ s.size ∧ g = s.size - k ∧ i = .int .i64 k ∧ l = escL ((sl s).take k) ∧ wr.ownsRow w.heap.size 5 1 v (n + l.length) (bl (lof n f ++ l)) ∧ Below w.heap.size w wr)
  case atStart => exact ⟨0, [], Nat.zero_le _, rfl, rfl, by simp [escL], by rw [List.append_nil]; exact hown1, hb1⟩
  case round =>
    obtain ⟨k, l, hk, rfl, rfl, hl, hown, hB⟩ := hrel
    clear hown1 hb1
    have hlen : l.length ≤ 2 * k := by rw [hl]; exact escK_len s k hk
    have HL : Hid (l = escL ((sl s).take k)) := hl
    clear hl
    by_cases hlt : k < s.size
    · have hkz : (k : Int) < (s.size : Int) := by omega
      have hub : (s[k].toNat : Int) ≤ 255 := by have := s[k].toNat_lt; omega
      have HS : Hid (escL ((sl s).take (k + 1)) = l ++ esc1 (s[k].toNat : Int)) := by
        show _ = _
        rw [sl_take s k hlt, escL_append, escL_one, HL.out]
      by_cases h0 : (s[k].toNat : Int) = 0
      · have hq : ((s[k].toNat : Int) == 0) = true := by simpa using h0
        have HE : Hid (esc1 (s[k].toNat : Int) = [0] ++ [255]) := by show _ = _; unfold esc1; rw [if_pos h0]; rfl
        go_wp2_with (first | (at_builtin; refine wpList_append_own _ rfl (.tmp 16) (.tmp 20) 22 rfl w.heap.size 5 i0 (.int .u8 0) 1 1 Try.underlying22 hi hz0 hz1 hz2 rfl (by decide) u5 _ _ rfl (hown.alloc _) ⟨wr.heap.size, 0, none⟩ 1 1 [.int .u8 0] rfl rfl (cellNew _ _ _) (bl_one [0]) (by unfold maxLen; omega) (by omega) (by have := hB.size; simp; omega) ?_; intro v2 w2 hown2 hgr2 _) | (at_builtin; refine wpList_append_own _ rfl (.tmp 26) (.tmp 27) 22 rfl w.heap.size 5 i0 (.int .u8 0) 1 1 Try.underlying22 hi hz0 hz1 hz2 rfl (by decide) v2 _ _ rfl (hown2.alloc _) ⟨w2.heap.size, 0, none⟩ 1 1 [.int .u8 255] rfl rfl (cellNew _ _ _) (bl_one [255]) (by unfold maxLen; omega) (by omega) (by have := hB.size; have := hgr2.size; simp at *; omega) ?_; intro v3 w3 hown3 hgr3 _))
        have hB2 : Below w.heap.size w w2 := (hB.alloc hB.size _).grown hgr2 (by have := hB.size; simp; omega) (fun k hk => (hown.lt k hk).1)
        have hB3 : Below w.heap.size w w3 := (hB2.alloc hB2.size _).grown hgr3 (by have := hB2.size; simp; omega) (fun k hk => (hown2.lt k hk).1)
        have hO3 : w3.ownsRow w.heap.size 5 1 v3 (n + (l ++ esc1 (s[k].toNat : Int)).length) (bl (lof n f ++ (l ++ esc1 (s[k].toNat : Int)))) := by
          rw [HE.out, ← List.append_assoc l, List.length_append, List.length_append, ← List.append_assoc, ← List.append_assoc, bl_append, bl_append]
          rw [show n + (l.length + [(0 : Int)].length + [(255 : Int)].length) = n + l.length + 1 + 1 by simp; omega]
          exact hown3
        clear hgr2 hgr3 hown hown2 hown3 hB
        go_wp2
        go_roundg (s.size - (k + 1))
        case measure => omega
        case rel => exact ⟨k + 1, _, by omega, rfl, by go_num, HS.out.symm, hO3, hB3⟩
      · have hq : ((s[k].toNat : Int) == 0) = false := by simpa using h0
        have HE : Hid (esc1 (s[k].toNat : Int) = [(s[k].toNat : Int)]) := by show _ = _; unfold esc1; rw [if_neg h0]
        go_wp2_with (at_builtin; go_must (refine wpList_append_own _ rfl (.tmp 16) (.tmp 20) 22 rfl w.heap.size 5 i0 (.int .u8 0) 1 1 Try.underlying22 hi hz0 hz1 hz2 rfl (by decide) u5 _ _ rfl (hown.alloc _) ⟨wr.heap.size, 0, none⟩ 1 1 [.int .u8 (s[k].toNat : Int)] rfl rfl (cellNew _ _ _) (bl_one [(s[k].toNat : Int)]) (by unfold maxLen; omega) (by omega) (by have := hB.size; simp; omega) ?_); intro v2 w2 hown2 hgr2 _)
        have hB2 : Below w.heap.size w w2 := (hB.alloc hB.size _).grown hgr2 (by have := hB.size; simp; omega) (fun k hk => (hown.lt k hk).1)
        have hO2 : w2.ownsRow w.heap.size 5 1 v2 (n + (l ++ esc1 (s[k].toNat : Int)).length) (bl (lof n f ++ (l ++ esc1 (s[k].toNat : Int)))) := by
          rw [HE.out, List.length_append, ← List.append_assoc, bl_append]
          exact hown2
        clear hgr2 hown hown2 hB
        go_wp2
        go_roundg (s.size - (k + 1))
        case measure => omega
        case rel => exact ⟨k + 1, _, by omega, rfl, by go_num, HS.out.symm, hO2, hB2⟩
    · obtain rfl : k = s.size := by omega
      go_wp2_with (at_builtin; go_must (refine wpList_append_own _ rfl (.tmp 29) (.tmp 30) 22 rfl w.heap.size 5 i0 (.int .u8 0) 1 1 Try.underlying22 hi hz0 hz1 hz2 rfl (by decide) u5 _ _ rfl (hown.alloc _) ⟨wr.heap.size, 0, none⟩ 2 2 [.int .u8 0, .int .u8 1] rfl rfl (cellsTwo _ _ _ _) (bl_one [0, 1]) (by unfold maxLen; omega) (by omega) (by have := hB.size; simp; omega) ?_); intro v2 w2 hown2 hgr2 _)
      have hB2 : Below w.heap.size w w2 := (hB.alloc hB.size _).grown hgr2 (by have := hB.size; simp; omega) (fun k hk => (hown.lt k hk).1)
      go_ret
      have hL := HL.out
      rw [sl_all] at hL
      have e1 : escN s = l.length + 2 := by rw [hL]; rfl
      have e2 : escT n f s = lof n f ++ (l ++ [0, 1]) := by rw [hL]; rfl
      have hown3 : w2.ownsRow w.heap.size 5 1 v2 (n + escN s) (bl (escT n f s)) := by
        rw [e1, e2, ← List.append_assoc, bl_append]
        exact hown2
      exact ⟨v2, rfl, hown3, hB2⟩

theorem putEsc_spec (b off n cap : Nat) (f : Nat → Int) (s : ByteArray) (w : World) (hv : View w (some ⟨b, off, none⟩) n cap f) (hn : n ≤ 17592186044416) (hs : s.size ≤ 17592186044416) :
    Calls Try.prog 106 #[.slice (some ⟨b, off, none⟩) n cap, .string s] w fun e w' => ∃ g c, e = .returned (.slice (some ⟨g, 0, none⟩) (n + escN s) c) ∧ w.heap.size ≤ g ∧ n + escN s ≤ c ∧ Row 5 w' g (n + escN s) (fun i => (escT n f s).getD i 0) ∧ Below w.heap.size w w' := by
  refine (putEsc_own b off n cap f s w hv hn hs).mono ?_
  rintro e w' ⟨v, rfl, hown, hB⟩
  obtain ⟨g, c, rfl, hg, hgc, hrow⟩ := row_of_own hown (by unfold escN; omega)
  exact ⟨g, c, rfl, hg, hgc, hrow, hB⟩
end Go.Proofs.Ytclegljalndaeac

/-
  The model's PutPart: what was there, and behind it the bytes of what fits, in memory of its own.
-/
namespace Go.Proofs.Ytclegljalndaeac
open Go.RowKit
set_option maxRecDepth 4000

/-- A new row without bytes. -/
theorem own_nil (W : World) (A B : Nat) (hA : A = W.heap.size) (hB : B ≤ A) : (W.alloc (.cells #[] 5)).ownsRow B 5 1 (.slice (some ⟨A, 0, none⟩) 0 0) 0 [] := by
  subst hA
  exact World.ownsRow_lit W #[] 0 hB (Nat.zero_le _) rfl
/-- A new row of one byte. -/
theorem cell_nil (W : World) (A : Nat) (z : Value) (t : TypeId) (hA : A = W.heap.size) : ∀ j u, [z][j]? = some u → (W.alloc (.cells #[z] t)).cell? ((⟨A, 0, none⟩ : Addr).add j) = some u := by
  subst hA
  exact cellNew W z t
theorem cells_kept {W W' : World} {A : Nat} {z : Value} {row : Option Nat} (h : ∀ j u, [z][j]? = some u → W.cell? ((⟨A, 0, none⟩ : Addr).add j) = some u) (hg : W.grownBy W' row) (hA : A < W.heap.size) (hne : row ≠ some A) : ∀ j u, [z][j]? = some u → W'.cell? ((⟨A, 0, none⟩ : Addr).add j) = some u := by
  intro j u hj
  rw [← h j u hj]
  apply World.cell?_of_block
  show W'.heap[((⟨A, 0, none⟩ : Addr).add j).block]? = _
  have : ((⟨A, 0, none⟩ : Addr).add j).block = A := by unfold Addr.add; split <;> rfl
  rw [this]
  exact hg.block A hA hne.symm
theorem cells_alloc {W : World} {A : Nat} {z : Value} (h : ∀ j u, [z][j]? = some u → W.cell? ((⟨A, 0, none⟩ : Addr).add j) = some u) (hA : A < W.heap.size) (o : Obj) : ∀ j u, [z][j]? = some u → (W.alloc o).cell? ((⟨A, 0, none⟩ : Addr).add j) = some u := by
  intro j u hj
  rw [← h j u hj]
  apply World.cell?_of_block
  show (W.alloc o).heap[((⟨A, 0, none⟩ : Addr).add j).block]? = _
  have : ((⟨A, 0, none⟩ : Addr).add j).block = A := by unfold Addr.add; split <;> rfl
  rw [this]
  exact Below.heap_alloc _ _ _ hA
theorem cellD (W : World) (A : Nat) (z : Value) (t : TypeId) (hA : A = W.heap.size) : ∀ j u, [z][j]? = some u → (W.alloc (.cells #[z] t)).drew.cell? ((⟨A, 0, none⟩ : Addr).add j) = some u := cell_nil W A z t hA
theorem cellDD (W : World) (A : Nat) (z : Value) (t : TypeId) (hA : A = W.heap.size) (o : Obj) : ∀ j u, [z][j]? = some u → ((W.alloc (.cells #[z] t)).alloc o).drew.cell? ((⟨A, 0, none⟩ : Addr).add j) = some u := cells_alloc (cell_nil W A z t hA) (by simp; omega) o
theorem Box.grown {W W' : World} {B : Nat} {k n : Int} {s : ByteArray} {row : Option Nat} (h : Box W B k n s) (hg : W.grownBy W' row) (hne : row ≠ some B) : Box W' B k n s := h.of_block (hg.block B h.lt hne.symm)
theorem own_down {W : World} {B D : Nat} {t : TypeId} {v : Value} {N : Nat} {l : List Value} (h : W.ownsRow B t 1 v N l) (hD : D ≤ B) : W.ownsRow D t 1 v N l := by
  obtain ⟨h1, h2⟩ := h
  refine ⟨h1, ?_⟩
  rcases h2 with h2 | ⟨g, cap, cur, rfl, hB, r⟩
  · exact Or.inl h2
  · exact Or.inr ⟨g, cap, cur, rfl, Nat.le_trans hD hB, r⟩
theorem one_more {W : World} {B : Nat} {t : TypeId} {v : Value} {n : Nat} {f : Nat → Int} {z : Int} (h : W.ownsRow B t 1 v (0 + n + 1) ([] ++ bl (lof n f) ++ [.int .u8 z])) : W.ownsRow B t 1 v (n + 1) (bl (lof n f ++ [z])) := by
  rw [Nat.zero_add, List.nil_append] at h
  rw [bl_append]
  exact h

set_option linter.unusedSimpArgs false in
set_option maxHeartbeats 2000000 in
theorem l5Value_own (b off n cap : Nat) (f : Nat → Int) (k x : Int) (s : ByteArray) (w : World) (hv : View w (some ⟨b, off, none⟩) n cap f) (hn : n ≤ 17592186000000) (hx : -9223372036854775808 ≤ x ∧ x ≤ 9223372036854775807) (hs : s.size ≤ 1000) :
    Calls Try.prog 77 #[.slice (some ⟨b, off, none⟩) n cap, .agg #[.int .i64 k, .int .i64 x, .string s]] w fun e w' => ∃ v, e = .returned v ∧ w'.ownsRow w.heap.size 5 1 v (n + (valL k x s).length) (bl (lof n f ++ valL k x s)) ∧ Below w.heap.size w w' := by
  obtain ⟨i0, hi, hz0, hz1, hz2⟩ := info_parts Try.info5
  have hb0 : Below w.heap.size w (w.alloc (.cells #[.int .i64 k, .int .i64 x, .string s] 29)) := (Below.refl _ _).alloc (Nat.le_refl _) _
  have hV := Box.new w k x s
  have hsz : (w.alloc (.cells #[.int .i64 k, .int .i64 x, .string s] 29)).heap.size = w.heap.size + 1 := by simp
  have hv1 := hv.below hb0
  by_cases k1 : k = 1
  · subst k1
    have e : valL 1 x s = fixL x := rfl
    rw [e, fixL_len]
    go_enter Try.func77, Try.ntmps77
    go_wp2_with fail
    refine (putFix_own b off n cap f x _ hv1 (by omega) hx.1 hx.2).mono ?_
    rintro e w1 ⟨v, rfl, hown, hb1⟩
    have HO : Hid _ := own_down hown (by rw [hsz]; omega : w.heap.size ≤ _)
    have HB : Hid (Below w.heap.size w w1) := hb0.trans (hb1.mono (by rw [hsz]; omega))
    clear hown hb1 hv1 hV hb0
    go_wp2
    go_ret
    exact ⟨v, rfl, HO.out, HB.out⟩
  by_cases k2 : k = 2
  · subst k2
    have e : valL 2 x s = varL x := rfl
    rw [e]
    go_enter Try.func77, Try.ntmps77
    go_wp2_with fail
    refine (putVar_own b off n cap f x _ hv1 (by omega) hx.1 hx.2).mono ?_
    rintro e w1 ⟨v, rfl, hown, hb1⟩
    have HO : Hid _ := own_down hown (by rw [hsz]; omega : w.heap.size ≤ _)
    have HB : Hid (Below w.heap.size w w1) := hb0.trans (hb1.mono (by rw [hsz]; omega))
    clear hown hb1 hv1 hV hb0
    go_wp2
    go_ret
    exact ⟨v, rfl, HO.out, HB.out⟩
  by_cases k3 : k = 3
  · subst k3
    have e : valL 3 x s = escL (sl s) ++ [0, 1] := rfl
    have hE : (escL (sl s) ++ [0, 1]).length = escN s := by simp [escN]
    rw [e, hE]
    go_enter Try.func77, Try.ntmps77
    go_wp2_with fail
    refine (putEsc_own b off n cap f s _ hv1 (by omega) (by omega)).mono ?_
    rintro e w1 ⟨v, rfl, hown, hb1⟩
    have HO : Hid _ := own_down hown (by rw [hsz]; omega : w.heap.size ≤ _)
    have HB : Hid (Below w.heap.size w w1) := hb0.trans (hb1.mono (by rw [hsz]; omega))
    clear hown hb1 hv1 hV hb0
    go_wp2
    go_ret
    exact ⟨v, rfl, HO.out, HB.out⟩
  have e : valL k x s = [x % 256] := by unfold valL; rw [if_neg k1, if_neg k2, if_neg k3]
  rw [e]
  have q1 : (k == 1) = false := by simpa using k1
  have q2 : (k == 2) = false := by simpa using k2
  have q3 : (k == 3) = false := by simpa using k3
  have hw : IntKind.u8.wrap x = x % 256 := u8_wrap x
  clear k1 k2 k3 e
  go_enter Try.func77, Try.ntmps77
  go_wp2_with fail
  refine wp_region_held_drew (S := fun W => Box W w.heap.size k x s) (by kernel_rfl) hV.drew (fun hHeld => ?_)
  refine' wpAnyH_take (i := 1) (v := _) rfl (by kernel_rfl) (by kernel_rfl) (by kernel_rfl) (fun _ _ _ h => h) (Or.inl ⟨by kernel_rfl, ?h1⟩) (by assumption) ?r1
  case h1 => intro W hW; go_simp; all_goals with_reducible rfl
  change wpAnyH _ _ _ _ _ _ _ (Act.put _ (some 26) _) _
  simp only [Act.put, List.setIfInBounds_toArray, List.set_cons_zero, List.set_cons_succ]
  refine' wpAnyH_take (i := 3) (v := _) rfl (by kernel_rfl) (by kernel_rfl) (by kernel_rfl) (fun _ _ _ h => h) (Or.inl ⟨by kernel_rfl, ?h3⟩) (by assumption) ?r3
  case h3 => intro W hW; go_simp; all_goals with_reducible rfl
  change wpAnyH _ _ _ _ _ _ _ (Act.put _ (some 28) _) _
  simp only [Act.put, List.setIfInBounds_toArray, List.set_cons_zero, List.set_cons_succ]
  refine' wpAnyH_take (i := 4) (v := _) rfl (by kernel_rfl) (by kernel_rfl) (by kernel_rfl) (fun _ _ _ h => h) (Or.inl ⟨by kernel_rfl, ?h4⟩) (by assumption) ?r4
  case h4 => intro W hW; obtain ⟨c0, c1, c2⟩ := Box.cells hW; go_simp; all_goals with_reducible rfl
  change wpAnyH _ _ _ _ _ _ _ (Act.put _ (some 29) _) _
  simp only [Act.put, List.setIfInBounds_toArray, List.set_cons_zero, List.set_cons_succ]
  refine' wpAnyH_take (i := 5) (v := _) rfl (by kernel_rfl) (by kernel_rfl) (by kernel_rfl) (fun _ _ _ h => h) (Or.inl ⟨by kernel_rfl, ?h5⟩) (by assumption) ?r5
  case h5 => intro W hW; go_simp; all_goals with_reducible rfl
  change wpAnyH _ _ _ _ _ _ _ (Act.put _ (some 30) _) _
  simp only [Act.put, List.setIfInBounds_toArray, List.set_cons_zero, List.set_cons_succ]
  refine wpAnyH_ready (rs := [0, 6]) (by kernel_rfl) (by simp) ?_
  refine AllReadyH.cons rfl (fun KK hK => ?_) (AllReadyH.cons rfl (fun KK hK => ?_) AllReadyH.nil)
  ·
    go_simp
    refine hK.out _ _ (hHeld.below ((Below.refl _ _).alloc (Nat.le_refl _) _)) (fun hHeld => ?_)
    clear hK KK
    try simp only [Act.put, List.setIfInBounds_toArray, List.set_cons_zero, List.set_cons_succ]
    refine wpAnyH_ready (rs := [2, 6]) (by kernel_rfl) (by simp) ?_
    refine AllReadyH.cons rfl (fun KK hK => ?_) (AllReadyH.cons rfl (fun KK hK => ?_) AllReadyH.nil)
    ·
      rw [if_pos (by kernel_rfl)]
      have hbw := (hb0.drew).alloc (by simp) (.cells #[] 5)
      refine wp_append_own _ (.tmp 25) (.tmp 26) 22 rfl (w.heap.size + 1) 5 i0 (.int .u8 0) 1 1 Try.underlying22 hi hz0 hz1 hz2 rfl (by decide) (.slice (some ⟨w.heap.size + 1, 0, none⟩) 0 0) 0 [] rfl (own_nil _ (w.heap.size + 1) _ (by simp) (by omega)) ⟨b, off, none⟩ n cap (bl (lof n f)) rfl (by rw [bl_len, lof_len]; omega) (cells_of_view (hv.below hbw)) (bl_one _) (by unfold maxLen; omega) (by omega) (by simp) ?_
      intro v1 w1 hown1 hgr1 hnil1
      have hb1 : Below w.heap.size w w1 := hbw.grown hgr1 hbw.size (fun k hk => by simp only [Value.ownBlock, Option.some.injEq] at hk; omega)
      have hs1 : w.heap.size + 1 ≤ w1.heap.size := by have := hgr1.size; simp at this; omega
      refine hK.out _ _ (hHeld.grown hgr1 (by simp only [Value.ownBlock, ne_eq, Option.some.injEq]; omega)) (fun hHeld => ?_)
      clear hK KK
      change wpAnyH _ _ _ _ _ _ _ (Act.put _ (some 27) _) _
      try simp only [Act.put, List.setIfInBounds_toArray, List.set_cons_zero, List.set_cons_succ]
      refine wpAnyH_ready (rs := [6]) (by kernel_rfl) (by simp) ?_
      refine AllReadyH.cons rfl (fun KK hK => ?_) AllReadyH.nil
      go_simp
      refine hK.out _ _ (hHeld.below ((Below.refl _ _).alloc (Nat.le_refl _) _)) (fun hHeld => ?_)
      clear hK KK
      try simp only [Act.put, List.setIfInBounds_toArray, List.set_cons_zero, List.set_cons_succ]
      refine wpAnyH_ready (rs := [7]) (by kernel_rfl) (by simp) ?_
      refine AllReadyH.cons rfl (fun KK hK => ?_) AllReadyH.nil
      rw [if_pos (by kernel_rfl)]
      refine wp_append_own _ (.tmp 27) (.tmp 31) 22 rfl (w.heap.size + 1) 5 i0 (.int .u8 0) 1 1 Try.underlying22 hi hz0 hz1 hz2 rfl (by decide) v1 _ _ rfl (hown1.alloc _) ⟨w1.heap.size, 0, none⟩ 1 1 [.int .u8 (x % 256)] rfl rfl (cellNew _ _ _) (bl_one [x % 256]) (by unfold maxLen; omega) (by omega) (by first | omega | (simp; omega)) ?_
      intro v2 w2 hown2 hgr2 hnil2
      have hB2 : Below w.heap.size w w2 := (hb1.alloc hb1.size _).grown hgr2 (by have := hb1.size; simp; omega) (fun k hk => by have := (hown1.lt k hk).1; omega)
      have hO2 := own_down (one_more hown2) (Nat.le_succ w.heap.size)
      refine hK.out _ _ (hHeld.grown hgr2 (fun e => by have := (hown1.lt _ e).1; omega)) (fun hHeld => ?_)
      clear hK KK
      change wpAnyH _ _ _ _ _ _ _ (Act.put _ (some 32) _) _
      try simp only [Act.put, List.setIfInBounds_toArray, List.set_cons_zero, List.set_cons_succ]
      refine' wpAnyH_take (i := 8) (v := _) rfl (by kernel_rfl) (by kernel_rfl) (by kernel_rfl) (fun _ _ _ h => h) (Or.inl ⟨by kernel_rfl, ?hlastA⟩) (by assumption) ?rlastA
      case hlastA => intro W hW; go_simp; all_goals with_reducible rfl
      change wpAnyH _ _ _ _ _ _ _ (Act.put _ (some 4) _) _
      simp only [Act.put, List.setIfInBounds_toArray, List.set_cons_zero, List.set_cons_succ]
      refine wpAnyH_done (by kernel_rfl) ?_ _
      go_wp2
      go_ret
      exact ⟨v2, rfl, hO2, hB2⟩
    ·
      go_simp
      refine hK.out _ _ (hHeld.below ((Below.refl _ _).alloc (Nat.le_refl _) _)) (fun hHeld => ?_)
      clear hK KK
      try simp only [Act.put, List.setIfInBounds_toArray, List.set_cons_zero, List.set_cons_succ]
      refine wpAnyH_ready (rs := [2]) (by kernel_rfl) (by simp) ?_
      refine AllReadyH.cons rfl (fun KK hK => ?_) AllReadyH.nil
      rw [if_pos (by kernel_rfl)]
      have hbw := ((hb0.drew).alloc (by simp) (.cells #[] 5)).alloc (by simp; omega) (.cells #[.int .u8 (x % 256)] 5)
      refine wp_append_own _ (.tmp 25) (.tmp 26) 22 rfl (w.heap.size + 1) 5 i0 (.int .u8 0) 1 1 Try.underlying22 hi hz0 hz1 hz2 rfl (by decide) (.slice (some ⟨w.heap.size + 1, 0, none⟩) 0 0) 0 [] rfl ((own_nil _ (w.heap.size + 1) _ (by simp) (by omega)).alloc _) ⟨b, off, none⟩ n cap (bl (lof n f)) rfl (by rw [bl_len, lof_len]; omega) (cells_of_view (hv.below hbw)) (bl_one _) (by unfold maxLen; omega) (by omega) (by simp) ?_
      intro v1 w1 hown1 hgr1 hnil1
      have hb1 : Below w.heap.size w w1 := hbw.grown hgr1 hbw.size (fun k hk => by simp only [Value.ownBlock, Option.some.injEq] at hk; omega)
      have hs1 : w.heap.size + 1 ≤ w1.heap.size := by have := hgr1.size; simp at this; omega
      refine hK.out _ _ (hHeld.grown hgr1 (by simp only [Value.ownBlock, ne_eq, Option.some.injEq]; omega)) (fun hHeld => ?_)
      clear hK KK
      change wpAnyH _ _ _ _ _ _ _ (Act.put _ (some 27) _) _
      try simp only [Act.put, List.setIfInBounds_toArray, List.set_cons_zero, List.set_cons_succ]
      refine wpAnyH_ready (rs := [7]) (by kernel_rfl) (by simp) ?_
      refine AllReadyH.cons rfl (fun KK hK => ?_) AllReadyH.nil
      rw [if_pos (by kernel_rfl)]
      refine wp_append_own _ (.tmp 27) (.tmp 31) 22 rfl (w.heap.size + 1) 5 i0 (.int .u8 0) 1 1 Try.underlying22 hi hz0 hz1 hz2 rfl (by decide) v1 _ _ rfl (hown1) ⟨w.heap.size + 2, 0, none⟩ 1 1 [.int .u8 (x % 256)] rfl rfl (cells_kept (cellD _ (w.heap.size + 2) _ _ (by simp)) hgr1 (by simp) (by simp [Value.ownBlock])) (bl_one [x % 256]) (by unfold maxLen; omega) (by omega) (by first | omega | (simp; omega)) ?_
      intro v2 w2 hown2 hgr2 hnil2
      have hB2 : Below w.heap.size w w2 := hb1.grown hgr2 hb1.size (fun k hk => by have := (hown1.lt k hk).1; omega)
      have hO2 := own_down (one_more hown2) (Nat.le_succ w.heap.size)
      refine hK.out _ _ (hHeld.grown hgr2 (fun e => by have := (hown1.lt _ e).1; omega)) (fun hHeld => ?_)
      clear hK KK
      change wpAnyH _ _ _ _ _ _ _ (Act.put _ (some 32) _) _
      try simp only [Act.put, List.setIfInBounds_toArray, List.set_cons_zero, List.set_cons_succ]
      refine' wpAnyH_take (i := 8) (v := _) rfl (by kernel_rfl) (by kernel_rfl) (by kernel_rfl) (fun _ _ _ h => h) (Or.inl ⟨by kernel_rfl, ?hlastB⟩) (by assumption) ?rlastB
      case hlastB => intro W hW; go_simp; all_goals with_reducible rfl
      change wpAnyH _ _ _ _ _ _ _ (Act.put _ (some 4) _) _
      simp only [Act.put, List.setIfInBounds_toArray, List.set_cons_zero, List.set_cons_succ]
      refine wpAnyH_done (by kernel_rfl) ?_ _
      go_wp2
      go_ret
      exact ⟨v2, rfl, hO2, hB2⟩
  ·
    go_simp
    refine hK.out _ _ (hHeld.below ((Below.refl _ _).alloc (Nat.le_refl _) _)) (fun hHeld => ?_)
    clear hK KK
    try simp only [Act.put, List.setIfInBounds_toArray, List.set_cons_zero, List.set_cons_succ]
    refine wpAnyH_ready (rs := [0]) (by kernel_rfl) (by simp) ?_
    refine AllReadyH.cons rfl (fun KK hK => ?_) AllReadyH.nil
    go_simp
    refine hK.out _ _ (hHeld.below ((Below.refl _ _).alloc (Nat.le_refl _) _)) (fun hHeld => ?_)
    clear hK KK
    try simp only [Act.put, List.setIfInBounds_toArray, List.set_cons_zero, List.set_cons_succ]
    refine wpAnyH_ready (rs := [2]) (by kernel_rfl) (by simp) ?_
    refine AllReadyH.cons rfl (fun KK hK => ?_) AllReadyH.nil
    rw [if_pos (by kernel_rfl)]
    have hbw := ((hb0.drew).alloc (by simp) (.cells #[.int .u8 (x % 256)] 5)).alloc (by simp; omega) (.cells #[] 5)
    refine wp_append_own _ (.tmp 25) (.tmp 26) 22 rfl (w.heap.size + 1) 5 i0 (.int .u8 0) 1 1 Try.underlying22 hi hz0 hz1 hz2 rfl (by decide) (.slice (some ⟨w.heap.size + 2, 0, none⟩) 0 0) 0 [] rfl (own_nil _ (w.heap.size + 2) _ (by simp) (by omega)) ⟨b, off, none⟩ n cap (bl (lof n f)) rfl (by rw [bl_len, lof_len]; omega) (cells_of_view (hv.below hbw)) (bl_one _) (by unfold maxLen; omega) (by omega) (by simp) ?_
    intro v1 w1 hown1 hgr1 hnil1
    have hb1 : Below w.heap.size w w1 := hbw.grown hgr1 hbw.size (fun k hk => by simp only [Value.ownBlock, Option.some.injEq] at hk; omega)
    have hs1 : w.heap.size + 1 ≤ w1.heap.size := by have := hgr1.size; simp at this; omega
    refine hK.out _ _ (hHeld.grown hgr1 (by simp only [Value.ownBlock, ne_eq, Option.some.injEq]; omega)) (fun hHeld => ?_)
    clear hK KK
    change wpAnyH _ _ _ _ _ _ _ (Act.put _ (some 27) _) _
    try simp only [Act.put, List.setIfInBounds_toArray, List.set_cons_zero, List.set_cons_succ]
    refine wpAnyH_ready (rs := [7]) (by kernel_rfl) (by simp) ?_
    refine AllReadyH.cons rfl (fun KK hK => ?_) AllReadyH.nil
    rw [if_pos (by kernel_rfl)]
    refine wp_append_own _ (.tmp 27) (.tmp 31) 22 rfl (w.heap.size + 1) 5 i0 (.int .u8 0) 1 1 Try.underlying22 hi hz0 hz1 hz2 rfl (by decide) v1 _ _ rfl (hown1) ⟨w.heap.size + 1, 0, none⟩ 1 1 [.int .u8 (x % 256)] rfl rfl (cells_kept (cellDD _ (w.heap.size + 1) _ _ (by simp) _) hgr1 (by simp) (by simp [Value.ownBlock])) (bl_one [x % 256]) (by unfold maxLen; omega) (by omega) (by first | omega | (simp; omega)) ?_
    intro v2 w2 hown2 hgr2 hnil2
    have hB2 : Below w.heap.size w w2 := hb1.grown hgr2 hb1.size (fun k hk => by have := (hown1.lt k hk).1; omega)
    have hO2 := own_down (one_more hown2) (Nat.le_succ w.heap.size)
    refine hK.out _ _ (hHeld.grown hgr2 (fun e => by have := (hown1.lt _ e).1; omega)) (fun hHeld => ?_)
    clear hK KK
    change wpAnyH _ _ _ _ _ _ _ (Act.put _ (some 32) _) _
    try simp only [Act.put, List.setIfInBounds_toArray, List.set_cons_zero, List.set_cons_succ]
    refine' wpAnyH_take (i := 8) (v := _) rfl (by kernel_rfl) (by kernel_rfl) (by kernel_rfl) (fun _ _ _ h => h) (Or.inl ⟨by kernel_rfl, ?hlastC⟩) (by assumption) ?rlastC
    case hlastC => intro W hW; go_simp; all_goals with_reducible rfl
    change wpAnyH _ _ _ _ _ _ _ (Act.put _ (some 4) _) _
    simp only [Act.put, List.setIfInBounds_toArray, List.set_cons_zero, List.set_cons_succ]
    refine wpAnyH_done (by kernel_rfl) ?_ _
    go_wp2
    go_ret
    exact ⟨v2, rfl, hO2, hB2⟩
end Go.Proofs.Ytclegljalndaeac

/-
  The model's Pick: of each part the value of its column, in a row of its own.
-/
namespace Go.Proofs.Ytclegljalndaeac
open Go.RowKit
set_option maxRecDepth 4000

set_option linter.unusedSimpArgs false in
set_option maxHeartbeats 4000000 in
theorem specPick_any (a : Option Addr) (n cap : Nat) (fc ft : Nat → Int) (fu fd : Nat → Bool) (a2 : Option Addr) (m cap2 : Nat) (fk fn : Nat → Int) (fs : Nat → ByteArray) (w : World) (h : PView w a n cap fc ft fu fd) (h2 : VView w a2 m cap2 fk fn fs) (hn : n ≤ 1048576) (hm : m ≤ 1048576) :
    Calls Try.prog 36 #[.slice a n cap, .slice a2 m cap2] w fun e w' => ∃ v, e = .returned v ∧ v ≠ .slice none 0 0 ∧ w'.ownsRow w.heap.size 29 3 v n (rowC (pickK fc m fk) (pickK fc m fn) (pickS fc m fs) n) ∧ Below w.heap.size w w' := by
  obtain ⟨i0, hi, hz0, hz1, hz2⟩ := infoVal3
  have hown0 := World.ownsRow_lit (base := w.heap.size) (e := 29) (size := 3) w #[] 0 (Nat.le_refl _) (Nat.zero_le _) rfl
  have hb0 : Below w.heap.size w (w.alloc (.cells #[] 29)) := (Below.refl _ _).alloc (Nat.le_refl _) _
  go_enter Try.func36, Try.ntmps36
  go_wp2
  go_loopg [5, 6] n (fun q bv i wr => ∃ (k : Nat) (v : Value), k ≤ n ∧ q = n - k ∧ v = bv ∧ i = .int .i64 k ∧ v ≠ .slice none 0 0 ∧ wr.ownsRow w.heap.size 29 3 v k (rowC (pickK fc m fk) (pickK fc m fn) (pickS fc m fs) k) ∧ Below w.heap.size w wr)
  case atStart => exact ⟨0, _, Nat.zero_le _, rfl, rfl, rfl, by simp, hown0, hb0⟩
  case round =>
    obtain ⟨k, bv, hk, rfl, hbv, rfl, hne, hown, hB⟩ := hrel
    subst hbv
    have Hne : Hid (bv ≠ .slice none 0 0) := hne
    clear hne hown0 hb0
    by_cases hlt : k < n
    · have hkz : (k : Int) < (n : Int) := by omega
      have hV := Box.new wr 0 0 ⟨#[]⟩
      have hb2 : Below wr.heap.size wr (wr.alloc (.cells #[.int .i64 0, .int .i64 0, .string ⟨#[]⟩] 29)) := (Below.refl _ _).alloc (Nat.le_refl _) _
      obtain ⟨W1, hW1⟩ : ∃ W1, Hid (W1 = wr.alloc (.cells #[.int .i64 0, .int .i64 0, .string ⟨#[]⟩] 29)) := ⟨_, rfl⟩
      obtain ⟨A, hA⟩ : ∃ A, Hid (A = wr.heap.size) := ⟨_, rfl⟩
      rw [← hW1.out] at hV hb2
      rw [← hA.out] at hV
      have hAw : wr.heap.size ≤ A := by rw [hA.out]; exact Nat.le_refl _
      have hBW := hB.trans (hb2.mono hB.size)
      obtain ⟨b1, o1, rfl, hb1, hd1⟩ := (h.below hB).cells (by omega)
      obtain ⟨xw, -, -, -⟩ := hd1 k hlt
      have x0 : W1.cell? ⟨b1, o1 + k * 4, none⟩ = some (.int .i64 (fc k)) := by rw [hb2.cell (p := ⟨b1, o1 + k * 4, none⟩) hb1]; exact xw
      clear hd1
      by_cases hc : 0 ≤ fc k ∧ fc k < m
      · obtain ⟨b2, o2, rfl, hbb, hd2⟩ := (h2.below hBW).cells (by omega)
        obtain ⟨j, hj⟩ : ∃ j : Nat, Hid (fc k = j) := ⟨(fc k).toNat, by show _ = _; omega⟩
        have hjm : j < m := by have := hj.out; omega
        have hjz : (j : Int) < (m : Int) := by omega
        obtain ⟨y0, y1, y2⟩ := hd2 j hjm
        have HK : Hid (pickK fc m fk k = fk j) := by show _ = _; unfold pickK; rw [if_pos hc, hj.out]; simp
        have HN : Hid (pickK fc m fn k = fn j) := by show _ = _; unfold pickK; rw [if_pos hc, hj.out]; simp
        have HS : Hid (pickS fc m fs k = fs j) := by show _ = _; unfold pickS; rw [if_pos hc, hj.out]; simp
        rw [hj.out] at x0 xw
        clear hd2 h h2 hc
        obtain ⟨q0, hq0⟩ : ∃ p, Hid (fk j = p) := ⟨_, rfl⟩
        obtain ⟨q1, hq1⟩ : ∃ p, Hid (fn j = p) := ⟨_, rfl⟩
        obtain ⟨q2, hq2⟩ : ∃ p, Hid (fs j = p) := ⟨_, rfl⟩
        rw [hq0.out] at y0 HK
        rw [hq1.out] at y1 HN
        rw [hq2.out] at y2 HS
        go_wp2_with fail
        clear xw
        rw [← hW1.out, ← hA.out]
        refine (l1In_yes (j : Int) 0 ((m : Int) - 1) _ (by omega) (by omega)).mono ?_
        rintro e _ ⟨rfl, rfl⟩
        obtain ⟨f0, f1, f2⟩ := hV.frozen
        obtain ⟨c0, c1, c2⟩ := hV.cells
        have hV2 := hV.put q0 q1 q2
        replace hb2 := ((hb2.setCell (p := ⟨A, 0, none⟩) hAw (.int .i64 q0)).setCell (p := ⟨A, 1, none⟩) hAw (.int .i64 q1)).setCell (p := ⟨A, 2, none⟩) hAw (.string q2)
        obtain ⟨W2, hW2⟩ : ∃ W2, Hid (W2 = ((W1.setCell ⟨A, 0, none⟩ (.int .i64 q0)).setCell ⟨A, 1, none⟩ (.int .i64 q1)).setCell ⟨A, 2, none⟩ (.string q2)) := ⟨_, rfl⟩
        rw [← hW2.out] at hV2 hb2
        obtain ⟨z0, z1, z2⟩ := hV2.cells
        have hb3 : Below wr.heap.size wr (W2.alloc (.cells #[.int .i64 q0, .int .i64 q1, .string q2] 29)) := hb2.alloc hb2.size _
        have hown3 := own_below3 hown hb3
        have hcl := cells_one W2 q0 q1 q2
        have hsz3 : (W2.alloc (.cells #[.int .i64 q0, .int .i64 q1, .string q2] 29)).heap.size = W2.heap.size + 1 := by simp
        have hB3 := hB.trans (hb3.mono hB.size)
        obtain ⟨W3, hW3⟩ : ∃ W3, Hid (W3 = W2.alloc (.cells #[.int .i64 q0, .int .i64 q1, .string q2] 29)) := ⟨_, rfl⟩
        obtain ⟨B3, hB3e⟩ : ∃ B3, Hid (B3 = W2.heap.size) := ⟨_, rfl⟩
        rw [← hW3.out] at hown3 hcl hsz3 hB3
        rw [← hB3e.out] at hcl
        have hbs : w.heap.size ≤ W3.heap.size := hB3.size
        go_wp2_with (first | (at_builtin; refine wpList_append_own _ rfl (.tmp 33) (.tmp 35) 39 rfl w.heap.size 29 i0 (.agg #[.int .i64 0, .int .i64 0, .string ⟨#[]⟩]) 3 32 Try.underlying39 hi hz0 hz1 hz2 rfl (by decide) bv k (rowC (pickK fc m fk) (pickK fc m fn) (pickS fc m fs) k) rfl hown3 ⟨B3, 0, none⟩ 1 1 [.int .i64 q0, .int .i64 q1, .string q2] rfl rfl hcl (one_cells _ _ _) (by unfold maxLen; omega) (by omega) hbs ?_; intro v4 w4 hown4 hgr4 hnil4) | rw [← hW3.out, ← hB3e.out] | rw [← hW2.out])
        have Hne4 : Hid (v4 ≠ .slice none 0 0) := fun e => Hne.out ((hnil4.1 e).1)
        have hB4 : Hid (Below w.heap.size w w4) := hB3.grown hgr4 hB3.size (fun j hj => (hown3.lt j hj).1)
        have hown5 : Hid (w4.ownsRow w.heap.size 29 3 v4 (k + 1) (rowC (pickK fc m fk) (pickK fc m fn) (pickS fc m fs) (k + 1))) := by
          show w4.ownsRow _ _ _ _ _ _
          rw [rowC, HK.out, HN.out, HS.out]
          exact hown4
        clear z0 z1 z2 c0 c1 c2 f0 f1 f2 y0 y1 y2 x0 hown hown3 hown4 hgr4 hnil4 hcl hB3 hb3 hb2
        go_wp2
        go_roundg (n - (k + 1))
        case measure => omega
        case rel => exact ⟨k + 1, v4, by omega, rfl, rfl, by go_num, Hne4.out, hown5.out, hB4.out⟩
      · have HK : Hid (pickK fc m fk k = 0) := by show _ = _; unfold pickK; rw [if_neg hc]
        have HN : Hid (pickK fc m fn k = 0) := by show _ = _; unfold pickK; rw [if_neg hc]
        have HS : Hid (pickS fc m fs k = ⟨#[]⟩) := by show _ = _; unfold pickS; rw [if_neg hc]
        have hc2 : fc k < 0 ∨ (m : Int) - 1 < fc k := by omega
        obtain ⟨p0, hp0⟩ : ∃ p, Hid (fc k = p) := ⟨_, rfl⟩
        rw [hp0.out] at x0 xw hc2
        clear h h2 hc
        go_wp2_with fail
        clear xw
        rw [← hW1.out, ← hA.out]
        refine (l1In_no p0 0 ((m : Int) - 1) _ hc2).mono ?_
        rintro e _ ⟨rfl, rfl⟩
        obtain ⟨z0, z1, z2⟩ := hV.cells
        have hb3 : Below wr.heap.size wr (W1.alloc (.cells #[.int .i64 0, .int .i64 0, .string ⟨#[]⟩] 29)) := hb2.alloc hb2.size _
        have hown3 := own_below3 hown hb3
        have hcl := cells_one W1 0 0 ⟨#[]⟩
        have hsz3 : (W1.alloc (.cells #[.int .i64 0, .int .i64 0, .string ⟨#[]⟩] 29)).heap.size = W1.heap.size + 1 := by simp
        have hB3 := hB.trans (hb3.mono hB.size)
        obtain ⟨W3, hW3⟩ : ∃ W3, Hid (W3 = W1.alloc (.cells #[.int .i64 0, .int .i64 0, .string ⟨#[]⟩] 29)) := ⟨_, rfl⟩
        obtain ⟨B3, hB3e⟩ : ∃ B3, Hid (B3 = W1.heap.size) := ⟨_, rfl⟩
        rw [← hW3.out] at hown3 hcl hsz3 hB3
        rw [← hB3e.out] at hcl
        have hbs : w.heap.size ≤ W3.heap.size := hB3.size
        go_wp2_with (first | (at_builtin; refine wpList_append_own _ rfl (.tmp 33) (.tmp 35) 39 rfl w.heap.size 29 i0 (.agg #[.int .i64 0, .int .i64 0, .string ⟨#[]⟩]) 3 32 Try.underlying39 hi hz0 hz1 hz2 rfl (by decide) bv k (rowC (pickK fc m fk) (pickK fc m fn) (pickS fc m fs) k) rfl hown3 ⟨B3, 0, none⟩ 1 1 [.int .i64 0, .int .i64 0, .string ⟨#[]⟩] rfl rfl hcl (one_cells _ _ _) (by unfold maxLen; omega) (by omega) hbs ?_; intro v4 w4 hown4 hgr4 hnil4) | rw [← hW3.out, ← hB3e.out])
        have Hne4 : Hid (v4 ≠ .slice none 0 0) := fun e => Hne.out ((hnil4.1 e).1)
        have hB4 : Hid (Below w.heap.size w w4) := hB3.grown hgr4 hB3.size (fun j hj => (hown3.lt j hj).1)
        have hown5 : Hid (w4.ownsRow w.heap.size 29 3 v4 (k + 1) (rowC (pickK fc m fk) (pickK fc m fn) (pickS fc m fs) (k + 1))) := by
          show w4.ownsRow _ _ _ _ _ _
          rw [rowC, HK.out, HN.out, HS.out]
          exact hown4
        clear z0 z1 z2 x0 hown hown3 hown4 hgr4 hnil4 hcl hB3 hb3 hb2
        go_wp2
        go_roundg (n - (k + 1))
        case measure => omega
        case rel => exact ⟨k + 1, v4, by omega, rfl, rfl, by go_num, Hne4.out, hown5.out, hB4.out⟩
    · have hkz : ¬ (k : Int) < (n : Int) := by omega
      obtain rfl : k = n := by omega
      have hO : Hid _ := hown
      clear hown
      go_wp2
      go_ret
      exact ⟨_, rfl, Hne.out, hO.out, hB⟩
end Go.Proofs.Ytclegljalndaeac

/-
  The draw of values for a plan: each fits its part.
-/
namespace Go.Proofs.Ytclegljalndaeac
open Go.RowKit
set_option maxRecDepth 4000

theorem l2Of_all (g : Nat) (ao : Option Addr) (n cap : Nat) (f : Nat → Int) (t : Int) (nul : Bool) (w : World) (hn : n ≤ 1048576) (ht : 1 ≤ t ∧ t ≤ 4) (hC : Cur w g ao n cap f) :
    Calls Try.prog 80 #[.pointer (some ⟨g, 0, none⟩), .int .i64 t, .bool nul] w fun e w' => ∃ (k m : Int) (s : ByteArray), e = .returned (.agg #[.int .i64 k, .int .i64 m, .string s]) ∧ DrewV w g ao n cap f k m s w' ∧ fitsP t nul k m s = true := by
  cases nul with
  | true => exact l2Of_fit g ao n cap f t w hn ht.1 ht.2 hC
  | false => exact l2Of_fitNo g ao n cap f t w hn ht.1 ht.2 hC

/-- Values that were drawn: m of them, each fits its part, in a row of the call's own. -/
structure DrewVals (w : World) (g : Nat) (ao : Option Addr) (n cap : Nat) (f : Nat → Int) (gt : Nat → Int) (gu : Nat → Bool) (v : Value) (m : Nat) (gk gn : Nat → Int) (gs : Nat → ByteArray) (w' : World) : Prop where
  fit : ∀ i, i < m → fitsP (gt i) (gu i) (gk i) (gn i) (gs i) = true
  some : v ≠ .slice none 0 0
  own : w'.ownsRow w.heap.size 29 3 v m (rowC gk gn gs m)
  cur : Cur w' g ao n cap f
  but : But g w w'

set_option linter.unusedSimpArgs false in
set_option maxHeartbeats 4000000 in
theorem l6Vals_any (g : Nat) (ao : Option Addr) (n cap : Nat) (f : Nat → Int) (a : Option Addr) (m cp : Nat) (gc gt : Nat → Int) (gu gd : Nat → Bool) (N : Nat) (w : World) (hn : n ≤ 1048576) (hC : Cur w g ao n cap f) (h : PView w a m cp gc gt gu gd) (hag : ∀ A, a = some A → A.block ≠ g) (ht : ∀ i, i < m → 1 ≤ gt i ∧ gt i ≤ 4) (hN : N ≤ m) (hm : m ≤ 1000) :
    Calls Try.prog 60 #[.pointer (some ⟨g, 0, none⟩), .slice a m cp, .int .i64 N] w fun e w' => ∃ (v : Value) (gk gn : Nat → Int) (gs : Nat → ByteArray), e = .returned v ∧ DrewVals w g ao n cap f gt gu v N gk gn gs w' := by
  obtain ⟨i0, hi, hz0, hz1, hz2⟩ := infoVal3
  have hown0 := World.ownsRow_lit (base := w.heap.size) (e := 29) (size := 3) w #[] 0 (Nat.le_refl _) (Nat.zero_le _) rfl
  have hb0 : Below w.heap.size w (w.alloc (.cells #[] 29)) := (Below.refl _ _).alloc (Nat.le_refl _) _
  have hgl := hC.lt
  have HC : Hid (∀ a, ao = some a → 0 < n → a.block < w.heap.size) := hC.code
  have hD0 : DrewVals w g ao n cap f gt gu (.slice (some ⟨w.heap.size, 0, none⟩) 0 0) 0 (fun _ => 0) (fun _ => 0) (fun _ => ⟨#[]⟩) (w.alloc (.cells #[] 29)) := ⟨fun i hi => absurd hi (Nat.not_lt_zero _), by simp, hown0, hC.below hb0, But.ofBelow hb0⟩
  clear hown0 hb0 hC
  go_enter Try.func60, Try.ntmps60
  go_wp2
  go_loopg [7, 8] N (fun q v i wr => ∃ (k : Nat) (gk gn : Nat → Int) (gs : Nat → ByteArray), k ≤ N ∧ q = N - k ∧ i = .int .i64 k ∧ DrewVals w g ao n cap f gt gu v k gk gn gs wr)
  case atStart => exact ⟨0, _, _, _, Nat.zero_le _, rfl, rfl, hD0⟩
  case round =>
    obtain ⟨k, gk, gn, gs, hk, rfl, rfl, hD⟩ := hrel
    have hown := hD.own
    have HD : Hid (DrewVals w g ao n cap f gt gu u7 k gk gn gs wr) := hD
    have hCr := hD.cur
    clear hD hD0
    by_cases hlt : k < N
    · have hkz : (k : Int) < (N : Int) := by omega
      have hkm : (k : Int) < (m : Int) := by omega
      obtain ⟨b1, o1, rfl, hb1, hd1⟩ := h.cells (by omega)
      obtain ⟨-, y1, y2, -⟩ := hd1 k (by omega)
      have hbg : b1 ≠ g := hag _ rfl
      have x1 : wr.cell? ⟨b1, o1 + k * 4 + 1, none⟩ = some (.int .i64 (gt k)) := by rw [World.cell?_of_block (w := w) (HD.out.but.block b1 hb1 hbg)]; exact y1
      have x2 : wr.cell? ⟨b1, o1 + k * 4 + 2, none⟩ = some (.bool (gu k)) := by rw [World.cell?_of_block (w := w) (HD.out.but.block b1 hb1 hbg)]; exact y2
      have htk := ht k (by omega)
      obtain ⟨t, hteq⟩ : ∃ t, Hid (gt k = t) := ⟨_, rfl⟩
      obtain ⟨nul, hueq⟩ : ∃ u, Hid (gu k = u) := ⟨_, rfl⟩
      rw [hteq.out] at x1 htk
      rw [hueq.out] at x2
      clear hd1 y1 y2 h hag ht
      have hbwr : b1 < wr.heap.size := Nat.lt_of_lt_of_le hb1 HD.out.but.size
      have hCd : Cur wr.drew g ao n cap f := hCr.below ((Below.refl _ _).drew)
      go_wp2_with fail
      refine wp_region_held_drew (S := fun W => W.cell? ⟨b1, o1 + k * 4 + 1, none⟩ = some (.int .i64 t) ∧ W.cell? ⟨b1, o1 + k * 4 + 2, none⟩ = some (.bool nul)) (by kernel_rfl) (⟨x1, x2⟩) (fun hHeld => ?_)
      refine' wpAnyH_take (i := 0) (v := _) rfl (by kernel_rfl) (by kernel_rfl) (by kernel_rfl) (fun _ _ _ h => h) (Or.inl ⟨by kernel_rfl, ?ha0⟩) (by assumption) ?ra0
      case ha0 => intro W hW; obtain ⟨d1, d2⟩ := hW; go_simp; all_goals with_reducible rfl
      change wpAnyH _ _ _ _ _ _ _ (Act.put _ (some 21) _) _
      simp only [Act.put, List.setIfInBounds_toArray, List.set_cons_zero, List.set_cons_succ]
      refine' wpAnyH_take (i := 1) (v := _) rfl (by kernel_rfl) (by kernel_rfl) (by kernel_rfl) (fun _ _ _ h => h) (Or.inl ⟨by kernel_rfl, ?ha1⟩) (by assumption) ?ra1
      case ha1 => intro W hW; obtain ⟨d1, d2⟩ := hW; go_simp; all_goals with_reducible rfl
      change wpAnyH _ _ _ _ _ _ _ (Act.put _ (some 22) _) _
      simp only [Act.put, List.setIfInBounds_toArray, List.set_cons_zero, List.set_cons_succ]
      refine' wpAnyH_take (i := 2) (v := _) rfl (by kernel_rfl) (by kernel_rfl) (by kernel_rfl) (fun _ _ _ h => h) (Or.inl ⟨by kernel_rfl, ?ha2⟩) (by assumption) ?ra2
      case ha2 => intro W hW; obtain ⟨d1, d2⟩ := hW; go_simp; all_goals with_reducible rfl
      change wpAnyH _ _ _ _ _ _ _ (Act.put _ (some 23) _) _
      simp only [Act.put, List.setIfInBounds_toArray, List.set_cons_zero, List.set_cons_succ]
      refine' wpAnyH_take (i := 3) (v := _) rfl (by kernel_rfl) (by kernel_rfl) (by kernel_rfl) (fun _ _ _ h => h) (Or.inl ⟨by kernel_rfl, ?ha3⟩) (by assumption) ?ra3
      case ha3 => intro W hW; obtain ⟨d1, d2⟩ := hW; go_simp; all_goals with_reducible rfl
      change wpAnyH _ _ _ _ _ _ _ (Act.put _ (some 24) _) _
      simp only [Act.put, List.setIfInBounds_toArray, List.set_cons_zero, List.set_cons_succ]
      refine' wpAnyH_take (i := 4) (v := _) rfl (by kernel_rfl) (by kernel_rfl) (by kernel_rfl) (fun _ _ _ h => h) (Or.inl ⟨by kernel_rfl, ?ha4⟩) (by assumption) ?ra4
      case ha4 => intro W hW; obtain ⟨d1, d2⟩ := hW; go_simp; all_goals with_reducible rfl
      change wpAnyH _ _ _ _ _ _ _ (Act.put _ (some 25) _) _
      simp only [Act.put, List.setIfInBounds_toArray, List.set_cons_zero, List.set_cons_succ]
      refine' wpAnyH_take (i := 5) (v := _) rfl (by kernel_rfl) (by kernel_rfl) (by kernel_rfl) (fun _ _ _ h => h) (Or.inl ⟨by kernel_rfl, ?ha5⟩) (by assumption) ?ra5
      case ha5 => intro W hW; obtain ⟨d1, d2⟩ := hW; go_simp; all_goals with_reducible rfl
      change wpAnyH _ _ _ _ _ _ _ (Act.put _ (some 26) _) _
      simp only [Act.put, List.setIfInBounds_toArray, List.set_cons_zero, List.set_cons_succ]
      refine' wpAnyH_take (i := 6) (v := _) rfl (by kernel_rfl) (by kernel_rfl) (by kernel_rfl) (fun _ _ _ h => h) (Or.inl ⟨by kernel_rfl, ?ha6⟩) (by assumption) ?ra6
      case ha6 => intro W hW; obtain ⟨d1, d2⟩ := hW; go_simp; all_goals with_reducible rfl
      change wpAnyH _ _ _ _ _ _ _ (Act.put _ (some 27) _) _
      simp only [Act.put, List.setIfInBounds_toArray, List.set_cons_zero, List.set_cons_succ]
      refine' wpAnyH_take (i := 7) (v := _) rfl (by kernel_rfl) (by kernel_rfl) (by kernel_rfl) (fun _ _ _ h => h) (Or.inl ⟨by kernel_rfl, ?ha7⟩) (by assumption) ?ra7
      case ha7 => intro W hW; obtain ⟨d1, d2⟩ := hW; go_simp; all_goals with_reducible rfl
      change wpAnyH _ _ _ _ _ _ _ (Act.put _ (some 28) _) _
      simp only [Act.put, List.setIfInBounds_toArray, List.set_cons_zero, List.set_cons_succ]
      refine' wpAnyH_take (i := 8) (v := _) rfl (by kernel_rfl) (by kernel_rfl) (by kernel_rfl) (fun _ _ _ h => h) (Or.inl ⟨by kernel_rfl, ?ha8⟩) (by assumption) ?ra8
      case ha8 => intro W hW; obtain ⟨d1, d2⟩ := hW; go_simp; all_goals with_reducible rfl
      change wpAnyH _ _ _ _ _ _ _ (Act.put _ (some 29) _) _
      simp only [Act.put, List.setIfInBounds_toArray, List.set_cons_zero, List.set_cons_succ]
      refine' wpAnyH_take (i := 9) (v := _) rfl (by kernel_rfl) (by kernel_rfl) (by kernel_rfl) (fun _ _ _ h => h) (Or.inl ⟨by kernel_rfl, ?ha9⟩) (by assumption) ?ra9
      case ha9 => intro W hW; obtain ⟨d1, d2⟩ := hW; go_simp; all_goals with_reducible rfl
      change wpAnyH _ _ _ _ _ _ _ (Act.put _ (some 30) _) _
      simp only [Act.put, List.setIfInBounds_toArray, List.set_cons_zero, List.set_cons_succ]
      refine' wpAnyH_take (i := 10) (v := _) rfl (by kernel_rfl) (by kernel_rfl) (by kernel_rfl) (fun _ _ _ h => h) (Or.inl ⟨by kernel_rfl, ?ha10⟩) (by assumption) ?ra10
      case ha10 => intro W hW; obtain ⟨d1, d2⟩ := hW; go_simp; all_goals with_reducible rfl
      change wpAnyH _ _ _ _ _ _ _ (Act.put _ (some 31) _) _
      simp only [Act.put, List.setIfInBounds_toArray, List.set_cons_zero, List.set_cons_succ]
      refine' wpAnyH_take (i := 11) (v := _) rfl (by kernel_rfl) (by kernel_rfl) (by kernel_rfl) (fun _ _ _ h => h) (Or.inl ⟨by kernel_rfl, ?ha11⟩) (by assumption) ?ra11
      case ha11 => intro W hW; obtain ⟨d1, d2⟩ := hW; go_simp; all_goals with_reducible rfl
      change wpAnyH _ _ _ _ _ _ _ (Act.put _ (some 32) _) _
      simp only [Act.put, List.setIfInBounds_toArray, List.set_cons_zero, List.set_cons_succ]
      refine wpAnyH_ready (rs := [12]) (by kernel_rfl) (by simp) ?_
      refine AllReadyH.cons rfl (fun KK hK => ?_) AllReadyH.nil
      go_simp
      refine (l2Of_all g ao n cap f t nul _ hn htk hCd).mono ?_
      rintro e w3 ⟨kk, y, s, rfl, hV, hfit⟩
      have hBw3 : But g wr w3 := (But.ofBelow ((Below.refl _ _).drew)).trans hV.but
      have x13 : w3.cell? ⟨b1, o1 + k * 4 + 1, none⟩ = some (.int .i64 t) := by rw [World.cell?_of_block (w := wr) (hBw3.block b1 hbwr hbg)]; exact x1
      have x23 : w3.cell? ⟨b1, o1 + k * 4 + 2, none⟩ = some (.bool nul) := by rw [World.cell?_of_block (w := wr) (hBw3.block b1 hbwr hbg)]; exact x2
      have hown3 := hown.kept hBw3.grown (Or.inr (fun e => by have := (hown.lt g e).1; omega))
      have hC3 := hV.cur
      have hB3 : But g w w3 := HD.out.but.trans hBw3
      have hs3 : w.heap.size ≤ w3.heap.size := hB3.size
      have hb13 : b1 < w3.heap.size := by omega
      have Hf : Hid (fitsP t nul kk y s = true) := hfit
      clear hfit hV hCr hCd
      go_wp2_with fail
      refine hK.out _ _ ⟨x13, x23⟩ (fun hHeld => ?_)
      clear hK KK
      try simp only [Act.put, List.setIfInBounds_toArray, List.set_cons_zero, List.set_cons_succ]
      refine wpAnyH_ready (rs := [13]) (by kernel_rfl) (by simp) ?_
      refine AllReadyH.cons rfl (fun KK hK => ?_) AllReadyH.nil
      go_simp
      have hb4 : Below w3.heap.size w3 (w3.alloc (.cells #[.int .i64 kk, .int .i64 y, .string s] 29)) := (Below.refl _ _).alloc (Nat.le_refl _) _
      refine hK.out _ _ ⟨by rw [hb4.cell hb13]; exact x13, by rw [hb4.cell hb13]; exact x23⟩ (fun hHeld => ?_)
      clear hK KK
      try simp only [Act.put, List.setIfInBounds_toArray, List.set_cons_zero, List.set_cons_succ]
      refine wpAnyH_ready (rs := [14]) (by kernel_rfl) (by simp) ?_
      refine AllReadyH.cons rfl (fun KK hK => ?_) AllReadyH.nil
      rw [if_pos (by kernel_rfl)]
      refine wp_append_own _ (.tmp 21) (.tmp 34) 39 rfl w.heap.size 29 i0 (.agg #[.int .i64 0, .int .i64 0, .string ⟨#[]⟩]) 3 32 Try.underlying39 hi hz0 hz1 hz2 rfl (by decide) u7 _ _ rfl (hown3.alloc _) ⟨w3.heap.size, 0, none⟩ 1 1 [.int .i64 kk, .int .i64 y, .string s] rfl rfl (cells_one w3 kk y s) (one_cells _ _ _) (by unfold maxLen; omega) (by omega) (by simp; omega) ?_
      intro v4 w4 hown4 hgr4 hnil4
      have hb14 : b1 < (w3.alloc (.cells #[.int .i64 kk, .int .i64 y, .string s] 29)).heap.size := by simp; omega
      have hbo : some b1 ≠ u7.ownBlock := fun e => by have := (hown.lt b1 e.symm).1; omega
      refine hK.out _ _ ⟨by rw [World.cell?_of_block (w := w3.alloc (.cells #[.int .i64 kk, .int .i64 y, .string s] 29)) (hgr4.block b1 hb14 hbo), hb4.cell hb13]; exact x13, by rw [World.cell?_of_block (w := w3.alloc (.cells #[.int .i64 kk, .int .i64 y, .string s] 29)) (hgr4.block b1 hb14 hbo), hb4.cell hb13]; exact x23⟩ (fun hHeld => ?_)
      clear hK KK
      change wpAnyH _ _ _ _ _ _ _ (Act.put _ (some 35) _) _
      try simp only [Act.put, List.setIfInBounds_toArray, List.set_cons_zero, List.set_cons_succ]
      refine' wpAnyH_take (i := 15) (v := _) rfl (by kernel_rfl) (by kernel_rfl) (by kernel_rfl) (fun _ _ _ h => h) (Or.inl ⟨by kernel_rfl, ?ha15⟩) (by assumption) ?ra15
      case ha15 => intro W hW; obtain ⟨d1, d2⟩ := hW; go_simp; all_goals with_reducible rfl
      change wpAnyH _ _ _ _ _ _ _ (Act.put _ (some 7) _) _
      simp only [Act.put, List.setIfInBounds_toArray, List.set_cons_zero, List.set_cons_succ]
      refine wpAnyH_done (by kernel_rfl) ?_ _
      have hB4 : But g w w4 := by
        refine ⟨hgr4.os.trans hB3.os, hgr4.tape.trans hB3.tape, hgr4.output.trans hB3.output, Nat.le_trans hs3 (Nat.le_trans (by simp) hgr4.size), fun j hj hg => ?_⟩
        rw [hgr4.block j (by simp; omega) (fun e => by have := (hown.lt j e.symm).1; omega), Below.heap_alloc _ _ _ (by omega)]
        exact hB3.block j hj hg
      have hC4 : Cur w4 g ao n cap f := (hC3.below hb4).grown hgr4 (fun e => by have := (hown.lt g e).1; omega) (fun a ha h0 e => by have := (hown.lt _ e).1; have := HC.out a ha h0; omega)
      have HD4 : Hid (DrewVals w g ao n cap f gt gu v4 (k + 1) (fun i => if i = k then kk else gk i) (fun i => if i = k then y else gn i) (fun i => if i = k then s else gs i) w4) := by
        refine ⟨fun i hi => ?_, fun e => HD.out.some (hnil4.1 e).1, ?_, hC4, hB4⟩
        · by_cases e : i = k
          · subst e
            rw [if_pos rfl, if_pos rfl, if_pos rfl, hteq.out, hueq.out]; exact Hf.out
          · rw [if_neg e, if_neg e, if_neg e]; exact HD.out.fit i (by omega)
        · rw [rowC, if_pos rfl, if_pos rfl, if_pos rfl, rowC_congr (hk := gk) (hn := gn) (hs := gs) (fun i hi => by rw [if_neg (by omega), if_neg (by omega), if_neg (by omega)]; exact ⟨rfl, rfl, rfl⟩)]
          exact hown4
      clear hown hown3 hown4 hgr4 hnil4 hC4 hB4 hb4 hB3 hC3 HD x1 x2 x13 x23 hHeld
      go_wp2
      go_roundg (N - (k + 1))
      case measure => omega
      case rel => exact ⟨k + 1, _, _, _, by omega, rfl, by go_num, HD4.out⟩
    · have hkz : ¬ (k : Int) < (N : Int) := by omega
      obtain rfl : k = N := by omega
      clear hown hCr
      go_wp2
      go_ret
      exact ⟨_, rfl, gk, gn, gs, HD.out⟩
end Go.Proofs.Ytclegljalndaeac

/-
  A new cursor, at an address that is named.
-/
namespace Go.Proofs.Ytclegljalndaeac
open Go.RowKit
set_option maxRecDepth 4000

theorem l1New_at (A : Nat) (ao : Option Addr) (n cap : Nat) (f : Nat → Int) (w : World) (hA : A = w.heap.size) (hn : n ≤ 1048576) (hv : View w ao n cap f) :
    Calls Try.prog 40 #[.slice ao n cap] w fun e w' => e = .returned (.pointer (some ⟨A, 0, none⟩)) ∧ Cur w' A ao n cap f ∧ Below w.heap.size w w' := by
  subst hA
  exact l1New_any ao n cap f w hn hv
end Go.Proofs.Ytclegljalndaeac

/-
  The draw of a plan that is right and of two keys of all its values.
-/
namespace Go.Proofs.Ytclegljalndaeac
open Go.RowKit
set_option maxRecDepth 4000

theorem PView.but {w w' : World} {g : Nat} {a : Option Addr} {n cap : Nat} {fc ft : Nat → Int} {fu fd : Nat → Bool} (h : PView w a n cap fc ft fu fd) (hb : But g w w') (hne : ∀ A, a = some A → A.block ≠ g) : PView w' a n cap fc ft fu fd := by
  refine ⟨h.le, fun hn => ?_⟩
  obtain ⟨b, off, e, hlt, hc⟩ := h.cells hn
  refine ⟨b, off, e, Nat.lt_of_lt_of_le hlt hb.size, fun i hi => ?_⟩
  have hk := hb.block b hlt (hne _ e)
  have ec : ∀ j, w'.cell? ⟨b, j, none⟩ = w.cell? ⟨b, j, none⟩ := fun j => World.cell?_of_block hk
  rw [ec, ec, ec, ec]
  exact hc i hi
theorem VView.but {w w' : World} {g : Nat} {a : Option Addr} {n cap : Nat} {fk fn : Nat → Int} {fs : Nat → ByteArray} (h : VView w a n cap fk fn fs) (hb : But g w w') (hne : ∀ A, a = some A → A.block ≠ g) : VView w' a n cap fk fn fs := by
  refine ⟨h.le, fun hn => ?_⟩
  obtain ⟨b, off, e, hlt, hc⟩ := h.cells hn
  refine ⟨b, off, e, Nat.lt_of_lt_of_le hlt hb.size, fun i hi => ?_⟩
  have hk := hb.block b hlt (hne _ e)
  have ec : ∀ j, w'.cell? ⟨b, j, none⟩ = w.cell? ⟨b, j, none⟩ := fun j => World.cell?_of_block hk
  rw [ec, ec, ec]
  exact hc i hi

/-- A plan that is right and two lists of values that fit it. -/
structure DrewKeys (w' : World) (a a1 a2 : Option Addr) (m cp c1 c2 : Nat) (gc gt : Nat → Int) (gu gd : Nat → Bool) (fk fn : Nat → Int) (fs : Nat → ByteArray) (fk' fn' : Nat → Int) (fs' : Nat → ByteArray) : Prop where
  pos : 1 ≤ m
  few : m ≤ 3
  ok : ∀ i, i < m → (0 ≤ gc i ∧ gc i ≤ 3) ∧ (1 ≤ gt i ∧ gt i ≤ 4)
  fit : ∀ i, i < m → fitsP (gt i) (gu i) (fk i) (fn i) (fs i) = true
  fit' : ∀ i, i < m → fitsP (gt i) (gu i) (fk' i) (fn' i) (fs' i) = true
  plan : PView w' a m cp gc gt gu gd
  vals : VView w' a1 m c1 fk fn fs
  vals' : VView w' a2 m c2 fk' fn' fs'

set_option maxHeartbeats 4000000 in
theorem drawKeys_any (ao : Option Addr) (n cap : Nat) (f : Nat → Int) (w : World) (hn : n ≤ 1048576) (hv : View w ao n cap f) :
    Calls Try.prog 18 #[.slice ao n cap] w fun e w' => (∃ a a1 a2 m cp c1 c2 gc gt gu gd fk fn fs fk' fn' fs', e = .returned (.tuple #[.slice a m cp, .slice a1 m c1, .slice a2 m c2]) ∧ DrewKeys w' a a1 a2 m cp c1 c2 gc gt gu gd fk fn fs fk' fn' fs') ∧ Below w.heap.size w w' := by
  obtain ⟨A, hA⟩ : ∃ A, A = w.heap.size := ⟨_, rfl⟩
  have HA : Hid (A = w.heap.size) := hA
  go_enter Try.func18, Try.ntmps18
  go_wp2_with fail
  refine (l1New_at A ao n cap f w hA hn hv).mono ?_
  rintro e w1 ⟨rfl, hC1, hb1⟩
  have hAl := hC1.lt
  clear hA hv
  go_wp2_with fail
  refine (l6Plan_any A ao n cap f w1 hn hC1).mono ?_
  rintro e w2 ⟨v, m, gc, gt, gu, gd, rfl, hm1, hm3, hP⟩
  obtain ⟨a, cp, rfl, hpv, hsome⟩ := pview_of_own hP.own
  obtain ⟨g1, rfl, hg1⟩ := hsome hP.some
  have Hok : Hid (∀ i, i < m → (0 ≤ gc i ∧ gc i ≤ 3) ∧ (1 ≤ gt i ∧ gt i ≤ 4)) := hP.ok
  have hC2 := hP.cur
  have hB2 := hP.but
  have hne1 : ∀ X, some (⟨g1, 0, none⟩ : Addr) = some X → X.block ≠ A := fun X e => by cases e; show g1 ≠ A; omega
  have Hne1 : Hid (∀ X, some (⟨g1, 0, none⟩ : Addr) = some X → X.block ≠ A) := hne1
  have hs2 : A < w2.heap.size := Nat.lt_of_lt_of_le hAl hB2.size
  clear hP hC1 hne1 hsome
  go_wp2_with fail
  refine (l6Vals_any A ao n cap f _ m cp gc gt gu gd m w2 hn hC2 hpv Hne1.out (fun i hi => (Hok.out i hi).2) (Nat.le_refl _) (by omega)).mono ?_
  rintro e w3 ⟨v1, fk, fn, fs, rfl, hV⟩
  obtain ⟨a1, c1, rfl, hvv1, hsome1⟩ := vview_of_own hV.own
  obtain ⟨g2, rfl, hg2⟩ := hsome1 hV.some
  have Hf1 : Hid (∀ i, i < m → fitsP (gt i) (gu i) (fk i) (fn i) (fs i) = true) := hV.fit
  have hC3 := hV.cur
  have hB3 := hB2.trans hV.but
  have hpv3 := hpv.but hV.but Hne1.out
  have hs3 : A < w3.heap.size := Nat.lt_of_lt_of_le hs2 hV.but.size
  clear hV hC2 hB2 hpv hsome1
  go_wp2_with fail
  refine (l6Vals_any A ao n cap f _ m cp gc gt gu gd m w3 hn hC3 hpv3 Hne1.out (fun i hi => (Hok.out i hi).2) (Nat.le_refl _) (by omega)).mono ?_
  rintro e w4 ⟨v2, fk', fn', fs', rfl, hV⟩
  obtain ⟨a2, c2, rfl, hvv2, hsome2⟩ := vview_of_own hV.own
  have HD : Hid (DrewKeys w4 (some ⟨g1, 0, none⟩) (some ⟨g2, 0, none⟩) a2 m cp c1 c2 gc gt gu gd fk fn fs fk' fn' fs') := ⟨hm1, hm3, Hok.out, Hf1.out, hV.fit, hpv3.but hV.but Hne1.out, hvv1.but hV.but (fun X e => by cases e; show g2 ≠ A; omega), hvv2⟩
  have HB : Hid (Below w.heap.size w w4) := hb1.trans ((hB3.trans hV.but).below (B := w.heap.size) (by rw [HA.out]; exact Nat.le_refl _) hb1.size)
  clear hV hC3 hB3 hpv3 hvv1 hvv2 hsome2
  go_wp2
  exact bodyPost_ret (v := .tuple #[_, _, _]) (by simp [results, Try.results18, go_sem]) rfl ⟨⟨_, _, _, _, _, _, _, _, _, _, _, _, _, _, _, _, _, rfl, HD.out⟩, HB.out⟩
end Go.Proofs.Ytclegljalndaeac

