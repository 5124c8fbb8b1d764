/-
  The model's PutFix: what was there, and behind it the number's four bytes, in memory of its own.
-/
import Derived.Test.YtbcgonfihdpjnaqInfo
import Derived.Test.YtbcgonfihdpjnaqNumPlain
import Derived.WalkSpells
namespace Go.Proofs.Ytbcgonfihdpjnaq
open Go.RowKit
set_option maxRecDepth 4000

theorem cellsNew4 (w : World) (a b c d : Value) (t : TypeId) : ∀ j u, [a, b, c, d][j]? = some u → (w.alloc (.cells #[a, b, c, d] t)).cell? ((⟨w.heap.size, 0, none⟩ : Addr).add j) = some u := by
  intro j u hj
  match j, hj with
  | 0, hj => simp at hj; subst hj; simp [Addr.add]
  | 1, hj => simp at hj; subst hj; simp [Addr.add]
  | 2, hj => simp at hj; subst hj; simp [Addr.add]
  | 3, hj => simp at hj; subst hj; simp [Addr.add]

theorem fixL_is (x y : Int) (hy : y = clampF x + 2147483648) : fixL x = [y / 16777216 % 256, y / 65536 % 256, y / 256 % 256, y % 256] := by
  subst hy
  unfold fixL
  simp [lof, be, dg, List.range_succ]

set_option maxHeartbeats 1000000 in
theorem putFix_own (b off n cap : Nat) (f : Nat → Int) (x : Int) (w : World) (hv : View w (some ⟨b, off, none⟩) n cap f) (hn : n ≤ 70368744170000) (hx0 : -9223372036854775808 ≤ x) (hx1 : x ≤ 9223372036854775807) :
    Calls Try.prog 45 #[.slice (some ⟨b, off, none⟩) n cap, .int .i64 x] w fun e w' => ∃ v, e = .returned v ∧ w'.ownsRow w.heap.size 5 1 v (n + 4) (bl (lof n f ++ fixL x)) ∧ Below w.heap.size w w' := by
  obtain ⟨i0, hi, hz0, hz1, hz2⟩ := info_parts Try.info5
  have hown0 := World.ownsRow_lit (base := w.heap.size) (e := 5) (size := 1) w #[] 0 (Nat.le_refl _) (Nat.zero_le _) rfl
  have hb0 : Below w.heap.size w (w.alloc (.cells #[] 5)) := (Below.refl _ _).alloc (Nat.le_refl _) _
  have hcl := cells_of_view (hv.below hb0)
  have hsz : (w.alloc (.cells #[] 5)).heap.size = w.heap.size + 1 := by simp
  obtain ⟨y, hy⟩ : ∃ y, y = clampF x := ⟨_, rfl⟩
  have hyb := clampF_bd x
  rw [← hy] at hyb
  have HL : Hid (fixL x = [(y + 2147483648) / 16777216 % 256, (y + 2147483648) / 65536 % 256, (y + 2147483648) / 256 % 256, (y + 2147483648) % 256]) := fixL_is x _ (by omega)
  have hcase : (2147483647 < x ∧ y = 2147483647) ∨ (x < -2147483648 ∧ y = -2147483648) ∨ (-2147483648 ≤ x ∧ x ≤ 2147483647 ∧ y = x) := by
    rw [hy]; unfold clampF; split
    · right; left; omega
    · split
      · left; omega
      · right; right; omega
  clear hy
  go_enter Try.func45, Try.ntmps45
  rcases hcase with ⟨h1, rfl⟩ | ⟨h1, rfl⟩ | ⟨h1, h2, rfl⟩
  ·
    go_wp2_with (first | (at_builtin; (refine wpList_append_own _ rfl (.tmp 11) (.tmp 12) 22 rfl w.heap.size 5 i0 (.int .u8 0) 1 1 Try.underlying22 hi hz0 hz1 hz2 rfl (by decide) (.slice (some ⟨w.heap.size, 0, none⟩) 0 0) 0 [] rfl hown0 ⟨b, off, none⟩ n cap (bl (lof n f)) rfl (by rw [bl_len, lof_len]; omega) hcl (bl_one _) (by unfold maxLen; omega) (by omega) (by rw [hsz]; omega) ?_); intro v1 w1 hown1 hgr1 _; simp only [Nat.zero_add, List.nil_append] at hown1; have hb1 : Below w.heap.size w w1 := hb0.grown hgr1 (by simp) (fun k hk => by simp only [Value.ownBlock, Option.some.injEq] at hk; omega); clear hown0 hcl hsz hgr1 hb0 hv) | (at_builtin; refine wpList_append_own _ rfl (.tmp 13) (.tmp 25) 22 rfl w.heap.size 5 i0 (.int .u8 0) 1 1 Try.underlying22 hi hz0 hz1 hz2 rfl (by decide) v1 _ _ rfl (hown1.alloc _) ⟨w1.heap.size, 0, none⟩ 4 4 [.int .u8 (255), .int .u8 (255), .int .u8 (255), .int .u8 (255)] rfl rfl (cellsNew4 _ _ _ _ _ _) (bl_one [255, 255, 255, 255]) (by unfold maxLen; omega) (by omega) (by have := hb1.size; simp; omega) ?_; intro v2 w2 hown2 hgr2 _))
    go_ret
    refine ⟨v2, rfl, ?_, (hb1.alloc hb1.size _).grown hgr2 (by have := hb1.size; simp; omega) (fun k hk => (hown1.lt k hk).1)⟩
    rw [HL.out, bl_append]
    exact hown2
  ·
    go_wp2_with (first | (at_builtin; (refine wpList_append_own _ rfl (.tmp 11) (.tmp 12) 22 rfl w.heap.size 5 i0 (.int .u8 0) 1 1 Try.underlying22 hi hz0 hz1 hz2 rfl (by decide) (.slice (some ⟨w.heap.size, 0, none⟩) 0 0) 0 [] rfl hown0 ⟨b, off, none⟩ n cap (bl (lof n f)) rfl (by rw [bl_len, lof_len]; omega) hcl (bl_one _) (by unfold maxLen; omega) (by omega) (by rw [hsz]; omega) ?_); intro v1 w1 hown1 hgr1 _; simp only [Nat.zero_add, List.nil_append] at hown1; have hb1 : Below w.heap.size w w1 := hb0.grown hgr1 (by simp) (fun k hk => by simp only [Value.ownBlock, Option.some.injEq] at hk; omega); clear hown0 hcl hsz hgr1 hb0 hv) | (at_builtin; refine wpList_append_own _ rfl (.tmp 13) (.tmp 25) 22 rfl w.heap.size 5 i0 (.int .u8 0) 1 1 Try.underlying22 hi hz0 hz1 hz2 rfl (by decide) v1 _ _ rfl (hown1.alloc _) ⟨w1.heap.size, 0, none⟩ 4 4 [.int .u8 (0), .int .u8 (0), .int .u8 (0), .int .u8 (0)] rfl rfl (cellsNew4 _ _ _ _ _ _) (bl_one [0, 0, 0, 0]) (by unfold maxLen; omega) (by omega) (by have := hb1.size; simp; omega) ?_; intro v2 w2 hown2 hgr2 _))
    go_ret
    refine ⟨v2, rfl, ?_, (hb1.alloc hb1.size _).grown hgr2 (by have := hb1.size; simp; omega) (fun k hk => (hown1.lt k hk).1)⟩
    rw [HL.out, bl_append]
    exact hown2
  ·
    go_wp2_with (first | (at_builtin; (refine wpList_append_own _ rfl (.tmp 11) (.tmp 12) 22 rfl w.heap.size 5 i0 (.int .u8 0) 1 1 Try.underlying22 hi hz0 hz1 hz2 rfl (by decide) (.slice (some ⟨w.heap.size, 0, none⟩) 0 0) 0 [] rfl hown0 ⟨b, off, none⟩ n cap (bl (lof n f)) rfl (by rw [bl_len, lof_len]; omega) hcl (bl_one _) (by unfold maxLen; omega) (by omega) (by rw [hsz]; omega) ?_); intro v1 w1 hown1 hgr1 _; simp only [Nat.zero_add, List.nil_append] at hown1; have hb1 : Below w.heap.size w w1 := hb0.grown hgr1 (by simp) (fun k hk => by simp only [Value.ownBlock, Option.some.injEq] at hk; omega); clear hown0 hcl hsz hgr1 hb0 hv) | (at_builtin; refine wpList_append_own _ rfl (.tmp 13) (.tmp 25) 22 rfl w.heap.size 5 i0 (.int .u8 0) 1 1 Try.underlying22 hi hz0 hz1 hz2 rfl (by decide) v1 _ _ rfl (hown1.alloc _) ⟨w1.heap.size, 0, none⟩ 4 4 [.int .u8 ((y + 2147483648) / 16777216), .int .u8 ((y + 2147483648) / 65536 % 256), .int .u8 ((y + 2147483648) / 256 % 256), .int .u8 ((y + 2147483648) % 256)] rfl rfl (cellsNew4 _ _ _ _ _ _) (bl_one [(y + 2147483648) / 16777216, (y + 2147483648) / 65536 % 256, (y + 2147483648) / 256 % 256, (y + 2147483648) % 256]) (by unfold maxLen; omega) (by omega) (by have := hb1.size; simp; omega) ?_; intro v2 w2 hown2 hgr2 _))
    go_ret
    refine ⟨v2, rfl, ?_, (hb1.alloc hb1.size _).grown hgr2 (by have := hb1.size; simp; omega) (fun k hk => (hown1.lt k hk).1)⟩
    rw [HL.out, show (y + 2147483648) / 16777216 % 256 = (y + 2147483648) / 16777216 by omega, bl_append]
    exact hown2
end Go.Proofs.Ytbcgonfihdpjnaq
