/-
  The model's PutU: what was there, and behind it the number's groups, in memory of its own.
-/
import Derived.Test.YtjkoipdcpkkkeamInfo
import Derived.Test.YtjkoipdcpkkkeamPutPlain
import Derived.WalkSpells
namespace Go.Proofs.Ytjkoipdcpkkkeam
open Go.RowKit

set_option maxHeartbeats 1000000 in
theorem putU_spec (b off n cap : Nat) (f : Nat → Int) (x : Int) (w : World) (hv : View w (some ⟨b, off, none⟩) n cap f) (hn : n ≤ 70368744177664) (hx0 : -9223372036854775808 ≤ x) (hx1 : x ≤ 9223372036854775807) :
    Calls Try.prog 5 #[.slice (some ⟨b, off, none⟩) n cap, .int .i64 x] w fun e w' => ∃ v, e = .returned v ∧ w'.ownsRow w.heap.size 5 1 v (n + (groups (clampN x)).length) (bl (lof n f ++ groups (clampN x))) ∧ Below w.heap.size w w' := by
  obtain ⟨i0, hi, hz0, hz1, hz2⟩ := info_parts Try.info5
  have hown0 := World.ownsRow_lit (base := w.heap.size) (e := 5) (size := 1) w #[] 0 (Nat.le_refl _) (Nat.zero_le _) rfl
  have hb0 : Below w.heap.size w (w.alloc (.cells #[] 5)) := (Below.refl _ _).alloc (Nat.le_refl _) _
  have hcl := cells_of_view (hv.below hb0)
  have hsz : (w.alloc (.cells #[] 5)).heap.size = w.heap.size + 1 := by simp
  go_enter Try.func5, Try.ntmps5
  go_wp2_with (at_builtin; go_must (refine wpList_append_own _ rfl (.tmp 6) (.tmp 7) 22 rfl w.heap.size 5 i0 (.int .u8 0) 1 1 Try.underlying22 hi hz0 hz1 hz2 rfl (by decide) (.slice (some ⟨w.heap.size, 0, none⟩) 0 0) 0 [] rfl hown0 ⟨b, off, none⟩ n cap (bl (lof n f)) rfl (by rw [bl_len, lof_len]; omega) hcl (bl_one _) (by unfold maxLen; omega) (by omega) (by rw [hsz]; omega) ?_); intro v1 w1 hown1 hgr1 _)
  all_goals
    have hb1 : Below w.heap.size w w1 := hb0.grown hgr1 (by simp) (fun k hk => by simp only [Value.ownBlock, Option.some.injEq] at hk; omega)
    clear hown0 hcl hsz hgr1 hb0 hv
    simp only [Nat.zero_add, List.nil_append] at hown1
    go_loopg [1, 5] (clampN x).toNat (fun g s v wr => ∃ (y : Int) (ys : List Int), s = .int .i64 y ∧ 0 ≤ y ∧ y ≤ 1000000 ∧ g = y.toNat ∧ groups (clampN x) = ys ++ groups y ∧ wr.ownsRow w.heap.size 5 1 v (n + ys.length) (bl (lof n f ++ ys)) ∧ Below w.heap.size w wr)
    case atStart => exact ⟨clampN x, [], congrArg (Value.int .i64) (by unfold clampN; split <;> (try split) <;> omega), (clampN_bd x).1, (clampN_bd x).2, rfl, rfl, by rw [List.append_nil]; exact hown1, hb1⟩
    case round =>
      obtain ⟨y, ys, rfl, hy0, hy1, rfl, hgr, hown, hB⟩ := hrel
      clear hown1 hb1
      have HG : Hid (groups (clampN x) = ys ++ groups y) := hgr
      have hlen : n + ys.length ≤ n + 3 := by have := groups_len (clampN x); rw [hgr] at this; simp at this; have := groups_len y; omega
      clear hgr
      have hA : ∀ z : Int, bits .and .i64 z 127 = z % 128 := i64_and127
      have hq : bits .or .i64 (y % 128) 128 = y % 128 + 128 := i64_or_add 7 _ _ (by omega) (by show _ < (128 : Int); omega) (by omega) (by decide) (by omega) (by decide)
      by_cases hlt : y < 128
      · go_wp2_with (at_builtin; go_must (refine wpList_append_own _ rfl (.tmp 24) (.tmp 27) 22 rfl w.heap.size 5 i0 (.int .u8 0) 1 1 Try.underlying22 hi hz0 hz1 hz2 rfl (by decide) u5 _ _ rfl (hown.alloc _) ⟨wr.heap.size, 0, none⟩ 1 1 [.int .u8 y] rfl rfl (cellNew _ _ _) (bl_one [y]) (by unfold maxLen; omega) (by omega) (by have := hB.size; simp; omega) ?_); intro v2 w2 hown2 hgr2 _)
        go_ret
        refine ⟨v2, rfl, ?_, ?_⟩
        · rw [HG.out, groups_last y hlt, List.length_append, ← List.append_assoc, bl_append]
          rw [Nat.add_assoc] at hown2
          exact hown2
        · exact (hB.alloc hB.size _).grown hgr2 (by have := hB.size; simp; omega) (fun k hk => (hown.lt k hk).1)
      · have hS : y / 128 < y := by omega
        have hG2 : Hid (groups (clampN x) = (ys ++ [y % 128 + 128]) ++ groups (y / 128)) := by
          have := HG.out
          rw [groups_step y (by omega) hy1] at this
          rw [List.append_assoc]; exact this
        go_wp2_with (at_builtin; go_must (refine wpList_append_own _ rfl (.tmp 15) (.tmp 20) 22 rfl w.heap.size 5 i0 (.int .u8 0) 1 1 Try.underlying22 hi hz0 hz1 hz2 rfl (by decide) u5 _ _ rfl (hown.alloc _) ⟨wr.heap.size, 0, none⟩ 1 1 [.int .u8 (y % 128 + 128)] rfl rfl (cellNew _ _ _) (bl_one [y % 128 + 128]) (by unfold maxLen; omega) (by omega) (by have := hB.size; simp; omega) ?_); intro v2 w2 hown2 hgr2 _)
        have hB2 : Below w.heap.size w w2 := (hB.alloc hB.size _).grown hgr2 (by have := hB.size; simp; omega) (fun k hk => (hown.lt k hk).1)
        have hO2 : w2.ownsRow w.heap.size 5 1 v2 (n + (ys ++ [y % 128 + 128]).length) (bl (lof n f ++ (ys ++ [y % 128 + 128]))) := by
          rw [List.length_append, ← List.append_assoc, bl_append]
          rw [Nat.add_assoc] at hown2
          exact hown2
        clear hgr2 hown hown2 hB
        go_wp2
        go_roundg ((y / 128).toNat)
        case measure => omega
        case rel => exact ⟨y / 128, ys ++ [y % 128 + 128], rfl, by omega, by omega, rfl, hG2.out, hO2, hB2⟩
end Go.Proofs.Ytjkoipdcpkkkeam
