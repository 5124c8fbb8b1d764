/-
  The model's PutEsc: what was there, and behind it the text as it is put, in memory of its own.
-/
import Derived.Test.YtbcgonfihdpjnaqInfo
import Derived.Test.YtbcgonfihdpjnaqEscPlain
import Derived.WalkSpells
namespace Go.Proofs.Ytbcgonfihdpjnaq
open Go.RowKit
set_option maxRecDepth 4000

theorem sl_take (s : ByteArray) (k : Nat) (h : k < s.size) : (sl s).take (k + 1) = (sl s).take k ++ [(s[k].toNat : Int)] := by
  have hd : k < (sl s).length := by rw [sl_len]; exact h
  rw [List.take_succ_eq_append_getElem hd]
  simp [sl]
  rfl
theorem sl_all (s : ByteArray) : (sl s).take s.size = sl s := by rw [← sl_len]; exact List.take_length
theorem escK_len (s : ByteArray) (k : Nat) (h : k ≤ s.size) : (escL ((sl s).take k)).length ≤ 2 * k := by
  have := (escL_len ((sl s).take k)).2
  rw [List.length_take, sl_len] at this
  omega

/-- Two new cells. -/
theorem cellsTwo (w : World) (x y : Value) (t : TypeId) : ∀ j u, [x, y][j]? = some u → (w.alloc (.cells #[x, y] t)).cell? ((⟨w.heap.size, 0, none⟩ : Addr).add j) = some u := by
  intro j u hj
  match j, hj with
  | 0, hj => simp at hj; subst hj; simp [Addr.add]
  | 1, hj => simp at hj; subst hj; simp [Addr.add]
  | (j + 2), hj => simp at hj

set_option maxHeartbeats 1000000 in
theorem putEsc_own (b off n cap : Nat) (f : Nat → Int) (s : ByteArray) (w : World) (hv : View w (some ⟨b, off, none⟩) n cap f) (hn : n ≤ 17592186044416) (hs : s.size ≤ 17592186044416) :
    Calls Try.prog 46 #[.slice (some ⟨b, off, none⟩) n cap, .string s] w fun e w' => ∃ v, e = .returned v ∧ w'.ownsRow w.heap.size 5 1 v (n + escN s) (bl (escT n f s)) ∧ Below w.heap.size w w' := by
  obtain ⟨i0, hi, hz0, hz1, hz2⟩ := info_parts Try.info5
  have hown0 := World.ownsRow_lit (base := w.heap.size) (e := 5) (size := 1) w #[] 0 (Nat.le_refl _) (Nat.zero_le _) rfl
  have hb0 : Below w.heap.size w (w.alloc (.cells #[] 5)) := (Below.refl _ _).alloc (Nat.le_refl _) _
  have hcl := cells_of_view (hv.below hb0)
  have hsz : (w.alloc (.cells #[] 5)).heap.size = w.heap.size + 1 := by simp
  go_enter Try.func46, Try.ntmps46
  go_wp2_with (at_builtin; go_must (refine wpList_append_own _ rfl (.tmp 7) (.tmp 8) 22 rfl w.heap.size 5 i0 (.int .u8 0) 1 1 Try.underlying22 hi hz0 hz1 hz2 rfl (by decide) (.slice (some ⟨w.heap.size, 0, none⟩) 0 0) 0 [] rfl hown0 ⟨b, off, none⟩ n cap (bl (lof n f)) rfl (by rw [bl_len, lof_len]; omega) hcl (bl_one _) (by unfold maxLen; omega) (by omega) (by rw [hsz]; omega) ?_); intro v1 w1 hown1 hgr1 _)
  have hb1 : Below w.heap.size w w1 := hb0.grown hgr1 (by simp) (fun k hk => by simp only [Value.ownBlock, Option.some.injEq] at hk; omega)
  clear hown0 hcl hsz hgr1 hb0 hv
  simp only [Nat.zero_add, List.nil_append] at hown1
  go_loopg [5, 6] s.size (fun g v i wr => ∃ (k : Nat) (l : List Int), k ≤ s.size ∧ g = s.size - k ∧ i = .int .i64 k ∧ l = escL ((sl s).take k) ∧ wr.ownsRow w.heap.size 5 1 v (n + l.length) (bl (lof n f ++ l)) ∧ Below w.heap.size w wr)
  case atStart => exact ⟨0, [], Nat.zero_le _, rfl, rfl, by simp [escL], by rw [List.append_nil]; exact hown1, hb1⟩
  case round =>
    obtain ⟨k, l, hk, rfl, rfl, hl, hown, hB⟩ := hrel
    clear hown1 hb1
    have hlen : l.length ≤ 2 * k := by rw [hl]; exact escK_len s k hk
    have HL : Hid (l = escL ((sl s).take k)) := hl
    clear hl
    by_cases hlt : k < s.size
    · have hkz : (k : Int) < (s.size : Int) := by omega
      have hub : (s[k].toNat : Int) ≤ 255 := by have := s[k].toNat_lt; omega
      have HS : Hid (escL ((sl s).take (k + 1)) = l ++ esc1 (s[k].toNat : Int)) := by
        show _ = _
        rw [sl_take s k hlt, escL_append, escL_one, HL.out]
      by_cases h0 : (s[k].toNat : Int) = 0
      · have hq : ((s[k].toNat : Int) == 0) = true := by simpa using h0
        have HE : Hid (esc1 (s[k].toNat : Int) = [0] ++ [255]) := by show _ = _; unfold esc1; rw [if_pos h0]; rfl
        go_wp2_with (first | (at_builtin; refine wpList_append_own _ rfl (.tmp 16) (.tmp 20) 22 rfl w.heap.size 5 i0 (.int .u8 0) 1 1 Try.underlying22 hi hz0 hz1 hz2 rfl (by decide) u5 _ _ rfl (hown.alloc _) ⟨wr.heap.size, 0, none⟩ 1 1 [.int .u8 0] rfl rfl (cellNew _ _ _) (bl_one [0]) (by unfold maxLen; omega) (by omega) (by have := hB.size; simp; omega) ?_; intro v2 w2 hown2 hgr2 _) | (at_builtin; refine wpList_append_own _ rfl (.tmp 26) (.tmp 27) 22 rfl w.heap.size 5 i0 (.int .u8 0) 1 1 Try.underlying22 hi hz0 hz1 hz2 rfl (by decide) v2 _ _ rfl (hown2.alloc _) ⟨w2.heap.size, 0, none⟩ 1 1 [.int .u8 255] rfl rfl (cellNew _ _ _) (bl_one [255]) (by unfold maxLen; omega) (by omega) (by have := hB.size; have := hgr2.size; simp at *; omega) ?_; intro v3 w3 hown3 hgr3 _))
        have hB2 : Below w.heap.size w w2 := (hB.alloc hB.size _).grown hgr2 (by have := hB.size; simp; omega) (fun k hk => (hown.lt k hk).1)
        have hB3 : Below w.heap.size w w3 := (hB2.alloc hB2.size _).grown hgr3 (by have := hB2.size; simp; omega) (fun k hk => (hown2.lt k hk).1)
        have hO3 : w3.ownsRow w.heap.size 5 1 v3 (n + (l ++ esc1 (s[k].toNat : Int)).length) (bl (lof n f ++ (l ++ esc1 (s[k].toNat : Int)))) := by
          rw [HE.out, ← List.append_assoc l, List.length_append, List.length_append, ← List.append_assoc, ← List.append_assoc, bl_append, bl_append]
          rw [show n + (l.length + [(0 : Int)].length + [(255 : Int)].length) = n + l.length + 1 + 1 by simp; omega]
          exact hown3
        clear hgr2 hgr3 hown hown2 hown3 hB
        go_wp2
        go_roundg (s.size - (k + 1))
        case measure => omega
        case rel => exact ⟨k + 1, _, by omega, rfl, by go_num, HS.out.symm, hO3, hB3⟩
      · have hq : ((s[k].toNat : Int) == 0) = false := by simpa using h0
        have HE : Hid (esc1 (s[k].toNat : Int) = [(s[k].toNat : Int)]) := by show _ = _; unfold esc1; rw [if_neg h0]
        go_wp2_with (at_builtin; go_must (refine wpList_append_own _ rfl (.tmp 16) (.tmp 20) 22 rfl w.heap.size 5 i0 (.int .u8 0) 1 1 Try.underlying22 hi hz0 hz1 hz2 rfl (by decide) u5 _ _ rfl (hown.alloc _) ⟨wr.heap.size, 0, none⟩ 1 1 [.int .u8 (s[k].toNat : Int)] rfl rfl (cellNew _ _ _) (bl_one [(s[k].toNat : Int)]) (by unfold maxLen; omega) (by omega) (by have := hB.size; simp; omega) ?_); intro v2 w2 hown2 hgr2 _)
        have hB2 : Below w.heap.size w w2 := (hB.alloc hB.size _).grown hgr2 (by have := hB.size; simp; omega) (fun k hk => (hown.lt k hk).1)
        have hO2 : w2.ownsRow w.heap.size 5 1 v2 (n + (l ++ esc1 (s[k].toNat : Int)).length) (bl (lof n f ++ (l ++ esc1 (s[k].toNat : Int)))) := by
          rw [HE.out, List.length_append, ← List.append_assoc, bl_append]
          exact hown2
        clear hgr2 hown hown2 hB
        go_wp2
        go_roundg (s.size - (k + 1))
        case measure => omega
        case rel => exact ⟨k + 1, _, by omega, rfl, by go_num, HS.out.symm, hO2, hB2⟩
    · obtain rfl : k = s.size := by omega
      go_wp2_with (at_builtin; go_must (refine wpList_append_own _ rfl (.tmp 29) (.tmp 30) 22 rfl w.heap.size 5 i0 (.int .u8 0) 1 1 Try.underlying22 hi hz0 hz1 hz2 rfl (by decide) u5 _ _ rfl (hown.alloc _) ⟨wr.heap.size, 0, none⟩ 2 2 [.int .u8 0, .int .u8 1] rfl rfl (cellsTwo _ _ _ _) (bl_one [0, 1]) (by unfold maxLen; omega) (by omega) (by have := hB.size; simp; omega) ?_); intro v2 w2 hown2 hgr2 _)
      have hB2 : Below w.heap.size w w2 := (hB.alloc hB.size _).grown hgr2 (by have := hB.size; simp; omega) (fun k hk => (hown.lt k hk).1)
      go_ret
      have hL := HL.out
      rw [sl_all] at hL
      have e1 : escN s = l.length + 2 := by rw [hL]; rfl
      have e2 : escT n f s = lof n f ++ (l ++ [0, 1]) := by rw [hL]; rfl
      have hown3 : w2.ownsRow w.heap.size 5 1 v2 (n + escN s) (bl (escT n f s)) := by
        rw [e1, e2, ← List.append_assoc, bl_append]
        exact hown2
      exact ⟨v2, rfl, hown3, hB2⟩

theorem putEsc_spec (b off n cap : Nat) (f : Nat → Int) (s : ByteArray) (w : World) (hv : View w (some ⟨b, off, none⟩) n cap f) (hn : n ≤ 17592186044416) (hs : s.size ≤ 17592186044416) :
    Calls Try.prog 46 #[.slice (some ⟨b, off, none⟩) n cap, .string s] w fun e w' => ∃ g c, e = .returned (.slice (some ⟨g, 0, none⟩) (n + escN s) c) ∧ w.heap.size ≤ g ∧ n + escN s ≤ c ∧ Row 5 w' g (n + escN s) (fun i => (escT n f s).getD i 0) ∧ Below w.heap.size w w' := by
  refine (putEsc_own b off n cap f s w hv hn hs).mono ?_
  rintro e w' ⟨v, rfl, hown, hB⟩
  obtain ⟨g, c, rfl, hg, hgc, hrow⟩ := row_of_own hown (by unfold escN; omega)
  exact ⟨g, c, rfl, hg, hgc, hrow, hB⟩
end Go.Proofs.Ytbcgonfihdpjnaq
