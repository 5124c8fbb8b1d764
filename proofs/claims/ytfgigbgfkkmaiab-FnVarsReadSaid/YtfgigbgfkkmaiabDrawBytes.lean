/-
  Drawn bytes: as many as asked, in memory of their own; nothing that was there turns but the cursor.
-/
import Derived.Test.YtfgigbgfkkmaiabDrawBut
namespace Go.Proofs.Ytfgigbgfkkmaiab
open Go.RowKit

set_option maxHeartbeats 2000000 in
theorem l1Bytes_any (g : Nat) (ao : Option Addr) (n cap : Nat) (f : Nat → Int) (m : Nat) (w : World) (hn : n ≤ 1048576) (hm : m ≤ 1048576) (hC : Cur w g ao n cap f) :
    Calls Try.prog 52 #[.pointer (some ⟨g, 0, none⟩), .int .i64 (m : Int)] w fun e w' => ∃ (b c : Nat) (l : List Int), e = .returned (.slice (some ⟨b, 0, none⟩) m c) ∧ l.length = m ∧ (∀ y ∈ l, 0 ≤ y ∧ y ≤ 255) ∧ w.heap.size ≤ b ∧ m ≤ c ∧ Row 5 w' b m (fun i => l.getD i 0) ∧ Cur w' g ao n cap f ∧ But g w w' := by
  obtain ⟨i0, hi, hz0, hz1, hz2⟩ := info_parts Try.info5
  have hown0 := World.ownsRow_lit (base := w.heap.size) (e := 5) (size := 1) w #[] 0 (Nat.le_refl _) (Nat.zero_le _) rfl
  have hb0 : Below w.heap.size w (w.alloc (.cells #[] 5)) := (Below.refl _ _).alloc (Nat.le_refl _) _
  have hgl := hC.lt
  have HC : Hid (∀ a, ao = some a → 0 < n → a.block < w.heap.size) := hC.code
  go_enter Try.func52, Try.ntmps52
  go_wp2
  go_loopg [5, 6] m (fun q v i wr => ∃ (k : Nat) (l : List Int), k ≤ m ∧ q = m - k ∧ i = .int .i64 k ∧ l.length = k ∧ (∀ y ∈ l, 0 ≤ y ∧ y ≤ 255) ∧ wr.ownsRow w.heap.size 5 1 v k (bl l) ∧ v ≠ .slice none 0 0 ∧ Cur wr g ao n cap f ∧ But g w wr)
  case atStart => exact ⟨0, [], Nat.zero_le _, rfl, rfl, rfl, (by intro y hy; cases hy), hown0, (by intro h; cases h), hC.below hb0, But.ofBelow hb0⟩
  case round =>
    obtain ⟨k, l, hk, rfl, rfl, hl, hby, hown, hv, hCr, hB⟩ := hrel
    clear hown0 hb0
    have HV : Hid (u5 ≠ .slice none 0 0) := hv
    have HY : Hid (∀ y ∈ l, 0 ≤ y ∧ y ≤ 255) := hby
    have HL : Hid (l.length = k) := hl
    clear hv hby hl
    by_cases hlt : k < m
    · have hkz : (k : Int) < (m : Int) := by omega
      go_wp2_with fail
      refine (l1Byte_any g ao n cap f wr hn hCr).mono ?_
      rintro e w1 ⟨x, rfl, hx0, hx1, hC1, hO1⟩
      have hown1 := hown.kept hO1.grown (Or.inr (fun e => by have := (hown.lt g e).1; omega))
      have hs1 : w.heap.size ≤ w1.heap.size := by rw [hO1.size]; exact hB.size
      go_wp2_with (at_builtin; go_must (refine wpList_append_own _ rfl (.tmp 13) (.tmp 17) 22 rfl w.heap.size 5 i0 (.int .u8 0) 1 1 Try.underlying22 hi hz0 hz1 hz2 rfl (by decide) u5 _ _ rfl (hown1.alloc _) ⟨w1.heap.size, 0, none⟩ 1 1 [.int .u8 x] rfl rfl (cellNew _ _ _) (bl_one [x]) (by unfold maxLen; omega) (by omega) (by simp; omega) ?_); intro v2 w2 hown2 hgr2 hnil)
      have hb2 : Below w1.heap.size w1 (w1.alloc (.cells #[.int .u8 x] 5)) := (Below.refl _ _).alloc (Nat.le_refl _) _
      have hB1 : But g w w1 := hB.trans (But.ofOnly hO1)
      have hB2 : But g w w2 := by
        refine ⟨hgr2.os.trans hB1.os, hgr2.tape.trans hB1.tape, hgr2.output.trans hB1.output, Nat.le_trans hs1 (Nat.le_trans (by simp) hgr2.size), fun j hj hg => ?_⟩
        rw [hgr2.block j (by simp; omega) (fun e => by have := (hown.lt j e.symm).1; omega), Below.heap_alloc _ _ _ (by omega)]
        exact hB1.block j hj hg
      have hC2 : Cur w2 g ao n cap f := (hC1.below hb2).grown hgr2 (fun e => by have := (hown.lt g e).1; omega) (fun a ha h0 e => by have := (hown.lt _ e).1; have := HC.out a ha h0; omega)
      have hO2 : w2.ownsRow w.heap.size 5 1 v2 (k + 1) (bl (l ++ [x])) := by rw [bl_append]; exact hown2
      have HV2 : Hid (v2 ≠ .slice none 0 0) := fun e => HV.out (hnil.1 e).1
      have HY2 : Hid (∀ y ∈ l ++ [x], 0 ≤ y ∧ y ≤ 255) := by
        intro y hy
        rcases List.mem_append.1 hy with hy | hy
        · exact HY.out y hy
        · simp at hy; omega
      have HL2 : Hid ((l ++ [x]).length = k + 1) := by show (l ++ [x]).length = k + 1; rw [List.length_append, HL.out]; rfl
      clear hgr2 hnil hown hown1 hown2 hB hB1 hC1 hCr hO1 hb2
      go_wp2
      go_roundg (m - (k + 1))
      case measure => omega
      case rel => exact ⟨k + 1, l ++ [x], by omega, rfl, by go_num, HL2.out, HY2.out, hO2, HV2.out, hC2, hB2⟩
    · obtain rfl : k = m := by omega
      obtain ⟨b, c, hv5, hb, hc, hrow⟩ := row_of_own' hown HV.out
      clear hown HV
      rw [hv5]
      clear hv5
      go_wp2
      go_ret
      exact ⟨b, c, l, rfl, HL.out, HY.out, hb, hc, hrow, hCr, hB⟩
end Go.Proofs.Ytfgigbgfkkmaiab
