/-
  Together: FlipOwn, PartPut
-/
import Derived.Test.YtkakkjnbhklfpaaGreatDoorPackR2
import Derived.Test.YtkakkjnbhklfpaaGreatDoorPackR21
import Derived.Test.YtkakkjnbhklfpaaGreatDoorPackR12
/-
  The model's Flip once more: what it answers is a row of the call's own.
-/
namespace Go.Proofs.YtkakkjnbhklfpaaGreatDoor
open Go.RowKit
set_option maxRecDepth 4000

/-- k of the n bytes are turned, as far as they are to be. -/
structure FlippedC (t : TypeId) (w wr : World) (g n c : Nat) (f : Nat → Int) (p : Int) (k : Nat) : Prop where
  row : RowC t wr g n c (fun i => if i < k then flipF f p i else f i)
  below : Below w.heap.size w wr

theorem flippedC_turn {t : TypeId} {w wr : World} {g n c : Nat} {f : Nat → Int} {p : Int} {k : Nat} (h : FlippedC t w wr g n c f p k) (hg : w.heap.size ≤ g) (hp : p ≤ k) : FlippedC t w (wr.setCell ⟨g, k, none⟩ (.int .u8 (255 - f k))) g n c f p (k + 1) := by
  refine ⟨(h.row.set k _).congr (fun i _ => ?_), h.below.setCell hg _⟩
  by_cases e : i = k
  · subst e; simp [flipF, hp]
  · rw [if_neg e]
    by_cases hlt : i < k
    · rw [if_pos hlt, if_pos (by omega)]
    · rw [if_neg hlt, if_neg (by omega)]
theorem flippedC_keep {t : TypeId} {w wr : World} {g n c : Nat} {f : Nat → Int} {p : Int} {k : Nat} (h : FlippedC t w wr g n c f p k) (hp : ¬ p ≤ k) : FlippedC t w wr g n c f p (k + 1) := by
  refine ⟨h.row.congr (fun i _ => ?_), h.below⟩
  by_cases e : i = k
  · subst e; simp [flipF, hp]
  · by_cases hlt : i < k
    · rw [if_pos hlt, if_pos (by omega)]
    · rw [if_neg hlt, if_neg (by omega)]

set_option maxHeartbeats 1000000 in
theorem flip_own (b off n cap : Nat) (f : Nat → Int) (p : Int) (w : World) (hv : View w (some ⟨b, off, none⟩) n cap f) (hn : n ≤ 70368744177664) :
    Calls Tryz.prog 119 #[.slice (some ⟨b, off, none⟩) n cap, .int .i64 p] w fun e w' => ∃ g c, e = .returned (.slice (some ⟨g, 0, none⟩) n c) ∧ w.heap.size ≤ g ∧ RowC 5 w' g n c (flipF f p) ∧ Below w.heap.size w w' := by
  obtain ⟨i0, hi, hz0, hz1, hz2⟩ := info_parts Tryz.info5
  have hown0 := World.ownsRow_lit (base := w.heap.size) (e := 5) (size := 1) w #[] 0 (Nat.le_refl _) (Nat.zero_le _) rfl
  have hb0 : Below w.heap.size w (w.alloc (.cells #[] 5)) := (Below.refl _ _).alloc (Nat.le_refl _) _
  have hcl := cells_of_view (hv.below hb0)
  have hsz : (w.alloc (.cells #[] 5)).heap.size = w.heap.size + 1 := by simp
  have hby := hv.byte
  go_enter Tryz.func119, Tryz.ntmps119
  go_wp2_with (at_builtin; go_must (refine wpList_append_own _ rfl (.tmp 7) (.tmp 8) 22 rfl w.heap.size 5 i0 (.int .u8 0) 1 1 Tryz.underlying22 hi hz0 hz1 hz2 rfl (by decide) (.slice (some ⟨w.heap.size, 0, none⟩) 0 0) 0 [] rfl hown0 ⟨b, off, none⟩ n cap (bl (lof n f)) rfl (by rw [bl_len, lof_len]; omega) hcl (bl_one _) (by unfold maxLen; omega) (by omega) (by rw [hsz]; omega) ?_); intro v1 w1 hown1 hgr1 hnil; simp only [Nat.zero_add, List.nil_append] at hown1; obtain ⟨g, c, rfl, hg, hrow⟩ := RowC.ofOwn hown1 (by intro h; have := (hnil.1 h).1; cases this))
  have hb1 : Below w.heap.size w w1 := hb0.grown hgr1 (by simp) (fun k hk => by simp only [Value.ownBlock, Option.some.injEq] at hk; omega)
  have hF0 : FlippedC 5 w w1 g n c f p 0 := ⟨hrow.congr (fun i hi => by rw [lof_get n f i hi]; simp), hb1⟩
  clear hown0 hcl hsz hgr1 hb0 hv hown1 hnil hrow hb1
  go_loopg [6] n (fun q i wr => ∃ k : Nat, k ≤ n ∧ q = n - k ∧ i = .int .i64 k ∧ FlippedC 5 w wr g n c f p k)
  case atStart => exact ⟨0, Nat.zero_le _, rfl, rfl, hF0⟩
  case round =>
    obtain ⟨k, hk, rfl, rfl, hF⟩ := hrel
    clear hF0
    by_cases hlt : k < n
    · have hkz : (k : Int) < (n : Int) := by omega
      by_cases hp : p ≤ (k : Int)
      · have hS : Hid (FlippedC 5 w (wr.setCell ⟨g, k, none⟩ (.int .u8 (255 - f k))) g n c f p (k + 1)) := flippedC_turn hF hg hp
        have hc : wr.cell? ⟨g, k, none⟩ = some (.int .u8 (f k)) := by rw [hF.row.row.cell hlt, if_neg (Nat.lt_irrefl _)]
        have hf := hF.row.row.frozen k
        have hx : bits .xor .u8 IntKind.u8.max (f k) = 255 - f k := u8_not _ (hby k hlt).1 (hby k hlt).2
        clear hF hby
        go_wp2
        go_roundg (n - (k + 1))
        case measure => omega
        case rel => exact ⟨k + 1, by omega, rfl, by go_num, hS.out⟩
      · have hS : Hid (FlippedC 5 w wr g n c f p (k + 1)) := flippedC_keep hF hp
        clear hF hby
        go_wp2
        go_roundg (n - (k + 1))
        case measure => omega
        case rel => exact ⟨k + 1, by omega, rfl, by go_num, hS.out⟩
    · obtain rfl : k = n := by omega
      have hR : Hid (RowC 5 wr g k c (flipF f p)) := hF.row.congr (fun i hi => by rw [if_pos hi])
      have hB := hF.below
      clear hF hby
      go_wp2
      go_ret
      exact ⟨g, c, rfl, hg, hR.out, hB⟩
end Go.Proofs.YtkakkjnbhklfpaaGreatDoor

/-
  The model's PutPart: what was there, and behind it the bytes of what fits, in memory of its own.
-/
namespace Go.Proofs.YtkakkjnbhklfpaaGreatDoor
open Go.RowKit
set_option maxRecDepth 4000

theorem PBox.grown {W W' : World} {B : Nat} {c t : Int} {nul d : Bool} {row : Option Nat} (h : PBox W B c t nul d) (hg : W.grownBy W' row) (hne : row ≠ some B) : PBox W' B c t nul d := h.of_block (hg.block B h.lt hne.symm)

set_option maxHeartbeats 4000000 in
theorem putPart_own (b off n cap : Nat) (f : Nat → Int) (c t : Int) (nul d : Bool) (k x : Int) (s : ByteArray) (w : World) (hv : View w (some ⟨b, off, none⟩) n cap f) (hn : n ≤ 10000000) (hx : -9223372036854775808 ≤ x ∧ x ≤ 9223372036854775807) (hs : s.size ≤ 10000000) :
    Calls Tryz.prog 117 #[.slice (some ⟨b, off, none⟩) n cap, .agg #[.int .i64 c, .int .i64 t, .bool nul, .bool d], .agg #[.int .i64 k, .int .i64 x, .string s]] w fun e w' => ∃ v, e = .returned v ∧ v ≠ .slice none 0 0 ∧ w'.ownsRow w.heap.size 5 1 v (n + (putPL c t nul d k x s).length) (bl (lof n f ++ putPL c t nul d k x s)) ∧ Below w.heap.size w w' := by
  obtain ⟨i0, hi, hz0, hz1, hz2⟩ := info_parts Tryz.info5
  have hP := (PBox.new w c t nul d).below ((Below.refl _ _).alloc (Nat.le_refl _) (.cells #[.int .i64 k, .int .i64 x, .string s] 58))
  have hV := Box.new (w.alloc (.cells #[.int .i64 c, .int .i64 t, .bool nul, .bool d] 50)) k x s
  rw [show (w.alloc (.cells #[.int .i64 c, .int .i64 t, .bool nul, .bool d] 50)).heap.size = w.heap.size + 1 by simp] at hV
  have hb0 : Below w.heap.size w ((w.alloc (.cells #[.int .i64 c, .int .i64 t, .bool nul, .bool d] 50)).alloc (.cells #[.int .i64 k, .int .i64 x, .string s] 58)) := ((Below.refl _ _).alloc (Nat.le_refl _) _).alloc (by simp) _
  have hown0 := own_nil ((w.alloc (.cells #[.int .i64 c, .int .i64 t, .bool nul, .bool d] 50)).alloc (.cells #[.int .i64 k, .int .i64 x, .string s] 58)) (w.heap.size + 2) (w.heap.size + 2) (by simp) (Nat.le_refl _)
  have hPA := hP.below ((Below.refl _ _).alloc (Nat.le_refl _) (.cells #[] 5))
  have hVA := hV.below ((Below.refl _ _).alloc (Nat.le_refl _) (.cells #[] 5))
  have hbA := hb0.alloc hb0.size (.cells #[] 5)
  have hcl := cells_of_view (hv.below hbA)
  have HYF : Hid (∀ y ∈ lof n f, 0 ≤ y ∧ y ≤ 255) := lof_byte hv.byte
  clear hP hV hb0 hv
  cases hok : partOk c t with
  | false =>
    have e : putPL c t nul d k x s = [] := by unfold putPL; rw [hok]; rfl
    rw [e, List.append_nil, List.length_nil, Nat.add_zero]
    clear e
    go_enter Tryz.func117, Tryz.ntmps117
    go_wp2_with (at_builtin; refine wpList_append_own _ rfl (.tmp 8) (.tmp 9) 22 rfl (w.heap.size + 2) 5 i0 (.int .u8 0) 1 1 Tryz.underlying22 hi hz0 hz1 hz2 rfl (by decide) (.slice (some ⟨w.heap.size + 2, 0, none⟩) 0 0) 0 [] rfl hown0 ⟨b, off, none⟩ n cap (bl (lof n f)) rfl (by rw [bl_len, lof_len]; omega) hcl (bl_one _) (by unfold maxLen; omega) (by omega) (by simp) ?_; intro v1 w1 hown1 hgr1 hnil1; simp only [Nat.zero_add, List.nil_append] at hown1; have hP1 := hPA.grown hgr1 (by simp only [Value.ownBlock, ne_eq, Option.some.injEq]; omega); have hV1 := hVA.grown hgr1 (by simp only [Value.ownBlock, ne_eq, Option.some.injEq]; omega); have hb1 : Below w.heap.size w w1 := hbA.grown hgr1 hbA.size (fun j hj => by simp only [Value.ownBlock, Option.some.injEq] at hj; omega); have hs1 : w.heap.size + 2 ≤ w1.heap.size := (by have := hgr1.size; simp at this; omega); have hne1 : Hid (v1 ≠ .slice none 0 0) := (fun h => by have := (hnil1.1 h).1; cases this); clear hown0 hcl hgr1 hnil1 hbA hPA hVA; obtain ⟨p0, p1, p2, p3⟩ := hP1.cells)
    clear p0 p1 p2 p3
    refine (specPartOk_any c t nul d w1).mono ?_
    rw [hok]
    rintro e w2 ⟨rfl, hb2⟩
    have hown2 := own_below hown1 hb2
    have hP2 := hP1.below hb2
    have hV2 := hV1.below hb2
    have hs2 : w.heap.size + 2 ≤ w2.heap.size := by have := hb2.size; omega
    have hB2 := hb1.trans (hb2.mono hb1.size)
    clear hown1 hP1 hV1 hb1 hb2
    have HO : Hid _ := own_down hown2 (by omega : w.heap.size ≤ w.heap.size + 2)
    clear hown2 hP2 hV2
    go_wp2
    go_ret
    exact ⟨v1, rfl, hne1.out, HO.out, hB2⟩
  | true =>
    cases hfit : fitsP t nul k x s with
    | false =>
      have e : putPL c t nul d k x s = [] := by unfold putPL; rw [hok, hfit]; rfl
      rw [e, List.append_nil, List.length_nil, Nat.add_zero]
      clear e
      go_enter Tryz.func117, Tryz.ntmps117
      go_wp2_with (at_builtin; refine wpList_append_own _ rfl (.tmp 8) (.tmp 9) 22 rfl (w.heap.size + 2) 5 i0 (.int .u8 0) 1 1 Tryz.underlying22 hi hz0 hz1 hz2 rfl (by decide) (.slice (some ⟨w.heap.size + 2, 0, none⟩) 0 0) 0 [] rfl hown0 ⟨b, off, none⟩ n cap (bl (lof n f)) rfl (by rw [bl_len, lof_len]; omega) hcl (bl_one _) (by unfold maxLen; omega) (by omega) (by simp) ?_; intro v1 w1 hown1 hgr1 hnil1; simp only [Nat.zero_add, List.nil_append] at hown1; have hP1 := hPA.grown hgr1 (by simp only [Value.ownBlock, ne_eq, Option.some.injEq]; omega); have hV1 := hVA.grown hgr1 (by simp only [Value.ownBlock, ne_eq, Option.some.injEq]; omega); have hb1 : Below w.heap.size w w1 := hbA.grown hgr1 hbA.size (fun j hj => by simp only [Value.ownBlock, Option.some.injEq] at hj; omega); have hs1 : w.heap.size + 2 ≤ w1.heap.size := (by have := hgr1.size; simp at this; omega); have hne1 : Hid (v1 ≠ .slice none 0 0) := (fun h => by have := (hnil1.1 h).1; cases this); clear hown0 hcl hgr1 hnil1 hbA hPA hVA; obtain ⟨p0, p1, p2, p3⟩ := hP1.cells)
      clear p0 p1 p2 p3
      refine (specPartOk_any c t nul d w1).mono ?_
      rw [hok]
      rintro e w2 ⟨rfl, hb2⟩
      have hown2 := own_below hown1 hb2
      have hP2 := hP1.below hb2
      have hV2 := hV1.below hb2
      have hs2 : w.heap.size + 2 ≤ w2.heap.size := by have := hb2.size; omega
      have hB2 := hb1.trans (hb2.mono hb1.size)
      clear hown1 hP1 hV1 hb1 hb2
      obtain ⟨p0, p1, p2, p3⟩ := hP2.cells
      obtain ⟨x0, x1, x2⟩ := hV2.cells
      go_wp2_with fail
      clear p0 p1 p2 p3 x0 x1 x2
      refine (specFits_any c t nul d k x s w2 (by omega)).mono ?_
      rw [hfit]
      rintro e w3 ⟨rfl, hb3⟩
      have hown3 := own_below hown2 hb3
      have hP3 := hP2.below hb3
      have hV3 := hV2.below hb3
      have hs3 : w.heap.size + 2 ≤ w3.heap.size := by have := hb3.size; omega
      have hB3 := hB2.trans (hb3.mono hB2.size)
      clear hown2 hP2 hV2 hb3 hB2
      have HO : Hid _ := own_down hown3 (by omega : w.heap.size ≤ w.heap.size + 2)
      clear hown3 hP3 hV3
      go_wp2
      go_ret
      exact ⟨v1, rfl, hne1.out, HO.out, hB3⟩
    | true =>
      have HPL : Hid (putPL c t nul d k x s = turnL d (partL nul k x s)) := by show _ = _; unfold putPL; rw [hok, hfit]; rfl
      have hs30 : s.size ≤ 30 := by unfold fitsP at hfit; simp only [Bool.and_eq_true] at hfit; exact okF_few hfit.1
      have hpl := partL_len nul k x s
      have HYP : Hid (∀ y ∈ lof n f ++ partL nul k x s, 0 ≤ y ∧ y ≤ 255) := List.forall_mem_append.2 ⟨HYF.out, partL_byte nul k x s⟩
      by_cases k0 : k = 0
      · have HP : Hid (partL nul k x s = [0]) := by show _ = _; unfold partL; rw [if_pos k0]
        subst k0
        cases d with
        | false =>
          go_enter Tryz.func117, Tryz.ntmps117
          go_wp2_with (at_builtin; refine wpList_append_own _ rfl (.tmp 8) (.tmp 9) 22 rfl (w.heap.size + 2) 5 i0 (.int .u8 0) 1 1 Tryz.underlying22 hi hz0 hz1 hz2 rfl (by decide) (.slice (some ⟨w.heap.size + 2, 0, none⟩) 0 0) 0 [] rfl hown0 ⟨b, off, none⟩ n cap (bl (lof n f)) rfl (by rw [bl_len, lof_len]; omega) hcl (bl_one _) (by unfold maxLen; omega) (by omega) (by simp) ?_; intro v1 w1 hown1 hgr1 hnil1; simp only [Nat.zero_add, List.nil_append] at hown1; have hP1 := hPA.grown hgr1 (by simp only [Value.ownBlock, ne_eq, Option.some.injEq]; omega); have hV1 := hVA.grown hgr1 (by simp only [Value.ownBlock, ne_eq, Option.some.injEq]; omega); have hb1 : Below w.heap.size w w1 := hbA.grown hgr1 hbA.size (fun j hj => by simp only [Value.ownBlock, Option.some.injEq] at hj; omega); have hs1 : w.heap.size + 2 ≤ w1.heap.size := (by have := hgr1.size; simp at this; omega); have hne1 : Hid (v1 ≠ .slice none 0 0) := (fun h => by have := (hnil1.1 h).1; cases this); clear hown0 hcl hgr1 hnil1 hbA hPA hVA; obtain ⟨p0, p1, p2, p3⟩ := hP1.cells)
          clear p0 p1 p2 p3
          refine (specPartOk_any c t nul false w1).mono ?_
          rw [hok]
          rintro e w2 ⟨rfl, hb2⟩
          have hown2 := own_below hown1 hb2
          have hP2 := hP1.below hb2
          have hV2 := hV1.below hb2
          have hs2 : w.heap.size + 2 ≤ w2.heap.size := by have := hb2.size; omega
          have hB2 := hb1.trans (hb2.mono hb1.size)
          clear hown1 hP1 hV1 hb1 hb2
          obtain ⟨p0, p1, p2, p3⟩ := hP2.cells
          obtain ⟨x0, x1, x2⟩ := hV2.cells
          go_wp2_with fail
          clear p0 p1 p2 p3 x0 x1 x2
          refine (specFits_any c t nul false 0 x s w2 (by omega)).mono ?_
          rw [hfit]
          rintro e w3 ⟨rfl, hb3⟩
          have hown3 := own_below hown2 hb3
          have hP3 := hP2.below hb3
          have hV3 := hV2.below hb3
          have hs3 : w.heap.size + 2 ≤ w3.heap.size := by have := hb3.size; omega
          have hB3 := hB2.trans (hb3.mono hB2.size)
          clear hown2 hP2 hV2 hb3 hB2
          obtain ⟨p0, p1, p2, p3⟩ := hP3.cells
          obtain ⟨x0, x1, x2⟩ := hV3.cells
          go_wp2_with (at_builtin; refine wpList_append_own _ rfl (.tmp 24) (.tmp 25) 22 rfl (w.heap.size + 2) 5 i0 (.int .u8 0) 1 1 Tryz.underlying22 hi hz0 hz1 hz2 rfl (by decide) v1 _ _ rfl (hown3.alloc _) ⟨w3.heap.size, 0, none⟩ 1 1 [.int .u8 0] rfl rfl (cellNew _ _ _) (bl_one [0]) (by unfold maxLen; omega) (by omega) (by simp; omega) ?_; intro v2 w4 hown4 hgr4 hnil4; have hP4 := (hP3.below ((Below.refl _ _).alloc (Nat.le_refl _) _)).grown hgr4 (fun e => by have := (hown3.lt _ e).1; omega); have hV4 := (hV3.below ((Below.refl _ _).alloc (Nat.le_refl _) _)).grown hgr4 (fun e => by have := (hown3.lt _ e).1; omega); have hB4 : Below w.heap.size w w4 := (hB3.alloc hB3.size _).grown hgr4 (by have := hB3.size; simp; omega) (fun j hj => by have := (hown3.lt j hj).1; omega); have hs4 : w.heap.size + 2 ≤ w4.heap.size := (by have := hgr4.size; simp at this; omega); have hne4 : Hid (v2 ≠ .slice none 0 0) := (fun h => hne1.out ((hnil4.1 h).1)); replace hown4 : w4.ownsRow (w.heap.size + 2) 5 1 v2 (n + 1) (bl (lof n f ++ [0])) := (by rw [bl_append]; exact hown4); clear hgr4 hnil4 hown3 hP3 hV3 hB3 p0 p1 p2 p3 x0 x1 x2; obtain ⟨p0, p1, p2, p3⟩ := hP4.cells; obtain ⟨x0, x1, x2⟩ := hV4.cells)
          replace hown4 : w4.ownsRow (w.heap.size + 2) 5 1 v2 (n + (partL nul 0 x s).length) (bl (lof n f ++ partL nul 0 x s)) := by rw [HP.out]; exact hown4
          have HO : Hid _ := own_down hown4 (by omega : w.heap.size ≤ w.heap.size + 2)
          go_wp2
          go_ret
          refine ⟨v2, rfl, hne4.out, ?_, hB4⟩
          rw [HPL.out]
          exact HO.out
        | true =>
          go_enter Tryz.func117, Tryz.ntmps117
          go_wp2_with (at_builtin; refine wpList_append_own _ rfl (.tmp 8) (.tmp 9) 22 rfl (w.heap.size + 2) 5 i0 (.int .u8 0) 1 1 Tryz.underlying22 hi hz0 hz1 hz2 rfl (by decide) (.slice (some ⟨w.heap.size + 2, 0, none⟩) 0 0) 0 [] rfl hown0 ⟨b, off, none⟩ n cap (bl (lof n f)) rfl (by rw [bl_len, lof_len]; omega) hcl (bl_one _) (by unfold maxLen; omega) (by omega) (by simp) ?_; intro v1 w1 hown1 hgr1 hnil1; simp only [Nat.zero_add, List.nil_append] at hown1; have hP1 := hPA.grown hgr1 (by simp only [Value.ownBlock, ne_eq, Option.some.injEq]; omega); have hV1 := hVA.grown hgr1 (by simp only [Value.ownBlock, ne_eq, Option.some.injEq]; omega); have hb1 : Below w.heap.size w w1 := hbA.grown hgr1 hbA.size (fun j hj => by simp only [Value.ownBlock, Option.some.injEq] at hj; omega); have hs1 : w.heap.size + 2 ≤ w1.heap.size := (by have := hgr1.size; simp at this; omega); have hne1 : Hid (v1 ≠ .slice none 0 0) := (fun h => by have := (hnil1.1 h).1; cases this); clear hown0 hcl hgr1 hnil1 hbA hPA hVA; obtain ⟨p0, p1, p2, p3⟩ := hP1.cells)
          clear p0 p1 p2 p3
          refine (specPartOk_any c t nul true w1).mono ?_
          rw [hok]
          rintro e w2 ⟨rfl, hb2⟩
          have hown2 := own_below hown1 hb2
          have hP2 := hP1.below hb2
          have hV2 := hV1.below hb2
          have hs2 : w.heap.size + 2 ≤ w2.heap.size := by have := hb2.size; omega
          have hB2 := hb1.trans (hb2.mono hb1.size)
          clear hown1 hP1 hV1 hb1 hb2
          obtain ⟨p0, p1, p2, p3⟩ := hP2.cells
          obtain ⟨x0, x1, x2⟩ := hV2.cells
          go_wp2_with fail
          clear p0 p1 p2 p3 x0 x1 x2
          refine (specFits_any c t nul true 0 x s w2 (by omega)).mono ?_
          rw [hfit]
          rintro e w3 ⟨rfl, hb3⟩
          have hown3 := own_below hown2 hb3
          have hP3 := hP2.below hb3
          have hV3 := hV2.below hb3
          have hs3 : w.heap.size + 2 ≤ w3.heap.size := by have := hb3.size; omega
          have hB3 := hB2.trans (hb3.mono hB2.size)
          clear hown2 hP2 hV2 hb3 hB2
          obtain ⟨p0, p1, p2, p3⟩ := hP3.cells
          obtain ⟨x0, x1, x2⟩ := hV3.cells
          go_wp2_with (at_builtin; refine wpList_append_own _ rfl (.tmp 24) (.tmp 25) 22 rfl (w.heap.size + 2) 5 i0 (.int .u8 0) 1 1 Tryz.underlying22 hi hz0 hz1 hz2 rfl (by decide) v1 _ _ rfl (hown3.alloc _) ⟨w3.heap.size, 0, none⟩ 1 1 [.int .u8 0] rfl rfl (cellNew _ _ _) (bl_one [0]) (by unfold maxLen; omega) (by omega) (by simp; omega) ?_; intro v2 w4 hown4 hgr4 hnil4; have hP4 := (hP3.below ((Below.refl _ _).alloc (Nat.le_refl _) _)).grown hgr4 (fun e => by have := (hown3.lt _ e).1; omega); have hV4 := (hV3.below ((Below.refl _ _).alloc (Nat.le_refl _) _)).grown hgr4 (fun e => by have := (hown3.lt _ e).1; omega); have hB4 : Below w.heap.size w w4 := (hB3.alloc hB3.size _).grown hgr4 (by have := hB3.size; simp; omega) (fun j hj => by have := (hown3.lt j hj).1; omega); have hs4 : w.heap.size + 2 ≤ w4.heap.size := (by have := hgr4.size; simp at this; omega); have hne4 : Hid (v2 ≠ .slice none 0 0) := (fun h => hne1.out ((hnil4.1 h).1)); replace hown4 : w4.ownsRow (w.heap.size + 2) 5 1 v2 (n + 1) (bl (lof n f ++ [0])) := (by rw [bl_append]; exact hown4); clear hgr4 hnil4 hown3 hP3 hV3 hB3 p0 p1 p2 p3 x0 x1 x2; obtain ⟨p0, p1, p2, p3⟩ := hP4.cells; obtain ⟨x0, x1, x2⟩ := hV4.cells)
          replace hown4 : w4.ownsRow (w.heap.size + 2) 5 1 v2 (n + (partL nul 0 x s).length) (bl (lof n f ++ partL nul 0 x s)) := by rw [HP.out]; exact hown4
          go_wp2_with fail
          clear p0 p1 p2 p3
          obtain ⟨g9, c9, rfl, hg9, hrow9⟩ := RowC.ofOwn hown4 hne4.out
          have hrv9 := hrow9.row.view (cap := c9) (by obtain ⟨_, _, _, h3, _, _⟩ := hrow9; exact h3) (fun i hi => HYP.out _ (getD_in (by rw [List.length_append, lof_len]; exact hi)))
          refine (flip_own g9 0 (n + (partL nul 0 x s).length) c9 _ (n : Int) w4 hrv9 (by omega)).mono ?_
          rintro e wz ⟨gz, cz, rfl, hgz, hrz, hbz⟩
          have HO : Hid _ := hrz.own (base := w.heap.size) (by have := hB4.size; omega)
          have HB : Hid (Below w.heap.size w wz) := hB4.trans (hbz.mono hB4.size)
          clear hrz hbz hrv9 hrow9
          go_wp2
          go_ret
          refine ⟨_, rfl, (fun h => by cases h), ?_, HB.out⟩
          have e2 := turn_list n f (partL nul 0 x s)
          have h := HO.out
          rw [e2] at h
          rw [HPL.out]
          have e3 : turnL true (partL nul 0 x s) = (partL nul 0 x s).map (fun y => 255 - y) := rfl
          rw [e3, List.length_map]
          exact h
      · have q0 : (k == 0) = false := by simpa using k0
        cases nul with
        | true =>
          have HP : Hid (partL true k x s = 1 :: valL k x s) := by show _ = _; unfold partL; rw [if_neg k0]; rfl
          have HYB : Hid (∀ y ∈ lof n f ++ [1], 0 ≤ y ∧ y ≤ 255) := List.forall_mem_append.2 ⟨HYF.out, by intro y hy; simp at hy; omega⟩
          clear k0
          cases d with
          | false =>
            go_enter Tryz.func117, Tryz.ntmps117
            go_wp2_with (at_builtin; refine wpList_append_own _ rfl (.tmp 8) (.tmp 9) 22 rfl (w.heap.size + 2) 5 i0 (.int .u8 0) 1 1 Tryz.underlying22 hi hz0 hz1 hz2 rfl (by decide) (.slice (some ⟨w.heap.size + 2, 0, none⟩) 0 0) 0 [] rfl hown0 ⟨b, off, none⟩ n cap (bl (lof n f)) rfl (by rw [bl_len, lof_len]; omega) hcl (bl_one _) (by unfold maxLen; omega) (by omega) (by simp) ?_; intro v1 w1 hown1 hgr1 hnil1; simp only [Nat.zero_add, List.nil_append] at hown1; have hP1 := hPA.grown hgr1 (by simp only [Value.ownBlock, ne_eq, Option.some.injEq]; omega); have hV1 := hVA.grown hgr1 (by simp only [Value.ownBlock, ne_eq, Option.some.injEq]; omega); have hb1 : Below w.heap.size w w1 := hbA.grown hgr1 hbA.size (fun j hj => by simp only [Value.ownBlock, Option.some.injEq] at hj; omega); have hs1 : w.heap.size + 2 ≤ w1.heap.size := (by have := hgr1.size; simp at this; omega); have hne1 : Hid (v1 ≠ .slice none 0 0) := (fun h => by have := (hnil1.1 h).1; cases this); clear hown0 hcl hgr1 hnil1 hbA hPA hVA; obtain ⟨p0, p1, p2, p3⟩ := hP1.cells)
            clear p0 p1 p2 p3
            refine (specPartOk_any c t true false w1).mono ?_
            rw [hok]
            rintro e w2 ⟨rfl, hb2⟩
            have hown2 := own_below hown1 hb2
            have hP2 := hP1.below hb2
            have hV2 := hV1.below hb2
            have hs2 : w.heap.size + 2 ≤ w2.heap.size := by have := hb2.size; omega
            have hB2 := hb1.trans (hb2.mono hb1.size)
            clear hown1 hP1 hV1 hb1 hb2
            obtain ⟨p0, p1, p2, p3⟩ := hP2.cells
            obtain ⟨x0, x1, x2⟩ := hV2.cells
            go_wp2_with fail
            clear p0 p1 p2 p3 x0 x1 x2
            refine (specFits_any c t true false k x s w2 (by omega)).mono ?_
            rw [hfit]
            rintro e w3 ⟨rfl, hb3⟩
            have hown3 := own_below hown2 hb3
            have hP3 := hP2.below hb3
            have hV3 := hV2.below hb3
            have hs3 : w.heap.size + 2 ≤ w3.heap.size := by have := hb3.size; omega
            have hB3 := hB2.trans (hb3.mono hB2.size)
            clear hown2 hP2 hV2 hb3 hB2
            obtain ⟨p0, p1, p2, p3⟩ := hP3.cells
            obtain ⟨x0, x1, x2⟩ := hV3.cells
            go_wp2_with (at_builtin; refine wpList_append_own _ rfl (.tmp 29) (.tmp 30) 22 rfl (w.heap.size + 2) 5 i0 (.int .u8 0) 1 1 Tryz.underlying22 hi hz0 hz1 hz2 rfl (by decide) v1 _ _ rfl (hown3.alloc _) ⟨w3.heap.size, 0, none⟩ 1 1 [.int .u8 1] rfl rfl (cellNew _ _ _) (bl_one [1]) (by unfold maxLen; omega) (by omega) (by simp; omega) ?_; intro v2 w4 hown4 hgr4 hnil4; have hP4 := (hP3.below ((Below.refl _ _).alloc (Nat.le_refl _) _)).grown hgr4 (fun e => by have := (hown3.lt _ e).1; omega); have hV4 := (hV3.below ((Below.refl _ _).alloc (Nat.le_refl _) _)).grown hgr4 (fun e => by have := (hown3.lt _ e).1; omega); have hB4 : Below w.heap.size w w4 := (hB3.alloc hB3.size _).grown hgr4 (by have := hB3.size; simp; omega) (fun j hj => by have := (hown3.lt j hj).1; omega); have hs4 : w.heap.size + 2 ≤ w4.heap.size := (by have := hgr4.size; simp at this; omega); have hne4 : Hid (v2 ≠ .slice none 0 0) := (fun h => hne1.out ((hnil4.1 h).1)); replace hown4 : w4.ownsRow (w.heap.size + 2) 5 1 v2 (n + 1) (bl (lof n f ++ [1])) := (by rw [bl_append]; exact hown4); clear hgr4 hnil4 hown3 hP3 hV3 hB3 p0 p1 p2 p3 x0 x1 x2; obtain ⟨p0, p1, p2, p3⟩ := hP4.cells; obtain ⟨x0, x1, x2⟩ := hV4.cells)
            clear p0 p1 p2 p3 x0 x1 x2
            obtain ⟨g, cg, rfl, hg, hrow⟩ := RowC.ofOwn hown4 hne4.out
            have hrv := hrow.row.view (cap := cg) (by obtain ⟨_, _, _, h3, _, _⟩ := hrow; exact h3) (fun i hi => HYB.out _ (getD_in (by first | (rw [List.length_append, lof_len]; exact hi) | (rw [lof_len]; exact hi))))
            refine (l5Value_own g 0 (n + 1) cg _ k x s w4 hrv (by omega) hx (by omega)).mono ?_
            rintro e w5 ⟨v5, rfl, hown5, hb5⟩
            have hlof := lof_self (lof n f ++ [1])
            have hown6 : w5.ownsRow w4.heap.size 5 1 v5 (n + (partL true k x s).length) (bl (lof n f ++ partL true k x s)) := by
              rw [HP.out]
              have e1 : lof (n + 1) (fun i => (lof n f ++ [1]).getD i 0) = lof n f ++ [1] := by have := lof_self (lof n f ++ [1]); simpa [lof_len] using this
              rw [e1] at hown5
              simpa [Nat.add_assoc, Nat.add_comm, List.append_assoc] using hown5
            have hne5 : Hid (v5 ≠ .slice none 0 0) := by
              intro h
              subst h
              obtain ⟨h1, h2⟩ := hown6
              have hpl := (partL_len true k x s).1
              rcases h2 with ⟨_, h2⟩ | ⟨_, _, _, h2, _⟩
              · omega
              · cases h2
            have hP5 := hP4.below hb5
            have hB5 := hB4.trans (hb5.mono hB4.size)
            have hown7 := own_down hown6 hs4
            clear hown5 hown6 hb5 hrv hrow hlof
            obtain ⟨p0, p1, p2, p3⟩ := hP5.cells
            have HO : Hid _ := own_down hown7 (by omega : w.heap.size ≤ w.heap.size + 2)
            go_wp2
            go_ret
            refine ⟨v5, rfl, hne5.out, ?_, hB5⟩
            rw [HPL.out]
            exact HO.out
          | true =>
            go_enter Tryz.func117, Tryz.ntmps117
            go_wp2_with (at_builtin; refine wpList_append_own _ rfl (.tmp 8) (.tmp 9) 22 rfl (w.heap.size + 2) 5 i0 (.int .u8 0) 1 1 Tryz.underlying22 hi hz0 hz1 hz2 rfl (by decide) (.slice (some ⟨w.heap.size + 2, 0, none⟩) 0 0) 0 [] rfl hown0 ⟨b, off, none⟩ n cap (bl (lof n f)) rfl (by rw [bl_len, lof_len]; omega) hcl (bl_one _) (by unfold maxLen; omega) (by omega) (by simp) ?_; intro v1 w1 hown1 hgr1 hnil1; simp only [Nat.zero_add, List.nil_append] at hown1; have hP1 := hPA.grown hgr1 (by simp only [Value.ownBlock, ne_eq, Option.some.injEq]; omega); have hV1 := hVA.grown hgr1 (by simp only [Value.ownBlock, ne_eq, Option.some.injEq]; omega); have hb1 : Below w.heap.size w w1 := hbA.grown hgr1 hbA.size (fun j hj => by simp only [Value.ownBlock, Option.some.injEq] at hj; omega); have hs1 : w.heap.size + 2 ≤ w1.heap.size := (by have := hgr1.size; simp at this; omega); have hne1 : Hid (v1 ≠ .slice none 0 0) := (fun h => by have := (hnil1.1 h).1; cases this); clear hown0 hcl hgr1 hnil1 hbA hPA hVA; obtain ⟨p0, p1, p2, p3⟩ := hP1.cells)
            clear p0 p1 p2 p3
            refine (specPartOk_any c t true true w1).mono ?_
            rw [hok]
            rintro e w2 ⟨rfl, hb2⟩
            have hown2 := own_below hown1 hb2
            have hP2 := hP1.below hb2
            have hV2 := hV1.below hb2
            have hs2 : w.heap.size + 2 ≤ w2.heap.size := by have := hb2.size; omega
            have hB2 := hb1.trans (hb2.mono hb1.size)
            clear hown1 hP1 hV1 hb1 hb2
            obtain ⟨p0, p1, p2, p3⟩ := hP2.cells
            obtain ⟨x0, x1, x2⟩ := hV2.cells
            go_wp2_with fail
            clear p0 p1 p2 p3 x0 x1 x2
            refine (specFits_any c t true true k x s w2 (by omega)).mono ?_
            rw [hfit]
            rintro e w3 ⟨rfl, hb3⟩
            have hown3 := own_below hown2 hb3
            have hP3 := hP2.below hb3
            have hV3 := hV2.below hb3
            have hs3 : w.heap.size + 2 ≤ w3.heap.size := by have := hb3.size; omega
            have hB3 := hB2.trans (hb3.mono hB2.size)
            clear hown2 hP2 hV2 hb3 hB2
            obtain ⟨p0, p1, p2, p3⟩ := hP3.cells
            obtain ⟨x0, x1, x2⟩ := hV3.cells
            go_wp2_with (at_builtin; refine wpList_append_own _ rfl (.tmp 29) (.tmp 30) 22 rfl (w.heap.size + 2) 5 i0 (.int .u8 0) 1 1 Tryz.underlying22 hi hz0 hz1 hz2 rfl (by decide) v1 _ _ rfl (hown3.alloc _) ⟨w3.heap.size, 0, none⟩ 1 1 [.int .u8 1] rfl rfl (cellNew _ _ _) (bl_one [1]) (by unfold maxLen; omega) (by omega) (by simp; omega) ?_; intro v2 w4 hown4 hgr4 hnil4; have hP4 := (hP3.below ((Below.refl _ _).alloc (Nat.le_refl _) _)).grown hgr4 (fun e => by have := (hown3.lt _ e).1; omega); have hV4 := (hV3.below ((Below.refl _ _).alloc (Nat.le_refl _) _)).grown hgr4 (fun e => by have := (hown3.lt _ e).1; omega); have hB4 : Below w.heap.size w w4 := (hB3.alloc hB3.size _).grown hgr4 (by have := hB3.size; simp; omega) (fun j hj => by have := (hown3.lt j hj).1; omega); have hs4 : w.heap.size + 2 ≤ w4.heap.size := (by have := hgr4.size; simp at this; omega); have hne4 : Hid (v2 ≠ .slice none 0 0) := (fun h => hne1.out ((hnil4.1 h).1)); replace hown4 : w4.ownsRow (w.heap.size + 2) 5 1 v2 (n + 1) (bl (lof n f ++ [1])) := (by rw [bl_append]; exact hown4); clear hgr4 hnil4 hown3 hP3 hV3 hB3 p0 p1 p2 p3 x0 x1 x2; obtain ⟨p0, p1, p2, p3⟩ := hP4.cells; obtain ⟨x0, x1, x2⟩ := hV4.cells)
            clear p0 p1 p2 p3 x0 x1 x2
            obtain ⟨g, cg, rfl, hg, hrow⟩ := RowC.ofOwn hown4 hne4.out
            have hrv := hrow.row.view (cap := cg) (by obtain ⟨_, _, _, h3, _, _⟩ := hrow; exact h3) (fun i hi => HYB.out _ (getD_in (by first | (rw [List.length_append, lof_len]; exact hi) | (rw [lof_len]; exact hi))))
            refine (l5Value_own g 0 (n + 1) cg _ k x s w4 hrv (by omega) hx (by omega)).mono ?_
            rintro e w5 ⟨v5, rfl, hown5, hb5⟩
            have hlof := lof_self (lof n f ++ [1])
            have hown6 : w5.ownsRow w4.heap.size 5 1 v5 (n + (partL true k x s).length) (bl (lof n f ++ partL true k x s)) := by
              rw [HP.out]
              have e1 : lof (n + 1) (fun i => (lof n f ++ [1]).getD i 0) = lof n f ++ [1] := by have := lof_self (lof n f ++ [1]); simpa [lof_len] using this
              rw [e1] at hown5
              simpa [Nat.add_assoc, Nat.add_comm, List.append_assoc] using hown5
            have hne5 : Hid (v5 ≠ .slice none 0 0) := by
              intro h
              subst h
              obtain ⟨h1, h2⟩ := hown6
              have hpl := (partL_len true k x s).1
              rcases h2 with ⟨_, h2⟩ | ⟨_, _, _, h2, _⟩
              · omega
              · cases h2
            have hP5 := hP4.below hb5
            have hB5 := hB4.trans (hb5.mono hB4.size)
            have hown7 := own_down hown6 hs4
            clear hown5 hown6 hb5 hrv hrow hlof
            obtain ⟨p0, p1, p2, p3⟩ := hP5.cells
            go_wp2_with fail
            clear p0 p1 p2 p3
            obtain ⟨g9, c9, rfl, hg9, hrow9⟩ := RowC.ofOwn hown7 hne5.out
            have hrv9 := hrow9.row.view (cap := c9) (by obtain ⟨_, _, _, h3, _, _⟩ := hrow9; exact h3) (fun i hi => HYP.out _ (getD_in (by rw [List.length_append, lof_len]; exact hi)))
            refine (flip_own g9 0 (n + (partL true k x s).length) c9 _ (n : Int) w5 hrv9 (by omega)).mono ?_
            rintro e wz ⟨gz, cz, rfl, hgz, hrz, hbz⟩
            have HO : Hid _ := hrz.own (base := w.heap.size) (by have := hB5.size; omega)
            have HB : Hid (Below w.heap.size w wz) := hB5.trans (hbz.mono hB5.size)
            clear hrz hbz hrv9 hrow9
            go_wp2
            go_ret
            refine ⟨_, rfl, (fun h => by cases h), ?_, HB.out⟩
            have e2 := turn_list n f (partL true k x s)
            have h := HO.out
            rw [e2] at h
            rw [HPL.out]
            have e3 : turnL true (partL true k x s) = (partL true k x s).map (fun y => 255 - y) := rfl
            rw [e3, List.length_map]
            exact h
        | false =>
          have HP : Hid (partL false k x s = valL k x s) := by show _ = _; unfold partL; rw [if_neg k0]; rfl
          have HYB : Hid (∀ y ∈ lof n f, 0 ≤ y ∧ y ≤ 255) := HYF.out
          clear k0
          cases d with
          | false =>
            go_enter Tryz.func117, Tryz.ntmps117
            go_wp2_with (at_builtin; refine wpList_append_own _ rfl (.tmp 8) (.tmp 9) 22 rfl (w.heap.size + 2) 5 i0 (.int .u8 0) 1 1 Tryz.underlying22 hi hz0 hz1 hz2 rfl (by decide) (.slice (some ⟨w.heap.size + 2, 0, none⟩) 0 0) 0 [] rfl hown0 ⟨b, off, none⟩ n cap (bl (lof n f)) rfl (by rw [bl_len, lof_len]; omega) hcl (bl_one _) (by unfold maxLen; omega) (by omega) (by simp) ?_; intro v1 w1 hown1 hgr1 hnil1; simp only [Nat.zero_add, List.nil_append] at hown1; have hP1 := hPA.grown hgr1 (by simp only [Value.ownBlock, ne_eq, Option.some.injEq]; omega); have hV1 := hVA.grown hgr1 (by simp only [Value.ownBlock, ne_eq, Option.some.injEq]; omega); have hb1 : Below w.heap.size w w1 := hbA.grown hgr1 hbA.size (fun j hj => by simp only [Value.ownBlock, Option.some.injEq] at hj; omega); have hs1 : w.heap.size + 2 ≤ w1.heap.size := (by have := hgr1.size; simp at this; omega); have hne1 : Hid (v1 ≠ .slice none 0 0) := (fun h => by have := (hnil1.1 h).1; cases this); clear hown0 hcl hgr1 hnil1 hbA hPA hVA; obtain ⟨p0, p1, p2, p3⟩ := hP1.cells)
            clear p0 p1 p2 p3
            refine (specPartOk_any c t false false w1).mono ?_
            rw [hok]
            rintro e w2 ⟨rfl, hb2⟩
            have hown2 := own_below hown1 hb2
            have hP2 := hP1.below hb2
            have hV2 := hV1.below hb2
            have hs2 : w.heap.size + 2 ≤ w2.heap.size := by have := hb2.size; omega
            have hB2 := hb1.trans (hb2.mono hb1.size)
            clear hown1 hP1 hV1 hb1 hb2
            obtain ⟨p0, p1, p2, p3⟩ := hP2.cells
            obtain ⟨x0, x1, x2⟩ := hV2.cells
            go_wp2_with fail
            clear p0 p1 p2 p3 x0 x1 x2
            refine (specFits_any c t false false k x s w2 (by omega)).mono ?_
            rw [hfit]
            rintro e w3 ⟨rfl, hb3⟩
            have hown3 := own_below hown2 hb3
            have hP3 := hP2.below hb3
            have hV3 := hV2.below hb3
            have hs3 : w.heap.size + 2 ≤ w3.heap.size := by have := hb3.size; omega
            have hB3 := hB2.trans (hb3.mono hB2.size)
            clear hown2 hP2 hV2 hb3 hB2
            obtain ⟨p0, p1, p2, p3⟩ := hP3.cells
            obtain ⟨x0, x1, x2⟩ := hV3.cells
            go_wp2_with fail
            clear p0 p1 p2 p3 x0 x1 x2
            obtain ⟨g, cg, rfl, hg, hrow⟩ := RowC.ofOwn hown3 hne1.out
            have hrv := hrow.row.view (cap := cg) (by obtain ⟨_, _, _, h3, _, _⟩ := hrow; exact h3) (fun i hi => HYB.out _ (getD_in (by first | (rw [List.length_append, lof_len]; exact hi) | (rw [lof_len]; exact hi))))
            refine (l5Value_own g 0 (n) cg _ k x s w3 hrv (by omega) hx (by omega)).mono ?_
            rintro e w5 ⟨v5, rfl, hown5, hb5⟩
            have hlof := lof_self (lof n f)
            have hown6 : w5.ownsRow w3.heap.size 5 1 v5 (n + (partL false k x s).length) (bl (lof n f ++ partL false k x s)) := by
              rw [HP.out]
              have e1 : lof (n) (fun i => (lof n f).getD i 0) = lof n f := by have := lof_self (lof n f); simpa [lof_len] using this
              rw [e1] at hown5
              simpa [Nat.add_assoc, Nat.add_comm, List.append_assoc] using hown5
            have hne5 : Hid (v5 ≠ .slice none 0 0) := by
              intro h
              subst h
              obtain ⟨h1, h2⟩ := hown6
              have hpl := (partL_len false k x s).1
              rcases h2 with ⟨_, h2⟩ | ⟨_, _, _, h2, _⟩
              · omega
              · cases h2
            have hP5 := hP3.below hb5
            have hB5 := hB3.trans (hb5.mono hB3.size)
            have hown7 := own_down hown6 hs3
            clear hown5 hown6 hb5 hrv hrow hlof
            obtain ⟨p0, p1, p2, p3⟩ := hP5.cells
            have HO : Hid _ := own_down hown7 (by omega : w.heap.size ≤ w.heap.size + 2)
            go_wp2
            go_ret
            refine ⟨v5, rfl, hne5.out, ?_, hB5⟩
            rw [HPL.out]
            exact HO.out
          | true =>
            go_enter Tryz.func117, Tryz.ntmps117
            go_wp2_with (at_builtin; refine wpList_append_own _ rfl (.tmp 8) (.tmp 9) 22 rfl (w.heap.size + 2) 5 i0 (.int .u8 0) 1 1 Tryz.underlying22 hi hz0 hz1 hz2 rfl (by decide) (.slice (some ⟨w.heap.size + 2, 0, none⟩) 0 0) 0 [] rfl hown0 ⟨b, off, none⟩ n cap (bl (lof n f)) rfl (by rw [bl_len, lof_len]; omega) hcl (bl_one _) (by unfold maxLen; omega) (by omega) (by simp) ?_; intro v1 w1 hown1 hgr1 hnil1; simp only [Nat.zero_add, List.nil_append] at hown1; have hP1 := hPA.grown hgr1 (by simp only [Value.ownBlock, ne_eq, Option.some.injEq]; omega); have hV1 := hVA.grown hgr1 (by simp only [Value.ownBlock, ne_eq, Option.some.injEq]; omega); have hb1 : Below w.heap.size w w1 := hbA.grown hgr1 hbA.size (fun j hj => by simp only [Value.ownBlock, Option.some.injEq] at hj; omega); have hs1 : w.heap.size + 2 ≤ w1.heap.size := (by have := hgr1.size; simp at this; omega); have hne1 : Hid (v1 ≠ .slice none 0 0) := (fun h => by have := (hnil1.1 h).1; cases this); clear hown0 hcl hgr1 hnil1 hbA hPA hVA; obtain ⟨p0, p1, p2, p3⟩ := hP1.cells)
            clear p0 p1 p2 p3
            refine (specPartOk_any c t false true w1).mono ?_
            rw [hok]
            rintro e w2 ⟨rfl, hb2⟩
            have hown2 := own_below hown1 hb2
            have hP2 := hP1.below hb2
            have hV2 := hV1.below hb2
            have hs2 : w.heap.size + 2 ≤ w2.heap.size := by have := hb2.size; omega
            have hB2 := hb1.trans (hb2.mono hb1.size)
            clear hown1 hP1 hV1 hb1 hb2
            obtain ⟨p0, p1, p2, p3⟩ := hP2.cells
            obtain ⟨x0, x1, x2⟩ := hV2.cells
            go_wp2_with fail
            clear p0 p1 p2 p3 x0 x1 x2
            refine (specFits_any c t false true k x s w2 (by omega)).mono ?_
            rw [hfit]
            rintro e w3 ⟨rfl, hb3⟩
            have hown3 := own_below hown2 hb3
            have hP3 := hP2.below hb3
            have hV3 := hV2.below hb3
            have hs3 : w.heap.size + 2 ≤ w3.heap.size := by have := hb3.size; omega
            have hB3 := hB2.trans (hb3.mono hB2.size)
            clear hown2 hP2 hV2 hb3 hB2
            obtain ⟨p0, p1, p2, p3⟩ := hP3.cells
            obtain ⟨x0, x1, x2⟩ := hV3.cells
            go_wp2_with fail
            clear p0 p1 p2 p3 x0 x1 x2
            obtain ⟨g, cg, rfl, hg, hrow⟩ := RowC.ofOwn hown3 hne1.out
            have hrv := hrow.row.view (cap := cg) (by obtain ⟨_, _, _, h3, _, _⟩ := hrow; exact h3) (fun i hi => HYB.out _ (getD_in (by first | (rw [List.length_append, lof_len]; exact hi) | (rw [lof_len]; exact hi))))
            refine (l5Value_own g 0 (n) cg _ k x s w3 hrv (by omega) hx (by omega)).mono ?_
            rintro e w5 ⟨v5, rfl, hown5, hb5⟩
            have hlof := lof_self (lof n f)
            have hown6 : w5.ownsRow w3.heap.size 5 1 v5 (n + (partL false k x s).length) (bl (lof n f ++ partL false k x s)) := by
              rw [HP.out]
              have e1 : lof (n) (fun i => (lof n f).getD i 0) = lof n f := by have := lof_self (lof n f); simpa [lof_len] using this
              rw [e1] at hown5
              simpa [Nat.add_assoc, Nat.add_comm, List.append_assoc] using hown5
            have hne5 : Hid (v5 ≠ .slice none 0 0) := by
              intro h
              subst h
              obtain ⟨h1, h2⟩ := hown6
              have hpl := (partL_len false k x s).1
              rcases h2 with ⟨_, h2⟩ | ⟨_, _, _, h2, _⟩
              · omega
              · cases h2
            have hP5 := hP3.below hb5
            have hB5 := hB3.trans (hb5.mono hB3.size)
            have hown7 := own_down hown6 hs3
            clear hown5 hown6 hb5 hrv hrow hlof
            obtain ⟨p0, p1, p2, p3⟩ := hP5.cells
            go_wp2_with fail
            clear p0 p1 p2 p3
            obtain ⟨g9, c9, rfl, hg9, hrow9⟩ := RowC.ofOwn hown7 hne5.out
            have hrv9 := hrow9.row.view (cap := c9) (by obtain ⟨_, _, _, h3, _, _⟩ := hrow9; exact h3) (fun i hi => HYP.out _ (getD_in (by rw [List.length_append, lof_len]; exact hi)))
            refine (flip_own g9 0 (n + (partL false k x s).length) c9 _ (n : Int) w5 hrv9 (by omega)).mono ?_
            rintro e wz ⟨gz, cz, rfl, hgz, hrz, hbz⟩
            have HO : Hid _ := hrz.own (base := w.heap.size) (by have := hB5.size; omega)
            have HB : Hid (Below w.heap.size w wz) := hB5.trans (hbz.mono hB5.size)
            clear hrz hbz hrv9 hrow9
            go_wp2
            go_ret
            refine ⟨_, rfl, (fun h => by cases h), ?_, HB.out⟩
            have e2 := turn_list n f (partL false k x s)
            have h := HO.out
            rw [e2] at h
            rw [HPL.out]
            have e3 : turnL true (partL false k x s) = (partL false k x s).map (fun y => 255 - y) := rfl
            rw [e3, List.length_map]
            exact h
end Go.Proofs.YtkakkjnbhklfpaaGreatDoor

