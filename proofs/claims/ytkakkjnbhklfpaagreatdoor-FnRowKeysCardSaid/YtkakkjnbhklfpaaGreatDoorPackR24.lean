/-
  Together: PutSpec, PutTextSpec, CrcSpec, SumSpec, RowEncSpec, PutNums, PutOpt
-/
import Derived.Test.YtkakkjnbhklfpaaGreatDoorPackR1
import Derived.WalkSpells
import Derived.Test.YtkakkjnbhklfpaaGreatDoorPackR14
import Derived.Test.YtkakkjnbhklfpaaGreatDoorPackR6
import Derived.Test.YtkakkjnbhklfpaaGreatDoorPackR23
import Derived.Test.YtkakkjnbhklfpaaGreatDoorPackR15
import Derived.Test.YtkakkjnbhklfpaaGreatDoorPackR21
import Derived.Test.YtkakkjnbhklfpaaGreatDoorPackR2
/-
  The model's PutU: what was there, and behind it the number's groups, in memory of its own.
-/
namespace Go.Proofs.YtkakkjnbhklfpaaGreatDoor
open Go.RowKit
set_option maxRecDepth 4000

set_option maxHeartbeats 1000000 in
theorem putU_spec (b off n cap : Nat) (f : Nat → Int) (x : Int) (w : World) (hv : View w (some ⟨b, off, none⟩) n cap f) (hn : n ≤ 70368744177664) (hx0 : -9223372036854775808 ≤ x) (hx1 : x ≤ 9223372036854775807) :
    Calls Tryz.prog 78 #[.slice (some ⟨b, off, none⟩) n cap, .int .i64 x] w fun e w' => ∃ v, e = .returned v ∧ w'.ownsRow w.heap.size 5 1 v (n + (groups (clampN x)).length) (bl (lof n f ++ groups (clampN x))) ∧ Below w.heap.size w w' := by
  obtain ⟨i0, hi, hz0, hz1, hz2⟩ := info_parts Tryz.info5
  have hown0 := World.ownsRow_lit (base := w.heap.size) (e := 5) (size := 1) w #[] 0 (Nat.le_refl _) (Nat.zero_le _) rfl
  have hb0 : Below w.heap.size w (w.alloc (.cells #[] 5)) := (Below.refl _ _).alloc (Nat.le_refl _) _
  have hcl := cells_of_view (hv.below hb0)
  have hsz : (w.alloc (.cells #[] 5)).heap.size = w.heap.size + 1 := by simp
  go_enter Tryz.func78, Tryz.ntmps78
  go_wp2_with (at_builtin; go_must (refine wpList_append_own _ rfl (.tmp 6) (.tmp 7) 22 rfl w.heap.size 5 i0 (.int .u8 0) 1 1 Tryz.underlying22 hi hz0 hz1 hz2 rfl (by decide) (.slice (some ⟨w.heap.size, 0, none⟩) 0 0) 0 [] rfl hown0 ⟨b, off, none⟩ n cap (bl (lof n f)) rfl (by rw [bl_len, lof_len]; omega) hcl (bl_one _) (by unfold maxLen; omega) (by omega) (by rw [hsz]; omega) ?_); intro v1 w1 hown1 hgr1 _)
  all_goals
    have hb1 : Below w.heap.size w w1 := hb0.grown hgr1 (by simp) (fun k hk => by simp only [Value.ownBlock, Option.some.injEq] at hk; omega)
    clear hown0 hcl hsz hgr1 hb0 hv
    simp only [Nat.zero_add, List.nil_append] at hown1
    go_loopg [1, 5] (clampN x).toNat (fun g s v wr => ∃ (y : Int) (ys : List Int), s = .int .i64 y ∧ 0 ≤ y ∧ y ≤ 1000000 ∧ g = y.toNat ∧ groups (clampN x) = ys ++ groups y ∧ wr.ownsRow w.heap.size 5 1 v (n + ys.length) (bl (lof n f ++ ys)) ∧ Below w.heap.size w wr)
    case atStart => exact ⟨clampN x, [], congrArg (Value.int .i64) (by unfold clampN; split <;> (try split) <;> omega), (clampN_bd x).1, (clampN_bd x).2, rfl, rfl, by rw [List.append_nil]; exact hown1, hb1⟩
    case round =>
      obtain ⟨y, ys, rfl, hy0, hy1, rfl, hgr, hown, hB⟩ := hrel
      clear hown1 hb1
      have HG : Hid (groups (clampN x) = ys ++ groups y) := hgr
      have hlen : n + ys.length ≤ n + 3 := by have := groups_len (clampN x); rw [hgr] at this; simp at this; have := groups_len y; omega
      clear hgr
      have hA : ∀ z : Int, bits .and .i64 z 127 = z % 128 := i64_and127
      have hq : bits .or .i64 (y % 128) 128 = y % 128 + 128 := i64_or_add 7 _ _ (by omega) (by show _ < (128 : Int); omega) (by omega) (by decide) (by omega) (by decide)
      by_cases hlt : y < 128
      · go_wp2_with (at_builtin; go_must (refine wpList_append_own _ rfl (.tmp 24) (.tmp 27) 22 rfl w.heap.size 5 i0 (.int .u8 0) 1 1 Tryz.underlying22 hi hz0 hz1 hz2 rfl (by decide) u5 _ _ rfl (hown.alloc _) ⟨wr.heap.size, 0, none⟩ 1 1 [.int .u8 y] rfl rfl (cellNew _ _ _) (bl_one [y]) (by unfold maxLen; omega) (by omega) (by have := hB.size; simp; omega) ?_); intro v2 w2 hown2 hgr2 _)
        go_ret
        refine ⟨v2, rfl, ?_, ?_⟩
        · rw [HG.out, groups_last y hlt, List.length_append, ← List.append_assoc, bl_append]
          rw [Nat.add_assoc] at hown2
          exact hown2
        · exact (hB.alloc hB.size _).grown hgr2 (by have := hB.size; simp; omega) (fun k hk => (hown.lt k hk).1)
      · have hS : y / 128 < y := by omega
        have hG2 : Hid (groups (clampN x) = (ys ++ [y % 128 + 128]) ++ groups (y / 128)) := by
          have := HG.out
          rw [groups_step y (by omega) hy1] at this
          rw [List.append_assoc]; exact this
        go_wp2_with (at_builtin; go_must (refine wpList_append_own _ rfl (.tmp 15) (.tmp 20) 22 rfl w.heap.size 5 i0 (.int .u8 0) 1 1 Tryz.underlying22 hi hz0 hz1 hz2 rfl (by decide) u5 _ _ rfl (hown.alloc _) ⟨wr.heap.size, 0, none⟩ 1 1 [.int .u8 (y % 128 + 128)] rfl rfl (cellNew _ _ _) (bl_one [y % 128 + 128]) (by unfold maxLen; omega) (by omega) (by have := hB.size; simp; omega) ?_); intro v2 w2 hown2 hgr2 _)
        have hB2 : Below w.heap.size w w2 := (hB.alloc hB.size _).grown hgr2 (by have := hB.size; simp; omega) (fun k hk => (hown.lt k hk).1)
        have hO2 : w2.ownsRow w.heap.size 5 1 v2 (n + (ys ++ [y % 128 + 128]).length) (bl (lof n f ++ (ys ++ [y % 128 + 128]))) := by
          rw [List.length_append, ← List.append_assoc, bl_append]
          rw [Nat.add_assoc] at hown2
          exact hown2
        clear hgr2 hown hown2 hB
        go_wp2
        go_roundg ((y / 128).toNat)
        case measure => omega
        case rel => exact ⟨y / 128, ys ++ [y % 128 + 128], rfl, by omega, by omega, rfl, hG2.out, hO2, hB2⟩
end Go.Proofs.YtkakkjnbhklfpaaGreatDoor

/-
  The model's PutText: what was there, the number of the text's bytes, and these, in memory of its own.
-/
namespace Go.Proofs.YtkakkjnbhklfpaaGreatDoor
open Go.RowKit
set_option maxRecDepth 4000

set_option maxHeartbeats 1000000 in
theorem putText_spec (b off n cap : Nat) (f : Nat → Int) (s : ByteArray) (w : World) (hv : View w (some ⟨b, off, none⟩) n cap f) (hn : n ≤ 35184372088832) (hs : s.size ≤ 35184372088832) :
    Calls Tryz.prog 80 #[.slice (some ⟨b, off, none⟩) n cap, .string s] w fun e w' => ∃ g c, e = .returned (.slice (some ⟨g, 0, none⟩) (n + (groups (clampN s.size)).length + s.size) c) ∧ w.heap.size ≤ g ∧ n + (groups (clampN s.size)).length + s.size ≤ c ∧ Row 5 w' g (n + (groups (clampN s.size)).length + s.size) (fun i => (textL n f s).getD i 0) ∧ Below w.heap.size w w' := by
  obtain ⟨i0, hi, hz0, hz1, hz2⟩ := info_parts Tryz.info5
  have hgl := (groups_len (clampN s.size)).2
  have hg1 := (groups_len (clampN s.size)).1
  obtain ⟨gs, hgs⟩ : ∃ gs, Hid (groups (clampN s.size) = gs) := ⟨_, rfl⟩
  rw [hgs.out] at hgl hg1
  go_enter Tryz.func80, Tryz.ntmps80
  go_wp2_with fail
  refine (putU_spec b off n cap f (s.size : Int) w hv (by omega) (by omega) (by omega)).mono ?_
  rintro e w1 ⟨v, rfl, hown, hb1⟩
  rw [hgs.out] at hown
  go_wp2_with (at_builtin; go_must (refine Lib.wpList_append_own_string _ rfl (.tmp 8) (.tmp 9) 22 9 rfl w.heap.size 5 i0 Tryz.underlying22 Tryz.underlying9 hi hz0 hz1 hz2 v _ _ rfl hown s rfl (by unfold maxLen; omega) (by omega) hb1.size ?_); intro v2 w2 hown2 hgr2 _)
  have hb2 : Below w.heap.size w w2 := hb1.grown hgr2 hb1.size (fun k hk => (hown.lt k hk).1)
  go_ret
  rw [sl_cells, ← bl_append] at hown2
  obtain ⟨g, c, hv2, hg, hgc, hrow⟩ := row_of_own hown2 (by omega)
  unfold textL
  rw [hgs.out, hv2]
  exact ⟨g, c, rfl, hg, hgc, hrow, hb2⟩

end Go.Proofs.YtkakkjnbhklfpaaGreatDoor

/-
  The model's Crc comes to the plain sum, at every slice of bytes that reads.
-/
namespace Go.Proofs.YtkakkjnbhklfpaaGreatDoor
open Go.RowKit
set_option maxRecDepth 4000

set_option maxHeartbeats 1000000 in
theorem crc_spec (ao : Option Addr) (n cap : Nat) (f : Nat → Int) (w : World) (hv : View w ao n cap f) (hn : n ≤ 281474976710656) :
    Calls Tryz.prog 120 #[.slice ao n cap] w fun e w' => e = .returned (.int .i64 ((crc n f : Nat) : Int)) ∧ w = w' := by
  go_enter Tryz.func120, Tryz.ntmps120
  go_wp2
  go_loopg [3, 4] n (fun g s i wr => w = wr ∧ ∃ k y : Nat, k ≤ n ∧ g = n - k ∧ s = .int .i64 (y : Int) ∧ i = .int .i64 k ∧ y < 4294967296 ∧ y = crcTo f k)
  case atStart => exact ⟨rfl, 0, 4294967295, by omega, rfl, rfl, rfl, by decide, rfl⟩
  case round =>
    obtain ⟨rfl, k, y, hk, rfl, rfl, rfl, hy, hyk⟩ := hrel
    have HY : Hid (y = crcTo f k) := hyk
    clear hyk
    by_cases hlt : k < n
    · obtain ⟨b, off, rfl, hb, hc⟩ := hv.cells (by omega)
      have hkz : (k : Int) < (n : Int) := by omega
      have hc1 := hc k hlt
      have hbk := hv.byte k hlt
      have q1 := i64_in y (f k) hy hbk
      have hlt2 := xorByte_lt hy hbk
      obtain ⟨hbk0, hbk1⟩ := hbk
      clear hc
      go_wp2
      clear q1 hc1
      go_loopg [3, 5] 8 (fun g s i wi => w = wi ∧ ∃ j z : Nat, j ≤ 8 ∧ g = 8 - j ∧ s = .int .i64 (z : Int) ∧ i = .int .i64 j ∧ z < 4294967296 ∧ z = crcBits j (y ^^^ (f k).toNat))
      case atStart => exact ⟨rfl, 0, y ^^^ (f k).toNat, by omega, rfl, rfl, rfl, hlt2, rfl⟩
      case round =>
        obtain ⟨rfl, j, z, hj, rfl, rfl, rfl, hz, hzj⟩ := hrel
        have HZ : Hid (z = crcBits j (y ^^^ (f k).toNat)) := hzj
        clear hzj
        by_cases hj8 : j < 8
        · have hjz : (j : Int) < 8 := by omega
          by_cases hodd : z % 2 = 1
          · have q1 : bits .and .i64 (z : Int) 1 = 1 := by rw [i64_and1 z (by omega), hodd]; rfl
            have q2 := i64_turn z hz
            have HO : Hid (z % 2 = 1) := hodd
            clear hodd
            go_wp2
            go_roundg (8 - (j + 1))
            case measure => omega
            case rel => exact ⟨rfl, j + 1, z / 2 ^^^ 2197175160, by omega, rfl, rfl, by go_num, Nat.xor_lt_two_pow (n := 32) (by omega) (by decide), by rw [← crcBit_odd z HO.out, HZ.out]; rfl⟩
          · have q1 : bits .and .i64 (z : Int) 1 = 0 := by rw [i64_and1 z (by omega), show z % 2 = 0 by omega]; rfl
            have HO : Hid (¬ z % 2 = 1) := hodd
            clear hodd
            go_wp2
            go_roundg (8 - (j + 1))
            case measure => omega
            case rel => exact ⟨rfl, j + 1, z / 2, by omega, rfl, by go_num, by go_num, by omega, by rw [← crcBit_even z HO.out, HZ.out]; rfl⟩
        · obtain rfl : j = 8 := by omega
          go_wp2
          go_roundg (n - (k + 1))
          case measure => omega
          case rel => exact ⟨rfl, k + 1, z, by omega, rfl, rfl, by go_num, hz, by rw [HZ.out, HY.out]; rfl⟩
    · obtain rfl : k = n := by omega
      have q1 := i64_last y hy
      go_wp2
      go_ret
      exact ⟨retInt (congrArg (fun z : Nat => ((z ^^^ 4294967295 : Nat) : Int)) HY.out), rfl⟩

theorem crc_spec' {c : Nat} (ao : Option Addr) (n cap : Nat) (f : Nat → Int) (w : World) (hg : Hid (crc n f = c)) (hv : View w ao n cap f) (hn : n ≤ 281474976710656) :
    Calls Tryz.prog 120 #[.slice ao n cap] w fun e w' => e = .returned (.int .i64 (c : Int)) ∧ w = w' := by
  have h := crc_spec ao n cap f w hv hn
  rw [hg.out] at h; exact h

end Go.Proofs.YtkakkjnbhklfpaaGreatDoor

/-
  The model's PutSum: what was there, and behind it the four bytes of its sum, in memory of its own.
-/
namespace Go.Proofs.YtkakkjnbhklfpaaGreatDoor
open Go.RowKit
set_option maxRecDepth 4000

set_option maxHeartbeats 1000000 in
theorem putSum_own (b off n cap : Nat) (f : Nat → Int) (w : World) (hv : View w (some ⟨b, off, none⟩) n cap f) (hn : n ≤ 35184372088832) :
    Calls Tryz.prog 81 #[.slice (some ⟨b, off, none⟩) n cap] w fun e w' => ∃ v, e = .returned v ∧ w'.ownsRow w.heap.size 5 1 v (n + 4) (bl (lof n f ++ sumL (crc n f))) ∧ Below w.heap.size w w' := by
  obtain ⟨i0, hi, hz0, hz1, hz2⟩ := info_parts Tryz.info5
  have hlt := crc_lt hv.byte
  obtain ⟨c, hc⟩ : ∃ c, Hid (crc n f = c) := ⟨_, rfl⟩
  rw [hc.out] at hlt
  have hcz : (c : Int) < 4294967296 := by omega
  have hw : ∀ x : Int, IntKind.u8.wrap x = x % 256 := u8_wrap
  have hown0 := World.ownsRow_lit (base := w.heap.size) (e := 5) (size := 1) w #[] 0 (Nat.le_refl _) (Nat.zero_le _) rfl
  have hb0 : Below w.heap.size w (w.alloc (.cells #[] 5)) := (Below.refl _ _).alloc (Nat.le_refl _) _
  have hcl := cells_of_view (hv.below hb0)
  have hsz : (w.alloc (.cells #[] 5)).heap.size = w.heap.size + 1 := by simp
  go_enter Tryz.func81, Tryz.ntmps81
  go_wp2_with fail
  refine (crc_spec' _ n cap f w hc hv (by omega)).mono ?_
  rintro e _ ⟨rfl, rfl⟩
  go_wp2_with (first | (at_builtin; refine wpList_append_own _ rfl (.tmp 6) (.tmp 7) 22 rfl w.heap.size 5 i0 (.int .u8 0) 1 1 Tryz.underlying22 hi hz0 hz1 hz2 rfl (by decide) (.slice (some ⟨w.heap.size, 0, none⟩) 0 0) 0 [] rfl hown0 ⟨b, off, none⟩ n cap (bl (lof n f)) rfl (by rw [bl_len, lof_len]; omega) hcl (bl_one _) (by unfold maxLen; omega) (by omega) (by rw [hsz]; omega) ?_; intro v1 w1 hown1 hgr1 _; simp only [Nat.zero_add, List.nil_append] at hown1) | (at_builtin; refine wpList_append_own _ rfl (.tmp 8) (.tmp 20) 22 rfl w.heap.size 5 i0 (.int .u8 0) 1 1 Tryz.underlying22 hi hz0 hz1 hz2 rfl (by decide) v1 n (bl (lof n f)) rfl (hown1.alloc _) ⟨w1.heap.size, 0, none⟩ 4 4 (bl (sumL c)) rfl rfl (cellNews w1 (bl (sumL c)) 5) (bl_one _) (by unfold maxLen; omega) (by omega) (by have := hgr1.size; simp at this; simp; omega) ?_; intro v2 w2 hown2 hgr2 _))
  have hb1 : Below w.heap.size w w1 := hb0.grown hgr1 (by simp) (fun k hk => by simp only [Value.ownBlock, Option.some.injEq] at hk; omega)
  have hb2 : Below w.heap.size w w2 := (hb1.alloc hb1.size _).grown hgr2 (by have := hb1.size; simp; omega) (fun k hk => (hown1.lt k hk).1)
  go_ret
  rw [hc.out]
  rw [← bl_append] at hown2
  exact ⟨v2, rfl, hown2, hb2⟩
end Go.Proofs.YtkakkjnbhklfpaaGreatDoor

/-
  The model's EncodeRow: its values one behind the other, and a sum.
-/
namespace Go.Proofs.YtkakkjnbhklfpaaGreatDoor
open Go.RowKit
set_option maxRecDepth 4000

theorem putU_enc (w W : World) (g cg : Nat) (L : List Int) (x : Int) (h : EncTo w W g cg L) (hb : ∀ y ∈ L, 0 ≤ y ∧ y ≤ 255) (hn : L.length ≤ 10000000) (hx0 : -9223372036854775808 ≤ x) (hx1 : x ≤ 9223372036854775807) :
    Calls Tryz.prog 78 #[.slice (some ⟨g, 0, none⟩) L.length cg, .int .i64 x] W (EncMore w W (L ++ groups (clampN x))) := by
  refine (putU_spec g 0 L.length cg _ x W (h.byte hb) (by omega) hx0 hx1).mono ?_
  rintro e w' ⟨v, rfl, hO, hB⟩
  rw [lof_self] at hO
  have hpos : 0 < L.length + (groups (clampN x)).length := by have := (groups_len (clampN x)).1; omega
  obtain ⟨g', c', rfl, hg', hc', hr⟩ := row_of_own hO hpos
  rw [← List.length_append] at hc' hr ⊢
  exact ⟨g', c', rfl, ⟨hr, Nat.le_trans h.below.size hg', hc', h.below.trans (hB.mono h.below.size)⟩, hB⟩
theorem putU_enc' (w W : World) (g cg : Nat) (L : List Int) (x : Int) (h : EncTo w W g cg L) (hb : ∀ y ∈ L, 0 ≤ y ∧ y ≤ 255) (hn : L.length ≤ 10000000) (hx0 : -9223372036854775808 ≤ x) (hx1 : x ≤ 9223372036854775807) :
    Calls Tryz.prog 78 #[.slice (some ⟨g, 0, none⟩) L.length cg, .int .i64 x] W (fun e w' => ∃ g' c', e = .returned (.slice (some ⟨g', 0, none⟩) (L ++ groups (clampN x)).length c') ∧ EncTo w w' g' c' (L ++ groups (clampN x)) ∧ Below W.heap.size W w' ∧ w'.ownsRow W.heap.size 5 1 (.slice (some ⟨g', 0, none⟩) (L ++ groups (clampN x)).length c') (L ++ groups (clampN x)).length (bl (L ++ groups (clampN x)))) := by
  refine (putU_spec g 0 L.length cg _ x W (h.byte hb) (by omega) hx0 hx1).mono ?_
  rintro e w' ⟨v, rfl, hO, hB⟩
  rw [lof_self] at hO
  have hpos : 0 < L.length + (groups (clampN x)).length := by have := (groups_len (clampN x)).1; omega
  obtain ⟨g', c', rfl, hg', hc', hr⟩ := row_of_own hO hpos
  rw [← List.length_append] at hc' hr hO ⊢
  exact ⟨g', c', rfl, ⟨hr, Nat.le_trans h.below.size hg', hc', h.below.trans (hB.mono h.below.size)⟩, hB, hO⟩
theorem putVar_enc (w W : World) (g cg : Nat) (L : List Int) (x : Int) (h : EncTo w W g cg L) (hb : ∀ y ∈ L, 0 ≤ y ∧ y ≤ 255) (hn : L.length ≤ 10000000) (hx0 : -9223372036854775808 ≤ x) (hx1 : x ≤ 9223372036854775807) :
    Calls Tryz.prog 79 #[.slice (some ⟨g, 0, none⟩) L.length cg, .int .i64 x] W (EncMore w W (L ++ varL x)) := by
  refine (putVar_own g 0 L.length cg _ x W (h.byte hb) (by omega) hx0 hx1).mono ?_
  rintro e w' ⟨v, rfl, hO, hB⟩
  rw [lof_self] at hO
  have hpos : 0 < L.length + (varL x).length := by have := (varL_len x).1; omega
  obtain ⟨g', c', rfl, hg', hc', hr⟩ := row_of_own hO hpos
  rw [← List.length_append] at hc' hr ⊢
  exact ⟨g', c', rfl, ⟨hr, Nat.le_trans h.below.size hg', hc', h.below.trans (hB.mono h.below.size)⟩, hB⟩
theorem putText_enc (w W : World) (g cg : Nat) (L : List Int) (s : ByteArray) (h : EncTo w W g cg L) (hb : ∀ y ∈ L, 0 ≤ y ∧ y ≤ 255) (hn : L.length ≤ 10000000) (hs : s.size ≤ 10000000) :
    Calls Tryz.prog 80 #[.slice (some ⟨g, 0, none⟩) L.length cg, .string s] W (EncMore w W (L ++ (groups (clampN s.size) ++ sl s))) := by
  refine (putText_spec g 0 L.length cg _ s W (h.byte hb) (by omega) (by omega)).mono ?_
  rintro e w' ⟨g', c', rfl, hg', hc', hr, hB⟩
  have e1 : textL L.length (fun i => L.getD i 0) s = L ++ (groups (clampN s.size) ++ sl s) := by unfold textL; rw [lof_self, List.append_assoc]
  have e2 : L.length + (groups (clampN s.size)).length + s.size = (L ++ (groups (clampN s.size) ++ sl s)).length := by rw [List.length_append, List.length_append, sl_len]; omega
  rw [e1, e2] at hr
  rw [e2] at hc' ⊢
  exact ⟨g', c', rfl, ⟨hr, Nat.le_trans h.below.size hg', hc', h.below.trans (hB.mono h.below.size)⟩, hB⟩
/-- The bytes are the call's own. -/
def OwnB (w w' : World) (g c : Nat) (L : List Int) : Prop := w'.ownsRow w.heap.size 5 1 (.slice (some ⟨g, 0, none⟩) L.length c) L.length (bl L)
theorem putSum_enc (w W : World) (g cg : Nat) (L : List Int) (h : EncTo w W g cg L) (hb : ∀ y ∈ L, 0 ≤ y ∧ y ≤ 255) (hn : L.length ≤ 10000000) :
    Calls Tryz.prog 81 #[.slice (some ⟨g, 0, none⟩) L.length cg] W fun e w' => ∃ g c, e = .returned (.slice (some ⟨g, 0, none⟩) (sumB L).length c) ∧ EncTo w w' g c (sumB L) ∧ OwnB w w' g c (sumB L) := by
  refine (putSum_own g 0 L.length cg _ W (h.byte hb) (by omega)).mono ?_
  rintro e w' ⟨v, rfl, hO, hB⟩
  have e2 : L.length + 4 = (sumB L).length := by unfold sumB; rw [List.length_append]; rfl
  rw [lof_self] at hO
  have e1 : L ++ sumL (crc L.length (fun i => L.getD i 0)) = sumB L := rfl
  rw [e1, e2] at hO
  obtain ⟨g', c', rfl, hg', hc', hr⟩ := row_of_own hO (by omega)
  exact ⟨g', c', rfl, ⟨hr, Nat.le_trans h.below.size hg', hc', h.below.trans (hB.mono h.below.size)⟩, own_baseE hO h.below.size⟩

set_option linter.unusedSimpArgs false in
set_option maxHeartbeats 4000000 in
theorem specEncodeRow_any (a : Option Addr) (n cap : Nat) (fc ft : Nat → Int) (fu fd : Nat → Bool) (a2 : Option Addr) (m cap2 : Nat) (fk fn : Nat → Int) (fs : Nat → ByteArray) (w : World) (h : PView w a n cap fc ft fu fd) (h2 : VView w a2 m cap2 fk fn fs) (hn : n ≤ 1048576) (hm : m ≤ 1048576) (hs : ∀ i, i < m → (fs i).size ≤ 1048576) :
    Calls Tryz.prog 46 #[.slice a n cap, .slice a2 m cap2] w fun e w' => ∃ g cg, e = .returned (.slice (some ⟨g, 0, none⟩) (encRB n fc ft fu m fk fn fs).length cg) ∧ EncTo w w' g cg (encRB n fc ft fu m fk fn fs) ∧ OwnB w w' g cg (encRB n fc ft fu m fk fn fs) := by
  obtain ⟨i0, hi, hz0, hz1, hz2⟩ := info_parts Tryz.info5
  go_enter Tryz.func46, Tryz.ntmps46
  go_wp2_with fail
  refine (specRowOk_any a n cap fc ft fu fd a2 m cap2 fk fn fs w h h2 hn hm hs).mono ?_
  cases hok : rowOk n fc ft fu m fk fn fs with
  | false =>
    have HE : Hid (encRB n fc ft fu m fk fn fs = []) := by show _ = _; unfold encRB; rw [hok]; rfl
    rintro e w1 ⟨rfl, hb⟩
    have HT : Hid (EncTo w (w1.alloc (.cells #[] 5)) w1.heap.size 0 [] ∧ OwnB w (w1.alloc (.cells #[] 5)) w1.heap.size 0 []) := ⟨⟨Row.none w1 _ _, hb.size, Nat.le_refl _, hb.alloc hb.size _⟩, World.ownsRow_lit (base := w.heap.size) (e := 5) (size := 1) w1 #[] 0 hb.size (Nat.zero_le _) rfl⟩
    clear h h2 hb
    go_wp2
    go_ret
    refine ⟨_, 0, by rw [HE.out]; rfl, ?_⟩
    rw [HE.out]; exact HT.out
  | true =>
    have HE : Hid (encRB n fc ft fu m fk fn fs = sumB (rowB m fk fn fs)) := by show _ = _; unfold encRB; rw [hok]; rfl
    have hrk := hok
    unfold rowOk at hrk
    simp only [Bool.and_eq_true, decide_eq_true_eq] at hrk
    obtain ⟨hpk, hmn, hfa⟩ := hrk
    obtain ⟨-, hfit⟩ := fitsAll_iff.1 hfa
    have hm6 : m ≤ 6 := by have := (planOk_iff.1 hpk).2; omega
    have HOK : Hid (∀ i, i < m → okF (fk i) (fn i) (fs i) = true) := fun i hi => by have := hfit i hi; unfold fitsP at this; simp only [Bool.and_eq_true] at this; exact this.1
    rintro e w1 ⟨rfl, hb⟩
    clear hpk hfa hfit hok hmn h
    have hT0 : EncTo w (w1.alloc (.cells #[] 5)) w1.heap.size 0 [] := ⟨Row.none w1 _ _, hb.size, Nat.le_refl _, hb.alloc hb.size _⟩
    have hC := putU_enc w _ w1.heap.size 0 [] m hT0 (fun y hy => by cases hy) (by simp) (by omega) (by omega)
    simp only [List.length_nil, List.nil_append] at hC
    clear hT0 hb
    go_wp2_with fail
    refine hC.mono ?_
    rintro e w2 ⟨g, c, rfl, hE, hB2⟩
    clear hC hB2
    obtain ⟨vb, hvb⟩ : ∃ vb : Nat → List Int, Hid (vb = fun i => valB (fk i) (fn i) (fs i)) := ⟨_, rfl⟩
    have HRB : Hid (rowB m fk fn fs = groups (clampN m) ++ keyT vb m) := by show _ = _; rw [hvb.out]; rfl
    obtain ⟨G0, hG0⟩ : ∃ G0, Hid (groups (clampN (m : Int)) = G0) := ⟨_, rfl⟩
    have HB : Hid (∀ k, ∀ y ∈ G0 ++ keyT vb k, 0 ≤ y ∧ y ≤ 255) := fun k y hy => by
      rcases List.mem_append.1 hy with hy | hy
      · rw [← hG0.out] at hy; exact groups_byte _ (clampN_bd _).1 (clampN_bd _).2 y hy
      · rw [hvb.out] at hy; exact keyT_byte (fun i _ => valB_byte _ _ _) y hy
    have HLn : Hid (∀ k, k ≤ m → (G0 ++ keyT vb k).length ≤ 1000) := fun k hk => by
      have h1 : (keyT vb k).length ≤ k * 69 := keyT_len (fun i hi => by
        rw [hvb.out]
        have h3 := valB_len (fk i) (fn i) (fs i)
        have h4 := okF_few (HOK.out i (by omega))
        show (valB (fk i) (fn i) (fs i)).length ≤ 69
        omega)
      have h2 := (groups_len (clampN (m : Int))).2
      rw [hG0.out] at h2
      rw [List.length_append]
      omega
    rw [hG0.out] at hE HRB ⊢
    go_wp2
    go_loopg [5, 6] m (fun q v i wr => ∃ (k g c : Nat), k ≤ m ∧ q = m - k ∧ v = .slice (some ⟨g, 0, none⟩) (G0 ++ keyT vb k).length c ∧ i = .int .i64 k ∧ EncTo w wr g c (G0 ++ keyT vb k))
    case atStart => exact ⟨0, g, c, Nat.zero_le _, rfl, by simp [keyT], rfl, by simpa [keyT] using hE⟩
    case round =>
      clear hE
      obtain ⟨k, g3, c3, hk, rfl, rfl, rfl, hE⟩ := hrel
      by_cases hlt : k < m
      · have hkz : (k : Int) < (m : Int) := by omega
        obtain ⟨b2, o2, rfl, hb2, hd2⟩ := (h2.below hE.below).cells (by omega)
        obtain ⟨x0, x1, x2⟩ := hd2 k hlt
        have hkin := okF_kinds (HOK.out k hlt)
        have hvk : Hid (keyT vb (k + 1) = keyT vb k ++ valB (fk k) (fn k) (fs k)) := by show _ = _; rw [keyT, hvb.out]
        have hby := HB.out k
        have hln := HLn.out k hk
        obtain ⟨L, hL⟩ : ∃ L, Hid (G0 ++ keyT vb k = L) := ⟨_, rfl⟩
        rw [hL.out] at hE hby hln ⊢
        obtain ⟨q0, hq0⟩ : ∃ p, fk k = p := ⟨_, rfl⟩
        obtain ⟨q1, hq1⟩ : ∃ p, fn k = p := ⟨_, rfl⟩
        obtain ⟨q2, hq2⟩ : ∃ p, fs k = p := ⟨_, rfl⟩
        rw [hq0] at x0 hkin hvk
        rw [hq1] at x1 hkin hvk
        rw [hq2] at x2 hkin hvk
        clear hd2 hq0 hq1 hq2
        have HL2 : Hid (G0 ++ keyT vb (k + 1) = L ++ valB q0 q1 q2) := by show _ = _; rw [hvk.out, ← List.append_assoc, hL.out]
        clear hvk
        have hV := Box.new wr q0 q1 q2
        have hbw : Below wr.heap.size wr (wr.alloc (.cells #[.int .i64 q0, .int .i64 q1, .string q2] 58)) := (Below.refl _ _).alloc (Nat.le_refl _) _
        have hE2 : EncTo w (wr.alloc (.cells #[.int .i64 q0, .int .i64 q1, .string q2] 58)) g3 c3 L := ⟨hE.row.belowAll hbw, hE.new, hE.le, hE.below.trans (hbw.mono hE.below.size)⟩
        clear hE
        have hs2 : q2.size ≤ 30 := by rcases hkin with ⟨_, _, e⟩ | ⟨_, _, e⟩ | ⟨_, _, e⟩ | ⟨_, _, e⟩ | ⟨_, _, e⟩ <;> first | exact e | (rw [e]; decide)
        have hq0b : 0 ≤ q0 ∧ q0 ≤ 4 := by omega
        have hC := putU_enc' w _ g3 c3 L q0 hE2 hby (by omega) (by omega) (by omega)
        have hby1 : ∀ y ∈ L ++ groups (clampN q0), 0 ≤ y ∧ y ≤ 255 := fun y hy => by
          rcases List.mem_append.1 hy with hy | hy
          · exact hby y hy
          · exact groups_byte _ (clampN_bd _).1 (clampN_bd _).2 y hy
        have hln1 : (L ++ groups (clampN q0)).length ≤ 1003 := by rw [List.length_append]; have := (groups_len (clampN q0)).2; omega
        have HVB : Hid (L ++ valB q0 q1 q2 = (L ++ groups (clampN q0)) ++ bodyB q0 q1 q2) := by show _ = _; unfold valB; rw [List.append_assoc]
        obtain ⟨L1, hL1⟩ : ∃ L1, Hid (L ++ groups (clampN q0) = L1) := ⟨_, rfl⟩
        rw [hL1.out] at hC hby1 hln1 HVB
        have hbs := hE2.below.size
        clear hE2
        go_wp2_with fail
        clear x0 x1 x2
        refine hC.mono ?_
        rintro e w4 ⟨g4, c4, rfl, hE4, hB4, hO4⟩
        clear hC
        have hV4 := hV.below hB4
        obtain ⟨z0, z1, z2⟩ := hV4.cells
        rcases hkin with ⟨rfl, rfl, rfl⟩ | ⟨rfl, hr, rfl⟩ | ⟨rfl, hr, rfl⟩ | ⟨rfl, rfl, -⟩ | ⟨rfl, hr, rfl⟩
        · have HN : Hid (EncTo w w4 g4 c4 (G0 ++ keyT vb (k + 1)) ∧ L1.length = (G0 ++ keyT vb (k + 1)).length) := by
            have e : G0 ++ keyT vb (k + 1) = L1 := by rw [HL2.out, HVB.out]; simp [bodyB]
            rw [e]; exact ⟨hE4, rfl⟩
          clear hE4 hO4 hB4 hV4 hV
          go_wp2
          go_roundg (m - (k + 1))
          case measure => omega
          case rel => exact ⟨k + 1, g4, c4, by omega, rfl, by rw [HN.out.2], by go_num, HN.out.1⟩
        · have hC5 := putVar_enc w w4 g4 c4 L1 q1 hE4 hby1 (by omega) (by omega) (by omega)
          have e5 : G0 ++ keyT vb (k + 1) = L1 ++ varL q1 := by rw [HL2.out, HVB.out]; simp [bodyB]
          rw [← e5] at hC5
          have E5 : Hid (G0 ++ keyT vb (k + 1) = L1 ++ varL q1) := e5
          clear hE4 hO4 e5 hV
          go_wp2_with fail
          refine hC5.mono ?_
          rintro e w5 ⟨g5, c5, rfl, hE5, -⟩
          have HN : Hid (EncTo w w5 g5 c5 (G0 ++ keyT vb (k + 1))) := hE5
          obtain ⟨L5, hL5⟩ : ∃ L5, Hid (G0 ++ keyT vb (k + 1) = L5) := ⟨_, rfl⟩
          rw [hL5.out] at HN ⊢
          clear hE5 hC5 hB4 hV4
          go_wp2
          go_roundg (m - (k + 1))
          case measure => omega
          case rel => exact ⟨k + 1, g5, c5, by omega, rfl, by rw [hL5.out], by go_num, by rw [hL5.out]; exact HN.out⟩
        · have hC5 := putVar_enc w w4 g4 c4 L1 q1 hE4 hby1 (by omega) (by omega) (by omega)
          have e5 : G0 ++ keyT vb (k + 1) = L1 ++ varL q1 := by rw [HL2.out, HVB.out]; simp [bodyB]
          rw [← e5] at hC5
          have E5 : Hid (G0 ++ keyT vb (k + 1) = L1 ++ varL q1) := e5
          clear hE4 hO4 e5 hV
          go_wp2_with fail
          refine hC5.mono ?_
          rintro e w5 ⟨g5, c5, rfl, hE5, -⟩
          have HN : Hid (EncTo w w5 g5 c5 (G0 ++ keyT vb (k + 1))) := hE5
          obtain ⟨L5, hL5⟩ : ∃ L5, Hid (G0 ++ keyT vb (k + 1) = L5) := ⟨_, rfl⟩
          rw [hL5.out] at HN ⊢
          clear hE5 hC5 hB4 hV4
          go_wp2
          go_roundg (m - (k + 1))
          case measure => omega
          case rel => exact ⟨k + 1, g5, c5, by omega, rfl, by rw [hL5.out], by go_num, by rw [hL5.out]; exact HN.out⟩
        · have hC5 := putText_enc w w4 g4 c4 L1 q2 hE4 hby1 (by omega) (by omega)
          have e5 : G0 ++ keyT vb (k + 1) = L1 ++ (groups (clampN q2.size) ++ sl q2) := by rw [HL2.out, HVB.out]; simp [bodyB]
          rw [← e5] at hC5
          have E5 : Hid (G0 ++ keyT vb (k + 1) = L1 ++ (groups (clampN q2.size) ++ sl q2)) := e5
          clear hE4 hO4 e5 hV
          go_wp2_with fail
          refine hC5.mono ?_
          rintro e w5 ⟨g5, c5, rfl, hE5, -⟩
          have HN : Hid (EncTo w w5 g5 c5 (G0 ++ keyT vb (k + 1))) := hE5
          obtain ⟨L5, hL5⟩ : ∃ L5, Hid (G0 ++ keyT vb (k + 1) = L5) := ⟨_, rfl⟩
          rw [hL5.out] at HN ⊢
          clear hE5 hC5 hB4 hV4
          go_wp2
          go_roundg (m - (k + 1))
          case measure => omega
          case rel => exact ⟨k + 1, g5, c5, by omega, rfl, by rw [hL5.out], by go_num, by rw [hL5.out]; exact HN.out⟩
        · obtain ⟨q1', rfl⟩ : ∃ z : Nat, q1 = z := ⟨q1.toNat, by omega⟩
          have hq : (q1' : Int) % 256 = q1' := by omega
          have e5 : G0 ++ keyT vb (k + 1) = L1 ++ [(q1' : Int)] := by rw [HL2.out, HVB.out]; simp [bodyB]; omega
          have E5 : Hid (G0 ++ keyT vb (k + 1) = L1 ++ [(q1' : Int)]) := e5
          have hs4 := hE4.below.size
          have hcl := cellNew w4 (.int .u8 (q1' : Int)) 5
          have HE4 : Hid (EncTo w w4 g4 c4 L1) := hE4
          have HO4 : Hid (w4.ownsRow w.heap.size 5 1 (.slice (some ⟨g4, 0, none⟩) L1.length c4) L1.length (bl L1)) := own_baseE hO4 hbs
          clear hE4 e5 hV hO4
          go_wp2_with (at_builtin; refine wpList_append_own _ rfl (.tmp 48) (.tmp 52) 22 rfl w.heap.size 5 i0 (.int .u8 0) 1 1 Tryz.underlying22 hi hz0 hz1 hz2 rfl (by decide) (.slice (some ⟨g4, 0, none⟩) L1.length c4) _ _ rfl (HO4.out.alloc _) ⟨w4.heap.size, 0, none⟩ 1 1 [.int .u8 (q1' : Int)] rfl rfl hcl (bl_one [(q1' : Int)]) (by unfold maxLen; omega) (by omega) (by simp; omega) ?_; intro v5 w5 hown5 hgr5 hnil5; obtain ⟨g5, c5, rfl, hg5, hc5, hr5⟩ := row_of_own (l := L1 ++ [(q1' : Int)]) (by rw [bl_append]; exact hown5) (by omega))
          have hB5 : Below w.heap.size w w5 := (HE4.out.below.alloc hs4 _).grown hgr5 (by simp; omega) (fun j e => (HO4.out.lt j e).1)
          have HN : Hid (EncTo w w5 g5 c5 (G0 ++ keyT vb (k + 1))) := by
            have e : L1.length + 1 = (G0 ++ keyT vb (k + 1)).length := by rw [E5.out, List.length_append]; rfl
            refine ⟨?_, hg5, by rw [← e]; exact hc5, hB5⟩
            rw [← e, E5.out]; exact hr5
          have HLe : Hid (L1.length + 1 = (G0 ++ keyT vb (k + 1)).length) := by show _ = _; rw [E5.out, List.length_append]; rfl
          clear hown5 hgr5 hnil5 hr5 hB5 hcl hB4 hV4
          go_wp2
          go_roundg (m - (k + 1))
          case measure => omega
          case rel => exact ⟨k + 1, g5, c5, by omega, rfl, by rw [HLe.out], by go_num, HN.out⟩
      · have hkz : ¬ (k : Int) < (m : Int) := by omega
        obtain rfl : k = m := by omega
        have hC := putSum_enc w wr g3 c3 _ hE (HB.out k) (by have := HLn.out k hk; omega)
        obtain ⟨L, hL⟩ : ∃ L, Hid (G0 ++ keyT vb k = L) := ⟨_, rfl⟩
        rw [hL.out] at hC HRB ⊢
        clear hE h2
        go_wp2_with fail
        refine hC.mono ?_
        rintro e w4 ⟨g4, c4, rfl, hE4⟩
        have HE4 : Hid (EncTo w w4 g4 c4 (sumB L) ∧ OwnB w w4 g4 c4 (sumB L)) := hE4
        clear hE4 hC
        go_wp2
        go_ret
        refine ⟨g4, c4, by rw [HE.out, HRB.out]; rfl, ?_⟩
        rw [HE.out, HRB.out]; exact HE4.out
end Go.Proofs.YtkakkjnbhklfpaaGreatDoor

/-
  The program's putNumbers at one number: what was there, and behind it the number's groups, in memory of its own.
-/
namespace Go.Proofs.YtkakkjnbhklfpaaGreatDoor
open Go.RowKit
set_option maxRecDepth 4000

set_option maxHeartbeats 1000000 in
theorem putNums_one (b off n cap : Nat) (f : Nat → Int) (x : Int) (b2 : Nat) (w : World) (hv : View w (some ⟨b, off, none⟩) n cap f) (hn : n ≤ 35184372088832) (hx0 : -9223372036854775808 ≤ x) (hx1 : x ≤ 9223372036854775807)
    (hx : w.cell? ⟨b2, 0, none⟩ = some (.int .i64 x)) :
    Calls Tryz.prog 144 #[.slice (some ⟨b, off, none⟩) n cap, .slice (some ⟨b2, 0, none⟩) 1 1] w fun e w' => ∃ g c, e = .returned (.slice (some ⟨g, 0, none⟩) (n + (groups (clampN x)).length) c) ∧ w.heap.size ≤ g ∧ n + (groups (clampN x)).length ≤ c ∧ Row 5 w' g (n + (groups (clampN x)).length) (fun i => (lof n f ++ groups (clampN x)).getD i 0) ∧ Below w.heap.size w w' := by
  obtain ⟨i0, hi, hz0, hz1, hz2⟩ := info_parts Tryz.info5
  go_enter Tryz.func144, Tryz.ntmps144
  go_wp2
  refine wp_loop_rounds 2 ?_
  rw [rounds_succ]
  go_wp2
  all_goals
    go_loopg [5, 8] (clampN x).toNat (fun g v s wr => ∃ (y : Int) (ys : List Int), s = .int .i64 y ∧ 0 ≤ y ∧ y ≤ 1000000 ∧ g = y.toNat ∧ groups (clampN x) = ys ++ groups y ∧ wr.ownsRow w.heap.size 5 1 v ys.length (bl ys) ∧ Below w.heap.size w wr)
    case atStart => exact ⟨clampN x, [], congrArg (Value.int .i64) (by unfold clampN; split <;> (try split) <;> omega), (clampN_bd x).1, (clampN_bd x).2, rfl, rfl, World.ownsRow_nil _ _ _ _, Below.refl _ _⟩
    case round =>
      obtain ⟨y, ys, rfl, hy0, hy1, rfl, hgr, hown, hB⟩ := hrel
      have HG : Hid (groups (clampN x) = ys ++ groups y) := hgr
      have hlen : ys.length ≤ 3 := by have := groups_len (clampN x); rw [hgr] at this; simp at this; have := groups_len y; omega
      clear hgr
      by_cases hlt : y < 128
      · go_wp2_with (first | (at_builtin; go_must (refine wpList_append_own _ rfl (.tmp 29) (.tmp 32) 22 rfl w.heap.size 5 i0 (.int .u8 0) 1 1 Tryz.underlying22 hi hz0 hz1 hz2 rfl (by decide) u5 _ _ rfl (hown.alloc _) ⟨wr.heap.size, 0, none⟩ 1 1 [.int .u8 y] rfl rfl (cellNew _ _ _) (bl_one [y]) (by unfold maxLen; omega) (by omega) (by have := hB.size; simp; omega) ?_); intro v2 w2 hown2 hgr2 _))
        have hB2 : Below w.heap.size w w2 := (hB.alloc hB.size _).grown hgr2 (by have := hB.size; simp; omega) (fun k hk => (hown.lt k hk).1)
        have hO2 : w2.ownsRow w.heap.size 5 1 v2 (groups (clampN x)).length (bl (groups (clampN x))) := by
          rw [HG.out, groups_last y hlt, List.length_append, bl_append]
          exact hown2
        clear hgr2 hown hown2 hB
        obtain ⟨g, c, hv2, hg, hgc, hrow⟩ := row_of_own hO2 (groups_len (clampN x)).1
        clear hO2
        have HL : Hid ((groups (clampN x)).length ≤ 3) := (groups_len (clampN x)).2
        have HB : Hid (∀ i, i < (groups (clampN x)).length → 0 ≤ (groups (clampN x)).getD i 0 ∧ (groups (clampN x)).getD i 0 ≤ 255) := fun i hi => by
          have := groups_byte (clampN x) (clampN_bd x).1 (clampN_bd x).2 _ (List.getElem_mem hi)
          simpa [hi] using this
        generalize hgs : groups (clampN x) = gs at *
        have HE : Hid (groups (clampN x) = gs) := hgs
        clear hgs HG
        rw [hv2]
        clear hv2
        go_wp2
        rw [rounds_succ]
        go_wp2_with fail
        refine (putBytes_any b off n cap f (some ⟨g, 0, none⟩) gs.length c (fun i => gs.getD i 0) w2 (hv.below hB2) (hrow.view hgc HB.out) (by intro h; cases h) (by have := HL.out; omega)).mono ?_
        rintro e w3 ⟨rfl, hown3, hb3⟩
        go_wp2
        go_ret
        rw [lof_self] at hown3
        rw [HE.out]
        exact ⟨w2.heap.size, n + gs.length, rfl, hB2.size, Nat.le_refl _, row_of_owned hown3, hB2.trans (hb3.mono hB2.size)⟩
      · have hG2 : Hid (groups (clampN x) = (ys ++ [y % 128 + 128]) ++ groups (y / 128)) := by
          have := HG.out
          rw [groups_step y (by omega) hy1] at this
          rw [List.append_assoc]; exact this
        go_wp2_with (at_builtin; go_must (refine wpList_append_own _ rfl (.tmp 20) (.tmp 25) 22 rfl w.heap.size 5 i0 (.int .u8 0) 1 1 Tryz.underlying22 hi hz0 hz1 hz2 rfl (by decide) u5 _ _ rfl (hown.alloc _) ⟨wr.heap.size, 0, none⟩ 1 1 [.int .u8 (y % 128 + 128)] rfl rfl (cellNew _ _ _) (bl_one [y % 128 + 128]) (by unfold maxLen; omega) (by omega) (by have := hB.size; simp; omega) ?_); intro v2 w2 hown2 hgr2 _)
        have hB2 : Below w.heap.size w w2 := (hB.alloc hB.size _).grown hgr2 (by have := hB.size; simp; omega) (fun k hk => (hown.lt k hk).1)
        have hO2 : w2.ownsRow w.heap.size 5 1 v2 (ys ++ [y % 128 + 128]).length (bl (ys ++ [y % 128 + 128])) := by
          rw [List.length_append, bl_append]
          exact hown2
        clear hgr2 hown hown2 hB
        go_wp2
        go_roundg ((y / 128).toNat)
        case measure => omega
        case rel => exact ⟨y / 128, ys ++ [y % 128 + 128], rfl, by omega, by omega, rfl, hG2.out, hO2, hB2⟩

end Go.Proofs.YtkakkjnbhklfpaaGreatDoor

/-
  The program's putBytes, putNumbers and PutU behind bytes that may be nil.
-/
namespace Go.Proofs.YtkakkjnbhklfpaaGreatDoor
open Go.RowKit
set_option maxRecDepth 4000

set_option maxHeartbeats 1000000 in
theorem putBytes_opt (ai : Option Addr) (n cap : Nat) (f : Nat → Int) (ao : Option Addr) (m c : Nat) (g : Nat → Int) (w : World) (hv : View w ai n cap f) (hni : ai = none → n = 0 ∧ cap = 0) (hg : View w ao m c g) (hno : ao = none → m = 0 ∧ c = 0) (hn : n + m ≤ 70368744177664) :
    Calls Tryz.prog 37 #[.slice ai n cap, .slice ao m c] w fun e w' => e = .returned (.slice (some ⟨w.heap.size, 0, none⟩) (n + m) (n + m)) ∧ w'.ownsRow w.heap.size 5 1 (.slice (some ⟨w.heap.size, 0, none⟩) (n + m) (n + m)) (n + m) (bl (lof n f ++ lof m g)) ∧ Below w.heap.size w w' := by
  obtain ⟨i0, hi, hz0, hz1, hz2⟩ := info_parts Tryz.info5
  go_enter Tryz.func37, Tryz.ntmps37
  go_wp2_with (first | (at_make; go_must (refine wpList_make_own _ rfl (.const (.int .i64 0)) (.tmp 10) 22 rfl w.heap.size 5 i0 (.int .u8 0) 1 Tryz.underlying22 hi hz0 hz1 .i64 .i64 ((n : Int) + (m : Int)) (n + m) rfl rfl (by omega) (by rw [hz2]; omega) (by unfold maxLen; omega) (Nat.le_refl _) ?_); intro w1 hown1 hgr1) | (at_builtin; refine wpList_append_fits_any _ rfl (.tmp 12) (.tmp 13) 22 rfl w.heap.size 5 i0 1 Tryz.underlying22 hi hz1 w.heap.size 0 (n + m) [] rfl hown1 ai n cap (bl (lof n f)) rfl (by rw [bl_len, lof_len]; omega) hni (cells_of_any (hv.below (below_new hgr1))) (bl_one _) (by omega) ?_; intro w2 hown2 hgr2; simp only [Nat.zero_add, List.nil_append] at hown2) | (at_builtin; refine wpList_append_fits_any _ rfl (.tmp 15) (.tmp 16) 22 rfl w.heap.size 5 i0 1 Tryz.underlying22 hi hz1 w.heap.size n (n + m) (bl (lof n f)) rfl hown2 ao m c (bl (lof m g)) rfl (by rw [bl_len, lof_len]; omega) hno (cells_of_any (hg.below (below_app hgr1 hgr2))) (bl_one _) (by omega) ?_; intro w3 hown3 hgr3))
  go_ret
  exact ⟨rfl, by rw [bl_append]; exact hown3, (below_app hgr1 hgr2).grown hgr3 (Nat.le_trans hgr1.size hgr2.size) (by intro k hk; cases hk; exact Nat.le_refl _)⟩
set_option maxHeartbeats 1000000 in
theorem putNums_opt (ai : Option Addr) (n cap : Nat) (f : Nat → Int) (x : Int) (b2 : Nat) (w : World) (hv : View w ai n cap f) (hni : ai = none → n = 0 ∧ cap = 0) (hn : n ≤ 35184372088832) (hx0 : -9223372036854775808 ≤ x) (hx1 : x ≤ 9223372036854775807)
    (hx : w.cell? ⟨b2, 0, none⟩ = some (.int .i64 x)) :
    Calls Tryz.prog 144 #[.slice ai n cap, .slice (some ⟨b2, 0, none⟩) 1 1] w fun e w' => ∃ g c, e = .returned (.slice (some ⟨g, 0, none⟩) (n + (groups (clampN x)).length) c) ∧ w.heap.size ≤ g ∧ n + (groups (clampN x)).length ≤ c ∧ Row 5 w' g (n + (groups (clampN x)).length) (fun i => (lof n f ++ groups (clampN x)).getD i 0) ∧ Below w.heap.size w w' := by
  obtain ⟨i0, hi, hz0, hz1, hz2⟩ := info_parts Tryz.info5
  go_enter Tryz.func144, Tryz.ntmps144
  go_wp2
  refine wp_loop_rounds 2 ?_
  rw [rounds_succ]
  go_wp2
  all_goals
    go_loopg [5, 8] (clampN x).toNat (fun g v s wr => ∃ (y : Int) (ys : List Int), s = .int .i64 y ∧ 0 ≤ y ∧ y ≤ 1000000 ∧ g = y.toNat ∧ groups (clampN x) = ys ++ groups y ∧ wr.ownsRow w.heap.size 5 1 v ys.length (bl ys) ∧ Below w.heap.size w wr)
    case atStart => exact ⟨clampN x, [], congrArg (Value.int .i64) (by unfold clampN; split <;> (try split) <;> omega), (clampN_bd x).1, (clampN_bd x).2, rfl, rfl, World.ownsRow_nil _ _ _ _, Below.refl _ _⟩
    case round =>
      obtain ⟨y, ys, rfl, hy0, hy1, rfl, hgr, hown, hB⟩ := hrel
      have HG : Hid (groups (clampN x) = ys ++ groups y) := hgr
      have hlen : ys.length ≤ 3 := by have := groups_len (clampN x); rw [hgr] at this; simp at this; have := groups_len y; omega
      clear hgr
      by_cases hlt : y < 128
      · go_wp2_with (first | (at_builtin; go_must (refine wpList_append_own _ rfl (.tmp 29) (.tmp 32) 22 rfl w.heap.size 5 i0 (.int .u8 0) 1 1 Tryz.underlying22 hi hz0 hz1 hz2 rfl (by decide) u5 _ _ rfl (hown.alloc _) ⟨wr.heap.size, 0, none⟩ 1 1 [.int .u8 y] rfl rfl (cellNew _ _ _) (bl_one [y]) (by unfold maxLen; omega) (by omega) (by have := hB.size; simp; omega) ?_); intro v2 w2 hown2 hgr2 _))
        have hB2 : Below w.heap.size w w2 := (hB.alloc hB.size _).grown hgr2 (by have := hB.size; simp; omega) (fun k hk => (hown.lt k hk).1)
        have hO2 : w2.ownsRow w.heap.size 5 1 v2 (groups (clampN x)).length (bl (groups (clampN x))) := by
          rw [HG.out, groups_last y hlt, List.length_append, bl_append]
          exact hown2
        clear hgr2 hown hown2 hB
        obtain ⟨g, c, hv2, hg, hgc, hrow⟩ := row_of_own hO2 (groups_len (clampN x)).1
        clear hO2
        have HL : Hid ((groups (clampN x)).length ≤ 3) := (groups_len (clampN x)).2
        have HB : Hid (∀ i, i < (groups (clampN x)).length → 0 ≤ (groups (clampN x)).getD i 0 ∧ (groups (clampN x)).getD i 0 ≤ 255) := fun i hi => by
          have := groups_byte (clampN x) (clampN_bd x).1 (clampN_bd x).2 _ (List.getElem_mem hi)
          simpa [hi] using this
        generalize hgs : groups (clampN x) = gs at *
        have HE : Hid (groups (clampN x) = gs) := hgs
        clear hgs HG
        rw [hv2]
        clear hv2
        go_wp2
        rw [rounds_succ]
        go_wp2_with fail
        refine (putBytes_opt ai n cap f (some ⟨g, 0, none⟩) gs.length c (fun i => gs.getD i 0) w2 (hv.below hB2) hni (hrow.view hgc HB.out) (by intro h; cases h) (by have := HL.out; omega)).mono ?_
        rintro e w3 ⟨rfl, hown3, hb3⟩
        go_wp2
        go_ret
        rw [lof_self] at hown3
        rw [HE.out]
        exact ⟨w2.heap.size, n + gs.length, rfl, hB2.size, Nat.le_refl _, row_of_owned hown3, hB2.trans (hb3.mono hB2.size)⟩
      · have hG2 : Hid (groups (clampN x) = (ys ++ [y % 128 + 128]) ++ groups (y / 128)) := by
          have := HG.out
          rw [groups_step y (by omega) hy1] at this
          rw [List.append_assoc]; exact this
        go_wp2_with (at_builtin; go_must (refine wpList_append_own _ rfl (.tmp 20) (.tmp 25) 22 rfl w.heap.size 5 i0 (.int .u8 0) 1 1 Tryz.underlying22 hi hz0 hz1 hz2 rfl (by decide) u5 _ _ rfl (hown.alloc _) ⟨wr.heap.size, 0, none⟩ 1 1 [.int .u8 (y % 128 + 128)] rfl rfl (cellNew _ _ _) (bl_one [y % 128 + 128]) (by unfold maxLen; omega) (by omega) (by have := hB.size; simp; omega) ?_); intro v2 w2 hown2 hgr2 _)
        have hB2 : Below w.heap.size w w2 := (hB.alloc hB.size _).grown hgr2 (by have := hB.size; simp; omega) (fun k hk => (hown.lt k hk).1)
        have hO2 : w2.ownsRow w.heap.size 5 1 v2 (ys ++ [y % 128 + 128]).length (bl (ys ++ [y % 128 + 128])) := by
          rw [List.length_append, bl_append]
          exact hown2
        clear hgr2 hown hown2 hB
        go_wp2
        go_roundg ((y / 128).toNat)
        case measure => omega
        case rel => exact ⟨y / 128, ys ++ [y % 128 + 128], rfl, by omega, by omega, rfl, hG2.out, hO2, hB2⟩

set_option maxHeartbeats 1000000 in
theorem putU_opt (ai : Option Addr) (n cap : Nat) (f : Nat → Int) (x : Int) (w : World) (hv : View w ai n cap f) (hni : ai = none → n = 0 ∧ cap = 0) (hn : n ≤ 35184372088832) (hx0 : -9223372036854775808 ≤ x) (hx1 : x ≤ 9223372036854775807) :
    Calls Tryz.prog 110 #[.slice ai n cap, .int .i64 x] w fun e w' => ∃ g c, e = .returned (.slice (some ⟨g, 0, none⟩) (n + (groups (clampN x)).length) c) ∧ w.heap.size ≤ g ∧ n + (groups (clampN x)).length ≤ c ∧ Row 5 w' g (n + (groups (clampN x)).length) (fun i => (lof n f ++ groups (clampN x)).getD i 0) ∧ Below w.heap.size w w' := by
  go_enter Tryz.func110, Tryz.ntmps110
  go_wp2_with fail
  have hb1 : Below w.heap.size w (w.alloc (.cells #[.int .i64 x] 3)) := (Below.refl _ _).alloc (Nat.le_refl _) _
  refine (putNums_opt ai n cap f x w.heap.size _ (hv.below hb1) hni hn hx0 hx1 (by simp)).mono ?_
  rintro e w2 ⟨g, c, rfl, hg, hgc, hrow, hb2⟩
  go_wp2
  go_ret
  exact ⟨g, c, rfl, by simp at hg; omega, hgc, hrow, hb1.trans (hb2.mono (by simp))⟩
end Go.Proofs.YtkakkjnbhklfpaaGreatDoor

