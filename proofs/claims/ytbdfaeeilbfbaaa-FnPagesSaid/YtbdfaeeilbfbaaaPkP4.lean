/-
  Together: PutTextImpl, PutSpec, PutTextSpec, CrcSpec, SumSpec, L1In, PagePut, RowZ
-/
import Derived.Test.YtbdfaeeilbfbaaaPkP3
import Derived.Test.YtbdfaeeilbfbaaaPkP2
import Derived.Laws.IdiomStrings
import Derived.Test.YtbdfaeeilbfbaaaPkP1
import Derived.WalkSpells
import Derived.Deep.RegionHeld3
/-
  The program's PutText: what was there, the number of the text's bytes, and these, in memory of its own.
-/
namespace Go.Proofs.Ytbdfaeeilbfbaaa
open Go.RowKit
set_option maxRecDepth 4000

/-- What '[]byte(s)' lays reads as the text's bytes. -/
theorem text_view (w : World) (s : ByteArray) (cap : Nat) (m : Nat × Nat) (hc : s.size ≤ cap) : View (w.alloc (.cells (bytesRow s cap) 5 m)) (some ⟨w.heap.size, 0, none⟩) s.size cap (fun i => (sl s).getD i 0) := by
  refine ⟨hc, fun i hi => ?_, fun _ => ⟨w.heap.size, 0, rfl, by simp, fun i hi => ?_⟩⟩
  · have hi' : i < (sl s).length := by rw [sl_len]; exact hi
    have := sl_byte s _ (List.getElem_mem hi')
    simpa [hi'] using this
  · have hi' : i < (sl s).length := by rw [sl_len]; exact hi
    have hd : i < s.data.size := hi
    have e1 : (bytesRow s cap)[i]? = some (.int .u8 ((sl s).getD i 0)) := by
      unfold bytesRow
      rw [Array.getElem?_append_left (by simpa using hd)]
      simp [sl]
      exact ⟨s.data[i], Array.getElem?_eq_getElem hd, by rw [Array.getElem?_eq_getElem hd]; rfl⟩
    rw [Nat.zero_add, World.cell?]
    rw [show (w.alloc (.cells (bytesRow s cap) 5 m)).heap[w.heap.size]? = some (.cells (bytesRow s cap) 5 m) from Deep.blk_alloc_new _ _]
    simp [e1]

set_option maxHeartbeats 1000000 in
theorem putText_impl (b off n cap : Nat) (f : Nat → Int) (s : ByteArray) (w : World) (hv : View w (some ⟨b, off, none⟩) n cap f) (hn : n ≤ 17592186044416) (hs : s.size ≤ 17592186044416) :
    Calls Try.prog 68 #[.slice (some ⟨b, off, none⟩) n cap, .string s] w fun e w' => ∃ g c, e = .returned (.slice (some ⟨g, 0, none⟩) (n + (groups (clampN s.size)).length + s.size) c) ∧ w.heap.size ≤ g ∧ n + (groups (clampN s.size)).length + s.size ≤ c ∧ Row 5 w' g (n + (groups (clampN s.size)).length + s.size) (fun i => (textL n f s).getD i 0) ∧ Below w.heap.size w w' := by
  have hgl := (groups_len (clampN s.size)).2
  have hgb : Hid (∀ y ∈ groups (clampN s.size), 0 ≤ y ∧ y ≤ 255) := groups_byte _ (clampN_bd _).1 (clampN_bd _).2
  obtain ⟨gs, hgs⟩ : ∃ gs, Hid (groups (clampN s.size) = gs) := ⟨_, rfl⟩
  rw [hgs.out] at hgl hgb
  have kc := fun w => run_bytes_of_string (P := Try.prog) w 9 22 5 s Try.underlying9 Try.underlying22 Try.underlying5
  go_enter Try.func68, Try.ntmps68
  go_wp2_with fail
  have hb1 : Below w.heap.size w (w.alloc (.cells #[.int .i64 (s.size : Int)] 3)) := (Below.refl _ _).alloc (Nat.le_refl _) _
  refine (putNums_one b off n cap f (s.size : Int) w.heap.size _ (hv.below hb1) (by omega) (by omega) (by omega) (by simp)).mono ?_
  rintro e w2 ⟨g, c, rfl, hg, hgc, hrow, hb2⟩
  rw [hgs.out] at hrow hgc ⊢
  replace hb2 := hb1.trans (hb2.mono (by simp))
  go_wp2_with fail
  obtain ⟨cp, hcp⟩ : ∃ cp, cp = grownCap w2 s.size 0 5 := ⟨_, rfl⟩
  have hge : s.size ≤ cp := by rw [hcp]; exact grownCap_ge _ _ _ _
  rw [← hcp]
  clear hcp kc
  have hb3 : Below w2.heap.size w2 (w2.alloc (.cells (bytesRow s cp) 5 ((bytesRow s cp).size, (bytesRow s cp).size + 1))).drew := ((Below.refl _ _).alloc (Nat.le_refl _) _).drew
  have hvt : View (w2.alloc (.cells (bytesRow s cp) 5 ((bytesRow s cp).size, (bytesRow s cp).size + 1))).drew (some ⟨w2.heap.size, 0, none⟩) s.size cp (fun i => (sl s).getD i 0) := (text_view w2 s cp _ hge).below (Below.refl _ _).drew
  refine (putBytes_any g 0 (n + gs.length) c _ (some ⟨w2.heap.size, 0, none⟩) s.size cp (fun i => (sl s).getD i 0) _ ((hrow.belowAll hb3).view hgc (put_byte n f gs hv.byte hgb.out)) hvt (by intro h; cases h) (by omega)).mono ?_
  rintro e w3 ⟨rfl, hown, hb4⟩
  have el1 : lof (n + gs.length) (fun i => (lof n f ++ gs).getD i 0) = lof n f ++ gs := by
    have := lof_self (lof n f ++ gs)
    rw [List.length_append, lof_len] at this
    exact this
  have el2 : lof s.size (fun i => (sl s).getD i 0) = sl s := by
    have := lof_self (sl s)
    rw [sl_len] at this
    exact this
  rw [el1, el2] at hown
  have hr := row_of_owned hown
  have hgr : w.heap.size ≤ (w2.alloc (.cells (bytesRow s cp) 5 ((bytesRow s cp).size, (bytesRow s cp).size + 1))).drew.heap.size := Nat.le_trans hb2.size hb3.size
  have hbb := hb2.trans ((hb3.mono hb2.size).trans (hb4.mono hgr))
  clear hown hb4 hb3 hvt el1 el2 hrow
  generalize (w2.alloc (.cells (bytesRow s cp) 5 ((bytesRow s cp).size, (bytesRow s cp).size + 1))).drew.heap.size = G at *
  go_wp2
  go_ret
  unfold textL
  rw [hgs.out]
  exact ⟨G, _, rfl, hgr, Nat.le_refl _, hr, hbb⟩
end Go.Proofs.Ytbdfaeeilbfbaaa

/-
  The model's PutU: what was there, and behind it the number's groups, in memory of its own.
-/
namespace Go.Proofs.Ytbdfaeeilbfbaaa
open Go.RowKit
set_option maxRecDepth 4000

set_option maxHeartbeats 1000000 in
theorem putU_spec (b off n cap : Nat) (f : Nat → Int) (x : Int) (w : World) (hv : View w (some ⟨b, off, none⟩) n cap f) (hn : n ≤ 70368744177664) (hx0 : -9223372036854775808 ≤ x) (hx1 : x ≤ 9223372036854775807) :
    Calls Try.prog 90 #[.slice (some ⟨b, off, none⟩) n cap, .int .i64 x] w fun e w' => ∃ v, e = .returned v ∧ w'.ownsRow w.heap.size 5 1 v (n + (groups (clampN x)).length) (bl (lof n f ++ groups (clampN x))) ∧ Below w.heap.size w w' := by
  obtain ⟨i0, hi, hz0, hz1, hz2⟩ := info_parts Try.info5
  have hown0 := World.ownsRow_lit (base := w.heap.size) (e := 5) (size := 1) w #[] 0 (Nat.le_refl _) (Nat.zero_le _) rfl
  have hb0 : Below w.heap.size w (w.alloc (.cells #[] 5)) := (Below.refl _ _).alloc (Nat.le_refl _) _
  have hcl := cells_of_view (hv.below hb0)
  have hsz : (w.alloc (.cells #[] 5)).heap.size = w.heap.size + 1 := by simp
  go_enter Try.func90, Try.ntmps90
  go_wp2_with (at_builtin; go_must (refine wpList_append_own _ rfl (.tmp 6) (.tmp 7) 22 rfl w.heap.size 5 i0 (.int .u8 0) 1 1 Try.underlying22 hi hz0 hz1 hz2 rfl (by decide) (.slice (some ⟨w.heap.size, 0, none⟩) 0 0) 0 [] rfl hown0 ⟨b, off, none⟩ n cap (bl (lof n f)) rfl (by rw [bl_len, lof_len]; omega) hcl (bl_one _) (by unfold maxLen; omega) (by omega) (by rw [hsz]; omega) ?_); intro v1 w1 hown1 hgr1 _)
  all_goals
    have hb1 : Below w.heap.size w w1 := hb0.grown hgr1 (by simp) (fun k hk => by simp only [Value.ownBlock, Option.some.injEq] at hk; omega)
    clear hown0 hcl hsz hgr1 hb0 hv
    simp only [Nat.zero_add, List.nil_append] at hown1
    go_loopg [1, 5] (clampN x).toNat (fun g s v wr => ∃ (y : Int) (ys : List Int), s = .int .i64 y ∧ 0 ≤ y ∧ y ≤ 1000000 ∧ g = y.toNat ∧ groups (clampN x) = ys ++ groups y ∧ wr.ownsRow w.heap.size 5 1 v (n + ys.length) (bl (lof n f ++ ys)) ∧ Below w.heap.size w wr)
    case atStart => exact ⟨clampN x, [], congrArg (Value.int .i64) (by unfold clampN; split <;> (try split) <;> omega), (clampN_bd x).1, (clampN_bd x).2, rfl, rfl, by rw [List.append_nil]; exact hown1, hb1⟩
    case round =>
      obtain ⟨y, ys, rfl, hy0, hy1, rfl, hgr, hown, hB⟩ := hrel
      clear hown1 hb1
      have HG : Hid (groups (clampN x) = ys ++ groups y) := hgr
      have hlen : n + ys.length ≤ n + 3 := by have := groups_len (clampN x); rw [hgr] at this; simp at this; have := groups_len y; omega
      clear hgr
      have hA : ∀ z : Int, bits .and .i64 z 127 = z % 128 := i64_and127
      have hq : bits .or .i64 (y % 128) 128 = y % 128 + 128 := i64_or_add 7 _ _ (by omega) (by show _ < (128 : Int); omega) (by omega) (by decide) (by omega) (by decide)
      by_cases hlt : y < 128
      · go_wp2_with (at_builtin; go_must (refine wpList_append_own _ rfl (.tmp 24) (.tmp 27) 22 rfl w.heap.size 5 i0 (.int .u8 0) 1 1 Try.underlying22 hi hz0 hz1 hz2 rfl (by decide) u5 _ _ rfl (hown.alloc _) ⟨wr.heap.size, 0, none⟩ 1 1 [.int .u8 y] rfl rfl (cellNew _ _ _) (bl_one [y]) (by unfold maxLen; omega) (by omega) (by have := hB.size; simp; omega) ?_); intro v2 w2 hown2 hgr2 _)
        go_ret
        refine ⟨v2, rfl, ?_, ?_⟩
        · rw [HG.out, groups_last y hlt, List.length_append, ← List.append_assoc, bl_append]
          rw [Nat.add_assoc] at hown2
          exact hown2
        · exact (hB.alloc hB.size _).grown hgr2 (by have := hB.size; simp; omega) (fun k hk => (hown.lt k hk).1)
      · have hS : y / 128 < y := by omega
        have hG2 : Hid (groups (clampN x) = (ys ++ [y % 128 + 128]) ++ groups (y / 128)) := by
          have := HG.out
          rw [groups_step y (by omega) hy1] at this
          rw [List.append_assoc]; exact this
        go_wp2_with (at_builtin; go_must (refine wpList_append_own _ rfl (.tmp 15) (.tmp 20) 22 rfl w.heap.size 5 i0 (.int .u8 0) 1 1 Try.underlying22 hi hz0 hz1 hz2 rfl (by decide) u5 _ _ rfl (hown.alloc _) ⟨wr.heap.size, 0, none⟩ 1 1 [.int .u8 (y % 128 + 128)] rfl rfl (cellNew _ _ _) (bl_one [y % 128 + 128]) (by unfold maxLen; omega) (by omega) (by have := hB.size; simp; omega) ?_); intro v2 w2 hown2 hgr2 _)
        have hB2 : Below w.heap.size w w2 := (hB.alloc hB.size _).grown hgr2 (by have := hB.size; simp; omega) (fun k hk => (hown.lt k hk).1)
        have hO2 : w2.ownsRow w.heap.size 5 1 v2 (n + (ys ++ [y % 128 + 128]).length) (bl (lof n f ++ (ys ++ [y % 128 + 128]))) := by
          rw [List.length_append, ← List.append_assoc, bl_append]
          rw [Nat.add_assoc] at hown2
          exact hown2
        clear hgr2 hown hown2 hB
        go_wp2
        go_roundg ((y / 128).toNat)
        case measure => omega
        case rel => exact ⟨y / 128, ys ++ [y % 128 + 128], rfl, by omega, by omega, rfl, hG2.out, hO2, hB2⟩
end Go.Proofs.Ytbdfaeeilbfbaaa

/-
  The model's PutText: what was there, the number of the text's bytes, and these, in memory of its own.
-/
namespace Go.Proofs.Ytbdfaeeilbfbaaa
open Go.RowKit
set_option maxRecDepth 4000

set_option maxHeartbeats 1000000 in
theorem putText_spec (b off n cap : Nat) (f : Nat → Int) (s : ByteArray) (w : World) (hv : View w (some ⟨b, off, none⟩) n cap f) (hn : n ≤ 35184372088832) (hs : s.size ≤ 35184372088832) :
    Calls Try.prog 89 #[.slice (some ⟨b, off, none⟩) n cap, .string s] w fun e w' => ∃ g c, e = .returned (.slice (some ⟨g, 0, none⟩) (n + (groups (clampN s.size)).length + s.size) c) ∧ w.heap.size ≤ g ∧ n + (groups (clampN s.size)).length + s.size ≤ c ∧ Row 5 w' g (n + (groups (clampN s.size)).length + s.size) (fun i => (textL n f s).getD i 0) ∧ Below w.heap.size w w' := by
  obtain ⟨i0, hi, hz0, hz1, hz2⟩ := info_parts Try.info5
  have hgl := (groups_len (clampN s.size)).2
  have hg1 := (groups_len (clampN s.size)).1
  obtain ⟨gs, hgs⟩ : ∃ gs, Hid (groups (clampN s.size) = gs) := ⟨_, rfl⟩
  rw [hgs.out] at hgl hg1
  go_enter Try.func89, Try.ntmps89
  go_wp2_with fail
  refine (putU_spec b off n cap f (s.size : Int) w hv (by omega) (by omega) (by omega)).mono ?_
  rintro e w1 ⟨v, rfl, hown, hb1⟩
  rw [hgs.out] at hown
  go_wp2_with (at_builtin; go_must (refine Lib.wpList_append_own_string _ rfl (.tmp 8) (.tmp 9) 22 9 rfl w.heap.size 5 i0 Try.underlying22 Try.underlying9 hi hz0 hz1 hz2 v _ _ rfl hown s rfl (by unfold maxLen; omega) (by omega) hb1.size ?_); intro v2 w2 hown2 hgr2 _)
  have hb2 : Below w.heap.size w w2 := hb1.grown hgr2 hb1.size (fun k hk => (hown.lt k hk).1)
  go_ret
  rw [sl_cells, ← bl_append] at hown2
  obtain ⟨g, c, hv2, hg, hgc, hrow⟩ := row_of_own hown2 (by omega)
  unfold textL
  rw [hgs.out, hv2]
  exact ⟨g, c, rfl, hg, hgc, hrow, hb2⟩

end Go.Proofs.Ytbdfaeeilbfbaaa

/-
  The model's Crc comes to the plain sum, at every slice of bytes that reads.
-/
namespace Go.Proofs.Ytbdfaeeilbfbaaa
open Go.RowKit
set_option maxRecDepth 4000

set_option maxHeartbeats 1000000 in
theorem crc_spec (ao : Option Addr) (n cap : Nat) (f : Nat → Int) (w : World) (hv : View w ao n cap f) (hn : n ≤ 281474976710656) :
    Calls Try.prog 91 #[.slice ao n cap] w fun e w' => e = .returned (.int .i64 ((crc n f : Nat) : Int)) ∧ w = w' := by
  go_enter Try.func91, Try.ntmps91
  go_wp2
  go_loopg [3, 4] n (fun g s i wr => w = wr ∧ ∃ k y : Nat, k ≤ n ∧ g = n - k ∧ s = .int .i64 (y : Int) ∧ i = .int .i64 k ∧ y < 4294967296 ∧ y = crcTo f k)
  case atStart => exact ⟨rfl, 0, 4294967295, by omega, rfl, rfl, rfl, by decide, rfl⟩
  case round =>
    obtain ⟨rfl, k, y, hk, rfl, rfl, rfl, hy, hyk⟩ := hrel
    have HY : Hid (y = crcTo f k) := hyk
    clear hyk
    by_cases hlt : k < n
    · obtain ⟨b, off, rfl, hb, hc⟩ := hv.cells (by omega)
      have hkz : (k : Int) < (n : Int) := by omega
      have hc1 := hc k hlt
      have hbk := hv.byte k hlt
      have q1 := i64_in y (f k) hy hbk
      have hlt2 := xorByte_lt hy hbk
      obtain ⟨hbk0, hbk1⟩ := hbk
      clear hc
      go_wp2
      clear q1 hc1
      go_loopg [3, 5] 8 (fun g s i wi => w = wi ∧ ∃ j z : Nat, j ≤ 8 ∧ g = 8 - j ∧ s = .int .i64 (z : Int) ∧ i = .int .i64 j ∧ z < 4294967296 ∧ z = crcBits j (y ^^^ (f k).toNat))
      case atStart => exact ⟨rfl, 0, y ^^^ (f k).toNat, by omega, rfl, rfl, rfl, hlt2, rfl⟩
      case round =>
        obtain ⟨rfl, j, z, hj, rfl, rfl, rfl, hz, hzj⟩ := hrel
        have HZ : Hid (z = crcBits j (y ^^^ (f k).toNat)) := hzj
        clear hzj
        by_cases hj8 : j < 8
        · have hjz : (j : Int) < 8 := by omega
          by_cases hodd : z % 2 = 1
          · have q1 : bits .and .i64 (z : Int) 1 = 1 := by rw [i64_and1 z (by omega), hodd]; rfl
            have q2 := i64_turn z hz
            have HO : Hid (z % 2 = 1) := hodd
            clear hodd
            go_wp2
            go_roundg (8 - (j + 1))
            case measure => omega
            case rel => exact ⟨rfl, j + 1, z / 2 ^^^ 2197175160, by omega, rfl, rfl, by go_num, Nat.xor_lt_two_pow (n := 32) (by omega) (by decide), by rw [← crcBit_odd z HO.out, HZ.out]; rfl⟩
          · have q1 : bits .and .i64 (z : Int) 1 = 0 := by rw [i64_and1 z (by omega), show z % 2 = 0 by omega]; rfl
            have HO : Hid (¬ z % 2 = 1) := hodd
            clear hodd
            go_wp2
            go_roundg (8 - (j + 1))
            case measure => omega
            case rel => exact ⟨rfl, j + 1, z / 2, by omega, rfl, by go_num, by go_num, by omega, by rw [← crcBit_even z HO.out, HZ.out]; rfl⟩
        · obtain rfl : j = 8 := by omega
          go_wp2
          go_roundg (n - (k + 1))
          case measure => omega
          case rel => exact ⟨rfl, k + 1, z, by omega, rfl, rfl, by go_num, hz, by rw [HZ.out, HY.out]; rfl⟩
    · obtain rfl : k = n := by omega
      have q1 := i64_last y hy
      go_wp2
      go_ret
      exact ⟨retInt (congrArg (fun z : Nat => ((z ^^^ 4294967295 : Nat) : Int)) HY.out), rfl⟩

theorem crc_spec' {c : Nat} (ao : Option Addr) (n cap : Nat) (f : Nat → Int) (w : World) (hg : Hid (crc n f = c)) (hv : View w ao n cap f) (hn : n ≤ 281474976710656) :
    Calls Try.prog 91 #[.slice ao n cap] w fun e w' => e = .returned (.int .i64 (c : Int)) ∧ w = w' := by
  have h := crc_spec ao n cap f w hv hn
  rw [hg.out] at h; exact h

end Go.Proofs.Ytbdfaeeilbfbaaa

/-
  The model's PutSum: what was there, and behind it the four bytes of its sum, in memory of its own.
-/
namespace Go.Proofs.Ytbdfaeeilbfbaaa
open Go.RowKit
set_option maxRecDepth 4000

set_option maxHeartbeats 1000000 in
theorem putSum_own (b off n cap : Nat) (f : Nat → Int) (w : World) (hv : View w (some ⟨b, off, none⟩) n cap f) (hn : n ≤ 35184372088832) :
    Calls Try.prog 88 #[.slice (some ⟨b, off, none⟩) n cap] w fun e w' => ∃ v, e = .returned v ∧ w'.ownsRow w.heap.size 5 1 v (n + 4) (bl (lof n f ++ sumL (crc n f))) ∧ Below w.heap.size w w' := by
  obtain ⟨i0, hi, hz0, hz1, hz2⟩ := info_parts Try.info5
  have hlt := crc_lt hv.byte
  obtain ⟨c, hc⟩ : ∃ c, Hid (crc n f = c) := ⟨_, rfl⟩
  rw [hc.out] at hlt
  have hcz : (c : Int) < 4294967296 := by omega
  have hw : ∀ x : Int, IntKind.u8.wrap x = x % 256 := u8_wrap
  have hown0 := World.ownsRow_lit (base := w.heap.size) (e := 5) (size := 1) w #[] 0 (Nat.le_refl _) (Nat.zero_le _) rfl
  have hb0 : Below w.heap.size w (w.alloc (.cells #[] 5)) := (Below.refl _ _).alloc (Nat.le_refl _) _
  have hcl := cells_of_view (hv.below hb0)
  have hsz : (w.alloc (.cells #[] 5)).heap.size = w.heap.size + 1 := by simp
  go_enter Try.func88, Try.ntmps88
  go_wp2_with fail
  refine (crc_spec' _ n cap f w hc hv (by omega)).mono ?_
  rintro e _ ⟨rfl, rfl⟩
  go_wp2_with (first | (at_builtin; refine wpList_append_own _ rfl (.tmp 6) (.tmp 7) 22 rfl w.heap.size 5 i0 (.int .u8 0) 1 1 Try.underlying22 hi hz0 hz1 hz2 rfl (by decide) (.slice (some ⟨w.heap.size, 0, none⟩) 0 0) 0 [] rfl hown0 ⟨b, off, none⟩ n cap (bl (lof n f)) rfl (by rw [bl_len, lof_len]; omega) hcl (bl_one _) (by unfold maxLen; omega) (by omega) (by rw [hsz]; omega) ?_; intro v1 w1 hown1 hgr1 _; simp only [Nat.zero_add, List.nil_append] at hown1) | (at_builtin; refine wpList_append_own _ rfl (.tmp 8) (.tmp 20) 22 rfl w.heap.size 5 i0 (.int .u8 0) 1 1 Try.underlying22 hi hz0 hz1 hz2 rfl (by decide) v1 n (bl (lof n f)) rfl (hown1.alloc _) ⟨w1.heap.size, 0, none⟩ 4 4 (bl (sumL c)) rfl rfl (cellNews w1 (bl (sumL c)) 5) (bl_one _) (by unfold maxLen; omega) (by omega) (by have := hgr1.size; simp at this; simp; omega) ?_; intro v2 w2 hown2 hgr2 _))
  have hb1 : Below w.heap.size w w1 := hb0.grown hgr1 (by simp) (fun k hk => by simp only [Value.ownBlock, Option.some.injEq] at hk; omega)
  have hb2 : Below w.heap.size w w2 := (hb1.alloc hb1.size _).grown hgr2 (by have := hb1.size; simp; omega) (fun k hk => (hown1.lt k hk).1)
  go_ret
  rw [hc.out]
  rw [← bl_append] at hown2
  exact ⟨v2, rfl, hown2, hb2⟩
theorem putSum_spec (b off n cap : Nat) (f : Nat → Int) (w : World) (hv : View w (some ⟨b, off, none⟩) n cap f) (hn : n ≤ 35184372088832) :
    Calls Try.prog 88 #[.slice (some ⟨b, off, none⟩) n cap] w fun e w' => ∃ g c, e = .returned (.slice (some ⟨g, 0, none⟩) (n + 4) c) ∧ w.heap.size ≤ g ∧ n + 4 ≤ c ∧ Row 5 w' g (n + 4) (fun i => (lof n f ++ sumL (crc n f)).getD i 0) ∧ Below w.heap.size w w' := by
  refine (putSum_own b off n cap f w hv hn).mono ?_
  rintro e w' ⟨v, rfl, hown, hb⟩
  obtain ⟨g, c', rfl, hg, hgc, hrow⟩ := row_of_own hown (by omega)
  exact ⟨g, c', rfl, hg, hgc, hrow, hb⟩
end Go.Proofs.Ytbdfaeeilbfbaaa

/-
  The model's l1In: whether a number lies between two.
-/
namespace Go.Proofs.Ytbdfaeeilbfbaaa
open Go.RowKit
set_option maxRecDepth 4000

set_option maxHeartbeats 1000000 in
theorem l1In_any (x l m : Int) (w : World) :
    Calls Try.prog 52 #[.int .i64 x, .int .i64 l, .int .i64 m] w fun e w' => e = .returned (.bool (decide (l ≤ x) && decide (x ≤ m))) ∧ w = w' := by
  go_enter Try.func52, Try.ntmps52
  by_cases h : l ≤ x
  · have e1 : decide (l ≤ x) = true := by simpa using h
    go_wp2
    go_ret
    exact ⟨by simp [h], rfl⟩
  · have e1 : decide (l ≤ x) = false := by simpa using h
    go_wp2
    go_ret
    exact ⟨by simp, rfl⟩

theorem l1In_yes (x l m : Int) (w : World) (h1 : l ≤ x) (h2 : x ≤ m) :
    Calls Try.prog 52 #[.int .i64 x, .int .i64 l, .int .i64 m] w fun e w' => e = .returned (.bool true) ∧ w = w' := by
  have h := l1In_any x l m w
  rw [decide_eq_true h1, decide_eq_true h2] at h
  exact h
theorem l1In_no (x l m : Int) (w : World) (h1 : x < l ∨ m < x) :
    Calls Try.prog 52 #[.int .i64 x, .int .i64 l, .int .i64 m] w fun e w' => e = .returned (.bool false) ∧ w = w' := by
  have h := l1In_any x l m w
  have e : (decide (l ≤ x) && decide (x ≤ m)) = false := by
    rcases h1 with h1 | h1
    · rw [decide_eq_false (by omega), Bool.false_and]
    · rw [decide_eq_false (p := x ≤ m) (by omega), Bool.and_false]
  rw [e] at h
  exact h
end Go.Proofs.Ytbdfaeeilbfbaaa

/-
  The program's PutPage and the model's: a page in memory of its own.
-/
namespace Go.Proofs.Ytbdfaeeilbfbaaa
open Go.RowKit
set_option maxRecDepth 4000

theorem clamp_id {x : Int} (h0 : 0 ≤ x) (h1 : x ≤ 1000000) : clampN x = x := by unfold clampN; rw [if_neg (by omega), if_neg (by omega)]
theorem str_size (l : List Int) : (strOfNums l).size = l.length := by
  have := strOfNums_data l
  show (strOfNums l).data.size = _
  rw [← Array.length_toList, this, List.length_map]
/-- What is made in three steps is a page. -/
theorem page_steps {k : Int} {s : ByteArray} {N1 N2 : Nat} {F1 F2 : Nat → Int} (hk : k = 1 ∨ k = 2) (hs : s.size ≤ 240) (e1 : N1 = (groups (clampN k)).length) (h1 : F1 = fun i => (groups (clampN k)).getD i 0) (e2 : N2 = N1 + (groups (clampN s.size)).length + s.size) (h2 : F2 = fun i => (textL N1 F1 s).getD i 0) :
    lof N2 F2 ++ sumL (crc N2 F2) = pageF k s ∧ N2 + 4 = (pageF k s).length := by
  have c1 : clampN k = k := clamp_id (by omega) (by omega)
  have c2 : clampN (s.size : Int) = s.size := clamp_id (by omega) (by omega)
  rw [c1] at e1 h1
  rw [c2] at e2
  have hl : lof N1 F1 = groups k := by rw [e1, h1]; exact lof_self _
  have ht : textL N1 F1 s = innL k s := by
    unfold textL innL txtL
    rw [hl, c2, List.append_assoc]
  rw [ht] at h2
  have hn : N2 = (innL k s).length := by rw [innL_len, e2, e1]
  have hl2 : lof N2 F2 = innL k s := by rw [hn, h2]; exact lof_self _
  unfold pageF
  rw [if_pos ⟨hk, hs⟩, pageL_len, hl2, hn, h2]
  exact ⟨rfl, rfl⟩

set_option maxHeartbeats 1000000 in
theorem isKind_any (k : Int) (w : World) : Calls Try.prog 66 #[.int .i64 k] w fun e w' => e = .returned (.bool (decide (k = 1) || decide (k = 2))) ∧ w = w' := by
  go_enter Try.func66, Try.ntmps66
  by_cases h1 : k = 1
  · subst h1
    go_wp2
    go_ret
    exact ⟨rfl, rfl⟩
  · have e1 : (k == 1) = false := beq_eq_false_iff_ne.2 h1
    by_cases h2 : k = 2
    · subst h2
      go_wp2
      go_ret
      exact ⟨rfl, rfl⟩
    · have e2 : (k == 2) = false := beq_eq_false_iff_ne.2 h2
      go_wp2
      go_ret
      exact ⟨by simp [h1, h2], rfl⟩

/-- What PutPage comes to. -/
def PageTo (w : World) (l : List Int) (e : Ending) (w' : World) : Prop := ∃ g c, e = .returned (.slice (some ⟨g, 0, none⟩) l.length c) ∧ w.heap.size ≤ g ∧ l.length ≤ c ∧ Row 5 w' g l.length (fun i => l.getD i 0) ∧ Below w.heap.size w w'

set_option maxHeartbeats 1000000 in
theorem putPage_impl (b off n cap : Nat) (f : Nat → Int) (k : Int) (w : World) (hv : View w (some ⟨b, off, none⟩) n cap f) (hn : n ≤ 1048576) (hk0 : -9223372036854775808 ≤ k) (hk1 : k ≤ 9223372036854775807) :
    Calls Try.prog 30 #[.int .i64 k, .slice (some ⟨b, off, none⟩) n cap] w (PageTo w (pageF k (strOfNums (lof n f)))) := by
  have hsz : (strOfNums (lof n f)).size = n := by rw [str_size, lof_len]
  have HQ : Hid (∀ W, Below w.heap.size w W → (convert 22 9 (.slice (some ⟨b, off, none⟩) n cap)).run Try.prog W = .ok (.string (strOfNums (lof n f))) W) := fun W hb => conv_view (hv.below hb)
  obtain ⟨s, hs⟩ : ∃ s, Hid (strOfNums (lof n f) = s) := ⟨_, rfl⟩
  rw [hs.out] at hsz HQ ⊢
  by_cases hk : k = 1 ∨ k = 2
  case neg =>
    have HF : Hid (pageF k s = []) := by show _ = _; unfold pageF; rw [if_neg (fun h => hk h.1)]
    have hV := fun W => isKind_any k W
    have hkk : (decide (k = 1) || decide (k = 2)) = false := by simpa using hk
    rw [hkk] at hV
    go_enter Try.func30, Try.ntmps30
    go_wp2_with fail
    refine (hV _).mono ?_
    rintro e _ ⟨rfl, rfl⟩
    go_wp2
    go_ret
    rw [HF.out]
    exact ⟨_, 0, rfl, Nat.le_refl _, Nat.le_refl _, noRow _ _ _, (Below.refl _ _).alloc (Nat.le_refl _) _⟩
  have hV := fun W => isKind_any k W
  have hkk : (decide (k = 1) || decide (k = 2)) = true := by simpa using hk
  rw [hkk] at hV
  by_cases hl : n ≤ 240
  case neg =>
    have HF : Hid (pageF k s = []) := by show _ = _; unfold pageF; rw [if_neg (fun h => hl (by have := h.2; omega))]
    have hz : (240 : Int) < n := by omega
    go_enter Try.func30, Try.ntmps30
    go_wp2_with fail
    refine (hV _).mono ?_
    rintro e _ ⟨rfl, rfl⟩
    go_wp2
    go_ret
    rw [HF.out]
    exact ⟨_, 0, rfl, Nat.le_refl _, Nat.le_refl _, noRow _ _ _, (Below.refl _ _).alloc (Nat.le_refl _) _⟩
  have hz : ¬ (240 : Int) < n := by omega
  have hq0 := HQ.out w.drew (Below.refl _ _).drew
  obtain ⟨N1, hN1⟩ : ∃ N1, Hid (N1 = (groups (clampN k)).length) := ⟨_, rfl⟩
  obtain ⟨F1, hF1⟩ : ∃ F1 : Nat → Int, Hid (F1 = fun i => (groups (clampN k)).getD i 0) := ⟨_, rfl⟩
  obtain ⟨N2, hN2⟩ : ∃ N2, Hid (N2 = N1 + (groups (clampN s.size)).length + s.size) := ⟨_, rfl⟩
  obtain ⟨F2, hF2⟩ : ∃ F2 : Nat → Int, Hid (F2 = fun i => (textL N1 F1 s).getD i 0) := ⟨_, rfl⟩
  have HP := page_steps (k := k) (s := s) hk (by omega) hN1.out hF1.out hN2.out hF2.out
  obtain ⟨L, hL⟩ : ∃ L, Hid (pageF k s = L) := ⟨_, rfl⟩
  rw [hL.out] at HP ⊢
  have hl1 : N1 ≤ 3 := by rw [hN1.out]; exact (groups_len _).2
  have hl2 : N2 ≤ 2000000 := by rw [hN2.out]; have := (groups_len (clampN s.size)).2; omega
  have hl3 : N2 + 4 = L.length := HP.2
  have HB1 : Hid (∀ i, i < N1 → 0 ≤ F1 i ∧ F1 i ≤ 255) := by
    show ∀ i, _
    rw [hN1.out, hF1.out]
    exact bytes_of_list (groups_byte _ (clampN_bd _).1 (clampN_bd _).2)
  have HB2 : Hid (∀ i, i < N2 → 0 ≤ F2 i ∧ F2 i ≤ 255) := by
    show ∀ i, _
    have hlt : (textL N1 F1 s).length = N2 := by rw [textL_len, hN2.out]
    rw [← hlt, hF2.out]
    refine bytes_of_list (fun y hy => ?_)
    unfold textL at hy
    rcases List.mem_append.1 hy with h | h
    · rcases List.mem_append.1 h with h | h
      · exact lof_byteS HB1.out y h
      · exact groups_byte _ (clampN_bd _).1 (clampN_bd _).2 y h
    · exact sl_byte s y h
  have hT : ∀ (g c : Nat) (W : World), Row 5 W g N1 F1 → N1 ≤ c → Calls Try.prog 68 #[.slice (some ⟨g, 0, none⟩) N1 c, .string s] W fun e w' => ∃ g' c', e = .returned (.slice (some ⟨g', 0, none⟩) N2 c') ∧ W.heap.size ≤ g' ∧ N2 ≤ c' ∧ Row 5 w' g' N2 F2 ∧ Below W.heap.size W w' := by
    intro g c W hr hc
    have := putText_impl g 0 N1 c F1 s W (hr.view hc HB1.out) (by omega) (by omega)
    rw [← hN2.out, ← hF2.out] at this
    exact this
  have hS : ∀ (g c : Nat) (W : World), Row 5 W g N2 F2 → N2 ≤ c → Calls Try.prog 67 #[.slice (some ⟨g, 0, none⟩) N2 c] W (PageTo W L) := by
    intro g c W hr hc
    have := putSum_impl g 0 N2 c F2 W (hr.view hc HB2.out) (by omega)
    rw [HP.1, HP.2] at this
    exact this
  have hU : ∀ W, Calls Try.prog 69 #[.slice none 0 0, .int .i64 k] W fun e w' => ∃ g c, e = .returned (.slice (some ⟨g, 0, none⟩) N1 c) ∧ W.heap.size ≤ g ∧ N1 ≤ c ∧ Row 5 w' g N1 F1 ∧ Below W.heap.size W w' := by
    intro W
    have := putU_opt none 0 0 (fun _ => 0) k W (noView _ _) (fun _ => ⟨rfl, rfl⟩) (by omega) hk0 hk1
    rw [Nat.zero_add, show lof 0 (fun _ => (0 : Int)) = [] from rfl, List.nil_append, ← hN1.out, ← hF1.out] at this
    exact this
  clear HB1 HB2 hN1 hF1 hN2 hF2 HP
  go_enter Try.func30, Try.ntmps30
  go_wp2_with fail
  refine (hV _).mono ?_
  rintro e _ ⟨rfl, rfl⟩
  clear hV
  go_wp2_with fail
  go_region_held3 (fun W => (convert 22 9 (.slice (some ⟨b, off, none⟩) n cap)).run Try.prog W = .ok (.string s) W) (first | assumption | go_keep) (first
    | (go_at_call 69; refine (hU _).mono ?_; rintro e w1 ⟨g1, c1, rfl, hg1, hc1, hr1, hb1⟩; have hb1' : Hid (Below w.heap.size w w1) := Below.trans (by repeat (first | exact Below.refl _ _ | refine Below.drew ?_)) hb1; have hq1 := HQ.out w1 hb1'.out)
    | (go_at_call 68; refine (hT g1 c1 _ (by first | exact hr1 | exact hr1.belowAll (Below.refl _ _).drew) hc1).mono ?_; rintro e w2 ⟨g2, c2, rfl, hg2, hc2, hr2, hb2⟩; have hb2' : Hid (Below w.heap.size w w2) := Below.trans (by repeat (first | exact hb1'.out | refine Below.drew ?_)) (hb2.mono (by have := hb1'.out.size; simpa using this)); have hq2 := HQ.out w2 hb2'.out)
    | (go_at_call 67; refine (hS g2 c2 _ (by first | exact hr2 | exact hr2.belowAll (Below.refl _ _).drew) hc2).mono ?_; rintro e w3 ⟨g3, c3, rfl, hg3, hc3, hr3, hb3⟩; have hb3' : Hid (Below w.heap.size w w3) := Below.trans (by repeat (first | exact hb2'.out | refine Below.drew ?_)) (hb3.mono (by have := hb2'.out.size; simpa using this)); have hq3 := HQ.out w3 hb3'.out))
  go_wp2
  go_ret
  exact ⟨g3, c3, rfl, Nat.le_trans (Nat.le_trans hb2'.out.size (by simp)) hg3, hc3, hr3, hb3'.out⟩

set_option maxHeartbeats 1000000 in
theorem putPage_spec (b off n cap : Nat) (f : Nat → Int) (k : Int) (w : World) (hv : View w (some ⟨b, off, none⟩) n cap f) (hn : n ≤ 1048576) (hk0 : -9223372036854775808 ≤ k) (hk1 : k ≤ 9223372036854775807) :
    Calls Try.prog 75 #[.int .i64 k, .slice (some ⟨b, off, none⟩) n cap] w (PageTo w (pageF k (strOfNums (lof n f)))) := by
  have hsz : (strOfNums (lof n f)).size = n := by rw [str_size, lof_len]
  have HQ : Hid (∀ W, Below w.heap.size w W → (convert 22 9 (.slice (some ⟨b, off, none⟩) n cap)).run Try.prog W = .ok (.string (strOfNums (lof n f))) W) := fun W hb => conv_view (hv.below hb)
  obtain ⟨s, hs⟩ : ∃ s, Hid (strOfNums (lof n f) = s) := ⟨_, rfl⟩
  rw [hs.out] at hsz HQ ⊢
  by_cases hk : k = 1 ∨ k = 2
  case neg =>
    have HF : Hid (pageF k s = []) := by show _ = _; unfold pageF; rw [if_neg (fun h => hk h.1)]
    have hV := fun W => l1In_no k 1 2 W (by omega)
    go_enter Try.func75, Try.ntmps75
    go_wp2_with fail
    refine (hV _).mono ?_
    rintro e _ ⟨rfl, rfl⟩
    go_wp2
    go_ret
    rw [HF.out]
    exact ⟨_, 0, rfl, Nat.le_refl _, Nat.le_refl _, noRow _ _ _, (Below.refl _ _).alloc (Nat.le_refl _) _⟩
  have hV := fun W => l1In_yes k 1 2 W (by omega) (by omega)
  by_cases hl : n ≤ 240
  case neg =>
    have HF : Hid (pageF k s = []) := by show _ = _; unfold pageF; rw [if_neg (fun h => hl (by have := h.2; omega))]
    have hz : (240 : Int) < n := by omega
    go_enter Try.func75, Try.ntmps75
    go_wp2_with fail
    refine (hV _).mono ?_
    rintro e _ ⟨rfl, rfl⟩
    go_wp2
    go_ret
    rw [HF.out]
    exact ⟨_, 0, rfl, Nat.le_refl _, Nat.le_refl _, noRow _ _ _, (Below.refl _ _).alloc (Nat.le_refl _) _⟩
  have hz : ¬ (240 : Int) < n := by omega
  have hq0 := HQ.out w.drew (Below.refl _ _).drew
  have hq0b := HQ.out (w.alloc (.cells #[] 5)).drew ((Below.refl _ _).alloc (Nat.le_refl _) _).drew
  obtain ⟨N1, hN1⟩ : ∃ N1, Hid (N1 = (groups (clampN k)).length) := ⟨_, rfl⟩
  obtain ⟨F1, hF1⟩ : ∃ F1 : Nat → Int, Hid (F1 = fun i => (groups (clampN k)).getD i 0) := ⟨_, rfl⟩
  obtain ⟨N2, hN2⟩ : ∃ N2, Hid (N2 = N1 + (groups (clampN s.size)).length + s.size) := ⟨_, rfl⟩
  obtain ⟨F2, hF2⟩ : ∃ F2 : Nat → Int, Hid (F2 = fun i => (textL N1 F1 s).getD i 0) := ⟨_, rfl⟩
  have HP := page_steps (k := k) (s := s) hk (by omega) hN1.out hF1.out hN2.out hF2.out
  obtain ⟨L, hL⟩ : ∃ L, Hid (pageF k s = L) := ⟨_, rfl⟩
  rw [hL.out] at HP ⊢
  have hl1 : N1 ≤ 3 := by rw [hN1.out]; exact (groups_len _).2
  have hl2 : N2 ≤ 2000000 := by rw [hN2.out]; have := (groups_len (clampN s.size)).2; omega
  have hl3 : N2 + 4 = L.length := HP.2
  have HB1 : Hid (∀ i, i < N1 → 0 ≤ F1 i ∧ F1 i ≤ 255) := by
    show ∀ i, _
    rw [hN1.out, hF1.out]
    exact bytes_of_list (groups_byte _ (clampN_bd _).1 (clampN_bd _).2)
  have HB2 : Hid (∀ i, i < N2 → 0 ≤ F2 i ∧ F2 i ≤ 255) := by
    show ∀ i, _
    have hlt : (textL N1 F1 s).length = N2 := by rw [textL_len, hN2.out]
    rw [← hlt, hF2.out]
    refine bytes_of_list (fun y hy => ?_)
    unfold textL at hy
    rcases List.mem_append.1 hy with h | h
    · rcases List.mem_append.1 h with h | h
      · exact lof_byteS HB1.out y h
      · exact groups_byte _ (clampN_bd _).1 (clampN_bd _).2 y h
    · exact sl_byte s y h
  have hT : ∀ (g c : Nat) (W : World), Row 5 W g N1 F1 → N1 ≤ c → Calls Try.prog 89 #[.slice (some ⟨g, 0, none⟩) N1 c, .string s] W fun e w' => ∃ g' c', e = .returned (.slice (some ⟨g', 0, none⟩) N2 c') ∧ W.heap.size ≤ g' ∧ N2 ≤ c' ∧ Row 5 w' g' N2 F2 ∧ Below W.heap.size W w' := by
    intro g c W hr hc
    have := putText_spec g 0 N1 c F1 s W (hr.view hc HB1.out) (by omega) (by omega)
    rw [← hN2.out, ← hF2.out] at this
    exact this
  have hS : ∀ (g c : Nat) (W : World), Row 5 W g N2 F2 → N2 ≤ c → Calls Try.prog 88 #[.slice (some ⟨g, 0, none⟩) N2 c] W (PageTo W L) := by
    intro g c W hr hc
    have := putSum_spec g 0 N2 c F2 W (hr.view hc HB2.out) (by omega)
    rw [HP.1, HP.2] at this
    exact this
  have hU : ∀ (g : Nat) (W : World), Calls Try.prog 90 #[.slice (some ⟨g, 0, none⟩) 0 0, .int .i64 k] W fun e w' => ∃ g c, e = .returned (.slice (some ⟨g, 0, none⟩) N1 c) ∧ W.heap.size ≤ g ∧ N1 ≤ c ∧ Row 5 w' g N1 F1 ∧ Below W.heap.size W w' := by
    intro g W
    refine (putU_spec g 0 0 0 (fun _ => 0) k W ⟨Nat.le_refl _, fun _ hi => absurd hi (Nat.not_lt_zero _), fun h => absurd h (Nat.lt_irrefl _)⟩ (by omega) hk0 hk1).mono ?_
    rintro e w' ⟨v, rfl, hown, hb⟩
    rw [Nat.zero_add, show lof 0 (fun _ => (0 : Int)) = [] from rfl, List.nil_append, ← hN1.out] at hown
    obtain ⟨g', c', rfl, hg', hgc', hrow⟩ := row_of_own hown (by rw [hN1.out]; exact (groups_len _).1)
    rw [← hF1.out] at hrow
    exact ⟨g', c', rfl, hg', hgc', hrow, hb⟩
  clear HB1 HB2 hN1 hF1 hN2 hF2 HP
  go_enter Try.func75, Try.ntmps75
  go_wp2_with fail
  refine (hV _).mono ?_
  rintro e _ ⟨rfl, rfl⟩
  clear hV
  go_wp2_with fail
  go_region_held3 (fun W => (convert 22 9 (.slice (some ⟨b, off, none⟩) n cap)).run Try.prog W = .ok (.string s) W) (first | assumption | go_keep) (first
    | (go_at_call 90; refine (hU _ _).mono ?_; rintro e w1 ⟨g1, c1, rfl, hg1, hc1, hr1, hb1⟩; have hb1' : Hid (Below w.heap.size w w1) := Below.trans (by repeat (first | exact Below.refl _ _ | exact (Below.refl _ _).drew.alloc (by simp) _ | refine Below.drew ?_)) (hb1.mono (by simp)); have hq1 := HQ.out w1 hb1'.out)
    | (go_at_call 89; refine (hT g1 c1 _ (by first | exact hr1 | exact hr1.belowAll (Below.refl _ _).drew) hc1).mono ?_; rintro e w2 ⟨g2, c2, rfl, hg2, hc2, hr2, hb2⟩; have hb2' : Hid (Below w.heap.size w w2) := Below.trans (by repeat (first | exact hb1'.out | refine Below.drew ?_)) (hb2.mono (by have := hb1'.out.size; simpa using this)); have hq2 := HQ.out w2 hb2'.out)
    | (go_at_call 88; refine (hS g2 c2 _ (by first | exact hr2 | exact hr2.belowAll (Below.refl _ _).drew) hc2).mono ?_; rintro e w3 ⟨g3, c3, rfl, hg3, hc3, hr3, hb3⟩; have hb3' : Hid (Below w.heap.size w w3) := Below.trans (by repeat (first | exact hb2'.out | refine Below.drew ?_)) (hb3.mono (by have := hb2'.out.size; simpa using this)); have hq3 := HQ.out w3 hb3'.out))
  go_wp2
  go_ret
  exact ⟨g3, c3, rfl, Nat.le_trans (Nat.le_trans hb2'.out.size (by simp)) hg3, hc3, hr3, hb3'.out⟩
end Go.Proofs.Ytbdfaeeilbfbaaa

/-
  Rows of bytes of the call's own, of which no cell that is read is frozen, whatever lies behind: what '[]byte(s)' lays is one.
-/
namespace Go.Proofs.Ytbdfaeeilbfbaaa
open Go.RowKit
set_option maxRecDepth 4000

def RowZ (t : TypeId) (w : World) (b n : Nat) (f : Nat → Int) : Prop :=
  ∃ (c : Array Value) (z : Nat × Nat), w.heap[b]? = some (.cells c t z) ∧ n ≤ c.size ∧ (∀ i, i < n → w.frozen? ⟨b, i, none⟩ = false) ∧ ∀ i, i < n → c[i]? = some (.int .u8 (f i))
namespace RowZ
variable {t : TypeId} {w w' : World} {b n : Nat} {f g : Nat → Int}
theorem ofRow (h : Row t w b n f) : RowZ t w b n f := by
  have hz := h.frozen
  obtain ⟨c, hb, hn, hc⟩ := h
  exact ⟨c, _, hb, hn, fun i _ => hz i, hc⟩
theorem cell (h : RowZ t w b n f) {i : Nat} (hi : i < n) : w.cell? ⟨b, i, none⟩ = some (.int .u8 (f i)) := by
  obtain ⟨c, z, hb, _, _, hc⟩ := h
  simp [World.cell?, hb, hc i hi]
theorem frozen (h : RowZ t w b n f) {i : Nat} (hi : i < n) : w.frozen? ⟨b, i, none⟩ = false := by
  obtain ⟨c, z, hb, _, hz, _⟩ := h
  exact hz i hi
theorem lt (h : RowZ t w b n f) : b < w.heap.size := by
  obtain ⟨c, z, hb, _, _⟩ := h
  exact (Array.getElem?_eq_some_iff.1 hb).1
theorem congr (h : RowZ t w b n f) (e : ∀ i, i < n → f i = g i) : RowZ t w b n g := by
  obtain ⟨c, z, hb, hn, hz, hc⟩ := h
  exact ⟨c, z, hb, hn, hz, fun i hi => by rw [hc i hi, e i hi]⟩
theorem of_block (h : RowZ t w b n f) (e : w'.heap[b]? = w.heap[b]?) : RowZ t w' b n f := by
  obtain ⟨c, z, hb, hn, hz, hc⟩ := h
  refine ⟨c, z, e.trans hb, hn, fun i hi => ?_, hc⟩
  have := hz i hi
  simp only [World.frozen?, e] at this ⊢
  exact this
theorem belowAll (h : RowZ t w b n f) (hb : Below w.heap.size w w') : RowZ t w' b n f := h.of_block (hb.block b h.lt)
theorem set (h : RowZ t w b n f) (i : Nat) (x : Int) : RowZ t (w.setCell ⟨b, i, none⟩ (.int .u8 x)) b n (fun j => if j = i then x else f j) := by
  obtain ⟨c, z, hb, hn, hz, hc⟩ := h
  have hb' : (w.setCell ⟨b, i, none⟩ (.int .u8 x)).heap[b]? = some (.cells (c.setIfInBounds i (.int .u8 x)) t z) := by simp [World.setCell, Array.getElem?_modify, hb]
  refine ⟨c.setIfInBounds i (.int .u8 x), z, hb', by simpa using hn, fun j hj => ?_, fun j hj => ?_⟩
  · have := hz j hj
    simp only [World.frozen?, hb, hb'] at this ⊢
    exact this
  · rw [Array.getElem?_setIfInBounds]
    by_cases e : j = i
    · subst e
      have : j < c.size := by omega
      simp [this]
    · rw [if_neg (fun h => e h.symm)]
      show c[j]? = some (.int .u8 (if j = i then x else f j))
      rw [if_neg e]
      exact hc j hj
theorem view {cap : Nat} (h : RowZ t w b n f) (hc : n ≤ cap) (hb : ∀ i, i < n → 0 ≤ f i ∧ f i ≤ 255) : View w (some ⟨b, 0, none⟩) n cap f :=
  ⟨hc, hb, fun _ => ⟨b, 0, rfl, h.lt, fun i hi => by rw [Nat.zero_add]; exact h.cell hi⟩⟩
end RowZ
theorem Only.rowZ {t : TypeId} {b b' n : Nat} {f : Nat → Int} {w w' : World} (h : Only b w w') (hr : RowZ t w b' n f) (hne : b' ≠ b) : RowZ t w' b' n f := hr.of_block (h.block b' hne)

theorem bytesRow_size (s : ByteArray) (cap : Nat) : s.size ≤ (bytesRow s cap).size := by
  unfold bytesRow
  rw [Array.size_append, Array.size_map]
  exact Nat.le_add_right _ _
/-- What '[]byte(s)' lays. -/
theorem text_row (w : World) (s : ByteArray) (cap : Nat) : RowZ 5 (w.alloc (.cells (bytesRow s cap) 5 ((bytesRow s cap).size, (bytesRow s cap).size + 1))) w.heap.size s.size (fun i => (sl s).getD i 0) := by
  have hb : (w.alloc (.cells (bytesRow s cap) 5 ((bytesRow s cap).size, (bytesRow s cap).size + 1))).heap[w.heap.size]? = some (.cells (bytesRow s cap) 5 ((bytesRow s cap).size, (bytesRow s cap).size + 1)) := Deep.blk_alloc_new _ _
  have hl := bytesRow_size s cap
  refine ⟨_, _, hb, hl, fun i hi => ?_, fun i hi => ?_⟩
  · simp only [World.frozen?, hb]
    have : ¬ (bytesRow s cap).size ≤ i := by omega
    simp [this]
  · have hi' : i < (sl s).length := by rw [sl_len]; exact hi
    have hd : i < s.data.size := hi
    unfold bytesRow
    rw [Array.getElem?_append_left (by simpa using hd)]
    simp [sl]
    exact ⟨s.data[i], Array.getElem?_eq_getElem hd, by rw [Array.getElem?_eq_getElem hd]; rfl⟩

end Go.Proofs.Ytbdfaeeilbfbaaa

