/-
  Together: PutTextSpec, CrcSpec, SumSpec, PagePut, OwnLo, PageOwn, DrawBend, DrawGetPage13, DrawOnce, DrawPageAt13, UpFive, DrawVarK
-/
import Derived.Test.YtdhfbblameiloaaFF14
import Derived.Test.YtdhfbblameiloaaFF13
import Derived.Test.YtdhfbblameiloaaFF1
import Derived.WalkSpells
import Derived.Test.YtdhfbblameiloaaFF6
import Derived.Deep.RegionHeld3
import Derived.Test.YtdhfbblameiloaaProg
import Derived.Test.YtdhfbblameiloaaFF12
import Derived.Deep.RegionWith
import Derived.Test.YtdhfbblameiloaaFF2
/-
  The model's PutText: what was there, the number of the text's bytes, and these, in memory of its own.
-/
namespace Go.Proofs.Ytdhfbblameiloaa
open Go.RowKit
set_option maxRecDepth 4000

set_option maxHeartbeats 1000000 in
theorem putText_spec (b off n cap : Nat) (f : Nat → Int) (s : ByteArray) (w : World) (hv : View w (some ⟨b, off, none⟩) n cap f) (hn : n ≤ 35184372088832) (hs : s.size ≤ 35184372088832) :
    Calls Try.prog 128 #[.slice (some ⟨b, off, none⟩) n cap, .string s] w fun e w' => ∃ g c, e = .returned (.slice (some ⟨g, 0, none⟩) (n + (groups (clampN s.size)).length + s.size) c) ∧ w.heap.size ≤ g ∧ n + (groups (clampN s.size)).length + s.size ≤ c ∧ Row 5 w' g (n + (groups (clampN s.size)).length + s.size) (fun i => (textL n f s).getD i 0) ∧ Below w.heap.size w w' := by
  obtain ⟨i0, hi, hz0, hz1, hz2⟩ := info_parts Try.info5
  have hgl := (groups_len (clampN s.size)).2
  have hg1 := (groups_len (clampN s.size)).1
  obtain ⟨gs, hgs⟩ : ∃ gs, Hid (groups (clampN s.size) = gs) := ⟨_, rfl⟩
  rw [hgs.out] at hgl hg1
  go_enter Try.func128, Try.ntmps128
  go_wp2_with fail
  refine (putU_spec b off n cap f (s.size : Int) w hv (by omega) (by omega) (by omega)).mono ?_
  rintro e w1 ⟨v, rfl, hown, hb1⟩
  rw [hgs.out] at hown
  go_wp2_with (at_builtin; go_must (refine Lib.wpList_append_own_string _ rfl (.tmp 8) (.tmp 9) 27 9 rfl w.heap.size 5 i0 Try.underlying27 Try.underlying9 hi hz0 hz1 hz2 v _ _ rfl hown s rfl (by unfold maxLen; omega) (by omega) hb1.size ?_); intro v2 w2 hown2 hgr2 _)
  have hb2 : Below w.heap.size w w2 := hb1.grown hgr2 hb1.size (fun k hk => (hown.lt k hk).1)
  go_ret
  rw [sl_cells, ← bl_append] at hown2
  obtain ⟨g, c, hv2, hg, hgc, hrow⟩ := row_of_own hown2 (by omega)
  unfold textL
  rw [hgs.out, hv2]
  exact ⟨g, c, rfl, hg, hgc, hrow, hb2⟩

end Go.Proofs.Ytdhfbblameiloaa

/-
  The model's Crc comes to the plain sum, at every slice of bytes that reads.
-/
namespace Go.Proofs.Ytdhfbblameiloaa
open Go.RowKit
set_option maxRecDepth 4000

set_option maxHeartbeats 1000000 in
theorem crc_spec (ao : Option Addr) (n cap : Nat) (f : Nat → Int) (w : World) (hv : View w ao n cap f) (hn : n ≤ 281474976710656) :
    Calls Try.prog 130 #[.slice ao n cap] w fun e w' => e = .returned (.int .i64 ((crc n f : Nat) : Int)) ∧ w = w' := by
  go_enter Try.func130, Try.ntmps130
  go_wp2
  go_loopg [3, 4] n (fun g s i wr => w = wr ∧ ∃ k y : Nat, k ≤ n ∧ g = n - k ∧ s = .int .i64 (y : Int) ∧ i = .int .i64 k ∧ y < 4294967296 ∧ y = crcTo f k)
  case atStart => exact ⟨rfl, 0, 4294967295, by omega, rfl, rfl, rfl, by decide, rfl⟩
  case round =>
    obtain ⟨rfl, k, y, hk, rfl, rfl, rfl, hy, hyk⟩ := hrel
    have HY : Hid (y = crcTo f k) := hyk
    clear hyk
    by_cases hlt : k < n
    · obtain ⟨b, off, rfl, hb, hc⟩ := hv.cells (by omega)
      have hkz : (k : Int) < (n : Int) := by omega
      have hc1 := hc k hlt
      have hbk := hv.byte k hlt
      have q1 := i64_in y (f k) hy hbk
      have hlt2 := xorByte_lt hy hbk
      obtain ⟨hbk0, hbk1⟩ := hbk
      clear hc
      go_wp2
      clear q1 hc1
      go_loopg [3, 5] 8 (fun g s i wi => w = wi ∧ ∃ j z : Nat, j ≤ 8 ∧ g = 8 - j ∧ s = .int .i64 (z : Int) ∧ i = .int .i64 j ∧ z < 4294967296 ∧ z = crcBits j (y ^^^ (f k).toNat))
      case atStart => exact ⟨rfl, 0, y ^^^ (f k).toNat, by omega, rfl, rfl, rfl, hlt2, rfl⟩
      case round =>
        obtain ⟨rfl, j, z, hj, rfl, rfl, rfl, hz, hzj⟩ := hrel
        have HZ : Hid (z = crcBits j (y ^^^ (f k).toNat)) := hzj
        clear hzj
        by_cases hj8 : j < 8
        · have hjz : (j : Int) < 8 := by omega
          by_cases hodd : z % 2 = 1
          · have q1 : bits .and .i64 (z : Int) 1 = 1 := by rw [i64_and1 z (by omega), hodd]; rfl
            have q2 := i64_turn z hz
            have HO : Hid (z % 2 = 1) := hodd
            clear hodd
            go_wp2
            go_roundg (8 - (j + 1))
            case measure => omega
            case rel => exact ⟨rfl, j + 1, z / 2 ^^^ 2197175160, by omega, rfl, rfl, by go_num, Nat.xor_lt_two_pow (n := 32) (by omega) (by decide), by rw [← crcBit_odd z HO.out, HZ.out]; rfl⟩
          · have q1 : bits .and .i64 (z : Int) 1 = 0 := by rw [i64_and1 z (by omega), show z % 2 = 0 by omega]; rfl
            have HO : Hid (¬ z % 2 = 1) := hodd
            clear hodd
            go_wp2
            go_roundg (8 - (j + 1))
            case measure => omega
            case rel => exact ⟨rfl, j + 1, z / 2, by omega, rfl, by go_num, by go_num, by omega, by rw [← crcBit_even z HO.out, HZ.out]; rfl⟩
        · obtain rfl : j = 8 := by omega
          go_wp2
          go_roundg (n - (k + 1))
          case measure => omega
          case rel => exact ⟨rfl, k + 1, z, by omega, rfl, rfl, by go_num, hz, by rw [HZ.out, HY.out]; rfl⟩
    · obtain rfl : k = n := by omega
      have q1 := i64_last y hy
      go_wp2
      go_ret
      exact ⟨retInt (congrArg (fun z : Nat => ((z ^^^ 4294967295 : Nat) : Int)) HY.out), rfl⟩

theorem crc_spec' {c : Nat} (ao : Option Addr) (n cap : Nat) (f : Nat → Int) (w : World) (hg : Hid (crc n f = c)) (hv : View w ao n cap f) (hn : n ≤ 281474976710656) :
    Calls Try.prog 130 #[.slice ao n cap] w fun e w' => e = .returned (.int .i64 (c : Int)) ∧ w = w' := by
  have h := crc_spec ao n cap f w hv hn
  rw [hg.out] at h; exact h

end Go.Proofs.Ytdhfbblameiloaa

/-
  The model's PutSum: what was there, and behind it the four bytes of its sum, in memory of its own.
-/
namespace Go.Proofs.Ytdhfbblameiloaa
open Go.RowKit
set_option maxRecDepth 4000

set_option maxHeartbeats 1000000 in
theorem putSum_own (b off n cap : Nat) (f : Nat → Int) (w : World) (hv : View w (some ⟨b, off, none⟩) n cap f) (hn : n ≤ 35184372088832) :
    Calls Try.prog 127 #[.slice (some ⟨b, off, none⟩) n cap] w fun e w' => ∃ v, e = .returned v ∧ w'.ownsRow w.heap.size 5 1 v (n + 4) (bl (lof n f ++ sumL (crc n f))) ∧ Below w.heap.size w w' := by
  obtain ⟨i0, hi, hz0, hz1, hz2⟩ := info_parts Try.info5
  have hlt := crc_lt hv.byte
  obtain ⟨c, hc⟩ : ∃ c, Hid (crc n f = c) := ⟨_, rfl⟩
  rw [hc.out] at hlt
  have hcz : (c : Int) < 4294967296 := by omega
  have hw : ∀ x : Int, IntKind.u8.wrap x = x % 256 := u8_wrap
  have hown0 := World.ownsRow_lit (base := w.heap.size) (e := 5) (size := 1) w #[] 0 (Nat.le_refl _) (Nat.zero_le _) rfl
  have hb0 : Below w.heap.size w (w.alloc (.cells #[] 5)) := (Below.refl _ _).alloc (Nat.le_refl _) _
  have hcl := cells_of_view (hv.below hb0)
  have hsz : (w.alloc (.cells #[] 5)).heap.size = w.heap.size + 1 := by simp
  go_enter Try.func127, Try.ntmps127
  go_wp2_with fail
  refine (crc_spec' _ n cap f w hc hv (by omega)).mono ?_
  rintro e _ ⟨rfl, rfl⟩
  go_wp2_with (first | (at_builtin; refine wpList_append_own _ rfl (.tmp 6) (.tmp 7) 27 rfl w.heap.size 5 i0 (.int .u8 0) 1 1 Try.underlying27 hi hz0 hz1 hz2 rfl (by decide) (.slice (some ⟨w.heap.size, 0, none⟩) 0 0) 0 [] rfl hown0 ⟨b, off, none⟩ n cap (bl (lof n f)) rfl (by rw [bl_len, lof_len]; omega) hcl (bl_one _) (by unfold maxLen; omega) (by omega) (by rw [hsz]; omega) ?_; intro v1 w1 hown1 hgr1 _; simp only [Nat.zero_add, List.nil_append] at hown1) | (at_builtin; refine wpList_append_own _ rfl (.tmp 8) (.tmp 20) 27 rfl w.heap.size 5 i0 (.int .u8 0) 1 1 Try.underlying27 hi hz0 hz1 hz2 rfl (by decide) v1 n (bl (lof n f)) rfl (hown1.alloc _) ⟨w1.heap.size, 0, none⟩ 4 4 (bl (sumL c)) rfl rfl (cellNews w1 (bl (sumL c)) 5) (bl_one _) (by unfold maxLen; omega) (by omega) (by have := hgr1.size; simp at this; simp; omega) ?_; intro v2 w2 hown2 hgr2 _))
  have hb1 : Below w.heap.size w w1 := hb0.grown hgr1 (by simp) (fun k hk => by simp only [Value.ownBlock, Option.some.injEq] at hk; omega)
  have hb2 : Below w.heap.size w w2 := (hb1.alloc hb1.size _).grown hgr2 (by have := hb1.size; simp; omega) (fun k hk => (hown1.lt k hk).1)
  go_ret
  rw [hc.out]
  rw [← bl_append] at hown2
  exact ⟨v2, rfl, hown2, hb2⟩
theorem putSum_spec (b off n cap : Nat) (f : Nat → Int) (w : World) (hv : View w (some ⟨b, off, none⟩) n cap f) (hn : n ≤ 35184372088832) :
    Calls Try.prog 127 #[.slice (some ⟨b, off, none⟩) n cap] w fun e w' => ∃ g c, e = .returned (.slice (some ⟨g, 0, none⟩) (n + 4) c) ∧ w.heap.size ≤ g ∧ n + 4 ≤ c ∧ Row 5 w' g (n + 4) (fun i => (lof n f ++ sumL (crc n f)).getD i 0) ∧ Below w.heap.size w w' := by
  refine (putSum_own b off n cap f w hv hn).mono ?_
  rintro e w' ⟨v, rfl, hown, hb⟩
  obtain ⟨g, c', rfl, hg, hgc, hrow⟩ := row_of_own hown (by omega)
  exact ⟨g, c', rfl, hg, hgc, hrow, hb⟩
end Go.Proofs.Ytdhfbblameiloaa

/-
  The program's PutPage and the model's: a page in memory of its own.
-/
namespace Go.Proofs.Ytdhfbblameiloaa
open Go.RowKit
set_option maxRecDepth 4000

theorem clamp_id {x : Int} (h0 : 0 ≤ x) (h1 : x ≤ 1000000) : clampN x = x := by unfold clampN; rw [if_neg (by omega), if_neg (by omega)]
theorem str_size (l : List Int) : (strOfNums l).size = l.length := by
  have := strOfNums_data l
  show (strOfNums l).data.size = _
  rw [← Array.length_toList, this, List.length_map]
/-- What is made in three steps is a page. -/
theorem page_steps {k : Int} {s : ByteArray} {N1 N2 : Nat} {F1 F2 : Nat → Int} (hk : k = 1 ∨ k = 2) (hs : s.size ≤ 240) (e1 : N1 = (groups (clampN k)).length) (h1 : F1 = fun i => (groups (clampN k)).getD i 0) (e2 : N2 = N1 + (groups (clampN s.size)).length + s.size) (h2 : F2 = fun i => (textL N1 F1 s).getD i 0) :
    lof N2 F2 ++ sumL (crc N2 F2) = pageF k s ∧ N2 + 4 = (pageF k s).length := by
  have c1 : clampN k = k := clamp_id (by omega) (by omega)
  have c2 : clampN (s.size : Int) = s.size := clamp_id (by omega) (by omega)
  rw [c1] at e1 h1
  rw [c2] at e2
  have hl : lof N1 F1 = groups k := by rw [e1, h1]; exact lof_self _
  have ht : textL N1 F1 s = innL k s := by
    unfold textL innL txtL
    rw [hl, c2, List.append_assoc]
  rw [ht] at h2
  have hn : N2 = (innL k s).length := by rw [innL_len, e2, e1]
  have hl2 : lof N2 F2 = innL k s := by rw [hn, h2]; exact lof_self _
  unfold pageF
  rw [if_pos ⟨hk, hs⟩, pageL_len, hl2, hn, h2]
  exact ⟨rfl, rfl⟩

set_option maxHeartbeats 1000000 in
theorem isKind_any (k : Int) (w : World) : Calls Try.prog 105 #[.int .i64 k] w fun e w' => e = .returned (.bool (decide (k = 1) || decide (k = 2))) ∧ w = w' := by
  go_enter Try.func105, Try.ntmps105
  by_cases h1 : k = 1
  · subst h1
    go_wp2
    go_ret
    exact ⟨rfl, rfl⟩
  · have e1 : (k == 1) = false := beq_eq_false_iff_ne.2 h1
    by_cases h2 : k = 2
    · subst h2
      go_wp2
      go_ret
      exact ⟨rfl, rfl⟩
    · have e2 : (k == 2) = false := beq_eq_false_iff_ne.2 h2
      go_wp2
      go_ret
      exact ⟨by simp [h1, h2], rfl⟩

/-- What PutPage comes to. -/
def PageTo (w : World) (l : List Int) (e : Ending) (w' : World) : Prop := ∃ g c, e = .returned (.slice (some ⟨g, 0, none⟩) l.length c) ∧ w.heap.size ≤ g ∧ l.length ≤ c ∧ Row 5 w' g l.length (fun i => l.getD i 0) ∧ Below w.heap.size w w'

set_option maxHeartbeats 1000000 in
theorem putPage_impl (b off n cap : Nat) (f : Nat → Int) (k : Int) (w : World) (hv : View w (some ⟨b, off, none⟩) n cap f) (hn : n ≤ 1048576) (hk0 : -9223372036854775808 ≤ k) (hk1 : k ≤ 9223372036854775807) :
    Calls Try.prog 44 #[.int .i64 k, .slice (some ⟨b, off, none⟩) n cap] w (PageTo w (pageF k (strOfNums (lof n f)))) := by
  have hsz : (strOfNums (lof n f)).size = n := by rw [str_size, lof_len]
  have HQ : Hid (∀ W, Below w.heap.size w W → (convert 27 9 (.slice (some ⟨b, off, none⟩) n cap)).run Try.prog W = .ok (.string (strOfNums (lof n f))) W) := fun W hb => conv_view (hv.below hb)
  obtain ⟨s, hs⟩ : ∃ s, Hid (strOfNums (lof n f) = s) := ⟨_, rfl⟩
  rw [hs.out] at hsz HQ ⊢
  by_cases hk : k = 1 ∨ k = 2
  case neg =>
    have HF : Hid (pageF k s = []) := by show _ = _; unfold pageF; rw [if_neg (fun h => hk h.1)]
    have hV := fun W => isKind_any k W
    have hkk : (decide (k = 1) || decide (k = 2)) = false := by simpa using hk
    rw [hkk] at hV
    go_enter Try.func44, Try.ntmps44
    go_wp2_with fail
    refine (hV _).mono ?_
    rintro e _ ⟨rfl, rfl⟩
    go_wp2
    go_ret
    rw [HF.out]
    exact ⟨_, 0, rfl, Nat.le_refl _, Nat.le_refl _, noRow _ _ _, (Below.refl _ _).alloc (Nat.le_refl _) _⟩
  have hV := fun W => isKind_any k W
  have hkk : (decide (k = 1) || decide (k = 2)) = true := by simpa using hk
  rw [hkk] at hV
  by_cases hl : n ≤ 240
  case neg =>
    have HF : Hid (pageF k s = []) := by show _ = _; unfold pageF; rw [if_neg (fun h => hl (by have := h.2; omega))]
    have hz : (240 : Int) < n := by omega
    go_enter Try.func44, Try.ntmps44
    go_wp2_with fail
    refine (hV _).mono ?_
    rintro e _ ⟨rfl, rfl⟩
    go_wp2
    go_ret
    rw [HF.out]
    exact ⟨_, 0, rfl, Nat.le_refl _, Nat.le_refl _, noRow _ _ _, (Below.refl _ _).alloc (Nat.le_refl _) _⟩
  have hz : ¬ (240 : Int) < n := by omega
  have hq0 := HQ.out w.drew (Below.refl _ _).drew
  obtain ⟨N1, hN1⟩ : ∃ N1, Hid (N1 = (groups (clampN k)).length) := ⟨_, rfl⟩
  obtain ⟨F1, hF1⟩ : ∃ F1 : Nat → Int, Hid (F1 = fun i => (groups (clampN k)).getD i 0) := ⟨_, rfl⟩
  obtain ⟨N2, hN2⟩ : ∃ N2, Hid (N2 = N1 + (groups (clampN s.size)).length + s.size) := ⟨_, rfl⟩
  obtain ⟨F2, hF2⟩ : ∃ F2 : Nat → Int, Hid (F2 = fun i => (textL N1 F1 s).getD i 0) := ⟨_, rfl⟩
  have HP := page_steps (k := k) (s := s) hk (by omega) hN1.out hF1.out hN2.out hF2.out
  obtain ⟨L, hL⟩ : ∃ L, Hid (pageF k s = L) := ⟨_, rfl⟩
  rw [hL.out] at HP ⊢
  have hl1 : N1 ≤ 3 := by rw [hN1.out]; exact (groups_len _).2
  have hl2 : N2 ≤ 2000000 := by rw [hN2.out]; have := (groups_len (clampN s.size)).2; omega
  have hl3 : N2 + 4 = L.length := HP.2
  have HB1 : Hid (∀ i, i < N1 → 0 ≤ F1 i ∧ F1 i ≤ 255) := by
    show ∀ i, _
    rw [hN1.out, hF1.out]
    exact bytes_of_list (groups_byte _ (clampN_bd _).1 (clampN_bd _).2)
  have HB2 : Hid (∀ i, i < N2 → 0 ≤ F2 i ∧ F2 i ≤ 255) := by
    show ∀ i, _
    have hlt : (textL N1 F1 s).length = N2 := by rw [textL_len, hN2.out]
    rw [← hlt, hF2.out]
    refine bytes_of_list (fun y hy => ?_)
    unfold textL at hy
    rcases List.mem_append.1 hy with h | h
    · rcases List.mem_append.1 h with h | h
      · exact lof_byteS HB1.out y h
      · exact groups_byte _ (clampN_bd _).1 (clampN_bd _).2 y h
    · exact sl_byte s y h
  have hT : ∀ (g c : Nat) (W : World), Row 5 W g N1 F1 → N1 ≤ c → Calls Try.prog 107 #[.slice (some ⟨g, 0, none⟩) N1 c, .string s] W fun e w' => ∃ g' c', e = .returned (.slice (some ⟨g', 0, none⟩) N2 c') ∧ W.heap.size ≤ g' ∧ N2 ≤ c' ∧ Row 5 w' g' N2 F2 ∧ Below W.heap.size W w' := by
    intro g c W hr hc
    have := putText_impl g 0 N1 c F1 s W (hr.view hc HB1.out) (by omega) (by omega)
    rw [← hN2.out, ← hF2.out] at this
    exact this
  have hS : ∀ (g c : Nat) (W : World), Row 5 W g N2 F2 → N2 ≤ c → Calls Try.prog 106 #[.slice (some ⟨g, 0, none⟩) N2 c] W (PageTo W L) := by
    intro g c W hr hc
    have := putSum_impl g 0 N2 c F2 W (hr.view hc HB2.out) (by omega)
    rw [HP.1, HP.2] at this
    exact this
  have hU : ∀ W, Calls Try.prog 108 #[.slice none 0 0, .int .i64 k] W fun e w' => ∃ g c, e = .returned (.slice (some ⟨g, 0, none⟩) N1 c) ∧ W.heap.size ≤ g ∧ N1 ≤ c ∧ Row 5 w' g N1 F1 ∧ Below W.heap.size W w' := by
    intro W
    have := putU_opt none 0 0 (fun _ => 0) k W (noView _ _) (fun _ => ⟨rfl, rfl⟩) (by omega) hk0 hk1
    rw [Nat.zero_add, show lof 0 (fun _ => (0 : Int)) = [] from rfl, List.nil_append, ← hN1.out, ← hF1.out] at this
    exact this
  clear HB1 HB2 hN1 hF1 hN2 hF2 HP
  go_enter Try.func44, Try.ntmps44
  go_wp2_with fail
  refine (hV _).mono ?_
  rintro e _ ⟨rfl, rfl⟩
  clear hV
  go_wp2_with fail
  go_region_held3 (fun W => (convert 27 9 (.slice (some ⟨b, off, none⟩) n cap)).run Try.prog W = .ok (.string s) W) (first | assumption | go_keep) (first
    | (go_at_call 108; refine (hU _).mono ?_; rintro e w1 ⟨g1, c1, rfl, hg1, hc1, hr1, hb1⟩; have hb1' : Hid (Below w.heap.size w w1) := Below.trans (by repeat (first | exact Below.refl _ _ | refine Below.drew ?_)) hb1; have hq1 := HQ.out w1 hb1'.out)
    | (go_at_call 107; refine (hT g1 c1 _ (by first | exact hr1 | exact hr1.belowAll (Below.refl _ _).drew) hc1).mono ?_; rintro e w2 ⟨g2, c2, rfl, hg2, hc2, hr2, hb2⟩; have hb2' : Hid (Below w.heap.size w w2) := Below.trans (by repeat (first | exact hb1'.out | refine Below.drew ?_)) (hb2.mono (by have := hb1'.out.size; simpa using this)); have hq2 := HQ.out w2 hb2'.out)
    | (go_at_call 106; refine (hS g2 c2 _ (by first | exact hr2 | exact hr2.belowAll (Below.refl _ _).drew) hc2).mono ?_; rintro e w3 ⟨g3, c3, rfl, hg3, hc3, hr3, hb3⟩; have hb3' : Hid (Below w.heap.size w w3) := Below.trans (by repeat (first | exact hb2'.out | refine Below.drew ?_)) (hb3.mono (by have := hb2'.out.size; simpa using this)); have hq3 := HQ.out w3 hb3'.out))
  go_wp2
  go_ret
  exact ⟨g3, c3, rfl, Nat.le_trans (Nat.le_trans hb2'.out.size (by simp)) hg3, hc3, hr3, hb3'.out⟩

set_option maxHeartbeats 1000000 in
theorem putPage_spec (b off n cap : Nat) (f : Nat → Int) (k : Int) (w : World) (hv : View w (some ⟨b, off, none⟩) n cap f) (hn : n ≤ 1048576) (hk0 : -9223372036854775808 ≤ k) (hk1 : k ≤ 9223372036854775807) :
    Calls Try.prog 96 #[.int .i64 k, .slice (some ⟨b, off, none⟩) n cap] w (PageTo w (pageF k (strOfNums (lof n f)))) := by
  have hsz : (strOfNums (lof n f)).size = n := by rw [str_size, lof_len]
  have HQ : Hid (∀ W, Below w.heap.size w W → (convert 27 9 (.slice (some ⟨b, off, none⟩) n cap)).run Try.prog W = .ok (.string (strOfNums (lof n f))) W) := fun W hb => conv_view (hv.below hb)
  obtain ⟨s, hs⟩ : ∃ s, Hid (strOfNums (lof n f) = s) := ⟨_, rfl⟩
  rw [hs.out] at hsz HQ ⊢
  by_cases hk : k = 1 ∨ k = 2
  case neg =>
    have HF : Hid (pageF k s = []) := by show _ = _; unfold pageF; rw [if_neg (fun h => hk h.1)]
    have hV := fun W => l1In_no k 1 2 W (by omega)
    go_enter Try.func96, Try.ntmps96
    go_wp2_with fail
    refine (hV _).mono ?_
    rintro e _ ⟨rfl, rfl⟩
    go_wp2
    go_ret
    rw [HF.out]
    exact ⟨_, 0, rfl, Nat.le_refl _, Nat.le_refl _, noRow _ _ _, (Below.refl _ _).alloc (Nat.le_refl _) _⟩
  have hV := fun W => l1In_yes k 1 2 W (by omega) (by omega)
  by_cases hl : n ≤ 240
  case neg =>
    have HF : Hid (pageF k s = []) := by show _ = _; unfold pageF; rw [if_neg (fun h => hl (by have := h.2; omega))]
    have hz : (240 : Int) < n := by omega
    go_enter Try.func96, Try.ntmps96
    go_wp2_with fail
    refine (hV _).mono ?_
    rintro e _ ⟨rfl, rfl⟩
    go_wp2
    go_ret
    rw [HF.out]
    exact ⟨_, 0, rfl, Nat.le_refl _, Nat.le_refl _, noRow _ _ _, (Below.refl _ _).alloc (Nat.le_refl _) _⟩
  have hz : ¬ (240 : Int) < n := by omega
  have hq0 := HQ.out w.drew (Below.refl _ _).drew
  have hq0b := HQ.out (w.alloc (.cells #[] 5)).drew ((Below.refl _ _).alloc (Nat.le_refl _) _).drew
  obtain ⟨N1, hN1⟩ : ∃ N1, Hid (N1 = (groups (clampN k)).length) := ⟨_, rfl⟩
  obtain ⟨F1, hF1⟩ : ∃ F1 : Nat → Int, Hid (F1 = fun i => (groups (clampN k)).getD i 0) := ⟨_, rfl⟩
  obtain ⟨N2, hN2⟩ : ∃ N2, Hid (N2 = N1 + (groups (clampN s.size)).length + s.size) := ⟨_, rfl⟩
  obtain ⟨F2, hF2⟩ : ∃ F2 : Nat → Int, Hid (F2 = fun i => (textL N1 F1 s).getD i 0) := ⟨_, rfl⟩
  have HP := page_steps (k := k) (s := s) hk (by omega) hN1.out hF1.out hN2.out hF2.out
  obtain ⟨L, hL⟩ : ∃ L, Hid (pageF k s = L) := ⟨_, rfl⟩
  rw [hL.out] at HP ⊢
  have hl1 : N1 ≤ 3 := by rw [hN1.out]; exact (groups_len _).2
  have hl2 : N2 ≤ 2000000 := by rw [hN2.out]; have := (groups_len (clampN s.size)).2; omega
  have hl3 : N2 + 4 = L.length := HP.2
  have HB1 : Hid (∀ i, i < N1 → 0 ≤ F1 i ∧ F1 i ≤ 255) := by
    show ∀ i, _
    rw [hN1.out, hF1.out]
    exact bytes_of_list (groups_byte _ (clampN_bd _).1 (clampN_bd _).2)
  have HB2 : Hid (∀ i, i < N2 → 0 ≤ F2 i ∧ F2 i ≤ 255) := by
    show ∀ i, _
    have hlt : (textL N1 F1 s).length = N2 := by rw [textL_len, hN2.out]
    rw [← hlt, hF2.out]
    refine bytes_of_list (fun y hy => ?_)
    unfold textL at hy
    rcases List.mem_append.1 hy with h | h
    · rcases List.mem_append.1 h with h | h
      · exact lof_byteS HB1.out y h
      · exact groups_byte _ (clampN_bd _).1 (clampN_bd _).2 y h
    · exact sl_byte s y h
  have hT : ∀ (g c : Nat) (W : World), Row 5 W g N1 F1 → N1 ≤ c → Calls Try.prog 128 #[.slice (some ⟨g, 0, none⟩) N1 c, .string s] W fun e w' => ∃ g' c', e = .returned (.slice (some ⟨g', 0, none⟩) N2 c') ∧ W.heap.size ≤ g' ∧ N2 ≤ c' ∧ Row 5 w' g' N2 F2 ∧ Below W.heap.size W w' := by
    intro g c W hr hc
    have := putText_spec g 0 N1 c F1 s W (hr.view hc HB1.out) (by omega) (by omega)
    rw [← hN2.out, ← hF2.out] at this
    exact this
  have hS : ∀ (g c : Nat) (W : World), Row 5 W g N2 F2 → N2 ≤ c → Calls Try.prog 127 #[.slice (some ⟨g, 0, none⟩) N2 c] W (PageTo W L) := by
    intro g c W hr hc
    have := putSum_spec g 0 N2 c F2 W (hr.view hc HB2.out) (by omega)
    rw [HP.1, HP.2] at this
    exact this
  have hU : ∀ (g : Nat) (W : World), Calls Try.prog 129 #[.slice (some ⟨g, 0, none⟩) 0 0, .int .i64 k] W fun e w' => ∃ g c, e = .returned (.slice (some ⟨g, 0, none⟩) N1 c) ∧ W.heap.size ≤ g ∧ N1 ≤ c ∧ Row 5 w' g N1 F1 ∧ Below W.heap.size W w' := by
    intro g W
    refine (putU_spec g 0 0 0 (fun _ => 0) k W ⟨Nat.le_refl _, fun _ hi => absurd hi (Nat.not_lt_zero _), fun h => absurd h (Nat.lt_irrefl _)⟩ (by omega) hk0 hk1).mono ?_
    rintro e w' ⟨v, rfl, hown, hb⟩
    rw [Nat.zero_add, show lof 0 (fun _ => (0 : Int)) = [] from rfl, List.nil_append, ← hN1.out] at hown
    obtain ⟨g', c', rfl, hg', hgc', hrow⟩ := row_of_own hown (by rw [hN1.out]; exact (groups_len _).1)
    rw [← hF1.out] at hrow
    exact ⟨g', c', rfl, hg', hgc', hrow, hb⟩
  clear HB1 HB2 hN1 hF1 hN2 hF2 HP
  go_enter Try.func96, Try.ntmps96
  go_wp2_with fail
  refine (hV _).mono ?_
  rintro e _ ⟨rfl, rfl⟩
  clear hV
  go_wp2_with fail
  go_region_held3 (fun W => (convert 27 9 (.slice (some ⟨b, off, none⟩) n cap)).run Try.prog W = .ok (.string s) W) (first | assumption | go_keep) (first
    | (go_at_call 129; refine (hU _ _).mono ?_; rintro e w1 ⟨g1, c1, rfl, hg1, hc1, hr1, hb1⟩; have hb1' : Hid (Below w.heap.size w w1) := Below.trans (by repeat (first | exact Below.refl _ _ | exact (Below.refl _ _).drew.alloc (by simp) _ | refine Below.drew ?_)) (hb1.mono (by simp)); have hq1 := HQ.out w1 hb1'.out)
    | (go_at_call 128; refine (hT g1 c1 _ (by first | exact hr1 | exact hr1.belowAll (Below.refl _ _).drew) hc1).mono ?_; rintro e w2 ⟨g2, c2, rfl, hg2, hc2, hr2, hb2⟩; have hb2' : Hid (Below w.heap.size w w2) := Below.trans (by repeat (first | exact hb1'.out | refine Below.drew ?_)) (hb2.mono (by have := hb1'.out.size; simpa using this)); have hq2 := HQ.out w2 hb2'.out)
    | (go_at_call 127; refine (hS g2 c2 _ (by first | exact hr2 | exact hr2.belowAll (Below.refl _ _).drew) hc2).mono ?_; rintro e w3 ⟨g3, c3, rfl, hg3, hc3, hr3, hb3⟩; have hb3' : Hid (Below w.heap.size w w3) := Below.trans (by repeat (first | exact hb2'.out | refine Below.drew ?_)) (hb3.mono (by have := hb2'.out.size; simpa using this)); have hq3 := HQ.out w3 hb3'.out))
  go_wp2
  go_ret
  exact ⟨g3, c3, rfl, Nat.le_trans (Nat.le_trans hb2'.out.size (by simp)) hg3, hc3, hr3, hb3'.out⟩
end Go.Proofs.Ytdhfbblameiloaa

/-
  A row of the call's own is one above every lower bound.
-/
namespace Go.Proofs.Ytdhfbblameiloaa
open Go.RowKit
set_option maxRecDepth 4000

theorem own_loK {W : World} {base base' T c N : Nat} {v : Value} {xs : List Value} (h : W.ownsRow base T c v N xs) (hB : base' ≤ base) : W.ownsRow base' T c v N xs := by
  refine ⟨h.1, ?_⟩
  rcases h.2 with h0 | ⟨g, cap, cur, e, hb, hr⟩
  · exact .inl h0
  · exact .inr ⟨g, cap, cur, e, Nat.le_trans hB hb, hr⟩
end Go.Proofs.Ytdhfbblameiloaa

/-
  The model's PutPage: the bytes are the call's own.
-/
namespace Go.Proofs.Ytdhfbblameiloaa
open Go.RowKit
set_option maxRecDepth 4000

set_option maxHeartbeats 1000000 in
theorem putPage_own (b off n cap : Nat) (f : Nat → Int) (k : Int) (w : World) (hv : View w (some ⟨b, off, none⟩) n cap f) (hk : k = 1 ∨ k = 2) (hl : n ≤ 240) :
    Calls Try.prog 96 #[.int .i64 k, .slice (some ⟨b, off, none⟩) n cap] w fun e w' => ∃ v, e = .returned v ∧ w'.ownsRow w.heap.size 5 1 v (pageF k (strOfNums (lof n f))).length (bl (pageF k (strOfNums (lof n f)))) ∧ Below w.heap.size w w' := by
  have hk0 : -9223372036854775808 ≤ k := by omega
  have hk1 : k ≤ 9223372036854775807 := by omega
  have hsz : (strOfNums (lof n f)).size = n := by rw [str_size, lof_len]
  have HQ : Hid (∀ W, Below w.heap.size w W → (convert 27 9 (.slice (some ⟨b, off, none⟩) n cap)).run Try.prog W = .ok (.string (strOfNums (lof n f))) W) := fun W hb => conv_view (hv.below hb)
  obtain ⟨s, hs⟩ : ∃ s, Hid (strOfNums (lof n f) = s) := ⟨_, rfl⟩
  rw [hs.out] at hsz HQ ⊢
  have hV := fun W => l1In_yes k 1 2 W (by omega) (by omega)
  have hz : ¬ (240 : Int) < n := by omega
  have hq0 := HQ.out w.drew (Below.refl _ _).drew
  have hq0b := HQ.out (w.alloc (.cells #[] 5)).drew ((Below.refl _ _).alloc (Nat.le_refl _) _).drew
  obtain ⟨N1, hN1⟩ : ∃ N1, Hid (N1 = (groups (clampN k)).length) := ⟨_, rfl⟩
  obtain ⟨F1, hF1⟩ : ∃ F1 : Nat → Int, Hid (F1 = fun i => (groups (clampN k)).getD i 0) := ⟨_, rfl⟩
  obtain ⟨N2, hN2⟩ : ∃ N2, Hid (N2 = N1 + (groups (clampN s.size)).length + s.size) := ⟨_, rfl⟩
  obtain ⟨F2, hF2⟩ : ∃ F2 : Nat → Int, Hid (F2 = fun i => (textL N1 F1 s).getD i 0) := ⟨_, rfl⟩
  have HP := page_steps (k := k) (s := s) hk (by omega) hN1.out hF1.out hN2.out hF2.out
  obtain ⟨L, hL⟩ : ∃ L, Hid (pageF k s = L) := ⟨_, rfl⟩
  rw [hL.out] at HP ⊢
  have hl1 : N1 ≤ 3 := by rw [hN1.out]; exact (groups_len _).2
  have hl2 : N2 ≤ 2000000 := by rw [hN2.out]; have := (groups_len (clampN s.size)).2; omega
  have hl3 : N2 + 4 = L.length := HP.2
  have HB1 : Hid (∀ i, i < N1 → 0 ≤ F1 i ∧ F1 i ≤ 255) := by
    show ∀ i, _
    rw [hN1.out, hF1.out]
    exact bytes_of_list (groups_byte _ (clampN_bd _).1 (clampN_bd _).2)
  have HB2 : Hid (∀ i, i < N2 → 0 ≤ F2 i ∧ F2 i ≤ 255) := by
    show ∀ i, _
    have hlt : (textL N1 F1 s).length = N2 := by rw [textL_len, hN2.out]
    rw [← hlt, hF2.out]
    refine bytes_of_list (fun y hy => ?_)
    unfold textL at hy
    rcases List.mem_append.1 hy with h | h
    · rcases List.mem_append.1 h with h | h
      · exact lof_byteS HB1.out y h
      · exact groups_byte _ (clampN_bd _).1 (clampN_bd _).2 y h
    · exact sl_byte s y h
  have hT : ∀ (g c : Nat) (W : World), Row 5 W g N1 F1 → N1 ≤ c → Calls Try.prog 128 #[.slice (some ⟨g, 0, none⟩) N1 c, .string s] W fun e w' => ∃ g' c', e = .returned (.slice (some ⟨g', 0, none⟩) N2 c') ∧ W.heap.size ≤ g' ∧ N2 ≤ c' ∧ Row 5 w' g' N2 F2 ∧ Below W.heap.size W w' := by
    intro g c W hr hc
    have := putText_spec g 0 N1 c F1 s W (hr.view hc HB1.out) (by omega) (by omega)
    rw [← hN2.out, ← hF2.out] at this
    exact this
  have hS : ∀ (g c : Nat) (W : World), Row 5 W g N2 F2 → N2 ≤ c → Calls Try.prog 127 #[.slice (some ⟨g, 0, none⟩) N2 c] W fun e w' => ∃ v, e = .returned v ∧ w'.ownsRow W.heap.size 5 1 v L.length (bl L) ∧ Below W.heap.size W w' := by
    intro g c W hr hc
    have := putSum_own g 0 N2 c F2 W (hr.view hc HB2.out) (by omega)
    rw [HP.1, HP.2] at this
    exact this
  have hU : ∀ (g : Nat) (W : World), Calls Try.prog 129 #[.slice (some ⟨g, 0, none⟩) 0 0, .int .i64 k] W fun e w' => ∃ g c, e = .returned (.slice (some ⟨g, 0, none⟩) N1 c) ∧ W.heap.size ≤ g ∧ N1 ≤ c ∧ Row 5 w' g N1 F1 ∧ Below W.heap.size W w' := by
    intro g W
    refine (putU_spec g 0 0 0 (fun _ => 0) k W ⟨Nat.le_refl _, fun _ hi => absurd hi (Nat.not_lt_zero _), fun h => absurd h (Nat.lt_irrefl _)⟩ (by omega) hk0 hk1).mono ?_
    rintro e w' ⟨v, rfl, hown, hb⟩
    rw [Nat.zero_add, show lof 0 (fun _ => (0 : Int)) = [] from rfl, List.nil_append, ← hN1.out] at hown
    obtain ⟨g', c', rfl, hg', hgc', hrow⟩ := row_of_own hown (by rw [hN1.out]; exact (groups_len _).1)
    rw [← hF1.out] at hrow
    exact ⟨g', c', rfl, hg', hgc', hrow, hb⟩
  clear HB1 HB2 hN1 hF1 hN2 hF2 HP
  go_enter Try.func96, Try.ntmps96
  go_wp2_with fail
  refine (hV _).mono ?_
  rintro e _ ⟨rfl, rfl⟩
  clear hV
  go_wp2_with fail
  go_region_held3 (fun W => (convert 27 9 (.slice (some ⟨b, off, none⟩) n cap)).run Try.prog W = .ok (.string s) W) (first | assumption | go_keep) (first
    | (go_at_call 129; refine (hU _ _).mono ?_; rintro e w1 ⟨g1, c1, rfl, hg1, hc1, hr1, hb1⟩; have hb1' : Hid (Below w.heap.size w w1) := Below.trans (by repeat (first | exact Below.refl _ _ | exact (Below.refl _ _).drew.alloc (by simp) _ | refine Below.drew ?_)) (hb1.mono (by simp)); have hq1 := HQ.out w1 hb1'.out)
    | (go_at_call 128; refine (hT g1 c1 _ (by first | exact hr1 | exact hr1.belowAll (Below.refl _ _).drew) hc1).mono ?_; rintro e w2 ⟨g2, c2, rfl, hg2, hc2, hr2, hb2⟩; have hb2' : Hid (Below w.heap.size w w2) := Below.trans (by repeat (first | exact hb1'.out | refine Below.drew ?_)) (hb2.mono (by have := hb1'.out.size; simpa using this)); have hq2 := HQ.out w2 hb2'.out)
    | (go_at_call 127; refine (hS g2 c2 _ (by first | exact hr2 | exact hr2.belowAll (Below.refl _ _).drew) hc2).mono ?_; rintro e w3 ⟨v3, rfl, hO3, hb3⟩; have hb3' : Hid (Below w.heap.size w w3) := Below.trans (by repeat (first | exact hb2'.out | refine Below.drew ?_)) (hb3.mono (by have := hb2'.out.size; simpa using this)); have hq3 := HQ.out w3 hb3'.out))
  go_wp2
  go_ret
  exact ⟨_, rfl, own_loK hO3 (Nat.le_trans hb2'.out.size (by simp)), hb3'.out⟩
end Go.Proofs.Ytdhfbblameiloaa

/-
  Bytes that are bent, and a place in bytes, as far as a law leans on their draws.
-/
namespace Go.Proofs.Ytdhfbblameiloaa
open Go.RowKit
set_option maxRecDepth 4000

/-- Of what lies below B block g alone may have turned. -/
structure Kept (B g : Nat) (w w' : World) : Prop where
  os : w'.os = w.os
  tape : w'.tape = w.tape
  output : w'.output = w.output
  size : w.heap.size ≤ w'.heap.size
  block : ∀ k, k < B → k ≠ g → w'.heap[k]? = w.heap[k]?
theorem Kept.ofBut {B g : Nat} {w w' : World} (h : But g w w') (hB : B ≤ w.heap.size) : Kept B g w w' := ⟨h.os, h.tape, h.output, h.size, fun k hk hg => h.block k (by omega) hg⟩
theorem Kept.trans {B g : Nat} {a b c : World} (h : Kept B g a b) (k : Kept B g b c) : Kept B g a c :=
  ⟨k.os.trans h.os, k.tape.trans h.tape, k.output.trans h.output, Nat.le_trans h.size k.size, fun i hi hg => (k.block i hi hg).trans (h.block i hi hg)⟩
theorem Kept.below {B g A : Nat} {w w' : World} (h : Kept B g w w') (h1 : A ≤ g) (h2 : A ≤ B) : Below A w w' := ⟨h.os, h.tape, h.output, h.size, fun k hk => h.block k (by omega) (by omega)⟩
theorem Kept.setCell {B g b i : Nat} {w w' : World} (h : Kept B g w w') (hb : B ≤ b) (u : Value) : Kept B g w (w'.setCell ⟨b, i, none⟩ u) :=
  ⟨h.os, h.tape, h.output, by simpa using h.size, fun k hk hg => by rw [Below.heap_setCell _ _ _ _ (by show k ≠ b; omega)]; exact h.block k hk hg⟩

/-- Bytes of the call's own that are bent: some bytes, no more than one beyond. -/
structure Bent (w' : World) (B N : Nat) (e : Ending) (b c m : Nat) (F : Nat → Int) : Prop where
  ret : e = .returned (.slice (some ⟨b, 0, none⟩) m c)
  few : m ≤ N + 1
  new : B ≤ b
  view : View w' (some ⟨b, 0, none⟩) m c F

/-- The same, the row being known. -/
structure BentR (w' : World) (B N : Nat) (e : Ending) (b c m : Nat) (F : Nat → Int) : Prop where
  ret : e = .returned (.slice (some ⟨b, 0, none⟩) m c)
  few : m ≤ N + 1
  new : B ≤ b
  le : m ≤ c
  byte : ∀ i, i < m → 0 ≤ F i ∧ F i ≤ 255
  row : Row 5 w' b m F
theorem BentR.to {w' : World} {B N : Nat} {e : Ending} {b c m : Nat} {F : Nat → Int} (h : BentR w' B N e b c m F) : Bent w' B N e b c m F := ⟨h.ret, h.few, h.new, h.row.view h.le h.byte⟩

theorem Cur.kept {B : Nat} {w w' : World} {g : Nat} {ao : Option Addr} {n cap : Nat} {f : Nat → Int} (h : Cur w g ao n cap f) (hk : ∀ k, k < B → w'.heap[k]? = w.heap[k]?) (hs : w.heap.size ≤ w'.heap.size) (hg : g < B) (hc : ∀ a, ao = some a → 0 < n → a.block < B) : Cur w' g ao n cap f := by
  obtain ⟨i, k, hr, h0, hi⟩ := h.cells
  refine ⟨⟨i, k, hr.of_block (hk g hg), h0, hi⟩, ⟨h.view.le, h.view.byte, fun hn => ?_⟩, h.apart⟩
  obtain ⟨b', off, e, hlt, hcc⟩ := h.view.cells hn
  refine ⟨b', off, e, Nat.lt_of_lt_of_le hlt hs, fun j hj => ?_⟩
  rw [World.cell?_of_block (w := w) (hk b' (hc _ e hn))]
  exact hcc j hj

theorem getD_byte {l : List Int} (h : ∀ y ∈ l, 0 ≤ y ∧ y ≤ 255) (i : Nat) (hi : i < l.length) : 0 ≤ l.getD i 0 ∧ l.getD i 0 ≤ 255 := h _ (getD_mem hi)

set_option maxHeartbeats 2000000 in
theorem l1Bend_row (g : Nat) (ao : Option Addr) (n cap : Nat) (f : Nat → Int) (B : Nat) (v : Value) (N : Nat) (l : List Int) (w : World) (hn : n ≤ 1048576) (hN0 : 0 < N) (hN : N ≤ 1048576) (hC : Cur w g ao n cap f) (hown : w.ownsRow B 5 1 v N (bl l)) (hl : l.length = N) (hyb : ∀ y ∈ l, 0 ≤ y ∧ y ≤ 255) (hg : g < B) (hc : ∀ a, ao = some a → 0 < n → a.block < B) (hBw : B ≤ w.heap.size) :
    Calls Try.prog 95 #[.pointer (some ⟨g, 0, none⟩), v] w fun e w' => (∃ (b c m : Nat) (F : Nat → Int), BentR w' B N e b c m F) ∧ Cur w' g ao n cap f ∧ Kept B g w w' := by
  obtain ⟨i0, hi, hz0, hz1, hz2⟩ := info_parts Try.info5
  obtain ⟨b, c, rfl, hb, hbc, hrow⟩ := row_of_own hown hN0
  have HY : Hid (∀ i, i < N → 0 ≤ l.getD i 0 ∧ l.getD i 0 ≤ 255) := fun i hi => getD_byte hyb i (by omega)
  have HB : Hid (∀ y ∈ l, 0 ≤ y ∧ y ≤ 255) := hyb
  have HL : Hid (l.length = N) := hl
  have HC : Hid (∀ a, ao = some a → 0 < n → a.block < B) := hc
  clear hyb hl hc
  have e0 : ((N : Int) == 0) = false := by simp; omega
  have hblt := hrow.lt
  go_enter Try.func95, Try.ntmps95
  go_wp2_with fail
  refine (l1Below_any g ao n cap f 5 w hn (by omega) (by omega) hC).mono ?_
  rintro e w1 ⟨x, rfl, hx0, hx1, hC1, hO1⟩
  have hr1 := hO1.row hrow (by omega)
  have hK1 : Kept B g w w1 := Kept.ofBut (But.ofOnly hO1) hBw
  have hs1 : w.heap.size ≤ w1.heap.size := hK1.size
  have hown1 := hown.kept hO1.grown (Or.inr (fun e => by have := (hown.lt g e).1; omega))
  clear hC hrow hown hO1
  by_cases h0 : x = 0
  · subst h0
    clear hown1
    go_wp2_with fail
    refine (l1Below_any g ao n cap f (N : Int) w1 hn (by omega) (by omega) hC1).mono ?_
    rintro e w2 ⟨y, rfl, hy0, hy1, hC2, hO2⟩
    obtain ⟨j, rfl⟩ := Int.eq_ofNat_of_zero_le hy0
    have hr2 := hO2.row hr1 (by omega)
    have hK2 := hK1.trans (Kept.ofBut (But.ofOnly hO2) (by omega))
    have hs2 : w.heap.size ≤ w2.heap.size := hK2.size
    have hl2 := hr2.lt
    have hg2 := hC2.lt
    clear hC1 hO2 hK1 hr1
    have HZ : Hid _ := newInts w2 [0, 1, 2, 127, 128, 255] 3
    have hb4 : Below w2.heap.size w2 (w2.alloc (.cells #[.int .i64 0, .int .i64 1, .int .i64 2, .int .i64 127, .int .i64 128, .int .i64 255] 3)) := (Below.refl _ _).alloc (Nat.le_refl _) _
    go_wp2_with fail
    refine (l1Int_any g ao n cap f w2.heap.size 6 (fun i => [0, 1, 2, 127, 128, 255].getD i 0) _ hn (by omega) (by omega) HZ.out (by omega) (hC2.below hb4)).mono ?_
    rintro e w4 ⟨q, hq, rfl, hC4, hO4⟩
    have hmem : [(0 : Int), 1, 2, 127, 128, 255].getD q 0 ∈ [(0 : Int), 1, 2, 127, 128, 255] := getD_mem hq
    have hxb : 0 ≤ [(0 : Int), 1, 2, 127, 128, 255].getD q 0 ∧ [(0 : Int), 1, 2, 127, 128, 255].getD q 0 ≤ 255 := by
      simp only [List.mem_cons, List.not_mem_nil, or_false] at hmem
      omega
    clear hmem HZ
    generalize [(0 : Int), 1, 2, 127, 128, 255].getD q 0 = z at *
    obtain ⟨hz0', hz1'⟩ := hxb
    have hr4 := hO4.row (hr2.belowAll hb4) (by omega)
    have hK4 := hK2.trans ((Kept.ofBut (But.ofBelow hb4) (by omega)).trans (Kept.ofBut (But.ofOnly hO4) (by have := hb4.size; omega)))
    have hcj := hr4.cell (i := j) (by omega)
    have hfj := hr4.frozen j
    have HS : Hid (Row 5 (w4.setCell ⟨b, j, none⟩ (.int .u8 z)) b N (fun i => if i = j then z else l.getD i 0)) := hr4.set j z
    have HK : Hid (Kept B g w (w4.setCell ⟨b, j, none⟩ (.int .u8 z))) := hK4.setCell hb _
    have HC4 : Hid (Cur (w4.setCell ⟨b, j, none⟩ (.int .u8 z)) g ao n cap f) := hC4.kept (B := B) (fun k hk => Below.heap_setCell _ _ _ _ (by show k ≠ b; omega)) (by simp) hg HC.out
    have hw : IntKind.u8.wrap z = z := by rw [u8_wrap]; omega
    have hjz : (j : Int) < (N : Int) := by omega
    clear hr2 hr4 hK2 hK4 hC2 hC4 hb4 hO4
    go_wp2
    go_ret
    refine ⟨⟨b, c, N, _, rfl, by omega, hb, hbc, fun i hi => ?_, HS.out⟩, HC4.out, HK.out⟩
    have := HY.out i hi
    split <;> omega
  · by_cases h1 : x = 1
    · subst h1
      clear hr1
      go_wp2_with (at_builtin; go_must (refine wpList_append_own _ rfl (.tmp 25) (.tmp 26) 27 rfl B 5 i0 (.int .u8 0) 1 1 Try.underlying27 hi hz0 hz1 hz2 rfl (by decide) (.slice (some ⟨b, 0, none⟩) N c) _ _ rfl (hown1.alloc _) ⟨w1.heap.size, 0, none⟩ 1 1 [.int .u8 3] rfl rfl (cellNew _ _ _) (bl_one [3]) (by unfold maxLen; omega) (by omega) (by simp; omega) ?_); intro v2 w2 hown2 hgr2 hnil)
      have hb2 : Below w1.heap.size w1 (w1.alloc (.cells #[.int .u8 3] 5)) := (Below.refl _ _).alloc (Nat.le_refl _) _
      have hO2 : w2.ownsRow B 5 1 v2 (N + 1) (bl (l ++ [3])) := by rw [bl_append]; exact hown2
      obtain ⟨b2, c2, rfl, hbb, hbc2, hrow2⟩ := row_of_own hO2 (by omega)
      have hkk : ∀ k, k < B → w2.heap[k]? = w1.heap[k]? := fun k hk => by
        rw [hgr2.block k (by simp; omega) (fun e => by have := (hown1.lt k e.symm).1; omega), Below.heap_alloc _ _ _ (by omega)]
      have hss : w1.heap.size ≤ w2.heap.size := Nat.le_trans (by simp) hgr2.size
      have HK : Hid (Kept B g w w2) := hK1.trans ⟨hgr2.os, hgr2.tape, hgr2.output, hss, fun k hk _ => hkk k hk⟩
      have HC4 : Hid (Cur w2 g ao n cap f) := hC1.kept (B := B) hkk hss hg HC.out
      have HY2 : Hid (∀ i, i < N + 1 → 0 ≤ (l ++ [3]).getD i 0 ∧ (l ++ [3]).getD i 0 ≤ 255) := fun i hi => by
        refine getD_byte ?_ i (by rw [List.length_append, HL.out]; simpa using hi)
        intro y hy
        rcases List.mem_append.1 hy with hy | hy
        · exact HB.out y hy
        · simp at hy; omega
      clear hgr2 hnil hown1 hown2 hO2 hkk hb2 hC1 hK1
      go_wp2
      go_ret
      exact ⟨⟨b2, c2, N + 1, _, rfl, by omega, hbb, hbc2, HY2.out, hrow2⟩, HC4.out, HK.out⟩
    · by_cases h2 : x = 2
      · subst h2
        clear hown1
        go_wp2_with fail
        refine (l1Below_any g ao n cap f (N : Int) w1 hn (by omega) (by omega) hC1).mono ?_
        rintro e w2 ⟨y, rfl, hy0, hy1, hC2, hO2⟩
        obtain ⟨j, rfl⟩ := Int.eq_ofNat_of_zero_le hy0
        have hr2 := hO2.row hr1 (by omega)
        have HK : Hid (Kept B g w w2) := hK1.trans (Kept.ofBut (But.ofOnly hO2) (by omega))
        have HV : Hid (Row 5 w2 b j (fun i => l.getD i 0)) := by
          obtain ⟨cu, u1, u2, u3⟩ := hr2
          exact ⟨cu, u1, by omega, fun i hi => u3 i (by omega)⟩
        have hjc : (j : Int) ≤ (c : Int) := by omega
        clear hC1 hr1 hr2 hO2 hK1
        go_wp2
        go_ret
        exact ⟨⟨b, c, j, _, rfl, by omega, hb, by omega, fun i hi => HY.out i (by omega), HV.out⟩, hC2, HK.out⟩
      · have q0 : (x == 0) = false := by simpa using h0
        have q1 : (x == 1) = false := by simpa using h1
        have q2 : (x == 2) = false := by simpa using h2
        clear hown1
        go_wp2
        go_ret
        exact ⟨⟨b, c, N, _, rfl, by omega, hb, hbc, HY.out, hr1⟩, hC1, hK1⟩
theorem l1Bend_any (g : Nat) (ao : Option Addr) (n cap : Nat) (f : Nat → Int) (B : Nat) (v : Value) (N : Nat) (l : List Int) (w : World) (hn : n ≤ 1048576) (hN0 : 0 < N) (hN : N ≤ 1048576) (hC : Cur w g ao n cap f) (hown : w.ownsRow B 5 1 v N (bl l)) (hl : l.length = N) (hyb : ∀ y ∈ l, 0 ≤ y ∧ y ≤ 255) (hg : g < B) (hc : ∀ a, ao = some a → 0 < n → a.block < B) (hBw : B ≤ w.heap.size) :
    Calls Try.prog 95 #[.pointer (some ⟨g, 0, none⟩), v] w fun e w' => (∃ (b c m : Nat) (F : Nat → Int), Bent w' B N e b c m F) ∧ Cur w' g ao n cap f ∧ Kept B g w w' := by
  refine (l1Bend_row g ao n cap f B v N l w hn hN0 hN hC hown hl hyb hg hc hBw).mono ?_
  rintro e w' ⟨⟨b, c, m, F, h⟩, h1, h2⟩
  exact ⟨⟨b, c, m, F, h.to⟩, h1, h2⟩
end Go.Proofs.Ytdhfbblameiloaa

/-
  What DrawGetPage draws; a page that is bent or not.
-/
namespace Go.Proofs.Ytdhfbblameiloaa
open Go.RowKit
set_option maxRecDepth 4000

/-- The bytes of a page with few bytes inside. -/
theorem page_few {k : Int} {l : List Int} (hk : k = 1 ∨ k = 2) (hl : l.length ≤ 9) : 0 < (pageF k (strOfNums l)).length ∧ (pageF k (strOfNums l)).length ≤ 100 ∧ ∀ y ∈ pageF k (strOfNums l), 0 ≤ y ∧ y ≤ 255 := by
  have hs : (strOfNums l).size ≤ 9 := by rw [str_size]; exact hl
  have hF : pageF k (strOfNums l) = pageL k (strOfNums l) := by unfold pageF; rw [if_pos ⟨hk, by omega⟩]
  rw [hF]
  have hlen := pageL_len k (strOfNums l)
  rw [innL_len] at hlen
  have h1 := groups_len k
  have h2 := groups_len (strOfNums l).size
  exact ⟨by omega, by omega, pageL_byte hk (by omega)⟩

set_option maxHeartbeats 2000000 in
theorem drawGetPage_any (ao : Option Addr) (n cap : Nat) (f : Nat → Int) (w : World) (hn : n ≤ 1048576) (hv : View w ao n cap f) :
    Calls Try.prog 38 #[.slice ao n cap] w fun e w' => ∃ (b c m : Nat) (F : Nat → Int), e = .returned (.slice (some ⟨b, 0, none⟩) m c) ∧ m ≤ 101 ∧ View w' (some ⟨b, 0, none⟩) m c F ∧ Below w.heap.size w w' := by
  go_enter Try.func38, Try.ntmps38
  go_wp2_with fail
  refine (l1New_any ao n cap f w hn hv).mono ?_
  rintro e w1 ⟨rfl, hC1, hb1⟩
  have hl1 := hC1.lt
  have HC : Hid (∀ a, ao = some a → 0 < n → a.block < w1.heap.size) := hC1.code
  go_wp2_with fail
  refine (l1Below_any w.heap.size ao n cap f 2 w1 hn (by omega) (by omega) hC1).mono ?_
  rintro e w2 ⟨x, rfl, hx0, hx1, hC2, hO2⟩
  have hB2 : But w.heap.size w1 w2 := But.ofOnly hO2
  clear hC1 hO2
  go_wp2_with fail
  refine (l1Some_any w.heap.size ao n cap f w2 hn hC2).mono ?_
  rintro e w3 ⟨⟨b, c, m, l, hD⟩, hC3, hB3⟩
  obtain rfl := hD.ret
  have hD' : Own9 w2 w3 m b c l := ⟨hD.len, hD.byte, hD.new, hD.le, hD.row, hD.few⟩
  have hB13 := hB2.trans hB3
  have hs3 := hB13.size
  have hm := hD.few
  have hkk : (1 + x) = 1 ∨ (1 + x) = 2 := by omega
  have hP := putPage_own b 0 m c (fun i => l.getD i 0) (1 + x) w3 hD'.view hkk (by omega)
  have hfew := page_few (l := lof m (fun i => l.getD i 0)) hkk (by rw [lof_len]; omega)
  obtain ⟨L, hL⟩ : ∃ L, Hid (pageF (1 + x) (strOfNums (lof m (fun i => l.getD i 0))) = L) := ⟨_, rfl⟩
  rw [hL.out] at hP hfew
  obtain ⟨hf0, hf1, hf2⟩ := hfew
  have HY : Hid (∀ y ∈ L, 0 ≤ y ∧ y ≤ 255) := hf2
  clear hC2 hB2 hB3 hD hD' hL hf2 hkk
  go_wp2_with fail
  refine hP.mono ?_
  rintro e w4 ⟨v, rfl, hown, hb4⟩
  have hC4 := hC3.below hb4
  have hs4 := hb4.size
  have hK4 : Kept w3.heap.size w.heap.size w3 w4 := ⟨hb4.os, hb4.tape, hb4.output, hb4.size, fun k hk _ => hb4.block k hk⟩
  clear hP hC3 hb4
  obtain ⟨N, hN⟩ := hidEx L.length
  have HL : Hid (L.length = N) := hN
  rw [hN.out] at hown hf0 hf1
  clear hN
  go_wp2_with fail
  refine (l1Bend_any w.heap.size ao n cap f w3.heap.size v N L w4 hn hf0 (by omega) hC4 hown HL.out HY.out (by omega) (fun a ha h0 => by have := HC.out a ha h0; omega) hs4).mono ?_
  rintro e w5 ⟨⟨b5, c5, m5, F, hD⟩, hC5, hK5⟩
  obtain ⟨rfl, hm5, hbn, hV⟩ := hD
  have HB : Hid (Below w.heap.size w w5) := hb1.trans ((hB13.below (Nat.le_refl _) (by omega)).trans ((hK4.trans hK5).below (Nat.le_refl _) (by omega)))
  have HV : Hid (View w5 (some ⟨b5, 0, none⟩) m5 c5 F) := hV
  clear hown HL HY hC4 hK4 hK5 hC5 hV hB13
  go_wp2
  go_ret
  exact ⟨b5, c5, m5, F, rfl, by omega, HV.out, HB.out⟩
end Go.Proofs.Ytdhfbblameiloaa

/-
  A draw of yes or no.
-/
namespace Go.Proofs.Ytdhfbblameiloaa
open Go.RowKit
set_option maxRecDepth 4000

set_option maxHeartbeats 1000000 in
theorem l1Once_any (g : Nat) (ao : Option Addr) (n cap : Nat) (f : Nat → Int) (m : Int) (w : World) (hn : n ≤ 1048576) (hm : 0 < m) (hm1 : m ≤ 16777216) (hC : Cur w g ao n cap f) :
    Calls Try.prog 79 #[.pointer (some ⟨g, 0, none⟩), .int .i64 m] w fun e w' => ∃ b : Bool, e = .returned (.bool b) ∧ Cur w' g ao n cap f ∧ Only g w w' := by
  go_enter Try.func79, Try.ntmps79
  go_wp2_with fail
  refine (l1Below_any g ao n cap f m w hn hm hm1 hC).mono ?_
  rintro e w1 ⟨x, rfl, hx0, hx1, hC1, hO1⟩
  go_wp2
  go_ret
  exact ⟨_, rfl, hC1, hO1⟩
end Go.Proofs.Ytdhfbblameiloaa

/-
  The draw of a sector's number.
-/
namespace Go.Proofs.Ytdhfbblameiloaa
open Go.RowKit
set_option maxRecDepth 4000

set_option maxHeartbeats 2000000 in
theorem l12N_any (g : Nat) (ao : Option Addr) (n cap : Nat) (f : Nat → Int) (w : World) (hn : n ≤ 1048576) (hC : Cur w g ao n cap f) :
    Calls Try.prog 82 #[.pointer (some ⟨g, 0, none⟩)] w fun e w' => ∃ z : Int, e = .returned (.int .i64 z) ∧ -1 ≤ z ∧ z ≤ 48 ∧ Cur w' g ao n cap f ∧ But g w w' := by
  have hI := l1Int_mem g ao n cap f [0, 1, 2, 3, 5, -1, 48] w.heap.size w rfl hn (by simp) (by simp) hC
  clear hC
  go_enter Try.func82, Try.ntmps82
  go_wp2_with fail
  refine hI.mono ?_
  rintro e w1 ⟨z, rfl, hz, hC1, hB1⟩
  have HE : Hid (-1 ≤ z ∧ z ≤ 48 ∧ Cur w1 g ao n cap f ∧ But g w w1) := ⟨by simp at hz; omega, by simp at hz; omega, hC1, hB1⟩
  clear hI hz hC1 hB1
  go_wp2
  go_ret
  exact ⟨z, rfl, HE.out⟩

/-- A disk in a variable, the cursor, and the result's variable. -/
structure PA (w : World) (g : Nat) (ao : Option Addr) (n cap : Nat) (f : Nat → Int) (B X gs sc : Nat) (fa : Option Addr) (fc : Nat) (D : PDisk) (ca : Option Addr) (cc : Nat) (ss cs : List Value) (W : World) : Prop where
  ms : MS W B X gs sc ca cc fa fc ss cs D D.secs
  ml : ML D sc ca cc fa fc
  ok : KFine D
  few : 4 ≤ D.secs.length ∧ D.secs.length ≤ 48
  r : VN W w.heap.size 32 [.slice none 0 0, .slice none 0 0, .int .i64 0, .slice none 0 0, .bool false]
  cur : Cur W g ao n cap f
  below : Below w.heap.size w W
  rg : w.heap.size < g
  gB : g < B
  code : ∀ a, ao = some a → 0 < n → a.block < w.heap.size
  b : B ≤ W.heap.size
  x : B ≤ X
theorem PA.but {w : World} {g : Nat} {ao : Option Addr} {n cap : Nat} {f : Nat → Int} {B X gs sc : Nat} {fa : Option Addr} {fc : Nat} {D : PDisk} {ca : Option Addr} {cc : Nat} {ss cs : List Value} {W W' : World} (h : PA w g ao n cap f B X gs sc fa fc D ca cc ss cs W) (hC : Cur W' g ao n cap f) (hb : But g W W') : PA w g ao n cap f B X gs sc fa fc D ca cc ss cs W' :=
  have h1 := h.rg
  have h2 := h.below.size
  ⟨h.ms.up (Up.ofBut hb h.gB) h.x, h.ml, h.ok, h.few, h.r.block (hb.block _ h.r.lt (by omega)), hC, h.below.trans ⟨hb.os, hb.tape, hb.output, hb.size, fun k hk => hb.block k (by omega) (by omega)⟩, h.rg, h.gB, h.code, Nat.le_trans h.b hb.size, h.x⟩
theorem PA.drew {w : World} {g : Nat} {ao : Option Addr} {n cap : Nat} {f : Nat → Int} {B X gs sc : Nat} {fa : Option Addr} {fc : Nat} {D : PDisk} {ca : Option Addr} {cc : Nat} {ss cs : List Value} {W : World} (h : PA w g ao n cap f B X gs sc fa fc D ca cc ss cs W) : PA w g ao n cap f B X gs sc fa fc D ca cc ss cs W.drew :=
  ⟨h.ms.on (Below.refl _ _).drew, h.ml, h.ok, h.few, h.r.below (Below.refl _ _).drew, h.cur.drew, h.below.drew, h.rg, h.gB, h.code, h.b, h.x⟩
/-- A bent page comes into a sector. -/
theorem BentR.ob {W : World} {B B' N : Nat} {e : Ending} {b c m : Nat} {F : Nat → Int} (h : BentR W B' N e b c m F) (hB : B ≤ B') : OB W B (.slice (some ⟨b, 0, none⟩) m c) (lof m F) := by
  have hl := lof_len m F
  refine ⟨some ⟨b, 0, none⟩, c, by rw [hl], by rw [hl]; exact h.le, (fun e => by cases e), lof_byteS h.byte, .inr ⟨b, rfl, Nat.le_trans hB h.new, ?_⟩⟩
  obtain ⟨cu, u1, u2, u3⟩ := h.row
  refine ⟨cu, u1, by rw [hl]; exact u2, fun i hi => ?_⟩
  rw [hl] at hi
  rw [u3 i hi]
  congr 2
  exact (lof_get m F i hi).symm
end Go.Proofs.Ytdhfbblameiloaa

/-
  Five cells that are laid below a bound.
-/
namespace Go.Proofs.Ytdhfbblameiloaa
open Go.RowKit
set_option maxRecDepth 4000

theorem Up.five {B R : Nat} {w : World} (v0 v1 v2 v3 v4 : Value) (h : R < B) : Up B w (((((w.setCell ⟨R, 0, none⟩ v0).setCell ⟨R, 1, none⟩ v1).setCell ⟨R, 2, none⟩ v2).setCell ⟨R, 3, none⟩ v3).setCell ⟨R, 4, none⟩ v4) :=
  ((((Up.set h).trans (Up.set h)).trans (Up.set h)).trans (Up.set h)).trans (Up.set h)
end Go.Proofs.Ytdhfbblameiloaa

/-
  A drawn disk, bent or not, in a variable of a function that draws by a cursor of its own.
-/
namespace Go.Proofs.Ytdhfbblameiloaa
open Go.RowKit
set_option maxRecDepth 4000

/-- The disk D in the variable X, beside the result's variable and the cursor g. -/
structure PB (w : World) (g : Nat) (ao : Option Addr) (n cap : Nat) (f : Nat → Int) (B X gs sc : Nat) (fa : Option Addr) (fc : Nat) (D : PDisk) (ca : Option Addr) (cc : Nat) (ss cs : List Value) (W : World) : Prop where
  ms : MS W B X gs sc ca cc fa fc ss cs D D.secs
  ml : ML D sc ca cc fa fc
  ok : KFine D
  few : 3 ≤ D.secs.length ∧ D.secs.length ≤ 48
  r : VN W w.heap.size 32 [.slice none 0 0, .slice none 0 0, .int .i64 0, .slice none 0 0, .bool false]
  cur : Cur W g ao n cap f
  below : Below w.heap.size w W
  rg : w.heap.size < g
  gB : g < B
  code : ∀ a, ao = some a → 0 < n → a.block < w.heap.size
  b : B ≤ W.heap.size
  x : B ≤ X
section
variable {w : World} {g : Nat} {ao : Option Addr} {n cap : Nat} {f : Nat → Int} {B X gs sc : Nat} {fa : Option Addr} {fc : Nat} {D : PDisk} {ca : Option Addr} {cc : Nat} {ss cs : List Value} {W W' : World}
theorem PB.but (h : PB w g ao n cap f B X gs sc fa fc D ca cc ss cs W) (hC : Cur W' g ao n cap f) (hb : But g W W') : PB w g ao n cap f B X gs sc fa fc D ca cc ss cs W' :=
  have h1 := h.rg
  have h2 := h.below.size
  ⟨h.ms.up (Up.ofBut hb h.gB) h.x, h.ml, h.ok, h.few, h.r.block (hb.block _ h.r.lt (by omega)), hC, h.below.trans ⟨hb.os, hb.tape, hb.output, hb.size, fun k hk => hb.block k (by omega) (by omega)⟩, h.rg, h.gB, h.code, Nat.le_trans h.b hb.size, h.x⟩
theorem PB.on (h : PB w g ao n cap f B X gs sc fa fc D ca cc ss cs W) (hb : Below W.heap.size W W') : PB w g ao n cap f B X gs sc fa fc D ca cc ss cs W' :=
  h.but (h.cur.below hb) ⟨hb.os, hb.tape, hb.output, hb.size, fun k hk _ => hb.block k hk⟩
theorem PB.curOn (h : PB w g ao n cap f B X gs sc fa fc D ca cc ss cs W) {C i : Nat} (hC : B ≤ C) (u : Value) : Cur (W.setCell ⟨C, i, none⟩ u) g ao n cap f := by
  have h1 := h.gB
  have h2 := h.rg
  obtain ⟨j, k, hr, h0, hi⟩ := h.cur.cells
  refine ⟨⟨j, k, hr.of_block (Below.heap_setCell _ _ _ _ (show g ≠ C by omega)), h0, hi⟩, ⟨h.cur.view.le, h.cur.view.byte, fun hn => ?_⟩, h.cur.apart⟩
  obtain ⟨b', off, e, hlt, hcc⟩ := h.cur.view.cells hn
  refine ⟨b', off, e, by simpa using hlt, fun j hj => ?_⟩
  have := h.code _ e hn
  rw [World.cell?_of_block (w := W) (Below.heap_setCell _ _ _ _ (show b' ≠ C by simp at this; omega))]
  exact hcc j hj
/-- The disk's variable turns, and what lies behind. -/
theorem PB.set (h : PB w g ao n cap f B X gs sc fa fc D ca cc ss cs W) {D' : PDisk} {ca' fa' : Option Addr} {cc' fc' : Nat} {ss' cs' : List Value} {C i : Nat} {u : Value} (hC : B ≤ C) (hm : MS (W.setCell ⟨C, i, none⟩ u) B X gs sc ca' cc' fa' fc' ss' cs' D' D'.secs) (hl : ML D' sc ca' cc' fa' fc') (hok : KFine D') (hf : 3 ≤ D'.secs.length ∧ D'.secs.length ≤ 48) : PB w g ao n cap f B X gs sc fa' fc' D' ca' cc' ss' cs' (W.setCell ⟨C, i, none⟩ u) :=
  have h1 := h.gB
  have h2 := h.rg
  ⟨hm, hl, hok, hf, h.r.other (by omega), h.curOn hC u, h.below.setCell (p := ⟨C, i, none⟩) (by show _ ≤ C; omega) _, h.rg, h.gB, h.code, by have := h.b; simpa using this, h.x⟩
theorem PB.gsB (h : PB w g ao n cap f B X gs sc fa fc D ca cc ss cs W) : B ≤ gs ∧ gs < W.heap.size := by
  have h4 := h.few
  obtain ⟨gs', e, hgB, hlt, -⟩ := h.ms.secs.cell (by rw [h.ms.ns]; omega)
  cases e
  exact ⟨hgB, hlt⟩
/-- A sector is written. -/
theorem PB.put (h : PB w g ao n cap f B X gs sc fa fc D ca cc ss cs W) {m : Nat} (hm : m < D.secs.length) {v : Value} {l : List Int} (hv : OB W B v l) (hl : l.length ≤ 1048576) :
    PB w g ao n cap f B X gs sc fa fc { D with secs := D.secs.set m l } ca cc (ss.set m v) cs (W.setCell ⟨gs, m, none⟩ v) := by
  have hlen : (D.secs.set m l).length = D.secs.length := by simp
  have h4 := h.few
  have h5 := h.ml.s
  have h6 := h.ok.ns
  refine h.set h.gsB.1 (h.ms.put hm hv).asSecs ⟨by show (D.secs.set m l).length ≤ _; omega, h.ml.c, h.ml.cn, h.ml.f, h.ml.fn⟩ ⟨by show (D.secs.set m l).length ≤ _; omega, fun x hx => ?_, h.ok.nc, h.ok.cache, h.ok.nf⟩ (by show 3 ≤ (D.secs.set m l).length ∧ (D.secs.set m l).length ≤ 48; omega)
  rcases List.mem_or_eq_of_mem_set hx with hx | hx
  · exact h.ok.sec x hx
  · rw [hx]; exact hl
/-- A sector is made anew of what came later: all that was there but the cursor and the sectors' row is as it was. -/
theorem PB.swap (h : PB w g ao n cap f B X gs sc fa fc D ca cc ss cs W) (hk : ∀ k, k < W.heap.size → k ≠ g → k ≠ gs → W'.heap[k]? = W.heap[k]?) (hs : W.heap.size ≤ W'.heap.size) (hC : Cur W' g ao n cap f) (hbl : Below w.heap.size w W') {m : Nat} {v : Value} {l : List Int} (hr : RL 27 W' B (some ⟨gs, 0, none⟩) (ss.set m v)) (hv : OB W' B v l) (hl : l.length ≤ 1048576) :
    PB w g ao n cap f B X gs sc fa fc { D with secs := D.secs.set m l } ca cc (ss.set m v) cs W' := by
  have hlen : (D.secs.set m l).length = D.secs.length := by simp
  have h1 := h.gB
  have h2 := h.rg
  have h4 := h.few
  have h5 := h.ml.s
  have h6 := h.ok.ns
  have hkt : KeepT (fun t => t = 27 ∨ t = 132) W W' := by
    intro b c t z hb hP
    refine hk b (Array.getElem?_eq_some_iff.1 hb).1 ?_ ?_
    · rintro rfl
      obtain ⟨j, k, hr, -, -⟩ := h.cur.cells
      obtain ⟨cc, e, -⟩ := hr
      rw [e] at hb
      cases hb
      exact hP (.inr rfl)
    · rintro rfl
      rcases h.ms.secs with h0 | ⟨g', cur, ea, -, hg, -⟩
      · have := h.ms.ns; rw [h0] at this; simp at this; omega
      · cases ea
        rw [hg] at hb
        cases hb
        exact hP (.inl rfl)
  have hx : VN W' X 32 [.slice (some ⟨gs, 0, none⟩) D.secs.length sc, .slice ca D.cache.length cc, .int .i64 D.ops, .slice fa D.faults.length fc, .bool D.down] := h.ms.x.block (hkt _ _ _ _ h.ms.x (by decide))
  refine ⟨⟨?_, hr, by simp [h.ms.ns], by simp, fun i u x h1 h2 => ?_, own_keepT h.ms.own hkt (by decide), h.ms.nc, fun i u x h1 h2 => (h.ms.cb i u x h1 h2).keepT hkt (by decide), own_keepT h.ms.fown hkt (by decide)⟩, ⟨by show (D.secs.set m l).length ≤ _; omega, h.ml.c, h.ml.cn, h.ml.f, h.ml.fn⟩, ⟨by show (D.secs.set m l).length ≤ _; omega, fun x hx => ?_, h.ok.nc, h.ok.cache, h.ok.nf⟩, by show 3 ≤ (D.secs.set m l).length ∧ (D.secs.set m l).length ≤ 48; omega, h.r.block (hkt _ _ _ _ h.r (by decide)), hC, hbl, h.rg, h.gB, h.code, Nat.le_trans h.b hs, h.x⟩
  · show VN _ X _ [.slice (some ⟨gs, 0, none⟩) (D.secs.set m l).length sc, _, _, _, _]
    rw [hlen]
    exact hx
  · rw [List.getElem?_set] at h1 h2
    by_cases e : m = i
    · subst e
      rw [if_pos rfl] at h1 h2
      split at h1
      · split at h2
        · cases h1; cases h2; exact hv
        · cases h2
      · cases h1
    · rw [if_neg e] at h1 h2
      exact (h.ms.ob i u x h1 h2).keepT hkt (by decide)
  · rcases List.mem_or_eq_of_mem_set hx with hx | hx
    · exact h.ok.sec x hx
    · rw [hx]; exact hl
end
end Go.Proofs.Ytdhfbblameiloaa

