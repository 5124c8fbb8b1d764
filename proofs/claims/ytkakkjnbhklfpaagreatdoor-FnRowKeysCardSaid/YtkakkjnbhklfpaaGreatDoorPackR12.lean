/-
  Together: BitsLen, PutVarImpl, PutEscSpec, RunePlain, PutEscImpl, FormPut, TurnList
-/
import Derived.Test.YtkakkjnbhklfpaaGreatDoorShelf
import Derived.Test.YtkakkjnbhklfpaaGreatDoorPackR1
import Derived.Test.YtkakkjnbhklfpaaGreatDoorPackR11
import Derived.Test.YtkakkjnbhklfpaaGreatDoorPackR2
import Derived.WalkSpells
import Derived.Lib.DecodeN
import Derived.Lib.OthersKept
/-
  math/bits.Len, as far as the program leans on it: of how many bits a number is follows how many bytes it has.
-/
namespace Go.Proofs.YtkakkjnbhklfpaaGreatDoor
open Go.RowKit
set_option maxRecDepth 4000

theorem bitLen_byte (x : Nat) (h0 : 0 < x) (h1 : x < 256) : 1 ≤ Lib.bitLen x ∧ Lib.bitLen x ≤ 8 := by
  refine ⟨?_, Lib.bitLen_le8 ⟨x, h1⟩⟩
  rw [Lib.bitLen_half x (by omega) (by omega)]
  omega
theorem cnt_bits (x : Nat) (h : x < 72057594037927936) : (Lib.bitLen x + 7) / 8 = cnt (x : Int) ∧ Lib.bitLen x ≤ 56 := by
  unfold cnt
  by_cases h0 : x = 0
  · subst h0; exact ⟨rfl, by decide⟩
  rw [if_neg (by omega)]
  by_cases h1 : x < 256
  · rw [if_pos (by omega)]
    have := bitLen_byte x (by omega) h1
    omega
  rw [if_neg (by omega)]
  by_cases h2 : x < 65536
  · rw [if_pos (by omega), Lib.bitLen_shift8 x (by omega) (by omega)]
    have := bitLen_byte (x / 256) (by omega) (by omega)
    omega
  rw [if_neg (by omega)]
  by_cases h3 : x < 16777216
  · rw [if_pos (by omega), Lib.bitLen_shift16 x (by omega) (by omega)]
    have := bitLen_byte (x / 65536) (by omega) (by omega)
    omega
  rw [if_neg (by omega)]
  by_cases h4 : x < 4294967296
  · rw [if_pos (by omega), Lib.bitLen_shift24 x (by omega) (by omega)]
    have := bitLen_byte (x / 16777216) (by omega) (by omega)
    omega
  rw [if_neg (by omega)]
  by_cases h5 : x < 1099511627776
  · rw [if_pos (by omega), Lib.bitLen_shift32 x (by omega) (by omega)]
    have := bitLen_byte (x / 4294967296) (by omega) (by omega)
    omega
  rw [if_neg (by omega)]
  by_cases h6 : x < 281474976710656
  · rw [if_pos (by omega), Lib.bitLen_shift40 x (by omega) (by omega)]
    have := bitLen_byte (x / 1099511627776) (by omega) (by omega)
    omega
  rw [if_neg (by omega)]
  rw [Lib.bitLen_shift48 x (by omega) (by omega)]
  have := bitLen_byte (x / 281474976710656) (by omega) (by omega)
  omega

theorem bitsLen_any (x : Int) (w : World) (h0 : 0 ≤ x) (h1 : x < 72057594037927936) :
    Calls Tryz.prog 167 #[.int .u64 x] w fun e w' => ∃ L : Nat, e = .returned (.int .i64 (L : Int)) ∧ L ≤ 56 ∧ Hid ((L + 7) / 8 = cnt x) ∧ w = w' := by
  refine (Tryz.bits_Len x w h0 (by omega)).mono ?_
  rintro e w' ⟨rfl, rfl⟩
  have h := cnt_bits x.toNat (by omega)
  rw [Int.toNat_of_nonneg h0] at h
  exact ⟨_, rfl, h.2, h.1, rfl⟩
end Go.Proofs.YtkakkjnbhklfpaaGreatDoor

/-
  The program's PutVar: what was there, and behind it the number's bytes, in memory of its own.
-/
namespace Go.Proofs.YtkakkjnbhklfpaaGreatDoor
open Go.RowKit
set_option maxRecDepth 4000

theorem slice8 (A c : Nat) (hc : c ≤ 7) (W : World) :
    (Instr.sliceAt 204 (.pointer (some ⟨A, 0, none⟩)) (some (.int .i64 0)) (some (.int .i64 (1 + (c : Int)))) (some (.int .i64 (1 + (c : Int))))).run Tryz.prog W = .ok (.slice (some ⟨A, 0, none⟩) (1 + c) (1 + c)) W := by
  have e8 : Tryz.prog.arrayLen 204 = 8 := by kernel_rfl
  have e5 : Tryz.prog.elem 204 = 5 := by kernel_rfl
  rw [run_sliceAt_array_lhm W 204 _ (by kernel_rfl) .i64 .i64 .i64 0 (1 + (c : Int)) (1 + (c : Int)) (by omega) (by omega) (by omega) (by rw [e8]; omega), e5]
  have e1 : (sizeOf 5).run Tryz.prog W = .ok 1 W := by go_simp
  rw [e1]
  simp only [Result.andThen, slicedAt]
  rw [show (1 + (c : Int)).toNat = 1 + c by omega]
  simp [Addr.add]

/-- The head and the bytes behind it, as they stand ahead of a turn. -/
def wholeF (c : Nat) (s : Int) (i : Nat) : Int := if i = 0 then 128 + (c : Int) else be c s (i - 1)
theorem wholeF_bd (c : Nat) (s : Int) (hc : c ≤ 7) (i : Nat) : 0 ≤ wholeF c s i ∧ wholeF c s i ≤ 255 := by
  have := be_bd c s (i - 1)
  unfold wholeF
  split <;> omega
theorem whole_up {c : Nat} {s y : Int} (hs : s = sizeV y) (hc : c = cnt s) (hy : 0 ≤ y) : lof (1 + c) (wholeF c s) = keptL y := by
  subst hs hc
  rw [lof_cons]
  unfold keptL headV
  rw [if_neg (by omega)]
  congr 1
  unfold lof
  apply List.map_congr_left
  intro i _
  unfold wholeF tailV
  rw [if_neg (by omega), if_neg (by omega)]
  rfl
theorem whole_down {c : Nat} {s y : Int} (hs : s = sizeV y) (hc : c = cnt s) (hy : y < 0) : lof (1 + c) (flipF (wholeF c s) 0) = keptL y := by
  subst hs hc
  rw [lof_cons]
  unfold keptL headV
  rw [if_pos hy]
  congr 1
  · unfold flipF wholeF
    rw [if_pos (by omega), if_pos rfl]
    omega
  · unfold lof
    apply List.map_congr_left
    intro i _
    unfold flipF wholeF tailV
    rw [if_pos (by omega), if_neg (by omega), if_pos hy]
    rfl

theorem Row.zero8 (w : World) (t : TypeId) (h : Int) : Row t (w.alloc (.cells #[.int .u8 h, .int .u8 0, .int .u8 0, .int .u8 0, .int .u8 0, .int .u8 0, .int .u8 0, .int .u8 0] t)) w.heap.size 8 (fun i => if i = 0 then h else 0) :=
  Row.ofIs (World.rowIs_alloc w #[.int .u8 h, .int .u8 0, .int .u8 0, .int .u8 0, .int .u8 0, .int .u8 0, .int .u8 0, .int .u8 0] t (fun i => .int .u8 (if i = 0 then h else 0)) (fun j hj => by match j, hj with | 0, _ => rfl | 1, _ => rfl | 2, _ => rfl | 3, _ => rfl | 4, _ => rfl | 5, _ => rfl | 6, _ => rfl | 7, _ => rfl))
theorem Row.cut {t : TypeId} {w : World} {b n m : Nat} {f g : Nat → Int} (h : Row t w b n f) (hm : m ≤ n) (e : ∀ i, i < m → f i = g i) : Row t w b m g := by
  obtain ⟨c, hb, hn, hc⟩ := h
  exact ⟨c, hb, by omega, fun i hi => by rw [hc i (by omega), e i hi]⟩

set_option maxHeartbeats 1000000 in
theorem putVar_impl (b off n cap : Nat) (f : Nat → Int) (x : Int) (w : World) (hv : View w (some ⟨b, off, none⟩) n cap f) (hn : n ≤ 70368744170000) (hx0 : -9223372036854775808 ≤ x) (hx1 : x ≤ 9223372036854775807) :
    Calls Tryz.prog 145 #[.slice (some ⟨b, off, none⟩) n cap, .int .i64 x] w fun e w' => ∃ g c, e = .returned (.slice (some ⟨g, 0, none⟩) (n + (varL x).length) c) ∧ w.heap.size ≤ g ∧ n + (varL x).length ≤ c ∧ Row 5 w' g (n + (varL x).length) (fun i => (lof n f ++ varL x).getD i 0) ∧ Below w.heap.size w w' := by
  have hb0 : ∀ o, Below w.heap.size w (w.alloc o) := fun o => (Below.refl _ _).alloc (Nat.le_refl _) _
  obtain ⟨y, hy⟩ : ∃ y, y = clampV x := ⟨_, rfl⟩
  have hyb := clampV_bd x
  obtain ⟨s, hs⟩ : ∃ s, s = sizeV y := ⟨_, rfl⟩
  have hsb := sizeV_bd (clampV x) hyb
  rw [← hy] at hyb hsb
  rw [← hs] at hsb
  have hy1 : min (max x (-1000000000000000)) 1000000000000000 = y := by rw [hy]; unfold clampV; (repeat' split) <;> omega
  have hy2 : max y (-1 - y) = s := by rw [hs]; unfold sizeV; split <;> omega
  have HY : Hid (y = clampV x) := hy
  have HS : Hid (s = sizeV y) := hs
  clear hy hs
  obtain ⟨c, hcd⟩ : ∃ c : Nat, Hid (c = cnt s) := ⟨_, rfl⟩
  have hc7 : c ≤ 7 := by rw [hcd.out]; exact cnt_le _
  have HF : Hid (∀ (g off k : Nat) (w1 : World) (t : TypeId), Row t w1 g 8 (fillF off k 0 s (fun i => if i = 0 then 128 + (c : Int) else 0)) → (c = 0 ∧ k = 0) ∨ (off = 1 ∧ k = c) → View w1 (some ⟨g, 0, none⟩) (1 + c) (1 + c) (wholeF c s)) := by
    intro g off k w1 t hr hk
    refine (hr.cut (m := 1 + c) (by omega) (g := wholeF c s) (fun i hi => ?_)).view (Nat.le_refl _) (fun i _ => wholeF_bd c s hc7 i)
    unfold fillF wholeF
    by_cases h0 : i = 0
    · subst h0
      rw [if_neg (by omega), if_pos rfl]
      exact if_pos rfl
    · rw [if_pos (by omega), if_neg h0]
      rcases hk with ⟨h1, h2⟩ | ⟨rfl, rfl⟩
      · omega
      · rfl
  have hlen : n + (varL x).length = n + (1 + c) := by
    unfold varL
    rw [keptL_len, ← HY.out, ← HS.out, ← hcd.out]
    omega
  have HL : Hid (varL x = keptL y) := by show _ = _; unfold varL; rw [← HY.out]
  rw [hlen]
  clear hlen
  have hsl := slice8 w.heap.size c hc7
  go_enter Tryz.func145, Tryz.ntmps145
  go_wp2_with fail
  refine (bitsLen_any s w hsb.1 (by omega)).mono ?_
  rintro e _ ⟨L, rfl, hL, hcl, rfl⟩
  have hLc : ((L : Int) + 7) / 8 = (c : Int) := by
    have h1 : (L + 7) / 8 = c := by
      rw [hcd.out]
      exact hcl.out
    omega
  clear hcl
  by_cases hc0 : c = 0
  · subst hc0
    go_wp2_with fail
    refine (setDigits_any _ w.heap.size 0 0 0 8 (fun i => if i = 0 then 128 + ((0 : Nat) : Int) else 0) s _ (Row.zero8 w _ (128 + ((0 : Nat) : Int))) (by omega) (by omega) hsb.1).mono ?_
    rintro e w1 ⟨rfl, hr1, ho1⟩
    have hV1 := HF.out w.heap.size 0 0 w1 _ hr1 (by simp)
    have hb1 : Below w.heap.size w w1 := (hb0 _).trans (ho1.below (Nat.le_refl _))
    clear hr1 ho1 HF hb0 hsl
    by_cases hyn : y < 0
    · go_wp2_with fail
      refine (flip_impl w.heap.size 0 (1 + 0) (1 + 0) (wholeF 0 s) 0 w1 hV1 (by omega) (by omega)).mono ?_
      rintro e w2 ⟨g, cg, rfl, hg, hgc, hr2, hb2⟩
      have hV2 := hr2.view hgc (flipF_byte 0 (fun i _ => wholeF_bd 0 s hc7 i))
      replace hb2 := hb1.trans (hb2.mono hb1.size)
      clear hr2 hV1 hb1 hg hgc
      go_wp2_with fail
      refine (putBytes_any b off n cap f (some ⟨g, 0, none⟩) (1 + 0) cg _ w2 (hv.below hb2) hV2 (fun h => by cases h) (by omega)).mono ?_
      rintro e w3 ⟨rfl, hown, hb3⟩
      have HE : lof (1 + 0) (flipF (wholeF 0 s) 0) = varL x := (whole_down HS.out hcd.out hyn).trans HL.out.symm
      rw [HE] at hown
      have HR : Hid _ := row_of_owned hown
      have hb4 := hb2.trans (hb3.mono hb2.size)
      have hsz := hb2.size
      clear hown HE hV2 hb3 hb2 hv
      go_wp2
      go_ret
      exact ⟨_, _, rfl, hsz, Nat.le_refl _, HR.out, hb4⟩
    · have hb2 := hb1
      have hV2 := hV1
      clear hb1 hV1
      go_wp2_with fail
      refine (putBytes_any b off n cap f (some ⟨w.heap.size, 0, none⟩) (1 + 0) (1 + 0) _ w1 (hv.below hb2) hV2 (fun h => by cases h) (by omega)).mono ?_
      rintro e w3 ⟨rfl, hown, hb3⟩
      have HE : lof (1 + 0) (wholeF 0 s) = varL x := (whole_up HS.out hcd.out (by omega)).trans HL.out.symm
      rw [HE] at hown
      have HR : Hid _ := row_of_owned hown
      have hb4 := hb2.trans (hb3.mono hb2.size)
      have hsz := hb2.size
      clear hown HE hV2 hb3 hb2 hv
      go_wp2
      go_ret
      exact ⟨_, _, rfl, hsz, Nat.le_refl _, HR.out, hb4⟩
  · go_wp2_with fail
    refine (setDigits_any _ w.heap.size 1 c c 8 (fun i => if i = 0 then 128 + (c : Int) else 0) s _ (Row.zero8 w _ (128 + (c : Int))) (by omega) (by omega) hsb.1).mono ?_
    rintro e w1 ⟨rfl, hr1, ho1⟩
    have hV1 := HF.out w.heap.size 1 c w1 _ hr1 (Or.inr ⟨rfl, rfl⟩)
    have hb1 : Below w.heap.size w w1 := (hb0 _).trans (ho1.below (Nat.le_refl _))
    clear hr1 ho1 HF hb0 hsl
    by_cases hyn : y < 0
    · go_wp2_with fail
      refine (flip_impl w.heap.size 0 (1 + c) (1 + c) (wholeF c s) 0 w1 hV1 (by omega) (by omega)).mono ?_
      rintro e w2 ⟨g, cg, rfl, hg, hgc, hr2, hb2⟩
      have hV2 := hr2.view hgc (flipF_byte 0 (fun i _ => wholeF_bd c s hc7 i))
      replace hb2 := hb1.trans (hb2.mono hb1.size)
      clear hr2 hV1 hb1 hg hgc
      go_wp2_with fail
      refine (putBytes_any b off n cap f (some ⟨g, 0, none⟩) (1 + c) cg _ w2 (hv.below hb2) hV2 (fun h => by cases h) (by omega)).mono ?_
      rintro e w3 ⟨rfl, hown, hb3⟩
      have HE : lof (1 + c) (flipF (wholeF c s) 0) = varL x := (whole_down HS.out hcd.out hyn).trans HL.out.symm
      rw [HE] at hown
      have HR : Hid _ := row_of_owned hown
      have hb4 := hb2.trans (hb3.mono hb2.size)
      have hsz := hb2.size
      clear hown HE hV2 hb3 hb2 hv
      go_wp2
      go_ret
      exact ⟨_, _, rfl, hsz, Nat.le_refl _, HR.out, hb4⟩
    · have hb2 := hb1
      have hV2 := hV1
      clear hb1 hV1
      go_wp2_with fail
      refine (putBytes_any b off n cap f (some ⟨w.heap.size, 0, none⟩) (1 + c) (1 + c) _ w1 (hv.below hb2) hV2 (fun h => by cases h) (by omega)).mono ?_
      rintro e w3 ⟨rfl, hown, hb3⟩
      have HE : lof (1 + c) (wholeF c s) = varL x := (whole_up HS.out hcd.out (by omega)).trans HL.out.symm
      rw [HE] at hown
      have HR : Hid _ := row_of_owned hown
      have hb4 := hb2.trans (hb3.mono hb2.size)
      have hsz := hb2.size
      clear hown HE hV2 hb3 hb2 hv
      go_wp2
      go_ret
      exact ⟨_, _, rfl, hsz, Nat.le_refl _, HR.out, hb4⟩
end Go.Proofs.YtkakkjnbhklfpaaGreatDoor

/-
  The model's PutEsc: what was there, and behind it the text as it is put, in memory of its own.
-/
namespace Go.Proofs.YtkakkjnbhklfpaaGreatDoor
open Go.RowKit
set_option maxRecDepth 4000

theorem sl_take (s : ByteArray) (k : Nat) (h : k < s.size) : (sl s).take (k + 1) = (sl s).take k ++ [(s[k].toNat : Int)] := by
  have hd : k < (sl s).length := by rw [sl_len]; exact h
  rw [List.take_succ_eq_append_getElem hd]
  simp [sl]
  rfl
theorem sl_all (s : ByteArray) : (sl s).take s.size = sl s := by rw [← sl_len]; exact List.take_length
theorem escK_len (s : ByteArray) (k : Nat) (h : k ≤ s.size) : (escL ((sl s).take k)).length ≤ 2 * k := by
  have := (escL_len ((sl s).take k)).2
  rw [List.length_take, sl_len] at this
  omega

/-- Two new cells. -/
theorem cellsTwo (w : World) (x y : Value) (t : TypeId) : ∀ j u, [x, y][j]? = some u → (w.alloc (.cells #[x, y] t)).cell? ((⟨w.heap.size, 0, none⟩ : Addr).add j) = some u := by
  intro j u hj
  match j, hj with
  | 0, hj => simp at hj; subst hj; simp [Addr.add]
  | 1, hj => simp at hj; subst hj; simp [Addr.add]
  | (j + 2), hj => simp at hj

set_option maxHeartbeats 1000000 in
theorem putEsc_own (b off n cap : Nat) (f : Nat → Int) (s : ByteArray) (w : World) (hv : View w (some ⟨b, off, none⟩) n cap f) (hn : n ≤ 17592186044416) (hs : s.size ≤ 17592186044416) :
    Calls Tryz.prog 171 #[.slice (some ⟨b, off, none⟩) n cap, .string s] w fun e w' => ∃ v, e = .returned v ∧ w'.ownsRow w.heap.size 5 1 v (n + escN s) (bl (escT n f s)) ∧ Below w.heap.size w w' := by
  obtain ⟨i0, hi, hz0, hz1, hz2⟩ := info_parts Tryz.info5
  have hown0 := World.ownsRow_lit (base := w.heap.size) (e := 5) (size := 1) w #[] 0 (Nat.le_refl _) (Nat.zero_le _) rfl
  have hb0 : Below w.heap.size w (w.alloc (.cells #[] 5)) := (Below.refl _ _).alloc (Nat.le_refl _) _
  have hcl := cells_of_view (hv.below hb0)
  have hsz : (w.alloc (.cells #[] 5)).heap.size = w.heap.size + 1 := by simp
  go_enter Tryz.func171, Tryz.ntmps171
  go_wp2_with (at_builtin; go_must (refine wpList_append_own _ rfl (.tmp 7) (.tmp 8) 22 rfl w.heap.size 5 i0 (.int .u8 0) 1 1 Tryz.underlying22 hi hz0 hz1 hz2 rfl (by decide) (.slice (some ⟨w.heap.size, 0, none⟩) 0 0) 0 [] rfl hown0 ⟨b, off, none⟩ n cap (bl (lof n f)) rfl (by rw [bl_len, lof_len]; omega) hcl (bl_one _) (by unfold maxLen; omega) (by omega) (by rw [hsz]; omega) ?_); intro v1 w1 hown1 hgr1 _)
  have hb1 : Below w.heap.size w w1 := hb0.grown hgr1 (by simp) (fun k hk => by simp only [Value.ownBlock, Option.some.injEq] at hk; omega)
  clear hown0 hcl hsz hgr1 hb0 hv
  simp only [Nat.zero_add, List.nil_append] at hown1
  go_loopg [5, 6] s.size (fun g v i wr => ∃ (k : Nat) (l : List Int), k ≤ s.size ∧ g = s.size - k ∧ i = .int .i64 k ∧ l = escL ((sl s).take k) ∧ wr.ownsRow w.heap.size 5 1 v (n + l.length) (bl (lof n f ++ l)) ∧ Below w.heap.size w wr)
  case atStart => exact ⟨0, [], Nat.zero_le _, rfl, rfl, by simp [escL], by rw [List.append_nil]; exact hown1, hb1⟩
  case round =>
    obtain ⟨k, l, hk, rfl, rfl, hl, hown, hB⟩ := hrel
    clear hown1 hb1
    have hlen : l.length ≤ 2 * k := by rw [hl]; exact escK_len s k hk
    have HL : Hid (l = escL ((sl s).take k)) := hl
    clear hl
    by_cases hlt : k < s.size
    · have hkz : (k : Int) < (s.size : Int) := by omega
      have hub : (s[k].toNat : Int) ≤ 255 := by have := s[k].toNat_lt; omega
      have HS : Hid (escL ((sl s).take (k + 1)) = l ++ esc1 (s[k].toNat : Int)) := by
        show _ = _
        rw [sl_take s k hlt, escL_append, escL_one, HL.out]
      by_cases h0 : (s[k].toNat : Int) = 0
      · have hq : ((s[k].toNat : Int) == 0) = true := by simpa using h0
        have HE : Hid (esc1 (s[k].toNat : Int) = [0] ++ [255]) := by show _ = _; unfold esc1; rw [if_pos h0]; rfl
        go_wp2_with (first | (at_builtin; refine wpList_append_own _ rfl (.tmp 16) (.tmp 20) 22 rfl w.heap.size 5 i0 (.int .u8 0) 1 1 Tryz.underlying22 hi hz0 hz1 hz2 rfl (by decide) u5 _ _ rfl (hown.alloc _) ⟨wr.heap.size, 0, none⟩ 1 1 [.int .u8 0] rfl rfl (cellNew _ _ _) (bl_one [0]) (by unfold maxLen; omega) (by omega) (by have := hB.size; simp; omega) ?_; intro v2 w2 hown2 hgr2 _) | (at_builtin; refine wpList_append_own _ rfl (.tmp 26) (.tmp 27) 22 rfl w.heap.size 5 i0 (.int .u8 0) 1 1 Tryz.underlying22 hi hz0 hz1 hz2 rfl (by decide) v2 _ _ rfl (hown2.alloc _) ⟨w2.heap.size, 0, none⟩ 1 1 [.int .u8 255] rfl rfl (cellNew _ _ _) (bl_one [255]) (by unfold maxLen; omega) (by omega) (by have := hB.size; have := hgr2.size; simp at *; omega) ?_; intro v3 w3 hown3 hgr3 _))
        have hB2 : Below w.heap.size w w2 := (hB.alloc hB.size _).grown hgr2 (by have := hB.size; simp; omega) (fun k hk => (hown.lt k hk).1)
        have hB3 : Below w.heap.size w w3 := (hB2.alloc hB2.size _).grown hgr3 (by have := hB2.size; simp; omega) (fun k hk => (hown2.lt k hk).1)
        have hO3 : w3.ownsRow w.heap.size 5 1 v3 (n + (l ++ esc1 (s[k].toNat : Int)).length) (bl (lof n f ++ (l ++ esc1 (s[k].toNat : Int)))) := by
          rw [HE.out, ← List.append_assoc l, List.length_append, List.length_append, ← List.append_assoc, ← List.append_assoc, bl_append, bl_append]
          rw [show n + (l.length + [(0 : Int)].length + [(255 : Int)].length) = n + l.length + 1 + 1 by simp; omega]
          exact hown3
        clear hgr2 hgr3 hown hown2 hown3 hB
        go_wp2
        go_roundg (s.size - (k + 1))
        case measure => omega
        case rel => exact ⟨k + 1, _, by omega, rfl, by go_num, HS.out.symm, hO3, hB3⟩
      · have hq : ((s[k].toNat : Int) == 0) = false := by simpa using h0
        have HE : Hid (esc1 (s[k].toNat : Int) = [(s[k].toNat : Int)]) := by show _ = _; unfold esc1; rw [if_neg h0]
        go_wp2_with (at_builtin; go_must (refine wpList_append_own _ rfl (.tmp 16) (.tmp 20) 22 rfl w.heap.size 5 i0 (.int .u8 0) 1 1 Tryz.underlying22 hi hz0 hz1 hz2 rfl (by decide) u5 _ _ rfl (hown.alloc _) ⟨wr.heap.size, 0, none⟩ 1 1 [.int .u8 (s[k].toNat : Int)] rfl rfl (cellNew _ _ _) (bl_one [(s[k].toNat : Int)]) (by unfold maxLen; omega) (by omega) (by have := hB.size; simp; omega) ?_); intro v2 w2 hown2 hgr2 _)
        have hB2 : Below w.heap.size w w2 := (hB.alloc hB.size _).grown hgr2 (by have := hB.size; simp; omega) (fun k hk => (hown.lt k hk).1)
        have hO2 : w2.ownsRow w.heap.size 5 1 v2 (n + (l ++ esc1 (s[k].toNat : Int)).length) (bl (lof n f ++ (l ++ esc1 (s[k].toNat : Int)))) := by
          rw [HE.out, List.length_append, ← List.append_assoc, bl_append]
          exact hown2
        clear hgr2 hown hown2 hB
        go_wp2
        go_roundg (s.size - (k + 1))
        case measure => omega
        case rel => exact ⟨k + 1, _, by omega, rfl, by go_num, HS.out.symm, hO2, hB2⟩
    · obtain rfl : k = s.size := by omega
      go_wp2_with (at_builtin; go_must (refine wpList_append_own _ rfl (.tmp 29) (.tmp 30) 22 rfl w.heap.size 5 i0 (.int .u8 0) 1 1 Tryz.underlying22 hi hz0 hz1 hz2 rfl (by decide) u5 _ _ rfl (hown.alloc _) ⟨wr.heap.size, 0, none⟩ 2 2 [.int .u8 0, .int .u8 1] rfl rfl (cellsTwo _ _ _ _) (bl_one [0, 1]) (by unfold maxLen; omega) (by omega) (by have := hB.size; simp; omega) ?_); intro v2 w2 hown2 hgr2 _)
      have hB2 : Below w.heap.size w w2 := (hB.alloc hB.size _).grown hgr2 (by have := hB.size; simp; omega) (fun k hk => (hown.lt k hk).1)
      go_ret
      have hL := HL.out
      rw [sl_all] at hL
      have e1 : escN s = l.length + 2 := by rw [hL]; rfl
      have e2 : escT n f s = lof n f ++ (l ++ [0, 1]) := by rw [hL]; rfl
      have hown3 : w2.ownsRow w.heap.size 5 1 v2 (n + escN s) (bl (escT n f s)) := by
        rw [e1, e2, ← List.append_assoc, bl_append]
        exact hown2
      exact ⟨v2, rfl, hown3, hB2⟩

end Go.Proofs.YtkakkjnbhklfpaaGreatDoor

/-
  What a range over a text steps over: a 0 by itself, or bytes of which none is 0.
-/
namespace Go.Proofs.YtkakkjnbhklfpaaGreatDoor
open Go.RowKit
set_option maxRecDepth 4000

theorem decN (n b0 b1 b2 b3 : Nat) (h : b0 ≠ 0) (hn : 1 ≤ n) : (Lib.decodeN n b0 b1 b2 b3).1 ≠ 0 ∧ 1 ≤ (Lib.decodeN n b0 b1 b2 b3).2 ∧ (Lib.decodeN n b0 b1 b2 b3).2 ≤ n ∧ (Lib.decodeN n b0 b1 b2 b3).2 ≤ 4 ∧
    (1 < (Lib.decodeN n b0 b1 b2 b3).2 → b1 ≠ 0) ∧ (2 < (Lib.decodeN n b0 b1 b2 b3).2 → b2 ≠ 0) ∧ (3 < (Lib.decodeN n b0 b1 b2 b3).2 → b3 ≠ 0) := by
  unfold Lib.decodeN
  repeat' split
  all_goals (refine ⟨?_, ?_, ?_, ?_, ?_, ?_, ?_⟩ <;> simp only <;> omega)

theorem get_sl (s : ByteArray) (j : Nat) (h : j < s.size) : (s.get! j).toNat = s[j].toNat := by
  simp [ByteArray.get!, getElem!_pos, h]
  rfl

theorem sl_at (s : ByteArray) (j : Nat) (h : j < s.size) : (sl s)[j]'(by rw [sl_len]; exact h) = (s[j].toNat : Int) := by
  simp [sl]
  rfl

/-- The bytes from a up to b. -/
def seg (s : ByteArray) (a b : Nat) : List Int := ((sl s).take b).drop a
theorem seg_len (s : ByteArray) (a b : Nat) (h : b ≤ s.size) : (seg s a b).length = b - a := by
  unfold seg; rw [List.length_drop, List.length_take, sl_len]; omega
theorem seg_cut (s : ByteArray) (a b c : Nat) (h1 : a ≤ b) (h2 : b ≤ c) (h3 : c ≤ s.size) : seg s a c = seg s a b ++ seg s b c := by
  unfold seg
  have e : (sl s).take c = (sl s).take b ++ ((sl s).take c).drop b := by
    have := List.take_append_drop b ((sl s).take c)
    rw [List.take_take, Nat.min_eq_left h2] at this
    exact this.symm
  have hl : ((sl s).take b).length = b := by rw [List.length_take, sl_len]; omega
  conv => lhs; rw [e]
  rw [List.drop_append_of_le_length (by omega)]
theorem seg_head (s : ByteArray) (b : Nat) : seg s 0 b = (sl s).take b := rfl
theorem seg_none (s : ByteArray) (a : Nat) : seg s a a = [] := by
  unfold seg
  apply List.drop_eq_nil_of_le
  rw [List.length_take]; omega
theorem seg_sl (s : ByteArray) (a b : Nat) : sl (s.extract a b) = seg s a b := by
  unfold seg sl
  rw [ByteArray.data_extract, Array.toList_extract, List.extract_eq_take_drop, ← List.map_take, ← List.map_drop, List.drop_take]
theorem seg_mem (s : ByteArray) (a b : Nat) (h : b ≤ s.size) (y : Int) (hy : y ∈ seg s a b) : ∃ j, ∃ hj : j < s.size, a ≤ j ∧ j < b ∧ y = (s[j].toNat : Int) := by
  unfold seg at hy
  obtain ⟨i, hi, rfl⟩ := List.getElem_of_mem hy
  have hi' := hi
  rw [List.length_drop, List.length_take, sl_len] at hi'
  refine ⟨a + i, by omega, by omega, by omega, ?_⟩
  rw [List.getElem_drop, List.getElem_take, sl_at]

/-- A rune that is not 0: none of its bytes is. -/
theorem rune_nz (s : ByteArray) (pos : Nat) (h : pos < s.size) (h0 : (s[pos].toNat : Int) ≠ 0) :
    (Utf8.decode s pos).1 ≠ 0 ∧ 1 ≤ (Utf8.decode s pos).2 ∧ pos + (Utf8.decode s pos).2 ≤ s.size ∧ ∀ y ∈ seg s pos (pos + (Utf8.decode s pos).2), y ≠ 0 := by
  have hb0 : (s.get! pos).toNat ≠ 0 := by rw [get_sl s pos h]; omega
  have hd := decN (s.size - pos) (s.get! pos).toNat (s.get! (pos + 1)).toNat (s.get! (pos + 2)).toNat (s.get! (pos + 3)).toNat hb0 (by omega)
  rw [← Lib.decode_at] at hd
  obtain ⟨d0, d1, d2, d3, d4, d5, d6⟩ := hd
  refine ⟨d0, d1, by omega, ?_⟩
  intro y hy
  obtain ⟨j, hj, hj0, hj1, rfl⟩ := seg_mem s _ _ (by omega) y hy
  rcases (show j = pos ∨ j = pos + 1 ∨ j = pos + 2 ∨ j = pos + 3 by omega) with rfl | rfl | rfl | rfl
  · exact h0
  · have := d4 (by omega); rw [get_sl s _ hj] at this; omega
  · have := d5 (by omega); rw [get_sl s _ hj] at this; omega
  · have := d6 (by omega); rw [get_sl s _ hj] at this; omega

theorem rune_z (s : ByteArray) (pos : Nat) (h : pos < s.size) (h0 : (s[pos].toNat : Int) = 0) : Utf8.decode s pos = (0, 1) := by
  rw [decode_ascii s pos h (by omega)]
  simp only [Prod.mk.injEq, and_true]
  omega

/-- Of the bytes up to pos: acc is put, those from 'a' on are still to be. -/
structure Ranged (s : ByteArray) (a pos : Nat) (acc : List Int) : Prop where
  le : a ≤ pos
  sz : pos ≤ s.size
  put : escL (seg s 0 pos) = acc ++ seg s a pos
theorem Ranged.start (s : ByteArray) : Ranged s 0 0 [] := ⟨Nat.le_refl _, Nat.zero_le _, by rw [seg_none]; rfl⟩
theorem Ranged.zero {s : ByteArray} {a pos : Nat} {acc : List Int} (h : Ranged s a pos acc) (hp : pos < s.size) (h0 : (s[pos].toNat : Int) = 0) : Ranged s (pos + 1) (pos + 1) ((acc ++ seg s a pos) ++ [0, 255]) := by
  have := h.le
  refine ⟨Nat.le_refl _, hp, ?_⟩
  rw [seg_head, sl_take s pos hp, escL_append, escL_one, ← seg_head, h.put, seg_none, List.append_nil, h0]
  rfl
theorem Ranged.plain {s : ByteArray} {a pos : Nat} {acc : List Int} (h : Ranged s a pos acc) (K : Nat) (hK : pos + K ≤ s.size) (hz : ∀ y ∈ seg s pos (pos + K), y ≠ 0) : Ranged s a (pos + K) acc := by
  have := h.le
  refine ⟨by omega, hK, ?_⟩
  rw [seg_cut s 0 pos (pos + K) (Nat.zero_le _) (by omega) hK, escL_append, h.put, escL_plain _ hz, List.append_assoc, ← seg_cut s a pos (pos + K) h.le (by omega) hK]
theorem Ranged.done {s : ByteArray} {a pos : Nat} {acc : List Int} (h : Ranged s a pos acc) (hp : pos = s.size) : escL (sl s) = acc ++ seg s a s.size := by
  subst hp
  rw [← h.put, seg_head, sl_all]
theorem Ranged.len {s : ByteArray} {a pos : Nat} {acc : List Int} (h : Ranged s a pos acc) : acc.length ≤ 2 * pos := by
  have h1 := escK_len s pos h.sz
  rw [← seg_head, h.put, List.length_append] at h1
  omega

end Go.Proofs.YtkakkjnbhklfpaaGreatDoor

/-
  The program's PutEsc: what was there, and behind it the text as it is put, in memory of its own.
-/
namespace Go.Proofs.YtkakkjnbhklfpaaGreatDoor
open Go.RowKit
set_option maxRecDepth 4000

/-- Bytes that the call owns stay while a text's iterator is moved on. -/
theorem own_moved {w : World} {B e size n : Nat} {v : Value} {xs : List Value} {k : Nat} {s : ByteArray} {pos : Nat} (h : w.ownsRow B e size v n xs) (hk : w.heap[k]? = some (.stringIter s pos)) (pos' : Nat) : (w.iterAt k s pos').ownsRow B e size v n xs := by
  refine ⟨h.1, ?_⟩
  rcases h.2 with h0 | ⟨g, cap, cur, hv, hb, hg, rest⟩
  · exact .inl h0
  · refine .inr ⟨g, cap, cur, hv, hb, ?_, rest⟩
    rw [Lib.iterAt_other _ _ _ _ _ (fun e => by subst e; rw [hk] at hg; cases hg)]
    exact hg
theorem own_apart {w : World} {B e size n : Nat} {v : Value} {xs : List Value} {k : Nat} {s : ByteArray} {pos : Nat} (h : w.ownsRow B e size v n xs) (hk : w.heap[k]? = some (.stringIter s pos)) : some k ≠ v.ownBlock := by
  rcases h.2 with ⟨rfl, _⟩ | ⟨g, cap, cur, rfl, hb, hg, rest⟩
  · simp [Value.ownBlock]
  · intro e
    simp only [Value.ownBlock, Option.some.injEq] at e
    subst e
    rw [hk] at hg
    cases hg

set_option maxHeartbeats 4000000 in
theorem putEsc_impl (b off n cap : Nat) (f : Nat → Int) (s : ByteArray) (w : World) (hv : View w (some ⟨b, off, none⟩) n cap f) (hn : n ≤ 8796093022208) (hs : s.size ≤ 8796093022208) :
    Calls Tryz.prog 183 #[.slice (some ⟨b, off, none⟩) n cap, .string s] w fun e w' => ∃ g c, e = .returned (.slice (some ⟨g, 0, none⟩) (n + escN s) c) ∧ w.heap.size ≤ g ∧ n + escN s ≤ c ∧ Row 5 w' g (n + escN s) (fun i => (escT n f s).getD i 0) ∧ Below w.heap.size w w' := by
  obtain ⟨i0, hi, hz0, hz1, hz2⟩ := info_parts Tryz.info5
  have hown0 : (w.iter s 0).ownsRow w.heap.size 5 1 (.slice none 0 0) 0 (bl []) := ⟨rfl, .inl ⟨rfl, rfl⟩⟩
  have hb0 : Below w.heap.size w (w.iter s 0) := (Below.refl _ _).alloc (Nat.le_refl _) _
  have hit0 : (w.iter s 0).heap[w.heap.size]? = some (.stringIter s 0) := World.iter_heap w s 0
  go_enter Tryz.func183, Tryz.ntmps183
  go_wp2
  go_loopg [5, 6] s.size (fun g v fr wr => ∃ (a pos : Nat) (acc : List Int), g = s.size - pos ∧ fr = .int .i64 a ∧ Ranged s a pos acc ∧ wr.ownsRow w.heap.size 5 1 v acc.length (bl acc) ∧ wr.heap[w.heap.size]? = some (.stringIter s pos) ∧ Below w.heap.size w wr)
  case atStart => exact ⟨0, 0, [], rfl, rfl, Ranged.start s, hown0, hit0, hb0⟩
  case round =>
    obtain ⟨a, pos, acc, rfl, rfl, hR, hown, hit, hB⟩ := hrel
    clear hown0 hb0 hit0
    have HR : Hid (Ranged s a pos acc) := hR
    have hle := hR.le
    have hsz := hR.sz
    have hlen := hR.len
    clear hR
    have hsl : (seg s a pos).length = pos - a := seg_len s a pos hsz
    by_cases hlt : pos < s.size
    · have hnx : ∀ ty, (Instr.next (.pointer (some ⟨w.heap.size, 0, none⟩)) true ty).run Tryz.prog wr = _ := fun ty => Lib.run_next_any_at wr w.heap.size s pos ty hit hlt
      by_cases h0 : (s[pos].toNat : Int) = 0
      · have HR2 : Hid (Ranged s (pos + 1) (pos + 1) ((acc ++ seg s a pos) ++ [0, 255])) := HR.out.zero hlt h0
        rw [rune_z s pos hlt h0] at hnx
        clear h0
        have hit2 := Lib.iterAt_heap wr w.heap.size s pos (pos + 1) hit
        have hB2 := Lib.below_iterAt hB (k := w.heap.size) (Nat.le_refl _) s (pos + 1)
        have hown2 := own_moved hown hit (pos + 1)
        obtain ⟨W, hWd⟩ : ∃ W, wr.iterAt w.heap.size s (pos + 1) = W := ⟨_, rfl⟩
        simp only [hWd] at hnx hit2 hB2 hown2
        clear hown hit hB hWd
        have haz : (a : Int) ≤ (pos : Int) := by omega
        have hpz : (pos : Int) ≤ (s.size : Int) := by omega
        have hxs : (s.extract a pos).size = pos - a := by simp; omega
        go_wp2_with (first | (at_builtin; refine Lib.wpList_append_own_string _ rfl (.tmp 17) (.tmp 21) 22 9 rfl w.heap.size 5 i0 Tryz.underlying22 Tryz.underlying9 hi hz0 hz1 hz2 u5 _ _ rfl hown2 (s.extract a pos) rfl (by unfold maxLen; omega) (by omega) hB2.size ?_; intro v3 w3 hown3 hgr3 _) | (at_builtin; refine wpList_append_own _ rfl (.tmp 23) (.tmp 24) 22 rfl w.heap.size 5 i0 (.int .u8 0) 1 1 Tryz.underlying22 hi hz0 hz1 hz2 rfl (by decide) v3 _ _ rfl (hown3.alloc _) ⟨w3.heap.size, 0, none⟩ 2 2 [.int .u8 0, .int .u8 255] rfl rfl (cellsTwo _ _ _ _) (bl_one [0, 255]) (by unfold maxLen; omega) (by omega) (by have := hB2.size; have := hgr3.size; simp at *; omega) ?_; intro v4 w4 hown4 hgr4 _))
        have hB3 : Below w.heap.size w w3 := hB2.grown hgr3 hB2.size (fun k hk => (hown2.lt k hk).1)
        have hB4 : Below w.heap.size w w4 := (hB3.alloc hB3.size _).grown hgr4 (by have := hB3.size; simp; omega) (fun k hk => (hown3.lt k hk).1)
        have hlk : w.heap.size < W.heap.size := (Array.getElem?_eq_some_iff.1 hit2).1
        have hit3 : w3.heap[w.heap.size]? = some (.stringIter s (pos + 1)) := (hgr3.block w.heap.size hlk (own_apart hown2 hit2)).trans hit2
        have hlk3 : w.heap.size < w3.heap.size := (Array.getElem?_eq_some_iff.1 hit3).1
        have hit4 : w4.heap[w.heap.size]? = some (.stringIter s (pos + 1)) := (hgr4.block w.heap.size (by simp; omega) (own_apart hown3 hit3)).trans ((Below.heap_alloc _ _ _ hlk3).trans hit3)
        have hO4 : w4.ownsRow w.heap.size 5 1 v4 ((acc ++ seg s a pos) ++ [0, 255]).length (bl ((acc ++ seg s a pos) ++ [0, 255])) := by
          rw [List.length_append, List.length_append, bl_append, bl_append, ← seg_sl, ← sl_cells, sl_len]
          exact hown4
        clear hgr3 hgr4 hown2 hown3 hown4 hB2 hit2 hit3 hnx
        go_wp2
        go_roundg (s.size - (pos + 1))
        case measure => omega
        case rel => exact ⟨pos + 1, pos + 1, _, rfl, by go_num, HR2.out, hO4, hit4, hB4⟩
      · obtain ⟨d0, d1, d2, d3⟩ := rune_nz s pos hlt h0
        obtain ⟨R, hRd⟩ : ∃ R, (Utf8.decode s pos).1 = R := ⟨_, rfl⟩
        obtain ⟨K, hKd⟩ : ∃ K, (Utf8.decode s pos).2 = K := ⟨_, rfl⟩
        simp only [hRd, hKd] at hnx d0 d1 d2 d3
        have HR2 : Hid (Ranged s a (pos + K) acc) := HR.out.plain K d2 d3
        have hit2 := Lib.iterAt_heap wr w.heap.size s pos (pos + K) hit
        have hB2 := Lib.below_iterAt hB (k := w.heap.size) (Nat.le_refl _) s (pos + K)
        have hown2 := own_moved hown hit (pos + K)
        have q0 : ((R : Int) == 0) = false := by simp; omega
        obtain ⟨W, hWd⟩ : ∃ W, wr.iterAt w.heap.size s (pos + K) = W := ⟨_, rfl⟩
        simp only [hWd] at hnx hit2 hB2 hown2
        clear hown hit hB hWd h0 d0 d3 hRd hKd
        go_wp2
        go_roundg (s.size - (pos + K))
        case measure => omega
        case rel => exact ⟨a, pos + K, acc, rfl, rfl, HR2.out, hown2, hit2, hB2⟩
    · obtain rfl : pos = s.size := by omega
      have hnx : ∀ ty, (Instr.next (.pointer (some ⟨w.heap.size, 0, none⟩)) true ty).run Tryz.prog wr = _ := fun ty => Lib.run_next_end_at wr w.heap.size s s.size ty hit hlt
      have HE : Hid (escL (sl s) = acc ++ seg s a s.size) := HR.out.done rfl
      have haz : (a : Int) ≤ (s.size : Int) := by omega
      have hxs : (s.extract a s.size).size = s.size - a := by simp
      have hsb := hB.size
      clear hit
      go_wp2_with (first | (at_builtin; refine Lib.wpList_append_own_string _ rfl (.tmp 28) (.tmp 31) 22 9 rfl w.heap.size 5 i0 Tryz.underlying22 Tryz.underlying9 hi hz0 hz1 hz2 u5 _ _ rfl hown (s.extract a s.size) rfl (by unfold maxLen; omega) (by omega) hB.size ?_; intro v3 w3 hown3 hgr3 _) | (at_builtin; refine wpList_append_own _ rfl (.tmp 34) (.tmp 35) 22 rfl w.heap.size 5 i0 (.int .u8 0) 1 1 Tryz.underlying22 hi hz0 hz1 hz2 rfl (by decide) v3 _ _ rfl (hown3.alloc _) ⟨w3.heap.size, 0, none⟩ 2 2 [.int .u8 0, .int .u8 1] rfl rfl (cellsTwo _ _ _ _) (bl_one [0, 1]) (by unfold maxLen; omega) (by omega) (by have := hB.size; have := hgr3.size; simp at *; omega) ?_; intro v4 w4 hown4 hgr4 _))
      have hB3 : Below w.heap.size w w3 := hB.grown hgr3 hB.size (fun k hk => (hown.lt k hk).1)
      have hB4 : Below w.heap.size w w4 := (hB3.alloc hB3.size _).grown hgr4 (by have := hB3.size; simp; omega) (fun k hk => (hown3.lt k hk).1)
      have hO4 : w4.ownsRow w.heap.size 5 1 v4 (escN s) (bl (escL (sl s) ++ [0, 1])) := by
        unfold escN
        rw [HE.out, List.length_append, bl_append, bl_append, ← seg_sl, ← sl_cells, sl_len]
        exact hown4
      have hE := escN_le s
      obtain ⟨g, c, rfl, hg, hgc, hrow⟩ := row_of_own hO4 (by unfold escN; omega)
      have hyb : ∀ i, i < escN s → 0 ≤ (escL (sl s) ++ [0, 1]).getD i 0 ∧ (escL (sl s) ++ [0, 1]).getD i 0 ≤ 255 := by
        have := escT_at 0 (fun _ => 0) s (fun i hi => absurd hi (Nat.not_lt_zero _))
        simpa [escT, lof] using this
      refine (putBytes_any b off n cap f (some ⟨g, 0, none⟩) (escN s) c (fun i => (escL (sl s) ++ [0, 1]).getD i 0) w4 (hv.below hB4) (hrow.view hgc hyb) (by intro h; cases h) (by omega)).mono ?_
      rintro e w5 ⟨rfl, hown5, hb5⟩
      have el : lof (escN s) (fun i => (escL (sl s) ++ [0, 1]).getD i 0) = escL (sl s) ++ [0, 1] := by
        have := lof_self (escL (sl s) ++ [0, 1])
        rw [List.length_append] at this
        exact this
      rw [el] at hown5
      have hr5 : Hid (Row 5 w5 w4.heap.size (n + escN s) (fun i => (escT n f s).getD i 0)) := row_of_owned hown5
      replace hb5 := hB4.trans (hb5.mono hB4.size)
      have hs4 := hB4.size
      clear hown5 hrow hyb hO4 hown4 hown3 hown hB hB3 hB4 hgr3 hgr4 hnx HR HE el
      go_wp2
      go_ret
      exact ⟨_, _, rfl, hs4, Nat.le_refl _, hr5.out, hb5⟩
end Go.Proofs.YtkakkjnbhklfpaaGreatDoor

/-
  The program's writers of a value of each type: the value's bytes behind what is there, in a row of the call's own.
-/
namespace Go.Proofs.YtkakkjnbhklfpaaGreatDoor
open Go.RowKit
set_option maxRecDepth 4000

/-- What a writer of values comes to: the list's bytes behind those that are there. -/
def Writes (fn : Nat) (n : Nat) (f : Nat → Int) (k x : Int) (s : ByteArray) (l : List Int) : Prop :=
  ∀ (b off cap : Nat) (w : World), View w (some ⟨b, off, none⟩) n cap f → Calls Tryz.prog fn #[.slice (some ⟨b, off, none⟩) n cap, .agg #[.int .i64 k, .int .i64 x, .string s]] w fun e w' =>
    ∃ g c, e = .returned (.slice (some ⟨g, 0, none⟩) (n + l.length) c) ∧ w.heap.size ≤ g ∧ n + l.length ≤ c ∧ Row 5 w' g (n + l.length) (fun i => (lof n f ++ l).getD i 0) ∧ Below w.heap.size w w'

set_option maxHeartbeats 1000000 in
theorem putInt_any (n : Nat) (f : Nat → Int) (k x : Int) (s : ByteArray) (hn : n ≤ 70368744170000) (hx : -9223372036854775808 ≤ x ∧ x ≤ 9223372036854775807) : Writes 159 n f k x s (fixL x) := by
  intro b off cap w hv
  have hb0 : Below w.heap.size w (w.alloc (.cells #[.int .i64 k, .int .i64 x, .string s] 58)) := (Below.refl _ _).alloc (Nat.le_refl _) _
  have hv0 := hv.below hb0
  go_enter Tryz.func159, Tryz.ntmps159
  go_wp2_with fail
  refine (putFix_impl b off n cap f x _ hv0 hn hx.1 hx.2).mono ?_
  rintro e w1 ⟨g, c, rfl, hg, hc, hr, hb1⟩
  have hB := hb0.trans (hb1.mono hb0.size)
  have hg1 := Nat.le_trans hb0.size hg
  clear hb0 hb1 hv0 hv
  go_wp2
  go_ret
  rw [fixL_len]
  exact ⟨g, c, rfl, hg1, hc, hr, hB⟩

set_option maxHeartbeats 1000000 in
theorem putNum_any (n : Nat) (f : Nat → Int) (k x : Int) (s : ByteArray) (hn : n ≤ 70368744170000) (hx : -9223372036854775808 ≤ x ∧ x ≤ 9223372036854775807) : Writes 161 n f k x s (varL x) := by
  intro b off cap w hv
  have hb0 : Below w.heap.size w (w.alloc (.cells #[.int .i64 k, .int .i64 x, .string s] 58)) := (Below.refl _ _).alloc (Nat.le_refl _) _
  have hv0 := hv.below hb0
  go_enter Tryz.func161, Tryz.ntmps161
  go_wp2_with fail
  refine (putVar_impl b off n cap f x _ hv0 hn hx.1 hx.2).mono ?_
  rintro e w1 ⟨g, c, rfl, hg, hc, hr, hb1⟩
  have hB := hb0.trans (hb1.mono hb0.size)
  have hg1 := Nat.le_trans hb0.size hg
  clear hb0 hb1 hv0 hv
  go_wp2
  go_ret
  exact ⟨g, c, rfl, hg1, hc, hr, hB⟩

set_option maxHeartbeats 1000000 in
theorem putText_any (n : Nat) (f : Nat → Int) (k x : Int) (s : ByteArray) (hn : n ≤ 8796093022208) (hs : s.size ≤ 8796093022208) : Writes 163 n f k x s (escL (sl s) ++ [0, 1]) := by
  intro b off cap w hv
  have hb0 : Below w.heap.size w (w.alloc (.cells #[.int .i64 k, .int .i64 x, .string s] 58)) := (Below.refl _ _).alloc (Nat.le_refl _) _
  have hv0 := hv.below hb0
  go_enter Tryz.func163, Tryz.ntmps163
  go_wp2_with fail
  refine (putEsc_impl b off n cap f s _ hv0 hn hs).mono ?_
  rintro e w1 ⟨g, c, rfl, hg, hc, hr, hb1⟩
  have hB := hb0.trans (hb1.mono hb0.size)
  have hg1 := Nat.le_trans hb0.size hg
  clear hb0 hb1 hv0 hv
  go_wp2
  go_ret
  have el : escN s = (escL (sl s) ++ [0, 1]).length := by unfold escN; simp
  have et : escT n f s = lof n f ++ (escL (sl s) ++ [0, 1]) := by unfold escT; simp
  rw [el, et] at hr
  rw [el] at hc
  rw [el]
  exact ⟨g, c, rfl, hg1, hc, hr, hB⟩

theorem lof_one (g : Nat → Int) : lof 1 g = [g 0] := by simp [lof]

theorem Row.lit1 (w : World) (t : TypeId) (h : Int) : Row t (w.alloc (.cells #[.int .u8 h] t)) w.heap.size 1 (fun _ => h) :=
  Row.ofIs (World.rowIs_alloc w #[.int .u8 h] t (fun _ => .int .u8 h) (fun j hj => by match j, hj with | 0, _ => rfl))

set_option maxHeartbeats 1000000 in
theorem putBool_any (n : Nat) (f : Nat → Int) (k x : Int) (s : ByteArray) (hn : n ≤ 70368744170000) (hx : 0 ≤ x ∧ x ≤ 255) : Writes 165 n f k x s [x % 256] := by
  intro b off cap w hv
  have hx6 : x % 256 = x := by omega
  have hx8 : IntKind.u8.wrap x = x := by rw [u8_wrap, hx6]
  rw [hx6]
  have hb0 : Below w.heap.size w ((w.alloc (.cells #[.int .i64 k, .int .i64 x, .string s] 58)).alloc (.cells #[.int .u8 x] 5)) := ((Below.refl _ _).alloc (Nat.le_refl _) _).alloc (by simp) _
  have hv0 := hv.below hb0
  have hr0 := Row.lit1 (w.alloc (.cells #[.int .i64 k, .int .i64 x, .string s] 58)) 5 x
  rw [show (w.alloc (.cells #[.int .i64 k, .int .i64 x, .string s] 58)).heap.size = w.heap.size + 1 by simp] at hr0
  have hg0 := hr0.view (cap := 1) (Nat.le_refl _) (fun _ _ => hx)
  go_enter Tryz.func165, Tryz.ntmps165
  go_wp2_with fail
  refine (putBytes_any b off n cap f (some ⟨w.heap.size + 1, 0, none⟩) 1 1 (fun _ => x) _ hv0 hg0 (fun h => by cases h) (by omega)).mono ?_
  rintro e w1 ⟨rfl, hown, hb1⟩
  have hB := hb0.trans (hb1.mono hb0.size)
  have hg1 := hb0.size
  rw [lof_one] at hown
  clear hb0 hb1 hv0 hv hg0 hr0
  go_wp2
  go_ret
  obtain ⟨g, c, e, -, hc, hr⟩ := row_of_own hown (by omega)
  cases e
  have hz : ((w.alloc (.cells #[.int .i64 k, .int .i64 x, .string s] 58)).alloc (.cells #[.int .u8 x] 5)).heap.size = w.heap.size + 1 + 1 := by simp
  rw [hz] at hr hg1
  exact ⟨_, _, rfl, hg1, hc, hr, hB⟩
end Go.Proofs.YtkakkjnbhklfpaaGreatDoor

/-
  What was there, and behind it bytes that are turned.
-/
namespace Go.Proofs.YtkakkjnbhklfpaaGreatDoor
open Go.RowKit
set_option maxRecDepth 4000

theorem turn_list (n : Nat) (f : Nat → Int) (p : List Int) : lof (n + p.length) (flipF (fun i => (lof n f ++ p).getD i 0) (n : Int)) = lof n f ++ p.map (fun y => 255 - y) := by
  apply List.ext_getElem?
  intro i
  by_cases h1 : i < n
  · rw [List.getElem?_append_left (by rw [lof_len]; exact h1)]
    simp only [lof, List.getElem?_map, List.getElem?_range (show i < n + p.length by omega), List.getElem?_range h1, Option.map_some]
    unfold flipF
    rw [if_neg (by omega)]
    dsimp only
    rw [List.getD_eq_getElem?_getD, List.getElem?_append_left (by simpa using h1)]
    simp [h1]
  · by_cases h2 : i < n + p.length
    · obtain ⟨j, rfl⟩ : ∃ j, i = n + j := ⟨i - n, by omega⟩
      have hj : j < p.length := by omega
      rw [List.getElem?_append_right (by rw [lof_len]; omega), lof_len, Nat.add_sub_cancel_left]
      simp only [lof, List.getElem?_map, List.getElem?_range h2, Option.map_some, List.getElem?_eq_getElem hj]
      unfold flipF
      rw [if_pos (by omega)]
      dsimp only
      rw [List.getD_eq_getElem?_getD, List.getElem?_append_right (by simp)]
      simp [hj]
    · rw [List.getElem?_eq_none (by rw [lof_len]; omega), List.getElem?_eq_none (by simp [lof_len]; omega)]

/-- Bytes behind those that are there, in a row of the call's own. -/
theorem turn_row {t : TypeId} {w : World} {g n N : Nat} {f : Nat → Int} {p : List Int} {F : Nat → Int} (hN : N = n + p.length) (hF : ∀ i, i < N → F i = (lof n f ++ p).getD i 0) (h : Row t w g N (flipF F (n : Int))) : Row t w g (n + (p.map (fun y => 255 - y)).length) (fun i => (lof n f ++ p.map (fun y => 255 - y)).getD i 0) := by
  subst hN
  rw [List.length_map]
  refine h.congr (fun i hi => ?_)
  show flipF F n i = (lof n f ++ p.map (fun y => 255 - y)).getD i 0
  rw [← turn_list n f p, lof_get _ _ i hi]
  unfold flipF
  rw [hF i hi]
end Go.Proofs.YtkakkjnbhklfpaaGreatDoor

