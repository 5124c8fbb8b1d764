/-
  Together: BitsLen, PutVarImpl, PutTextImpl, RowPutImpl, ValInner, ValOfWalk, ValOkImpl, PartImpl, PlanImpl, IterKit, ByPart, IterBox, FitsImpl, FitsOk, RowOkImpl
-/
import Derived.Test.YtikopeihkbpjhasShelf
import Derived.Test.YtikopeihkbpjhasPack1
import Derived.Test.YtikopeihkbpjhasPack4
import Derived.Test.YtikopeihkbpjhasPack2
import Derived.Laws.IdiomStrings
import Derived.Test.YtikopeihkbpjhasPack3
import Derived.Deep.RegionWith
import Derived.BigQuiet
import Derived.Deep.LoopGhost
import Derived.Deep.RegionHeld3
import Derived.RangeFuncNested
import Derived.RangeFuncBound
import Derived.RangeFuncCalls
import Derived.RangeFuncLeaves
import Derived.OwnWalkIn
import Derived.TacticsInMore
import Derived.LoopNIn
import Derived.LoopIn
import Derived.Shelf.RegionOpen
/-
  math/bits.Len, as far as the program leans on it: of how many bits a number is follows how many bytes it has.
-/
namespace Go.Proofs.Ytikopeihkbpjhas
open Go.RowKit
set_option maxRecDepth 4000

theorem bitLen_byte (x : Nat) (h0 : 0 < x) (h1 : x < 256) : 1 ≤ Lib.bitLen x ∧ Lib.bitLen x ≤ 8 := by
  refine ⟨?_, Lib.bitLen_le8 ⟨x, h1⟩⟩
  rw [Lib.bitLen_half x (by omega) (by omega)]
  omega
theorem cnt_bits (x : Nat) (h : x < 72057594037927936) : (Lib.bitLen x + 7) / 8 = cnt (x : Int) ∧ Lib.bitLen x ≤ 56 := by
  unfold cnt
  by_cases h0 : x = 0
  · subst h0; exact ⟨rfl, by decide⟩
  rw [if_neg (by omega)]
  by_cases h1 : x < 256
  · rw [if_pos (by omega)]
    have := bitLen_byte x (by omega) h1
    omega
  rw [if_neg (by omega)]
  by_cases h2 : x < 65536
  · rw [if_pos (by omega), Lib.bitLen_shift8 x (by omega) (by omega)]
    have := bitLen_byte (x / 256) (by omega) (by omega)
    omega
  rw [if_neg (by omega)]
  by_cases h3 : x < 16777216
  · rw [if_pos (by omega), Lib.bitLen_shift16 x (by omega) (by omega)]
    have := bitLen_byte (x / 65536) (by omega) (by omega)
    omega
  rw [if_neg (by omega)]
  by_cases h4 : x < 4294967296
  · rw [if_pos (by omega), Lib.bitLen_shift24 x (by omega) (by omega)]
    have := bitLen_byte (x / 16777216) (by omega) (by omega)
    omega
  rw [if_neg (by omega)]
  by_cases h5 : x < 1099511627776
  · rw [if_pos (by omega), Lib.bitLen_shift32 x (by omega) (by omega)]
    have := bitLen_byte (x / 4294967296) (by omega) (by omega)
    omega
  rw [if_neg (by omega)]
  by_cases h6 : x < 281474976710656
  · rw [if_pos (by omega), Lib.bitLen_shift40 x (by omega) (by omega)]
    have := bitLen_byte (x / 1099511627776) (by omega) (by omega)
    omega
  rw [if_neg (by omega)]
  rw [Lib.bitLen_shift48 x (by omega) (by omega)]
  have := bitLen_byte (x / 281474976710656) (by omega) (by omega)
  omega

theorem bitsLen_any (x : Int) (w : World) (h0 : 0 ≤ x) (h1 : x < 72057594037927936) :
    Calls Try.prog 72 #[.int .u64 x] w fun e w' => ∃ L : Nat, e = .returned (.int .i64 (L : Int)) ∧ L ≤ 56 ∧ Hid ((L + 7) / 8 = cnt x) ∧ w = w' := by
  refine (Try.bits_Len x w h0 (by omega)).mono ?_
  rintro e w' ⟨rfl, rfl⟩
  have h := cnt_bits x.toNat (by omega)
  rw [Int.toNat_of_nonneg h0] at h
  exact ⟨_, rfl, h.2, h.1, rfl⟩
end Go.Proofs.Ytikopeihkbpjhas

/-
  The program's PutVar: what was there, and behind it the number's bytes, in memory of its own.
-/
namespace Go.Proofs.Ytikopeihkbpjhas
open Go.RowKit
set_option maxRecDepth 4000

theorem slice8 (A c : Nat) (hc : c ≤ 7) (W : World) :
    (Instr.sliceAt 85 (.pointer (some ⟨A, 0, none⟩)) (some (.int .i64 0)) (some (.int .i64 (1 + (c : Int)))) (some (.int .i64 (1 + (c : Int))))).run Try.prog W = .ok (.slice (some ⟨A, 0, none⟩) (1 + c) (1 + c)) W := by
  have e8 : Try.prog.arrayLen 85 = 8 := by kernel_rfl
  have e5 : Try.prog.elem 85 = 5 := by kernel_rfl
  rw [run_sliceAt_array_lhm W 85 _ (by kernel_rfl) .i64 .i64 .i64 0 (1 + (c : Int)) (1 + (c : Int)) (by omega) (by omega) (by omega) (by rw [e8]; omega), e5]
  have e1 : (sizeOf 5).run Try.prog W = .ok 1 W := by go_simp
  rw [e1]
  simp only [Result.andThen, slicedAt]
  rw [show (1 + (c : Int)).toNat = 1 + c by omega]
  simp [Addr.add]

/-- The head and the bytes behind it, as they stand ahead of a turn. -/
def wholeF (c : Nat) (s : Int) (i : Nat) : Int := if i = 0 then 128 + (c : Int) else be c s (i - 1)
theorem wholeF_bd (c : Nat) (s : Int) (hc : c ≤ 7) (i : Nat) : 0 ≤ wholeF c s i ∧ wholeF c s i ≤ 255 := by
  have := be_bd c s (i - 1)
  unfold wholeF
  split <;> omega
theorem whole_up {c : Nat} {s y : Int} (hs : s = sizeV y) (hc : c = cnt s) (hy : 0 ≤ y) : lof (1 + c) (wholeF c s) = keptL y := by
  subst hs hc
  rw [lof_cons]
  unfold keptL headV
  rw [if_neg (by omega)]
  congr 1
  unfold lof
  apply List.map_congr_left
  intro i _
  unfold wholeF tailV
  rw [if_neg (by omega), if_neg (by omega)]
  rfl
theorem whole_down {c : Nat} {s y : Int} (hs : s = sizeV y) (hc : c = cnt s) (hy : y < 0) : lof (1 + c) (flipF (wholeF c s) 0) = keptL y := by
  subst hs hc
  rw [lof_cons]
  unfold keptL headV
  rw [if_pos hy]
  congr 1
  · unfold flipF wholeF
    rw [if_pos (by omega), if_pos rfl]
    omega
  · unfold lof
    apply List.map_congr_left
    intro i _
    unfold flipF wholeF tailV
    rw [if_pos (by omega), if_neg (by omega), if_pos hy]
    rfl

theorem Row.zero8 (w : World) (t : TypeId) (h : Int) : Row t (w.alloc (.cells #[.int .u8 h, .int .u8 0, .int .u8 0, .int .u8 0, .int .u8 0, .int .u8 0, .int .u8 0, .int .u8 0] t)) w.heap.size 8 (fun i => if i = 0 then h else 0) :=
  Row.ofIs (World.rowIs_alloc w #[.int .u8 h, .int .u8 0, .int .u8 0, .int .u8 0, .int .u8 0, .int .u8 0, .int .u8 0, .int .u8 0] t (fun i => .int .u8 (if i = 0 then h else 0)) (fun j hj => by match j, hj with | 0, _ => rfl | 1, _ => rfl | 2, _ => rfl | 3, _ => rfl | 4, _ => rfl | 5, _ => rfl | 6, _ => rfl | 7, _ => rfl))
theorem Row.cut {t : TypeId} {w : World} {b n m : Nat} {f g : Nat → Int} (h : Row t w b n f) (hm : m ≤ n) (e : ∀ i, i < m → f i = g i) : Row t w b m g := by
  obtain ⟨c, hb, hn, hc⟩ := h
  exact ⟨c, hb, by omega, fun i hi => by rw [hc i (by omega), e i hi]⟩

set_option maxHeartbeats 1000000 in
theorem putVar_impl (b off n cap : Nat) (f : Nat → Int) (x : Int) (w : World) (hv : View w (some ⟨b, off, none⟩) n cap f) (hn : n ≤ 70368744170000) (hx0 : -9223372036854775808 ≤ x) (hx1 : x ≤ 9223372036854775807) :
    Calls Try.prog 58 #[.slice (some ⟨b, off, none⟩) n cap, .int .i64 x] w fun e w' => ∃ g c, e = .returned (.slice (some ⟨g, 0, none⟩) (n + (varL x).length) c) ∧ w.heap.size ≤ g ∧ n + (varL x).length ≤ c ∧ Row 5 w' g (n + (varL x).length) (fun i => (lof n f ++ varL x).getD i 0) ∧ Below w.heap.size w w' := by
  have hb0 : ∀ o, Below w.heap.size w (w.alloc o) := fun o => (Below.refl _ _).alloc (Nat.le_refl _) _
  obtain ⟨y, hy⟩ : ∃ y, y = clampV x := ⟨_, rfl⟩
  have hyb := clampV_bd x
  obtain ⟨s, hs⟩ : ∃ s, s = sizeV y := ⟨_, rfl⟩
  have hsb := sizeV_bd (clampV x) hyb
  rw [← hy] at hyb hsb
  rw [← hs] at hsb
  have hy1 : min (max x (-1000000000000000)) 1000000000000000 = y := by rw [hy]; unfold clampV; (repeat' split) <;> omega
  have hy2 : max y (-1 - y) = s := by rw [hs]; unfold sizeV; split <;> omega
  have HY : Hid (y = clampV x) := hy
  have HS : Hid (s = sizeV y) := hs
  clear hy hs
  obtain ⟨c, hcd⟩ : ∃ c : Nat, Hid (c = cnt s) := ⟨_, rfl⟩
  have hc7 : c ≤ 7 := by rw [hcd.out]; exact cnt_le _
  have HF : Hid (∀ (g off k : Nat) (w1 : World) (t : TypeId), Row t w1 g 8 (fillF off k 0 s (fun i => if i = 0 then 128 + (c : Int) else 0)) → (c = 0 ∧ k = 0) ∨ (off = 1 ∧ k = c) → View w1 (some ⟨g, 0, none⟩) (1 + c) (1 + c) (wholeF c s)) := by
    intro g off k w1 t hr hk
    refine (hr.cut (m := 1 + c) (by omega) (g := wholeF c s) (fun i hi => ?_)).view (Nat.le_refl _) (fun i _ => wholeF_bd c s hc7 i)
    unfold fillF wholeF
    by_cases h0 : i = 0
    · subst h0
      rw [if_neg (by omega), if_pos rfl]
      exact if_pos rfl
    · rw [if_pos (by omega), if_neg h0]
      rcases hk with ⟨h1, h2⟩ | ⟨rfl, rfl⟩
      · omega
      · rfl
  have hlen : n + (varL x).length = n + (1 + c) := by
    unfold varL
    rw [keptL_len, ← HY.out, ← HS.out, ← hcd.out]
    omega
  have HL : Hid (varL x = keptL y) := by show _ = _; unfold varL; rw [← HY.out]
  rw [hlen]
  clear hlen
  have hsl := slice8 w.heap.size c hc7
  go_enter Try.func58, Try.ntmps58
  go_wp2_with fail
  refine (bitsLen_any s w hsb.1 (by omega)).mono ?_
  rintro e _ ⟨L, rfl, hL, hcl, rfl⟩
  have hLc : ((L : Int) + 7) / 8 = (c : Int) := by
    have h1 : (L + 7) / 8 = c := by
      rw [hcd.out]
      exact hcl.out
    omega
  clear hcl
  by_cases hc0 : c = 0
  · subst hc0
    go_wp2_with fail
    refine (setDigits_any _ w.heap.size 0 0 0 8 (fun i => if i = 0 then 128 + ((0 : Nat) : Int) else 0) s _ (Row.zero8 w _ (128 + ((0 : Nat) : Int))) (by omega) (by omega) hsb.1).mono ?_
    rintro e w1 ⟨rfl, hr1, ho1⟩
    have hV1 := HF.out w.heap.size 0 0 w1 _ hr1 (by simp)
    have hb1 : Below w.heap.size w w1 := (hb0 _).trans (ho1.below (Nat.le_refl _))
    clear hr1 ho1 HF hb0 hsl
    by_cases hyn : y < 0
    · go_wp2_with fail
      refine (flip_impl w.heap.size 0 (1 + 0) (1 + 0) (wholeF 0 s) 0 w1 hV1 (by omega) (by omega)).mono ?_
      rintro e w2 ⟨g, cg, rfl, hg, hgc, hr2, hb2⟩
      have hV2 := hr2.view hgc (flipF_byte 0 (fun i _ => wholeF_bd 0 s hc7 i))
      replace hb2 := hb1.trans (hb2.mono hb1.size)
      clear hr2 hV1 hb1 hg hgc
      go_wp2_with fail
      refine (putBytes_any b off n cap f (some ⟨g, 0, none⟩) (1 + 0) cg _ w2 (hv.below hb2) hV2 (fun h => by cases h) (by omega)).mono ?_
      rintro e w3 ⟨rfl, hown, hb3⟩
      have HE : lof (1 + 0) (flipF (wholeF 0 s) 0) = varL x := (whole_down HS.out hcd.out hyn).trans HL.out.symm
      rw [HE] at hown
      have HR : Hid _ := row_of_owned hown
      have hb4 := hb2.trans (hb3.mono hb2.size)
      have hsz := hb2.size
      clear hown HE hV2 hb3 hb2 hv
      go_wp2
      go_ret
      exact ⟨_, _, rfl, hsz, Nat.le_refl _, HR.out, hb4⟩
    · have hb2 := hb1
      have hV2 := hV1
      clear hb1 hV1
      go_wp2_with fail
      refine (putBytes_any b off n cap f (some ⟨w.heap.size, 0, none⟩) (1 + 0) (1 + 0) _ w1 (hv.below hb2) hV2 (fun h => by cases h) (by omega)).mono ?_
      rintro e w3 ⟨rfl, hown, hb3⟩
      have HE : lof (1 + 0) (wholeF 0 s) = varL x := (whole_up HS.out hcd.out (by omega)).trans HL.out.symm
      rw [HE] at hown
      have HR : Hid _ := row_of_owned hown
      have hb4 := hb2.trans (hb3.mono hb2.size)
      have hsz := hb2.size
      clear hown HE hV2 hb3 hb2 hv
      go_wp2
      go_ret
      exact ⟨_, _, rfl, hsz, Nat.le_refl _, HR.out, hb4⟩
  · go_wp2_with fail
    refine (setDigits_any _ w.heap.size 1 c c 8 (fun i => if i = 0 then 128 + (c : Int) else 0) s _ (Row.zero8 w _ (128 + (c : Int))) (by omega) (by omega) hsb.1).mono ?_
    rintro e w1 ⟨rfl, hr1, ho1⟩
    have hV1 := HF.out w.heap.size 1 c w1 _ hr1 (Or.inr ⟨rfl, rfl⟩)
    have hb1 : Below w.heap.size w w1 := (hb0 _).trans (ho1.below (Nat.le_refl _))
    clear hr1 ho1 HF hb0 hsl
    by_cases hyn : y < 0
    · go_wp2_with fail
      refine (flip_impl w.heap.size 0 (1 + c) (1 + c) (wholeF c s) 0 w1 hV1 (by omega) (by omega)).mono ?_
      rintro e w2 ⟨g, cg, rfl, hg, hgc, hr2, hb2⟩
      have hV2 := hr2.view hgc (flipF_byte 0 (fun i _ => wholeF_bd c s hc7 i))
      replace hb2 := hb1.trans (hb2.mono hb1.size)
      clear hr2 hV1 hb1 hg hgc
      go_wp2_with fail
      refine (putBytes_any b off n cap f (some ⟨g, 0, none⟩) (1 + c) cg _ w2 (hv.below hb2) hV2 (fun h => by cases h) (by omega)).mono ?_
      rintro e w3 ⟨rfl, hown, hb3⟩
      have HE : lof (1 + c) (flipF (wholeF c s) 0) = varL x := (whole_down HS.out hcd.out hyn).trans HL.out.symm
      rw [HE] at hown
      have HR : Hid _ := row_of_owned hown
      have hb4 := hb2.trans (hb3.mono hb2.size)
      have hsz := hb2.size
      clear hown HE hV2 hb3 hb2 hv
      go_wp2
      go_ret
      exact ⟨_, _, rfl, hsz, Nat.le_refl _, HR.out, hb4⟩
    · have hb2 := hb1
      have hV2 := hV1
      clear hb1 hV1
      go_wp2_with fail
      refine (putBytes_any b off n cap f (some ⟨w.heap.size, 0, none⟩) (1 + c) (1 + c) _ w1 (hv.below hb2) hV2 (fun h => by cases h) (by omega)).mono ?_
      rintro e w3 ⟨rfl, hown, hb3⟩
      have HE : lof (1 + c) (wholeF c s) = varL x := (whole_up HS.out hcd.out (by omega)).trans HL.out.symm
      rw [HE] at hown
      have HR : Hid _ := row_of_owned hown
      have hb4 := hb2.trans (hb3.mono hb2.size)
      have hsz := hb2.size
      clear hown HE hV2 hb3 hb2 hv
      go_wp2
      go_ret
      exact ⟨_, _, rfl, hsz, Nat.le_refl _, HR.out, hb4⟩
end Go.Proofs.Ytikopeihkbpjhas

/-
  The program's PutText: what was there, the number of the text's bytes, and these, in memory of its own.
-/
namespace Go.Proofs.Ytikopeihkbpjhas
open Go.RowKit
set_option maxRecDepth 4000

/-- What '[]byte(s)' lays reads as the text's bytes. -/
theorem text_view (w : World) (s : ByteArray) (cap : Nat) (m : Nat × Nat) (hc : s.size ≤ cap) : View (w.alloc (.cells (bytesRow s cap) 5 m)) (some ⟨w.heap.size, 0, none⟩) s.size cap (fun i => (sl s).getD i 0) := by
  refine ⟨hc, fun i hi => ?_, fun _ => ⟨w.heap.size, 0, rfl, by simp, fun i hi => ?_⟩⟩
  · have hi' : i < (sl s).length := by rw [sl_len]; exact hi
    have := sl_byte s _ (List.getElem_mem hi')
    simpa [hi'] using this
  · have hi' : i < (sl s).length := by rw [sl_len]; exact hi
    have hd : i < s.data.size := hi
    have e1 : (bytesRow s cap)[i]? = some (.int .u8 ((sl s).getD i 0)) := by
      unfold bytesRow
      rw [Array.getElem?_append_left (by simpa using hd)]
      simp [sl]
      exact ⟨s.data[i], Array.getElem?_eq_getElem hd, by rw [Array.getElem?_eq_getElem hd]; rfl⟩
    rw [Nat.zero_add, World.cell?]
    rw [show (w.alloc (.cells (bytesRow s cap) 5 m)).heap[w.heap.size]? = some (.cells (bytesRow s cap) 5 m) from Deep.blk_alloc_new _ _]
    simp [e1]

set_option maxHeartbeats 1000000 in
theorem putText_impl (b off n cap : Nat) (f : Nat → Int) (s : ByteArray) (w : World) (hv : View w (some ⟨b, off, none⟩) n cap f) (hn : n ≤ 17592186044416) (hs : s.size ≤ 17592186044416) :
    Calls Try.prog 59 #[.slice (some ⟨b, off, none⟩) n cap, .string s] w fun e w' => ∃ g c, e = .returned (.slice (some ⟨g, 0, none⟩) (n + (groups (clampN s.size)).length + s.size) c) ∧ w.heap.size ≤ g ∧ n + (groups (clampN s.size)).length + s.size ≤ c ∧ Row 5 w' g (n + (groups (clampN s.size)).length + s.size) (fun i => (textL n f s).getD i 0) ∧ Below w.heap.size w w' := by
  have hgl := (groups_len (clampN s.size)).2
  have hgb : Hid (∀ y ∈ groups (clampN s.size), 0 ≤ y ∧ y ≤ 255) := groups_byte _ (clampN_bd _).1 (clampN_bd _).2
  obtain ⟨gs, hgs⟩ : ∃ gs, Hid (groups (clampN s.size) = gs) := ⟨_, rfl⟩
  rw [hgs.out] at hgl hgb
  have kc := fun w => run_bytes_of_string (P := Try.prog) w 9 34 5 s Try.underlying9 Try.underlying34 Try.underlying5
  go_enter Try.func59, Try.ntmps59
  go_wp2_with fail
  have hb1 : Below w.heap.size w (w.alloc (.cells #[.int .i64 (s.size : Int)] 3)) := (Below.refl _ _).alloc (Nat.le_refl _) _
  refine (putNums_one b off n cap f (s.size : Int) w.heap.size _ (hv.below hb1) (by omega) (by omega) (by omega) (by simp)).mono ?_
  rintro e w2 ⟨g, c, rfl, hg, hgc, hrow, hb2⟩
  rw [hgs.out] at hrow hgc ⊢
  replace hb2 := hb1.trans (hb2.mono (by simp))
  go_wp2_with fail
  obtain ⟨cp, hcp⟩ : ∃ cp, cp = grownCap w2 s.size 0 5 := ⟨_, rfl⟩
  have hge : s.size ≤ cp := by rw [hcp]; exact grownCap_ge _ _ _ _
  rw [← hcp]
  clear hcp kc
  have hb3 : Below w2.heap.size w2 (w2.alloc (.cells (bytesRow s cp) 5 ((bytesRow s cp).size, (bytesRow s cp).size + 1))).drew := ((Below.refl _ _).alloc (Nat.le_refl _) _).drew
  have hvt : View (w2.alloc (.cells (bytesRow s cp) 5 ((bytesRow s cp).size, (bytesRow s cp).size + 1))).drew (some ⟨w2.heap.size, 0, none⟩) s.size cp (fun i => (sl s).getD i 0) := (text_view w2 s cp _ hge).below (Below.refl _ _).drew
  refine (putBytes_any g 0 (n + gs.length) c _ (some ⟨w2.heap.size, 0, none⟩) s.size cp (fun i => (sl s).getD i 0) _ ((hrow.belowAll hb3).view hgc (put_byte n f gs hv.byte hgb.out)) hvt (by intro h; cases h) (by omega)).mono ?_
  rintro e w3 ⟨rfl, hown, hb4⟩
  have el1 : lof (n + gs.length) (fun i => (lof n f ++ gs).getD i 0) = lof n f ++ gs := by
    have := lof_self (lof n f ++ gs)
    rw [List.length_append, lof_len] at this
    exact this
  have el2 : lof s.size (fun i => (sl s).getD i 0) = sl s := by
    have := lof_self (sl s)
    rw [sl_len] at this
    exact this
  rw [el1, el2] at hown
  have hr := row_of_owned hown
  have hgr : w.heap.size ≤ (w2.alloc (.cells (bytesRow s cp) 5 ((bytesRow s cp).size, (bytesRow s cp).size + 1))).drew.heap.size := Nat.le_trans hb2.size hb3.size
  have hbb := hb2.trans ((hb3.mono hb2.size).trans (hb4.mono hgr))
  clear hown hb4 hb3 hvt el1 el2 hrow
  generalize (w2.alloc (.cells (bytesRow s cp) 5 ((bytesRow s cp).size, (bytesRow s cp).size + 1))).drew.heap.size = G at *
  go_wp2
  go_ret
  unfold textL
  rw [hgs.out]
  exact ⟨G, _, rfl, hgr, Nat.le_refl _, hr, hbb⟩
end Go.Proofs.Ytikopeihkbpjhas

/-
  The program's putRowVal: a value's bytes behind what was there.
-/
namespace Go.Proofs.Ytikopeihkbpjhas
open Go.RowKit
set_option maxRecDepth 4000

theorem putU_encI (w W : World) (g cg : Nat) (L : List Int) (x : Int) (h : EncTo w W g cg L) (hb : ∀ y ∈ L, 0 ≤ y ∧ y ≤ 255) (hn : L.length ≤ 10000000) (hx0 : -9223372036854775808 ≤ x) (hx1 : x ≤ 9223372036854775807) :
    Calls Try.prog 38 #[.slice (some ⟨g, 0, none⟩) L.length cg, .int .i64 x] W (EncMore w W (L ++ groups (clampN x))) := by
  refine (putU_opt (some ⟨g, 0, none⟩) L.length cg _ x W (h.byte hb) (by intro h; cases h) (by omega) hx0 hx1).mono ?_
  rintro e w' ⟨g', c', rfl, hg', hc', hr, hB⟩
  rw [lof_self] at hr
  rw [← List.length_append] at hc' hr ⊢
  exact ⟨g', c', rfl, ⟨hr, Nat.le_trans h.below.size hg', hc', h.below.trans (hB.mono h.below.size)⟩, hB⟩
theorem putU_encNil (w W : World) (x : Int) (h : Below w.heap.size w W) (hx0 : -9223372036854775808 ≤ x) (hx1 : x ≤ 9223372036854775807) :
    Calls Try.prog 38 #[.slice none 0 0, .int .i64 x] W (EncMore w W (groups (clampN x))) := by
  refine (putU_opt none 0 0 (fun _ => 0) x W ⟨Nat.le_refl _, fun _ hi => absurd hi (Nat.not_lt_zero _), fun h => absurd h (Nat.lt_irrefl _)⟩ (fun _ => ⟨rfl, rfl⟩) (by omega) hx0 hx1).mono ?_
  rintro e w' ⟨g', c', rfl, hg', hc', hr, hB⟩
  have e1 : lof 0 (fun _ => 0) ++ groups (clampN x) = groups (clampN x) := rfl
  rw [e1] at hr
  rw [Nat.zero_add] at hc' hr ⊢
  exact ⟨g', c', rfl, ⟨hr, Nat.le_trans h.size hg', hc', h.trans (hB.mono h.size)⟩, hB⟩
theorem putVar_encI (w W : World) (g cg : Nat) (L : List Int) (x : Int) (h : EncTo w W g cg L) (hb : ∀ y ∈ L, 0 ≤ y ∧ y ≤ 255) (hn : L.length ≤ 10000000) (hx0 : -9223372036854775808 ≤ x) (hx1 : x ≤ 9223372036854775807) :
    Calls Try.prog 58 #[.slice (some ⟨g, 0, none⟩) L.length cg, .int .i64 x] W (EncMore w W (L ++ varL x)) := by
  refine (putVar_impl g 0 L.length cg _ x W (h.byte hb) (by omega) hx0 hx1).mono ?_
  rintro e w' ⟨g', c', rfl, hg', hc', hr, hB⟩
  rw [lof_self] at hr
  rw [← List.length_append] at hc' hr ⊢
  exact ⟨g', c', rfl, ⟨hr, Nat.le_trans h.below.size hg', hc', h.below.trans (hB.mono h.below.size)⟩, hB⟩
theorem putText_encI (w W : World) (g cg : Nat) (L : List Int) (s : ByteArray) (h : EncTo w W g cg L) (hb : ∀ y ∈ L, 0 ≤ y ∧ y ≤ 255) (hn : L.length ≤ 10000000) (hs : s.size ≤ 10000000) :
    Calls Try.prog 59 #[.slice (some ⟨g, 0, none⟩) L.length cg, .string s] W (EncMore w W (L ++ (groups (clampN s.size) ++ sl s))) := by
  refine (putText_impl g 0 L.length cg _ s W (h.byte hb) (by omega) (by omega)).mono ?_
  rintro e w' ⟨g', c', rfl, hg', hc', hr, hB⟩
  have e1 : textL L.length (fun i => L.getD i 0) s = L ++ (groups (clampN s.size) ++ sl s) := by unfold textL; rw [lof_self, List.append_assoc]
  have e2 : L.length + (groups (clampN s.size)).length + s.size = (L ++ (groups (clampN s.size) ++ sl s)).length := by rw [List.length_append, List.length_append, sl_len]; omega
  rw [e1, e2] at hr
  rw [e2] at hc' ⊢
  exact ⟨g', c', rfl, ⟨hr, Nat.le_trans h.below.size hg', hc', h.below.trans (hB.mono h.below.size)⟩, hB⟩
theorem putSum_encI (w W : World) (g cg : Nat) (L : List Int) (h : EncTo w W g cg L) (hb : ∀ y ∈ L, 0 ≤ y ∧ y ≤ 255) (hn : L.length ≤ 10000000) :
    Calls Try.prog 40 #[.slice (some ⟨g, 0, none⟩) L.length cg] W fun e w' => ∃ g c, e = .returned (.slice (some ⟨g, 0, none⟩) (sumB L).length c) ∧ EncTo w w' g c (sumB L) := by
  refine (putSum_impl g 0 L.length cg _ W (h.byte hb) (by omega)).mono ?_
  rintro e w' ⟨g', c', rfl, hg', hc', hr, hB⟩
  have e2 : L.length + 4 = (sumB L).length := by unfold sumB; rw [List.length_append]; rfl
  rw [lof_self] at hr
  have e1 : L ++ sumL (crc L.length (fun i => L.getD i 0)) = sumB L := rfl
  rw [e1, e2] at hr
  rw [e2] at hc' ⊢
  exact ⟨g', c', rfl, ⟨hr, Nat.le_trans h.below.size hg', hc', h.below.trans (hB.mono h.below.size)⟩⟩
theorem putByte_encI (w W : World) (g cg : Nat) (L : List Int) (b2 : Nat) (x : Int) (h : EncTo w W g cg L) (hb : ∀ y ∈ L, 0 ≤ y ∧ y ≤ 255) (hn : L.length ≤ 10000000) (hx : 0 ≤ x ∧ x ≤ 255) (hc : Row 5 W b2 1 (fun i => [x].getD i 0)) :
    Calls Try.prog 60 #[.slice (some ⟨g, 0, none⟩) L.length cg, .slice (some ⟨b2, 0, none⟩) 1 1] W (EncMore w W (L ++ [x])) := by
  refine (putBytes_any g 0 L.length cg _ (some ⟨b2, 0, none⟩) 1 1 (fun i => [x].getD i 0) W (h.byte hb) (hc.view (Nat.le_refl _) (fun i hi => by obtain rfl : i = 0 := (by omega); exact hx)) (by intro h; cases h) (by omega)).mono ?_
  rintro e w' ⟨rfl, hO, hB⟩
  have hr := row_of_owned hO
  rw [lof_self] at hr
  have e1 : lof 1 (fun i => [x].getD i 0) = [x] := rfl
  rw [e1] at hr
  have e2 : L.length + 1 = (L ++ [x]).length := by rw [List.length_append]; rfl
  rw [e2] at hr ⊢
  exact ⟨_, _, rfl, ⟨hr, h.below.size, Nat.le_refl _, h.below.trans (hB.mono h.below.size)⟩, hB⟩

set_option linter.unusedSimpArgs false in
set_option maxHeartbeats 2000000 in
theorem putRowVal_any (w W : World) (g cg : Nat) (L : List Int) (q0 q1 : Int) (q2 : ByteArray) (hE : EncTo w W g cg L) (hby : ∀ y ∈ L, 0 ≤ y ∧ y ≤ 255) (hln : L.length ≤ 1000) (hok : okF q0 q1 q2 = true) :
    Calls Try.prog 39 #[.slice (some ⟨g, 0, none⟩) L.length cg, .agg #[.int .i64 q0, .int .i64 q1, .string q2]] W (EncMore w W (L ++ valB q0 q1 q2)) := by
  have hkin := okF_kinds hok
  clear hok
  have hs2 : q2.size ≤ 30 := by rcases hkin with ⟨_, _, e⟩ | ⟨_, _, e⟩ | ⟨_, _, e⟩ | ⟨_, _, e⟩ | ⟨_, _, e⟩ <;> first | exact e | (rw [e]; decide)
  have hq0b : 0 ≤ q0 ∧ q0 ≤ 4 := by omega
  have hV := Box.new W q0 q1 q2
  have hbw : Below W.heap.size W (W.alloc (.cells #[.int .i64 q0, .int .i64 q1, .string q2] 52)) := (Below.refl _ _).alloc (Nat.le_refl _) _
  have hE2 : EncTo w (W.alloc (.cells #[.int .i64 q0, .int .i64 q1, .string q2] 52)) g cg L := ⟨hE.row.belowAll hbw, hE.new, hE.le, hE.below.trans (hbw.mono hE.below.size)⟩
  have hC := putU_encI w _ g cg L q0 hE2 hby (by omega) (by omega) (by omega)
  have hby1 : Hid (∀ y ∈ L ++ groups (clampN q0), 0 ≤ y ∧ y ≤ 255) := fun y hy => by
    rcases List.mem_append.1 hy with hy | hy
    · exact hby y hy
    · exact groups_byte _ (clampN_bd _).1 (clampN_bd _).2 y hy
  have hln1 : (L ++ groups (clampN q0)).length ≤ 1003 := by rw [List.length_append]; have := (groups_len (clampN q0)).2; omega
  have HVB : Hid (L ++ valB q0 q1 q2 = (L ++ groups (clampN q0)) ++ bodyB q0 q1 q2) := by show _ = _; unfold valB; rw [List.append_assoc]
  obtain ⟨L1, hL1⟩ : ∃ L1, Hid (L ++ groups (clampN q0) = L1) := ⟨_, rfl⟩
  rw [hL1.out] at hC hby1 hln1 HVB
  obtain ⟨L2, hL2⟩ : ∃ L2, Hid (L ++ valB q0 q1 q2 = L2) := ⟨_, rfl⟩
  rw [hL2.out] at HVB ⊢
  obtain ⟨W1, hW1⟩ : ∃ W1, Hid (W.alloc (.cells #[.int .i64 q0, .int .i64 q1, .string q2] 52) = W1) := ⟨_, rfl⟩
  rw [hW1.out] at hV hbw hC
  clear hE2 hE hby
  obtain ⟨x0, x1, x2⟩ := hV.cells
  go_enter Try.func39, Try.ntmps39
  go_wp2_with (rw [hW1.out])
  refine hC.mono ?_
  rintro e w4 ⟨g4, c4, rfl, hE4, hB4⟩
  clear hC x0 x1 x2
  have hV4 := hV.below hB4
  have hBW := hbw.trans (hB4.mono hbw.size)
  obtain ⟨z0, z1, z2⟩ := hV4.cells
  clear hB4 hbw hV
  rcases hkin with ⟨rfl, rfl, rfl⟩ | ⟨rfl, hr, rfl⟩ | ⟨rfl, hr, rfl⟩ | ⟨rfl, rfl, -⟩ | ⟨rfl, hr, rfl⟩
  · have e : L2 = L1 := by rw [HVB.out]; simp [bodyB]
    have HN : Hid (EncMore w W L2 (.returned (.slice (some ⟨g4, 0, none⟩) L1.length c4)) w4) := by rw [e]; exact ⟨g4, c4, rfl, hE4, hBW⟩
    clear hE4 hBW hV4 e
    go_wp2
    go_ret
    exact HN.out
  · have hC5 := putVar_encI w w4 g4 c4 L1 q1 hE4 hby1.out (by omega) (by omega) (by omega)
    have e5 : L1 ++ varL q1 = L2 := by rw [HVB.out]; simp [bodyB]
    rw [e5] at hC5
    clear hE4 e5 HVB hby1
    go_wp2_with fail
    refine hC5.mono ?_
    rintro e w5 ⟨g5, c5, rfl, hE5, hB5⟩
    have HN : Hid (EncMore w W L2 (.returned (.slice (some ⟨g5, 0, none⟩) L2.length c5)) w5) := ⟨g5, c5, rfl, hE5, hBW.trans (hB5.mono hBW.size)⟩
    clear hE5 hB5 hC5 hBW hV4 z0 z1 z2
    go_wp2
    go_ret
    exact HN.out
  · have hC5 := putVar_encI w w4 g4 c4 L1 q1 hE4 hby1.out (by omega) (by omega) (by omega)
    have e5 : L1 ++ varL q1 = L2 := by rw [HVB.out]; simp [bodyB]
    rw [e5] at hC5
    clear hE4 e5 HVB hby1
    go_wp2_with fail
    refine hC5.mono ?_
    rintro e w5 ⟨g5, c5, rfl, hE5, hB5⟩
    have HN : Hid (EncMore w W L2 (.returned (.slice (some ⟨g5, 0, none⟩) L2.length c5)) w5) := ⟨g5, c5, rfl, hE5, hBW.trans (hB5.mono hBW.size)⟩
    clear hE5 hB5 hC5 hBW hV4 z0 z1 z2
    go_wp2
    go_ret
    exact HN.out
  · have hC5 := putText_encI w w4 g4 c4 L1 q2 hE4 hby1.out (by omega) (by omega)
    have e5 : L1 ++ (groups (clampN q2.size) ++ sl q2) = L2 := by rw [HVB.out]; simp [bodyB]
    rw [e5] at hC5
    clear hE4 e5 HVB hby1
    go_wp2_with fail
    refine hC5.mono ?_
    rintro e w5 ⟨g5, c5, rfl, hE5, hB5⟩
    have HN : Hid (EncMore w W L2 (.returned (.slice (some ⟨g5, 0, none⟩) L2.length c5)) w5) := ⟨g5, c5, rfl, hE5, hBW.trans (hB5.mono hBW.size)⟩
    clear hE5 hB5 hC5 hBW hV4 z0 z1 z2
    go_wp2
    go_ret
    exact HN.out
  · obtain ⟨q1', rfl⟩ : ∃ z : Nat, q1 = z := ⟨q1.toNat, by omega⟩
    have hw : IntKind.u8.wrap (q1' : Int) = (q1' : Int) := by rw [u8_wrap]; omega
    have hbw2 : Below w4.heap.size w4 (w4.alloc (.cells #[.int .u8 (q1' : Int)] 5)) := (Below.refl _ _).alloc (Nat.le_refl _) _
    have hE6 : EncTo w (w4.alloc (.cells #[.int .u8 (q1' : Int)] 5)) g4 c4 L1 := ⟨hE4.row.belowAll hbw2, hE4.new, hE4.le, hE4.below.trans (hbw2.mono hE4.below.size)⟩
    have hC5 := putByte_encI w _ g4 c4 L1 w4.heap.size (q1' : Int) hE6 hby1.out (by omega) (by omega) (newRow w4 [(q1' : Int)] 5)
    have e5 : L1 ++ [(q1' : Int)] = L2 := by rw [HVB.out]; simp [bodyB]; omega
    rw [e5] at hC5
    have hBW2 := hBW.trans (hbw2.mono hBW.size)
    clear hE4 e5 HVB hby1 hE6 hbw2
    go_wp2_with fail
    refine hC5.mono ?_
    rintro e w5 ⟨g5, c5, rfl, hE5, hB5⟩
    have HN : Hid (EncMore w W L2 (.returned (.slice (some ⟨g5, 0, none⟩) L2.length c5)) w5) := ⟨g5, c5, rfl, hE5, hBW2.trans (hB5.mono hBW2.size)⟩
    clear hE5 hB5 hC5 hBW hBW2 hV4 z0 z1 z2
    go_wp2
    go_ret
    exact HN.out
end Go.Proofs.Ytikopeihkbpjhas

/-
  The program's values within: what each function answers of each kind.
-/
namespace Go.Proofs.Ytikopeihkbpjhas
open Go.RowKit
set_option maxRecDepth 4000

/-- A value within, as the machine holds it. -/
def V.enc : V → Value
  | .null => .iface 100 (.agg #[])
  | .int n => .iface 101 (.int .i64 n)
  | .num n => .iface 102 (.int .i64 n)
  | .text s => .iface 103 (.string s)
  | .bool b => .iface 104 (.bool b)

theorem as_null_null (W : World) : (Instr.typeAssert (.iface 100 (.agg #[])) 93 100 true).run Try.prog W = .ok (.tuple #[.agg #[], .bool true]) W := by kernel_rfl
theorem as_null_int (W : World) : (Instr.typeAssert (.iface 100 (.agg #[])) 93 101 true).run Try.prog W = .ok (.tuple #[.int .i64 0, .bool false]) W := by kernel_rfl
theorem as_null_num (W : World) : (Instr.typeAssert (.iface 100 (.agg #[])) 93 102 true).run Try.prog W = .ok (.tuple #[.int .i64 0, .bool false]) W := by kernel_rfl
theorem as_null_text (W : World) : (Instr.typeAssert (.iface 100 (.agg #[])) 93 103 true).run Try.prog W = .ok (.tuple #[.string ⟨#[]⟩, .bool false]) W := by kernel_rfl
theorem as_null_bool (W : World) : (Instr.typeAssert (.iface 100 (.agg #[])) 93 104 true).run Try.prog W = .ok (.tuple #[.bool false, .bool false]) W := by kernel_rfl
theorem as_int_null (n : Int) (W : World) : (Instr.typeAssert (.iface 101 (.int .i64 n)) 93 100 true).run Try.prog W = .ok (.tuple #[.agg #[], .bool false]) W := by kernel_rfl
theorem as_int_int (n : Int) (W : World) : (Instr.typeAssert (.iface 101 (.int .i64 n)) 93 101 true).run Try.prog W = .ok (.tuple #[.int .i64 n, .bool true]) W := by kernel_rfl
theorem as_int_num (n : Int) (W : World) : (Instr.typeAssert (.iface 101 (.int .i64 n)) 93 102 true).run Try.prog W = .ok (.tuple #[.int .i64 0, .bool false]) W := by kernel_rfl
theorem as_int_text (n : Int) (W : World) : (Instr.typeAssert (.iface 101 (.int .i64 n)) 93 103 true).run Try.prog W = .ok (.tuple #[.string ⟨#[]⟩, .bool false]) W := by kernel_rfl
theorem as_int_bool (n : Int) (W : World) : (Instr.typeAssert (.iface 101 (.int .i64 n)) 93 104 true).run Try.prog W = .ok (.tuple #[.bool false, .bool false]) W := by kernel_rfl
theorem as_num_null (n : Int) (W : World) : (Instr.typeAssert (.iface 102 (.int .i64 n)) 93 100 true).run Try.prog W = .ok (.tuple #[.agg #[], .bool false]) W := by kernel_rfl
theorem as_num_int (n : Int) (W : World) : (Instr.typeAssert (.iface 102 (.int .i64 n)) 93 101 true).run Try.prog W = .ok (.tuple #[.int .i64 0, .bool false]) W := by kernel_rfl
theorem as_num_num (n : Int) (W : World) : (Instr.typeAssert (.iface 102 (.int .i64 n)) 93 102 true).run Try.prog W = .ok (.tuple #[.int .i64 n, .bool true]) W := by kernel_rfl
theorem as_num_text (n : Int) (W : World) : (Instr.typeAssert (.iface 102 (.int .i64 n)) 93 103 true).run Try.prog W = .ok (.tuple #[.string ⟨#[]⟩, .bool false]) W := by kernel_rfl
theorem as_num_bool (n : Int) (W : World) : (Instr.typeAssert (.iface 102 (.int .i64 n)) 93 104 true).run Try.prog W = .ok (.tuple #[.bool false, .bool false]) W := by kernel_rfl
theorem as_text_null (s : ByteArray) (W : World) : (Instr.typeAssert (.iface 103 (.string s)) 93 100 true).run Try.prog W = .ok (.tuple #[.agg #[], .bool false]) W := by kernel_rfl
theorem as_text_int (s : ByteArray) (W : World) : (Instr.typeAssert (.iface 103 (.string s)) 93 101 true).run Try.prog W = .ok (.tuple #[.int .i64 0, .bool false]) W := by kernel_rfl
theorem as_text_num (s : ByteArray) (W : World) : (Instr.typeAssert (.iface 103 (.string s)) 93 102 true).run Try.prog W = .ok (.tuple #[.int .i64 0, .bool false]) W := by kernel_rfl
theorem as_text_text (s : ByteArray) (W : World) : (Instr.typeAssert (.iface 103 (.string s)) 93 103 true).run Try.prog W = .ok (.tuple #[.string s, .bool true]) W := by kernel_rfl
theorem as_text_bool (s : ByteArray) (W : World) : (Instr.typeAssert (.iface 103 (.string s)) 93 104 true).run Try.prog W = .ok (.tuple #[.bool false, .bool false]) W := by kernel_rfl
theorem as_bool_null (b : Bool) (W : World) : (Instr.typeAssert (.iface 104 (.bool b)) 93 100 true).run Try.prog W = .ok (.tuple #[.agg #[], .bool false]) W := by kernel_rfl
theorem as_bool_int (b : Bool) (W : World) : (Instr.typeAssert (.iface 104 (.bool b)) 93 101 true).run Try.prog W = .ok (.tuple #[.int .i64 0, .bool false]) W := by kernel_rfl
theorem as_bool_num (b : Bool) (W : World) : (Instr.typeAssert (.iface 104 (.bool b)) 93 102 true).run Try.prog W = .ok (.tuple #[.int .i64 0, .bool false]) W := by kernel_rfl
theorem as_bool_text (b : Bool) (W : World) : (Instr.typeAssert (.iface 104 (.bool b)) 93 103 true).run Try.prog W = .ok (.tuple #[.string ⟨#[]⟩, .bool false]) W := by kernel_rfl
theorem as_bool_bool (b : Bool) (W : World) : (Instr.typeAssert (.iface 104 (.bool b)) 93 104 true).run Try.prog W = .ok (.tuple #[.bool b, .bool true]) W := by kernel_rfl

set_option maxHeartbeats 1000000 in
theorem inRange_any (v : V) (w : World) :
    Calls Try.prog 82 #[v.enc] w fun e w' => e = .returned (.bool v.rng) ∧ w' = w := by
  cases v with
  | null =>
    have q_int := as_null_int
    have q_num := as_null_num
    have q_text := as_null_text
    unfold V.enc
    go_enter Try.func82, Try.ntmps82
    go_wp2
    all_goals go_ret
    all_goals (refine ⟨?_, rfl⟩; first | rfl | (simp_all [V.rng] <;> omega))
  | int n =>
    have q_int := as_int_int n
    unfold V.enc
    go_enter Try.func82, Try.ntmps82
    go_wp2
    all_goals go_ret
    all_goals (refine ⟨?_, rfl⟩; first | rfl | (simp_all [V.rng] <;> omega))
  | num n =>
    have q_int := as_num_int n
    have q_num := as_num_num n
    unfold V.enc
    go_enter Try.func82, Try.ntmps82
    go_wp2
    all_goals go_ret
    all_goals (refine ⟨?_, rfl⟩; first | rfl | (simp_all [V.rng] <;> omega))
  | text s =>
    have q_int := as_text_int s
    have q_num := as_text_num s
    have q_text := as_text_text s
    unfold V.enc
    go_enter Try.func82, Try.ntmps82
    go_wp2
    all_goals go_ret
    all_goals (refine ⟨?_, rfl⟩; first | rfl | (simp_all [V.rng] <;> omega))
  | bool b =>
    have q_int := as_bool_int b
    have q_num := as_bool_num b
    have q_text := as_bool_text b
    unfold V.enc
    go_enter Try.func82, Try.ntmps82
    go_wp2
    all_goals go_ret
    all_goals (refine ⟨?_, rfl⟩; first | rfl | (simp_all [V.rng] <;> omega))

set_option maxHeartbeats 1000000 in
theorem valOf_any (v : V) (w : World) :
    Calls Try.prog 83 #[v.enc] w fun e w' => e = .returned (valAgg v.k v.n v.s) ∧ Below w.heap.size w w' := by
  cases v with
  | null =>
    have q_int := as_null_int
    have q_num := as_null_num
    have q_text := as_null_text
    have q_bool := as_null_bool
    have hm : ∀ W : World, (method 223 100 (.agg #[]) "loop.example/g00322/impl.kind").run Try.prog W = .ok (99, .agg #[]) W := fun _ => by kernel_rfl
    have hn : ∀ W : World, (nilAhead 223 100 (.agg #[]) "loop.example/g00322/impl.kind").run Try.prog W = .ok (some false) W := fun _ => by kernel_rfl
    unfold V.enc
    go_enter Try.func83, Try.ntmps83
    go_wp2
    all_goals refine bodyPost_ret (v := valAgg _ _ _) (by simp [results, Try.results83, go_sem, valAgg]; try exact ⟨rfl, rfl, rfl⟩) rfl ⟨rfl, ?_⟩
    all_goals repeat (first | exact Below.refl _ _ | refine Below.alloc ?_ (by simp <;> omega) _ | refine Below.drew ?_)
  | int n =>
    have q_int := as_int_int n
    have hm : ∀ W : World, (method 223 101 (.int .i64 n) "loop.example/g00322/impl.kind").run Try.prog W = .ok (100, .int .i64 n) W := fun _ => by kernel_rfl
    have hn : ∀ W : World, (nilAhead 223 101 (.int .i64 n) "loop.example/g00322/impl.kind").run Try.prog W = .ok (some false) W := fun _ => by kernel_rfl
    unfold V.enc
    go_enter Try.func83, Try.ntmps83
    go_wp2
    all_goals refine bodyPost_ret (v := valAgg _ _ _) (by simp [results, Try.results83, go_sem, valAgg]; try exact ⟨rfl, rfl, rfl⟩) rfl ⟨rfl, ?_⟩
    all_goals repeat (first | exact Below.refl _ _ | refine Below.alloc ?_ (by simp <;> omega) _ | refine Below.drew ?_)
  | num n =>
    have q_int := as_num_int n
    have q_num := as_num_num n
    have hm : ∀ W : World, (method 223 102 (.int .i64 n) "loop.example/g00322/impl.kind").run Try.prog W = .ok (101, .int .i64 n) W := fun _ => by kernel_rfl
    have hn : ∀ W : World, (nilAhead 223 102 (.int .i64 n) "loop.example/g00322/impl.kind").run Try.prog W = .ok (some false) W := fun _ => by kernel_rfl
    unfold V.enc
    go_enter Try.func83, Try.ntmps83
    go_wp2
    all_goals refine bodyPost_ret (v := valAgg _ _ _) (by simp [results, Try.results83, go_sem, valAgg]; try exact ⟨rfl, rfl, rfl⟩) rfl ⟨rfl, ?_⟩
    all_goals repeat (first | exact Below.refl _ _ | refine Below.alloc ?_ (by simp <;> omega) _ | refine Below.drew ?_)
  | text s =>
    have q_int := as_text_int s
    have q_num := as_text_num s
    have q_text := as_text_text s
    have hm : ∀ W : World, (method 223 103 (.string s) "loop.example/g00322/impl.kind").run Try.prog W = .ok (102, .string s) W := fun _ => by kernel_rfl
    have hn : ∀ W : World, (nilAhead 223 103 (.string s) "loop.example/g00322/impl.kind").run Try.prog W = .ok (some false) W := fun _ => by kernel_rfl
    unfold V.enc
    go_enter Try.func83, Try.ntmps83
    go_wp2
    all_goals refine bodyPost_ret (v := valAgg _ _ _) (by simp [results, Try.results83, go_sem, valAgg]; try exact ⟨rfl, rfl, rfl⟩) rfl ⟨rfl, ?_⟩
    all_goals repeat (first | exact Below.refl _ _ | refine Below.alloc ?_ (by simp <;> omega) _ | refine Below.drew ?_)
  | bool b =>
    have q_int := as_bool_int b
    have q_num := as_bool_num b
    have q_text := as_bool_text b
    have q_bool := as_bool_bool b
    have hm : ∀ W : World, (method 223 104 (.bool b) "loop.example/g00322/impl.kind").run Try.prog W = .ok (103, .bool b) W := fun _ => by kernel_rfl
    have hn : ∀ W : World, (nilAhead 223 104 (.bool b) "loop.example/g00322/impl.kind").run Try.prog W = .ok (some false) W := fun _ => by kernel_rfl
    unfold V.enc
    go_enter Try.func83, Try.ntmps83
    cases b <;> go_wp2
    all_goals refine bodyPost_ret (v := valAgg _ _ _) (by simp [results, Try.results83, go_sem, valAgg]; try exact ⟨rfl, rfl, rfl⟩) rfl ⟨rfl, ?_⟩
    all_goals repeat (first | exact Below.refl _ _ | refine Below.alloc ?_ (by simp <;> omega) _ | refine Below.drew ?_)

end Go.Proofs.Ytikopeihkbpjhas

/-
  What the program holds of three fields: the value within, and whether it is sound.
-/
namespace Go.Proofs.Ytikopeihkbpjhas
open Go.RowKit
set_option maxRecDepth 4000

theorem okF_at {k n : Int} {s : ByteArray} {v : V} (h : ofFields k n s = some v) : okF k n s = (v.rng && eqV v.k v.n v.s k n s) := by
  unfold okF
  rw [h]
  rfl

theorem box_cells (w W' : World) (k n : Int) (s : ByteArray) (h : Below (w.heap.size + 1) (w.alloc (.cells #[.int .i64 k, .int .i64 n, .string s] 52)) W') : W'.cell? ⟨w.heap.size, 0, none⟩ = some (.int .i64 k) ∧ W'.cell? ⟨w.heap.size, 1, none⟩ = some (.int .i64 n) ∧ W'.cell? ⟨w.heap.size, 2, none⟩ = some (.string s) := by
  refine ⟨?_, ?_, ?_⟩
  all_goals (rw [h.cell (by simp)]; simp [go_sem])

set_option maxHeartbeats 2000000 in
theorem valueOf_bool_true (n : Int) (s : ByteArray) (hz : (n != 0) = true) (w : World) :
    Calls Try.prog 79 #[.agg #[.int .i64 4, .int .i64 n, .string s]] w fun e w' => e = .returned (.tuple #[V.enc (.bool true), .bool (eqV 4 1 ⟨#[]⟩ 4 n s)]) ∧ Below w.heap.size w w' := by
  have hO : ∀ W, Calls Try.prog 83 #[.iface 104 (.bool true)] W fun e w' => e = .returned (.agg #[.int .i64 4, .int .i64 1, .string ⟨#[]⟩]) ∧ Below W.heap.size W w' := fun W => valOf_any (.bool true) W
  have hbox := fun W' h => box_cells w W' 4 n s h
  have qe := eqVal_run 4 1 ⟨#[]⟩ 4 n s
  have hI : ∀ W, Calls Try.prog 82 #[.iface 104 (.bool true)] W fun e w' => e = .returned (.bool true) ∧ w' = W := fun W => inRange_any (.bool true) W
  go_enter Try.func79, Try.ntmps79
  go_wp2_with (fail)
  go_region_with (first | (go_at_call 82; refine (hI _).mono ?_; rintro e _ ⟨rfl, rfl⟩) | (go_at_call 83; refine (hO _).mono ?_; rintro e w2 ⟨rfl, hB⟩; obtain ⟨hb0, hb1, hb2⟩ := hbox _ (Below.trans (by repeat (first | exact Below.refl _ _ | refine Below.drew ?_)) (hB.mono (by simp)))))
  all_goals go_wp2
  all_goals go_ret2
  all_goals refine ⟨rfl, Below.trans (b := w.alloc _) ((Below.refl _ _).alloc (Nat.le_refl _) _) (Below.trans (by repeat (first | exact Below.refl _ _ | refine Below.drew ?_)) (hB.mono (by simp)))⟩

set_option maxHeartbeats 2000000 in
theorem valueOf_bool_false (s : ByteArray) (w : World) :
    Calls Try.prog 79 #[.agg #[.int .i64 4, .int .i64 0, .string s]] w fun e w' => e = .returned (.tuple #[V.enc (.bool false), .bool (eqV 4 0 ⟨#[]⟩ 4 0 s)]) ∧ Below w.heap.size w w' := by
  have hO : ∀ W, Calls Try.prog 83 #[.iface 104 (.bool false)] W fun e w' => e = .returned (.agg #[.int .i64 4, .int .i64 0, .string ⟨#[]⟩]) ∧ Below W.heap.size W w' := fun W => valOf_any (.bool false) W
  have hbox := fun W' h => box_cells w W' 4 0 s h
  have qe := eqVal_run 4 0 ⟨#[]⟩ 4 0 s
  have hI : ∀ W, Calls Try.prog 82 #[.iface 104 (.bool false)] W fun e w' => e = .returned (.bool true) ∧ w' = W := fun W => inRange_any (.bool false) W
  go_enter Try.func79, Try.ntmps79
  go_wp2_with (fail)
  go_region_with (first | (go_at_call 82; refine (hI _).mono ?_; rintro e _ ⟨rfl, rfl⟩) | (go_at_call 83; refine (hO _).mono ?_; rintro e w2 ⟨rfl, hB⟩; obtain ⟨hb0, hb1, hb2⟩ := hbox _ (Below.trans (by repeat (first | exact Below.refl _ _ | refine Below.drew ?_)) (hB.mono (by simp)))))
  all_goals go_wp2
  all_goals go_ret2
  all_goals refine ⟨rfl, Below.trans (b := w.alloc _) ((Below.refl _ _).alloc (Nat.le_refl _) _) (Below.trans (by repeat (first | exact Below.refl _ _ | refine Below.drew ?_)) (hB.mono (by simp)))⟩

set_option maxHeartbeats 2000000 in
theorem valueOf_null (n : Int) (s : ByteArray) (w : World) :
    Calls Try.prog 79 #[.agg #[.int .i64 0, .int .i64 n, .string s]] w fun e w' => e = .returned (.tuple #[V.enc .null, .bool (V.rng .null && eqV 0 0 ⟨#[]⟩ 0 n s)]) ∧ Below w.heap.size w w' := by
  have hO : ∀ W, Calls Try.prog 83 #[.iface 100 (.agg #[])] W fun e w' => e = .returned (.agg #[.int .i64 0, .int .i64 0, .string ⟨#[]⟩]) ∧ Below W.heap.size W w' := fun W => valOf_any .null W
  have hbox := fun W' h => box_cells w W' 0 n s h
  have qe := eqVal_run 0 0 ⟨#[]⟩ 0 n s
  have hI : ∀ W, Calls Try.prog 82 #[.iface 100 (.agg #[])] W fun e w' => e = .returned (.bool true) ∧ w' = W := fun W => by have := inRange_any .null W; exact this
  go_enter Try.func79, Try.ntmps79
  go_wp2_with (fail)
  go_region_with (first | (go_at_call 82; refine (hI _).mono ?_; rintro e _ ⟨rfl, rfl⟩) | (go_at_call 83; refine (hO _).mono ?_; rintro e w2 ⟨rfl, hB⟩; obtain ⟨hb0, hb1, hb2⟩ := hbox _ (Below.trans (by repeat (first | exact Below.refl _ _ | refine Below.drew ?_)) (hB.mono (by simp)))))
  all_goals go_wp2
  all_goals go_ret2
  all_goals refine ⟨rfl, Below.trans (b := w.alloc _) ((Below.refl _ _).alloc (Nat.le_refl _) _) (Below.trans (by repeat (first | exact Below.refl _ _ | refine Below.drew ?_)) (hB.mono (by simp)))⟩

set_option maxHeartbeats 2000000 in
theorem valueOf_int (n : Int) (s : ByteArray) (w : World) :
    Calls Try.prog 79 #[.agg #[.int .i64 1, .int .i64 n, .string s]] w fun e w' => e = .returned (.tuple #[V.enc (.int n), .bool (V.rng (.int n) && eqV 1 n ⟨#[]⟩ 1 n s)]) ∧ Below w.heap.size w w' := by
  have hO : ∀ W, Calls Try.prog 83 #[.iface 101 (.int .i64 n)] W fun e w' => e = .returned (.agg #[.int .i64 1, .int .i64 n, .string ⟨#[]⟩]) ∧ Below W.heap.size W w' := fun W => valOf_any (.int n) W
  have hbox := fun W' h => box_cells w W' 1 n s h
  have qe := eqVal_run 1 n ⟨#[]⟩ 1 n s
  cases hr : V.rng (.int n)
  case true =>
    have hI : ∀ W, Calls Try.prog 82 #[.iface 101 (.int .i64 n)] W fun e w' => e = .returned (.bool true) ∧ w' = W := fun W => by have := inRange_any (.int n) W; rw [hr] at this; exact this
    clear hr
    go_enter Try.func79, Try.ntmps79
    go_wp2_with (fail)
    go_region_with (first | (go_at_call 82; refine (hI _).mono ?_; rintro e _ ⟨rfl, rfl⟩) | (go_at_call 83; refine (hO _).mono ?_; rintro e w2 ⟨rfl, hB⟩; obtain ⟨hb0, hb1, hb2⟩ := hbox _ (Below.trans (by repeat (first | exact Below.refl _ _ | refine Below.drew ?_)) (hB.mono (by simp)))))
    all_goals go_wp2
    all_goals go_ret2
    all_goals refine ⟨rfl, Below.trans (b := w.alloc _) ((Below.refl _ _).alloc (Nat.le_refl _) _) (Below.trans (by repeat (first | exact Below.refl _ _ | refine Below.drew ?_)) (hB.mono (by simp)))⟩
  case false =>
    have hI : ∀ W, Calls Try.prog 82 #[.iface 101 (.int .i64 n)] W fun e w' => e = .returned (.bool false) ∧ w' = W := fun W => by have := inRange_any (.int n) W; rw [hr] at this; exact this
    clear hr
    go_enter Try.func79, Try.ntmps79
    go_wp2_with (fail)
    go_quiet (first | (go_at_call 82; exact Calls.quiet_of_same (hI _)))
    all_goals go_wp2
    all_goals go_ret2
    all_goals refine ⟨rfl, ?_⟩
    exact Below.trans ((Below.refl _ _).alloc (Nat.le_refl _) _) ⟨rfl, rfl, rfl, Nat.le_refl _, fun _ _ => rfl⟩

set_option maxHeartbeats 2000000 in
theorem valueOf_num (n : Int) (s : ByteArray) (w : World) :
    Calls Try.prog 79 #[.agg #[.int .i64 2, .int .i64 n, .string s]] w fun e w' => e = .returned (.tuple #[V.enc (.num n), .bool (V.rng (.num n) && eqV 2 n ⟨#[]⟩ 2 n s)]) ∧ Below w.heap.size w w' := by
  have hO : ∀ W, Calls Try.prog 83 #[.iface 102 (.int .i64 n)] W fun e w' => e = .returned (.agg #[.int .i64 2, .int .i64 n, .string ⟨#[]⟩]) ∧ Below W.heap.size W w' := fun W => valOf_any (.num n) W
  have hbox := fun W' h => box_cells w W' 2 n s h
  have qe := eqVal_run 2 n ⟨#[]⟩ 2 n s
  cases hr : V.rng (.num n)
  case true =>
    have hI : ∀ W, Calls Try.prog 82 #[.iface 102 (.int .i64 n)] W fun e w' => e = .returned (.bool true) ∧ w' = W := fun W => by have := inRange_any (.num n) W; rw [hr] at this; exact this
    clear hr
    go_enter Try.func79, Try.ntmps79
    go_wp2_with (fail)
    go_region_with (first | (go_at_call 82; refine (hI _).mono ?_; rintro e _ ⟨rfl, rfl⟩) | (go_at_call 83; refine (hO _).mono ?_; rintro e w2 ⟨rfl, hB⟩; obtain ⟨hb0, hb1, hb2⟩ := hbox _ (Below.trans (by repeat (first | exact Below.refl _ _ | refine Below.drew ?_)) (hB.mono (by simp)))))
    all_goals go_wp2
    all_goals go_ret2
    all_goals refine ⟨rfl, Below.trans (b := w.alloc _) ((Below.refl _ _).alloc (Nat.le_refl _) _) (Below.trans (by repeat (first | exact Below.refl _ _ | refine Below.drew ?_)) (hB.mono (by simp)))⟩
  case false =>
    have hI : ∀ W, Calls Try.prog 82 #[.iface 102 (.int .i64 n)] W fun e w' => e = .returned (.bool false) ∧ w' = W := fun W => by have := inRange_any (.num n) W; rw [hr] at this; exact this
    clear hr
    go_enter Try.func79, Try.ntmps79
    go_wp2_with (fail)
    go_quiet (first | (go_at_call 82; exact Calls.quiet_of_same (hI _)))
    all_goals go_wp2
    all_goals go_ret2
    all_goals refine ⟨rfl, ?_⟩
    exact Below.trans ((Below.refl _ _).alloc (Nat.le_refl _) _) ⟨rfl, rfl, rfl, Nat.le_refl _, fun _ _ => rfl⟩

set_option maxHeartbeats 2000000 in
theorem valueOf_text (n : Int) (s : ByteArray) (w : World) :
    Calls Try.prog 79 #[.agg #[.int .i64 3, .int .i64 n, .string s]] w fun e w' => e = .returned (.tuple #[V.enc (.text s), .bool (V.rng (.text s) && eqV 3 0 s 3 n s)]) ∧ Below w.heap.size w w' := by
  have hO : ∀ W, Calls Try.prog 83 #[.iface 103 (.string s)] W fun e w' => e = .returned (.agg #[.int .i64 3, .int .i64 0, .string s]) ∧ Below W.heap.size W w' := fun W => valOf_any (.text s) W
  have hbox := fun W' h => box_cells w W' 3 n s h
  have qe := eqVal_run 3 0 s 3 n s
  cases hr : V.rng (.text s)
  case true =>
    have hI : ∀ W, Calls Try.prog 82 #[.iface 103 (.string s)] W fun e w' => e = .returned (.bool true) ∧ w' = W := fun W => by have := inRange_any (.text s) W; rw [hr] at this; exact this
    clear hr
    go_enter Try.func79, Try.ntmps79
    go_wp2_with (fail)
    go_region_with (first | (go_at_call 82; refine (hI _).mono ?_; rintro e _ ⟨rfl, rfl⟩) | (go_at_call 83; refine (hO _).mono ?_; rintro e w2 ⟨rfl, hB⟩; obtain ⟨hb0, hb1, hb2⟩ := hbox _ (Below.trans (by repeat (first | exact Below.refl _ _ | refine Below.drew ?_)) (hB.mono (by simp)))))
    all_goals go_wp2
    all_goals go_ret2
    all_goals refine ⟨rfl, Below.trans (b := w.alloc _) ((Below.refl _ _).alloc (Nat.le_refl _) _) (Below.trans (by repeat (first | exact Below.refl _ _ | refine Below.drew ?_)) (hB.mono (by simp)))⟩
  case false =>
    have hI : ∀ W, Calls Try.prog 82 #[.iface 103 (.string s)] W fun e w' => e = .returned (.bool false) ∧ w' = W := fun W => by have := inRange_any (.text s) W; rw [hr] at this; exact this
    clear hr
    go_enter Try.func79, Try.ntmps79
    go_wp2_with (fail)
    go_quiet (first | (go_at_call 82; exact Calls.quiet_of_same (hI _)))
    all_goals go_wp2
    all_goals go_ret2
    all_goals refine ⟨rfl, ?_⟩
    exact Below.trans ((Below.refl _ _).alloc (Nat.le_refl _) _) ⟨rfl, rfl, rfl, Nat.le_refl _, fun _ _ => rfl⟩

def vOpt : Option V → Value
  | none => .nilIface
  | some v => v.enc

set_option maxHeartbeats 2000000 in
theorem valueOf_any (k n : Int) (s : ByteArray) (w : World) :
    Calls Try.prog 79 #[valAgg k n s] w fun e w' => e = .returned (.tuple #[vOpt (ofFields k n s), .bool (okF k n s)]) ∧ Below w.heap.size w w' := by
  unfold valAgg
  by_cases k0 : k = 0
  · subst k0
    have e : ofFields 0 n s = some .null := rfl
    rw [okF_at e, e]
    exact valueOf_null n s w
  by_cases k1 : k = 1
  · subst k1
    have e : ofFields 1 n s = some (.int n) := rfl
    rw [okF_at e, e]
    exact valueOf_int n s w
  by_cases k2 : k = 2
  · subst k2
    have e : ofFields 2 n s = some (.num n) := rfl
    rw [okF_at e, e]
    exact valueOf_num n s w
  by_cases k3 : k = 3
  · subst k3
    have e : ofFields 3 n s = some (.text s) := rfl
    rw [okF_at e, e]
    exact valueOf_text n s w
  by_cases k4 : k = 4
  · subst k4
    have e : ofFields 4 n s = some (.bool (n != 0)) := rfl
    rw [okF_at e, e]
    by_cases hz : n = 0
    · subst hz
      exact valueOf_bool_false s w
    · have hz : (n != 0) = true := by simpa using hz
      rw [hz]
      exact valueOf_bool_true n s hz w
  have e : ofFields k n s = none := by simp [ofFields, k0, k1, k2, k3, k4]
  have e2 : okF k n s = false := by unfold okF; rw [e]
  rw [e2, e]
  have q0 : (k == 0) = false := by simpa using k0
  have q1 : (k == 1) = false := by simpa using k1
  have q2 : (k == 2) = false := by simpa using k2
  have q3 : (k == 3) = false := by simpa using k3
  have q4 : (k == 4) = false := by simpa using k4
  clear e e2 k0 k1 k2 k3 k4
  go_enter Try.func79, Try.ntmps79
  go_wp2
  go_ret2
  refine ⟨rfl, ?_⟩
  repeat (first | exact Below.refl _ _ | refine Below.alloc ?_ (by simp <;> omega) _ | refine Below.drew ?_)
end Go.Proofs.Ytikopeihkbpjhas

/-
  The program's ValOk comes to the plain one.
-/
namespace Go.Proofs.Ytikopeihkbpjhas
open Go.RowKit
set_option maxRecDepth 4000

set_option maxHeartbeats 1000000 in
theorem valOk_any (k n : Int) (s : ByteArray) (w : World) :
    Calls Try.prog 71 #[.agg #[.int .i64 k, .int .i64 n, .string s]] w fun e w' => e = .returned (.bool (okF k n s)) ∧ Below w.heap.size w w' := by
  go_enter Try.func71, Try.ntmps71
  go_wp2_with fail
  refine (valueOf_any k n s _).mono ?_
  rintro e w1 ⟨rfl, hB⟩
  go_wp2
  go_ret
  exact ⟨rfl, ((Below.refl _ _).alloc (Nat.le_refl _) _).trans (hB.mono (by simp))⟩

end Go.Proofs.Ytikopeihkbpjhas

/-
  The program's PartOk and Fits. (Nothing fits a part of no type, even where it may not be nothing: as the program has it.)
-/
namespace Go.Proofs.Ytikopeihkbpjhas
open Go.RowKit
set_option maxRecDepth 4000

set_option maxHeartbeats 1000000 in
theorem implPartOk_any (c t : Int) (nul d : Bool) (w : World) :
    Calls Try.prog 51 #[.agg #[.int .i64 c, .int .i64 t, .bool nul, .bool d]] w fun e w' => e = .returned (.bool (partOk c t)) ∧ Below w.heap.size w w' := by
  have hb0 : ∀ o, Below w.heap.size w (w.alloc o) := fun o => (Below.refl _ _).alloc (Nat.le_refl _) _
  by_cases h1 : 0 ≤ c
  · by_cases h2 : c ≤ 9
    · by_cases h3 : 1 ≤ t
      · by_cases h4 : t ≤ 4
        · have e : partOk c t = true := by unfold partOk; simp [h1, h2, h3, h4]
          rw [e]
          go_enter Try.func51, Try.ntmps51
          go_wp2
          go_ret
          exact ⟨rfl, hb0 _⟩
        · have e : partOk c t = false := by unfold partOk; simp [h1, h2, h3, h4]
          rw [e]
          go_enter Try.func51, Try.ntmps51
          go_wp2
          go_ret
          exact ⟨rfl, hb0 _⟩
      · have e : partOk c t = false := by unfold partOk; simp [h1, h2, h3]
        rw [e]
        go_enter Try.func51, Try.ntmps51
        go_wp2
        go_ret
        exact ⟨rfl, hb0 _⟩
    · have e : partOk c t = false := by unfold partOk; simp [h1, h2]
      rw [e]
      go_enter Try.func51, Try.ntmps51
      go_wp2
      go_ret
      exact ⟨rfl, hb0 _⟩
  · have e : partOk c t = false := by unfold partOk; simp [h1]
    rw [e]
    go_enter Try.func51, Try.ntmps51
    go_wp2
    go_ret
    exact ⟨rfl, hb0 _⟩

/-- What fits, as the program has it. -/
def fitsI (t : Int) (nul : Bool) (k n : Int) (s : ByteArray) : Bool := okF k n s && (decide (k = t) || (decide (k = 0) && nul))
theorem fitsI_ok {t : Int} {nul : Bool} {k n : Int} {s : ByteArray} (ht : 1 ≤ t) : fitsI t nul k n s = fitsP t nul k n s := by
  unfold fitsI fitsP
  by_cases hk : k = t
  · simp [hk, show t ≠ 0 by omega]
  · simp [hk]

set_option maxHeartbeats 1000000 in
theorem implFits_any (c t : Int) (nul d : Bool) (k n : Int) (s : ByteArray) (w : World) :
    Calls Try.prog 53 #[.agg #[.int .i64 c, .int .i64 t, .bool nul, .bool d], .agg #[.int .i64 k, .int .i64 n, .string s]] w fun e w' => e = .returned (.bool (fitsI t nul k n s)) ∧ Below w.heap.size w w' := by
  have hP := (PBox.new w c t nul d).below ((Below.refl _ _).alloc (Nat.le_refl _) (.cells #[.int .i64 k, .int .i64 n, .string s] 52))
  have hV := Box.new (w.alloc (.cells #[.int .i64 c, .int .i64 t, .bool nul, .bool d] 49)) k n s
  rw [show (w.alloc (.cells #[.int .i64 c, .int .i64 t, .bool nul, .bool d] 49)).heap.size = w.heap.size + 1 by simp] at hV
  have hb0 : Below w.heap.size w ((w.alloc (.cells #[.int .i64 c, .int .i64 t, .bool nul, .bool d] 49)).alloc (.cells #[.int .i64 k, .int .i64 n, .string s] 52)) := ((Below.refl _ _).alloc (Nat.le_refl _) _).alloc (by simp) _
  cases ho : okF k n s with
  | false =>
    have hr : fitsI t nul k n s = false := by unfold fitsI; rw [ho]; rfl
    rw [hr]
    clear hr
    go_enter Try.func53, Try.ntmps53
    go_wp2_with fail
    refine (valOk_any k n s _).mono ?_
    rw [ho]
    rintro e w1 ⟨rfl, hb1⟩
    have hB : Below w.heap.size w w1 := hb0.trans (hb1.mono hb0.size)
    clear hP hV hb0 hb1 ho
    go_wp2
    go_ret
    exact ⟨rfl, hB⟩
  | true =>
    by_cases kt : k = t
    · subst kt
      have hr : fitsI k nul k n s = true := by unfold fitsI; rw [ho]; simp
      rw [hr]
      have q4 : (k == k) = true := by simp
      clear hr
      go_enter Try.func53, Try.ntmps53
      go_wp2_with fail
      refine (valOk_any k n s _).mono ?_
      rw [ho]
      rintro e w1 ⟨rfl, hb1⟩
      obtain ⟨p0, p1, p2, p3⟩ := (hP.below hb1).cells
      obtain ⟨v0, v1, v2⟩ := (hV.below hb1).cells
      have hB : Below w.heap.size w w1 := hb0.trans (hb1.mono hb0.size)
      clear hP hV hb0 hb1 ho
      go_wp2
      go_ret
      exact ⟨rfl, hB⟩
    · have q4 : (k == t) = false := by simpa using kt
      by_cases k0 : k = 0
      · have hr : fitsI t nul k n s = nul := by unfold fitsI; rw [ho]; simp [k0, show ¬ (0 : Int) = t by omega]
        rw [hr]
        have q2 : (k == 0) = true := by simpa using k0
        clear hr k0 kt
        go_enter Try.func53, Try.ntmps53
        go_wp2_with fail
        refine (valOk_any k n s _).mono ?_
        rw [ho]
        rintro e w1 ⟨rfl, hb1⟩
        obtain ⟨p0, p1, p2, p3⟩ := (hP.below hb1).cells
        obtain ⟨v0, v1, v2⟩ := (hV.below hb1).cells
        have hB : Below w.heap.size w w1 := hb0.trans (hb1.mono hb0.size)
        clear hP hV hb0 hb1 ho
        go_wp2
        go_ret
        exact ⟨rfl, hB⟩
      · have hr : fitsI t nul k n s = false := by unfold fitsI; rw [ho]; simp [kt, k0]
        rw [hr]
        have q2 : (k == 0) = false := by simpa using k0
        clear hr k0 kt
        go_enter Try.func53, Try.ntmps53
        go_wp2_with fail
        refine (valOk_any k n s _).mono ?_
        rw [ho]
        rintro e w1 ⟨rfl, hb1⟩
        obtain ⟨p0, p1, p2, p3⟩ := (hP.below hb1).cells
        obtain ⟨v0, v1, v2⟩ := (hV.below hb1).cells
        have hB : Below w.heap.size w w1 := hb0.trans (hb1.mono hb0.size)
        clear hP hV hb0 hb1 ho
        go_wp2
        go_ret
        exact ⟨rfl, hB⟩
end Go.Proofs.Ytikopeihkbpjhas

/-
  The program's PlanOk comes to the plain one.
-/
namespace Go.Proofs.Ytikopeihkbpjhas
open Go.RowKit
set_option maxRecDepth 4000

set_option maxHeartbeats 2000000 in
theorem implPlanOk_any (a : Option Addr) (n cap : Nat) (fc ft : Nat → Int) (fu fd : Nat → Bool) (w : World) (h : PView w a n cap fc ft fu fd) :
    Calls Try.prog 30 #[.slice a n cap] w fun e w' => e = .returned (.bool (planOk n fc ft)) ∧ Below w.heap.size w w' := by
  by_cases h6 : n ≤ 6
  · have h6z : ¬ (n : Int) > 6 := by omega
    have h6y : (n : Int) ≤ 6 := by omega
    go_enter Try.func30, Try.ntmps30
    go_wp2
    go_loopg [10] n (fun q i wr => ∃ k : Nat, k ≤ n ∧ q = n - k ∧ i = .int .i64 k ∧ Below w.heap.size w wr ∧ ∀ j, j < k → partOk (fc j) (ft j) = true)
    case atStart => exact ⟨0, Nat.zero_le _, rfl, rfl, Below.refl _ _, fun j hj => absurd hj (Nat.not_lt_zero _)⟩
    case round =>
      obtain ⟨k, hk, rfl, rfl, hB, hall⟩ := hrel
      have HA : Hid (∀ j, j < k → partOk (fc j) (ft j) = true) := hall
      clear hall
      by_cases hlt : k < n
      · obtain ⟨b1, o1, rfl, hb1, hd1⟩ := (h.below hB).cells (by omega)
        obtain ⟨x0, x1, x2, x3⟩ := hd1 k hlt
        have hkz : (k : Int) < (n : Int) := by omega
        clear hd1 h
        go_wp2_with fail
        clear x0 x1 x2 x3
        refine (implPartOk_any (fc k) (ft k) (fu k) (fd k) _).mono ?_
        cases ho : partOk (fc k) (ft k) with
        | true =>
          rintro e w2 ⟨rfl, hB2⟩
          have hB3 : Hid (Below w.heap.size w w2) := (hB.alloc hB.size _).trans (hB2.mono (by have := hB.size; simp; omega))
          clear hB2
          have HN : Hid (∀ j, j < k + 1 → partOk (fc j) (ft j) = true) := by
            intro j hj
            by_cases e : j < k
            · exact HA.out j e
            · obtain rfl : j = k := by omega
              exact ho
          clear ho HA
          go_wp2
          go_roundg (n - (k + 1))
          case measure => omega
          case rel => exact ⟨k + 1, by omega, rfl, by go_num, hB3.out, HN.out⟩
        | false =>
          rintro e w2 ⟨rfl, hB2⟩
          have hB3 : Hid (Below w.heap.size w w2) := (hB.alloc hB.size _).trans (hB2.mono (by have := hB.size; simp; omega))
          have HF : Hid (planOk n fc ft = false) := by show _ = _; unfold planOk; rw [allUpto_no hlt ho]; rfl
          clear hB2 ho HA
          go_wp2
          go_ret
          exact ⟨by rw [HF.out]; rfl, hB3.out⟩
      · have hkz : ¬ (k : Int) < (n : Int) := by omega
        have HF : Hid (planOk n fc ft = true) := planOk_iff.2 ⟨fun i hi => HA.out i (by omega), h6⟩
        clear HA
        go_wp2
        go_ret
        exact ⟨by rw [HF.out]; rfl, hB⟩
  · have h6z : (n : Int) > 6 := by omega
    have HF : Hid (planOk n fc ft = false) := by show _ = _; unfold planOk; simp [h6]
    go_enter Try.func30, Try.ntmps30
    go_wp2
    go_ret
    exact ⟨by rw [HF.out]; rfl, Below.refl _ _⟩
end Go.Proofs.Ytikopeihkbpjhas

/-
  What a round of a loop over an iterator keeps: all that lay at the start of the call, and the two boxes that the iterator holds.
-/
namespace Go.Proofs.Ytikopeihkbpjhas
open Go.RowKit
set_option maxRecDepth 4000

/-- What a round that goes on keeps. -/
structure KpB (n₀ Bl Bv : Nat) (W W' : World) : Prop where
  below : Below n₀ W W'
  bl : W'.heap[Bl]? = W.heap[Bl]?
  bv : W'.heap[Bv]? = W.heap[Bv]?
theorem KpB.refl (n₀ Bl Bv : Nat) (W : World) : KpB n₀ Bl Bv W W := ⟨Below.refl _ _, rfl, rfl⟩
theorem KpB.trans {n₀ Bl Bv : Nat} {A B C : World} (h : KpB n₀ Bl Bv A B) (k : KpB n₀ Bl Bv B C) : KpB n₀ Bl Bv A C := ⟨h.below.trans k.below, k.bl.trans h.bl, k.bv.trans h.bv⟩
/-- Whatever leaves all that lay as it lay. -/
theorem KpB.ofBelow {n₀ Bl Bv : Nat} {W W' : World} (h : Below W.heap.size W W') (hn : n₀ ≤ W.heap.size) (hl : Bl < W.heap.size) (hv : Bv < W.heap.size) : KpB n₀ Bl Bv W W' := ⟨h.mono hn, h.block Bl hl, h.block Bv hv⟩
/-- A step that turns one block. -/
theorem KpB.ofGrown {n₀ Bl Bv : Nat} {W W' : World} {row : Option Nat} (hg : W.grownBy W' row) (hn : n₀ ≤ W.heap.size) (hl : Bl < W.heap.size) (hv : Bv < W.heap.size) (hr : ∀ k, row = some k → n₀ ≤ k ∧ k ≠ Bl ∧ k ≠ Bv) : KpB n₀ Bl Bv W W' :=
  ⟨⟨hg.os, hg.tape, hg.output, hg.size, fun k hk => hg.block k (by omega) (fun e => by have := (hr k e.symm).1; omega)⟩, hg.block Bl hl (fun e => (hr Bl e.symm).2.1 rfl), hg.block Bv hv (fun e => (hr Bv e.symm).2.2 rfl)⟩
theorem KpB.put {n₀ Bl Bv : Nat} {w : World} (hn : n₀ ≤ w.heap.size) (hl : Bl < w.heap.size) (hv : Bv < w.heap.size) (W : World) (l : Nat) (o o' : Obj) (hle : w.heap.size ≤ l) (h : W.heap[l]? = some o) (h1 : o.isCells = false) (h2 : o.isWalk = false) : KpB n₀ Bl Bv W (W.putObj l o') :=
  ⟨belowK_b hn W l o o' hle h h1 h2, World.putObj_heap_other (by omega), World.putObj_heap_other (by omega)⟩
theorem Boxed.kpl {n₀ Bl Bv : Nat} {W W' : World} {t : TypeId} {v : Value} (h : Boxed W Bl t v) (k : KpB n₀ Bl Bv W W') : Boxed W' Bl t v := k.bl.trans h
theorem Boxed.kpv {n₀ Bl Bv : Nat} {W W' : World} {t : TypeId} {v : Value} (h : Boxed W Bv t v) (k : KpB n₀ Bl Bv W W') : Boxed W' Bv t v := k.bv.trans h
theorem Boxed.below' {W W' : World} {B : Nat} {t : TypeId} {v : Value} (h : Boxed W B t v) (k : Below W.heap.size W W') : Boxed W' B t v := (k.block B h.lt).trans h
theorem grownBy_drew' (W : World) : W.grownBy W.drew none := ⟨rfl, rfl, rfl, Nat.le_refl _, fun _ _ _ => rfl⟩
theorem grownBy_below' {W W' : World} (h : Below W.heap.size W W') : W.grownBy W' none := ⟨h.os, h.tape, h.output, h.size, fun k hk _ => h.block k hk⟩
theorem AbidesFrom.step {β : Type} {B : Nat} {J : β → World → Prop} (h : AbidesFrom B J) {s : β} {W W' : World} (hs : J s W) (hg : W.grownBy W' none) : J s W' := h s W W' none hs hg (fun _ e => by cases e)
/-- 'KeepsFrom' of whatever leaves all that lay as it lay. -/
theorem KeepsFrom.ofBelow {B : Nat} {W W' : World} (h : Below W.heap.size W W') : KeepsFrom B W W' := ⟨h.size, fun k _ _ hk _ => (h.block k (Array.getElem?_eq_some_iff.1 hk).1).trans hk⟩
/-- 'KpB .. w₀ ·' abides what the loop itself turns. -/
theorem ownFrom_kpB {β : Type} {n₀ Bl Bv B' : Nat} {w₀ : World} (hn : n₀ ≤ B') (hl : Bl < B') (hv : Bv < B') (hB : B' ≤ w₀.heap.size) : OwnFrom B' (fun (_ : β) W => KpB n₀ Bl Bv w₀ W) :=
  fun _ X Y row hs hg hr => by
    have hs0 := hs.below.size
    refine ⟨hs.below.trans ⟨hg.os, hg.tape, hg.output, hg.size, fun k hk => hg.block k (by omega) (fun e => by have := (hr k e.symm).1; omega)⟩, ?_, ?_⟩
    · exact (hg.block Bl (by omega) (fun e => by have := (hr Bl e.symm).1; omega)).trans hs.bl
    · exact (hg.block Bv (by omega) (fun e => by have := (hr Bv e.symm).1; omega)).trans hs.bv

/-- The first j of the indices. -/
theorem fin_take {k j : Nat} (h : j < k) : (List.finRange k).take (j + 1) = (List.finRange k).take j ++ [⟨j, h⟩] := by
  rw [List.take_add_one, List.getElem?_eq_getElem (by simpa using h)]
  simp
theorem fin_len {k j : Nat} (h : j ≤ k) : ((List.finRange k).take j).length = j := by simp [h]
end Go.Proofs.Ytikopeihkbpjhas

/-
  The program's valsByPart: each value beside its part.
-/
namespace Go.Proofs.Ytikopeihkbpjhas
open Go.RowKit
set_option maxRecDepth 4000

attribute [local go_sem] Oper.semAt_some

abbrev encP (fc ft : Nat → Int) (fu fd : Nat → Bool) (i : Nat) : Value := .agg #[.int .i64 (fc i), .int .i64 (ft i), .bool (fu i), .bool (fd i)]
abbrev encV (fk fn : Nat → Int) (fs : Nat → ByteArray) (i : Nat) : Value := .agg #[.int .i64 (fk i), .int .i64 (fn i), .string (fs i)]

set_option linter.unusedSimpArgs false in
set_option maxRecDepth 100000 in
set_option maxHeartbeats 4000000 in
theorem byPart1_in (N : Nat) (hN : 1 ≤ N) (l Bl Bv : Nat) (a : Option Addr) (n cap : Nat) (fc ft : Nat → Int) (fu fd : Nat → Bool) (a2 : Option Addr) (m c2 : Nat) (fk fn : Nat → Int) (fs : Nat → ByteArray) (w : World) (hp : PView w a n cap fc ft fu fd) (hq : VView w a2 m c2 fk fn fs) (hn : n ≤ 281474976710656) (hm : m ≤ 281474976710656)
    (K : Nat) (hK : K = min n m) (J Jx : List (Fin K) → World → Prop) (W : World) (hJ : AbidesFrom W.heap.size J)
    (hY : ∀ pre x W1, J pre W1 → pre.length < K → YieldAt Fence.wide (N - 1) Try.prog l #[encP fc ft fu fd x.1, encV fk fn fs x.1] W1 fun e W' =>
      (e = .returned (.bool true) ∧ J (pre ++ [x]) W' ∧ KpB w.heap.size Bl Bv W1 W') ∨ (e = .returned (.bool false) ∧ Jx (pre ++ [x]) W'))
    (hb : Below w.heap.size w W) (hl : Boxed W Bl 27 (.slice a n cap)) (hv : Boxed W Bv 29 (.slice a2 m c2)) (h0 : J [] W) :
    CallsIn Fence.wide N Try.prog 70 #[.func (.yield l) #[] #[], .pointer (some ⟨Bl, 0, none⟩), .pointer (some ⟨Bv, 0, none⟩)] W fun e W' => (∃ v, e = .returned v) ∧
      ((∃ xs, xs = List.finRange K ∧ J xs W') ∨ (∃ pre, pre <+: List.finRange K ∧ Jx pre W')) := by
  refine callsIn_of_wp Try.func70 rfl trivial ?_ rfl
  simp only [Try.ntmps70, List.size_toArray, List.length_cons, List.length_nil, Nat.reduceAdd, Nat.reduceSub, Array.replicate_succ, Array.replicate_zero, List.push_toArray, List.append_toArray, List.nil_append, List.cons_append]
  have cl := hl.cell
  have cv := hv.cell
  rcases Nat.lt_or_ge m n with hmn | hmn
  · have hminz : (m : Int) < (n : Int) := by omega
    gi_wp2
    have hKm : m = K := by omega
    have hnK : n ≥ K := by omega
    clear hK
    subst hKm
    gi_loopw [10] (fun i wr => ∃ j : Nat, j ≤ m ∧ i = .int .i64 j ∧ J ((List.finRange m).take j) wr ∧ KpB w.heap.size Bl Bv W wr) (fun i _ => m - (intOf i).toNat)
    case atStart => exact ⟨0, Nat.zero_le _, rfl, h0, KpB.refl _ _ _ _⟩
    case round =>
      obtain ⟨j, hj, rfl, hJs, hk⟩ := hrel
      by_cases hlt : j < m
      · have hbw : Below w.heap.size w wr := hb.trans hk.below
        obtain ⟨b1, o1, rfl, hb1, hd1⟩ := (hp.below hbw).cells (by omega)
        obtain ⟨b2, o2, rfl, hb2, hd2⟩ := (hq.below hbw).cells (by omega)
        obtain ⟨x0, x1, x2, x3⟩ := hd1 j (by omega)
        obtain ⟨y0, y1, y2⟩ := hd2 j (by omega)
        have cl' := (Boxed.kpl hl hk).cell
        have cv' := (Boxed.kpv hv hk).cell
        have hjz : (j : Int) < (m : Int) := by omega
        have hjn : (j : Int) < (n : Int) := by omega
        obtain ⟨fn', tmps, assign, body, hy, hR⟩ := hY _ ⟨j, hlt⟩ wr.drew (AbidesFrom.step hJ hJs (grownBy_drew' _)) (by rw [fin_len hj]; exact hlt)
        dsimp only at hy
        clear hd1 hd2 cl cv
        gi_wp2
        have hmx : Try.prog.follows .mixedOrders = true := by kernel_rfl
        replace hR := hR.mono (R' := fun e W' => ∃ o, e = .returned (.bool o) ∧ Hid ((o = true ∧ J ((List.finRange m).take (j + 1)) W' ∧ KpB w.heap.size Bl Bv wr W') ∨ (o = false ∧ Jx ((List.finRange m).take (j + 1)) W'))) (by
          rw [fin_take hlt]
          rintro e W' (⟨rfl, h1, h2⟩ | ⟨rfl, h1⟩)
          · exact ⟨true, rfl, .inl ⟨rfl, h1, (KpB.ofBelow (Below.refl _ _).drew (by have := hbw.size; exact this) (Boxed.kpl hl hk).lt (Boxed.kpv hv hk).lt).trans h2⟩⟩
          · exact ⟨false, rfl, .inr ⟨rfl, h1⟩⟩)
        gi_region_with_o (refine hR.mono ?_; rintro e W3 ⟨o, rfl, ho⟩)
        all_goals
          clear x0 x1 x2 x3 y0 y1 y2 cl' cv' hy hR
          rcases ho.out with ⟨rfl, hJ3, hk3⟩ | ⟨rfl, hJx3⟩
          · gi_wp2
            go_roundw
            case rel => exact ⟨j + 1, by omega, by go_num, hJ3, hk.trans hk3⟩
            case measure => simp [intOf]; omega
          · gi_wp2
            refine bodyPost_ret (results_none rfl _ _ _) rfl ?_
            exact ⟨⟨_, rfl⟩, .inr ⟨_, List.take_prefix _ _, hJx3⟩⟩
      · have hjz : ¬ (j : Int) < (m : Int) := by omega
        have hjK : j = m := by omega
        have hJe : Hid (J (List.finRange m) wr) := by
          show J _ wr
          have e : (List.finRange m).take j = List.finRange m := List.take_of_length_le (by simp; omega)
          rw [← e]; exact hJs
        clear hJs
        gi_wp2
        go_end0
        exact ⟨⟨_, rfl⟩, .inl hJe.out⟩
  · have hminz : ¬ (m : Int) < (n : Int) := by omega
    gi_wp2
    have hKm : n = K := by omega
    have hnK : m ≥ K := by omega
    clear hK
    subst hKm
    gi_loopw [10] (fun i wr => ∃ j : Nat, j ≤ n ∧ i = .int .i64 j ∧ J ((List.finRange n).take j) wr ∧ KpB w.heap.size Bl Bv W wr) (fun i _ => n - (intOf i).toNat)
    case atStart => exact ⟨0, Nat.zero_le _, rfl, h0, KpB.refl _ _ _ _⟩
    case round =>
      obtain ⟨j, hj, rfl, hJs, hk⟩ := hrel
      by_cases hlt : j < n
      · have hbw : Below w.heap.size w wr := hb.trans hk.below
        obtain ⟨b1, o1, rfl, hb1, hd1⟩ := (hp.below hbw).cells (by omega)
        obtain ⟨b2, o2, rfl, hb2, hd2⟩ := (hq.below hbw).cells (by omega)
        obtain ⟨x0, x1, x2, x3⟩ := hd1 j (by omega)
        obtain ⟨y0, y1, y2⟩ := hd2 j (by omega)
        have cl' := (Boxed.kpl hl hk).cell
        have cv' := (Boxed.kpv hv hk).cell
        have hjz : (j : Int) < (n : Int) := by omega
        have hjn : (j : Int) < (m : Int) := by omega
        obtain ⟨fn', tmps, assign, body, hy, hR⟩ := hY _ ⟨j, hlt⟩ wr.drew (AbidesFrom.step hJ hJs (grownBy_drew' _)) (by rw [fin_len hj]; exact hlt)
        dsimp only at hy
        clear hd1 hd2 cl cv
        gi_wp2
        have hmx : Try.prog.follows .mixedOrders = true := by kernel_rfl
        replace hR := hR.mono (R' := fun e W' => ∃ o, e = .returned (.bool o) ∧ Hid ((o = true ∧ J ((List.finRange n).take (j + 1)) W' ∧ KpB w.heap.size Bl Bv wr W') ∨ (o = false ∧ Jx ((List.finRange n).take (j + 1)) W'))) (by
          rw [fin_take hlt]
          rintro e W' (⟨rfl, h1, h2⟩ | ⟨rfl, h1⟩)
          · exact ⟨true, rfl, .inl ⟨rfl, h1, (KpB.ofBelow (Below.refl _ _).drew (by have := hbw.size; exact this) (Boxed.kpl hl hk).lt (Boxed.kpv hv hk).lt).trans h2⟩⟩
          · exact ⟨false, rfl, .inr ⟨rfl, h1⟩⟩)
        gi_region_with_o (refine hR.mono ?_; rintro e W3 ⟨o, rfl, ho⟩)
        all_goals
          clear x0 x1 x2 x3 y0 y1 y2 cl' cv' hy hR
          rcases ho.out with ⟨rfl, hJ3, hk3⟩ | ⟨rfl, hJx3⟩
          · gi_wp2
            go_roundw
            case rel => exact ⟨j + 1, by omega, by go_num, hJ3, hk.trans hk3⟩
            case measure => simp [intOf]; omega
          · gi_wp2
            refine bodyPost_ret (results_none rfl _ _ _) rfl ?_
            exact ⟨⟨_, rfl⟩, .inr ⟨_, List.take_prefix _ _, hJx3⟩⟩
      · have hjz : ¬ (j : Int) < (n : Int) := by omega
        have hjK : j = n := by omega
        have hJe : Hid (J (List.finRange n) wr) := by
          show J _ wr
          have e : (List.finRange n).take j = List.finRange n := List.take_of_length_le (by simp; omega)
          rw [← e]; exact hJs
        clear hJs
        gi_wp2
        go_end0
        exact ⟨⟨_, rfl⟩, .inl hJe.out⟩

theorem byPart_stops (N : Nat) (hN : 1 ≤ N) (Bl Bv : Nat) (a : Option Addr) (n cap : Nat) (fc ft : Nat → Int) (fu fd : Nat → Bool) (a2 : Option Addr) (m c2 : Nat) (fk fn : Nat → Int) (fs : Nat → ByteArray) (w : World) (hp : PView w a n cap fc ft fu fd) (hq : VView w a2 m c2 fk fn fs) (hn : n ≤ 281474976710656) (hm : m ≤ 281474976710656)
    (W0 : World) (hb : Below w.heap.size w W0) (hl : Boxed W0 Bl 27 (.slice a n cap)) (hv : Boxed W0 Bv 29 (.slice a2 m c2)) :
    SeqStopsK Fence.wide N Try.prog 70 #[.pointer (some ⟨Bl, 0, none⟩), .pointer (some ⟨Bv, 0, none⟩)] (fun x : Fin (min n m) => #[encP fc ft fu fd x.1, encV fk fn fs x.1]) (KpB w.heap.size Bl Bv) (fun xs => xs = List.finRange (min n m)) (fun pre => pre <+: List.finRange (min n m)) (min n m) W0 :=
  fun l J Jx W hW hJ _ hY h0 => byPart1_in N hN l Bl Bv a n cap fc ft fu fd a2 m c2 fk fn fs w hp hq hn hm (min n m) rfl J Jx W hJ hY (hb.trans (hW.mono hb.size)) (Boxed.below' hl hW) (Boxed.below' hv hW) h0

set_option maxHeartbeats 1000000 in
/-- valsByPart boxes its two arguments. -/
theorem valsByPart_in (N : Nat) (a : Option Addr) (n cap : Nat) (a2 : Option Addr) (m c2 : Nat) (w : World) :
    CallsIn Fence.wide N Try.prog 52 #[.slice a n cap, .slice a2 m c2] w fun e w' => e = .returned (.func (.func 70) #[] #[.pointer (some ⟨w.heap.size, 0, none⟩), .pointer (some ⟨w.heap.size + 1, 0, none⟩)]) ∧ w' = (w.alloc (.cells #[.slice a n cap] 27)).alloc (.cells #[.slice a2 m c2] 29) := by
  refine callsIn_of_wp Try.func52 rfl trivial ?_ rfl
  simp only [Try.ntmps52, List.size_toArray, List.length_cons, List.length_nil, Nat.reduceAdd, Nat.reduceSub, Array.replicate_succ, Array.replicate_zero, List.push_toArray, List.append_toArray, List.nil_append, List.cons_append]
  gi_wp2
  go_ret
  exact ⟨rfl, rfl⟩
end Go.Proofs.Ytikopeihkbpjhas

/-
  Parts and values in boxes of a round, and what the loop itself turns.
-/
namespace Go.Proofs.Ytikopeihkbpjhas
open Go.RowKit
set_option maxRecDepth 4000

theorem PBox.ownK {W W' : World} {row : Option Nat} {B : Nat} {c t : Int} {nul d : Bool} (h : PBox W B c t nul d) (hg : W.grownBy W' row) (hr : ∀ r, row = some r → ∃ o : Obj, W.heap[r]? = some o ∧ o.isCells = false) : PBox W' B c t nul d := by
  obtain ⟨o, ho, hc⟩ := cells_of_cell h.cells.1
  exact h.of_block (grownBy_keeps_cells hg hr ho hc)
theorem Box.ownK {W W' : World} {row : Option Nat} {B : Nat} {k n : Int} {s : ByteArray} (h : Box W B k n s) (hg : W.grownBy W' row) (hr : ∀ r, row = some r → ∃ o : Obj, W.heap[r]? = some o ∧ o.isCells = false) : Box W' B k n s := by
  obtain ⟨o, ho, hc⟩ := cells_of_cell h.cells.1
  exact h.of_block (grownBy_keeps_cells hg hr ho hc)
theorem Boxed.ownK {W W' : World} {row : Option Nat} {B : Nat} {t : TypeId} {v : Value} (h : Boxed W B t v) (hg : W.grownBy W' row) (hr : ∀ r, row = some r → ∃ o : Obj, W.heap[r]? = some o ∧ o.isCells = false) : Boxed W' B t v := by
  obtain ⟨o, ho, hc⟩ := cells_of_cell h.cell
  exact (grownBy_keeps_cells hg hr ho hc).trans h
theorem Below.put' {n₀ : Nat} {w₀ W : World} {D : Nat} {o o' : Obj} (h : Below n₀ w₀ W) (hn : n₀ ≤ D) (hK : W.heap[D]? = some o) : Below n₀ w₀ (W.putObj D o') :=
  h.trans ((Below.refl n₀ W).grown (grownBy_putObj' W D o') (by have := (Array.getElem?_eq_some_iff.1 hK).1; omega) (fun k e => by cases e; omega))
end Go.Proofs.Ytikopeihkbpjhas

/-
  The program's FitsAll: each value is asked beside its part.
-/
namespace Go.Proofs.Ytikopeihkbpjhas
open Go.RowKit
set_option maxRecDepth 4000

attribute [local go_sem] Oper.semAt_some

/-- What the program's FitsAll answers. -/
def fitsAllI (n m : Nat) (ft : Nat → Int) (fu : Nat → Bool) (fk fn : Nat → Int) (fs : Nat → ByteArray) : Bool := decide (m ≤ n) && (List.range m).all (fun i => fitsI (ft i) (fu i) (fk i) (fn i) (fs i))

set_option linter.unusedSimpArgs false in
set_option maxRecDepth 100000 in
set_option maxHeartbeats 4000000 in
theorem implFitsAll_any (a : Option Addr) (n cap : Nat) (fc ft : Nat → Int) (fu fd : Nat → Bool) (a2 : Option Addr) (m c2 : Nat) (fk fn : Nat → Int) (fs : Nat → ByteArray) (w : World) (hp : PView w a n cap fc ft fu fd) (hq : VView w a2 m c2 fk fn fs) (hn : n ≤ 281474976710656) (hm : m ≤ 281474976710656) :
    Calls Try.prog 31 #[.slice a n cap, .slice a2 m c2] w fun e w' => e = .returned (.bool (fitsAllI n m ft fu fk fn fs)) ∧ Below w.heap.size w w' := by
  refine (callsIn_wide (n := 6)).1 ?_
  refine callsIn_of_wp_marks Try.func31 rfl trivial ?_ rfl
  simp only [Try.ntmps31, List.size_toArray, List.length_cons, List.length_nil, Nat.reduceAdd, Nat.reduceSub, Array.replicate_succ, Array.replicate_zero, List.push_toArray, List.append_toArray, List.nil_append, List.cons_append]
  by_cases hmn : m ≤ n
  · have hmz : ¬ (m : Int) > (n : Int) := by omega
    gi_wp2_with (refine ⟨trivial, ?_⟩; gi_at_call 52; refine (valsByPart_in _ _ _ _ _ _ _ _).mono ?_; rintro e w' ⟨rfl, rfl⟩)
    have bR := ((Boxed.new w 4 (.bool false)).alloc (.cells #[.slice a n cap] 27)).alloc (.cells #[.slice a2 m c2] 29)
    have bL := (Boxed.new (w.alloc (.cells #[.bool false] 4)) 27 (.slice a n cap)).alloc (.cells #[.slice a2 m c2] 29)
    have bV := Boxed.new ((w.alloc (.cells #[.bool false] 4)).alloc (.cells #[.slice a n cap] 27)) 29 (.slice a2 m c2)
    have hB0 : Below w.heap.size w (((w.alloc (.cells #[.bool false] 4)).alloc (.cells #[.slice a n cap] 27)).alloc (.cells #[.slice a2 m c2] 29)) := (((Below.refl _ w).alloc (Nat.le_refl _) _).alloc (by simp) _).alloc (by simp; omega) _
    have hsz : (((w.alloc (.cells #[.bool false] 4)).alloc (.cells #[.slice a n cap] 27)).alloc (.cells #[.slice a2 m c2] 29)).heap.size = w.heap.size + 3 := by simp
    simp only [World.size_alloc] at bL bV ⊢
    obtain ⟨W0, hW0⟩ : ∃ W0, ((w.alloc (.cells #[.bool false] 4)).alloc (.cells #[.slice a n cap] 27)).alloc (.cells #[.slice a2 m c2] 29) = W0 := ⟨_, rfl⟩
    rw [hW0] at bR bL bV hB0 hsz ⊢
    clear hW0
    refine wpIn_rangeFunc_ownH rfl (by decide) (gf := 70) (lb := #[.pointer (some ⟨w.heap.size + 1, 0, none⟩), .pointer (some ⟨w.heap.size + 1 + 1, 0, none⟩)]) rfl trivial (enters_of Try.func70 (by kernel_rfl) rfl)
      (byPart_stops (6 - 1) (by decide) (w.heap.size + 1) (w.heap.size + 1 + 1) a n cap fc ft fu fd a2 m c2 fk fn fs w hp hq hn hm W0 hB0 bL bV) (fun h k => KpB.trans h k) (KpB.put (by omega) (by omega) (by omega)) (Below.refl _ _) (fun _ => rfl)
      (fun pre W => (Boxed W w.heap.size 4 (.bool false) ∧ ∀ x ∈ pre, fitsI (ft x.1) (fu x.1) (fk x.1) (fn x.1) (fs x.1) = true) ∧ KpB w.heap.size (w.heap.size + 1) (w.heap.size + 1 + 1) W0 W)
      (fun c pre W => c = .ret ∧ (Boxed W w.heap.size 4 (.bool false) ∧ ∃ x ∈ pre, fitsI (ft x.1) (fu x.1) (fk x.1) (fn x.1) (fs x.1) = false) ∧ Below w.heap.size W0 W)
      (OwnFrom.and (fun s X Y row hs hg hr => ⟨Boxed.ownK hs.1 hg (fun r e => (hr r e).2), hs.2⟩) (ownFrom_kpB (by omega) (by omega) (by omega) (Nat.le_refl _)))
      (fun c s X Y row hs hg hr => ⟨hs.1, ⟨Boxed.ownK hs.2.1.1 hg (fun r e => (hr r e).2), hs.2.1.2⟩, ownFrom_below (w₀ := W0) (n₀ := w.heap.size) (B := W0.heap.size) (β := Unit) (by omega) (by omega) () X Y row hs.2.2 hg hr⟩)
      ⟨⟨bR, fun x hx => by cases hx⟩, KpB.refl _ _ _ _⟩
      (fun x a' W => ∃ Bp Bq, (PBox W Bp (fc x.1) (ft x.1) (fu x.1) (fd x.1) ∧ Box W Bq (fk x.1) (fn x.1) (fs x.1)) ∧ a' = { tmps := #[.slice a n cap, .slice a2 m c2, undef, undef, .pointer (some ⟨w.heap.size, 0, none⟩), .pointer (some ⟨Bp, 0, none⟩), .pointer (some ⟨Bq, 0, none⟩), .slice a2 m c2, .int .i64 m, .slice a n cap, .int .i64 n, .bool false, .slice a n cap, .slice a2 m c2, .func (.func 70) #[] #[.pointer (some ⟨w.heap.size + 1, 0, none⟩), .pointer (some ⟨w.heap.size + 1 + 1, 0, none⟩)], encP fc ft fu fd x.1, encV fk fn fs x.1, undef, undef, undef, undef], defers := [] })
      (fun x a' _ X Y row hs hg hr => by obtain ⟨Bp, Bq, ⟨h1, h2⟩, h3⟩ := hs; exact ⟨Bp, Bq, ⟨h1.ownK hg (fun r e => (hr r e).2), h2.ownK hg (fun r e => (hr r e).2)⟩, h3⟩)
      ?assign ?body ?done ?stop
    case assign =>
      rintro l pre x W K ⟨⟨bR1, hall⟩, hk⟩ hK
      gi_wp2
      have hb1 : Below W.heap.size W ((W.alloc (.cells #[.int .i64 (fc x.1), .int .i64 (ft x.1), .bool (fu x.1), .bool (fd x.1)] 49)).alloc (.cells #[.int .i64 (fk x.1), .int .i64 (fn x.1), .string (fs x.1)] 52)) := ((Below.refl _ _).alloc (Nat.le_refl _) _).alloc (by simp) _
      have hs1 := hk.below.size
      have hkk := KpB.ofBelow (n₀ := w.heap.size) (Bl := w.heap.size + 1) (Bv := w.heap.size + 1 + 1) hb1 (by omega) (by omega) (by omega)
      refine hK _ _ (KeepsFrom.ofBelow hb1) hkk ⟨⟨Boxed.below' bR1 hb1, hall⟩, hk.trans hkk⟩ ⟨W.heap.size, W.heap.size + 1, ⟨(PBox.new W _ _ _ _).below ((Below.refl _ _).alloc (Nat.le_refl _) _), by have := Box.new (W.alloc (.cells #[.int .i64 (fc x.1), .int .i64 (ft x.1), .bool (fu x.1), .bool (fd x.1)] 49)) (fk x.1) (fn x.1) (fs x.1); rw [World.size_alloc] at this; exact this⟩, ?_⟩
      simp
    case body =>
      rintro l pre x a' W hl ⟨r, hr⟩ ⟨⟨bR1, hall⟩, hk⟩ ⟨Bp, Bq, ⟨hP, hQ⟩, rfl⟩ hlt
      obtain ⟨p0, p1, p2, p3⟩ := hP.cells
      obtain ⟨q0, q1, q2⟩ := hQ.cells
      have cR := bR1.cell
      have fR := bR1.frozen
      have hs1 := hk.below.size
      have HA : Hid (∀ x ∈ pre, fitsI (ft x.1) (fu x.1) (fk x.1) (fn x.1) (fs x.1) = true) := hall
      have hC := fun W => implFits_any (fc x.1) (ft x.1) (fu x.1) (fd x.1) (fk x.1) (fn x.1) (fs x.1) W
      obtain ⟨o, ho⟩ : ∃ o, Hid (fitsI (ft x.1) (fu x.1) (fk x.1) (fn x.1) (fs x.1) = o) := ⟨_, rfl⟩
      rw [ho.out] at hC
      clear hall hP hQ hr
      cases o with
      | true =>
        gi_wp2_with (refine ⟨trivial, ?_⟩; gi_at_call 53; refine (CallsIn.inRound l (callsIn_wide.2 (hC _))).mono ?_; rintro e w2 ⟨rfl, hB2⟩)
        have hkk := KpB.ofBelow (n₀ := w.heap.size) (Bl := w.heap.size + 1) (Bv := w.heap.size + 1 + 1) hB2 (by omega) (by omega) (by omega)
        refine ⟨KeepsFrom.ofBelow hB2, hkk, ⟨Boxed.below' bR1 hB2, fun y hy => ?_⟩, hk.trans hkk⟩
        rcases List.mem_append.1 hy with hy | hy
        · exact HA.out y hy
        · simp at hy; subst hy; exact ho.out
      | false =>
        gi_wp2_with (refine ⟨trivial, ?_⟩; gi_at_call 53; refine (CallsIn.inRound l (callsIn_wide.2 (hC _))).mono ?_; rintro e w2 ⟨rfl, hB2⟩; have cR2 := (Boxed.below' bR1 hB2).cell; have fR2 := (Boxed.below' bR1 hB2).frozen)
        have bR2 : Boxed (w2.setCell ⟨w.heap.size, 0, none⟩ (.bool false)) w.heap.size 4 (.bool false) := Boxed.set _ (Boxed.below' bR1 hB2)
        refine ⟨(KeepsFrom.ofBelow hB2).trans ((KeepsOthers.setCell _ _ _).from _), rfl, ⟨bR2, x, List.mem_append.2 (.inr (by simp)), ho.out⟩, ?_⟩
        exact (hk.below.trans (hB2.mono (by omega))).setCell (p := ⟨w.heap.size, 0, none⟩) (Nat.le_refl _) _
    case done =>
      rintro D ys W hD rfl ⟨⟨bR1, hall⟩, hk⟩ hK
      have cR := bR1.cell
      have fR := bR1.frozen
      have HF : Hid (fitsAllI n m ft fu fk fn fs = true) := by
        show _ = _
        unfold fitsAllI
        rw [decide_eq_true hmn, Bool.true_and]
        exact allUpto_yes (fun i hi => hall ⟨i, by omega⟩ (List.mem_finRange _))
      have hk0 := hB0.trans hk.below
      clear hall hk
      gi_wp2
      have hK' := (KeepsOthers.setCell W ⟨w.heap.size, 0, none⟩ (.bool true)).same D _ hK rfl
      refine ⟨by simp, .inl ⟨_, _, rfl, run_takeDeferred hK', ?_⟩⟩
      have hc5 := cell_kept (Boxed.set (.bool true) bR1).cell (grownBy_putObj' _ D (.deferred none)) (fun r e => by cases e; exact ⟨_, hK', rfl⟩)
      refine ⟨.bool true, ?_, by rw [HF.out], Below.put' (hk0.setCell (p := ⟨w.heap.size, 0, none⟩) (Nat.le_refl _) _) (by omega) hK'⟩
      simp [results, Try.f31, go_sem, hc5]
    case stop =>
      rintro D c pre W hD hpre ⟨rfl, ⟨bR1, hno⟩, hk⟩ hK
      have HF : Hid (fitsAllI n m ft fu fk fn fs = false) := by
        show _ = _
        unfold fitsAllI
        obtain ⟨x, _, hx⟩ := hno
        rw [allUpto_no (k := x.1) (by have := x.2; omega) hx, Bool.and_false]
      have hk0 := hB0.trans hk
      clear hno hk
      gi_wp2
      refine ⟨by simp, .inl ⟨_, _, rfl, run_takeDeferred hK, ?_⟩⟩
      have hc5 := cell_kept bR1.cell (grownBy_putObj' _ D (.deferred none)) (fun r e => by cases e; exact ⟨_, hK, rfl⟩)
      refine ⟨.bool false, ?_, by rw [HF.out], Below.put' hk0 (by omega) hK⟩
      simp [results, Try.f31, go_sem, hc5]
  · have hmz : (m : Int) > (n : Int) := by omega
    have HF : Hid (fitsAllI n m ft fu fk fn fs = false) := by show _ = _; unfold fitsAllI; rw [decide_eq_false hmn]; rfl
    gi_wp2
    refine ⟨.bool false, ?_, by rw [HF.out], (Below.refl _ w).alloc (Nat.le_refl _) _⟩
    simp [results, Try.f31, go_sem]
end Go.Proofs.Ytikopeihkbpjhas

/-
  Where a plan is right the program's FitsAll is the plain one.
-/
namespace Go.Proofs.Ytikopeihkbpjhas
open Go.RowKit
set_option maxRecDepth 4000

/-- Where the plan is right the program's answer is the plain one. -/
theorem fitsAllI_ok {n m : Nat} {fc ft : Nat → Int} {fu : Nat → Bool} {fk fn : Nat → Int} {fs : Nat → ByteArray} (h : planOk n fc ft = true) : fitsAllI n m ft fu fk fn fs = fitsAll n m ft fu fk fn fs := by
  unfold fitsAllI fitsAll
  by_cases hm : m ≤ n
  · rw [decide_eq_true hm, Bool.true_and, Bool.true_and]
    have hp := (planOk_iff.1 h).1
    have e : ∀ i, i < m → fitsI (ft i) (fu i) (fk i) (fn i) (fs i) = fitsP (ft i) (fu i) (fk i) (fn i) (fs i) := fun i hi => by
      have := hp i (by omega)
      refine fitsI_ok ?_
      unfold partOk at this; simp at this; omega
    rw [Bool.eq_iff_iff, List.all_eq_true, List.all_eq_true]
    constructor
    · intro h' i hi; rw [← e i (List.mem_range.1 hi)]; exact h' i hi
    · intro h' i hi; rw [e i (List.mem_range.1 hi)]; exact h' i hi
  · rw [decide_eq_false hm, Bool.false_and, Bool.false_and]
end Go.Proofs.Ytikopeihkbpjhas

/-
  The program's RowOk: as the model's.
-/
namespace Go.Proofs.Ytikopeihkbpjhas
open Go.RowKit
set_option maxRecDepth 4000

theorem implRowOk_any (a : Option Addr) (n cap : Nat) (fc ft : Nat → Int) (fu fd : Nat → Bool) (a2 : Option Addr) (m c2 : Nat) (fk fn : Nat → Int) (fs : Nat → ByteArray) (w : World) (hp : PView w a n cap fc ft fu fd) (hq : VView w a2 m c2 fk fn fs) (hn : n ≤ 281474976710656) (_hm : m ≤ 281474976710656) :
    Calls Try.prog 11 #[.slice a n cap, .slice a2 m c2] w fun e w' => e = .returned (.bool (rowOk n fc ft fu m fk fn fs)) ∧ Below w.heap.size w w' := by
  obtain ⟨o, ho⟩ : ∃ o, Hid (rowOk n fc ft fu m fk fn fs = o) := ⟨_, rfl⟩
  rw [ho.out]
  go_enter Try.func11, Try.ntmps11
  go_wp2_with fail
  refine (implPlanOk_any a n cap fc ft fu fd w hp).mono ?_
  cases hpk : planOk n fc ft with
  | false =>
    have e : o = false := by rw [← ho.out]; unfold rowOk; rw [hpk]; rfl
    subst e
    rintro e w1 ⟨rfl, hb⟩
    go_wp2
    go_ret
    exact ⟨rfl, hb⟩
  | true =>
    rintro e w1 ⟨rfl, hb⟩
    by_cases hmn : m = n
    · subst hmn
      have e : fitsAllI m m ft fu fk fn fs = o := by rw [fitsAllI_ok hpk, ← ho.out]; unfold rowOk; rw [hpk]; simp
      have HE : Hid (fitsAllI m m ft fu fk fn fs = o) := e
      clear e ho
      replace hp := hp.below hb
      replace hq := hq.below hb
      go_wp2_with fail
      refine (implFitsAll_any a m cap fc ft fu fd a2 m c2 fk fn fs _ hp hq (by omega) (by omega)).mono ?_
      rw [HE.out]
      rintro e w2 ⟨rfl, hb2⟩
      replace hb := hb.trans (hb2.mono hb.size)
      clear hb2 hp hq
      go_wp2
      go_ret
      exact ⟨rfl, hb⟩
    · have e : o = false := by rw [← ho.out]; unfold rowOk; rw [hpk]; simp [hmn]
      subst e
      have hz : ¬ (m : Int) = (n : Int) := by omega
      have hz' : ¬ (n : Int) = (m : Int) := by omega
      clear hp hq
      go_wp2
      go_ret
      exact ⟨rfl, hb⟩
end Go.Proofs.Ytikopeihkbpjhas

