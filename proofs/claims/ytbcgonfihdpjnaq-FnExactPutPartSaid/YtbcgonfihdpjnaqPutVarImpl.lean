/-
  The program's PutVar: what was there, and behind it the number's bytes, in memory of its own.
-/
import Derived.Test.YtbcgonfihdpjnaqSetDigits
import Derived.Test.YtbcgonfihdpjnaqBitsLen
import Derived.Test.YtbcgonfihdpjnaqFlipWalks
namespace Go.Proofs.Ytbcgonfihdpjnaq
open Go.RowKit
set_option maxRecDepth 4000

theorem slice8 (A c : Nat) (hc : c ≤ 7) (W : World) :
    (Instr.sliceAt 95 (.pointer (some ⟨A, 0, none⟩)) (some (.int .i64 0)) (some (.int .i64 (1 + (c : Int)))) (some (.int .i64 (1 + (c : Int))))).run Try.prog W = .ok (.slice (some ⟨A, 0, none⟩) (1 + c) (1 + c)) W := by
  have e8 : Try.prog.arrayLen 95 = 8 := by kernel_rfl
  have e5 : Try.prog.elem 95 = 5 := by kernel_rfl
  rw [run_sliceAt_array_lhm W 95 _ (by kernel_rfl) .i64 .i64 .i64 0 (1 + (c : Int)) (1 + (c : Int)) (by omega) (by omega) (by omega) (by rw [e8]; omega), e5]
  have e1 : (sizeOf 5).run Try.prog W = .ok 1 W := by go_simp
  rw [e1]
  simp only [Result.andThen, slicedAt]
  rw [show (1 + (c : Int)).toNat = 1 + c by omega]
  simp [Addr.add]

/-- The head and the bytes behind it, as they stand ahead of a turn. -/
def wholeF (c : Nat) (s : Int) (i : Nat) : Int := if i = 0 then 128 + (c : Int) else be c s (i - 1)
theorem wholeF_bd (c : Nat) (s : Int) (hc : c ≤ 7) (i : Nat) : 0 ≤ wholeF c s i ∧ wholeF c s i ≤ 255 := by
  have := be_bd c s (i - 1)
  unfold wholeF
  split <;> omega
theorem whole_up {c : Nat} {s y : Int} (hs : s = sizeV y) (hc : c = cnt s) (hy : 0 ≤ y) : lof (1 + c) (wholeF c s) = keptL y := by
  subst hs hc
  rw [lof_cons]
  unfold keptL headV
  rw [if_neg (by omega)]
  congr 1
  unfold lof
  apply List.map_congr_left
  intro i _
  unfold wholeF tailV
  rw [if_neg (by omega), if_neg (by omega)]
  rfl
theorem whole_down {c : Nat} {s y : Int} (hs : s = sizeV y) (hc : c = cnt s) (hy : y < 0) : lof (1 + c) (flipF (wholeF c s) 0) = keptL y := by
  subst hs hc
  rw [lof_cons]
  unfold keptL headV
  rw [if_pos hy]
  congr 1
  · unfold flipF wholeF
    rw [if_pos (by omega), if_pos rfl]
    omega
  · unfold lof
    apply List.map_congr_left
    intro i _
    unfold flipF wholeF tailV
    rw [if_pos (by omega), if_neg (by omega), if_pos hy]
    rfl

theorem Row.zero8 (w : World) (t : TypeId) (h : Int) : Row t (w.alloc (.cells #[.int .u8 h, .int .u8 0, .int .u8 0, .int .u8 0, .int .u8 0, .int .u8 0, .int .u8 0, .int .u8 0] t)) w.heap.size 8 (fun i => if i = 0 then h else 0) :=
  Row.ofIs (World.rowIs_alloc w #[.int .u8 h, .int .u8 0, .int .u8 0, .int .u8 0, .int .u8 0, .int .u8 0, .int .u8 0, .int .u8 0] t (fun i => .int .u8 (if i = 0 then h else 0)) (fun j hj => by match j, hj with | 0, _ => rfl | 1, _ => rfl | 2, _ => rfl | 3, _ => rfl | 4, _ => rfl | 5, _ => rfl | 6, _ => rfl | 7, _ => rfl))
theorem Row.cut {t : TypeId} {w : World} {b n m : Nat} {f g : Nat → Int} (h : Row t w b n f) (hm : m ≤ n) (e : ∀ i, i < m → f i = g i) : Row t w b m g := by
  obtain ⟨c, hb, hn, hc⟩ := h
  exact ⟨c, hb, by omega, fun i hi => by rw [hc i (by omega), e i hi]⟩

set_option maxHeartbeats 1000000 in
theorem putVar_impl (b off n cap : Nat) (f : Nat → Int) (x : Int) (w : World) (hv : View w (some ⟨b, off, none⟩) n cap f) (hn : n ≤ 70368744170000) (hx0 : -9223372036854775808 ≤ x) (hx1 : x ≤ 9223372036854775807) :
    Calls Try.prog 64 #[.slice (some ⟨b, off, none⟩) n cap, .int .i64 x] w fun e w' => ∃ g c, e = .returned (.slice (some ⟨g, 0, none⟩) (n + (varL x).length) c) ∧ w.heap.size ≤ g ∧ n + (varL x).length ≤ c ∧ Row 5 w' g (n + (varL x).length) (fun i => (lof n f ++ varL x).getD i 0) ∧ Below w.heap.size w w' := by
  have hb0 : ∀ o, Below w.heap.size w (w.alloc o) := fun o => (Below.refl _ _).alloc (Nat.le_refl _) _
  obtain ⟨y, hy⟩ : ∃ y, y = clampV x := ⟨_, rfl⟩
  have hyb := clampV_bd x
  obtain ⟨s, hs⟩ : ∃ s, s = sizeV y := ⟨_, rfl⟩
  have hsb := sizeV_bd (clampV x) hyb
  rw [← hy] at hyb hsb
  rw [← hs] at hsb
  have hy1 : min (max x (-1000000000000000)) 1000000000000000 = y := by rw [hy]; unfold clampV; (repeat' split) <;> omega
  have hy2 : max y (-1 - y) = s := by rw [hs]; unfold sizeV; split <;> omega
  have HY : Hid (y = clampV x) := hy
  have HS : Hid (s = sizeV y) := hs
  clear hy hs
  obtain ⟨c, hcd⟩ : ∃ c : Nat, Hid (c = cnt s) := ⟨_, rfl⟩
  have hc7 : c ≤ 7 := by rw [hcd.out]; exact cnt_le _
  have HF : Hid (∀ (g off k : Nat) (w1 : World) (t : TypeId), Row t w1 g 8 (fillF off k 0 s (fun i => if i = 0 then 128 + (c : Int) else 0)) → (c = 0 ∧ k = 0) ∨ (off = 1 ∧ k = c) → View w1 (some ⟨g, 0, none⟩) (1 + c) (1 + c) (wholeF c s)) := by
    intro g off k w1 t hr hk
    refine (hr.cut (m := 1 + c) (by omega) (g := wholeF c s) (fun i hi => ?_)).view (Nat.le_refl _) (fun i _ => wholeF_bd c s hc7 i)
    unfold fillF wholeF
    by_cases h0 : i = 0
    · subst h0
      rw [if_neg (by omega), if_pos rfl]
      exact if_pos rfl
    · rw [if_pos (by omega), if_neg h0]
      rcases hk with ⟨h1, h2⟩ | ⟨rfl, rfl⟩
      · omega
      · rfl
  have hlen : n + (varL x).length = n + (1 + c) := by
    unfold varL
    rw [keptL_len, ← HY.out, ← HS.out, ← hcd.out]
    omega
  have HL : Hid (varL x = keptL y) := by show _ = _; unfold varL; rw [← HY.out]
  rw [hlen]
  clear hlen
  have hsl := slice8 w.heap.size c hc7
  go_enter Try.func64, Try.ntmps64
  go_wp2_with fail
  refine (bitsLen_any s w hsb.1 (by omega)).mono ?_
  rintro e _ ⟨L, rfl, hL, hcl, rfl⟩
  have hLc : ((L : Int) + 7) / 8 = (c : Int) := by
    have h1 : (L + 7) / 8 = c := by
      rw [hcd.out]
      exact hcl.out
    omega
  clear hcl
  by_cases hc0 : c = 0
  · subst hc0
    go_wp2_with fail
    refine (setDigits_any _ w.heap.size 0 0 0 8 (fun i => if i = 0 then 128 + ((0 : Nat) : Int) else 0) s _ (Row.zero8 w _ (128 + ((0 : Nat) : Int))) (by omega) (by omega) hsb.1).mono ?_
    rintro e w1 ⟨rfl, hr1, ho1⟩
    have hV1 := HF.out w.heap.size 0 0 w1 _ hr1 (by simp)
    have hb1 : Below w.heap.size w w1 := (hb0 _).trans (ho1.below (Nat.le_refl _))
    clear hr1 ho1 HF hb0 hsl
    by_cases hyn : y < 0
    · go_wp2_with fail
      refine (flip_impl w.heap.size 0 (1 + 0) (1 + 0) (wholeF 0 s) 0 w1 hV1 (by omega) (by omega)).mono ?_
      rintro e w2 ⟨g, cg, rfl, hg, hgc, hr2, hb2⟩
      have hV2 := hr2.view hgc (flipF_byte 0 (fun i _ => wholeF_bd 0 s hc7 i))
      replace hb2 := hb1.trans (hb2.mono hb1.size)
      clear hr2 hV1 hb1 hg hgc
      go_wp2_with fail
      refine (putBytes_any b off n cap f (some ⟨g, 0, none⟩) (1 + 0) cg _ w2 (hv.below hb2) hV2 (fun h => by cases h) (by omega)).mono ?_
      rintro e w3 ⟨rfl, hown, hb3⟩
      have HE : lof (1 + 0) (flipF (wholeF 0 s) 0) = varL x := (whole_down HS.out hcd.out hyn).trans HL.out.symm
      rw [HE] at hown
      have HR : Hid _ := row_of_owned hown
      have hb4 := hb2.trans (hb3.mono hb2.size)
      have hsz := hb2.size
      clear hown HE hV2 hb3 hb2 hv
      go_wp2
      go_ret
      exact ⟨_, _, rfl, hsz, Nat.le_refl _, HR.out, hb4⟩
    · have hb2 := hb1
      have hV2 := hV1
      clear hb1 hV1
      go_wp2_with fail
      refine (putBytes_any b off n cap f (some ⟨w.heap.size, 0, none⟩) (1 + 0) (1 + 0) _ w1 (hv.below hb2) hV2 (fun h => by cases h) (by omega)).mono ?_
      rintro e w3 ⟨rfl, hown, hb3⟩
      have HE : lof (1 + 0) (wholeF 0 s) = varL x := (whole_up HS.out hcd.out (by omega)).trans HL.out.symm
      rw [HE] at hown
      have HR : Hid _ := row_of_owned hown
      have hb4 := hb2.trans (hb3.mono hb2.size)
      have hsz := hb2.size
      clear hown HE hV2 hb3 hb2 hv
      go_wp2
      go_ret
      exact ⟨_, _, rfl, hsz, Nat.le_refl _, HR.out, hb4⟩
  · go_wp2_with fail
    refine (setDigits_any _ w.heap.size 1 c c 8 (fun i => if i = 0 then 128 + (c : Int) else 0) s _ (Row.zero8 w _ (128 + (c : Int))) (by omega) (by omega) hsb.1).mono ?_
    rintro e w1 ⟨rfl, hr1, ho1⟩
    have hV1 := HF.out w.heap.size 1 c w1 _ hr1 (Or.inr ⟨rfl, rfl⟩)
    have hb1 : Below w.heap.size w w1 := (hb0 _).trans (ho1.below (Nat.le_refl _))
    clear hr1 ho1 HF hb0 hsl
    by_cases hyn : y < 0
    · go_wp2_with fail
      refine (flip_impl w.heap.size 0 (1 + c) (1 + c) (wholeF c s) 0 w1 hV1 (by omega) (by omega)).mono ?_
      rintro e w2 ⟨g, cg, rfl, hg, hgc, hr2, hb2⟩
      have hV2 := hr2.view hgc (flipF_byte 0 (fun i _ => wholeF_bd c s hc7 i))
      replace hb2 := hb1.trans (hb2.mono hb1.size)
      clear hr2 hV1 hb1 hg hgc
      go_wp2_with fail
      refine (putBytes_any b off n cap f (some ⟨g, 0, none⟩) (1 + c) cg _ w2 (hv.below hb2) hV2 (fun h => by cases h) (by omega)).mono ?_
      rintro e w3 ⟨rfl, hown, hb3⟩
      have HE : lof (1 + c) (flipF (wholeF c s) 0) = varL x := (whole_down HS.out hcd.out hyn).trans HL.out.symm
      rw [HE] at hown
      have HR : Hid _ := row_of_owned hown
      have hb4 := hb2.trans (hb3.mono hb2.size)
      have hsz := hb2.size
      clear hown HE hV2 hb3 hb2 hv
      go_wp2
      go_ret
      exact ⟨_, _, rfl, hsz, Nat.le_refl _, HR.out, hb4⟩
    · have hb2 := hb1
      have hV2 := hV1
      clear hb1 hV1
      go_wp2_with fail
      refine (putBytes_any b off n cap f (some ⟨w.heap.size, 0, none⟩) (1 + c) (1 + c) _ w1 (hv.below hb2) hV2 (fun h => by cases h) (by omega)).mono ?_
      rintro e w3 ⟨rfl, hown, hb3⟩
      have HE : lof (1 + c) (wholeF c s) = varL x := (whole_up HS.out hcd.out (by omega)).trans HL.out.symm
      rw [HE] at hown
      have HR : Hid _ := row_of_owned hown
      have hb4 := hb2.trans (hb3.mono hb2.size)
      have hsz := hb2.size
      clear hown HE hV2 hb3 hb2 hv
      go_wp2
      go_ret
      exact ⟨_, _, rfl, hsz, Nat.le_refl _, HR.out, hb4⟩
end Go.Proofs.Ytbcgonfihdpjnaq
