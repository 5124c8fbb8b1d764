/-
  Together: PartGetImpl, InBytes, PlanImpl, OwnK
-/
import Derived.Test.YtclegljalndaearPack7
import Derived.Test.YtclegljalndaearFormOf
import Derived.Test.YtclegljalndaearPack2
import Derived.Test.YtclegljalndaearPack6
import Derived.Test.YtclegljalndaearPack4
import Derived.Deep.LoopGhost
import Derived.Deep.RegionHeld3
/-
  The program's GetPart: one value of a key, at every slice of bytes that reads and at every place.
-/
namespace Go.Proofs.Ytclegljalndaear
open Go.RowKit
set_option maxRecDepth 4000

/-- The function is Go's own. -/
def EntersG (F : Nat) : Prop := ∀ (args : Array Value) (W : World), (callFunc F args).run Try.prog W = .ok (.enter F args) W
/-- A type's reader, by its number. -/
theorem formGet {t : Int} (ht : 1 ≤ t ∧ t ≤ 4) : ∃ F G : Nat, (formV t).1 = .func (.func F) #[] #[] ∧ (formV t).2 = .func (.func G) #[] #[] ∧ EntersG G ∧ ∀ n f p, n ≤ 10000000 → p ≤ 9223372036854775807 → ReadsV G n f p (rawI n f t p) := by
  obtain rfl | rfl | rfl | rfl : t = 1 ∨ t = 2 ∨ t = 3 ∨ t = 4 := by omega
  · exact ⟨_, _, rfl, rfl, fun _ _ => by kernel_rfl, fun n f p hn hp => getInt_any n f p hn hp⟩
  · exact ⟨_, _, rfl, rfl, fun _ _ => by kernel_rfl, fun n f p hn hp => getNum_any n f p hn hp⟩
  · exact ⟨_, _, rfl, rfl, fun _ _ => by kernel_rfl, fun n f p hn hp => getText_any n f p hn hp⟩
  · exact ⟨_, _, rfl, rfl, fun _ _ => by kernel_rfl, fun n f p hn hp => getBool_any n f p hn hp⟩
theorem rawI_k {n : Nat} {f : Nat → Int} {t p : Int} (ht : 1 ≤ t ∧ t ≤ 4) : (rawI n f t p).k = t := by
  obtain rfl | rfl | rfl | rfl : t = 1 ∨ t = 2 ∨ t = 3 ∨ t = 4 := by omega
  all_goals rfl
theorem fitsI_self {t y : Int} {nul : Bool} {s : ByteArray} : fitsI t nul t y s = okF t y s := by unfold fitsI; simp

set_option maxHeartbeats 4000000 in
theorem getPart_no (b off n cap : Nat) (f : Nat → Int) (c t : Int) (nul d : Bool) (p : Int) (w : World) (_hv : View w (some ⟨b, off, none⟩) n cap f) (_hn : n ≤ 10000000) (_hp1 : p ≤ 9223372036854775807) (hok : partOk c t = false) :
    Calls Try.prog 67 #[.slice (some ⟨b, off, none⟩) n cap, .agg #[.int .i64 c, .int .i64 t, .bool nul, .bool d], .int .i64 p] w fun e w' => e = gotRet (.no) ∧ Below w.heap.size w w' := by
  have hP := (PBox.new w c t nul d).below ((Below.refl _ _).alloc (Nat.le_refl _) (.cells #[.int .i64 0, .int .i64 0, .string ⟨#[]⟩] 59))
  have hR := Box.new (w.alloc (.cells #[.int .i64 c, .int .i64 t, .bool nul, .bool d] 51)) 0 0 ⟨#[]⟩
  rw [show (w.alloc (.cells #[.int .i64 c, .int .i64 t, .bool nul, .bool d] 51)).heap.size = w.heap.size + 1 by simp] at hR
  have hB : Below w.heap.size w ((w.alloc (.cells #[.int .i64 c, .int .i64 t, .bool nul, .bool d] 51)).alloc (.cells #[.int .i64 0, .int .i64 0, .string ⟨#[]⟩] 59)) := ((Below.refl _ _).alloc (Nat.le_refl _) _).alloc (by simp) _
  go_enter Try.func67, Try.ntmps67
  go_wp2_with fail
  refine (implPartOk_any c t nul d _).mono ?_
  rw [hok]
  rintro e w1 ⟨rfl, hb⟩
  replace hP := hP.below hb
  replace hR := hR.below hb
  replace hB := hB.trans (hb.mono hB.size)
  clear hb
  obtain ⟨p0, p1, p2, p3⟩ := hP.cells
  obtain ⟨x0, x1, x2⟩ := hR.cells
  obtain ⟨r0, r1, r2⟩ := hR.frozen
  have hgs := stored3 (.int .i64 0) (.int .i64 0) (.string ⟨#[]⟩) x0 x1 x2
  have HB : Hid (Below w.heap.size w (((w1.setCell ⟨w.heap.size + 1, 0, none⟩ (.int .i64 0)).setCell ⟨w.heap.size + 1, 1, none⟩ (.int .i64 0)).setCell ⟨w.heap.size + 1, 2, none⟩ (.string ⟨#[]⟩))) := ((hB.setCell (Nat.le_succ _) _).setCell (Nat.le_succ _) _).setCell (Nat.le_succ _) _
  clear hP hR hB
  go_wp2
  exact bodyPost_ret (v := .tuple #[.agg #[.int .i64 0, .int .i64 0, .string ⟨#[]⟩], .int .i64 0, .bool false]) (by simp [results, Try.results67, go_sem, hgs]) rfl ⟨rfl, HB.out⟩

theorem getB_cases {n : Nat} {F : Nat → Int} {p : Int} (hb : ∀ i, i < n → 0 ≤ F i ∧ F i ≤ 255) : getB n F p = (0, 0, false) ∨ ((0 ≤ p ∧ p < n) ∧ (getB n F p = (0, p + 1, true) ∨ getB n F p = (1, p + 1, true))) := by
  by_cases h : p < 0 ∨ (n : Int) ≤ p ∨ 1 < F p.toNat
  · left; unfold getB; rw [if_pos h]
  · right
    refine ⟨by omega, ?_⟩
    have h0 := hb p.toNat (by omega)
    have e : getB n F p = (F p.toNat, p + 1, true) := by unfold getB; rw [if_neg h]
    rw [e]
    by_cases h1 : F p.toNat = 0
    · left; rw [h1]
    · right; rw [show F p.toNat = 1 by omega]

set_option maxHeartbeats 8000000 in
theorem getPart_ff (b off n cap : Nat) (f : Nat → Int) (c t : Int) (p : Int) (w : World) (hv : View w (some ⟨b, off, none⟩) n cap f) (hn : n ≤ 10000000) (hp1 : p ≤ 9223372036854775807) (hok : partOk c t = true) (ht : 1 ≤ t ∧ t ≤ 4) (FF GG : Nat) (hF : (formV t).1 = .func (.func FF) #[] #[]) (hG : (formV t).2 = .func (.func GG) #[] #[]) (hE : EntersG GG) (hW : ∀ n f p, n ≤ 10000000 → p ≤ 9223372036854775807 → ReadsV GG n f p (rawI n f t p)) :
    Calls Try.prog 67 #[.slice (some ⟨b, off, none⟩) n cap, .agg #[.int .i64 c, .int .i64 t, .bool false, .bool false], .int .i64 p] w fun e w' => e = gotRet (nextI n f t false p) ∧ Below w.heap.size w w' := by
  have hP := (PBox.new w c t false false).below ((Below.refl _ _).alloc (Nat.le_refl _) (.cells #[.int .i64 0, .int .i64 0, .string ⟨#[]⟩] 59))
  have hR := Box.new (w.alloc (.cells #[.int .i64 c, .int .i64 t, .bool false, .bool false] 51)) 0 0 ⟨#[]⟩
  rw [show (w.alloc (.cells #[.int .i64 c, .int .i64 t, .bool false, .bool false] 51)).heap.size = w.heap.size + 1 by simp] at hR
  have hB : Below w.heap.size w ((w.alloc (.cells #[.int .i64 c, .int .i64 t, .bool false, .bool false] 51)).alloc (.cells #[.int .i64 0, .int .i64 0, .string ⟨#[]⟩] 59)) := ((Below.refl _ _).alloc (Nat.le_refl _) _).alloc (by simp) _
  go_enter Try.func67, Try.ntmps67
  go_wp2_with fail
  refine (implPartOk_any c t false false _).mono ?_
  rw [hok]
  rintro e w1 ⟨rfl, hb⟩
  replace hP := hP.below hb
  replace hR := hR.below hb
  replace hB := hB.trans (hb.mono hB.size)
  clear hb
  have hx := hv.below hB
  have HN : Hid (nextI n f t false p = (rawI n f t p).chk) := rfl
  obtain ⟨p0, p1, p2, p3⟩ := hP.cells
  go_wp2_with fail
  clear p0 p1 p2 p3
  refine (formOf_any t _ ht).mono ?_
  rw [hF, hG]
  rintro e w5 ⟨rfl, hb⟩
  replace hP := hP.below hb
  replace hR := hR.below hb
  replace hx := hx.below hb
  replace hB := hB.trans (hb.mono hB.size)
  clear hb
  have fg := form_get FF GG
  have hEG : ∀ (args : Array Value) (W : World), (callFunc GG args).run Try.prog W = .ok (.enter GG args) W := hE
  obtain ⟨k, y, s, q, ok, hr⟩ : ∃ k y s q ok, Hid (rawI n f t p = ⟨k, y, s, q, ok⟩) := ⟨_, _, _, _, _, rfl⟩
  obtain rfl : k = t := by have := rawI_k (n := n) (f := f) (p := p) ht; rw [hr.out] at this; exact this
  obtain ⟨p0, p1, p2, p3⟩ := hP.cells
  go_wp2_with fail
  clear p0 p1 p2 p3
  clear fg hEG
  refine (hW n f p hn (by omega) _ _ _ _ hx).mono ?_
  rw [hr.out]
  rintro e w6 ⟨rfl, hb⟩
  have hb0 := hb
  replace hP := hP.below hb
  replace hR := hR.below hb
  replace hB := hB.trans (hb.mono hB.size)
  clear hb
  have hlt6 : w.heap.size + 1 < w6.heap.size := hR.lt
  clear hb0 hx
  cases ok with
  | false =>
    have HG : Hid (nextI n f k false p = .no) := by
      show _ = _
      rw [HN.out]
      exact chk_no (by rw [hr.out])
    obtain ⟨p0, p1, p2, p3⟩ := hP.cells
    obtain ⟨x0, x1, x2⟩ := hR.cells
    obtain ⟨r0, r1, r2⟩ := hR.frozen
    have hgs := stored3A (.int .i64 0) (.int .i64 0) (.string ⟨#[]⟩) x0 x1 x2 hR.lt (.cells #[.int .i64 k, .int .i64 y, .string s] 59)
    have HB : Hid (Below w.heap.size w ((((w6.setCell ⟨w.heap.size + 1, 0, none⟩ (.int .i64 0)).setCell ⟨w.heap.size + 1, 1, none⟩ (.int .i64 0)).setCell ⟨w.heap.size + 1, 2, none⟩ (.string ⟨#[]⟩)).alloc (.cells #[.int .i64 k, .int .i64 y, .string s] 59))) := (((hB.setCell (Nat.le_succ _) _).setCell (Nat.le_succ _) _).setCell (Nat.le_succ _) _).alloc (by simpa using hB.size) _
    clear hP hR hB hr
    simp only [gotRet]
    go_wp2
    exact bodyPost_ret (v := .tuple #[.agg #[.int .i64 0, .int .i64 0, .string ⟨#[]⟩], .int .i64 0, .bool false]) (by simp [results, Try.results67, go_sem, hgs]) rfl ⟨by rw [HG.out]; rfl, HB.out⟩
  | true =>
    have hV := Box.new w6 k y s
    have hb : Below w6.heap.size w6 (w6.alloc (.cells #[.int .i64 k, .int .i64 y, .string s] 59)) := (Below.refl _ _).alloc (Nat.le_refl _) _
    obtain ⟨p0, p1, p2, p3⟩ := hP.cells
    replace hP := hP.below hb
    replace hR := hR.below hb
    replace hB := hB.trans (hb.mono hB.size)
    clear hb
    obtain ⟨v0, v1, v2⟩ := hV.cells
    obtain ⟨s0, s1, s2, s3⟩ := hP.cells
    simp only [gotRet]
    go_wp2_with fail
    clear v0 v1 v2 p0 p1 p2 p3 s0 s1 s2 s3
    refine (implFits_any c k false false k y s _).mono ?_
    rw [fitsI_self]
    obtain ⟨o, ho⟩ : ∃ o, Hid (okF k y s = o) := ⟨_, rfl⟩
    rw [ho.out]
    rintro e w7 ⟨rfl, hb⟩
    replace hV := hV.below hb
    replace hP := hP.below hb
    replace hR := hR.below hb
    replace hB := hB.trans (hb.mono hB.size)
    clear hb
    obtain ⟨v0, v1, v2⟩ := hV.cells
    cases o with
    | false =>
      have HG : Hid (nextI n f k false p = .no) := by
        show _ = _
        rw [HN.out, hr.out]
        unfold Got.chk
        rw [ho.out]
        rfl
      clear hV hr ho
      obtain ⟨p0, p1, p2, p3⟩ := hP.cells
      obtain ⟨x0, x1, x2⟩ := hR.cells
      obtain ⟨r0, r1, r2⟩ := hR.frozen
      have hgs := stored3 (.int .i64 0) (.int .i64 0) (.string ⟨#[]⟩) x0 x1 x2
      have HB : Hid (Below w.heap.size w (((w7.setCell ⟨w.heap.size + 1, 0, none⟩ (.int .i64 0)).setCell ⟨w.heap.size + 1, 1, none⟩ (.int .i64 0)).setCell ⟨w.heap.size + 1, 2, none⟩ (.string ⟨#[]⟩))) := ((hB.setCell (Nat.le_succ _) _).setCell (Nat.le_succ _) _).setCell (Nat.le_succ _) _
      clear hP hR hB
      go_wp2
      exact bodyPost_ret (v := .tuple #[.agg #[.int .i64 0, .int .i64 0, .string ⟨#[]⟩], .int .i64 0, .bool false]) (by simp [results, Try.results67, go_sem, hgs]) rfl ⟨by rw [HG.out]; rfl, HB.out⟩
    | true =>
      have HG : Hid (nextI n f k false p = ⟨k, y, s, q, true⟩) := by
        show _ = _
        rw [HN.out, hr.out]
        unfold Got.chk
        rw [ho.out]
        rfl
      clear hV hr ho
      obtain ⟨p0, p1, p2, p3⟩ := hP.cells
      obtain ⟨x0, x1, x2⟩ := hR.cells
      obtain ⟨r0, r1, r2⟩ := hR.frozen
      have hgs := stored3 (.int .i64 k) (.int .i64 y) (.string s) x0 x1 x2
      have HB : Hid (Below w.heap.size w (((w7.setCell ⟨w.heap.size + 1, 0, none⟩ (.int .i64 k)).setCell ⟨w.heap.size + 1, 1, none⟩ (.int .i64 y)).setCell ⟨w.heap.size + 1, 2, none⟩ (.string s))) := ((hB.setCell (Nat.le_succ _) _).setCell (Nat.le_succ _) _).setCell (Nat.le_succ _) _
      clear hP hR hB
      go_wp2
      exact bodyPost_ret (v := .tuple #[.agg #[.int .i64 k, .int .i64 y, .string s], .int .i64 q, .bool true]) (by simp [results, Try.results67, go_sem, hgs]) rfl ⟨by rw [HG.out]; rfl, HB.out⟩

set_option maxHeartbeats 8000000 in
theorem getPart_ft (b off n cap : Nat) (f : Nat → Int) (c t : Int) (p : Int) (w : World) (hv : View w (some ⟨b, off, none⟩) n cap f) (hn : n ≤ 10000000) (hp1 : p ≤ 9223372036854775807) (hok : partOk c t = true) (ht : 1 ≤ t ∧ t ≤ 4) (FF GG : Nat) (hF : (formV t).1 = .func (.func FF) #[] #[]) (hG : (formV t).2 = .func (.func GG) #[] #[]) (hE : EntersG GG) (hW : ∀ n f p, n ≤ 10000000 → p ≤ 9223372036854775807 → ReadsV GG n f p (rawI n f t p)) :
    Calls Try.prog 67 #[.slice (some ⟨b, off, none⟩) n cap, .agg #[.int .i64 c, .int .i64 t, .bool false, .bool true], .int .i64 p] w fun e w' => e = gotRet (nextI n (flipF f p) t false p) ∧ Below w.heap.size w w' := by
  have hP := (PBox.new w c t false true).below ((Below.refl _ _).alloc (Nat.le_refl _) (.cells #[.int .i64 0, .int .i64 0, .string ⟨#[]⟩] 59))
  have hR := Box.new (w.alloc (.cells #[.int .i64 c, .int .i64 t, .bool false, .bool true] 51)) 0 0 ⟨#[]⟩
  rw [show (w.alloc (.cells #[.int .i64 c, .int .i64 t, .bool false, .bool true] 51)).heap.size = w.heap.size + 1 by simp] at hR
  have hB : Below w.heap.size w ((w.alloc (.cells #[.int .i64 c, .int .i64 t, .bool false, .bool true] 51)).alloc (.cells #[.int .i64 0, .int .i64 0, .string ⟨#[]⟩] 59)) := ((Below.refl _ _).alloc (Nat.le_refl _) _).alloc (by simp) _
  go_enter Try.func67, Try.ntmps67
  go_wp2_with fail
  refine (implPartOk_any c t false true _).mono ?_
  rw [hok]
  rintro e w1 ⟨rfl, hb⟩
  replace hP := hP.below hb
  replace hR := hR.below hb
  replace hB := hB.trans (hb.mono hB.size)
  clear hb
  have hx := hv.below hB
  obtain ⟨p0, p1, p2, p3⟩ := hP.cells
  go_wp2_with fail
  clear p0 p1 p2 p3
  refine (flip_impl b off n cap f p _ hx (by omega) hp1).mono ?_
  rintro e w2 ⟨gx, cx, rfl, -, hcx, hrx, hb⟩
  replace hx := hrx.view hcx (flipF_byte p hx.byte)
  clear hrx
  replace hP := hP.below hb
  replace hR := hR.below hb
  replace hB := hB.trans (hb.mono hB.size)
  clear hb
  have HN : Hid (nextI n (flipF f p) t false p = (rawI n (flipF f p) t p).chk) := rfl
  obtain ⟨p0, p1, p2, p3⟩ := hP.cells
  go_wp2_with fail
  clear p0 p1 p2 p3
  refine (formOf_any t _ ht).mono ?_
  rw [hF, hG]
  rintro e w5 ⟨rfl, hb⟩
  replace hP := hP.below hb
  replace hR := hR.below hb
  replace hx := hx.below hb
  replace hB := hB.trans (hb.mono hB.size)
  clear hb
  have fg := form_get FF GG
  have hEG : ∀ (args : Array Value) (W : World), (callFunc GG args).run Try.prog W = .ok (.enter GG args) W := hE
  obtain ⟨k, y, s, q, ok, hr⟩ : ∃ k y s q ok, Hid (rawI n (flipF f p) t p = ⟨k, y, s, q, ok⟩) := ⟨_, _, _, _, _, rfl⟩
  obtain rfl : k = t := by have := rawI_k (n := n) (f := (flipF f p)) (p := p) ht; rw [hr.out] at this; exact this
  obtain ⟨p0, p1, p2, p3⟩ := hP.cells
  go_wp2_with fail
  clear p0 p1 p2 p3
  clear fg hEG
  refine (hW n (flipF f p) p hn (by omega) _ _ _ _ hx).mono ?_
  rw [hr.out]
  rintro e w6 ⟨rfl, hb⟩
  have hb0 := hb
  replace hP := hP.below hb
  replace hR := hR.below hb
  replace hB := hB.trans (hb.mono hB.size)
  clear hb
  have hlt6 : w.heap.size + 1 < w6.heap.size := hR.lt
  clear hb0 hx
  cases ok with
  | false =>
    have HG : Hid (nextI n (flipF f p) k false p = .no) := by
      show _ = _
      rw [HN.out]
      exact chk_no (by rw [hr.out])
    obtain ⟨p0, p1, p2, p3⟩ := hP.cells
    obtain ⟨x0, x1, x2⟩ := hR.cells
    obtain ⟨r0, r1, r2⟩ := hR.frozen
    have hgs := stored3A (.int .i64 0) (.int .i64 0) (.string ⟨#[]⟩) x0 x1 x2 hR.lt (.cells #[.int .i64 k, .int .i64 y, .string s] 59)
    have HB : Hid (Below w.heap.size w ((((w6.setCell ⟨w.heap.size + 1, 0, none⟩ (.int .i64 0)).setCell ⟨w.heap.size + 1, 1, none⟩ (.int .i64 0)).setCell ⟨w.heap.size + 1, 2, none⟩ (.string ⟨#[]⟩)).alloc (.cells #[.int .i64 k, .int .i64 y, .string s] 59))) := (((hB.setCell (Nat.le_succ _) _).setCell (Nat.le_succ _) _).setCell (Nat.le_succ _) _).alloc (by simpa using hB.size) _
    clear hP hR hB hr
    simp only [gotRet]
    go_wp2
    exact bodyPost_ret (v := .tuple #[.agg #[.int .i64 0, .int .i64 0, .string ⟨#[]⟩], .int .i64 0, .bool false]) (by simp [results, Try.results67, go_sem, hgs]) rfl ⟨by rw [HG.out]; rfl, HB.out⟩
  | true =>
    have hV := Box.new w6 k y s
    have hb : Below w6.heap.size w6 (w6.alloc (.cells #[.int .i64 k, .int .i64 y, .string s] 59)) := (Below.refl _ _).alloc (Nat.le_refl _) _
    obtain ⟨p0, p1, p2, p3⟩ := hP.cells
    replace hP := hP.below hb
    replace hR := hR.below hb
    replace hB := hB.trans (hb.mono hB.size)
    clear hb
    obtain ⟨v0, v1, v2⟩ := hV.cells
    obtain ⟨s0, s1, s2, s3⟩ := hP.cells
    simp only [gotRet]
    go_wp2_with fail
    clear v0 v1 v2 p0 p1 p2 p3 s0 s1 s2 s3
    refine (implFits_any c k false true k y s _).mono ?_
    rw [fitsI_self]
    obtain ⟨o, ho⟩ : ∃ o, Hid (okF k y s = o) := ⟨_, rfl⟩
    rw [ho.out]
    rintro e w7 ⟨rfl, hb⟩
    replace hV := hV.below hb
    replace hP := hP.below hb
    replace hR := hR.below hb
    replace hB := hB.trans (hb.mono hB.size)
    clear hb
    obtain ⟨v0, v1, v2⟩ := hV.cells
    cases o with
    | false =>
      have HG : Hid (nextI n (flipF f p) k false p = .no) := by
        show _ = _
        rw [HN.out, hr.out]
        unfold Got.chk
        rw [ho.out]
        rfl
      clear hV hr ho
      obtain ⟨p0, p1, p2, p3⟩ := hP.cells
      obtain ⟨x0, x1, x2⟩ := hR.cells
      obtain ⟨r0, r1, r2⟩ := hR.frozen
      have hgs := stored3 (.int .i64 0) (.int .i64 0) (.string ⟨#[]⟩) x0 x1 x2
      have HB : Hid (Below w.heap.size w (((w7.setCell ⟨w.heap.size + 1, 0, none⟩ (.int .i64 0)).setCell ⟨w.heap.size + 1, 1, none⟩ (.int .i64 0)).setCell ⟨w.heap.size + 1, 2, none⟩ (.string ⟨#[]⟩))) := ((hB.setCell (Nat.le_succ _) _).setCell (Nat.le_succ _) _).setCell (Nat.le_succ _) _
      clear hP hR hB
      go_wp2
      exact bodyPost_ret (v := .tuple #[.agg #[.int .i64 0, .int .i64 0, .string ⟨#[]⟩], .int .i64 0, .bool false]) (by simp [results, Try.results67, go_sem, hgs]) rfl ⟨by rw [HG.out]; rfl, HB.out⟩
    | true =>
      have HG : Hid (nextI n (flipF f p) k false p = ⟨k, y, s, q, true⟩) := by
        show _ = _
        rw [HN.out, hr.out]
        unfold Got.chk
        rw [ho.out]
        rfl
      clear hV hr ho
      obtain ⟨p0, p1, p2, p3⟩ := hP.cells
      obtain ⟨x0, x1, x2⟩ := hR.cells
      obtain ⟨r0, r1, r2⟩ := hR.frozen
      have hgs := stored3 (.int .i64 k) (.int .i64 y) (.string s) x0 x1 x2
      have HB : Hid (Below w.heap.size w (((w7.setCell ⟨w.heap.size + 1, 0, none⟩ (.int .i64 k)).setCell ⟨w.heap.size + 1, 1, none⟩ (.int .i64 y)).setCell ⟨w.heap.size + 1, 2, none⟩ (.string s))) := ((hB.setCell (Nat.le_succ _) _).setCell (Nat.le_succ _) _).setCell (Nat.le_succ _) _
      clear hP hR hB
      go_wp2
      exact bodyPost_ret (v := .tuple #[.agg #[.int .i64 k, .int .i64 y, .string s], .int .i64 q, .bool true]) (by simp [results, Try.results67, go_sem, hgs]) rfl ⟨by rw [HG.out]; rfl, HB.out⟩

set_option maxHeartbeats 8000000 in
theorem getPart_tf (b off n cap : Nat) (f : Nat → Int) (c t : Int) (p : Int) (w : World) (hv : View w (some ⟨b, off, none⟩) n cap f) (hn : n ≤ 10000000) (hp1 : p ≤ 9223372036854775807) (hok : partOk c t = true) (ht : 1 ≤ t ∧ t ≤ 4) (FF GG : Nat) (hF : (formV t).1 = .func (.func FF) #[] #[]) (hG : (formV t).2 = .func (.func GG) #[] #[]) (hE : EntersG GG) (hW : ∀ n f p, n ≤ 10000000 → p ≤ 9223372036854775807 → ReadsV GG n f p (rawI n f t p)) :
    Calls Try.prog 67 #[.slice (some ⟨b, off, none⟩) n cap, .agg #[.int .i64 c, .int .i64 t, .bool true, .bool false], .int .i64 p] w fun e w' => e = gotRet (nextI n f t true p) ∧ Below w.heap.size w w' := by
  have hP := (PBox.new w c t true false).below ((Below.refl _ _).alloc (Nat.le_refl _) (.cells #[.int .i64 0, .int .i64 0, .string ⟨#[]⟩] 59))
  have hR := Box.new (w.alloc (.cells #[.int .i64 c, .int .i64 t, .bool true, .bool false] 51)) 0 0 ⟨#[]⟩
  rw [show (w.alloc (.cells #[.int .i64 c, .int .i64 t, .bool true, .bool false] 51)).heap.size = w.heap.size + 1 by simp] at hR
  have hB : Below w.heap.size w ((w.alloc (.cells #[.int .i64 c, .int .i64 t, .bool true, .bool false] 51)).alloc (.cells #[.int .i64 0, .int .i64 0, .string ⟨#[]⟩] 59)) := ((Below.refl _ _).alloc (Nat.le_refl _) _).alloc (by simp) _
  go_enter Try.func67, Try.ntmps67
  go_wp2_with fail
  refine (implPartOk_any c t true false _).mono ?_
  rw [hok]
  rintro e w1 ⟨rfl, hb⟩
  replace hP := hP.below hb
  replace hR := hR.below hb
  replace hB := hB.trans (hb.mono hB.size)
  clear hb
  have hx := hv.below hB
  rcases getB_cases (p := p) hx.byte with hgb | ⟨hpp, hgb | hgb⟩
  ·
    have HG : Hid (nextI n f t true p = .no) := by show _ = _; unfold nextI; rw [hgb]; rfl
    have hgh : Hid (getB n f p = (0, 0, false)) := hgb
    clear hgb
    obtain ⟨p0, p1, p2, p3⟩ := hP.cells
    go_wp2_with fail
    clear p0 p1 p2 p3
    refine (getBit_any b off n cap f p _ hgh hx (by omega) hp1).mono ?_
    rintro e w3 ⟨rfl, hb⟩
    replace hP := hP.below hb
    replace hR := hR.below hb
    replace hx := hx.below hb
    replace hB := hB.trans (hb.mono hB.size)
    clear hb
    clear hgh
    clear hx
    obtain ⟨p0, p1, p2, p3⟩ := hP.cells
    obtain ⟨x0, x1, x2⟩ := hR.cells
    obtain ⟨r0, r1, r2⟩ := hR.frozen
    have hgs := stored3 (.int .i64 0) (.int .i64 0) (.string ⟨#[]⟩) x0 x1 x2
    have HB : Hid (Below w.heap.size w (((w3.setCell ⟨w.heap.size + 1, 0, none⟩ (.int .i64 0)).setCell ⟨w.heap.size + 1, 1, none⟩ (.int .i64 0)).setCell ⟨w.heap.size + 1, 2, none⟩ (.string ⟨#[]⟩))) := ((hB.setCell (Nat.le_succ _) _).setCell (Nat.le_succ _) _).setCell (Nat.le_succ _) _
    clear hP hR hB
    go_wp2
    exact bodyPost_ret (v := .tuple #[.agg #[.int .i64 0, .int .i64 0, .string ⟨#[]⟩], .int .i64 0, .bool false]) (by simp [results, Try.results67, go_sem, hgs]) rfl ⟨by rw [HG.out]; rfl, HB.out⟩
  ·
    have HG : Hid (nextI n f t true p = ⟨0, 0, noBytes, p + 1, true⟩) := by show _ = _; unfold nextI; rw [hgb]; rfl
    have hgh : Hid (getB n f p = (0, (p + 1), true)) := hgb
    clear hgb
    obtain ⟨p0, p1, p2, p3⟩ := hP.cells
    go_wp2_with fail
    clear p0 p1 p2 p3
    refine (getBit_any b off n cap f p _ hgh hx (by omega) hp1).mono ?_
    rintro e w3 ⟨rfl, hb⟩
    replace hP := hP.below hb
    replace hR := hR.below hb
    replace hx := hx.below hb
    replace hB := hB.trans (hb.mono hB.size)
    clear hb
    clear hgh
    clear hx
    obtain ⟨p0, p1, p2, p3⟩ := hP.cells
    obtain ⟨x0, x1, x2⟩ := hR.cells
    obtain ⟨r0, r1, r2⟩ := hR.frozen
    have hgs := stored3 (.int .i64 0) (.int .i64 0) (.string ⟨#[]⟩) x0 x1 x2
    have HB : Hid (Below w.heap.size w (((w3.setCell ⟨w.heap.size + 1, 0, none⟩ (.int .i64 0)).setCell ⟨w.heap.size + 1, 1, none⟩ (.int .i64 0)).setCell ⟨w.heap.size + 1, 2, none⟩ (.string ⟨#[]⟩))) := ((hB.setCell (Nat.le_succ _) _).setCell (Nat.le_succ _) _).setCell (Nat.le_succ _) _
    clear hP hR hB
    go_wp2
    exact bodyPost_ret (v := .tuple #[.agg #[.int .i64 0, .int .i64 0, .string ⟨#[]⟩], .int .i64 (p + 1), .bool true]) (by simp [results, Try.results67, go_sem, hgs]) rfl ⟨by rw [HG.out]; rfl, HB.out⟩
  ·
    have HN : Hid (nextI n f t true p = (rawI n f t (p + 1)).chk) := by show _ = _; unfold nextI; rw [hgb]; rfl
    have hgh : Hid (getB n f p = (1, (p + 1), true)) := hgb
    clear hgb
    obtain ⟨p0, p1, p2, p3⟩ := hP.cells
    go_wp2_with fail
    clear p0 p1 p2 p3
    refine (getBit_any b off n cap f p _ hgh hx (by omega) hp1).mono ?_
    rintro e w3 ⟨rfl, hb⟩
    replace hP := hP.below hb
    replace hR := hR.below hb
    replace hx := hx.below hb
    replace hB := hB.trans (hb.mono hB.size)
    clear hb
    clear hgh
    obtain ⟨p0, p1, p2, p3⟩ := hP.cells
    go_wp2_with fail
    clear p0 p1 p2 p3
    refine (formOf_any t _ ht).mono ?_
    rw [hF, hG]
    rintro e w5 ⟨rfl, hb⟩
    replace hP := hP.below hb
    replace hR := hR.below hb
    replace hx := hx.below hb
    replace hB := hB.trans (hb.mono hB.size)
    clear hb
    have fg := form_get FF GG
    have hEG : ∀ (args : Array Value) (W : World), (callFunc GG args).run Try.prog W = .ok (.enter GG args) W := hE
    obtain ⟨k, y, s, q, ok, hr⟩ : ∃ k y s q ok, Hid (rawI n f t (p + 1) = ⟨k, y, s, q, ok⟩) := ⟨_, _, _, _, _, rfl⟩
    obtain rfl : k = t := by have := rawI_k (n := n) (f := f) (p := (p + 1)) ht; rw [hr.out] at this; exact this
    obtain ⟨p0, p1, p2, p3⟩ := hP.cells
    go_wp2_with fail
    clear p0 p1 p2 p3
    clear fg hEG
    refine (hW n f (p + 1) hn (by omega) _ _ _ _ hx).mono ?_
    rw [hr.out]
    rintro e w6 ⟨rfl, hb⟩
    have hb0 := hb
    replace hP := hP.below hb
    replace hR := hR.below hb
    replace hB := hB.trans (hb.mono hB.size)
    clear hb
    have hlt6 : w.heap.size + 1 < w6.heap.size := hR.lt
    clear hb0 hx
    cases ok with
    | false =>
      have HG : Hid (nextI n f k true p = .no) := by
        show _ = _
        rw [HN.out]
        exact chk_no (by rw [hr.out])
      obtain ⟨p0, p1, p2, p3⟩ := hP.cells
      obtain ⟨x0, x1, x2⟩ := hR.cells
      obtain ⟨r0, r1, r2⟩ := hR.frozen
      have hgs := stored3A (.int .i64 0) (.int .i64 0) (.string ⟨#[]⟩) x0 x1 x2 hR.lt (.cells #[.int .i64 k, .int .i64 y, .string s] 59)
      have HB : Hid (Below w.heap.size w ((((w6.setCell ⟨w.heap.size + 1, 0, none⟩ (.int .i64 0)).setCell ⟨w.heap.size + 1, 1, none⟩ (.int .i64 0)).setCell ⟨w.heap.size + 1, 2, none⟩ (.string ⟨#[]⟩)).alloc (.cells #[.int .i64 k, .int .i64 y, .string s] 59))) := (((hB.setCell (Nat.le_succ _) _).setCell (Nat.le_succ _) _).setCell (Nat.le_succ _) _).alloc (by simpa using hB.size) _
      clear hP hR hB hr
      simp only [gotRet]
      go_wp2
      exact bodyPost_ret (v := .tuple #[.agg #[.int .i64 0, .int .i64 0, .string ⟨#[]⟩], .int .i64 0, .bool false]) (by simp [results, Try.results67, go_sem, hgs]) rfl ⟨by rw [HG.out]; rfl, HB.out⟩
    | true =>
      have hV := Box.new w6 k y s
      have hb : Below w6.heap.size w6 (w6.alloc (.cells #[.int .i64 k, .int .i64 y, .string s] 59)) := (Below.refl _ _).alloc (Nat.le_refl _) _
      obtain ⟨p0, p1, p2, p3⟩ := hP.cells
      replace hP := hP.below hb
      replace hR := hR.below hb
      replace hB := hB.trans (hb.mono hB.size)
      clear hb
      obtain ⟨v0, v1, v2⟩ := hV.cells
      obtain ⟨s0, s1, s2, s3⟩ := hP.cells
      simp only [gotRet]
      go_wp2_with fail
      clear v0 v1 v2 p0 p1 p2 p3 s0 s1 s2 s3
      refine (implFits_any c k true false k y s _).mono ?_
      rw [fitsI_self]
      obtain ⟨o, ho⟩ : ∃ o, Hid (okF k y s = o) := ⟨_, rfl⟩
      rw [ho.out]
      rintro e w7 ⟨rfl, hb⟩
      replace hV := hV.below hb
      replace hP := hP.below hb
      replace hR := hR.below hb
      replace hB := hB.trans (hb.mono hB.size)
      clear hb
      obtain ⟨v0, v1, v2⟩ := hV.cells
      cases o with
      | false =>
        have HG : Hid (nextI n f k true p = .no) := by
          show _ = _
          rw [HN.out, hr.out]
          unfold Got.chk
          rw [ho.out]
          rfl
        clear hV hr ho
        obtain ⟨p0, p1, p2, p3⟩ := hP.cells
        obtain ⟨x0, x1, x2⟩ := hR.cells
        obtain ⟨r0, r1, r2⟩ := hR.frozen
        have hgs := stored3 (.int .i64 0) (.int .i64 0) (.string ⟨#[]⟩) x0 x1 x2
        have HB : Hid (Below w.heap.size w (((w7.setCell ⟨w.heap.size + 1, 0, none⟩ (.int .i64 0)).setCell ⟨w.heap.size + 1, 1, none⟩ (.int .i64 0)).setCell ⟨w.heap.size + 1, 2, none⟩ (.string ⟨#[]⟩))) := ((hB.setCell (Nat.le_succ _) _).setCell (Nat.le_succ _) _).setCell (Nat.le_succ _) _
        clear hP hR hB
        go_wp2
        exact bodyPost_ret (v := .tuple #[.agg #[.int .i64 0, .int .i64 0, .string ⟨#[]⟩], .int .i64 0, .bool false]) (by simp [results, Try.results67, go_sem, hgs]) rfl ⟨by rw [HG.out]; rfl, HB.out⟩
      | true =>
        have HG : Hid (nextI n f k true p = ⟨k, y, s, q, true⟩) := by
          show _ = _
          rw [HN.out, hr.out]
          unfold Got.chk
          rw [ho.out]
          rfl
        clear hV hr ho
        obtain ⟨p0, p1, p2, p3⟩ := hP.cells
        obtain ⟨x0, x1, x2⟩ := hR.cells
        obtain ⟨r0, r1, r2⟩ := hR.frozen
        have hgs := stored3 (.int .i64 k) (.int .i64 y) (.string s) x0 x1 x2
        have HB : Hid (Below w.heap.size w (((w7.setCell ⟨w.heap.size + 1, 0, none⟩ (.int .i64 k)).setCell ⟨w.heap.size + 1, 1, none⟩ (.int .i64 y)).setCell ⟨w.heap.size + 1, 2, none⟩ (.string s))) := ((hB.setCell (Nat.le_succ _) _).setCell (Nat.le_succ _) _).setCell (Nat.le_succ _) _
        clear hP hR hB
        go_wp2
        exact bodyPost_ret (v := .tuple #[.agg #[.int .i64 k, .int .i64 y, .string s], .int .i64 q, .bool true]) (by simp [results, Try.results67, go_sem, hgs]) rfl ⟨by rw [HG.out]; rfl, HB.out⟩

set_option maxHeartbeats 8000000 in
theorem getPart_tt (b off n cap : Nat) (f : Nat → Int) (c t : Int) (p : Int) (w : World) (hv : View w (some ⟨b, off, none⟩) n cap f) (hn : n ≤ 10000000) (hp1 : p ≤ 9223372036854775807) (hok : partOk c t = true) (ht : 1 ≤ t ∧ t ≤ 4) (FF GG : Nat) (hF : (formV t).1 = .func (.func FF) #[] #[]) (hG : (formV t).2 = .func (.func GG) #[] #[]) (hE : EntersG GG) (hW : ∀ n f p, n ≤ 10000000 → p ≤ 9223372036854775807 → ReadsV GG n f p (rawI n f t p)) :
    Calls Try.prog 67 #[.slice (some ⟨b, off, none⟩) n cap, .agg #[.int .i64 c, .int .i64 t, .bool true, .bool true], .int .i64 p] w fun e w' => e = gotRet (nextI n (flipF f p) t true p) ∧ Below w.heap.size w w' := by
  have hP := (PBox.new w c t true true).below ((Below.refl _ _).alloc (Nat.le_refl _) (.cells #[.int .i64 0, .int .i64 0, .string ⟨#[]⟩] 59))
  have hR := Box.new (w.alloc (.cells #[.int .i64 c, .int .i64 t, .bool true, .bool true] 51)) 0 0 ⟨#[]⟩
  rw [show (w.alloc (.cells #[.int .i64 c, .int .i64 t, .bool true, .bool true] 51)).heap.size = w.heap.size + 1 by simp] at hR
  have hB : Below w.heap.size w ((w.alloc (.cells #[.int .i64 c, .int .i64 t, .bool true, .bool true] 51)).alloc (.cells #[.int .i64 0, .int .i64 0, .string ⟨#[]⟩] 59)) := ((Below.refl _ _).alloc (Nat.le_refl _) _).alloc (by simp) _
  go_enter Try.func67, Try.ntmps67
  go_wp2_with fail
  refine (implPartOk_any c t true true _).mono ?_
  rw [hok]
  rintro e w1 ⟨rfl, hb⟩
  replace hP := hP.below hb
  replace hR := hR.below hb
  replace hB := hB.trans (hb.mono hB.size)
  clear hb
  have hx := hv.below hB
  obtain ⟨p0, p1, p2, p3⟩ := hP.cells
  go_wp2_with fail
  clear p0 p1 p2 p3
  refine (flip_impl b off n cap f p _ hx (by omega) hp1).mono ?_
  rintro e w2 ⟨gx, cx, rfl, -, hcx, hrx, hb⟩
  replace hx := hrx.view hcx (flipF_byte p hx.byte)
  clear hrx
  replace hP := hP.below hb
  replace hR := hR.below hb
  replace hB := hB.trans (hb.mono hB.size)
  clear hb
  rcases getB_cases (p := p) hx.byte with hgb | ⟨hpp, hgb | hgb⟩
  ·
    have HG : Hid (nextI n (flipF f p) t true p = .no) := by show _ = _; unfold nextI; rw [hgb]; rfl
    have hgh : Hid (getB n (flipF f p) p = (0, 0, false)) := hgb
    clear hgb
    obtain ⟨p0, p1, p2, p3⟩ := hP.cells
    go_wp2_with fail
    clear p0 p1 p2 p3
    refine (getBit_any gx 0 n cx (flipF f p) p _ hgh hx (by omega) hp1).mono ?_
    rintro e w3 ⟨rfl, hb⟩
    replace hP := hP.below hb
    replace hR := hR.below hb
    replace hx := hx.below hb
    replace hB := hB.trans (hb.mono hB.size)
    clear hb
    clear hgh
    clear hx
    obtain ⟨p0, p1, p2, p3⟩ := hP.cells
    obtain ⟨x0, x1, x2⟩ := hR.cells
    obtain ⟨r0, r1, r2⟩ := hR.frozen
    have hgs := stored3 (.int .i64 0) (.int .i64 0) (.string ⟨#[]⟩) x0 x1 x2
    have HB : Hid (Below w.heap.size w (((w3.setCell ⟨w.heap.size + 1, 0, none⟩ (.int .i64 0)).setCell ⟨w.heap.size + 1, 1, none⟩ (.int .i64 0)).setCell ⟨w.heap.size + 1, 2, none⟩ (.string ⟨#[]⟩))) := ((hB.setCell (Nat.le_succ _) _).setCell (Nat.le_succ _) _).setCell (Nat.le_succ _) _
    clear hP hR hB
    go_wp2
    exact bodyPost_ret (v := .tuple #[.agg #[.int .i64 0, .int .i64 0, .string ⟨#[]⟩], .int .i64 0, .bool false]) (by simp [results, Try.results67, go_sem, hgs]) rfl ⟨by rw [HG.out]; rfl, HB.out⟩
  ·
    have HG : Hid (nextI n (flipF f p) t true p = ⟨0, 0, noBytes, p + 1, true⟩) := by show _ = _; unfold nextI; rw [hgb]; rfl
    have hgh : Hid (getB n (flipF f p) p = (0, (p + 1), true)) := hgb
    clear hgb
    obtain ⟨p0, p1, p2, p3⟩ := hP.cells
    go_wp2_with fail
    clear p0 p1 p2 p3
    refine (getBit_any gx 0 n cx (flipF f p) p _ hgh hx (by omega) hp1).mono ?_
    rintro e w3 ⟨rfl, hb⟩
    replace hP := hP.below hb
    replace hR := hR.below hb
    replace hx := hx.below hb
    replace hB := hB.trans (hb.mono hB.size)
    clear hb
    clear hgh
    clear hx
    obtain ⟨p0, p1, p2, p3⟩ := hP.cells
    obtain ⟨x0, x1, x2⟩ := hR.cells
    obtain ⟨r0, r1, r2⟩ := hR.frozen
    have hgs := stored3 (.int .i64 0) (.int .i64 0) (.string ⟨#[]⟩) x0 x1 x2
    have HB : Hid (Below w.heap.size w (((w3.setCell ⟨w.heap.size + 1, 0, none⟩ (.int .i64 0)).setCell ⟨w.heap.size + 1, 1, none⟩ (.int .i64 0)).setCell ⟨w.heap.size + 1, 2, none⟩ (.string ⟨#[]⟩))) := ((hB.setCell (Nat.le_succ _) _).setCell (Nat.le_succ _) _).setCell (Nat.le_succ _) _
    clear hP hR hB
    go_wp2
    exact bodyPost_ret (v := .tuple #[.agg #[.int .i64 0, .int .i64 0, .string ⟨#[]⟩], .int .i64 (p + 1), .bool true]) (by simp [results, Try.results67, go_sem, hgs]) rfl ⟨by rw [HG.out]; rfl, HB.out⟩
  ·
    have HN : Hid (nextI n (flipF f p) t true p = (rawI n (flipF f p) t (p + 1)).chk) := by show _ = _; unfold nextI; rw [hgb]; rfl
    have hgh : Hid (getB n (flipF f p) p = (1, (p + 1), true)) := hgb
    clear hgb
    obtain ⟨p0, p1, p2, p3⟩ := hP.cells
    go_wp2_with fail
    clear p0 p1 p2 p3
    refine (getBit_any gx 0 n cx (flipF f p) p _ hgh hx (by omega) hp1).mono ?_
    rintro e w3 ⟨rfl, hb⟩
    replace hP := hP.below hb
    replace hR := hR.below hb
    replace hx := hx.below hb
    replace hB := hB.trans (hb.mono hB.size)
    clear hb
    clear hgh
    obtain ⟨p0, p1, p2, p3⟩ := hP.cells
    go_wp2_with fail
    clear p0 p1 p2 p3
    refine (formOf_any t _ ht).mono ?_
    rw [hF, hG]
    rintro e w5 ⟨rfl, hb⟩
    replace hP := hP.below hb
    replace hR := hR.below hb
    replace hx := hx.below hb
    replace hB := hB.trans (hb.mono hB.size)
    clear hb
    have fg := form_get FF GG
    have hEG : ∀ (args : Array Value) (W : World), (callFunc GG args).run Try.prog W = .ok (.enter GG args) W := hE
    obtain ⟨k, y, s, q, ok, hr⟩ : ∃ k y s q ok, Hid (rawI n (flipF f p) t (p + 1) = ⟨k, y, s, q, ok⟩) := ⟨_, _, _, _, _, rfl⟩
    obtain rfl : k = t := by have := rawI_k (n := n) (f := (flipF f p)) (p := (p + 1)) ht; rw [hr.out] at this; exact this
    obtain ⟨p0, p1, p2, p3⟩ := hP.cells
    go_wp2_with fail
    clear p0 p1 p2 p3
    clear fg hEG
    refine (hW n (flipF f p) (p + 1) hn (by omega) _ _ _ _ hx).mono ?_
    rw [hr.out]
    rintro e w6 ⟨rfl, hb⟩
    have hb0 := hb
    replace hP := hP.below hb
    replace hR := hR.below hb
    replace hB := hB.trans (hb.mono hB.size)
    clear hb
    have hlt6 : w.heap.size + 1 < w6.heap.size := hR.lt
    clear hb0 hx
    cases ok with
    | false =>
      have HG : Hid (nextI n (flipF f p) k true p = .no) := by
        show _ = _
        rw [HN.out]
        exact chk_no (by rw [hr.out])
      obtain ⟨p0, p1, p2, p3⟩ := hP.cells
      obtain ⟨x0, x1, x2⟩ := hR.cells
      obtain ⟨r0, r1, r2⟩ := hR.frozen
      have hgs := stored3A (.int .i64 0) (.int .i64 0) (.string ⟨#[]⟩) x0 x1 x2 hR.lt (.cells #[.int .i64 k, .int .i64 y, .string s] 59)
      have HB : Hid (Below w.heap.size w ((((w6.setCell ⟨w.heap.size + 1, 0, none⟩ (.int .i64 0)).setCell ⟨w.heap.size + 1, 1, none⟩ (.int .i64 0)).setCell ⟨w.heap.size + 1, 2, none⟩ (.string ⟨#[]⟩)).alloc (.cells #[.int .i64 k, .int .i64 y, .string s] 59))) := (((hB.setCell (Nat.le_succ _) _).setCell (Nat.le_succ _) _).setCell (Nat.le_succ _) _).alloc (by simpa using hB.size) _
      clear hP hR hB hr
      simp only [gotRet]
      go_wp2
      exact bodyPost_ret (v := .tuple #[.agg #[.int .i64 0, .int .i64 0, .string ⟨#[]⟩], .int .i64 0, .bool false]) (by simp [results, Try.results67, go_sem, hgs]) rfl ⟨by rw [HG.out]; rfl, HB.out⟩
    | true =>
      have hV := Box.new w6 k y s
      have hb : Below w6.heap.size w6 (w6.alloc (.cells #[.int .i64 k, .int .i64 y, .string s] 59)) := (Below.refl _ _).alloc (Nat.le_refl _) _
      obtain ⟨p0, p1, p2, p3⟩ := hP.cells
      replace hP := hP.below hb
      replace hR := hR.below hb
      replace hB := hB.trans (hb.mono hB.size)
      clear hb
      obtain ⟨v0, v1, v2⟩ := hV.cells
      obtain ⟨s0, s1, s2, s3⟩ := hP.cells
      simp only [gotRet]
      go_wp2_with fail
      clear v0 v1 v2 p0 p1 p2 p3 s0 s1 s2 s3
      refine (implFits_any c k true true k y s _).mono ?_
      rw [fitsI_self]
      obtain ⟨o, ho⟩ : ∃ o, Hid (okF k y s = o) := ⟨_, rfl⟩
      rw [ho.out]
      rintro e w7 ⟨rfl, hb⟩
      replace hV := hV.below hb
      replace hP := hP.below hb
      replace hR := hR.below hb
      replace hB := hB.trans (hb.mono hB.size)
      clear hb
      obtain ⟨v0, v1, v2⟩ := hV.cells
      cases o with
      | false =>
        have HG : Hid (nextI n (flipF f p) k true p = .no) := by
          show _ = _
          rw [HN.out, hr.out]
          unfold Got.chk
          rw [ho.out]
          rfl
        clear hV hr ho
        obtain ⟨p0, p1, p2, p3⟩ := hP.cells
        obtain ⟨x0, x1, x2⟩ := hR.cells
        obtain ⟨r0, r1, r2⟩ := hR.frozen
        have hgs := stored3 (.int .i64 0) (.int .i64 0) (.string ⟨#[]⟩) x0 x1 x2
        have HB : Hid (Below w.heap.size w (((w7.setCell ⟨w.heap.size + 1, 0, none⟩ (.int .i64 0)).setCell ⟨w.heap.size + 1, 1, none⟩ (.int .i64 0)).setCell ⟨w.heap.size + 1, 2, none⟩ (.string ⟨#[]⟩))) := ((hB.setCell (Nat.le_succ _) _).setCell (Nat.le_succ _) _).setCell (Nat.le_succ _) _
        clear hP hR hB
        go_wp2
        exact bodyPost_ret (v := .tuple #[.agg #[.int .i64 0, .int .i64 0, .string ⟨#[]⟩], .int .i64 0, .bool false]) (by simp [results, Try.results67, go_sem, hgs]) rfl ⟨by rw [HG.out]; rfl, HB.out⟩
      | true =>
        have HG : Hid (nextI n (flipF f p) k true p = ⟨k, y, s, q, true⟩) := by
          show _ = _
          rw [HN.out, hr.out]
          unfold Got.chk
          rw [ho.out]
          rfl
        clear hV hr ho
        obtain ⟨p0, p1, p2, p3⟩ := hP.cells
        obtain ⟨x0, x1, x2⟩ := hR.cells
        obtain ⟨r0, r1, r2⟩ := hR.frozen
        have hgs := stored3 (.int .i64 k) (.int .i64 y) (.string s) x0 x1 x2
        have HB : Hid (Below w.heap.size w (((w7.setCell ⟨w.heap.size + 1, 0, none⟩ (.int .i64 k)).setCell ⟨w.heap.size + 1, 1, none⟩ (.int .i64 y)).setCell ⟨w.heap.size + 1, 2, none⟩ (.string s))) := ((hB.setCell (Nat.le_succ _) _).setCell (Nat.le_succ _) _).setCell (Nat.le_succ _) _
        clear hP hR hB
        go_wp2
        exact bodyPost_ret (v := .tuple #[.agg #[.int .i64 k, .int .i64 y, .string s], .int .i64 q, .bool true]) (by simp [results, Try.results67, go_sem, hgs]) rfl ⟨by rw [HG.out]; rfl, HB.out⟩


theorem getPart_impl (b off n cap : Nat) (f : Nat → Int) (c t : Int) (nul d : Bool) (p : Int) (w : World) (hv : View w (some ⟨b, off, none⟩) n cap f) (hn : n ≤ 10000000) (hp1 : p ≤ 9223372036854775807) :
    Calls Try.prog 67 #[.slice (some ⟨b, off, none⟩) n cap, .agg #[.int .i64 c, .int .i64 t, .bool nul, .bool d], .int .i64 p] w fun e w' => e = gotRet (getP n f c t nul d p) ∧ Below w.heap.size w w' := by
  cases hok : partOk c t with
  | false => rw [getP_no hok]; exact getPart_no b off n cap f c t nul d p w hv hn hp1 hok
  | true =>
    have ht : 1 ≤ t ∧ t ≤ 4 := by unfold partOk at hok; simp at hok; omega
    obtain ⟨F, G, hF, hG, hE, hW⟩ := formGet ht
    have hb := hv.byte
    cases d with
    | false =>
      rw [← nextI_is (F := f) hok ht hb (fun _ _ => rfl)]
      cases nul with
      | false => exact getPart_ff b off n cap f c t p w hv hn hp1 hok ht F G hF hG hE hW
      | true => exact getPart_tf b off n cap f c t p w hv hn hp1 hok ht F G hF hG hE hW
    | true =>
      rw [← nextI_is (F := flipF f p) hok ht hb (fun i hi => by unfold flipF turned; rw [if_pos hi]; rfl)]
      cases nul with
      | false => exact getPart_ft b off n cap f c t p w hv hn hp1 hok ht F G hF hG hE hW
      | true => exact getPart_tt b off n cap f c t p w hv hn hp1 hok ht F G hF hG hE hW
end Go.Proofs.Ytclegljalndaear

/-
  The program's valsInBytes: each value that the bytes have, with the place behind it.
-/
namespace Go.Proofs.Ytclegljalndaear
open Go.RowKit
set_option maxRecDepth 4000

attribute [local go_sem] Oper.semAt_some

/-- A value and the place behind it, as they are yielded. -/
abbrev encG (x : Got) : Array Value := #[.int .i64 x.q, .agg #[.int .i64 x.k, .int .i64 x.n, .string x.s]]
/-- What has come when j values were read. -/
def gotU (N : Nat) (F : Nat → Int) (fc ft : Nat → Int) (fu fd : Nat → Bool) (j : Nat) : List Got := (List.range j).map (decG N F fc ft fu fd)
theorem gotU_succ (N : Nat) (F : Nat → Int) (fc ft : Nat → Int) (fu fd : Nat → Bool) (j : Nat) : gotU N F fc ft fu fd (j + 1) = gotU N F fc ft fu fd j ++ [decG N F fc ft fu fd j] := by simp [gotU, List.range_succ]
theorem gotU_len (N : Nat) (F : Nat → Int) (fc ft : Nat → Int) (fu fd : Nat → Bool) (j : Nat) : (gotU N F fc ft fu fd j).length = j := by simp [gotU]
/-- All that the bytes have, up to the first part that has none there. -/
def GotAll (N : Nat) (F : Nat → Int) (fc ft : Nat → Int) (fu fd : Nat → Bool) (n : Nat) (xs : List Got) : Prop :=
  ∃ r p, r ≤ n ∧ decQ N F fc ft fu fd r = some p ∧ (r < n → decQ N F fc ft fu fd (r + 1) = none) ∧ xs = gotU N F fc ft fu fd r

set_option linter.unusedSimpArgs false in
set_option maxRecDepth 100000 in
set_option maxHeartbeats 4000000 in
theorem inBytes1_in (NN : Nat) (hNN : 1 ≤ NN) (l Bl Bv : Nat) (a : Option Addr) (n cap : Nat) (fc ft : Nat → Int) (fu fd : Nat → Bool) (b off N cb : Nat) (F : Nat → Int) (w : World) (hp : PView w a n cap fc ft fu fd) (hq : View w (some ⟨b, off, none⟩) N cb F) (hn : n ≤ 281474976710656) (hN : N ≤ 10000000)
    (J Jx : List Got → World → Prop) (W : World) (hJ : AbidesFrom W.heap.size J)
    (hY : ∀ pre x W1, J pre W1 → pre.length < n → YieldAt Fence.wide (NN - 1) Try.prog l (encG x) W1 fun e W' =>
      (e = .returned (.bool true) ∧ J (pre ++ [x]) W' ∧ KpB w.heap.size Bl Bv W1 W') ∨ (e = .returned (.bool false) ∧ Jx (pre ++ [x]) W'))
    (hb : Below w.heap.size w W) (hl : Boxed W Bl 25 (.slice a n cap)) (hv : Boxed W Bv 36 (.slice (some ⟨b, off, none⟩) N cb)) (h0 : J [] W) :
    CallsIn Fence.wide NN Try.prog 66 #[.func (.yield l) #[] #[], .pointer (some ⟨Bl, 0, none⟩), .pointer (some ⟨Bv, 0, none⟩)] W fun e W' => (∃ v, e = .returned v) ∧
      ((∃ xs, GotAll N F fc ft fu fd n xs ∧ J xs W') ∨ (∃ pre, True ∧ Jx pre W')) := by
  refine callsIn_of_wp Try.func66 rfl trivial ?_ rfl
  simp only [Try.ntmps66, List.size_toArray, List.length_cons, List.length_nil, Nat.reduceAdd, Nat.reduceSub, Array.replicate_succ, Array.replicate_zero, List.push_toArray, List.append_toArray, List.nil_append, List.cons_append]
  have cl := hl.cell
  have cv := hv.cell
  gi_wp2
  gi_loopw [4, 12] (fun at' i wr => ∃ (j : Nat) (p : Int), j ≤ n ∧ at' = .int .i64 p ∧ i = .int .i64 j ∧ decQ N F fc ft fu fd j = some p ∧ J (gotU N F fc ft fu fd j) wr ∧ KpB w.heap.size Bl Bv W wr) (fun _ i _ => n - (intOf i).toNat)
  case atStart => exact ⟨0, 0, Nat.zero_le _, rfl, rfl, rfl, h0, KpB.refl _ _ _ _⟩
  case round =>
    obtain ⟨j, p, hj, rfl, rfl, hdq, hJs, hk⟩ := hrel
    by_cases hlt : j < n
    · have hbw : Below w.heap.size w wr := hb.trans hk.below
      obtain ⟨b1, o1, rfl, hb1, hd1⟩ := (hp.below hbw).cells (by omega)
      obtain ⟨x0, x1, x2, x3⟩ := hd1 j (by omega)
      have bv' := Boxed.kpv hv hk
      have bl' := Boxed.kpl hl hk
      have hjz : (j : Int) < (n : Int) := by omega
      have hpb := decQ_bd hq.byte hdq
      have hws := hbw.size
      obtain ⟨kk, y, s, q, ok, hg⟩ : ∃ kk y s q ok, getP N F (fc j) (ft j) (fu j) (fd j) p = ⟨kk, y, s, q, ok⟩ := ⟨_, _, _, _, _, rfl⟩
      have hG : ∀ W1, Below w.heap.size w W1 → Calls Try.prog 67 #[.slice (some ⟨b, off, none⟩) N cb, .agg #[.int .i64 (fc j), .int .i64 (ft j), .bool (fu j), .bool (fd j)], .int .i64 p] W1 fun e w' => e = .returned (.tuple #[.agg #[.int .i64 kk, .int .i64 y, .string s], .int .i64 q, .bool ok]) ∧ Below W1.heap.size W1 w' := fun W1 hb => by
        refine (getPart_impl b off N cb F (fc j) (ft j) (fu j) (fd j) p W1 (hq.below hb) hN (by omega)).mono ?_
        rintro e w' ⟨rfl, h⟩
        exact ⟨by rw [hg]; rfl, h⟩
      have hdg : decG N F fc ft fu fd j = ⟨kk, y, s, q, ok⟩ := by unfold decG; rw [hdq]; exact hg
      have hd2 : decQ N F fc ft fu fd (j + 1) = if ok then some q else none := by rw [decQ, hdq]; show (if (getP N F (fc j) (ft j) (fu j) (fd j) p).ok = true then _ else _) = _; rw [hg]
      have hU := gotU_succ N F fc ft fu fd j
      have hUl := gotU_len N F fc ft fu fd j
      rw [hdg] at hU
      obtain ⟨U, hUU⟩ : ∃ U, gotU N F fc ft fu fd j = U := ⟨_, rfl⟩
      rw [hUU] at hU hUl hJs
      have cv' := bv'.cell
      have cv1 := ((bv'.alloc (.cells #[.int .i64 (fc j), .int .i64 (ft j), .bool (fu j), .bool (fd j)] 51))).cell
      have hba : Below wr.heap.size wr (wr.alloc (.cells #[.int .i64 (fc j), .int .i64 (ft j), .bool (fu j), .bool (fd j)] 51)) := (Below.refl _ _).alloc (Nat.le_refl _) _
      have hbb := hbw.trans (hba.mono hws)
      have HD : Hid (decQ N F fc ft fu fd (j + 1) = if ok then some q else none) := hd2
      have HDQ : Hid (decQ N F fc ft fu fd j = some p) := hdq
      have HU : Hid (gotU N F fc ft fu fd (j + 1) = U ++ [⟨kk, y, s, q, ok⟩]) := hU
      have HU0 : Hid (gotU N F fc ft fu fd j = U) := hUU
      have hC := hG _ hbb
      clear hd1 cl cv hd2 hdg hg hdq hU hG hUU
      cases ok with
      | false =>
        gi_wp2_with (refine ⟨trivial, ?_⟩; gi_at_call 67; refine (callsIn_wide.2 hC).mono ?_; rintro e w2 ⟨rfl, hB2⟩)
        refine ⟨fun _ h => (by cases h), ?_⟩
        have hB3 : Below wr.heap.size wr (w2.alloc (.cells #[.int .i64 kk, .int .i64 y, .string s] 59)) := (hba.trans (hB2.mono hba.size)).alloc (hba.trans (hB2.mono hba.size)).size _
        clear cv1 cv' hba hbb x0 x1 x2 x3 hC
        gi_wp2
        refine bodyPost_ret (results_none rfl _ _ _) rfl ?_
        exact ⟨⟨_, rfl⟩, .inl ⟨_, ⟨j, p, hj, HDQ.out, fun _ => HD.out.trans (if_neg (by simp)), rfl⟩, by rw [HU0.out]; exact AbidesFrom.step hJ hJs (grownBy_below' hB3)⟩⟩
      | true =>
        gi_wp2_with (refine ⟨trivial, ?_⟩; gi_at_call 67; refine (callsIn_wide.2 hC).mono ?_; rintro e w2 ⟨rfl, hB2⟩; have hB3 : Below wr.heap.size wr (w2.alloc (.cells #[.int .i64 kk, .int .i64 y, .string s] 59)) := (hba.trans (hB2.mono hba.size)).alloc (hba.trans (hB2.mono hba.size)).size _; obtain ⟨fn', tmps, assign, body, hy, hR⟩ := hY U ⟨kk, y, s, q, true⟩ (w2.alloc (.cells #[.int .i64 kk, .int .i64 y, .string s] 59)) (AbidesFrom.step hJ hJs (grownBy_below' hB3)) (by omega); dsimp only [encG] at hy)
        refine hR.mono ?_
        rintro e W3 (⟨rfl, hJ3, hk3⟩ | ⟨rfl, hJx3⟩)
        · clear hy hR hC cv1 cv' hba hbb x0 x1 x2 x3
          gi_wp2
          go_roundw
          case rel => exact ⟨j + 1, q, by omega, rfl, by go_num, HD.out.trans (if_pos trivial), by rw [HU.out]; exact hJ3, hk.trans ((KpB.ofBelow hB3 hws bl'.lt bv'.lt).trans hk3)⟩
          case measure => simp [intOf]; omega
        · clear hy hR hC cv1 cv' hba hbb x0 x1 x2 x3
          gi_wp2
          refine bodyPost_ret (results_none rfl _ _ _) rfl ?_
          exact ⟨⟨_, rfl⟩, .inr ⟨_, trivial, hJx3⟩⟩
    · have hjz : ¬ (j : Int) < (n : Int) := by omega
      have hjn : j = n := by omega
      have HDQ : Hid (decQ N F fc ft fu fd j = some p) := hdq
      clear hdq
      gi_wp2
      go_end0
      exact ⟨⟨_, rfl⟩, .inl ⟨_, ⟨j, p, hj, HDQ.out, fun h => absurd h hlt, rfl⟩, hJs⟩⟩

theorem inBytes_stops (NN : Nat) (hNN : 1 ≤ NN) (Bl Bv : Nat) (a : Option Addr) (n cap : Nat) (fc ft : Nat → Int) (fu fd : Nat → Bool) (b off N cb : Nat) (F : Nat → Int) (w : World) (hp : PView w a n cap fc ft fu fd) (hq : View w (some ⟨b, off, none⟩) N cb F) (hn : n ≤ 281474976710656) (hN : N ≤ 10000000)
    (W0 : World) (hb : Below w.heap.size w W0) (hl : Boxed W0 Bl 25 (.slice a n cap)) (hv : Boxed W0 Bv 36 (.slice (some ⟨b, off, none⟩) N cb)) :
    SeqStopsK Fence.wide NN Try.prog 66 #[.pointer (some ⟨Bl, 0, none⟩), .pointer (some ⟨Bv, 0, none⟩)] encG (KpB w.heap.size Bl Bv) (GotAll N F fc ft fu fd n) (fun _ => True) n W0 :=
  fun l J Jx W hW hJ _ hY h0 => inBytes1_in NN hNN l Bl Bv a n cap fc ft fu fd b off N cb F w hp hq hn hN J Jx W hJ hY (hb.trans (hW.mono hb.size)) (Boxed.below' hl hW) (Boxed.below' hv hW) h0

set_option maxHeartbeats 1000000 in
/-- valsInBytes boxes its two arguments. -/
theorem valsInBytes_in (NN : Nat) (a : Option Addr) (n cap : Nat) (a2 : Option Addr) (m c2 : Nat) (w : World) :
    CallsIn Fence.wide NN Try.prog 48 #[.slice a n cap, .slice a2 m c2] w fun e w' => e = .returned (.func (.func 66) #[] #[.pointer (some ⟨w.heap.size, 0, none⟩), .pointer (some ⟨w.heap.size + 1, 0, none⟩)]) ∧ w' = (w.alloc (.cells #[.slice a n cap] 25)).alloc (.cells #[.slice a2 m c2] 36) := by
  refine callsIn_of_wp Try.func48 rfl trivial ?_ rfl
  simp only [Try.ntmps48, List.size_toArray, List.length_cons, List.length_nil, Nat.reduceAdd, Nat.reduceSub, Array.replicate_succ, Array.replicate_zero, List.push_toArray, List.append_toArray, List.nil_append, List.cons_append]
  gi_wp2
  go_ret
  exact ⟨rfl, rfl⟩
end Go.Proofs.Ytclegljalndaear

/-
  The program's PlanOk comes to the plain one.
-/
namespace Go.Proofs.Ytclegljalndaear
open Go.RowKit
set_option maxRecDepth 4000

set_option maxHeartbeats 2000000 in
theorem implPlanOk_any (a : Option Addr) (n cap : Nat) (fc ft : Nat → Int) (fu fd : Nat → Bool) (w : World) (h : PView w a n cap fc ft fu fd) :
    Calls Try.prog 12 #[.slice a n cap] w fun e w' => e = .returned (.bool (planOk n fc ft)) ∧ Below w.heap.size w w' := by
  by_cases h6 : n ≤ 6
  · have h6z : ¬ (n : Int) > 6 := by omega
    have h6y : (n : Int) ≤ 6 := by omega
    go_enter Try.func12, Try.ntmps12
    go_wp2
    go_loopg [10] n (fun q i wr => ∃ k : Nat, k ≤ n ∧ q = n - k ∧ i = .int .i64 k ∧ Below w.heap.size w wr ∧ ∀ j, j < k → partOk (fc j) (ft j) = true)
    case atStart => exact ⟨0, Nat.zero_le _, rfl, rfl, Below.refl _ _, fun j hj => absurd hj (Nat.not_lt_zero _)⟩
    case round =>
      obtain ⟨k, hk, rfl, rfl, hB, hall⟩ := hrel
      have HA : Hid (∀ j, j < k → partOk (fc j) (ft j) = true) := hall
      clear hall
      by_cases hlt : k < n
      · obtain ⟨b1, o1, rfl, hb1, hd1⟩ := (h.below hB).cells (by omega)
        obtain ⟨x0, x1, x2, x3⟩ := hd1 k hlt
        have hkz : (k : Int) < (n : Int) := by omega
        clear hd1 h
        go_wp2_with fail
        clear x0 x1 x2 x3
        refine (implPartOk_any (fc k) (ft k) (fu k) (fd k) _).mono ?_
        cases ho : partOk (fc k) (ft k) with
        | true =>
          rintro e w2 ⟨rfl, hB2⟩
          have hB3 : Hid (Below w.heap.size w w2) := (hB.alloc hB.size _).trans (hB2.mono (by have := hB.size; simp; omega))
          clear hB2
          have HN : Hid (∀ j, j < k + 1 → partOk (fc j) (ft j) = true) := by
            intro j hj
            by_cases e : j < k
            · exact HA.out j e
            · obtain rfl : j = k := by omega
              exact ho
          clear ho HA
          go_wp2
          go_roundg (n - (k + 1))
          case measure => omega
          case rel => exact ⟨k + 1, by omega, rfl, by go_num, hB3.out, HN.out⟩
        | false =>
          rintro e w2 ⟨rfl, hB2⟩
          have hB3 : Hid (Below w.heap.size w w2) := (hB.alloc hB.size _).trans (hB2.mono (by have := hB.size; simp; omega))
          have HF : Hid (planOk n fc ft = false) := by show _ = _; unfold planOk; rw [allUpto_no hlt ho]; rfl
          clear hB2 ho HA
          go_wp2
          go_ret
          exact ⟨by rw [HF.out]; rfl, hB3.out⟩
      · have hkz : ¬ (k : Int) < (n : Int) := by omega
        have HF : Hid (planOk n fc ft = true) := planOk_iff.2 ⟨fun i hi => HA.out i (by omega), h6⟩
        clear HA
        go_wp2
        go_ret
        exact ⟨by rw [HF.out]; rfl, hB⟩
  · have h6z : (n : Int) > 6 := by omega
    have HF : Hid (planOk n fc ft = false) := by show _ = _; unfold planOk; simp [h6]
    go_enter Try.func12, Try.ntmps12
    go_wp2
    go_ret
    exact ⟨by rw [HF.out]; rfl, Below.refl _ _⟩
end Go.Proofs.Ytclegljalndaear

/-
  Rows of the call's own, and what the loop over an iterator itself turns.
-/
namespace Go.Proofs.Ytclegljalndaear
open Go.RowKit
set_option maxRecDepth 4000

theorem own_ge {W : World} {base : Nat} {e : TypeId} {size : Nat} {v : Value} {k : Nat} {xs : List Value} (h : W.ownsRow base e size v k xs) : ∀ j, v.ownBlock = some j → base ≤ j := by
  intro j hj
  rcases h.2 with ⟨rfl, _⟩ | ⟨g, cap, cur, rfl, hb, _⟩
  · simp [Value.ownBlock] at hj
  · obtain rfl : g = j := by simpa [Value.ownBlock] using hj
    exact hb
theorem own_ownK {W W' : World} {row : Option Nat} {base : Nat} {e : TypeId} {size : Nat} {v : Value} {k : Nat} {xs : List Value} (h : W.ownsRow base e size v k xs) (hg : W.grownBy W' row) (hr : ∀ r, row = some r → ∃ o : Obj, W.heap[r]? = some o ∧ o.isCells = false) : W'.ownsRow base e size v k xs := by
  refine h.kept hg ?_
  rcases h.2 with ⟨rfl, _⟩ | ⟨g, cap, cur, rfl, _, hgb, _⟩
  · exact .inl rfl
  · refine .inr fun e' => ?_
    obtain ⟨o, ho, hc⟩ := hr g (by simpa [Value.ownBlock] using e'.symm)
    rw [hgb] at ho; cases ho; cases hc
end Go.Proofs.Ytclegljalndaear

