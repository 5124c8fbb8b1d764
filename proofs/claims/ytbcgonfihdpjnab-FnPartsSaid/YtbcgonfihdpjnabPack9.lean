/-
  Together: PartGetImpl, SameB, Big, LawParts
-/
import Derived.Test.YtbcgonfihdpjnabPack6
import Derived.Test.YtbcgonfihdpjnabPack7
import Derived.Test.YtbcgonfihdpjnabPack3
import Derived.Test.YtbcgonfihdpjnabPack1
import Derived.Test.YtbcgonfihdpjnabPack5
import Derived.Test.YtbcgonfihdpjnabPartPutImpl
import Derived.Test.YtbcgonfihdpjnabPack4
/-
  The program's GetPart: one value of a key, at every slice of bytes that reads and at every place.
-/
namespace Go.Proofs.Ytbcgonfihdpjnab
open Go.RowKit
set_option maxRecDepth 4000

/-- The function is Go's own. -/
def EntersG (F : Nat) : Prop := ∀ (args : Array Value) (W : World), (callFunc F args).run Try.prog W = .ok (.enter F args) W
/-- A type's reader, by its number. -/
theorem formGet {t : Int} (ht : 1 ≤ t ∧ t ≤ 4) : ∃ F G : Nat, (formV t).1 = .func (.func F) #[] #[] ∧ (formV t).2 = .func (.func G) #[] #[] ∧ EntersG G ∧ ∀ n f p, n ≤ 10000000 → p ≤ 9223372036854775807 → ReadsV G n f p (rawI n f t p) := by
  obtain rfl | rfl | rfl | rfl : t = 1 ∨ t = 2 ∨ t = 3 ∨ t = 4 := by omega
  · exact ⟨_, _, rfl, rfl, fun _ _ => by kernel_rfl, fun n f p hn hp => getInt_any n f p hn hp⟩
  · exact ⟨_, _, rfl, rfl, fun _ _ => by kernel_rfl, fun n f p hn hp => getNum_any n f p hn hp⟩
  · exact ⟨_, _, rfl, rfl, fun _ _ => by kernel_rfl, fun n f p hn hp => getText_any n f p hn hp⟩
  · exact ⟨_, _, rfl, rfl, fun _ _ => by kernel_rfl, fun n f p hn hp => getBool_any n f p hn hp⟩
theorem rawI_k {n : Nat} {f : Nat → Int} {t p : Int} (ht : 1 ≤ t ∧ t ≤ 4) : (rawI n f t p).k = t := by
  obtain rfl | rfl | rfl | rfl : t = 1 ∨ t = 2 ∨ t = 3 ∨ t = 4 := by omega
  all_goals rfl
theorem fitsI_self {t y : Int} {nul : Bool} {s : ByteArray} : fitsI t nul t y s = okF t y s := by unfold fitsI; simp

set_option maxHeartbeats 4000000 in
theorem getPart_no (b off n cap : Nat) (f : Nat → Int) (c t : Int) (nul d : Bool) (p : Int) (w : World) (_hv : View w (some ⟨b, off, none⟩) n cap f) (_hn : n ≤ 10000000) (_hp1 : p ≤ 9223372036854775807) (hok : partOk c t = false) :
    Calls Try.prog 40 #[.slice (some ⟨b, off, none⟩) n cap, .agg #[.int .i64 c, .int .i64 t, .bool nul, .bool d], .int .i64 p] w fun e w' => e = gotRet (.no) ∧ Below w.heap.size w w' := by
  have hP := (PBox.new w c t nul d).below ((Below.refl _ _).alloc (Nat.le_refl _) (.cells #[.int .i64 0, .int .i64 0, .string ⟨#[]⟩] 39))
  have hR := Box.new (w.alloc (.cells #[.int .i64 c, .int .i64 t, .bool nul, .bool d] 37)) 0 0 ⟨#[]⟩
  rw [show (w.alloc (.cells #[.int .i64 c, .int .i64 t, .bool nul, .bool d] 37)).heap.size = w.heap.size + 1 by simp] at hR
  have hB : Below w.heap.size w ((w.alloc (.cells #[.int .i64 c, .int .i64 t, .bool nul, .bool d] 37)).alloc (.cells #[.int .i64 0, .int .i64 0, .string ⟨#[]⟩] 39)) := ((Below.refl _ _).alloc (Nat.le_refl _) _).alloc (by simp) _
  go_enter Try.func40, Try.ntmps40
  go_wp2_with fail
  refine (implPartOk_any c t nul d _).mono ?_
  rw [hok]
  rintro e w1 ⟨rfl, hb⟩
  replace hP := hP.below hb
  replace hR := hR.below hb
  replace hB := hB.trans (hb.mono hB.size)
  clear hb
  obtain ⟨p0, p1, p2, p3⟩ := hP.cells
  obtain ⟨x0, x1, x2⟩ := hR.cells
  obtain ⟨r0, r1, r2⟩ := hR.frozen
  have hgs := stored3 (.int .i64 0) (.int .i64 0) (.string ⟨#[]⟩) x0 x1 x2
  have HB : Hid (Below w.heap.size w (((w1.setCell ⟨w.heap.size + 1, 0, none⟩ (.int .i64 0)).setCell ⟨w.heap.size + 1, 1, none⟩ (.int .i64 0)).setCell ⟨w.heap.size + 1, 2, none⟩ (.string ⟨#[]⟩))) := ((hB.setCell (Nat.le_succ _) _).setCell (Nat.le_succ _) _).setCell (Nat.le_succ _) _
  clear hP hR hB
  go_wp2
  exact bodyPost_ret (v := .tuple #[.agg #[.int .i64 0, .int .i64 0, .string ⟨#[]⟩], .int .i64 0, .bool false]) (by simp [results, Try.results40, go_sem, hgs]) rfl ⟨rfl, HB.out⟩

theorem getB_cases {n : Nat} {F : Nat → Int} {p : Int} (hb : ∀ i, i < n → 0 ≤ F i ∧ F i ≤ 255) : getB n F p = (0, 0, false) ∨ ((0 ≤ p ∧ p < n) ∧ (getB n F p = (0, p + 1, true) ∨ getB n F p = (1, p + 1, true))) := by
  by_cases h : p < 0 ∨ (n : Int) ≤ p ∨ 1 < F p.toNat
  · left; unfold getB; rw [if_pos h]
  · right
    refine ⟨by omega, ?_⟩
    have h0 := hb p.toNat (by omega)
    have e : getB n F p = (F p.toNat, p + 1, true) := by unfold getB; rw [if_neg h]
    rw [e]
    by_cases h1 : F p.toNat = 0
    · left; rw [h1]
    · right; rw [show F p.toNat = 1 by omega]

set_option maxHeartbeats 8000000 in
theorem getPart_ff (b off n cap : Nat) (f : Nat → Int) (c t : Int) (p : Int) (w : World) (hv : View w (some ⟨b, off, none⟩) n cap f) (hn : n ≤ 10000000) (hp1 : p ≤ 9223372036854775807) (hok : partOk c t = true) (ht : 1 ≤ t ∧ t ≤ 4) (FF GG : Nat) (hF : (formV t).1 = .func (.func FF) #[] #[]) (hG : (formV t).2 = .func (.func GG) #[] #[]) (hE : EntersG GG) (hW : ∀ n f p, n ≤ 10000000 → p ≤ 9223372036854775807 → ReadsV GG n f p (rawI n f t p)) :
    Calls Try.prog 40 #[.slice (some ⟨b, off, none⟩) n cap, .agg #[.int .i64 c, .int .i64 t, .bool false, .bool false], .int .i64 p] w fun e w' => e = gotRet (nextI n f t false p) ∧ Below w.heap.size w w' := by
  have hP := (PBox.new w c t false false).below ((Below.refl _ _).alloc (Nat.le_refl _) (.cells #[.int .i64 0, .int .i64 0, .string ⟨#[]⟩] 39))
  have hR := Box.new (w.alloc (.cells #[.int .i64 c, .int .i64 t, .bool false, .bool false] 37)) 0 0 ⟨#[]⟩
  rw [show (w.alloc (.cells #[.int .i64 c, .int .i64 t, .bool false, .bool false] 37)).heap.size = w.heap.size + 1 by simp] at hR
  have hB : Below w.heap.size w ((w.alloc (.cells #[.int .i64 c, .int .i64 t, .bool false, .bool false] 37)).alloc (.cells #[.int .i64 0, .int .i64 0, .string ⟨#[]⟩] 39)) := ((Below.refl _ _).alloc (Nat.le_refl _) _).alloc (by simp) _
  go_enter Try.func40, Try.ntmps40
  go_wp2_with fail
  refine (implPartOk_any c t false false _).mono ?_
  rw [hok]
  rintro e w1 ⟨rfl, hb⟩
  replace hP := hP.below hb
  replace hR := hR.below hb
  replace hB := hB.trans (hb.mono hB.size)
  clear hb
  have hx := hv.below hB
  have HN : Hid (nextI n f t false p = (rawI n f t p).chk) := rfl
  obtain ⟨p0, p1, p2, p3⟩ := hP.cells
  go_wp2_with fail
  clear p0 p1 p2 p3
  refine (formOf_any t _ ht).mono ?_
  rw [hF, hG]
  rintro e w5 ⟨rfl, hb⟩
  replace hP := hP.below hb
  replace hR := hR.below hb
  replace hx := hx.below hb
  replace hB := hB.trans (hb.mono hB.size)
  clear hb
  have fg := form_get FF GG
  have hEG : ∀ (args : Array Value) (W : World), (callFunc GG args).run Try.prog W = .ok (.enter GG args) W := hE
  obtain ⟨k, y, s, q, ok, hr⟩ : ∃ k y s q ok, Hid (rawI n f t p = ⟨k, y, s, q, ok⟩) := ⟨_, _, _, _, _, rfl⟩
  obtain rfl : k = t := by have := rawI_k (n := n) (f := f) (p := p) ht; rw [hr.out] at this; exact this
  obtain ⟨p0, p1, p2, p3⟩ := hP.cells
  go_wp2_with fail
  clear p0 p1 p2 p3
  clear fg hEG
  refine (hW n f p hn (by omega) _ _ _ _ hx).mono ?_
  rw [hr.out]
  rintro e w6 ⟨rfl, hb⟩
  have hb0 := hb
  replace hP := hP.below hb
  replace hR := hR.below hb
  replace hB := hB.trans (hb.mono hB.size)
  clear hb
  have hlt6 : w.heap.size + 1 < w6.heap.size := hR.lt
  clear hb0 hx
  cases ok with
  | false =>
    have HG : Hid (nextI n f k false p = .no) := by
      show _ = _
      rw [HN.out]
      exact chk_no (by rw [hr.out])
    obtain ⟨p0, p1, p2, p3⟩ := hP.cells
    obtain ⟨x0, x1, x2⟩ := hR.cells
    obtain ⟨r0, r1, r2⟩ := hR.frozen
    have hgs := stored3A (.int .i64 0) (.int .i64 0) (.string ⟨#[]⟩) x0 x1 x2 hR.lt (.cells #[.int .i64 k, .int .i64 y, .string s] 39)
    have HB : Hid (Below w.heap.size w ((((w6.setCell ⟨w.heap.size + 1, 0, none⟩ (.int .i64 0)).setCell ⟨w.heap.size + 1, 1, none⟩ (.int .i64 0)).setCell ⟨w.heap.size + 1, 2, none⟩ (.string ⟨#[]⟩)).alloc (.cells #[.int .i64 k, .int .i64 y, .string s] 39))) := (((hB.setCell (Nat.le_succ _) _).setCell (Nat.le_succ _) _).setCell (Nat.le_succ _) _).alloc (by simpa using hB.size) _
    clear hP hR hB hr
    simp only [gotRet]
    go_wp2
    exact bodyPost_ret (v := .tuple #[.agg #[.int .i64 0, .int .i64 0, .string ⟨#[]⟩], .int .i64 0, .bool false]) (by simp [results, Try.results40, go_sem, hgs]) rfl ⟨by rw [HG.out]; rfl, HB.out⟩
  | true =>
    have hV := Box.new w6 k y s
    have hb : Below w6.heap.size w6 (w6.alloc (.cells #[.int .i64 k, .int .i64 y, .string s] 39)) := (Below.refl _ _).alloc (Nat.le_refl _) _
    obtain ⟨p0, p1, p2, p3⟩ := hP.cells
    replace hP := hP.below hb
    replace hR := hR.below hb
    replace hB := hB.trans (hb.mono hB.size)
    clear hb
    obtain ⟨v0, v1, v2⟩ := hV.cells
    obtain ⟨s0, s1, s2, s3⟩ := hP.cells
    simp only [gotRet]
    go_wp2_with fail
    clear v0 v1 v2 p0 p1 p2 p3 s0 s1 s2 s3
    refine (implFits_any c k false false k y s _).mono ?_
    rw [fitsI_self]
    obtain ⟨o, ho⟩ : ∃ o, Hid (okF k y s = o) := ⟨_, rfl⟩
    rw [ho.out]
    rintro e w7 ⟨rfl, hb⟩
    replace hV := hV.below hb
    replace hP := hP.below hb
    replace hR := hR.below hb
    replace hB := hB.trans (hb.mono hB.size)
    clear hb
    obtain ⟨v0, v1, v2⟩ := hV.cells
    cases o with
    | false =>
      have HG : Hid (nextI n f k false p = .no) := by
        show _ = _
        rw [HN.out, hr.out]
        unfold Got.chk
        rw [ho.out]
        rfl
      clear hV hr ho
      obtain ⟨p0, p1, p2, p3⟩ := hP.cells
      obtain ⟨x0, x1, x2⟩ := hR.cells
      obtain ⟨r0, r1, r2⟩ := hR.frozen
      have hgs := stored3 (.int .i64 0) (.int .i64 0) (.string ⟨#[]⟩) x0 x1 x2
      have HB : Hid (Below w.heap.size w (((w7.setCell ⟨w.heap.size + 1, 0, none⟩ (.int .i64 0)).setCell ⟨w.heap.size + 1, 1, none⟩ (.int .i64 0)).setCell ⟨w.heap.size + 1, 2, none⟩ (.string ⟨#[]⟩))) := ((hB.setCell (Nat.le_succ _) _).setCell (Nat.le_succ _) _).setCell (Nat.le_succ _) _
      clear hP hR hB
      go_wp2
      exact bodyPost_ret (v := .tuple #[.agg #[.int .i64 0, .int .i64 0, .string ⟨#[]⟩], .int .i64 0, .bool false]) (by simp [results, Try.results40, go_sem, hgs]) rfl ⟨by rw [HG.out]; rfl, HB.out⟩
    | true =>
      have HG : Hid (nextI n f k false p = ⟨k, y, s, q, true⟩) := by
        show _ = _
        rw [HN.out, hr.out]
        unfold Got.chk
        rw [ho.out]
        rfl
      clear hV hr ho
      obtain ⟨p0, p1, p2, p3⟩ := hP.cells
      obtain ⟨x0, x1, x2⟩ := hR.cells
      obtain ⟨r0, r1, r2⟩ := hR.frozen
      have hgs := stored3 (.int .i64 k) (.int .i64 y) (.string s) x0 x1 x2
      have HB : Hid (Below w.heap.size w (((w7.setCell ⟨w.heap.size + 1, 0, none⟩ (.int .i64 k)).setCell ⟨w.heap.size + 1, 1, none⟩ (.int .i64 y)).setCell ⟨w.heap.size + 1, 2, none⟩ (.string s))) := ((hB.setCell (Nat.le_succ _) _).setCell (Nat.le_succ _) _).setCell (Nat.le_succ _) _
      clear hP hR hB
      go_wp2
      exact bodyPost_ret (v := .tuple #[.agg #[.int .i64 k, .int .i64 y, .string s], .int .i64 q, .bool true]) (by simp [results, Try.results40, go_sem, hgs]) rfl ⟨by rw [HG.out]; rfl, HB.out⟩

set_option maxHeartbeats 8000000 in
theorem getPart_ft (b off n cap : Nat) (f : Nat → Int) (c t : Int) (p : Int) (w : World) (hv : View w (some ⟨b, off, none⟩) n cap f) (hn : n ≤ 10000000) (hp1 : p ≤ 9223372036854775807) (hok : partOk c t = true) (ht : 1 ≤ t ∧ t ≤ 4) (FF GG : Nat) (hF : (formV t).1 = .func (.func FF) #[] #[]) (hG : (formV t).2 = .func (.func GG) #[] #[]) (hE : EntersG GG) (hW : ∀ n f p, n ≤ 10000000 → p ≤ 9223372036854775807 → ReadsV GG n f p (rawI n f t p)) :
    Calls Try.prog 40 #[.slice (some ⟨b, off, none⟩) n cap, .agg #[.int .i64 c, .int .i64 t, .bool false, .bool true], .int .i64 p] w fun e w' => e = gotRet (nextI n (flipF f p) t false p) ∧ Below w.heap.size w w' := by
  have hP := (PBox.new w c t false true).below ((Below.refl _ _).alloc (Nat.le_refl _) (.cells #[.int .i64 0, .int .i64 0, .string ⟨#[]⟩] 39))
  have hR := Box.new (w.alloc (.cells #[.int .i64 c, .int .i64 t, .bool false, .bool true] 37)) 0 0 ⟨#[]⟩
  rw [show (w.alloc (.cells #[.int .i64 c, .int .i64 t, .bool false, .bool true] 37)).heap.size = w.heap.size + 1 by simp] at hR
  have hB : Below w.heap.size w ((w.alloc (.cells #[.int .i64 c, .int .i64 t, .bool false, .bool true] 37)).alloc (.cells #[.int .i64 0, .int .i64 0, .string ⟨#[]⟩] 39)) := ((Below.refl _ _).alloc (Nat.le_refl _) _).alloc (by simp) _
  go_enter Try.func40, Try.ntmps40
  go_wp2_with fail
  refine (implPartOk_any c t false true _).mono ?_
  rw [hok]
  rintro e w1 ⟨rfl, hb⟩
  replace hP := hP.below hb
  replace hR := hR.below hb
  replace hB := hB.trans (hb.mono hB.size)
  clear hb
  have hx := hv.below hB
  obtain ⟨p0, p1, p2, p3⟩ := hP.cells
  go_wp2_with fail
  clear p0 p1 p2 p3
  refine (flip_impl b off n cap f p _ hx (by omega) hp1).mono ?_
  rintro e w2 ⟨gx, cx, rfl, -, hcx, hrx, hb⟩
  replace hx := hrx.view hcx (flipF_byte p hx.byte)
  clear hrx
  replace hP := hP.below hb
  replace hR := hR.below hb
  replace hB := hB.trans (hb.mono hB.size)
  clear hb
  have HN : Hid (nextI n (flipF f p) t false p = (rawI n (flipF f p) t p).chk) := rfl
  obtain ⟨p0, p1, p2, p3⟩ := hP.cells
  go_wp2_with fail
  clear p0 p1 p2 p3
  refine (formOf_any t _ ht).mono ?_
  rw [hF, hG]
  rintro e w5 ⟨rfl, hb⟩
  replace hP := hP.below hb
  replace hR := hR.below hb
  replace hx := hx.below hb
  replace hB := hB.trans (hb.mono hB.size)
  clear hb
  have fg := form_get FF GG
  have hEG : ∀ (args : Array Value) (W : World), (callFunc GG args).run Try.prog W = .ok (.enter GG args) W := hE
  obtain ⟨k, y, s, q, ok, hr⟩ : ∃ k y s q ok, Hid (rawI n (flipF f p) t p = ⟨k, y, s, q, ok⟩) := ⟨_, _, _, _, _, rfl⟩
  obtain rfl : k = t := by have := rawI_k (n := n) (f := (flipF f p)) (p := p) ht; rw [hr.out] at this; exact this
  obtain ⟨p0, p1, p2, p3⟩ := hP.cells
  go_wp2_with fail
  clear p0 p1 p2 p3
  clear fg hEG
  refine (hW n (flipF f p) p hn (by omega) _ _ _ _ hx).mono ?_
  rw [hr.out]
  rintro e w6 ⟨rfl, hb⟩
  have hb0 := hb
  replace hP := hP.below hb
  replace hR := hR.below hb
  replace hB := hB.trans (hb.mono hB.size)
  clear hb
  have hlt6 : w.heap.size + 1 < w6.heap.size := hR.lt
  clear hb0 hx
  cases ok with
  | false =>
    have HG : Hid (nextI n (flipF f p) k false p = .no) := by
      show _ = _
      rw [HN.out]
      exact chk_no (by rw [hr.out])
    obtain ⟨p0, p1, p2, p3⟩ := hP.cells
    obtain ⟨x0, x1, x2⟩ := hR.cells
    obtain ⟨r0, r1, r2⟩ := hR.frozen
    have hgs := stored3A (.int .i64 0) (.int .i64 0) (.string ⟨#[]⟩) x0 x1 x2 hR.lt (.cells #[.int .i64 k, .int .i64 y, .string s] 39)
    have HB : Hid (Below w.heap.size w ((((w6.setCell ⟨w.heap.size + 1, 0, none⟩ (.int .i64 0)).setCell ⟨w.heap.size + 1, 1, none⟩ (.int .i64 0)).setCell ⟨w.heap.size + 1, 2, none⟩ (.string ⟨#[]⟩)).alloc (.cells #[.int .i64 k, .int .i64 y, .string s] 39))) := (((hB.setCell (Nat.le_succ _) _).setCell (Nat.le_succ _) _).setCell (Nat.le_succ _) _).alloc (by simpa using hB.size) _
    clear hP hR hB hr
    simp only [gotRet]
    go_wp2
    exact bodyPost_ret (v := .tuple #[.agg #[.int .i64 0, .int .i64 0, .string ⟨#[]⟩], .int .i64 0, .bool false]) (by simp [results, Try.results40, go_sem, hgs]) rfl ⟨by rw [HG.out]; rfl, HB.out⟩
  | true =>
    have hV := Box.new w6 k y s
    have hb : Below w6.heap.size w6 (w6.alloc (.cells #[.int .i64 k, .int .i64 y, .string s] 39)) := (Below.refl _ _).alloc (Nat.le_refl _) _
    obtain ⟨p0, p1, p2, p3⟩ := hP.cells
    replace hP := hP.below hb
    replace hR := hR.below hb
    replace hB := hB.trans (hb.mono hB.size)
    clear hb
    obtain ⟨v0, v1, v2⟩ := hV.cells
    obtain ⟨s0, s1, s2, s3⟩ := hP.cells
    simp only [gotRet]
    go_wp2_with fail
    clear v0 v1 v2 p0 p1 p2 p3 s0 s1 s2 s3
    refine (implFits_any c k false true k y s _).mono ?_
    rw [fitsI_self]
    obtain ⟨o, ho⟩ : ∃ o, Hid (okF k y s = o) := ⟨_, rfl⟩
    rw [ho.out]
    rintro e w7 ⟨rfl, hb⟩
    replace hV := hV.below hb
    replace hP := hP.below hb
    replace hR := hR.below hb
    replace hB := hB.trans (hb.mono hB.size)
    clear hb
    obtain ⟨v0, v1, v2⟩ := hV.cells
    cases o with
    | false =>
      have HG : Hid (nextI n (flipF f p) k false p = .no) := by
        show _ = _
        rw [HN.out, hr.out]
        unfold Got.chk
        rw [ho.out]
        rfl
      clear hV hr ho
      obtain ⟨p0, p1, p2, p3⟩ := hP.cells
      obtain ⟨x0, x1, x2⟩ := hR.cells
      obtain ⟨r0, r1, r2⟩ := hR.frozen
      have hgs := stored3 (.int .i64 0) (.int .i64 0) (.string ⟨#[]⟩) x0 x1 x2
      have HB : Hid (Below w.heap.size w (((w7.setCell ⟨w.heap.size + 1, 0, none⟩ (.int .i64 0)).setCell ⟨w.heap.size + 1, 1, none⟩ (.int .i64 0)).setCell ⟨w.heap.size + 1, 2, none⟩ (.string ⟨#[]⟩))) := ((hB.setCell (Nat.le_succ _) _).setCell (Nat.le_succ _) _).setCell (Nat.le_succ _) _
      clear hP hR hB
      go_wp2
      exact bodyPost_ret (v := .tuple #[.agg #[.int .i64 0, .int .i64 0, .string ⟨#[]⟩], .int .i64 0, .bool false]) (by simp [results, Try.results40, go_sem, hgs]) rfl ⟨by rw [HG.out]; rfl, HB.out⟩
    | true =>
      have HG : Hid (nextI n (flipF f p) k false p = ⟨k, y, s, q, true⟩) := by
        show _ = _
        rw [HN.out, hr.out]
        unfold Got.chk
        rw [ho.out]
        rfl
      clear hV hr ho
      obtain ⟨p0, p1, p2, p3⟩ := hP.cells
      obtain ⟨x0, x1, x2⟩ := hR.cells
      obtain ⟨r0, r1, r2⟩ := hR.frozen
      have hgs := stored3 (.int .i64 k) (.int .i64 y) (.string s) x0 x1 x2
      have HB : Hid (Below w.heap.size w (((w7.setCell ⟨w.heap.size + 1, 0, none⟩ (.int .i64 k)).setCell ⟨w.heap.size + 1, 1, none⟩ (.int .i64 y)).setCell ⟨w.heap.size + 1, 2, none⟩ (.string s))) := ((hB.setCell (Nat.le_succ _) _).setCell (Nat.le_succ _) _).setCell (Nat.le_succ _) _
      clear hP hR hB
      go_wp2
      exact bodyPost_ret (v := .tuple #[.agg #[.int .i64 k, .int .i64 y, .string s], .int .i64 q, .bool true]) (by simp [results, Try.results40, go_sem, hgs]) rfl ⟨by rw [HG.out]; rfl, HB.out⟩

set_option maxHeartbeats 8000000 in
theorem getPart_tf (b off n cap : Nat) (f : Nat → Int) (c t : Int) (p : Int) (w : World) (hv : View w (some ⟨b, off, none⟩) n cap f) (hn : n ≤ 10000000) (hp1 : p ≤ 9223372036854775807) (hok : partOk c t = true) (ht : 1 ≤ t ∧ t ≤ 4) (FF GG : Nat) (hF : (formV t).1 = .func (.func FF) #[] #[]) (hG : (formV t).2 = .func (.func GG) #[] #[]) (hE : EntersG GG) (hW : ∀ n f p, n ≤ 10000000 → p ≤ 9223372036854775807 → ReadsV GG n f p (rawI n f t p)) :
    Calls Try.prog 40 #[.slice (some ⟨b, off, none⟩) n cap, .agg #[.int .i64 c, .int .i64 t, .bool true, .bool false], .int .i64 p] w fun e w' => e = gotRet (nextI n f t true p) ∧ Below w.heap.size w w' := by
  have hP := (PBox.new w c t true false).below ((Below.refl _ _).alloc (Nat.le_refl _) (.cells #[.int .i64 0, .int .i64 0, .string ⟨#[]⟩] 39))
  have hR := Box.new (w.alloc (.cells #[.int .i64 c, .int .i64 t, .bool true, .bool false] 37)) 0 0 ⟨#[]⟩
  rw [show (w.alloc (.cells #[.int .i64 c, .int .i64 t, .bool true, .bool false] 37)).heap.size = w.heap.size + 1 by simp] at hR
  have hB : Below w.heap.size w ((w.alloc (.cells #[.int .i64 c, .int .i64 t, .bool true, .bool false] 37)).alloc (.cells #[.int .i64 0, .int .i64 0, .string ⟨#[]⟩] 39)) := ((Below.refl _ _).alloc (Nat.le_refl _) _).alloc (by simp) _
  go_enter Try.func40, Try.ntmps40
  go_wp2_with fail
  refine (implPartOk_any c t true false _).mono ?_
  rw [hok]
  rintro e w1 ⟨rfl, hb⟩
  replace hP := hP.below hb
  replace hR := hR.below hb
  replace hB := hB.trans (hb.mono hB.size)
  clear hb
  have hx := hv.below hB
  rcases getB_cases (p := p) hx.byte with hgb | ⟨hpp, hgb | hgb⟩
  ·
    have HG : Hid (nextI n f t true p = .no) := by show _ = _; unfold nextI; rw [hgb]; rfl
    have hgh : Hid (getB n f p = (0, 0, false)) := hgb
    clear hgb
    obtain ⟨p0, p1, p2, p3⟩ := hP.cells
    go_wp2_with fail
    clear p0 p1 p2 p3
    refine (getBit_any b off n cap f p _ hgh hx (by omega) hp1).mono ?_
    rintro e w3 ⟨rfl, hb⟩
    replace hP := hP.below hb
    replace hR := hR.below hb
    replace hx := hx.below hb
    replace hB := hB.trans (hb.mono hB.size)
    clear hb
    clear hgh
    clear hx
    obtain ⟨p0, p1, p2, p3⟩ := hP.cells
    obtain ⟨x0, x1, x2⟩ := hR.cells
    obtain ⟨r0, r1, r2⟩ := hR.frozen
    have hgs := stored3 (.int .i64 0) (.int .i64 0) (.string ⟨#[]⟩) x0 x1 x2
    have HB : Hid (Below w.heap.size w (((w3.setCell ⟨w.heap.size + 1, 0, none⟩ (.int .i64 0)).setCell ⟨w.heap.size + 1, 1, none⟩ (.int .i64 0)).setCell ⟨w.heap.size + 1, 2, none⟩ (.string ⟨#[]⟩))) := ((hB.setCell (Nat.le_succ _) _).setCell (Nat.le_succ _) _).setCell (Nat.le_succ _) _
    clear hP hR hB
    go_wp2
    exact bodyPost_ret (v := .tuple #[.agg #[.int .i64 0, .int .i64 0, .string ⟨#[]⟩], .int .i64 0, .bool false]) (by simp [results, Try.results40, go_sem, hgs]) rfl ⟨by rw [HG.out]; rfl, HB.out⟩
  ·
    have HG : Hid (nextI n f t true p = ⟨0, 0, noBytes, p + 1, true⟩) := by show _ = _; unfold nextI; rw [hgb]; rfl
    have hgh : Hid (getB n f p = (0, (p + 1), true)) := hgb
    clear hgb
    obtain ⟨p0, p1, p2, p3⟩ := hP.cells
    go_wp2_with fail
    clear p0 p1 p2 p3
    refine (getBit_any b off n cap f p _ hgh hx (by omega) hp1).mono ?_
    rintro e w3 ⟨rfl, hb⟩
    replace hP := hP.below hb
    replace hR := hR.below hb
    replace hx := hx.below hb
    replace hB := hB.trans (hb.mono hB.size)
    clear hb
    clear hgh
    clear hx
    obtain ⟨p0, p1, p2, p3⟩ := hP.cells
    obtain ⟨x0, x1, x2⟩ := hR.cells
    obtain ⟨r0, r1, r2⟩ := hR.frozen
    have hgs := stored3 (.int .i64 0) (.int .i64 0) (.string ⟨#[]⟩) x0 x1 x2
    have HB : Hid (Below w.heap.size w (((w3.setCell ⟨w.heap.size + 1, 0, none⟩ (.int .i64 0)).setCell ⟨w.heap.size + 1, 1, none⟩ (.int .i64 0)).setCell ⟨w.heap.size + 1, 2, none⟩ (.string ⟨#[]⟩))) := ((hB.setCell (Nat.le_succ _) _).setCell (Nat.le_succ _) _).setCell (Nat.le_succ _) _
    clear hP hR hB
    go_wp2
    exact bodyPost_ret (v := .tuple #[.agg #[.int .i64 0, .int .i64 0, .string ⟨#[]⟩], .int .i64 (p + 1), .bool true]) (by simp [results, Try.results40, go_sem, hgs]) rfl ⟨by rw [HG.out]; rfl, HB.out⟩
  ·
    have HN : Hid (nextI n f t true p = (rawI n f t (p + 1)).chk) := by show _ = _; unfold nextI; rw [hgb]; rfl
    have hgh : Hid (getB n f p = (1, (p + 1), true)) := hgb
    clear hgb
    obtain ⟨p0, p1, p2, p3⟩ := hP.cells
    go_wp2_with fail
    clear p0 p1 p2 p3
    refine (getBit_any b off n cap f p _ hgh hx (by omega) hp1).mono ?_
    rintro e w3 ⟨rfl, hb⟩
    replace hP := hP.below hb
    replace hR := hR.below hb
    replace hx := hx.below hb
    replace hB := hB.trans (hb.mono hB.size)
    clear hb
    clear hgh
    obtain ⟨p0, p1, p2, p3⟩ := hP.cells
    go_wp2_with fail
    clear p0 p1 p2 p3
    refine (formOf_any t _ ht).mono ?_
    rw [hF, hG]
    rintro e w5 ⟨rfl, hb⟩
    replace hP := hP.below hb
    replace hR := hR.below hb
    replace hx := hx.below hb
    replace hB := hB.trans (hb.mono hB.size)
    clear hb
    have fg := form_get FF GG
    have hEG : ∀ (args : Array Value) (W : World), (callFunc GG args).run Try.prog W = .ok (.enter GG args) W := hE
    obtain ⟨k, y, s, q, ok, hr⟩ : ∃ k y s q ok, Hid (rawI n f t (p + 1) = ⟨k, y, s, q, ok⟩) := ⟨_, _, _, _, _, rfl⟩
    obtain rfl : k = t := by have := rawI_k (n := n) (f := f) (p := (p + 1)) ht; rw [hr.out] at this; exact this
    obtain ⟨p0, p1, p2, p3⟩ := hP.cells
    go_wp2_with fail
    clear p0 p1 p2 p3
    clear fg hEG
    refine (hW n f (p + 1) hn (by omega) _ _ _ _ hx).mono ?_
    rw [hr.out]
    rintro e w6 ⟨rfl, hb⟩
    have hb0 := hb
    replace hP := hP.below hb
    replace hR := hR.below hb
    replace hB := hB.trans (hb.mono hB.size)
    clear hb
    have hlt6 : w.heap.size + 1 < w6.heap.size := hR.lt
    clear hb0 hx
    cases ok with
    | false =>
      have HG : Hid (nextI n f k true p = .no) := by
        show _ = _
        rw [HN.out]
        exact chk_no (by rw [hr.out])
      obtain ⟨p0, p1, p2, p3⟩ := hP.cells
      obtain ⟨x0, x1, x2⟩ := hR.cells
      obtain ⟨r0, r1, r2⟩ := hR.frozen
      have hgs := stored3A (.int .i64 0) (.int .i64 0) (.string ⟨#[]⟩) x0 x1 x2 hR.lt (.cells #[.int .i64 k, .int .i64 y, .string s] 39)
      have HB : Hid (Below w.heap.size w ((((w6.setCell ⟨w.heap.size + 1, 0, none⟩ (.int .i64 0)).setCell ⟨w.heap.size + 1, 1, none⟩ (.int .i64 0)).setCell ⟨w.heap.size + 1, 2, none⟩ (.string ⟨#[]⟩)).alloc (.cells #[.int .i64 k, .int .i64 y, .string s] 39))) := (((hB.setCell (Nat.le_succ _) _).setCell (Nat.le_succ _) _).setCell (Nat.le_succ _) _).alloc (by simpa using hB.size) _
      clear hP hR hB hr
      simp only [gotRet]
      go_wp2
      exact bodyPost_ret (v := .tuple #[.agg #[.int .i64 0, .int .i64 0, .string ⟨#[]⟩], .int .i64 0, .bool false]) (by simp [results, Try.results40, go_sem, hgs]) rfl ⟨by rw [HG.out]; rfl, HB.out⟩
    | true =>
      have hV := Box.new w6 k y s
      have hb : Below w6.heap.size w6 (w6.alloc (.cells #[.int .i64 k, .int .i64 y, .string s] 39)) := (Below.refl _ _).alloc (Nat.le_refl _) _
      obtain ⟨p0, p1, p2, p3⟩ := hP.cells
      replace hP := hP.below hb
      replace hR := hR.below hb
      replace hB := hB.trans (hb.mono hB.size)
      clear hb
      obtain ⟨v0, v1, v2⟩ := hV.cells
      obtain ⟨s0, s1, s2, s3⟩ := hP.cells
      simp only [gotRet]
      go_wp2_with fail
      clear v0 v1 v2 p0 p1 p2 p3 s0 s1 s2 s3
      refine (implFits_any c k true false k y s _).mono ?_
      rw [fitsI_self]
      obtain ⟨o, ho⟩ : ∃ o, Hid (okF k y s = o) := ⟨_, rfl⟩
      rw [ho.out]
      rintro e w7 ⟨rfl, hb⟩
      replace hV := hV.below hb
      replace hP := hP.below hb
      replace hR := hR.below hb
      replace hB := hB.trans (hb.mono hB.size)
      clear hb
      obtain ⟨v0, v1, v2⟩ := hV.cells
      cases o with
      | false =>
        have HG : Hid (nextI n f k true p = .no) := by
          show _ = _
          rw [HN.out, hr.out]
          unfold Got.chk
          rw [ho.out]
          rfl
        clear hV hr ho
        obtain ⟨p0, p1, p2, p3⟩ := hP.cells
        obtain ⟨x0, x1, x2⟩ := hR.cells
        obtain ⟨r0, r1, r2⟩ := hR.frozen
        have hgs := stored3 (.int .i64 0) (.int .i64 0) (.string ⟨#[]⟩) x0 x1 x2
        have HB : Hid (Below w.heap.size w (((w7.setCell ⟨w.heap.size + 1, 0, none⟩ (.int .i64 0)).setCell ⟨w.heap.size + 1, 1, none⟩ (.int .i64 0)).setCell ⟨w.heap.size + 1, 2, none⟩ (.string ⟨#[]⟩))) := ((hB.setCell (Nat.le_succ _) _).setCell (Nat.le_succ _) _).setCell (Nat.le_succ _) _
        clear hP hR hB
        go_wp2
        exact bodyPost_ret (v := .tuple #[.agg #[.int .i64 0, .int .i64 0, .string ⟨#[]⟩], .int .i64 0, .bool false]) (by simp [results, Try.results40, go_sem, hgs]) rfl ⟨by rw [HG.out]; rfl, HB.out⟩
      | true =>
        have HG : Hid (nextI n f k true p = ⟨k, y, s, q, true⟩) := by
          show _ = _
          rw [HN.out, hr.out]
          unfold Got.chk
          rw [ho.out]
          rfl
        clear hV hr ho
        obtain ⟨p0, p1, p2, p3⟩ := hP.cells
        obtain ⟨x0, x1, x2⟩ := hR.cells
        obtain ⟨r0, r1, r2⟩ := hR.frozen
        have hgs := stored3 (.int .i64 k) (.int .i64 y) (.string s) x0 x1 x2
        have HB : Hid (Below w.heap.size w (((w7.setCell ⟨w.heap.size + 1, 0, none⟩ (.int .i64 k)).setCell ⟨w.heap.size + 1, 1, none⟩ (.int .i64 y)).setCell ⟨w.heap.size + 1, 2, none⟩ (.string s))) := ((hB.setCell (Nat.le_succ _) _).setCell (Nat.le_succ _) _).setCell (Nat.le_succ _) _
        clear hP hR hB
        go_wp2
        exact bodyPost_ret (v := .tuple #[.agg #[.int .i64 k, .int .i64 y, .string s], .int .i64 q, .bool true]) (by simp [results, Try.results40, go_sem, hgs]) rfl ⟨by rw [HG.out]; rfl, HB.out⟩

set_option maxHeartbeats 8000000 in
theorem getPart_tt (b off n cap : Nat) (f : Nat → Int) (c t : Int) (p : Int) (w : World) (hv : View w (some ⟨b, off, none⟩) n cap f) (hn : n ≤ 10000000) (hp1 : p ≤ 9223372036854775807) (hok : partOk c t = true) (ht : 1 ≤ t ∧ t ≤ 4) (FF GG : Nat) (hF : (formV t).1 = .func (.func FF) #[] #[]) (hG : (formV t).2 = .func (.func GG) #[] #[]) (hE : EntersG GG) (hW : ∀ n f p, n ≤ 10000000 → p ≤ 9223372036854775807 → ReadsV GG n f p (rawI n f t p)) :
    Calls Try.prog 40 #[.slice (some ⟨b, off, none⟩) n cap, .agg #[.int .i64 c, .int .i64 t, .bool true, .bool true], .int .i64 p] w fun e w' => e = gotRet (nextI n (flipF f p) t true p) ∧ Below w.heap.size w w' := by
  have hP := (PBox.new w c t true true).below ((Below.refl _ _).alloc (Nat.le_refl _) (.cells #[.int .i64 0, .int .i64 0, .string ⟨#[]⟩] 39))
  have hR := Box.new (w.alloc (.cells #[.int .i64 c, .int .i64 t, .bool true, .bool true] 37)) 0 0 ⟨#[]⟩
  rw [show (w.alloc (.cells #[.int .i64 c, .int .i64 t, .bool true, .bool true] 37)).heap.size = w.heap.size + 1 by simp] at hR
  have hB : Below w.heap.size w ((w.alloc (.cells #[.int .i64 c, .int .i64 t, .bool true, .bool true] 37)).alloc (.cells #[.int .i64 0, .int .i64 0, .string ⟨#[]⟩] 39)) := ((Below.refl _ _).alloc (Nat.le_refl _) _).alloc (by simp) _
  go_enter Try.func40, Try.ntmps40
  go_wp2_with fail
  refine (implPartOk_any c t true true _).mono ?_
  rw [hok]
  rintro e w1 ⟨rfl, hb⟩
  replace hP := hP.below hb
  replace hR := hR.below hb
  replace hB := hB.trans (hb.mono hB.size)
  clear hb
  have hx := hv.below hB
  obtain ⟨p0, p1, p2, p3⟩ := hP.cells
  go_wp2_with fail
  clear p0 p1 p2 p3
  refine (flip_impl b off n cap f p _ hx (by omega) hp1).mono ?_
  rintro e w2 ⟨gx, cx, rfl, -, hcx, hrx, hb⟩
  replace hx := hrx.view hcx (flipF_byte p hx.byte)
  clear hrx
  replace hP := hP.below hb
  replace hR := hR.below hb
  replace hB := hB.trans (hb.mono hB.size)
  clear hb
  rcases getB_cases (p := p) hx.byte with hgb | ⟨hpp, hgb | hgb⟩
  ·
    have HG : Hid (nextI n (flipF f p) t true p = .no) := by show _ = _; unfold nextI; rw [hgb]; rfl
    have hgh : Hid (getB n (flipF f p) p = (0, 0, false)) := hgb
    clear hgb
    obtain ⟨p0, p1, p2, p3⟩ := hP.cells
    go_wp2_with fail
    clear p0 p1 p2 p3
    refine (getBit_any gx 0 n cx (flipF f p) p _ hgh hx (by omega) hp1).mono ?_
    rintro e w3 ⟨rfl, hb⟩
    replace hP := hP.below hb
    replace hR := hR.below hb
    replace hx := hx.below hb
    replace hB := hB.trans (hb.mono hB.size)
    clear hb
    clear hgh
    clear hx
    obtain ⟨p0, p1, p2, p3⟩ := hP.cells
    obtain ⟨x0, x1, x2⟩ := hR.cells
    obtain ⟨r0, r1, r2⟩ := hR.frozen
    have hgs := stored3 (.int .i64 0) (.int .i64 0) (.string ⟨#[]⟩) x0 x1 x2
    have HB : Hid (Below w.heap.size w (((w3.setCell ⟨w.heap.size + 1, 0, none⟩ (.int .i64 0)).setCell ⟨w.heap.size + 1, 1, none⟩ (.int .i64 0)).setCell ⟨w.heap.size + 1, 2, none⟩ (.string ⟨#[]⟩))) := ((hB.setCell (Nat.le_succ _) _).setCell (Nat.le_succ _) _).setCell (Nat.le_succ _) _
    clear hP hR hB
    go_wp2
    exact bodyPost_ret (v := .tuple #[.agg #[.int .i64 0, .int .i64 0, .string ⟨#[]⟩], .int .i64 0, .bool false]) (by simp [results, Try.results40, go_sem, hgs]) rfl ⟨by rw [HG.out]; rfl, HB.out⟩
  ·
    have HG : Hid (nextI n (flipF f p) t true p = ⟨0, 0, noBytes, p + 1, true⟩) := by show _ = _; unfold nextI; rw [hgb]; rfl
    have hgh : Hid (getB n (flipF f p) p = (0, (p + 1), true)) := hgb
    clear hgb
    obtain ⟨p0, p1, p2, p3⟩ := hP.cells
    go_wp2_with fail
    clear p0 p1 p2 p3
    refine (getBit_any gx 0 n cx (flipF f p) p _ hgh hx (by omega) hp1).mono ?_
    rintro e w3 ⟨rfl, hb⟩
    replace hP := hP.below hb
    replace hR := hR.below hb
    replace hx := hx.below hb
    replace hB := hB.trans (hb.mono hB.size)
    clear hb
    clear hgh
    clear hx
    obtain ⟨p0, p1, p2, p3⟩ := hP.cells
    obtain ⟨x0, x1, x2⟩ := hR.cells
    obtain ⟨r0, r1, r2⟩ := hR.frozen
    have hgs := stored3 (.int .i64 0) (.int .i64 0) (.string ⟨#[]⟩) x0 x1 x2
    have HB : Hid (Below w.heap.size w (((w3.setCell ⟨w.heap.size + 1, 0, none⟩ (.int .i64 0)).setCell ⟨w.heap.size + 1, 1, none⟩ (.int .i64 0)).setCell ⟨w.heap.size + 1, 2, none⟩ (.string ⟨#[]⟩))) := ((hB.setCell (Nat.le_succ _) _).setCell (Nat.le_succ _) _).setCell (Nat.le_succ _) _
    clear hP hR hB
    go_wp2
    exact bodyPost_ret (v := .tuple #[.agg #[.int .i64 0, .int .i64 0, .string ⟨#[]⟩], .int .i64 (p + 1), .bool true]) (by simp [results, Try.results40, go_sem, hgs]) rfl ⟨by rw [HG.out]; rfl, HB.out⟩
  ·
    have HN : Hid (nextI n (flipF f p) t true p = (rawI n (flipF f p) t (p + 1)).chk) := by show _ = _; unfold nextI; rw [hgb]; rfl
    have hgh : Hid (getB n (flipF f p) p = (1, (p + 1), true)) := hgb
    clear hgb
    obtain ⟨p0, p1, p2, p3⟩ := hP.cells
    go_wp2_with fail
    clear p0 p1 p2 p3
    refine (getBit_any gx 0 n cx (flipF f p) p _ hgh hx (by omega) hp1).mono ?_
    rintro e w3 ⟨rfl, hb⟩
    replace hP := hP.below hb
    replace hR := hR.below hb
    replace hx := hx.below hb
    replace hB := hB.trans (hb.mono hB.size)
    clear hb
    clear hgh
    obtain ⟨p0, p1, p2, p3⟩ := hP.cells
    go_wp2_with fail
    clear p0 p1 p2 p3
    refine (formOf_any t _ ht).mono ?_
    rw [hF, hG]
    rintro e w5 ⟨rfl, hb⟩
    replace hP := hP.below hb
    replace hR := hR.below hb
    replace hx := hx.below hb
    replace hB := hB.trans (hb.mono hB.size)
    clear hb
    have fg := form_get FF GG
    have hEG : ∀ (args : Array Value) (W : World), (callFunc GG args).run Try.prog W = .ok (.enter GG args) W := hE
    obtain ⟨k, y, s, q, ok, hr⟩ : ∃ k y s q ok, Hid (rawI n (flipF f p) t (p + 1) = ⟨k, y, s, q, ok⟩) := ⟨_, _, _, _, _, rfl⟩
    obtain rfl : k = t := by have := rawI_k (n := n) (f := (flipF f p)) (p := (p + 1)) ht; rw [hr.out] at this; exact this
    obtain ⟨p0, p1, p2, p3⟩ := hP.cells
    go_wp2_with fail
    clear p0 p1 p2 p3
    clear fg hEG
    refine (hW n (flipF f p) (p + 1) hn (by omega) _ _ _ _ hx).mono ?_
    rw [hr.out]
    rintro e w6 ⟨rfl, hb⟩
    have hb0 := hb
    replace hP := hP.below hb
    replace hR := hR.below hb
    replace hB := hB.trans (hb.mono hB.size)
    clear hb
    have hlt6 : w.heap.size + 1 < w6.heap.size := hR.lt
    clear hb0 hx
    cases ok with
    | false =>
      have HG : Hid (nextI n (flipF f p) k true p = .no) := by
        show _ = _
        rw [HN.out]
        exact chk_no (by rw [hr.out])
      obtain ⟨p0, p1, p2, p3⟩ := hP.cells
      obtain ⟨x0, x1, x2⟩ := hR.cells
      obtain ⟨r0, r1, r2⟩ := hR.frozen
      have hgs := stored3A (.int .i64 0) (.int .i64 0) (.string ⟨#[]⟩) x0 x1 x2 hR.lt (.cells #[.int .i64 k, .int .i64 y, .string s] 39)
      have HB : Hid (Below w.heap.size w ((((w6.setCell ⟨w.heap.size + 1, 0, none⟩ (.int .i64 0)).setCell ⟨w.heap.size + 1, 1, none⟩ (.int .i64 0)).setCell ⟨w.heap.size + 1, 2, none⟩ (.string ⟨#[]⟩)).alloc (.cells #[.int .i64 k, .int .i64 y, .string s] 39))) := (((hB.setCell (Nat.le_succ _) _).setCell (Nat.le_succ _) _).setCell (Nat.le_succ _) _).alloc (by simpa using hB.size) _
      clear hP hR hB hr
      simp only [gotRet]
      go_wp2
      exact bodyPost_ret (v := .tuple #[.agg #[.int .i64 0, .int .i64 0, .string ⟨#[]⟩], .int .i64 0, .bool false]) (by simp [results, Try.results40, go_sem, hgs]) rfl ⟨by rw [HG.out]; rfl, HB.out⟩
    | true =>
      have hV := Box.new w6 k y s
      have hb : Below w6.heap.size w6 (w6.alloc (.cells #[.int .i64 k, .int .i64 y, .string s] 39)) := (Below.refl _ _).alloc (Nat.le_refl _) _
      obtain ⟨p0, p1, p2, p3⟩ := hP.cells
      replace hP := hP.below hb
      replace hR := hR.below hb
      replace hB := hB.trans (hb.mono hB.size)
      clear hb
      obtain ⟨v0, v1, v2⟩ := hV.cells
      obtain ⟨s0, s1, s2, s3⟩ := hP.cells
      simp only [gotRet]
      go_wp2_with fail
      clear v0 v1 v2 p0 p1 p2 p3 s0 s1 s2 s3
      refine (implFits_any c k true true k y s _).mono ?_
      rw [fitsI_self]
      obtain ⟨o, ho⟩ : ∃ o, Hid (okF k y s = o) := ⟨_, rfl⟩
      rw [ho.out]
      rintro e w7 ⟨rfl, hb⟩
      replace hV := hV.below hb
      replace hP := hP.below hb
      replace hR := hR.below hb
      replace hB := hB.trans (hb.mono hB.size)
      clear hb
      obtain ⟨v0, v1, v2⟩ := hV.cells
      cases o with
      | false =>
        have HG : Hid (nextI n (flipF f p) k true p = .no) := by
          show _ = _
          rw [HN.out, hr.out]
          unfold Got.chk
          rw [ho.out]
          rfl
        clear hV hr ho
        obtain ⟨p0, p1, p2, p3⟩ := hP.cells
        obtain ⟨x0, x1, x2⟩ := hR.cells
        obtain ⟨r0, r1, r2⟩ := hR.frozen
        have hgs := stored3 (.int .i64 0) (.int .i64 0) (.string ⟨#[]⟩) x0 x1 x2
        have HB : Hid (Below w.heap.size w (((w7.setCell ⟨w.heap.size + 1, 0, none⟩ (.int .i64 0)).setCell ⟨w.heap.size + 1, 1, none⟩ (.int .i64 0)).setCell ⟨w.heap.size + 1, 2, none⟩ (.string ⟨#[]⟩))) := ((hB.setCell (Nat.le_succ _) _).setCell (Nat.le_succ _) _).setCell (Nat.le_succ _) _
        clear hP hR hB
        go_wp2
        exact bodyPost_ret (v := .tuple #[.agg #[.int .i64 0, .int .i64 0, .string ⟨#[]⟩], .int .i64 0, .bool false]) (by simp [results, Try.results40, go_sem, hgs]) rfl ⟨by rw [HG.out]; rfl, HB.out⟩
      | true =>
        have HG : Hid (nextI n (flipF f p) k true p = ⟨k, y, s, q, true⟩) := by
          show _ = _
          rw [HN.out, hr.out]
          unfold Got.chk
          rw [ho.out]
          rfl
        clear hV hr ho
        obtain ⟨p0, p1, p2, p3⟩ := hP.cells
        obtain ⟨x0, x1, x2⟩ := hR.cells
        obtain ⟨r0, r1, r2⟩ := hR.frozen
        have hgs := stored3 (.int .i64 k) (.int .i64 y) (.string s) x0 x1 x2
        have HB : Hid (Below w.heap.size w (((w7.setCell ⟨w.heap.size + 1, 0, none⟩ (.int .i64 k)).setCell ⟨w.heap.size + 1, 1, none⟩ (.int .i64 y)).setCell ⟨w.heap.size + 1, 2, none⟩ (.string s))) := ((hB.setCell (Nat.le_succ _) _).setCell (Nat.le_succ _) _).setCell (Nat.le_succ _) _
        clear hP hR hB
        go_wp2
        exact bodyPost_ret (v := .tuple #[.agg #[.int .i64 k, .int .i64 y, .string s], .int .i64 q, .bool true]) (by simp [results, Try.results40, go_sem, hgs]) rfl ⟨by rw [HG.out]; rfl, HB.out⟩


theorem getPart_impl (b off n cap : Nat) (f : Nat → Int) (c t : Int) (nul d : Bool) (p : Int) (w : World) (hv : View w (some ⟨b, off, none⟩) n cap f) (hn : n ≤ 10000000) (hp1 : p ≤ 9223372036854775807) :
    Calls Try.prog 40 #[.slice (some ⟨b, off, none⟩) n cap, .agg #[.int .i64 c, .int .i64 t, .bool nul, .bool d], .int .i64 p] w fun e w' => e = gotRet (getP n f c t nul d p) ∧ Below w.heap.size w w' := by
  cases hok : partOk c t with
  | false => rw [getP_no hok]; exact getPart_no b off n cap f c t nul d p w hv hn hp1 hok
  | true =>
    have ht : 1 ≤ t ∧ t ≤ 4 := by unfold partOk at hok; simp at hok; omega
    obtain ⟨F, G, hF, hG, hE, hW⟩ := formGet ht
    have hb := hv.byte
    cases d with
    | false =>
      rw [← nextI_is (F := f) hok ht hb (fun _ _ => rfl)]
      cases nul with
      | false => exact getPart_ff b off n cap f c t p w hv hn hp1 hok ht F G hF hG hE hW
      | true => exact getPart_tf b off n cap f c t p w hv hn hp1 hok ht F G hF hG hE hW
    | true =>
      rw [← nextI_is (F := flipF f p) hok ht hb (fun i hi => by unfold flipF turned; rw [if_pos hi]; rfl)]
      cases nul with
      | false => exact getPart_ft b off n cap f c t p w hv hn hp1 hok ht F G hF hG hE hW
      | true => exact getPart_tt b off n cap f c t p w hv hn hp1 hok ht F G hF hG hE hW
end Go.Proofs.Ytbcgonfihdpjnab

/-
  What the law's own helpers sameBytes and begins come to, at every two slices of bytes that read.
-/
namespace Go.Proofs.Ytbcgonfihdpjnab
open Go.RowKit
set_option maxRecDepth 4000

theorem lof_eq {n : Nat} {f g : Nat → Int} : lof n f = lof n g ↔ ∀ i, i < n → f i = g i := by
  constructor
  · intro h i hi
    rw [← lof_get n f i hi, ← lof_get n g i hi, h]
  · intro h
    unfold lof
    apply List.map_congr_left
    intro i hi
    exact h i (List.mem_range.1 hi)

set_option maxHeartbeats 1000000 in
theorem sameBytes_any (a1 a2 : Option Addr) (n m c1 c2 : Nat) (f g : Nat → Int) (w : World) (h1 : View w a1 n c1 f) (h2 : View w a2 m c2 g) (hn : n ≤ 281474976710656) (hm : m ≤ 281474976710656) :
    Calls Try.prog 20 #[.slice a1 n c1, .slice a2 m c2] w fun e w' => e = .returned (.bool (decide (lof n f = lof m g))) ∧ Below w.heap.size w w' := by
  by_cases hnm : n = m
  · subst hnm
    have q0 : ((n : Int) != (n : Int)) = false := by simp
    go_enter Try.func20, Try.ntmps20
    go_wp2
    go_loopg [5] n (fun q i wr => ∃ k : Nat, k ≤ n ∧ q = n - k ∧ i = .int .i64 k ∧ Below w.heap.size w wr ∧ ∀ j, j < k → f j = g j)
    case atStart => exact ⟨0, Nat.zero_le _, rfl, rfl, Below.refl _ _, fun j hj => absurd hj (Nat.not_lt_zero _)⟩
    case round =>
      obtain ⟨k, hk, rfl, rfl, hB, hE⟩ := hrel
      have HE : Hid (∀ j, j < k → f j = g j) := hE
      clear hE
      by_cases hlt : k < n
      · obtain ⟨b1, o1, rfl, hb1, hc1⟩ := h1.cells (by omega)
        obtain ⟨b2, o2, rfl, hb2, hc2⟩ := h2.cells (by omega)
        have hkz : (k : Int) < (n : Int) := by omega
        have e1 : wr.cell? ⟨b1, o1 + k, none⟩ = some (.int .u8 (f k)) := by rw [hB.cell (p := ⟨b1, o1 + k, none⟩) hb1]; exact hc1 k hlt
        have e2 : wr.cell? ⟨b2, o2 + k, none⟩ = some (.int .u8 (g k)) := by rw [hB.cell (p := ⟨b2, o2 + k, none⟩) hb2]; exact hc2 k hlt
        clear hc1 hc2
        by_cases he : f k = g k
        · have q1 : (f k != g k) = false := by simpa using he
          have HE2 : Hid (∀ j, j < k + 1 → f j = g j) := fun j hj => by
            by_cases e : j = k
            · subst e; exact he
            · exact HE.out j (by omega)
          clear he
          go_wp2
          go_region
          all_goals go_wp2
          all_goals
            go_roundg (n - (k + 1))
            case measure => omega
            case rel => exact ⟨k + 1, by omega, rfl, by go_num, by first | exact hB.drew | exact hB, HE2.out⟩
        · have q1 : (f k != g k) = true := by simpa using he
          have HD : Hid (decide (lof n f = lof n g) = false) := by
            show _ = _
            rw [decide_eq_false_iff_not, lof_eq]
            exact fun h => he (h k hlt)
          clear he
          go_wp2
          go_region
          all_goals go_wp2
          all_goals
            go_ret
            exact ⟨by rw [HD.out]; rfl, by first | exact hB.drew | exact hB⟩
      · obtain rfl : k = n := by omega
        have HD : Hid (decide (lof k f = lof k g) = true) := by
          show _ = _
          rw [decide_eq_true_iff, lof_eq]
          exact HE.out
        go_wp2
        go_ret
        exact ⟨by rw [HD.out]; rfl, hB⟩
  · have q0 : ((n : Int) != (m : Int)) = true := by simp; omega
    have HD : Hid (decide (lof n f = lof m g) = false) := by
      show _ = _
      rw [decide_eq_false_iff_not]
      intro h
      have := congrArg List.length h
      rw [lof_len, lof_len] at this
      exact hnm this
    go_enter Try.func20, Try.ntmps20
    go_wp2
    go_ret
    exact ⟨by rw [HD.out]; rfl, Below.refl _ _⟩
end Go.Proofs.Ytbcgonfihdpjnab

/-
  Whether a code is too long.
-/
namespace Go.Proofs.Ytbcgonfihdpjnab
open Go.RowKit
set_option maxRecDepth 4000

theorem big_any (ao : Option Addr) (n cap : Nat) (w : World) (_hn : n ≤ 9223372036854775807) :
    Calls Try.prog 9 #[.slice ao n cap] w fun e w' => e = .returned (.bool (decide ((1048576 : Int) < (n : Int)))) ∧ w = w' := by
  go_enter Try.func9, Try.ntmps9
  go_wp2
  go_ret
  exact ⟨rfl, rfl⟩

end Go.Proofs.Ytbcgonfihdpjnab

/-
  The walk over the law FnParts: it answers true and writes nothing that was there, at every code that reads.
-/
namespace Go.Proofs.Ytbcgonfihdpjnab
open Go.RowKit
set_option maxRecDepth 4000

set_option maxHeartbeats 8000000 in
theorem lawParts (ao : Option Addr) (n cap : Nat) (f : Nat → Int) (w : World) (hv : View w ao n cap f) (hlen : n ≤ 9223372036854775807) :
    Calls Try.prog 8 #[.slice ao n cap] w fun e w' => e = .returned (.bool true) ∧ Below w.heap.size w w' := by
  by_cases hbig : (1048576 : Int) < (n : Int)
  · go_enter Try.func8, Try.ntmps8
    go_wp2_with fail
    refine (big_any ao n cap w hlen).mono ?_
    rw [decide_eq_true hbig]
    rintro e _ ⟨rfl, rfl⟩
    go_wp2
    go_ret
    exact ⟨rfl, Below.refl _ _⟩
  go_enter Try.func8, Try.ntmps8
  go_wp2_with fail
  refine (big_any ao n cap w hlen).mono ?_
  rw [decide_eq_false (by omega : ¬ (1048576 : Int) < (n : Int))]
  rintro e _ ⟨rfl, rfl⟩
  go_wp2_with fail
  refine (drawPutPart_any ao n cap f w (by omega) hv).mono ?_
  rintro e w2 ⟨⟨b, cc, m, l, c, t, nul, d, k, x, s, rfl, hx, hs, hO⟩, hB⟩
  have hm9 := hO.few
  have hvb := hO.view
  have hPV := PV.start w2 37 39 c t nul d k x s
  replace hB := hB.trans (hPV.all.mono hB.size)
  obtain ⟨W0, hW0⟩ : ∃ W0, Hid (W0 = (w2.alloc (.cells #[.int .i64 c, .int .i64 t, .bool nul, .bool d] 37)).alloc (.cells #[.int .i64 k, .int .i64 x, .string s] 39)) := ⟨_, rfl⟩
  rw [← hW0.out] at hPV hB
  have hlf : lof m (fun i => l.getD i 0) = l := by have := lof_self l; rw [hO.len] at this; exact this
  obtain ⟨p0, p1, p2, p3⟩ := hPV.part
  obtain ⟨v0, v1, v2⟩ := hPV.val
  go_wp2_with (rw [← hW0.out])
  clear p0 p1 p2 p3 v0 v1 v2
  refine (putPart_impl b 0 m cc _ c t nul d k x s _ (hvb.below hPV.all) (by omega)).mono ?_
  rintro e w3 ⟨g, cg, rfl, hg, hcg, hr, hb⟩
  rw [hlf] at hr
  replace hPV := hPV.step hb
  replace hB := hB.trans (hb.mono hB.size)
  clear hb
  obtain ⟨L, hL⟩ : ∃ L, Hid (L = putPL c t nul d k x s) := ⟨_, rfl⟩
  rw [← hL.out] at hr hcg ⊢
  have hLl := putPL_len c t nul d k x s
  rw [← hL.out] at hLl
  have hyb : Hid (∀ i, i < m + L.length → 0 ≤ (l ++ L).getD i 0 ∧ (l ++ L).getD i 0 ≤ 255) := fun i hi => (List.forall_mem_append.2 ⟨hO.byte, by rw [hL.out]; exact putPL_byte c t nul d k x s⟩ : ∀ y ∈ l ++ L, 0 ≤ y ∧ y ≤ 255) _ (getD_in (by rw [List.length_append, hO.len]; exact hi))
  cases hok : partOk c t with
  | false =>
    obtain ⟨p0, p1, p2, p3⟩ := hPV.part
    obtain ⟨v0, v1, v2⟩ := hPV.val
    go_wp2_with fail
    clear p0 p1 p2 p3 v0 v1 v2
    refine (specPartOk_any c t nul d _).mono ?_
    rw [hok]
    rintro e w4 ⟨rfl, hb⟩
    replace hr := hr.belowAll hb
    replace hPV := hPV.step hb
    replace hB := hB.trans (hb.mono hB.size)
    clear hb
    have hm1 : m + L.length ≤ 281474976710656 := by omega
    have hm2 : m ≤ 281474976710656 := by omega
    have hdec : decide (lof (m + L.length) (fun i => (l ++ L).getD i 0) = lof m (fun i => l.getD i 0)) = true := by rw [hL.out]; apply decide_eq_true; rw [show putPL c t nul d k x s = [] by unfold putPL; rw [hok]; rfl, List.append_nil]; rfl
    obtain ⟨p0, p1, p2, p3⟩ := hPV.part
    obtain ⟨v0, v1, v2⟩ := hPV.val
    go_wp2_with fail
    clear p0 p1 p2 p3 v0 v1 v2
    refine (sameBytes_any (some ⟨g, 0, none⟩) (some ⟨b, 0, none⟩) (m + L.length) m cg cc (fun i => (l ++ L).getD i 0) (fun i => l.getD i 0) _ (hr.view hcg hyb.out) (hvb.below hPV.all) hm1 hm2).mono ?_
    rw [hdec]
    rintro e w6 ⟨rfl, hb⟩
    replace hr := hr.belowAll hb
    replace hPV := hPV.step hb
    replace hB := hB.trans (hb.mono hB.size)
    clear hb
    obtain ⟨p0, p1, p2, p3⟩ := hPV.part
    obtain ⟨v0, v1, v2⟩ := hPV.val
    go_wp2_with fail
    clear p0 p1 p2 p3 v0 v1 v2
    refine (implPartOk_any c t nul d _).mono ?_
    rw [hok]
    rintro e w7 ⟨rfl, hb⟩
    replace hr := hr.belowAll hb
    replace hPV := hPV.step hb
    replace hB := hB.trans (hb.mono hB.size)
    clear hb
    clear hr hyb hvb hPV
    go_wp2
    go_ret
    exact ⟨rfl, hB⟩
  | true =>
    have ht : 1 ≤ t ∧ t ≤ 4 := by unfold partOk at hok; simp at hok; omega
    cases hfit : fitsP t nul k x s with
    | false =>
      obtain ⟨p0, p1, p2, p3⟩ := hPV.part
      obtain ⟨v0, v1, v2⟩ := hPV.val
      go_wp2_with fail
      clear p0 p1 p2 p3 v0 v1 v2
      refine (specPartOk_any c t nul d _).mono ?_
      rw [hok]
      rintro e w4 ⟨rfl, hb⟩
      replace hr := hr.belowAll hb
      replace hPV := hPV.step hb
      replace hB := hB.trans (hb.mono hB.size)
      clear hb
      obtain ⟨p0, p1, p2, p3⟩ := hPV.part
      obtain ⟨v0, v1, v2⟩ := hPV.val
      go_wp2_with fail
      clear p0 p1 p2 p3 v0 v1 v2
      refine (specFits_any c t nul d k x s _ (by omega)).mono ?_
      rw [hfit]
      rintro e w5 ⟨rfl, hb⟩
      replace hr := hr.belowAll hb
      replace hPV := hPV.step hb
      replace hB := hB.trans (hb.mono hB.size)
      clear hb
      have hm1 : m + L.length ≤ 281474976710656 := by omega
      have hm2 : m ≤ 281474976710656 := by omega
      have hdec : decide (lof (m + L.length) (fun i => (l ++ L).getD i 0) = lof m (fun i => l.getD i 0)) = true := by rw [hL.out]; apply decide_eq_true; rw [show putPL c t nul d k x s = [] by unfold putPL; rw [hok, hfit]; rfl, List.append_nil]; rfl
      obtain ⟨p0, p1, p2, p3⟩ := hPV.part
      obtain ⟨v0, v1, v2⟩ := hPV.val
      go_wp2_with fail
      clear p0 p1 p2 p3 v0 v1 v2
      refine (sameBytes_any (some ⟨g, 0, none⟩) (some ⟨b, 0, none⟩) (m + L.length) m cg cc (fun i => (l ++ L).getD i 0) (fun i => l.getD i 0) _ (hr.view hcg hyb.out) (hvb.below hPV.all) hm1 hm2).mono ?_
      rw [hdec]
      rintro e w6 ⟨rfl, hb⟩
      replace hr := hr.belowAll hb
      replace hPV := hPV.step hb
      replace hB := hB.trans (hb.mono hB.size)
      clear hb
      obtain ⟨p0, p1, p2, p3⟩ := hPV.part
      obtain ⟨v0, v1, v2⟩ := hPV.val
      go_wp2_with fail
      clear p0 p1 p2 p3 v0 v1 v2
      refine (implPartOk_any c t nul d _).mono ?_
      rw [hok]
      rintro e w7 ⟨rfl, hb⟩
      replace hr := hr.belowAll hb
      replace hPV := hPV.step hb
      replace hB := hB.trans (hb.mono hB.size)
      clear hb
      obtain ⟨p0, p1, p2, p3⟩ := hPV.part
      obtain ⟨v0, v1, v2⟩ := hPV.val
      go_wp2_with fail
      clear p0 p1 p2 p3 v0 v1 v2
      refine (implFits_any c t nul d k x s _).mono ?_
      rw [fitsI_ok ht.1, hfit]
      rintro e w8 ⟨rfl, hb⟩
      replace hr := hr.belowAll hb
      replace hPV := hPV.step hb
      replace hB := hB.trans (hb.mono hB.size)
      clear hb
      clear hr hyb hvb hPV
      go_wp2
      go_ret
      exact ⟨rfl, hB⟩
    | true =>
      obtain ⟨p0, p1, p2, p3⟩ := hPV.part
      obtain ⟨v0, v1, v2⟩ := hPV.val
      go_wp2_with fail
      clear p0 p1 p2 p3 v0 v1 v2
      refine (specPartOk_any c t nul d _).mono ?_
      rw [hok]
      rintro e w4 ⟨rfl, hb⟩
      replace hr := hr.belowAll hb
      replace hPV := hPV.step hb
      replace hB := hB.trans (hb.mono hB.size)
      clear hb
      obtain ⟨p0, p1, p2, p3⟩ := hPV.part
      obtain ⟨v0, v1, v2⟩ := hPV.val
      go_wp2_with fail
      clear p0 p1 p2 p3 v0 v1 v2
      refine (specFits_any c t nul d k x s _ (by omega)).mono ?_
      rw [hfit]
      rintro e w5 ⟨rfl, hb⟩
      replace hr := hr.belowAll hb
      replace hPV := hPV.step hb
      replace hB := hB.trans (hb.mono hB.size)
      clear hb
      have hLt : Hid (L = turnL d (partL nul k x s)) := by show _ = _; rw [hL.out]; unfold putPL; rw [hok, hfit]; rfl
      have hlp : Hid (L.length = (partL nul k x s).length) := by show _ = _; rw [hLt.out, turnL_len]
      have hpl := (partL_len nul k x s).1
      have hpos : (m : Int) < (m : Int) + (L.length : Int) := by have := hlp.out; omega
      have hvx := (hr.view hcg hyb.out).congr (g := backF l m d (partL nul k x s)) (fun i hi => by rw [hLt.out]; exact backF_is hO.len i (by have := hlp.out; omega))
      have hback : Hid (getP (m + L.length) (backF l m d (partL nul k x s)) c t nul d (m : Int) = ⟨k, x, s, (m : Int) + (L.length : Int), true⟩) := by show _ = _; rw [hlp.out]; exact part_backI hO.len hO.byte hok hfit
      obtain ⟨p0, p1, p2, p3⟩ := hPV.part
      obtain ⟨v0, v1, v2⟩ := hPV.val
      go_wp2_with fail
      clear p0 p1 p2 p3 v0 v1 v2
      refine (getPart_impl g 0 (m + L.length) cg _ c t nul d (m : Int) _ hvx (by omega) (by omega)).mono ?_
      rw [hback.out]
      rintro e w6 ⟨rfl, hb⟩
      replace hr := hr.belowAll hb
      replace hPV := hPV.step hb
      replace hB := hB.trans (hb.mono hB.size)
      clear hb
      clear hvx hr hyb hvb
      have hVb := Box.new w6 k x s
      have hb : Below w6.heap.size w6 (w6.alloc (.cells #[.int .i64 k, .int .i64 x, .string s] 39)) := (Below.refl _ _).alloc (Nat.le_refl _) _
      obtain ⟨W6, hW6⟩ : ∃ W6, Hid (W6 = w6.alloc (.cells #[.int .i64 k, .int .i64 x, .string s] 39)) := ⟨_, rfl⟩
      rw [← hW6.out] at hVb hb
      replace hPV := hPV.step hb
      replace hB := hB.trans (hb.mono hB.size)
      clear hb
      have q := eqVal_run k x s k x s
      rw [show eqV k x s k x s = true by simp [eqV]] at q
      obtain ⟨y0, y1, y2⟩ := hVb.cells
      simp only [gotRet]
      obtain ⟨p0, p1, p2, p3⟩ := hPV.part
      obtain ⟨v0, v1, v2⟩ := hPV.val
      go_wp2_with (rw [← hW6.out])
      clear p0 p1 p2 p3 v0 v1 v2
      clear y0 y1 y2
      refine (implPartOk_any c t nul d _).mono ?_
      rw [hok]
      rintro e w7 ⟨rfl, hb⟩
      replace hPV := hPV.step hb
      replace hB := hB.trans (hb.mono hB.size)
      clear hb
      obtain ⟨p0, p1, p2, p3⟩ := hPV.part
      obtain ⟨v0, v1, v2⟩ := hPV.val
      go_wp2_with fail
      clear p0 p1 p2 p3 v0 v1 v2
      refine (implFits_any c t nul d k x s _).mono ?_
      rw [fitsI_ok ht.1, hfit]
      rintro e w8 ⟨rfl, hb⟩
      replace hPV := hPV.step hb
      replace hB := hB.trans (hb.mono hB.size)
      clear hb
      clear hPV q
      go_wp2
      go_ret
      exact ⟨rfl, hB⟩
end Go.Proofs.Ytbcgonfihdpjnab

