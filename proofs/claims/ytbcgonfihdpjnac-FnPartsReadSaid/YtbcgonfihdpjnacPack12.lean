/-
  Together: PartGetImpl, GetEscSpec, PartGetSpec
-/
import Derived.Test.YtbcgonfihdpjnacPack11
import Derived.Test.YtbcgonfihdpjnacPack7
import Derived.Test.YtbcgonfihdpjnacPack8
import Derived.Test.YtbcgonfihdpjnacPack3
import Derived.Test.YtbcgonfihdpjnacPack4
import Derived.Test.YtbcgonfihdpjnacPack10
/-
  The program's GetPart: one value of a key, at every slice of bytes that reads and at every place.
-/
namespace Go.Proofs.Ytbcgonfihdpjnac
open Go.RowKit
set_option maxRecDepth 4000

/-- The function is Go's own. -/
def EntersG (F : Nat) : Prop := ∀ (args : Array Value) (W : World), (callFunc F args).run Try.prog W = .ok (.enter F args) W
/-- A type's reader, by its number. -/
theorem formGet {t : Int} (ht : 1 ≤ t ∧ t ≤ 4) : ∃ F G : Nat, (formV t).1 = .func (.func F) #[] #[] ∧ (formV t).2 = .func (.func G) #[] #[] ∧ EntersG G ∧ ∀ n f p, n ≤ 10000000 → p ≤ 9223372036854775807 → ReadsV G n f p (rawI n f t p) := by
  obtain rfl | rfl | rfl | rfl : t = 1 ∨ t = 2 ∨ t = 3 ∨ t = 4 := by omega
  · exact ⟨_, _, rfl, rfl, fun _ _ => by kernel_rfl, fun n f p hn hp => getInt_any n f p hn hp⟩
  · exact ⟨_, _, rfl, rfl, fun _ _ => by kernel_rfl, fun n f p hn hp => getNum_any n f p hn hp⟩
  · exact ⟨_, _, rfl, rfl, fun _ _ => by kernel_rfl, fun n f p hn hp => getText_any n f p hn hp⟩
  · exact ⟨_, _, rfl, rfl, fun _ _ => by kernel_rfl, fun n f p hn hp => getBool_any n f p hn hp⟩
theorem rawI_k {n : Nat} {f : Nat → Int} {t p : Int} (ht : 1 ≤ t ∧ t ≤ 4) : (rawI n f t p).k = t := by
  obtain rfl | rfl | rfl | rfl : t = 1 ∨ t = 2 ∨ t = 3 ∨ t = 4 := by omega
  all_goals rfl
theorem fitsI_self {t y : Int} {nul : Bool} {s : ByteArray} : fitsI t nul t y s = okF t y s := by unfold fitsI; simp

set_option maxHeartbeats 4000000 in
theorem getPart_no (b off n cap : Nat) (f : Nat → Int) (c t : Int) (nul d : Bool) (p : Int) (w : World) (_hv : View w (some ⟨b, off, none⟩) n cap f) (_hn : n ≤ 10000000) (_hp1 : p ≤ 9223372036854775807) (hok : partOk c t = false) :
    Calls Try.prog 6 #[.slice (some ⟨b, off, none⟩) n cap, .agg #[.int .i64 c, .int .i64 t, .bool nul, .bool d], .int .i64 p] w fun e w' => e = gotRet (.no) ∧ Below w.heap.size w w' := by
  have hP := (PBox.new w c t nul d).below ((Below.refl _ _).alloc (Nat.le_refl _) (.cells #[.int .i64 0, .int .i64 0, .string ⟨#[]⟩] 29))
  have hR := Box.new (w.alloc (.cells #[.int .i64 c, .int .i64 t, .bool nul, .bool d] 25)) 0 0 ⟨#[]⟩
  rw [show (w.alloc (.cells #[.int .i64 c, .int .i64 t, .bool nul, .bool d] 25)).heap.size = w.heap.size + 1 by simp] at hR
  have hB : Below w.heap.size w ((w.alloc (.cells #[.int .i64 c, .int .i64 t, .bool nul, .bool d] 25)).alloc (.cells #[.int .i64 0, .int .i64 0, .string ⟨#[]⟩] 29)) := ((Below.refl _ _).alloc (Nat.le_refl _) _).alloc (by simp) _
  go_enter Try.func6, Try.ntmps6
  go_wp2_with fail
  refine (implPartOk_any c t nul d _).mono ?_
  rw [hok]
  rintro e w1 ⟨rfl, hb⟩
  replace hP := hP.below hb
  replace hR := hR.below hb
  replace hB := hB.trans (hb.mono hB.size)
  clear hb
  obtain ⟨p0, p1, p2, p3⟩ := hP.cells
  obtain ⟨x0, x1, x2⟩ := hR.cells
  obtain ⟨r0, r1, r2⟩ := hR.frozen
  have hgs := stored3 (.int .i64 0) (.int .i64 0) (.string ⟨#[]⟩) x0 x1 x2
  have HB : Hid (Below w.heap.size w (((w1.setCell ⟨w.heap.size + 1, 0, none⟩ (.int .i64 0)).setCell ⟨w.heap.size + 1, 1, none⟩ (.int .i64 0)).setCell ⟨w.heap.size + 1, 2, none⟩ (.string ⟨#[]⟩))) := ((hB.setCell (Nat.le_succ _) _).setCell (Nat.le_succ _) _).setCell (Nat.le_succ _) _
  clear hP hR hB
  go_wp2
  exact bodyPost_ret (v := .tuple #[.agg #[.int .i64 0, .int .i64 0, .string ⟨#[]⟩], .int .i64 0, .bool false]) (by simp [results, Try.results6, go_sem, hgs]) rfl ⟨rfl, HB.out⟩

theorem getB_cases {n : Nat} {F : Nat → Int} {p : Int} (hb : ∀ i, i < n → 0 ≤ F i ∧ F i ≤ 255) : getB n F p = (0, 0, false) ∨ ((0 ≤ p ∧ p < n) ∧ (getB n F p = (0, p + 1, true) ∨ getB n F p = (1, p + 1, true))) := by
  by_cases h : p < 0 ∨ (n : Int) ≤ p ∨ 1 < F p.toNat
  · left; unfold getB; rw [if_pos h]
  · right
    refine ⟨by omega, ?_⟩
    have h0 := hb p.toNat (by omega)
    have e : getB n F p = (F p.toNat, p + 1, true) := by unfold getB; rw [if_neg h]
    rw [e]
    by_cases h1 : F p.toNat = 0
    · left; rw [h1]
    · right; rw [show F p.toNat = 1 by omega]

set_option maxHeartbeats 8000000 in
theorem getPart_ff (b off n cap : Nat) (f : Nat → Int) (c t : Int) (p : Int) (w : World) (hv : View w (some ⟨b, off, none⟩) n cap f) (hn : n ≤ 10000000) (hp1 : p ≤ 9223372036854775807) (hok : partOk c t = true) (ht : 1 ≤ t ∧ t ≤ 4) (FF GG : Nat) (hF : (formV t).1 = .func (.func FF) #[] #[]) (hG : (formV t).2 = .func (.func GG) #[] #[]) (hE : EntersG GG) (hW : ∀ n f p, n ≤ 10000000 → p ≤ 9223372036854775807 → ReadsV GG n f p (rawI n f t p)) :
    Calls Try.prog 6 #[.slice (some ⟨b, off, none⟩) n cap, .agg #[.int .i64 c, .int .i64 t, .bool false, .bool false], .int .i64 p] w fun e w' => e = gotRet (nextI n f t false p) ∧ Below w.heap.size w w' := by
  have hP := (PBox.new w c t false false).below ((Below.refl _ _).alloc (Nat.le_refl _) (.cells #[.int .i64 0, .int .i64 0, .string ⟨#[]⟩] 29))
  have hR := Box.new (w.alloc (.cells #[.int .i64 c, .int .i64 t, .bool false, .bool false] 25)) 0 0 ⟨#[]⟩
  rw [show (w.alloc (.cells #[.int .i64 c, .int .i64 t, .bool false, .bool false] 25)).heap.size = w.heap.size + 1 by simp] at hR
  have hB : Below w.heap.size w ((w.alloc (.cells #[.int .i64 c, .int .i64 t, .bool false, .bool false] 25)).alloc (.cells #[.int .i64 0, .int .i64 0, .string ⟨#[]⟩] 29)) := ((Below.refl _ _).alloc (Nat.le_refl _) _).alloc (by simp) _
  go_enter Try.func6, Try.ntmps6
  go_wp2_with fail
  refine (implPartOk_any c t false false _).mono ?_
  rw [hok]
  rintro e w1 ⟨rfl, hb⟩
  replace hP := hP.below hb
  replace hR := hR.below hb
  replace hB := hB.trans (hb.mono hB.size)
  clear hb
  have hx := hv.below hB
  have HN : Hid (nextI n f t false p = (rawI n f t p).chk) := rfl
  obtain ⟨p0, p1, p2, p3⟩ := hP.cells
  go_wp2_with fail
  clear p0 p1 p2 p3
  refine (formOf_any t _ ht).mono ?_
  rw [hF, hG]
  rintro e w5 ⟨rfl, hb⟩
  replace hP := hP.below hb
  replace hR := hR.below hb
  replace hx := hx.below hb
  replace hB := hB.trans (hb.mono hB.size)
  clear hb
  have fg := form_get FF GG
  have hEG : ∀ (args : Array Value) (W : World), (callFunc GG args).run Try.prog W = .ok (.enter GG args) W := hE
  obtain ⟨k, y, s, q, ok, hr⟩ : ∃ k y s q ok, Hid (rawI n f t p = ⟨k, y, s, q, ok⟩) := ⟨_, _, _, _, _, rfl⟩
  obtain rfl : k = t := by have := rawI_k (n := n) (f := f) (p := p) ht; rw [hr.out] at this; exact this
  obtain ⟨p0, p1, p2, p3⟩ := hP.cells
  go_wp2_with fail
  clear p0 p1 p2 p3
  clear fg hEG
  refine (hW n f p hn (by omega) _ _ _ _ hx).mono ?_
  rw [hr.out]
  rintro e w6 ⟨rfl, hb⟩
  have hb0 := hb
  replace hP := hP.below hb
  replace hR := hR.below hb
  replace hB := hB.trans (hb.mono hB.size)
  clear hb
  have hlt6 : w.heap.size + 1 < w6.heap.size := hR.lt
  clear hb0 hx
  cases ok with
  | false =>
    have HG : Hid (nextI n f k false p = .no) := by
      show _ = _
      rw [HN.out]
      exact chk_no (by rw [hr.out])
    obtain ⟨p0, p1, p2, p3⟩ := hP.cells
    obtain ⟨x0, x1, x2⟩ := hR.cells
    obtain ⟨r0, r1, r2⟩ := hR.frozen
    have hgs := stored3A (.int .i64 0) (.int .i64 0) (.string ⟨#[]⟩) x0 x1 x2 hR.lt (.cells #[.int .i64 k, .int .i64 y, .string s] 29)
    have HB : Hid (Below w.heap.size w ((((w6.setCell ⟨w.heap.size + 1, 0, none⟩ (.int .i64 0)).setCell ⟨w.heap.size + 1, 1, none⟩ (.int .i64 0)).setCell ⟨w.heap.size + 1, 2, none⟩ (.string ⟨#[]⟩)).alloc (.cells #[.int .i64 k, .int .i64 y, .string s] 29))) := (((hB.setCell (Nat.le_succ _) _).setCell (Nat.le_succ _) _).setCell (Nat.le_succ _) _).alloc (by simpa using hB.size) _
    clear hP hR hB hr
    simp only [gotRet]
    go_wp2
    exact bodyPost_ret (v := .tuple #[.agg #[.int .i64 0, .int .i64 0, .string ⟨#[]⟩], .int .i64 0, .bool false]) (by simp [results, Try.results6, go_sem, hgs]) rfl ⟨by rw [HG.out]; rfl, HB.out⟩
  | true =>
    have hV := Box.new w6 k y s
    have hb : Below w6.heap.size w6 (w6.alloc (.cells #[.int .i64 k, .int .i64 y, .string s] 29)) := (Below.refl _ _).alloc (Nat.le_refl _) _
    obtain ⟨p0, p1, p2, p3⟩ := hP.cells
    replace hP := hP.below hb
    replace hR := hR.below hb
    replace hB := hB.trans (hb.mono hB.size)
    clear hb
    obtain ⟨v0, v1, v2⟩ := hV.cells
    obtain ⟨s0, s1, s2, s3⟩ := hP.cells
    simp only [gotRet]
    go_wp2_with fail
    clear v0 v1 v2 p0 p1 p2 p3 s0 s1 s2 s3
    refine (implFits_any c k false false k y s _).mono ?_
    rw [fitsI_self]
    obtain ⟨o, ho⟩ : ∃ o, Hid (okF k y s = o) := ⟨_, rfl⟩
    rw [ho.out]
    rintro e w7 ⟨rfl, hb⟩
    replace hV := hV.below hb
    replace hP := hP.below hb
    replace hR := hR.below hb
    replace hB := hB.trans (hb.mono hB.size)
    clear hb
    obtain ⟨v0, v1, v2⟩ := hV.cells
    cases o with
    | false =>
      have HG : Hid (nextI n f k false p = .no) := by
        show _ = _
        rw [HN.out, hr.out]
        unfold Got.chk
        rw [ho.out]
        rfl
      clear hV hr ho
      obtain ⟨p0, p1, p2, p3⟩ := hP.cells
      obtain ⟨x0, x1, x2⟩ := hR.cells
      obtain ⟨r0, r1, r2⟩ := hR.frozen
      have hgs := stored3 (.int .i64 0) (.int .i64 0) (.string ⟨#[]⟩) x0 x1 x2
      have HB : Hid (Below w.heap.size w (((w7.setCell ⟨w.heap.size + 1, 0, none⟩ (.int .i64 0)).setCell ⟨w.heap.size + 1, 1, none⟩ (.int .i64 0)).setCell ⟨w.heap.size + 1, 2, none⟩ (.string ⟨#[]⟩))) := ((hB.setCell (Nat.le_succ _) _).setCell (Nat.le_succ _) _).setCell (Nat.le_succ _) _
      clear hP hR hB
      go_wp2
      exact bodyPost_ret (v := .tuple #[.agg #[.int .i64 0, .int .i64 0, .string ⟨#[]⟩], .int .i64 0, .bool false]) (by simp [results, Try.results6, go_sem, hgs]) rfl ⟨by rw [HG.out]; rfl, HB.out⟩
    | true =>
      have HG : Hid (nextI n f k false p = ⟨k, y, s, q, true⟩) := by
        show _ = _
        rw [HN.out, hr.out]
        unfold Got.chk
        rw [ho.out]
        rfl
      clear hV hr ho
      obtain ⟨p0, p1, p2, p3⟩ := hP.cells
      obtain ⟨x0, x1, x2⟩ := hR.cells
      obtain ⟨r0, r1, r2⟩ := hR.frozen
      have hgs := stored3 (.int .i64 k) (.int .i64 y) (.string s) x0 x1 x2
      have HB : Hid (Below w.heap.size w (((w7.setCell ⟨w.heap.size + 1, 0, none⟩ (.int .i64 k)).setCell ⟨w.heap.size + 1, 1, none⟩ (.int .i64 y)).setCell ⟨w.heap.size + 1, 2, none⟩ (.string s))) := ((hB.setCell (Nat.le_succ _) _).setCell (Nat.le_succ _) _).setCell (Nat.le_succ _) _
      clear hP hR hB
      go_wp2
      exact bodyPost_ret (v := .tuple #[.agg #[.int .i64 k, .int .i64 y, .string s], .int .i64 q, .bool true]) (by simp [results, Try.results6, go_sem, hgs]) rfl ⟨by rw [HG.out]; rfl, HB.out⟩

set_option maxHeartbeats 8000000 in
theorem getPart_ft (b off n cap : Nat) (f : Nat → Int) (c t : Int) (p : Int) (w : World) (hv : View w (some ⟨b, off, none⟩) n cap f) (hn : n ≤ 10000000) (hp1 : p ≤ 9223372036854775807) (hok : partOk c t = true) (ht : 1 ≤ t ∧ t ≤ 4) (FF GG : Nat) (hF : (formV t).1 = .func (.func FF) #[] #[]) (hG : (formV t).2 = .func (.func GG) #[] #[]) (hE : EntersG GG) (hW : ∀ n f p, n ≤ 10000000 → p ≤ 9223372036854775807 → ReadsV GG n f p (rawI n f t p)) :
    Calls Try.prog 6 #[.slice (some ⟨b, off, none⟩) n cap, .agg #[.int .i64 c, .int .i64 t, .bool false, .bool true], .int .i64 p] w fun e w' => e = gotRet (nextI n (flipF f p) t false p) ∧ Below w.heap.size w w' := by
  have hP := (PBox.new w c t false true).below ((Below.refl _ _).alloc (Nat.le_refl _) (.cells #[.int .i64 0, .int .i64 0, .string ⟨#[]⟩] 29))
  have hR := Box.new (w.alloc (.cells #[.int .i64 c, .int .i64 t, .bool false, .bool true] 25)) 0 0 ⟨#[]⟩
  rw [show (w.alloc (.cells #[.int .i64 c, .int .i64 t, .bool false, .bool true] 25)).heap.size = w.heap.size + 1 by simp] at hR
  have hB : Below w.heap.size w ((w.alloc (.cells #[.int .i64 c, .int .i64 t, .bool false, .bool true] 25)).alloc (.cells #[.int .i64 0, .int .i64 0, .string ⟨#[]⟩] 29)) := ((Below.refl _ _).alloc (Nat.le_refl _) _).alloc (by simp) _
  go_enter Try.func6, Try.ntmps6
  go_wp2_with fail
  refine (implPartOk_any c t false true _).mono ?_
  rw [hok]
  rintro e w1 ⟨rfl, hb⟩
  replace hP := hP.below hb
  replace hR := hR.below hb
  replace hB := hB.trans (hb.mono hB.size)
  clear hb
  have hx := hv.below hB
  obtain ⟨p0, p1, p2, p3⟩ := hP.cells
  go_wp2_with fail
  clear p0 p1 p2 p3
  refine (flip_impl b off n cap f p _ hx (by omega) hp1).mono ?_
  rintro e w2 ⟨gx, cx, rfl, -, hcx, hrx, hb⟩
  replace hx := hrx.view hcx (flipF_byte p hx.byte)
  clear hrx
  replace hP := hP.below hb
  replace hR := hR.below hb
  replace hB := hB.trans (hb.mono hB.size)
  clear hb
  have HN : Hid (nextI n (flipF f p) t false p = (rawI n (flipF f p) t p).chk) := rfl
  obtain ⟨p0, p1, p2, p3⟩ := hP.cells
  go_wp2_with fail
  clear p0 p1 p2 p3
  refine (formOf_any t _ ht).mono ?_
  rw [hF, hG]
  rintro e w5 ⟨rfl, hb⟩
  replace hP := hP.below hb
  replace hR := hR.below hb
  replace hx := hx.below hb
  replace hB := hB.trans (hb.mono hB.size)
  clear hb
  have fg := form_get FF GG
  have hEG : ∀ (args : Array Value) (W : World), (callFunc GG args).run Try.prog W = .ok (.enter GG args) W := hE
  obtain ⟨k, y, s, q, ok, hr⟩ : ∃ k y s q ok, Hid (rawI n (flipF f p) t p = ⟨k, y, s, q, ok⟩) := ⟨_, _, _, _, _, rfl⟩
  obtain rfl : k = t := by have := rawI_k (n := n) (f := (flipF f p)) (p := p) ht; rw [hr.out] at this; exact this
  obtain ⟨p0, p1, p2, p3⟩ := hP.cells
  go_wp2_with fail
  clear p0 p1 p2 p3
  clear fg hEG
  refine (hW n (flipF f p) p hn (by omega) _ _ _ _ hx).mono ?_
  rw [hr.out]
  rintro e w6 ⟨rfl, hb⟩
  have hb0 := hb
  replace hP := hP.below hb
  replace hR := hR.below hb
  replace hB := hB.trans (hb.mono hB.size)
  clear hb
  have hlt6 : w.heap.size + 1 < w6.heap.size := hR.lt
  clear hb0 hx
  cases ok with
  | false =>
    have HG : Hid (nextI n (flipF f p) k false p = .no) := by
      show _ = _
      rw [HN.out]
      exact chk_no (by rw [hr.out])
    obtain ⟨p0, p1, p2, p3⟩ := hP.cells
    obtain ⟨x0, x1, x2⟩ := hR.cells
    obtain ⟨r0, r1, r2⟩ := hR.frozen
    have hgs := stored3A (.int .i64 0) (.int .i64 0) (.string ⟨#[]⟩) x0 x1 x2 hR.lt (.cells #[.int .i64 k, .int .i64 y, .string s] 29)
    have HB : Hid (Below w.heap.size w ((((w6.setCell ⟨w.heap.size + 1, 0, none⟩ (.int .i64 0)).setCell ⟨w.heap.size + 1, 1, none⟩ (.int .i64 0)).setCell ⟨w.heap.size + 1, 2, none⟩ (.string ⟨#[]⟩)).alloc (.cells #[.int .i64 k, .int .i64 y, .string s] 29))) := (((hB.setCell (Nat.le_succ _) _).setCell (Nat.le_succ _) _).setCell (Nat.le_succ _) _).alloc (by simpa using hB.size) _
    clear hP hR hB hr
    simp only [gotRet]
    go_wp2
    exact bodyPost_ret (v := .tuple #[.agg #[.int .i64 0, .int .i64 0, .string ⟨#[]⟩], .int .i64 0, .bool false]) (by simp [results, Try.results6, go_sem, hgs]) rfl ⟨by rw [HG.out]; rfl, HB.out⟩
  | true =>
    have hV := Box.new w6 k y s
    have hb : Below w6.heap.size w6 (w6.alloc (.cells #[.int .i64 k, .int .i64 y, .string s] 29)) := (Below.refl _ _).alloc (Nat.le_refl _) _
    obtain ⟨p0, p1, p2, p3⟩ := hP.cells
    replace hP := hP.below hb
    replace hR := hR.below hb
    replace hB := hB.trans (hb.mono hB.size)
    clear hb
    obtain ⟨v0, v1, v2⟩ := hV.cells
    obtain ⟨s0, s1, s2, s3⟩ := hP.cells
    simp only [gotRet]
    go_wp2_with fail
    clear v0 v1 v2 p0 p1 p2 p3 s0 s1 s2 s3
    refine (implFits_any c k false true k y s _).mono ?_
    rw [fitsI_self]
    obtain ⟨o, ho⟩ : ∃ o, Hid (okF k y s = o) := ⟨_, rfl⟩
    rw [ho.out]
    rintro e w7 ⟨rfl, hb⟩
    replace hV := hV.below hb
    replace hP := hP.below hb
    replace hR := hR.below hb
    replace hB := hB.trans (hb.mono hB.size)
    clear hb
    obtain ⟨v0, v1, v2⟩ := hV.cells
    cases o with
    | false =>
      have HG : Hid (nextI n (flipF f p) k false p = .no) := by
        show _ = _
        rw [HN.out, hr.out]
        unfold Got.chk
        rw [ho.out]
        rfl
      clear hV hr ho
      obtain ⟨p0, p1, p2, p3⟩ := hP.cells
      obtain ⟨x0, x1, x2⟩ := hR.cells
      obtain ⟨r0, r1, r2⟩ := hR.frozen
      have hgs := stored3 (.int .i64 0) (.int .i64 0) (.string ⟨#[]⟩) x0 x1 x2
      have HB : Hid (Below w.heap.size w (((w7.setCell ⟨w.heap.size + 1, 0, none⟩ (.int .i64 0)).setCell ⟨w.heap.size + 1, 1, none⟩ (.int .i64 0)).setCell ⟨w.heap.size + 1, 2, none⟩ (.string ⟨#[]⟩))) := ((hB.setCell (Nat.le_succ _) _).setCell (Nat.le_succ _) _).setCell (Nat.le_succ _) _
      clear hP hR hB
      go_wp2
      exact bodyPost_ret (v := .tuple #[.agg #[.int .i64 0, .int .i64 0, .string ⟨#[]⟩], .int .i64 0, .bool false]) (by simp [results, Try.results6, go_sem, hgs]) rfl ⟨by rw [HG.out]; rfl, HB.out⟩
    | true =>
      have HG : Hid (nextI n (flipF f p) k false p = ⟨k, y, s, q, true⟩) := by
        show _ = _
        rw [HN.out, hr.out]
        unfold Got.chk
        rw [ho.out]
        rfl
      clear hV hr ho
      obtain ⟨p0, p1, p2, p3⟩ := hP.cells
      obtain ⟨x0, x1, x2⟩ := hR.cells
      obtain ⟨r0, r1, r2⟩ := hR.frozen
      have hgs := stored3 (.int .i64 k) (.int .i64 y) (.string s) x0 x1 x2
      have HB : Hid (Below w.heap.size w (((w7.setCell ⟨w.heap.size + 1, 0, none⟩ (.int .i64 k)).setCell ⟨w.heap.size + 1, 1, none⟩ (.int .i64 y)).setCell ⟨w.heap.size + 1, 2, none⟩ (.string s))) := ((hB.setCell (Nat.le_succ _) _).setCell (Nat.le_succ _) _).setCell (Nat.le_succ _) _
      clear hP hR hB
      go_wp2
      exact bodyPost_ret (v := .tuple #[.agg #[.int .i64 k, .int .i64 y, .string s], .int .i64 q, .bool true]) (by simp [results, Try.results6, go_sem, hgs]) rfl ⟨by rw [HG.out]; rfl, HB.out⟩

set_option maxHeartbeats 8000000 in
theorem getPart_tf (b off n cap : Nat) (f : Nat → Int) (c t : Int) (p : Int) (w : World) (hv : View w (some ⟨b, off, none⟩) n cap f) (hn : n ≤ 10000000) (hp1 : p ≤ 9223372036854775807) (hok : partOk c t = true) (ht : 1 ≤ t ∧ t ≤ 4) (FF GG : Nat) (hF : (formV t).1 = .func (.func FF) #[] #[]) (hG : (formV t).2 = .func (.func GG) #[] #[]) (hE : EntersG GG) (hW : ∀ n f p, n ≤ 10000000 → p ≤ 9223372036854775807 → ReadsV GG n f p (rawI n f t p)) :
    Calls Try.prog 6 #[.slice (some ⟨b, off, none⟩) n cap, .agg #[.int .i64 c, .int .i64 t, .bool true, .bool false], .int .i64 p] w fun e w' => e = gotRet (nextI n f t true p) ∧ Below w.heap.size w w' := by
  have hP := (PBox.new w c t true false).below ((Below.refl _ _).alloc (Nat.le_refl _) (.cells #[.int .i64 0, .int .i64 0, .string ⟨#[]⟩] 29))
  have hR := Box.new (w.alloc (.cells #[.int .i64 c, .int .i64 t, .bool true, .bool false] 25)) 0 0 ⟨#[]⟩
  rw [show (w.alloc (.cells #[.int .i64 c, .int .i64 t, .bool true, .bool false] 25)).heap.size = w.heap.size + 1 by simp] at hR
  have hB : Below w.heap.size w ((w.alloc (.cells #[.int .i64 c, .int .i64 t, .bool true, .bool false] 25)).alloc (.cells #[.int .i64 0, .int .i64 0, .string ⟨#[]⟩] 29)) := ((Below.refl _ _).alloc (Nat.le_refl _) _).alloc (by simp) _
  go_enter Try.func6, Try.ntmps6
  go_wp2_with fail
  refine (implPartOk_any c t true false _).mono ?_
  rw [hok]
  rintro e w1 ⟨rfl, hb⟩
  replace hP := hP.below hb
  replace hR := hR.below hb
  replace hB := hB.trans (hb.mono hB.size)
  clear hb
  have hx := hv.below hB
  rcases getB_cases (p := p) hx.byte with hgb | ⟨hpp, hgb | hgb⟩
  ·
    have HG : Hid (nextI n f t true p = .no) := by show _ = _; unfold nextI; rw [hgb]; rfl
    have hgh : Hid (getB n f p = (0, 0, false)) := hgb
    clear hgb
    obtain ⟨p0, p1, p2, p3⟩ := hP.cells
    go_wp2_with fail
    clear p0 p1 p2 p3
    refine (getBit_any b off n cap f p _ hgh hx (by omega) hp1).mono ?_
    rintro e w3 ⟨rfl, hb⟩
    replace hP := hP.below hb
    replace hR := hR.below hb
    replace hx := hx.below hb
    replace hB := hB.trans (hb.mono hB.size)
    clear hb
    clear hgh
    clear hx
    obtain ⟨p0, p1, p2, p3⟩ := hP.cells
    obtain ⟨x0, x1, x2⟩ := hR.cells
    obtain ⟨r0, r1, r2⟩ := hR.frozen
    have hgs := stored3 (.int .i64 0) (.int .i64 0) (.string ⟨#[]⟩) x0 x1 x2
    have HB : Hid (Below w.heap.size w (((w3.setCell ⟨w.heap.size + 1, 0, none⟩ (.int .i64 0)).setCell ⟨w.heap.size + 1, 1, none⟩ (.int .i64 0)).setCell ⟨w.heap.size + 1, 2, none⟩ (.string ⟨#[]⟩))) := ((hB.setCell (Nat.le_succ _) _).setCell (Nat.le_succ _) _).setCell (Nat.le_succ _) _
    clear hP hR hB
    go_wp2
    exact bodyPost_ret (v := .tuple #[.agg #[.int .i64 0, .int .i64 0, .string ⟨#[]⟩], .int .i64 0, .bool false]) (by simp [results, Try.results6, go_sem, hgs]) rfl ⟨by rw [HG.out]; rfl, HB.out⟩
  ·
    have HG : Hid (nextI n f t true p = ⟨0, 0, noBytes, p + 1, true⟩) := by show _ = _; unfold nextI; rw [hgb]; rfl
    have hgh : Hid (getB n f p = (0, (p + 1), true)) := hgb
    clear hgb
    obtain ⟨p0, p1, p2, p3⟩ := hP.cells
    go_wp2_with fail
    clear p0 p1 p2 p3
    refine (getBit_any b off n cap f p _ hgh hx (by omega) hp1).mono ?_
    rintro e w3 ⟨rfl, hb⟩
    replace hP := hP.below hb
    replace hR := hR.below hb
    replace hx := hx.below hb
    replace hB := hB.trans (hb.mono hB.size)
    clear hb
    clear hgh
    clear hx
    obtain ⟨p0, p1, p2, p3⟩ := hP.cells
    obtain ⟨x0, x1, x2⟩ := hR.cells
    obtain ⟨r0, r1, r2⟩ := hR.frozen
    have hgs := stored3 (.int .i64 0) (.int .i64 0) (.string ⟨#[]⟩) x0 x1 x2
    have HB : Hid (Below w.heap.size w (((w3.setCell ⟨w.heap.size + 1, 0, none⟩ (.int .i64 0)).setCell ⟨w.heap.size + 1, 1, none⟩ (.int .i64 0)).setCell ⟨w.heap.size + 1, 2, none⟩ (.string ⟨#[]⟩))) := ((hB.setCell (Nat.le_succ _) _).setCell (Nat.le_succ _) _).setCell (Nat.le_succ _) _
    clear hP hR hB
    go_wp2
    exact bodyPost_ret (v := .tuple #[.agg #[.int .i64 0, .int .i64 0, .string ⟨#[]⟩], .int .i64 (p + 1), .bool true]) (by simp [results, Try.results6, go_sem, hgs]) rfl ⟨by rw [HG.out]; rfl, HB.out⟩
  ·
    have HN : Hid (nextI n f t true p = (rawI n f t (p + 1)).chk) := by show _ = _; unfold nextI; rw [hgb]; rfl
    have hgh : Hid (getB n f p = (1, (p + 1), true)) := hgb
    clear hgb
    obtain ⟨p0, p1, p2, p3⟩ := hP.cells
    go_wp2_with fail
    clear p0 p1 p2 p3
    refine (getBit_any b off n cap f p _ hgh hx (by omega) hp1).mono ?_
    rintro e w3 ⟨rfl, hb⟩
    replace hP := hP.below hb
    replace hR := hR.below hb
    replace hx := hx.below hb
    replace hB := hB.trans (hb.mono hB.size)
    clear hb
    clear hgh
    obtain ⟨p0, p1, p2, p3⟩ := hP.cells
    go_wp2_with fail
    clear p0 p1 p2 p3
    refine (formOf_any t _ ht).mono ?_
    rw [hF, hG]
    rintro e w5 ⟨rfl, hb⟩
    replace hP := hP.below hb
    replace hR := hR.below hb
    replace hx := hx.below hb
    replace hB := hB.trans (hb.mono hB.size)
    clear hb
    have fg := form_get FF GG
    have hEG : ∀ (args : Array Value) (W : World), (callFunc GG args).run Try.prog W = .ok (.enter GG args) W := hE
    obtain ⟨k, y, s, q, ok, hr⟩ : ∃ k y s q ok, Hid (rawI n f t (p + 1) = ⟨k, y, s, q, ok⟩) := ⟨_, _, _, _, _, rfl⟩
    obtain rfl : k = t := by have := rawI_k (n := n) (f := f) (p := (p + 1)) ht; rw [hr.out] at this; exact this
    obtain ⟨p0, p1, p2, p3⟩ := hP.cells
    go_wp2_with fail
    clear p0 p1 p2 p3
    clear fg hEG
    refine (hW n f (p + 1) hn (by omega) _ _ _ _ hx).mono ?_
    rw [hr.out]
    rintro e w6 ⟨rfl, hb⟩
    have hb0 := hb
    replace hP := hP.below hb
    replace hR := hR.below hb
    replace hB := hB.trans (hb.mono hB.size)
    clear hb
    have hlt6 : w.heap.size + 1 < w6.heap.size := hR.lt
    clear hb0 hx
    cases ok with
    | false =>
      have HG : Hid (nextI n f k true p = .no) := by
        show _ = _
        rw [HN.out]
        exact chk_no (by rw [hr.out])
      obtain ⟨p0, p1, p2, p3⟩ := hP.cells
      obtain ⟨x0, x1, x2⟩ := hR.cells
      obtain ⟨r0, r1, r2⟩ := hR.frozen
      have hgs := stored3A (.int .i64 0) (.int .i64 0) (.string ⟨#[]⟩) x0 x1 x2 hR.lt (.cells #[.int .i64 k, .int .i64 y, .string s] 29)
      have HB : Hid (Below w.heap.size w ((((w6.setCell ⟨w.heap.size + 1, 0, none⟩ (.int .i64 0)).setCell ⟨w.heap.size + 1, 1, none⟩ (.int .i64 0)).setCell ⟨w.heap.size + 1, 2, none⟩ (.string ⟨#[]⟩)).alloc (.cells #[.int .i64 k, .int .i64 y, .string s] 29))) := (((hB.setCell (Nat.le_succ _) _).setCell (Nat.le_succ _) _).setCell (Nat.le_succ _) _).alloc (by simpa using hB.size) _
      clear hP hR hB hr
      simp only [gotRet]
      go_wp2
      exact bodyPost_ret (v := .tuple #[.agg #[.int .i64 0, .int .i64 0, .string ⟨#[]⟩], .int .i64 0, .bool false]) (by simp [results, Try.results6, go_sem, hgs]) rfl ⟨by rw [HG.out]; rfl, HB.out⟩
    | true =>
      have hV := Box.new w6 k y s
      have hb : Below w6.heap.size w6 (w6.alloc (.cells #[.int .i64 k, .int .i64 y, .string s] 29)) := (Below.refl _ _).alloc (Nat.le_refl _) _
      obtain ⟨p0, p1, p2, p3⟩ := hP.cells
      replace hP := hP.below hb
      replace hR := hR.below hb
      replace hB := hB.trans (hb.mono hB.size)
      clear hb
      obtain ⟨v0, v1, v2⟩ := hV.cells
      obtain ⟨s0, s1, s2, s3⟩ := hP.cells
      simp only [gotRet]
      go_wp2_with fail
      clear v0 v1 v2 p0 p1 p2 p3 s0 s1 s2 s3
      refine (implFits_any c k true false k y s _).mono ?_
      rw [fitsI_self]
      obtain ⟨o, ho⟩ : ∃ o, Hid (okF k y s = o) := ⟨_, rfl⟩
      rw [ho.out]
      rintro e w7 ⟨rfl, hb⟩
      replace hV := hV.below hb
      replace hP := hP.below hb
      replace hR := hR.below hb
      replace hB := hB.trans (hb.mono hB.size)
      clear hb
      obtain ⟨v0, v1, v2⟩ := hV.cells
      cases o with
      | false =>
        have HG : Hid (nextI n f k true p = .no) := by
          show _ = _
          rw [HN.out, hr.out]
          unfold Got.chk
          rw [ho.out]
          rfl
        clear hV hr ho
        obtain ⟨p0, p1, p2, p3⟩ := hP.cells
        obtain ⟨x0, x1, x2⟩ := hR.cells
        obtain ⟨r0, r1, r2⟩ := hR.frozen
        have hgs := stored3 (.int .i64 0) (.int .i64 0) (.string ⟨#[]⟩) x0 x1 x2
        have HB : Hid (Below w.heap.size w (((w7.setCell ⟨w.heap.size + 1, 0, none⟩ (.int .i64 0)).setCell ⟨w.heap.size + 1, 1, none⟩ (.int .i64 0)).setCell ⟨w.heap.size + 1, 2, none⟩ (.string ⟨#[]⟩))) := ((hB.setCell (Nat.le_succ _) _).setCell (Nat.le_succ _) _).setCell (Nat.le_succ _) _
        clear hP hR hB
        go_wp2
        exact bodyPost_ret (v := .tuple #[.agg #[.int .i64 0, .int .i64 0, .string ⟨#[]⟩], .int .i64 0, .bool false]) (by simp [results, Try.results6, go_sem, hgs]) rfl ⟨by rw [HG.out]; rfl, HB.out⟩
      | true =>
        have HG : Hid (nextI n f k true p = ⟨k, y, s, q, true⟩) := by
          show _ = _
          rw [HN.out, hr.out]
          unfold Got.chk
          rw [ho.out]
          rfl
        clear hV hr ho
        obtain ⟨p0, p1, p2, p3⟩ := hP.cells
        obtain ⟨x0, x1, x2⟩ := hR.cells
        obtain ⟨r0, r1, r2⟩ := hR.frozen
        have hgs := stored3 (.int .i64 k) (.int .i64 y) (.string s) x0 x1 x2
        have HB : Hid (Below w.heap.size w (((w7.setCell ⟨w.heap.size + 1, 0, none⟩ (.int .i64 k)).setCell ⟨w.heap.size + 1, 1, none⟩ (.int .i64 y)).setCell ⟨w.heap.size + 1, 2, none⟩ (.string s))) := ((hB.setCell (Nat.le_succ _) _).setCell (Nat.le_succ _) _).setCell (Nat.le_succ _) _
        clear hP hR hB
        go_wp2
        exact bodyPost_ret (v := .tuple #[.agg #[.int .i64 k, .int .i64 y, .string s], .int .i64 q, .bool true]) (by simp [results, Try.results6, go_sem, hgs]) rfl ⟨by rw [HG.out]; rfl, HB.out⟩

set_option maxHeartbeats 8000000 in
theorem getPart_tt (b off n cap : Nat) (f : Nat → Int) (c t : Int) (p : Int) (w : World) (hv : View w (some ⟨b, off, none⟩) n cap f) (hn : n ≤ 10000000) (hp1 : p ≤ 9223372036854775807) (hok : partOk c t = true) (ht : 1 ≤ t ∧ t ≤ 4) (FF GG : Nat) (hF : (formV t).1 = .func (.func FF) #[] #[]) (hG : (formV t).2 = .func (.func GG) #[] #[]) (hE : EntersG GG) (hW : ∀ n f p, n ≤ 10000000 → p ≤ 9223372036854775807 → ReadsV GG n f p (rawI n f t p)) :
    Calls Try.prog 6 #[.slice (some ⟨b, off, none⟩) n cap, .agg #[.int .i64 c, .int .i64 t, .bool true, .bool true], .int .i64 p] w fun e w' => e = gotRet (nextI n (flipF f p) t true p) ∧ Below w.heap.size w w' := by
  have hP := (PBox.new w c t true true).below ((Below.refl _ _).alloc (Nat.le_refl _) (.cells #[.int .i64 0, .int .i64 0, .string ⟨#[]⟩] 29))
  have hR := Box.new (w.alloc (.cells #[.int .i64 c, .int .i64 t, .bool true, .bool true] 25)) 0 0 ⟨#[]⟩
  rw [show (w.alloc (.cells #[.int .i64 c, .int .i64 t, .bool true, .bool true] 25)).heap.size = w.heap.size + 1 by simp] at hR
  have hB : Below w.heap.size w ((w.alloc (.cells #[.int .i64 c, .int .i64 t, .bool true, .bool true] 25)).alloc (.cells #[.int .i64 0, .int .i64 0, .string ⟨#[]⟩] 29)) := ((Below.refl _ _).alloc (Nat.le_refl _) _).alloc (by simp) _
  go_enter Try.func6, Try.ntmps6
  go_wp2_with fail
  refine (implPartOk_any c t true true _).mono ?_
  rw [hok]
  rintro e w1 ⟨rfl, hb⟩
  replace hP := hP.below hb
  replace hR := hR.below hb
  replace hB := hB.trans (hb.mono hB.size)
  clear hb
  have hx := hv.below hB
  obtain ⟨p0, p1, p2, p3⟩ := hP.cells
  go_wp2_with fail
  clear p0 p1 p2 p3
  refine (flip_impl b off n cap f p _ hx (by omega) hp1).mono ?_
  rintro e w2 ⟨gx, cx, rfl, -, hcx, hrx, hb⟩
  replace hx := hrx.view hcx (flipF_byte p hx.byte)
  clear hrx
  replace hP := hP.below hb
  replace hR := hR.below hb
  replace hB := hB.trans (hb.mono hB.size)
  clear hb
  rcases getB_cases (p := p) hx.byte with hgb | ⟨hpp, hgb | hgb⟩
  ·
    have HG : Hid (nextI n (flipF f p) t true p = .no) := by show _ = _; unfold nextI; rw [hgb]; rfl
    have hgh : Hid (getB n (flipF f p) p = (0, 0, false)) := hgb
    clear hgb
    obtain ⟨p0, p1, p2, p3⟩ := hP.cells
    go_wp2_with fail
    clear p0 p1 p2 p3
    refine (getBit_any gx 0 n cx (flipF f p) p _ hgh hx (by omega) hp1).mono ?_
    rintro e w3 ⟨rfl, hb⟩
    replace hP := hP.below hb
    replace hR := hR.below hb
    replace hx := hx.below hb
    replace hB := hB.trans (hb.mono hB.size)
    clear hb
    clear hgh
    clear hx
    obtain ⟨p0, p1, p2, p3⟩ := hP.cells
    obtain ⟨x0, x1, x2⟩ := hR.cells
    obtain ⟨r0, r1, r2⟩ := hR.frozen
    have hgs := stored3 (.int .i64 0) (.int .i64 0) (.string ⟨#[]⟩) x0 x1 x2
    have HB : Hid (Below w.heap.size w (((w3.setCell ⟨w.heap.size + 1, 0, none⟩ (.int .i64 0)).setCell ⟨w.heap.size + 1, 1, none⟩ (.int .i64 0)).setCell ⟨w.heap.size + 1, 2, none⟩ (.string ⟨#[]⟩))) := ((hB.setCell (Nat.le_succ _) _).setCell (Nat.le_succ _) _).setCell (Nat.le_succ _) _
    clear hP hR hB
    go_wp2
    exact bodyPost_ret (v := .tuple #[.agg #[.int .i64 0, .int .i64 0, .string ⟨#[]⟩], .int .i64 0, .bool false]) (by simp [results, Try.results6, go_sem, hgs]) rfl ⟨by rw [HG.out]; rfl, HB.out⟩
  ·
    have HG : Hid (nextI n (flipF f p) t true p = ⟨0, 0, noBytes, p + 1, true⟩) := by show _ = _; unfold nextI; rw [hgb]; rfl
    have hgh : Hid (getB n (flipF f p) p = (0, (p + 1), true)) := hgb
    clear hgb
    obtain ⟨p0, p1, p2, p3⟩ := hP.cells
    go_wp2_with fail
    clear p0 p1 p2 p3
    refine (getBit_any gx 0 n cx (flipF f p) p _ hgh hx (by omega) hp1).mono ?_
    rintro e w3 ⟨rfl, hb⟩
    replace hP := hP.below hb
    replace hR := hR.below hb
    replace hx := hx.below hb
    replace hB := hB.trans (hb.mono hB.size)
    clear hb
    clear hgh
    clear hx
    obtain ⟨p0, p1, p2, p3⟩ := hP.cells
    obtain ⟨x0, x1, x2⟩ := hR.cells
    obtain ⟨r0, r1, r2⟩ := hR.frozen
    have hgs := stored3 (.int .i64 0) (.int .i64 0) (.string ⟨#[]⟩) x0 x1 x2
    have HB : Hid (Below w.heap.size w (((w3.setCell ⟨w.heap.size + 1, 0, none⟩ (.int .i64 0)).setCell ⟨w.heap.size + 1, 1, none⟩ (.int .i64 0)).setCell ⟨w.heap.size + 1, 2, none⟩ (.string ⟨#[]⟩))) := ((hB.setCell (Nat.le_succ _) _).setCell (Nat.le_succ _) _).setCell (Nat.le_succ _) _
    clear hP hR hB
    go_wp2
    exact bodyPost_ret (v := .tuple #[.agg #[.int .i64 0, .int .i64 0, .string ⟨#[]⟩], .int .i64 (p + 1), .bool true]) (by simp [results, Try.results6, go_sem, hgs]) rfl ⟨by rw [HG.out]; rfl, HB.out⟩
  ·
    have HN : Hid (nextI n (flipF f p) t true p = (rawI n (flipF f p) t (p + 1)).chk) := by show _ = _; unfold nextI; rw [hgb]; rfl
    have hgh : Hid (getB n (flipF f p) p = (1, (p + 1), true)) := hgb
    clear hgb
    obtain ⟨p0, p1, p2, p3⟩ := hP.cells
    go_wp2_with fail
    clear p0 p1 p2 p3
    refine (getBit_any gx 0 n cx (flipF f p) p _ hgh hx (by omega) hp1).mono ?_
    rintro e w3 ⟨rfl, hb⟩
    replace hP := hP.below hb
    replace hR := hR.below hb
    replace hx := hx.below hb
    replace hB := hB.trans (hb.mono hB.size)
    clear hb
    clear hgh
    obtain ⟨p0, p1, p2, p3⟩ := hP.cells
    go_wp2_with fail
    clear p0 p1 p2 p3
    refine (formOf_any t _ ht).mono ?_
    rw [hF, hG]
    rintro e w5 ⟨rfl, hb⟩
    replace hP := hP.below hb
    replace hR := hR.below hb
    replace hx := hx.below hb
    replace hB := hB.trans (hb.mono hB.size)
    clear hb
    have fg := form_get FF GG
    have hEG : ∀ (args : Array Value) (W : World), (callFunc GG args).run Try.prog W = .ok (.enter GG args) W := hE
    obtain ⟨k, y, s, q, ok, hr⟩ : ∃ k y s q ok, Hid (rawI n (flipF f p) t (p + 1) = ⟨k, y, s, q, ok⟩) := ⟨_, _, _, _, _, rfl⟩
    obtain rfl : k = t := by have := rawI_k (n := n) (f := (flipF f p)) (p := (p + 1)) ht; rw [hr.out] at this; exact this
    obtain ⟨p0, p1, p2, p3⟩ := hP.cells
    go_wp2_with fail
    clear p0 p1 p2 p3
    clear fg hEG
    refine (hW n (flipF f p) (p + 1) hn (by omega) _ _ _ _ hx).mono ?_
    rw [hr.out]
    rintro e w6 ⟨rfl, hb⟩
    have hb0 := hb
    replace hP := hP.below hb
    replace hR := hR.below hb
    replace hB := hB.trans (hb.mono hB.size)
    clear hb
    have hlt6 : w.heap.size + 1 < w6.heap.size := hR.lt
    clear hb0 hx
    cases ok with
    | false =>
      have HG : Hid (nextI n (flipF f p) k true p = .no) := by
        show _ = _
        rw [HN.out]
        exact chk_no (by rw [hr.out])
      obtain ⟨p0, p1, p2, p3⟩ := hP.cells
      obtain ⟨x0, x1, x2⟩ := hR.cells
      obtain ⟨r0, r1, r2⟩ := hR.frozen
      have hgs := stored3A (.int .i64 0) (.int .i64 0) (.string ⟨#[]⟩) x0 x1 x2 hR.lt (.cells #[.int .i64 k, .int .i64 y, .string s] 29)
      have HB : Hid (Below w.heap.size w ((((w6.setCell ⟨w.heap.size + 1, 0, none⟩ (.int .i64 0)).setCell ⟨w.heap.size + 1, 1, none⟩ (.int .i64 0)).setCell ⟨w.heap.size + 1, 2, none⟩ (.string ⟨#[]⟩)).alloc (.cells #[.int .i64 k, .int .i64 y, .string s] 29))) := (((hB.setCell (Nat.le_succ _) _).setCell (Nat.le_succ _) _).setCell (Nat.le_succ _) _).alloc (by simpa using hB.size) _
      clear hP hR hB hr
      simp only [gotRet]
      go_wp2
      exact bodyPost_ret (v := .tuple #[.agg #[.int .i64 0, .int .i64 0, .string ⟨#[]⟩], .int .i64 0, .bool false]) (by simp [results, Try.results6, go_sem, hgs]) rfl ⟨by rw [HG.out]; rfl, HB.out⟩
    | true =>
      have hV := Box.new w6 k y s
      have hb : Below w6.heap.size w6 (w6.alloc (.cells #[.int .i64 k, .int .i64 y, .string s] 29)) := (Below.refl _ _).alloc (Nat.le_refl _) _
      obtain ⟨p0, p1, p2, p3⟩ := hP.cells
      replace hP := hP.below hb
      replace hR := hR.below hb
      replace hB := hB.trans (hb.mono hB.size)
      clear hb
      obtain ⟨v0, v1, v2⟩ := hV.cells
      obtain ⟨s0, s1, s2, s3⟩ := hP.cells
      simp only [gotRet]
      go_wp2_with fail
      clear v0 v1 v2 p0 p1 p2 p3 s0 s1 s2 s3
      refine (implFits_any c k true true k y s _).mono ?_
      rw [fitsI_self]
      obtain ⟨o, ho⟩ : ∃ o, Hid (okF k y s = o) := ⟨_, rfl⟩
      rw [ho.out]
      rintro e w7 ⟨rfl, hb⟩
      replace hV := hV.below hb
      replace hP := hP.below hb
      replace hR := hR.below hb
      replace hB := hB.trans (hb.mono hB.size)
      clear hb
      obtain ⟨v0, v1, v2⟩ := hV.cells
      cases o with
      | false =>
        have HG : Hid (nextI n (flipF f p) k true p = .no) := by
          show _ = _
          rw [HN.out, hr.out]
          unfold Got.chk
          rw [ho.out]
          rfl
        clear hV hr ho
        obtain ⟨p0, p1, p2, p3⟩ := hP.cells
        obtain ⟨x0, x1, x2⟩ := hR.cells
        obtain ⟨r0, r1, r2⟩ := hR.frozen
        have hgs := stored3 (.int .i64 0) (.int .i64 0) (.string ⟨#[]⟩) x0 x1 x2
        have HB : Hid (Below w.heap.size w (((w7.setCell ⟨w.heap.size + 1, 0, none⟩ (.int .i64 0)).setCell ⟨w.heap.size + 1, 1, none⟩ (.int .i64 0)).setCell ⟨w.heap.size + 1, 2, none⟩ (.string ⟨#[]⟩))) := ((hB.setCell (Nat.le_succ _) _).setCell (Nat.le_succ _) _).setCell (Nat.le_succ _) _
        clear hP hR hB
        go_wp2
        exact bodyPost_ret (v := .tuple #[.agg #[.int .i64 0, .int .i64 0, .string ⟨#[]⟩], .int .i64 0, .bool false]) (by simp [results, Try.results6, go_sem, hgs]) rfl ⟨by rw [HG.out]; rfl, HB.out⟩
      | true =>
        have HG : Hid (nextI n (flipF f p) k true p = ⟨k, y, s, q, true⟩) := by
          show _ = _
          rw [HN.out, hr.out]
          unfold Got.chk
          rw [ho.out]
          rfl
        clear hV hr ho
        obtain ⟨p0, p1, p2, p3⟩ := hP.cells
        obtain ⟨x0, x1, x2⟩ := hR.cells
        obtain ⟨r0, r1, r2⟩ := hR.frozen
        have hgs := stored3 (.int .i64 k) (.int .i64 y) (.string s) x0 x1 x2
        have HB : Hid (Below w.heap.size w (((w7.setCell ⟨w.heap.size + 1, 0, none⟩ (.int .i64 k)).setCell ⟨w.heap.size + 1, 1, none⟩ (.int .i64 y)).setCell ⟨w.heap.size + 1, 2, none⟩ (.string s))) := ((hB.setCell (Nat.le_succ _) _).setCell (Nat.le_succ _) _).setCell (Nat.le_succ _) _
        clear hP hR hB
        go_wp2
        exact bodyPost_ret (v := .tuple #[.agg #[.int .i64 k, .int .i64 y, .string s], .int .i64 q, .bool true]) (by simp [results, Try.results6, go_sem, hgs]) rfl ⟨by rw [HG.out]; rfl, HB.out⟩


theorem getPart_impl (b off n cap : Nat) (f : Nat → Int) (c t : Int) (nul d : Bool) (p : Int) (w : World) (hv : View w (some ⟨b, off, none⟩) n cap f) (hn : n ≤ 10000000) (hp1 : p ≤ 9223372036854775807) :
    Calls Try.prog 6 #[.slice (some ⟨b, off, none⟩) n cap, .agg #[.int .i64 c, .int .i64 t, .bool nul, .bool d], .int .i64 p] w fun e w' => e = gotRet (getP n f c t nul d p) ∧ Below w.heap.size w w' := by
  cases hok : partOk c t with
  | false => rw [getP_no hok]; exact getPart_no b off n cap f c t nul d p w hv hn hp1 hok
  | true =>
    have ht : 1 ≤ t ∧ t ≤ 4 := by unfold partOk at hok; simp at hok; omega
    obtain ⟨F, G, hF, hG, hE, hW⟩ := formGet ht
    have hb := hv.byte
    cases d with
    | false =>
      rw [← nextI_is (F := f) hok ht hb (fun _ _ => rfl)]
      cases nul with
      | false => exact getPart_ff b off n cap f c t p w hv hn hp1 hok ht F G hF hG hE hW
      | true => exact getPart_tf b off n cap f c t p w hv hn hp1 hok ht F G hF hG hE hW
    | true =>
      rw [← nextI_is (F := flipF f p) hok ht hb (fun i hi => by unfold flipF turned; rw [if_pos hi]; rfl)]
      cases nul with
      | false => exact getPart_ft b off n cap f c t p w hv hn hp1 hok ht F G hF hG hE hW
      | true => exact getPart_tt b off n cap f c t p w hv hn hp1 hok ht F G hF hG hE hW
end Go.Proofs.Ytbcgonfihdpjnac

/-
  The model's GetEsc: what is read of the bytes as a text in order, at every slice of bytes that reads and at every place.
-/
namespace Go.Proofs.Ytbcgonfihdpjnac
open Go.RowKit
set_option maxRecDepth 4000

set_option maxHeartbeats 2000000 in
theorem getEsc_spec (ao : Option Addr) (n cap : Nat) (f : Nat → Int) (p : Int) (w : World) (s : ByteArray) (q : Int) (ok : Bool) (hg : Hid (getE n f p = (s, q, ok))) (hv : View w ao n cap f) (hn : n ≤ 17592186044416) (hp1 : p ≤ 9223372036854775807) :
    Calls Try.prog 53 #[.slice ao n cap, .int .i64 p] w fun e w' => e = .returned (.tuple #[.string s, .int .i64 q, .bool ok]) ∧ Below w.heap.size w w' := by
  by_cases hp : p < 0
  · have := hg.out
    rw [getE_neg n f p hp] at this
    cases this
    go_enter Try.func53, Try.ntmps53
    go_wp2
    go_ret3
    exact ⟨rfl, (Below.refl _ _).alloc (Nat.le_refl _) _⟩
  obtain ⟨p, rfl⟩ := Int.eq_ofNat_of_zero_le (Int.not_lt.1 hp)
  obtain ⟨i0, hi, hz0, hz1, hz2⟩ := info_parts Try.info5
  have hown0 := World.ownsRow_lit (base := w.heap.size) (e := 5) (size := 1) w #[] 0 (Nat.le_refl _) (Nat.zero_le _) rfl
  have hb0 : Below w.heap.size w (w.alloc (.cells #[] 5)) := (Below.refl _ _).alloc (Nat.le_refl _) _
  go_enter Try.func53, Try.ntmps53
  go_wp2
  go_loopg [1, 7] (n - p) (fun g i v wr => ∃ (k : Nat) (acc : List Int), g = n - k ∧ i = .int .i64 k ∧ (k : Int) ≤ 9223372036854775807 ∧ acc.length + p ≤ k ∧ Seen n f p k acc ∧ (∀ y ∈ acc, 0 ≤ y ∧ y ≤ 255) ∧ wr.ownsRow w.heap.size 5 1 v acc.length (bl acc) ∧ Below w.heap.size w wr)
  case atStart => exact ⟨p, [], rfl, rfl, hp1, by simp, Seen.start n f p, (fun y hy => by cases hy), hown0, hb0⟩
  case round =>
    obtain ⟨k, acc, rfl, rfl, hk63, hak, hsn, hyb, hown, hB⟩ := hrel
    clear hown0 hb0
    have HS : Hid (Seen n f p k acc) := hsn
    have HY : Hid (∀ y ∈ acc, 0 ≤ y ∧ y ≤ 255) := hyb
    clear hsn hyb
    by_cases hend : k < n
    · obtain ⟨b, off, rfl, hb, hc⟩ := hv.cells (by omega)
      have hkz : (k : Int) < (n : Int) := by omega
      have hc0 : wr.cell? ⟨b, off + k, none⟩ = some (.int .u8 (f k)) := by rw [hB.cell (p := ⟨b, off + k, none⟩) hb]; exact hc k (by omega)
      obtain ⟨hb00, hb01⟩ := hv.byte k hend
      by_cases h0 : f k = 0
      · have H0 : Hid (f k = 0) := h0
        rw [h0] at hc0
        clear h0 hb00 hb01
        by_cases hlt : k + 1 < n
        · have hkz1 : (k : Int) + 1 < (n : Int) := by omega
          have hne : ((k : Int) + 1 == (n : Int)) = false := by simp; omega
          have hc1 : wr.cell? ⟨b, off + (k + 1), none⟩ = some (.int .u8 (f (k + 1))) := by rw [hB.cell (p := ⟨b, off + (k + 1), none⟩) hb]; exact hc (k + 1) hlt
          have hcv : (convert 22 9 u7).run Try.prog wr = .ok (.string (strOfNums acc)) wr := conv_own hown rfl HY.out
          clear hc
          by_cases h1 : f (k + 1) = 1
          · have HG := hg.out
            rw [getE_some (HS.out.ends hlt H0.out h1)] at HG
            cases HG
            rw [h1] at hc1
            go_wp2
            go_ret3
            have := HS.out.1
            exact ⟨retE rfl (by omega) rfl, hB⟩
          · by_cases h2 : f (k + 1) = 255
            · have HS2 : Hid (Seen n f p (k + 2) (acc ++ [0])) := HS.out.goes hlt H0.out h2
              rw [h2] at hc1
              clear hcv
              go_wp2_with (at_builtin; go_must (refine wpList_append_own _ rfl (.tmp 59) (.tmp 60) 22 rfl w.heap.size 5 i0 (.int .u8 0) 1 1 Try.underlying22 hi hz0 hz1 hz2 rfl (by decide) u7 _ _ rfl (hown.alloc _) ⟨wr.heap.size, 0, none⟩ 1 1 [.int .u8 0] rfl rfl (cellNew _ _ _) (bl_one [0]) (by unfold maxLen; omega) (by omega) (by have := hB.size; simp; omega) ?_); intro v2 w2 hown2 hgr2 _)
              have hB2 : Below w.heap.size w w2 := (hB.alloc hB.size _).grown hgr2 (by have := hB.size; simp; omega) (fun k hk => (hown.lt k hk).1)
              have hO2 : w2.ownsRow w.heap.size 5 1 v2 (acc ++ [0]).length (bl (acc ++ [0])) := by
                rw [List.length_append, bl_append]
                exact hown2
              clear hgr2 hown hown2 hB
              go_wp2
              go_roundg (n - (k + 2))
              case measure => omega
              case rel => exact ⟨k + 2, acc ++ [0], rfl, by go_num, by omega, by simp; omega, HS2.out, snoc_byte HY.out 0 (by omega) (by omega), hO2, hB2⟩
            · have HG := hg.out
              rw [getE_none (HS.out.wrong hlt H0.out h1 h2)] at HG
              cases HG
              have q1 : (f (k + 1) != 1) = true := by simpa using h1
              have q2 : (f (k + 1) != 255) = true := by simpa using h2
              clear h1 h2 hcv
              go_wp2
              go_ret3
              exact ⟨rfl, hB⟩
        · have HG := hg.out
          rw [getE_none (HS.out.past (by omega))] at HG
          cases HG
          have hne : ((k : Int) + 1 == (n : Int)) = true := by simp; omega
          clear hc
          go_wp2
          go_ret3
          exact ⟨rfl, hB⟩
      · have q0 : (f k != 0) = true := by simpa using h0
        have HS2 : Hid (Seen n f p (k + 1) (acc ++ [f k])) := by
          by_cases hlt : k + 1 < n
          · exact HS.out.plain hlt h0
          · exact HS.out.last (by omega) _
        clear h0 hc
        go_wp2_with (at_builtin; go_must (refine wpList_append_own _ rfl (.tmp 22) (.tmp 24) 22 rfl w.heap.size 5 i0 (.int .u8 0) 1 1 Try.underlying22 hi hz0 hz1 hz2 rfl (by decide) u7 _ _ rfl (hown.alloc _) ⟨wr.heap.size, 0, none⟩ 1 1 [.int .u8 (f k)] rfl rfl (cellNew _ _ _) (bl_one [f k]) (by unfold maxLen; omega) (by omega) (by have := hB.size; simp; omega) ?_); intro v2 w2 hown2 hgr2 _)
        have hB2 : Below w.heap.size w w2 := (hB.alloc hB.size _).grown hgr2 (by have := hB.size; simp; omega) (fun k hk => (hown.lt k hk).1)
        have hO2 : w2.ownsRow w.heap.size 5 1 v2 (acc ++ [f k]).length (bl (acc ++ [f k])) := by
          rw [List.length_append, bl_append]
          exact hown2
        clear hgr2 hown hown2 hB
        go_wp2
        go_roundg (n - (k + 1))
        case measure => omega
        case rel => exact ⟨k + 1, acc ++ [f k], rfl, by go_num, by omega, by simp; omega, HS2.out, snoc_byte HY.out (f k) hb00 hb01, hO2, hB2⟩
    · have hkz : (n : Int) ≤ (k : Int) := by omega
      have HG := hg.out
      rw [getE_none (HS.out.past (by omega))] at HG
      cases HG
      go_wp2
      go_ret3
      exact ⟨rfl, hB⟩
end Go.Proofs.Ytbcgonfihdpjnac

/-
  The model's l5Get: a value of a type, as it is read.
-/
namespace Go.Proofs.Ytbcgonfihdpjnac
open Go.RowKit
set_option maxRecDepth 4000

theorem getFix_specB {a q : Int} {ok : Bool} (b off n cap : Nat) (f : Nat → Int) (p : Int) (w : World) (hg : Hid (getF n f p = (a, q, ok))) (hv : View w (some ⟨b, off, none⟩) n cap f) (hn : n ≤ 281474976710656) (hp1 : p ≤ 9223372036854775807) :
    Calls Try.prog 51 #[.slice (some ⟨b, off, none⟩) n cap, .int .i64 p] w fun e w' => e = .returned (.tuple #[.int .i64 a, .int .i64 q, .bool ok]) ∧ Below w.heap.size w w' := by
  refine (getFix_spec b off n cap f p w hg hv hn hp1).mono ?_
  rintro e _ ⟨h, rfl⟩
  exact ⟨h, Below.refl _ _⟩

set_option maxHeartbeats 2000000 in
theorem l5Get_fix (b off n cap : Nat) (f : Nat → Int) (p : Int) (w : World) (hv : View w (some ⟨b, off, none⟩) n cap f) (hn : n ≤ 10000000) (hp1 : p ≤ 9223372036854775807) :
    Calls Try.prog 26 #[.slice (some ⟨b, off, none⟩) n cap, .int .i64 1, .int .i64 p] w fun e w' => e = gotRet (rawT n f 1 p) ∧ Below w.heap.size w w' := by
  obtain ⟨a, q, ok, hg⟩ : ∃ a q ok, Hid (getF n f p = (a, q, ok)) := ⟨_, _, _, rfl⟩
  have HR : Hid (rawT n f 1 p = ⟨1, a, noBytes, q, ok⟩) := by show _ = _; unfold rawT; rw [if_pos rfl, hg.out]
  rw [HR.out]
  obtain ⟨hR, hV, hb⟩ := boxes2 w 1
  have hv2 := hv.below hb
  go_enter Try.func26, Try.ntmps26
  go_wp2_with fail
  refine (getFix_specB b off n cap f p _ hg hv2 (by omega) hp1).mono ?_
  rintro e w1 ⟨rfl, hb1⟩
  have hR1 := hR.below hb1
  have hV1 := hV.below hb1
  have hB1 : Below w.heap.size w w1 := hb.trans (hb1.mono hb.size)
  clear hv2 hg hR hV hb hb1
  obtain ⟨c0, c1, c2⟩ := hV1.cells
  obtain ⟨f0, f1, f2⟩ := hV1.frozen
  have hR4 := hR1.other (D := w.heap.size + 1) (i := 1) (by omega) (.int .i64 a)
  obtain ⟨d0, d1, d2⟩ := hR4.cells
  obtain ⟨r0, r1, r2⟩ := hR1.frozen
  obtain ⟨p0, p1, p2⟩ := hR1.cells
  have hgs := stored3 (.int .i64 1) (.int .i64 a) (.string ⟨#[]⟩) d0 d1 d2
  have HB : Hid (Below w.heap.size w ((((w1.setCell ⟨w.heap.size + 1, 1, none⟩ (.int .i64 a)).setCell ⟨w.heap.size, 0, none⟩ (.int .i64 1)).setCell ⟨w.heap.size, 1, none⟩ (.int .i64 a)).setCell ⟨w.heap.size, 2, none⟩ (.string ⟨#[]⟩))) := (((hB1.setCell (Nat.le_succ _) _).setCell (Nat.le_refl _) _).setCell (Nat.le_refl _) _).setCell (Nat.le_refl _) _
  clear hR1 hV1 hR4 hB1
  go_wp2
  exact bodyPost_ret (v := .tuple #[.agg #[_, _, _], _, _]) (by simp [results, Try.results26, go_sem, hgs, noBytes]) rfl ⟨rfl, HB.out⟩

set_option maxHeartbeats 2000000 in
theorem l5Get_var (b off n cap : Nat) (f : Nat → Int) (p : Int) (w : World) (hv : View w (some ⟨b, off, none⟩) n cap f) (hn : n ≤ 10000000) (hp1 : p ≤ 9223372036854775807) :
    Calls Try.prog 26 #[.slice (some ⟨b, off, none⟩) n cap, .int .i64 2, .int .i64 p] w fun e w' => e = gotRet (rawT n f 2 p) ∧ Below w.heap.size w w' := by
  obtain ⟨a, q, ok, hg⟩ : ∃ a q ok, Hid (getV n f p = (a, q, ok)) := ⟨_, _, _, rfl⟩
  have HR : Hid (rawT n f 2 p = ⟨2, a, noBytes, q, ok⟩) := by show _ = _; unfold rawT; rw [if_neg (by decide), if_pos rfl, hg.out]
  rw [HR.out]
  obtain ⟨hR, hV, hb⟩ := boxes2 w 2
  have hv2 := hv.below hb
  go_enter Try.func26, Try.ntmps26
  go_wp2_with fail
  refine (getVar_spec b off n cap f p _ hg hv2 (by omega) hp1).mono ?_
  rintro e w1 ⟨rfl, hb1⟩
  have hR1 := hR.below hb1
  have hV1 := hV.below hb1
  have hB1 : Below w.heap.size w w1 := hb.trans (hb1.mono hb.size)
  clear hv2 hg hR hV hb hb1
  obtain ⟨c0, c1, c2⟩ := hV1.cells
  obtain ⟨f0, f1, f2⟩ := hV1.frozen
  have hR4 := hR1.other (D := w.heap.size + 1) (i := 1) (by omega) (.int .i64 a)
  obtain ⟨d0, d1, d2⟩ := hR4.cells
  obtain ⟨r0, r1, r2⟩ := hR1.frozen
  obtain ⟨p0, p1, p2⟩ := hR1.cells
  have hgs := stored3 (.int .i64 2) (.int .i64 a) (.string ⟨#[]⟩) d0 d1 d2
  have HB : Hid (Below w.heap.size w ((((w1.setCell ⟨w.heap.size + 1, 1, none⟩ (.int .i64 a)).setCell ⟨w.heap.size, 0, none⟩ (.int .i64 2)).setCell ⟨w.heap.size, 1, none⟩ (.int .i64 a)).setCell ⟨w.heap.size, 2, none⟩ (.string ⟨#[]⟩))) := (((hB1.setCell (Nat.le_succ _) _).setCell (Nat.le_refl _) _).setCell (Nat.le_refl _) _).setCell (Nat.le_refl _) _
  clear hR1 hV1 hR4 hB1
  go_wp2
  exact bodyPost_ret (v := .tuple #[.agg #[_, _, _], _, _]) (by simp [results, Try.results26, go_sem, hgs, noBytes]) rfl ⟨rfl, HB.out⟩

set_option maxHeartbeats 2000000 in
theorem l5Get_esc (b off n cap : Nat) (f : Nat → Int) (p : Int) (w : World) (hv : View w (some ⟨b, off, none⟩) n cap f) (hn : n ≤ 10000000) (hp1 : p ≤ 9223372036854775807) :
    Calls Try.prog 26 #[.slice (some ⟨b, off, none⟩) n cap, .int .i64 3, .int .i64 p] w fun e w' => e = gotRet (rawT n f 3 p) ∧ Below w.heap.size w w' := by
  obtain ⟨a, q, ok, hg⟩ : ∃ a q ok, Hid (getE n f p = (a, q, ok)) := ⟨_, _, _, rfl⟩
  have HR : Hid (rawT n f 3 p = ⟨3, 0, a, q, ok⟩) := by show _ = _; unfold rawT; rw [if_neg (by decide), if_neg (by decide), if_pos rfl, hg.out]
  rw [HR.out]
  obtain ⟨hR, hV, hb⟩ := boxes2 w 3
  have hv2 := hv.below hb
  go_enter Try.func26, Try.ntmps26
  go_wp2_with fail
  refine (getEsc_spec _ n cap f p _ a q ok hg hv2 (by omega) hp1).mono ?_
  rintro e w1 ⟨rfl, hb1⟩
  have hR1 := hR.below hb1
  have hV1 := hV.below hb1
  have hB1 : Below w.heap.size w w1 := hb.trans (hb1.mono hb.size)
  clear hv2 hg hR hV hb hb1
  obtain ⟨c0, c1, c2⟩ := hV1.cells
  obtain ⟨f0, f1, f2⟩ := hV1.frozen
  have hR4 := hR1.other (D := w.heap.size + 1) (i := 2) (by omega) (.string a)
  obtain ⟨d0, d1, d2⟩ := hR4.cells
  obtain ⟨r0, r1, r2⟩ := hR1.frozen
  obtain ⟨p0, p1, p2⟩ := hR1.cells
  have hgs := stored3 (.int .i64 3) (.int .i64 0) (.string a) d0 d1 d2
  have HB : Hid (Below w.heap.size w ((((w1.setCell ⟨w.heap.size + 1, 2, none⟩ (.string a)).setCell ⟨w.heap.size, 0, none⟩ (.int .i64 3)).setCell ⟨w.heap.size, 1, none⟩ (.int .i64 0)).setCell ⟨w.heap.size, 2, none⟩ (.string a))) := (((hB1.setCell (Nat.le_succ _) _).setCell (Nat.le_refl _) _).setCell (Nat.le_refl _) _).setCell (Nat.le_refl _) _
  clear hR1 hV1 hR4 hB1
  go_wp2
  exact bodyPost_ret (v := .tuple #[.agg #[_, _, _], _, _]) (by simp [results, Try.results26, go_sem, hgs]) rfl ⟨rfl, HB.out⟩

set_option maxHeartbeats 2000000 in
theorem l5Get_bool (b off n cap : Nat) (f : Nat → Int) (p : Int) (w : World) (hv : View w (some ⟨b, off, none⟩) n cap f) (hn : n ≤ 10000000) (hp1 : p ≤ 9223372036854775807) :
    Calls Try.prog 26 #[.slice (some ⟨b, off, none⟩) n cap, .int .i64 4, .int .i64 p] w fun e w' => e = gotRet (rawT n f 4 p) ∧ Below w.heap.size w w' := by
  have hb0 : ∀ o o', Below w.heap.size w ((w.alloc o).alloc o') := fun o o' => ((Below.refl _ _).alloc (Nat.le_refl _) _).alloc (by simp) _
  by_cases h : 0 ≤ p ∧ p < n
  · have HR : Hid (rawT n f 4 p = ⟨4, f p.toNat, noBytes, p + 1, true⟩) := by show _ = _; unfold rawT; rw [if_neg (by decide), if_neg (by decide), if_neg (by decide), if_pos h]
    rw [HR.out]
    obtain ⟨i, rfl⟩ := Int.eq_ofNat_of_zero_le h.1
    have hin : i < n := by omega
    have hz : (i : Int) < (n : Int) := by omega
    have hbi := hv.byte i hin
    obtain ⟨b', off', e', hbl, hcs⟩ := hv.cells (by omega)
    cases e'
    have hc : ∀ o o', ((w.alloc o).alloc o').cell? ⟨b, off + i, none⟩ = some (.int .u8 (f i)) := fun o o' => by
      rw [(hb0 o o').cell (p := ⟨b, off + i, none⟩) hbl]
      exact hcs i hin
    rw [Int.toNat_natCast]
    clear hcs h HR
    go_enter Try.func26, Try.ntmps26
    go_wp2
    exact bodyPost_ret (v := .tuple #[.agg #[_, _, _], _, _]) (by simp [results, Try.results26, go_sem, noBytes]) rfl ⟨rfl, hb0 _ _⟩
  · have HR : Hid (rawT n f 4 p = ⟨4, 0, noBytes, 0, false⟩) := by show _ = _; unfold rawT; rw [if_neg (by decide), if_neg (by decide), if_neg (by decide), if_neg h]
    rw [HR.out]
    by_cases h0 : 0 ≤ p
    · have hz : (n : Int) ≤ p := by omega
      clear h HR
      go_enter Try.func26, Try.ntmps26
      go_wp2
      exact bodyPost_ret (v := .tuple #[.agg #[_, _, _], _, _]) (by simp [results, Try.results26, go_sem, noBytes]) rfl ⟨rfl, hb0 _ _⟩
    · clear h HR
      go_enter Try.func26, Try.ntmps26
      go_wp2
      exact bodyPost_ret (v := .tuple #[.agg #[_, _, _], _, _]) (by simp [results, Try.results26, go_sem, noBytes]) rfl ⟨rfl, hb0 _ _⟩
end Go.Proofs.Ytbcgonfihdpjnac

