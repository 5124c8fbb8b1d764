/-
  Together: PartGetImpl, EndGetPart
-/
import Derived.Test.YtbcgonfihdpjnaqPack7
import Derived.Test.YtbcgonfihdpjnaqPack3
import Derived.Test.YtbcgonfihdpjnaqPack2
import Derived.Test.YtbcgonfihdpjnaqPack6
/-
  The program's GetPart: one value of a key, at every slice of bytes that reads and at every place.
-/
namespace Go.Proofs.Ytbcgonfihdpjnaq
open Go.RowKit
set_option maxRecDepth 4000

/-- The function is Go's own. -/
def EntersG (F : Nat) : Prop := ∀ (args : Array Value) (W : World), (callFunc F args).run Try.prog W = .ok (.enter F args) W
/-- A type's reader, by its number. -/
theorem formGet {t : Int} (ht : 1 ≤ t ∧ t ≤ 4) : ∃ F G : Nat, (formV t).1 = .func (.func F) #[] #[] ∧ (formV t).2 = .func (.func G) #[] #[] ∧ EntersG G ∧ ∀ n f p, n ≤ 10000000 → p ≤ 9223372036854775807 → ReadsV G n f p (rawI n f t p) := by
  obtain rfl | rfl | rfl | rfl : t = 1 ∨ t = 2 ∨ t = 3 ∨ t = 4 := by omega
  · exact ⟨_, _, rfl, rfl, fun _ _ => by kernel_rfl, fun n f p hn hp => getInt_any n f p hn hp⟩
  · exact ⟨_, _, rfl, rfl, fun _ _ => by kernel_rfl, fun n f p hn hp => getNum_any n f p hn hp⟩
  · exact ⟨_, _, rfl, rfl, fun _ _ => by kernel_rfl, fun n f p hn hp => getText_any n f p hn hp⟩
  · exact ⟨_, _, rfl, rfl, fun _ _ => by kernel_rfl, fun n f p hn hp => getBool_any n f p hn hp⟩
theorem rawI_k {n : Nat} {f : Nat → Int} {t p : Int} (ht : 1 ≤ t ∧ t ≤ 4) : (rawI n f t p).k = t := by
  obtain rfl | rfl | rfl | rfl : t = 1 ∨ t = 2 ∨ t = 3 ∨ t = 4 := by omega
  all_goals rfl
theorem fitsI_self {t y : Int} {nul : Bool} {s : ByteArray} : fitsI t nul t y s = okF t y s := by unfold fitsI; simp

set_option maxHeartbeats 4000000 in
theorem getPart_no (b off n cap : Nat) (f : Nat → Int) (c t : Int) (nul d : Bool) (p : Int) (w : World) (_hv : View w (some ⟨b, off, none⟩) n cap f) (_hn : n ≤ 10000000) (_hp1 : p ≤ 9223372036854775807) (hok : partOk c t = false) :
    Calls Try.prog 22 #[.slice (some ⟨b, off, none⟩) n cap, .agg #[.int .i64 c, .int .i64 t, .bool nul, .bool d], .int .i64 p] w fun e w' => e = gotRet (.no) ∧ Below w.heap.size w w' := by
  have hP := (PBox.new w c t nul d).below ((Below.refl _ _).alloc (Nat.le_refl _) (.cells #[.int .i64 0, .int .i64 0, .string ⟨#[]⟩] 38))
  have hR := Box.new (w.alloc (.cells #[.int .i64 c, .int .i64 t, .bool nul, .bool d] 31)) 0 0 ⟨#[]⟩
  rw [show (w.alloc (.cells #[.int .i64 c, .int .i64 t, .bool nul, .bool d] 31)).heap.size = w.heap.size + 1 by simp] at hR
  have hB : Below w.heap.size w ((w.alloc (.cells #[.int .i64 c, .int .i64 t, .bool nul, .bool d] 31)).alloc (.cells #[.int .i64 0, .int .i64 0, .string ⟨#[]⟩] 38)) := ((Below.refl _ _).alloc (Nat.le_refl _) _).alloc (by simp) _
  go_enter Try.func22, Try.ntmps22
  go_wp2_with fail
  refine (implPartOk_any c t nul d _).mono ?_
  rw [hok]
  rintro e w1 ⟨rfl, hb⟩
  replace hP := hP.below hb
  replace hR := hR.below hb
  replace hB := hB.trans (hb.mono hB.size)
  clear hb
  obtain ⟨p0, p1, p2, p3⟩ := hP.cells
  obtain ⟨x0, x1, x2⟩ := hR.cells
  obtain ⟨r0, r1, r2⟩ := hR.frozen
  have hgs := stored3 (.int .i64 0) (.int .i64 0) (.string ⟨#[]⟩) x0 x1 x2
  have HB : Hid (Below w.heap.size w (((w1.setCell ⟨w.heap.size + 1, 0, none⟩ (.int .i64 0)).setCell ⟨w.heap.size + 1, 1, none⟩ (.int .i64 0)).setCell ⟨w.heap.size + 1, 2, none⟩ (.string ⟨#[]⟩))) := ((hB.setCell (Nat.le_succ _) _).setCell (Nat.le_succ _) _).setCell (Nat.le_succ _) _
  clear hP hR hB
  go_wp2
  exact bodyPost_ret (v := .tuple #[.agg #[.int .i64 0, .int .i64 0, .string ⟨#[]⟩], .int .i64 0, .bool false]) (by simp [results, Try.results22, go_sem, hgs]) rfl ⟨rfl, HB.out⟩

theorem getB_cases {n : Nat} {F : Nat → Int} {p : Int} (hb : ∀ i, i < n → 0 ≤ F i ∧ F i ≤ 255) : getB n F p = (0, 0, false) ∨ ((0 ≤ p ∧ p < n) ∧ (getB n F p = (0, p + 1, true) ∨ getB n F p = (1, p + 1, true))) := by
  by_cases h : p < 0 ∨ (n : Int) ≤ p ∨ 1 < F p.toNat
  · left; unfold getB; rw [if_pos h]
  · right
    refine ⟨by omega, ?_⟩
    have h0 := hb p.toNat (by omega)
    have e : getB n F p = (F p.toNat, p + 1, true) := by unfold getB; rw [if_neg h]
    rw [e]
    by_cases h1 : F p.toNat = 0
    · left; rw [h1]
    · right; rw [show F p.toNat = 1 by omega]

set_option maxHeartbeats 8000000 in
theorem getPart_ff (b off n cap : Nat) (f : Nat → Int) (c t : Int) (p : Int) (w : World) (hv : View w (some ⟨b, off, none⟩) n cap f) (hn : n ≤ 10000000) (hp1 : p ≤ 9223372036854775807) (hok : partOk c t = true) (ht : 1 ≤ t ∧ t ≤ 4) (FF GG : Nat) (hF : (formV t).1 = .func (.func FF) #[] #[]) (hG : (formV t).2 = .func (.func GG) #[] #[]) (hE : EntersG GG) (hW : ∀ n f p, n ≤ 10000000 → p ≤ 9223372036854775807 → ReadsV GG n f p (rawI n f t p)) :
    Calls Try.prog 22 #[.slice (some ⟨b, off, none⟩) n cap, .agg #[.int .i64 c, .int .i64 t, .bool false, .bool false], .int .i64 p] w fun e w' => e = gotRet (nextI n f t false p) ∧ Below w.heap.size w w' := by
  have hP := (PBox.new w c t false false).below ((Below.refl _ _).alloc (Nat.le_refl _) (.cells #[.int .i64 0, .int .i64 0, .string ⟨#[]⟩] 38))
  have hR := Box.new (w.alloc (.cells #[.int .i64 c, .int .i64 t, .bool false, .bool false] 31)) 0 0 ⟨#[]⟩
  rw [show (w.alloc (.cells #[.int .i64 c, .int .i64 t, .bool false, .bool false] 31)).heap.size = w.heap.size + 1 by simp] at hR
  have hB : Below w.heap.size w ((w.alloc (.cells #[.int .i64 c, .int .i64 t, .bool false, .bool false] 31)).alloc (.cells #[.int .i64 0, .int .i64 0, .string ⟨#[]⟩] 38)) := ((Below.refl _ _).alloc (Nat.le_refl _) _).alloc (by simp) _
  go_enter Try.func22, Try.ntmps22
  go_wp2_with fail
  refine (implPartOk_any c t false false _).mono ?_
  rw [hok]
  rintro e w1 ⟨rfl, hb⟩
  replace hP := hP.below hb
  replace hR := hR.below hb
  replace hB := hB.trans (hb.mono hB.size)
  clear hb
  have hx := hv.below hB
  have HN : Hid (nextI n f t false p = (rawI n f t p).chk) := rfl
  obtain ⟨p0, p1, p2, p3⟩ := hP.cells
  go_wp2_with fail
  clear p0 p1 p2 p3
  refine (formOf_any t _ ht).mono ?_
  rw [hF, hG]
  rintro e w5 ⟨rfl, hb⟩
  replace hP := hP.below hb
  replace hR := hR.below hb
  replace hx := hx.below hb
  replace hB := hB.trans (hb.mono hB.size)
  clear hb
  have fg := form_get FF GG
  have hEG : ∀ (args : Array Value) (W : World), (callFunc GG args).run Try.prog W = .ok (.enter GG args) W := hE
  obtain ⟨k, y, s, q, ok, hr⟩ : ∃ k y s q ok, Hid (rawI n f t p = ⟨k, y, s, q, ok⟩) := ⟨_, _, _, _, _, rfl⟩
  obtain rfl : k = t := by have := rawI_k (n := n) (f := f) (p := p) ht; rw [hr.out] at this; exact this
  obtain ⟨p0, p1, p2, p3⟩ := hP.cells
  go_wp2_with fail
  clear p0 p1 p2 p3
  clear fg hEG
  refine (hW n f p hn (by omega) _ _ _ _ hx).mono ?_
  rw [hr.out]
  rintro e w6 ⟨rfl, hb⟩
  have hb0 := hb
  replace hP := hP.below hb
  replace hR := hR.below hb
  replace hB := hB.trans (hb.mono hB.size)
  clear hb
  have hlt6 : w.heap.size + 1 < w6.heap.size := hR.lt
  clear hb0 hx
  cases ok with
  | false =>
    have HG : Hid (nextI n f k false p = .no) := by
      show _ = _
      rw [HN.out]
      exact chk_no (by rw [hr.out])
    obtain ⟨p0, p1, p2, p3⟩ := hP.cells
    obtain ⟨x0, x1, x2⟩ := hR.cells
    obtain ⟨r0, r1, r2⟩ := hR.frozen
    have hgs := stored3A (.int .i64 0) (.int .i64 0) (.string ⟨#[]⟩) x0 x1 x2 hR.lt (.cells #[.int .i64 k, .int .i64 y, .string s] 38)
    have HB : Hid (Below w.heap.size w ((((w6.setCell ⟨w.heap.size + 1, 0, none⟩ (.int .i64 0)).setCell ⟨w.heap.size + 1, 1, none⟩ (.int .i64 0)).setCell ⟨w.heap.size + 1, 2, none⟩ (.string ⟨#[]⟩)).alloc (.cells #[.int .i64 k, .int .i64 y, .string s] 38))) := (((hB.setCell (Nat.le_succ _) _).setCell (Nat.le_succ _) _).setCell (Nat.le_succ _) _).alloc (by simpa using hB.size) _
    clear hP hR hB hr
    simp only [gotRet]
    go_wp2
    exact bodyPost_ret (v := .tuple #[.agg #[.int .i64 0, .int .i64 0, .string ⟨#[]⟩], .int .i64 0, .bool false]) (by simp [results, Try.results22, go_sem, hgs]) rfl ⟨by rw [HG.out]; rfl, HB.out⟩
  | true =>
    have hV := Box.new w6 k y s
    have hb : Below w6.heap.size w6 (w6.alloc (.cells #[.int .i64 k, .int .i64 y, .string s] 38)) := (Below.refl _ _).alloc (Nat.le_refl _) _
    obtain ⟨p0, p1, p2, p3⟩ := hP.cells
    replace hP := hP.below hb
    replace hR := hR.below hb
    replace hB := hB.trans (hb.mono hB.size)
    clear hb
    obtain ⟨v0, v1, v2⟩ := hV.cells
    obtain ⟨s0, s1, s2, s3⟩ := hP.cells
    simp only [gotRet]
    go_wp2_with fail
    clear v0 v1 v2 p0 p1 p2 p3 s0 s1 s2 s3
    refine (implFits_any c k false false k y s _).mono ?_
    rw [fitsI_self]
    obtain ⟨o, ho⟩ : ∃ o, Hid (okF k y s = o) := ⟨_, rfl⟩
    rw [ho.out]
    rintro e w7 ⟨rfl, hb⟩
    replace hV := hV.below hb
    replace hP := hP.below hb
    replace hR := hR.below hb
    replace hB := hB.trans (hb.mono hB.size)
    clear hb
    obtain ⟨v0, v1, v2⟩ := hV.cells
    cases o with
    | false =>
      have HG : Hid (nextI n f k false p = .no) := by
        show _ = _
        rw [HN.out, hr.out]
        unfold Got.chk
        rw [ho.out]
        rfl
      clear hV hr ho
      obtain ⟨p0, p1, p2, p3⟩ := hP.cells
      obtain ⟨x0, x1, x2⟩ := hR.cells
      obtain ⟨r0, r1, r2⟩ := hR.frozen
      have hgs := stored3 (.int .i64 0) (.int .i64 0) (.string ⟨#[]⟩) x0 x1 x2
      have HB : Hid (Below w.heap.size w (((w7.setCell ⟨w.heap.size + 1, 0, none⟩ (.int .i64 0)).setCell ⟨w.heap.size + 1, 1, none⟩ (.int .i64 0)).setCell ⟨w.heap.size + 1, 2, none⟩ (.string ⟨#[]⟩))) := ((hB.setCell (Nat.le_succ _) _).setCell (Nat.le_succ _) _).setCell (Nat.le_succ _) _
      clear hP hR hB
      go_wp2
      exact bodyPost_ret (v := .tuple #[.agg #[.int .i64 0, .int .i64 0, .string ⟨#[]⟩], .int .i64 0, .bool false]) (by simp [results, Try.results22, go_sem, hgs]) rfl ⟨by rw [HG.out]; rfl, HB.out⟩
    | true =>
      have HG : Hid (nextI n f k false p = ⟨k, y, s, q, true⟩) := by
        show _ = _
        rw [HN.out, hr.out]
        unfold Got.chk
        rw [ho.out]
        rfl
      clear hV hr ho
      obtain ⟨p0, p1, p2, p3⟩ := hP.cells
      obtain ⟨x0, x1, x2⟩ := hR.cells
      obtain ⟨r0, r1, r2⟩ := hR.frozen
      have hgs := stored3 (.int .i64 k) (.int .i64 y) (.string s) x0 x1 x2
      have HB : Hid (Below w.heap.size w (((w7.setCell ⟨w.heap.size + 1, 0, none⟩ (.int .i64 k)).setCell ⟨w.heap.size + 1, 1, none⟩ (.int .i64 y)).setCell ⟨w.heap.size + 1, 2, none⟩ (.string s))) := ((hB.setCell (Nat.le_succ _) _).setCell (Nat.le_succ _) _).setCell (Nat.le_succ _) _
      clear hP hR hB
      go_wp2
      exact bodyPost_ret (v := .tuple #[.agg #[.int .i64 k, .int .i64 y, .string s], .int .i64 q, .bool true]) (by simp [results, Try.results22, go_sem, hgs]) rfl ⟨by rw [HG.out]; rfl, HB.out⟩

set_option maxHeartbeats 8000000 in
theorem getPart_ft (b off n cap : Nat) (f : Nat → Int) (c t : Int) (p : Int) (w : World) (hv : View w (some ⟨b, off, none⟩) n cap f) (hn : n ≤ 10000000) (hp1 : p ≤ 9223372036854775807) (hok : partOk c t = true) (ht : 1 ≤ t ∧ t ≤ 4) (FF GG : Nat) (hF : (formV t).1 = .func (.func FF) #[] #[]) (hG : (formV t).2 = .func (.func GG) #[] #[]) (hE : EntersG GG) (hW : ∀ n f p, n ≤ 10000000 → p ≤ 9223372036854775807 → ReadsV GG n f p (rawI n f t p)) :
    Calls Try.prog 22 #[.slice (some ⟨b, off, none⟩) n cap, .agg #[.int .i64 c, .int .i64 t, .bool false, .bool true], .int .i64 p] w fun e w' => e = gotRet (nextI n (flipF f p) t false p) ∧ Below w.heap.size w w' := by
  have hP := (PBox.new w c t false true).below ((Below.refl _ _).alloc (Nat.le_refl _) (.cells #[.int .i64 0, .int .i64 0, .string ⟨#[]⟩] 38))
  have hR := Box.new (w.alloc (.cells #[.int .i64 c, .int .i64 t, .bool false, .bool true] 31)) 0 0 ⟨#[]⟩
  rw [show (w.alloc (.cells #[.int .i64 c, .int .i64 t, .bool false, .bool true] 31)).heap.size = w.heap.size + 1 by simp] at hR
  have hB : Below w.heap.size w ((w.alloc (.cells #[.int .i64 c, .int .i64 t, .bool false, .bool true] 31)).alloc (.cells #[.int .i64 0, .int .i64 0, .string ⟨#[]⟩] 38)) := ((Below.refl _ _).alloc (Nat.le_refl _) _).alloc (by simp) _
  go_enter Try.func22, Try.ntmps22
  go_wp2_with fail
  refine (implPartOk_any c t false true _).mono ?_
  rw [hok]
  rintro e w1 ⟨rfl, hb⟩
  replace hP := hP.below hb
  replace hR := hR.below hb
  replace hB := hB.trans (hb.mono hB.size)
  clear hb
  have hx := hv.below hB
  obtain ⟨p0, p1, p2, p3⟩ := hP.cells
  go_wp2_with fail
  clear p0 p1 p2 p3
  refine (flip_impl b off n cap f p _ hx (by omega) hp1).mono ?_
  rintro e w2 ⟨gx, cx, rfl, -, hcx, hrx, hb⟩
  replace hx := hrx.view hcx (flipF_byte p hx.byte)
  clear hrx
  replace hP := hP.below hb
  replace hR := hR.below hb
  replace hB := hB.trans (hb.mono hB.size)
  clear hb
  have HN : Hid (nextI n (flipF f p) t false p = (rawI n (flipF f p) t p).chk) := rfl
  obtain ⟨p0, p1, p2, p3⟩ := hP.cells
  go_wp2_with fail
  clear p0 p1 p2 p3
  refine (formOf_any t _ ht).mono ?_
  rw [hF, hG]
  rintro e w5 ⟨rfl, hb⟩
  replace hP := hP.below hb
  replace hR := hR.below hb
  replace hx := hx.below hb
  replace hB := hB.trans (hb.mono hB.size)
  clear hb
  have fg := form_get FF GG
  have hEG : ∀ (args : Array Value) (W : World), (callFunc GG args).run Try.prog W = .ok (.enter GG args) W := hE
  obtain ⟨k, y, s, q, ok, hr⟩ : ∃ k y s q ok, Hid (rawI n (flipF f p) t p = ⟨k, y, s, q, ok⟩) := ⟨_, _, _, _, _, rfl⟩
  obtain rfl : k = t := by have := rawI_k (n := n) (f := (flipF f p)) (p := p) ht; rw [hr.out] at this; exact this
  obtain ⟨p0, p1, p2, p3⟩ := hP.cells
  go_wp2_with fail
  clear p0 p1 p2 p3
  clear fg hEG
  refine (hW n (flipF f p) p hn (by omega) _ _ _ _ hx).mono ?_
  rw [hr.out]
  rintro e w6 ⟨rfl, hb⟩
  have hb0 := hb
  replace hP := hP.below hb
  replace hR := hR.below hb
  replace hB := hB.trans (hb.mono hB.size)
  clear hb
  have hlt6 : w.heap.size + 1 < w6.heap.size := hR.lt
  clear hb0 hx
  cases ok with
  | false =>
    have HG : Hid (nextI n (flipF f p) k false p = .no) := by
      show _ = _
      rw [HN.out]
      exact chk_no (by rw [hr.out])
    obtain ⟨p0, p1, p2, p3⟩ := hP.cells
    obtain ⟨x0, x1, x2⟩ := hR.cells
    obtain ⟨r0, r1, r2⟩ := hR.frozen
    have hgs := stored3A (.int .i64 0) (.int .i64 0) (.string ⟨#[]⟩) x0 x1 x2 hR.lt (.cells #[.int .i64 k, .int .i64 y, .string s] 38)
    have HB : Hid (Below w.heap.size w ((((w6.setCell ⟨w.heap.size + 1, 0, none⟩ (.int .i64 0)).setCell ⟨w.heap.size + 1, 1, none⟩ (.int .i64 0)).setCell ⟨w.heap.size + 1, 2, none⟩ (.string ⟨#[]⟩)).alloc (.cells #[.int .i64 k, .int .i64 y, .string s] 38))) := (((hB.setCell (Nat.le_succ _) _).setCell (Nat.le_succ _) _).setCell (Nat.le_succ _) _).alloc (by simpa using hB.size) _
    clear hP hR hB hr
    simp only [gotRet]
    go_wp2
    exact bodyPost_ret (v := .tuple #[.agg #[.int .i64 0, .int .i64 0, .string ⟨#[]⟩], .int .i64 0, .bool false]) (by simp [results, Try.results22, go_sem, hgs]) rfl ⟨by rw [HG.out]; rfl, HB.out⟩
  | true =>
    have hV := Box.new w6 k y s
    have hb : Below w6.heap.size w6 (w6.alloc (.cells #[.int .i64 k, .int .i64 y, .string s] 38)) := (Below.refl _ _).alloc (Nat.le_refl _) _
    obtain ⟨p0, p1, p2, p3⟩ := hP.cells
    replace hP := hP.below hb
    replace hR := hR.below hb
    replace hB := hB.trans (hb.mono hB.size)
    clear hb
    obtain ⟨v0, v1, v2⟩ := hV.cells
    obtain ⟨s0, s1, s2, s3⟩ := hP.cells
    simp only [gotRet]
    go_wp2_with fail
    clear v0 v1 v2 p0 p1 p2 p3 s0 s1 s2 s3
    refine (implFits_any c k false true k y s _).mono ?_
    rw [fitsI_self]
    obtain ⟨o, ho⟩ : ∃ o, Hid (okF k y s = o) := ⟨_, rfl⟩
    rw [ho.out]
    rintro e w7 ⟨rfl, hb⟩
    replace hV := hV.below hb
    replace hP := hP.below hb
    replace hR := hR.below hb
    replace hB := hB.trans (hb.mono hB.size)
    clear hb
    obtain ⟨v0, v1, v2⟩ := hV.cells
    cases o with
    | false =>
      have HG : Hid (nextI n (flipF f p) k false p = .no) := by
        show _ = _
        rw [HN.out, hr.out]
        unfold Got.chk
        rw [ho.out]
        rfl
      clear hV hr ho
      obtain ⟨p0, p1, p2, p3⟩ := hP.cells
      obtain ⟨x0, x1, x2⟩ := hR.cells
      obtain ⟨r0, r1, r2⟩ := hR.frozen
      have hgs := stored3 (.int .i64 0) (.int .i64 0) (.string ⟨#[]⟩) x0 x1 x2
      have HB : Hid (Below w.heap.size w (((w7.setCell ⟨w.heap.size + 1, 0, none⟩ (.int .i64 0)).setCell ⟨w.heap.size + 1, 1, none⟩ (.int .i64 0)).setCell ⟨w.heap.size + 1, 2, none⟩ (.string ⟨#[]⟩))) := ((hB.setCell (Nat.le_succ _) _).setCell (Nat.le_succ _) _).setCell (Nat.le_succ _) _
      clear hP hR hB
      go_wp2
      exact bodyPost_ret (v := .tuple #[.agg #[.int .i64 0, .int .i64 0, .string ⟨#[]⟩], .int .i64 0, .bool false]) (by simp [results, Try.results22, go_sem, hgs]) rfl ⟨by rw [HG.out]; rfl, HB.out⟩
    | true =>
      have HG : Hid (nextI n (flipF f p) k false p = ⟨k, y, s, q, true⟩) := by
        show _ = _
        rw [HN.out, hr.out]
        unfold Got.chk
        rw [ho.out]
        rfl
      clear hV hr ho
      obtain ⟨p0, p1, p2, p3⟩ := hP.cells
      obtain ⟨x0, x1, x2⟩ := hR.cells
      obtain ⟨r0, r1, r2⟩ := hR.frozen
      have hgs := stored3 (.int .i64 k) (.int .i64 y) (.string s) x0 x1 x2
      have HB : Hid (Below w.heap.size w (((w7.setCell ⟨w.heap.size + 1, 0, none⟩ (.int .i64 k)).setCell ⟨w.heap.size + 1, 1, none⟩ (.int .i64 y)).setCell ⟨w.heap.size + 1, 2, none⟩ (.string s))) := ((hB.setCell (Nat.le_succ _) _).setCell (Nat.le_succ _) _).setCell (Nat.le_succ _) _
      clear hP hR hB
      go_wp2
      exact bodyPost_ret (v := .tuple #[.agg #[.int .i64 k, .int .i64 y, .string s], .int .i64 q, .bool true]) (by simp [results, Try.results22, go_sem, hgs]) rfl ⟨by rw [HG.out]; rfl, HB.out⟩

set_option maxHeartbeats 8000000 in
theorem getPart_tf (b off n cap : Nat) (f : Nat → Int) (c t : Int) (p : Int) (w : World) (hv : View w (some ⟨b, off, none⟩) n cap f) (hn : n ≤ 10000000) (hp1 : p ≤ 9223372036854775807) (hok : partOk c t = true) (ht : 1 ≤ t ∧ t ≤ 4) (FF GG : Nat) (hF : (formV t).1 = .func (.func FF) #[] #[]) (hG : (formV t).2 = .func (.func GG) #[] #[]) (hE : EntersG GG) (hW : ∀ n f p, n ≤ 10000000 → p ≤ 9223372036854775807 → ReadsV GG n f p (rawI n f t p)) :
    Calls Try.prog 22 #[.slice (some ⟨b, off, none⟩) n cap, .agg #[.int .i64 c, .int .i64 t, .bool true, .bool false], .int .i64 p] w fun e w' => e = gotRet (nextI n f t true p) ∧ Below w.heap.size w w' := by
  have hP := (PBox.new w c t true false).below ((Below.refl _ _).alloc (Nat.le_refl _) (.cells #[.int .i64 0, .int .i64 0, .string ⟨#[]⟩] 38))
  have hR := Box.new (w.alloc (.cells #[.int .i64 c, .int .i64 t, .bool true, .bool false] 31)) 0 0 ⟨#[]⟩
  rw [show (w.alloc (.cells #[.int .i64 c, .int .i64 t, .bool true, .bool false] 31)).heap.size = w.heap.size + 1 by simp] at hR
  have hB : Below w.heap.size w ((w.alloc (.cells #[.int .i64 c, .int .i64 t, .bool true, .bool false] 31)).alloc (.cells #[.int .i64 0, .int .i64 0, .string ⟨#[]⟩] 38)) := ((Below.refl _ _).alloc (Nat.le_refl _) _).alloc (by simp) _
  go_enter Try.func22, Try.ntmps22
  go_wp2_with fail
  refine (implPartOk_any c t true false _).mono ?_
  rw [hok]
  rintro e w1 ⟨rfl, hb⟩
  replace hP := hP.below hb
  replace hR := hR.below hb
  replace hB := hB.trans (hb.mono hB.size)
  clear hb
  have hx := hv.below hB
  rcases getB_cases (p := p) hx.byte with hgb | ⟨hpp, hgb | hgb⟩
  ·
    have HG : Hid (nextI n f t true p = .no) := by show _ = _; unfold nextI; rw [hgb]; rfl
    have hgh : Hid (getB n f p = (0, 0, false)) := hgb
    clear hgb
    obtain ⟨p0, p1, p2, p3⟩ := hP.cells
    go_wp2_with fail
    clear p0 p1 p2 p3
    refine (getBit_any b off n cap f p _ hgh hx (by omega) hp1).mono ?_
    rintro e w3 ⟨rfl, hb⟩
    replace hP := hP.below hb
    replace hR := hR.below hb
    replace hx := hx.below hb
    replace hB := hB.trans (hb.mono hB.size)
    clear hb
    clear hgh
    clear hx
    obtain ⟨p0, p1, p2, p3⟩ := hP.cells
    obtain ⟨x0, x1, x2⟩ := hR.cells
    obtain ⟨r0, r1, r2⟩ := hR.frozen
    have hgs := stored3 (.int .i64 0) (.int .i64 0) (.string ⟨#[]⟩) x0 x1 x2
    have HB : Hid (Below w.heap.size w (((w3.setCell ⟨w.heap.size + 1, 0, none⟩ (.int .i64 0)).setCell ⟨w.heap.size + 1, 1, none⟩ (.int .i64 0)).setCell ⟨w.heap.size + 1, 2, none⟩ (.string ⟨#[]⟩))) := ((hB.setCell (Nat.le_succ _) _).setCell (Nat.le_succ _) _).setCell (Nat.le_succ _) _
    clear hP hR hB
    go_wp2
    exact bodyPost_ret (v := .tuple #[.agg #[.int .i64 0, .int .i64 0, .string ⟨#[]⟩], .int .i64 0, .bool false]) (by simp [results, Try.results22, go_sem, hgs]) rfl ⟨by rw [HG.out]; rfl, HB.out⟩
  ·
    have HG : Hid (nextI n f t true p = ⟨0, 0, noBytes, p + 1, true⟩) := by show _ = _; unfold nextI; rw [hgb]; rfl
    have hgh : Hid (getB n f p = (0, (p + 1), true)) := hgb
    clear hgb
    obtain ⟨p0, p1, p2, p3⟩ := hP.cells
    go_wp2_with fail
    clear p0 p1 p2 p3
    refine (getBit_any b off n cap f p _ hgh hx (by omega) hp1).mono ?_
    rintro e w3 ⟨rfl, hb⟩
    replace hP := hP.below hb
    replace hR := hR.below hb
    replace hx := hx.below hb
    replace hB := hB.trans (hb.mono hB.size)
    clear hb
    clear hgh
    clear hx
    obtain ⟨p0, p1, p2, p3⟩ := hP.cells
    obtain ⟨x0, x1, x2⟩ := hR.cells
    obtain ⟨r0, r1, r2⟩ := hR.frozen
    have hgs := stored3 (.int .i64 0) (.int .i64 0) (.string ⟨#[]⟩) x0 x1 x2
    have HB : Hid (Below w.heap.size w (((w3.setCell ⟨w.heap.size + 1, 0, none⟩ (.int .i64 0)).setCell ⟨w.heap.size + 1, 1, none⟩ (.int .i64 0)).setCell ⟨w.heap.size + 1, 2, none⟩ (.string ⟨#[]⟩))) := ((hB.setCell (Nat.le_succ _) _).setCell (Nat.le_succ _) _).setCell (Nat.le_succ _) _
    clear hP hR hB
    go_wp2
    exact bodyPost_ret (v := .tuple #[.agg #[.int .i64 0, .int .i64 0, .string ⟨#[]⟩], .int .i64 (p + 1), .bool true]) (by simp [results, Try.results22, go_sem, hgs]) rfl ⟨by rw [HG.out]; rfl, HB.out⟩
  ·
    have HN : Hid (nextI n f t true p = (rawI n f t (p + 1)).chk) := by show _ = _; unfold nextI; rw [hgb]; rfl
    have hgh : Hid (getB n f p = (1, (p + 1), true)) := hgb
    clear hgb
    obtain ⟨p0, p1, p2, p3⟩ := hP.cells
    go_wp2_with fail
    clear p0 p1 p2 p3
    refine (getBit_any b off n cap f p _ hgh hx (by omega) hp1).mono ?_
    rintro e w3 ⟨rfl, hb⟩
    replace hP := hP.below hb
    replace hR := hR.below hb
    replace hx := hx.below hb
    replace hB := hB.trans (hb.mono hB.size)
    clear hb
    clear hgh
    obtain ⟨p0, p1, p2, p3⟩ := hP.cells
    go_wp2_with fail
    clear p0 p1 p2 p3
    refine (formOf_any t _ ht).mono ?_
    rw [hF, hG]
    rintro e w5 ⟨rfl, hb⟩
    replace hP := hP.below hb
    replace hR := hR.below hb
    replace hx := hx.below hb
    replace hB := hB.trans (hb.mono hB.size)
    clear hb
    have fg := form_get FF GG
    have hEG : ∀ (args : Array Value) (W : World), (callFunc GG args).run Try.prog W = .ok (.enter GG args) W := hE
    obtain ⟨k, y, s, q, ok, hr⟩ : ∃ k y s q ok, Hid (rawI n f t (p + 1) = ⟨k, y, s, q, ok⟩) := ⟨_, _, _, _, _, rfl⟩
    obtain rfl : k = t := by have := rawI_k (n := n) (f := f) (p := (p + 1)) ht; rw [hr.out] at this; exact this
    obtain ⟨p0, p1, p2, p3⟩ := hP.cells
    go_wp2_with fail
    clear p0 p1 p2 p3
    clear fg hEG
    refine (hW n f (p + 1) hn (by omega) _ _ _ _ hx).mono ?_
    rw [hr.out]
    rintro e w6 ⟨rfl, hb⟩
    have hb0 := hb
    replace hP := hP.below hb
    replace hR := hR.below hb
    replace hB := hB.trans (hb.mono hB.size)
    clear hb
    have hlt6 : w.heap.size + 1 < w6.heap.size := hR.lt
    clear hb0 hx
    cases ok with
    | false =>
      have HG : Hid (nextI n f k true p = .no) := by
        show _ = _
        rw [HN.out]
        exact chk_no (by rw [hr.out])
      obtain ⟨p0, p1, p2, p3⟩ := hP.cells
      obtain ⟨x0, x1, x2⟩ := hR.cells
      obtain ⟨r0, r1, r2⟩ := hR.frozen
      have hgs := stored3A (.int .i64 0) (.int .i64 0) (.string ⟨#[]⟩) x0 x1 x2 hR.lt (.cells #[.int .i64 k, .int .i64 y, .string s] 38)
      have HB : Hid (Below w.heap.size w ((((w6.setCell ⟨w.heap.size + 1, 0, none⟩ (.int .i64 0)).setCell ⟨w.heap.size + 1, 1, none⟩ (.int .i64 0)).setCell ⟨w.heap.size + 1, 2, none⟩ (.string ⟨#[]⟩)).alloc (.cells #[.int .i64 k, .int .i64 y, .string s] 38))) := (((hB.setCell (Nat.le_succ _) _).setCell (Nat.le_succ _) _).setCell (Nat.le_succ _) _).alloc (by simpa using hB.size) _
      clear hP hR hB hr
      simp only [gotRet]
      go_wp2
      exact bodyPost_ret (v := .tuple #[.agg #[.int .i64 0, .int .i64 0, .string ⟨#[]⟩], .int .i64 0, .bool false]) (by simp [results, Try.results22, go_sem, hgs]) rfl ⟨by rw [HG.out]; rfl, HB.out⟩
    | true =>
      have hV := Box.new w6 k y s
      have hb : Below w6.heap.size w6 (w6.alloc (.cells #[.int .i64 k, .int .i64 y, .string s] 38)) := (Below.refl _ _).alloc (Nat.le_refl _) _
      obtain ⟨p0, p1, p2, p3⟩ := hP.cells
      replace hP := hP.below hb
      replace hR := hR.below hb
      replace hB := hB.trans (hb.mono hB.size)
      clear hb
      obtain ⟨v0, v1, v2⟩ := hV.cells
      obtain ⟨s0, s1, s2, s3⟩ := hP.cells
      simp only [gotRet]
      go_wp2_with fail
      clear v0 v1 v2 p0 p1 p2 p3 s0 s1 s2 s3
      refine (implFits_any c k true false k y s _).mono ?_
      rw [fitsI_self]
      obtain ⟨o, ho⟩ : ∃ o, Hid (okF k y s = o) := ⟨_, rfl⟩
      rw [ho.out]
      rintro e w7 ⟨rfl, hb⟩
      replace hV := hV.below hb
      replace hP := hP.below hb
      replace hR := hR.below hb
      replace hB := hB.trans (hb.mono hB.size)
      clear hb
      obtain ⟨v0, v1, v2⟩ := hV.cells
      cases o with
      | false =>
        have HG : Hid (nextI n f k true p = .no) := by
          show _ = _
          rw [HN.out, hr.out]
          unfold Got.chk
          rw [ho.out]
          rfl
        clear hV hr ho
        obtain ⟨p0, p1, p2, p3⟩ := hP.cells
        obtain ⟨x0, x1, x2⟩ := hR.cells
        obtain ⟨r0, r1, r2⟩ := hR.frozen
        have hgs := stored3 (.int .i64 0) (.int .i64 0) (.string ⟨#[]⟩) x0 x1 x2
        have HB : Hid (Below w.heap.size w (((w7.setCell ⟨w.heap.size + 1, 0, none⟩ (.int .i64 0)).setCell ⟨w.heap.size + 1, 1, none⟩ (.int .i64 0)).setCell ⟨w.heap.size + 1, 2, none⟩ (.string ⟨#[]⟩))) := ((hB.setCell (Nat.le_succ _) _).setCell (Nat.le_succ _) _).setCell (Nat.le_succ _) _
        clear hP hR hB
        go_wp2
        exact bodyPost_ret (v := .tuple #[.agg #[.int .i64 0, .int .i64 0, .string ⟨#[]⟩], .int .i64 0, .bool false]) (by simp [results, Try.results22, go_sem, hgs]) rfl ⟨by rw [HG.out]; rfl, HB.out⟩
      | true =>
        have HG : Hid (nextI n f k true p = ⟨k, y, s, q, true⟩) := by
          show _ = _
          rw [HN.out, hr.out]
          unfold Got.chk
          rw [ho.out]
          rfl
        clear hV hr ho
        obtain ⟨p0, p1, p2, p3⟩ := hP.cells
        obtain ⟨x0, x1, x2⟩ := hR.cells
        obtain ⟨r0, r1, r2⟩ := hR.frozen
        have hgs := stored3 (.int .i64 k) (.int .i64 y) (.string s) x0 x1 x2
        have HB : Hid (Below w.heap.size w (((w7.setCell ⟨w.heap.size + 1, 0, none⟩ (.int .i64 k)).setCell ⟨w.heap.size + 1, 1, none⟩ (.int .i64 y)).setCell ⟨w.heap.size + 1, 2, none⟩ (.string s))) := ((hB.setCell (Nat.le_succ _) _).setCell (Nat.le_succ _) _).setCell (Nat.le_succ _) _
        clear hP hR hB
        go_wp2
        exact bodyPost_ret (v := .tuple #[.agg #[.int .i64 k, .int .i64 y, .string s], .int .i64 q, .bool true]) (by simp [results, Try.results22, go_sem, hgs]) rfl ⟨by rw [HG.out]; rfl, HB.out⟩

set_option maxHeartbeats 8000000 in
theorem getPart_tt (b off n cap : Nat) (f : Nat → Int) (c t : Int) (p : Int) (w : World) (hv : View w (some ⟨b, off, none⟩) n cap f) (hn : n ≤ 10000000) (hp1 : p ≤ 9223372036854775807) (hok : partOk c t = true) (ht : 1 ≤ t ∧ t ≤ 4) (FF GG : Nat) (hF : (formV t).1 = .func (.func FF) #[] #[]) (hG : (formV t).2 = .func (.func GG) #[] #[]) (hE : EntersG GG) (hW : ∀ n f p, n ≤ 10000000 → p ≤ 9223372036854775807 → ReadsV GG n f p (rawI n f t p)) :
    Calls Try.prog 22 #[.slice (some ⟨b, off, none⟩) n cap, .agg #[.int .i64 c, .int .i64 t, .bool true, .bool true], .int .i64 p] w fun e w' => e = gotRet (nextI n (flipF f p) t true p) ∧ Below w.heap.size w w' := by
  have hP := (PBox.new w c t true true).below ((Below.refl _ _).alloc (Nat.le_refl _) (.cells #[.int .i64 0, .int .i64 0, .string ⟨#[]⟩] 38))
  have hR := Box.new (w.alloc (.cells #[.int .i64 c, .int .i64 t, .bool true, .bool true] 31)) 0 0 ⟨#[]⟩
  rw [show (w.alloc (.cells #[.int .i64 c, .int .i64 t, .bool true, .bool true] 31)).heap.size = w.heap.size + 1 by simp] at hR
  have hB : Below w.heap.size w ((w.alloc (.cells #[.int .i64 c, .int .i64 t, .bool true, .bool true] 31)).alloc (.cells #[.int .i64 0, .int .i64 0, .string ⟨#[]⟩] 38)) := ((Below.refl _ _).alloc (Nat.le_refl _) _).alloc (by simp) _
  go_enter Try.func22, Try.ntmps22
  go_wp2_with fail
  refine (implPartOk_any c t true true _).mono ?_
  rw [hok]
  rintro e w1 ⟨rfl, hb⟩
  replace hP := hP.below hb
  replace hR := hR.below hb
  replace hB := hB.trans (hb.mono hB.size)
  clear hb
  have hx := hv.below hB
  obtain ⟨p0, p1, p2, p3⟩ := hP.cells
  go_wp2_with fail
  clear p0 p1 p2 p3
  refine (flip_impl b off n cap f p _ hx (by omega) hp1).mono ?_
  rintro e w2 ⟨gx, cx, rfl, -, hcx, hrx, hb⟩
  replace hx := hrx.view hcx (flipF_byte p hx.byte)
  clear hrx
  replace hP := hP.below hb
  replace hR := hR.below hb
  replace hB := hB.trans (hb.mono hB.size)
  clear hb
  rcases getB_cases (p := p) hx.byte with hgb | ⟨hpp, hgb | hgb⟩
  ·
    have HG : Hid (nextI n (flipF f p) t true p = .no) := by show _ = _; unfold nextI; rw [hgb]; rfl
    have hgh : Hid (getB n (flipF f p) p = (0, 0, false)) := hgb
    clear hgb
    obtain ⟨p0, p1, p2, p3⟩ := hP.cells
    go_wp2_with fail
    clear p0 p1 p2 p3
    refine (getBit_any gx 0 n cx (flipF f p) p _ hgh hx (by omega) hp1).mono ?_
    rintro e w3 ⟨rfl, hb⟩
    replace hP := hP.below hb
    replace hR := hR.below hb
    replace hx := hx.below hb
    replace hB := hB.trans (hb.mono hB.size)
    clear hb
    clear hgh
    clear hx
    obtain ⟨p0, p1, p2, p3⟩ := hP.cells
    obtain ⟨x0, x1, x2⟩ := hR.cells
    obtain ⟨r0, r1, r2⟩ := hR.frozen
    have hgs := stored3 (.int .i64 0) (.int .i64 0) (.string ⟨#[]⟩) x0 x1 x2
    have HB : Hid (Below w.heap.size w (((w3.setCell ⟨w.heap.size + 1, 0, none⟩ (.int .i64 0)).setCell ⟨w.heap.size + 1, 1, none⟩ (.int .i64 0)).setCell ⟨w.heap.size + 1, 2, none⟩ (.string ⟨#[]⟩))) := ((hB.setCell (Nat.le_succ _) _).setCell (Nat.le_succ _) _).setCell (Nat.le_succ _) _
    clear hP hR hB
    go_wp2
    exact bodyPost_ret (v := .tuple #[.agg #[.int .i64 0, .int .i64 0, .string ⟨#[]⟩], .int .i64 0, .bool false]) (by simp [results, Try.results22, go_sem, hgs]) rfl ⟨by rw [HG.out]; rfl, HB.out⟩
  ·
    have HG : Hid (nextI n (flipF f p) t true p = ⟨0, 0, noBytes, p + 1, true⟩) := by show _ = _; unfold nextI; rw [hgb]; rfl
    have hgh : Hid (getB n (flipF f p) p = (0, (p + 1), true)) := hgb
    clear hgb
    obtain ⟨p0, p1, p2, p3⟩ := hP.cells
    go_wp2_with fail
    clear p0 p1 p2 p3
    refine (getBit_any gx 0 n cx (flipF f p) p _ hgh hx (by omega) hp1).mono ?_
    rintro e w3 ⟨rfl, hb⟩
    replace hP := hP.below hb
    replace hR := hR.below hb
    replace hx := hx.below hb
    replace hB := hB.trans (hb.mono hB.size)
    clear hb
    clear hgh
    clear hx
    obtain ⟨p0, p1, p2, p3⟩ := hP.cells
    obtain ⟨x0, x1, x2⟩ := hR.cells
    obtain ⟨r0, r1, r2⟩ := hR.frozen
    have hgs := stored3 (.int .i64 0) (.int .i64 0) (.string ⟨#[]⟩) x0 x1 x2
    have HB : Hid (Below w.heap.size w (((w3.setCell ⟨w.heap.size + 1, 0, none⟩ (.int .i64 0)).setCell ⟨w.heap.size + 1, 1, none⟩ (.int .i64 0)).setCell ⟨w.heap.size + 1, 2, none⟩ (.string ⟨#[]⟩))) := ((hB.setCell (Nat.le_succ _) _).setCell (Nat.le_succ _) _).setCell (Nat.le_succ _) _
    clear hP hR hB
    go_wp2
    exact bodyPost_ret (v := .tuple #[.agg #[.int .i64 0, .int .i64 0, .string ⟨#[]⟩], .int .i64 (p + 1), .bool true]) (by simp [results, Try.results22, go_sem, hgs]) rfl ⟨by rw [HG.out]; rfl, HB.out⟩
  ·
    have HN : Hid (nextI n (flipF f p) t true p = (rawI n (flipF f p) t (p + 1)).chk) := by show _ = _; unfold nextI; rw [hgb]; rfl
    have hgh : Hid (getB n (flipF f p) p = (1, (p + 1), true)) := hgb
    clear hgb
    obtain ⟨p0, p1, p2, p3⟩ := hP.cells
    go_wp2_with fail
    clear p0 p1 p2 p3
    refine (getBit_any gx 0 n cx (flipF f p) p _ hgh hx (by omega) hp1).mono ?_
    rintro e w3 ⟨rfl, hb⟩
    replace hP := hP.below hb
    replace hR := hR.below hb
    replace hx := hx.below hb
    replace hB := hB.trans (hb.mono hB.size)
    clear hb
    clear hgh
    obtain ⟨p0, p1, p2, p3⟩ := hP.cells
    go_wp2_with fail
    clear p0 p1 p2 p3
    refine (formOf_any t _ ht).mono ?_
    rw [hF, hG]
    rintro e w5 ⟨rfl, hb⟩
    replace hP := hP.below hb
    replace hR := hR.below hb
    replace hx := hx.below hb
    replace hB := hB.trans (hb.mono hB.size)
    clear hb
    have fg := form_get FF GG
    have hEG : ∀ (args : Array Value) (W : World), (callFunc GG args).run Try.prog W = .ok (.enter GG args) W := hE
    obtain ⟨k, y, s, q, ok, hr⟩ : ∃ k y s q ok, Hid (rawI n (flipF f p) t (p + 1) = ⟨k, y, s, q, ok⟩) := ⟨_, _, _, _, _, rfl⟩
    obtain rfl : k = t := by have := rawI_k (n := n) (f := (flipF f p)) (p := (p + 1)) ht; rw [hr.out] at this; exact this
    obtain ⟨p0, p1, p2, p3⟩ := hP.cells
    go_wp2_with fail
    clear p0 p1 p2 p3
    clear fg hEG
    refine (hW n (flipF f p) (p + 1) hn (by omega) _ _ _ _ hx).mono ?_
    rw [hr.out]
    rintro e w6 ⟨rfl, hb⟩
    have hb0 := hb
    replace hP := hP.below hb
    replace hR := hR.below hb
    replace hB := hB.trans (hb.mono hB.size)
    clear hb
    have hlt6 : w.heap.size + 1 < w6.heap.size := hR.lt
    clear hb0 hx
    cases ok with
    | false =>
      have HG : Hid (nextI n (flipF f p) k true p = .no) := by
        show _ = _
        rw [HN.out]
        exact chk_no (by rw [hr.out])
      obtain ⟨p0, p1, p2, p3⟩ := hP.cells
      obtain ⟨x0, x1, x2⟩ := hR.cells
      obtain ⟨r0, r1, r2⟩ := hR.frozen
      have hgs := stored3A (.int .i64 0) (.int .i64 0) (.string ⟨#[]⟩) x0 x1 x2 hR.lt (.cells #[.int .i64 k, .int .i64 y, .string s] 38)
      have HB : Hid (Below w.heap.size w ((((w6.setCell ⟨w.heap.size + 1, 0, none⟩ (.int .i64 0)).setCell ⟨w.heap.size + 1, 1, none⟩ (.int .i64 0)).setCell ⟨w.heap.size + 1, 2, none⟩ (.string ⟨#[]⟩)).alloc (.cells #[.int .i64 k, .int .i64 y, .string s] 38))) := (((hB.setCell (Nat.le_succ _) _).setCell (Nat.le_succ _) _).setCell (Nat.le_succ _) _).alloc (by simpa using hB.size) _
      clear hP hR hB hr
      simp only [gotRet]
      go_wp2
      exact bodyPost_ret (v := .tuple #[.agg #[.int .i64 0, .int .i64 0, .string ⟨#[]⟩], .int .i64 0, .bool false]) (by simp [results, Try.results22, go_sem, hgs]) rfl ⟨by rw [HG.out]; rfl, HB.out⟩
    | true =>
      have hV := Box.new w6 k y s
      have hb : Below w6.heap.size w6 (w6.alloc (.cells #[.int .i64 k, .int .i64 y, .string s] 38)) := (Below.refl _ _).alloc (Nat.le_refl _) _
      obtain ⟨p0, p1, p2, p3⟩ := hP.cells
      replace hP := hP.below hb
      replace hR := hR.below hb
      replace hB := hB.trans (hb.mono hB.size)
      clear hb
      obtain ⟨v0, v1, v2⟩ := hV.cells
      obtain ⟨s0, s1, s2, s3⟩ := hP.cells
      simp only [gotRet]
      go_wp2_with fail
      clear v0 v1 v2 p0 p1 p2 p3 s0 s1 s2 s3
      refine (implFits_any c k true true k y s _).mono ?_
      rw [fitsI_self]
      obtain ⟨o, ho⟩ : ∃ o, Hid (okF k y s = o) := ⟨_, rfl⟩
      rw [ho.out]
      rintro e w7 ⟨rfl, hb⟩
      replace hV := hV.below hb
      replace hP := hP.below hb
      replace hR := hR.below hb
      replace hB := hB.trans (hb.mono hB.size)
      clear hb
      obtain ⟨v0, v1, v2⟩ := hV.cells
      cases o with
      | false =>
        have HG : Hid (nextI n (flipF f p) k true p = .no) := by
          show _ = _
          rw [HN.out, hr.out]
          unfold Got.chk
          rw [ho.out]
          rfl
        clear hV hr ho
        obtain ⟨p0, p1, p2, p3⟩ := hP.cells
        obtain ⟨x0, x1, x2⟩ := hR.cells
        obtain ⟨r0, r1, r2⟩ := hR.frozen
        have hgs := stored3 (.int .i64 0) (.int .i64 0) (.string ⟨#[]⟩) x0 x1 x2
        have HB : Hid (Below w.heap.size w (((w7.setCell ⟨w.heap.size + 1, 0, none⟩ (.int .i64 0)).setCell ⟨w.heap.size + 1, 1, none⟩ (.int .i64 0)).setCell ⟨w.heap.size + 1, 2, none⟩ (.string ⟨#[]⟩))) := ((hB.setCell (Nat.le_succ _) _).setCell (Nat.le_succ _) _).setCell (Nat.le_succ _) _
        clear hP hR hB
        go_wp2
        exact bodyPost_ret (v := .tuple #[.agg #[.int .i64 0, .int .i64 0, .string ⟨#[]⟩], .int .i64 0, .bool false]) (by simp [results, Try.results22, go_sem, hgs]) rfl ⟨by rw [HG.out]; rfl, HB.out⟩
      | true =>
        have HG : Hid (nextI n (flipF f p) k true p = ⟨k, y, s, q, true⟩) := by
          show _ = _
          rw [HN.out, hr.out]
          unfold Got.chk
          rw [ho.out]
          rfl
        clear hV hr ho
        obtain ⟨p0, p1, p2, p3⟩ := hP.cells
        obtain ⟨x0, x1, x2⟩ := hR.cells
        obtain ⟨r0, r1, r2⟩ := hR.frozen
        have hgs := stored3 (.int .i64 k) (.int .i64 y) (.string s) x0 x1 x2
        have HB : Hid (Below w.heap.size w (((w7.setCell ⟨w.heap.size + 1, 0, none⟩ (.int .i64 k)).setCell ⟨w.heap.size + 1, 1, none⟩ (.int .i64 y)).setCell ⟨w.heap.size + 1, 2, none⟩ (.string s))) := ((hB.setCell (Nat.le_succ _) _).setCell (Nat.le_succ _) _).setCell (Nat.le_succ _) _
        clear hP hR hB
        go_wp2
        exact bodyPost_ret (v := .tuple #[.agg #[.int .i64 k, .int .i64 y, .string s], .int .i64 q, .bool true]) (by simp [results, Try.results22, go_sem, hgs]) rfl ⟨by rw [HG.out]; rfl, HB.out⟩


theorem getPart_impl (b off n cap : Nat) (f : Nat → Int) (c t : Int) (nul d : Bool) (p : Int) (w : World) (hv : View w (some ⟨b, off, none⟩) n cap f) (hn : n ≤ 10000000) (hp1 : p ≤ 9223372036854775807) :
    Calls Try.prog 22 #[.slice (some ⟨b, off, none⟩) n cap, .agg #[.int .i64 c, .int .i64 t, .bool nul, .bool d], .int .i64 p] w fun e w' => e = gotRet (getP n f c t nul d p) ∧ Below w.heap.size w w' := by
  cases hok : partOk c t with
  | false => rw [getP_no hok]; exact getPart_no b off n cap f c t nul d p w hv hn hp1 hok
  | true =>
    have ht : 1 ≤ t ∧ t ≤ 4 := by unfold partOk at hok; simp at hok; omega
    obtain ⟨F, G, hF, hG, hE, hW⟩ := formGet ht
    have hb := hv.byte
    cases d with
    | false =>
      rw [← nextI_is (F := f) hok ht hb (fun _ _ => rfl)]
      cases nul with
      | false => exact getPart_ff b off n cap f c t p w hv hn hp1 hok ht F G hF hG hE hW
      | true => exact getPart_tf b off n cap f c t p w hv hn hp1 hok ht F G hF hG hE hW
    | true =>
      rw [← nextI_is (F := flipF f p) hok ht hb (fun i hi => by unfold flipF turned; rw [if_pos hi]; rfl)]
      cases nul with
      | false => exact getPart_ft b off n cap f c t p w hv hn hp1 hok ht F G hF hG hE hW
      | true => exact getPart_tt b off n cap f c t p w hv hn hp1 hok ht F G hF hG hE hW
end Go.Proofs.Ytbcgonfihdpjnaq

/-
  The exact law of GetPart, whole.
-/
namespace Go.Proofs.Ytbcgonfihdpjnaq
open Go.RowKit
set_option maxRecDepth 4000

theorem endGetPart (ao : Option Addr) (n cap : Nat) (f : Nat → Int) (c t : Int) (nul d : Bool) (p : Int) (w : World) (hv : View w ao n cap f) (hp1 : p ≤ 9223372036854775807) :
    Calls Try.prog 6 #[.slice ao n cap, .agg #[.int .i64 c, .int .i64 t, .bool nul, .bool d], .int .i64 p] w fun e w' => e = .returned (.bool true) ∧ Below w.heap.size w w' := by
  obtain ⟨k, y, s, q, ok, hg⟩ : ∃ k y s q ok, getP n f c t nul d p = ⟨k, y, s, q, ok⟩ := ⟨_, _, _, _, _, rfl⟩
  refine lawGetPart ao n cap f c t nul d p k y s q ok w hv (fun h b cap w hv => ?_) (fun h b cap w hv => ?_)
  · have h1 := getPart_spec b 0 n cap f c t nul d p w hv (by omega) hp1
    rw [hg] at h1
    exact h1
  · have h1 := getPart_impl b 0 n cap f c t nul d p w hv (by omega) hp1
    rw [hg] at h1
    exact h1
end Go.Proofs.Ytbcgonfihdpjnaq

