/-
  Together: DrawAny12, DrawDisks12
-/
import Derived.Test.YtdhfbblameiloaaUP11
import Derived.Test.YtdhfbblameiloaaUP12
import Derived.Deep.RegionHeld3
import Derived.Deep.LoopGhost
import Derived.Test.YtdhfbblameiloaaUP10
/-
  The draw of a disk that is bent or not.
-/
namespace Go.Proofs.Ytdhfbblameiloaa
open Go.RowKit
set_option maxRecDepth 4000

set_option maxHeartbeats 16000000 in
theorem l12Any_any (g : Nat) (ao : Option Addr) (n cap : Nat) (f : Nat → Int) (w : World) (hn : n ≤ 1048576) (hC : Cur w g ao n cap f) :
    Calls Try.prog 81 #[.pointer (some ⟨g, 0, none⟩)] w (AD w g ao n cap f) := by
  obtain ⟨jf, hjf, fz0, fz1, fz2⟩ := infoFault
  obtain ⟨jw, hjw, wz0, wz1, wz2⟩ := infoWrite
  have hR0 := CN.start hC
  have hbA : Below w.heap.size w (w.alloc (.cells #[.slice none 0 0, .slice none 0 0, .int .i64 0, .slice none 0 0, .bool false] 32)) := (Below.refl _ _).alloc (Nat.le_refl _) _
  have hV := VN.new w 32 [.slice none 0 0, .slice none 0 0, .int .i64 0, .slice none 0 0, .bool false]
  have hCA := hC.below hbA
  have hRA := hR0.below hbA
  have hlt : w.heap.size < (w.alloc (.cells #[.slice none 0 0, .slice none 0 0, .int .i64 0, .slice none 0 0, .bool false] 32)).heap.size := by simp
  clear hC hbA hR0
  go_enter Try.func81, Try.ntmps81
  go_wp2_with fail
  obtain ⟨WA, hWA⟩ : ∃ x, Hid ((w.alloc (.cells #[.slice none 0 0, .slice none 0 0, .int .i64 0, .slice none 0 0, .bool false] 32)) = x) := ⟨_, rfl⟩
  rw [hWA.out] at hV hCA hRA hlt ⊢
  refine (l12Draw_any g ao n cap f WA hn hCA).mono ?_
  rintro e w2 ⟨D, B, X0, gs, sc, ca, cc, fa, fc, ss, cs, rfl, hM, hl, hok, hc12, hcn, hB, hX0⟩
  have hgA := hRA.lt
  have hVA := hV.block (hcn.but.block _ hV.lt (by omega))
  have hR2 := hRA.next hcn.cur hcn.but
  unfold dval
  have hbX : Below w2.heap.size w2 (w2.alloc (.cells #[.slice (some ⟨gs, 0, none⟩) D.secs.length sc, .slice ca D.cache.length cc, .int .i64 D.ops, .slice fa D.faults.length fc, .bool D.down] 32)) := (Below.refl _ _).alloc (Nat.le_refl _) _
  have hX := VN.new w2 32 [.slice (some ⟨gs, 0, none⟩) D.secs.length sc, .slice ca D.cache.length cc, .int .i64 D.ops, .slice fa D.faults.length fc, .bool D.down]
  have hM2 := hM.on hbX
  have hxl := hM.x.lt
  have hBw2 : B ≤ w2.heap.size := by omega
  have hf3 : D.faults.length ≤ 20 := hok.2.2.2.1.1
  have hL0 : AL w g ao n cap f B w2.heap.size gs sc fa fc D ca cc ss cs (w2.alloc (.cells #[.slice (some ⟨gs, 0, none⟩) D.secs.length sc, .slice ca D.cache.length cc, .int .i64 D.ops, .slice fa D.faults.length fc, .bool D.down] 32)) := ⟨⟨hX, hM2.secs, hM2.ns, hM2.len, hM2.ob, hM2.own, hM2.nc, hM2.cb, hM2.fown⟩, hl, hok.fine, ⟨by have := hok.1.1; omega, hok.1.2.1⟩, hVA.below hbX, hR2.below hbX, by omega, Nat.le_trans hBw2 hbX.size, hBw2⟩
  clear hX hM2 hM hV hVA hRA hCA hR2 hbX hok hl hcn hWA
  obtain ⟨X, hXe⟩ := hidEx w2.heap.size
  obtain ⟨W3, hW3⟩ : ∃ z, Hid (w2.alloc (.cells #[.slice (some ⟨gs, 0, none⟩) D.secs.length sc, .slice ca D.cache.length cc, .int .i64 D.ops, .slice fa D.faults.length fc, .bool D.down] 32) = z) := ⟨_, rfl⟩
  rw [hXe.out, hW3.out] at hL0
  clear hxl hBw2 hX0
  go_wp2_with (rw [hW3.out])
  rw [hXe.out]
  refine (l1Below_any g ao n cap f 20 W3 hn (by omega) (by omega) hL0.cn.cur).mono ?_
  rintro e w4 ⟨y, rfl, hy0, hy1, hC4, hO4⟩
  replace hL0 := hL0.but hC4 (But.ofOnly hO4)
  have hXg : X ≠ g := by have := hL0.x; have := hL0.lo; have := hL0.cn.lt; omega
  clear hC4 hO4 hXe hW3 hlt hgA hB
  by_cases h0 : y = 0
  · subst h0
    have hI := l1Int_mem g ao n cap f [-1, 100000, 100001] w4.heap.size w4 rfl hn (by simp) (by simp) hL0.cn.cur
    go_wp2_with fail
    refine hI.mono ?_
    rintro e w5 ⟨z, rfl, -, hC5, hB5⟩
    have hL5 := hL0.but hC5 hB5
    have c2 : w5.cell? ⟨X, 2, none⟩ = some (.int .i64 D.ops) := hL5.ms.x.cell 2
    have q2 := hL5.ms.x.fz 2
    have hL := hL5.ops z
    obtain ⟨W6, hW6⟩ : ∃ x, Hid (w5.setCell ⟨X, 2, none⟩ (.int .i64 z) = x) := ⟨_, rfl⟩
    rw [hW6.out] at hL
    obtain ⟨D2, hD2⟩ : ∃ x, Hid (({ D with ops := z } : PDisk) = x) := ⟨_, rfl⟩
    rw [hD2.out] at hL
    clear hI hC5 hB5 hL5 hL0 hD2
    have a0 : W6.cell? ⟨X, 0, none⟩ = some (.slice (some ⟨gs, 0, none⟩) D2.secs.length sc) := hL.ms.x.cell 0
    have a1 : W6.cell? ⟨X, 1, none⟩ = some (.slice ca D2.cache.length cc) := hL.ms.x.cell 1
    have a2 : W6.cell? ⟨X, 2, none⟩ = some (.int .i64 D2.ops) := hL.ms.x.cell 2
    have a3 : W6.cell? ⟨X, 3, none⟩ = some (.slice fa D2.faults.length fc) := hL.ms.x.cell 3
    have a4 : W6.cell? ⟨X, 4, none⟩ = some (.bool D2.down) := hL.ms.x.cell 4
    have r0 : W6.cell? ⟨w.heap.size, 0, none⟩ = some (.slice none 0 0) := hL.r.cell 0
    have z0 := hL.r.fz 0
    have r1 : W6.cell? ⟨w.heap.size, 1, none⟩ = some (.slice none 0 0) := hL.r.cell 1
    have z1 := hL.r.fz 1
    have r2 : W6.cell? ⟨w.heap.size, 2, none⟩ = some (.int .i64 0) := hL.r.cell 2
    have z2 := hL.r.fz 2
    have r3 : W6.cell? ⟨w.heap.size, 3, none⟩ = some (.slice none 0 0) := hL.r.cell 3
    have z3 := hL.r.fz 3
    have r4 : W6.cell? ⟨w.heap.size, 4, none⟩ = some (.bool false) := hL.r.cell 4
    have z4 := hL.r.fz 4
    have hr5 := ret5_vn (.slice (some ⟨gs, 0, none⟩) D2.secs.length sc) (.slice ca D2.cache.length cc) (.int .i64 D2.ops) (.slice fa D2.faults.length fc) (.bool D2.down) hL.r
    have HE : Hid _ := hL.out
    have m0 := hr5.cell 0
    have m1 := hr5.cell 1
    have m2 := hr5.cell 2
    have m3 := hr5.cell 3
    have m4 := hr5.cell 4
    simp only [List.getElem?_cons_zero, List.getElem?_cons_succ] at m0 m1 m2 m3 m4
    have HM : Hid _ := And.intro m0 (And.intro m1 (And.intro m2 (And.intro m3 m4)))
    clear hr5 m0 m1 m2 m3 m4 hL
    go_wp2_with (rw [hW6.out])
    obtain ⟨m0, m1, m2, m3, m4⟩ := HM.out
    refine bodyPost_ret (v := .agg #[.slice (some ⟨gs, 0, none⟩) D2.secs.length sc, .slice ca D2.cache.length cc, .int .i64 D2.ops, .slice fa D2.faults.length fc, .bool D2.down]) (by simp [results, Try.results81, go_sem, m0, m1, m2, m3, m4]) rfl HE.out
  by_cases h1 : y = 1
  · subst h1
    have hfew : D.faults.length ≤ 1000 := by omega
    go_wp2_with fail
    rename_i K1 hK1
    have HREST : ∀ (fa : Option Addr) (fc : Nat) (D2 : PDisk) (e5 : Value) (t16 t17 t18 t19 t20 t21 t22 t23 t24 t25 t26 t27 : Value) (W : World), AL w g ao n cap f B X gs sc fa fc D2 ca cc ss cs W → K1 { tmps := #[.pointer (some ⟨g, 0, none⟩), undef, .pointer (some ⟨w.heap.size, 0, none⟩), .pointer (some ⟨X, 0, none⟩), .pointer (some ⟨g, 0, none⟩), e5, .pointer (some ⟨g, 0, none⟩), .int .i64 1, .bool false, .bool false, undef, undef, undef, undef, .bool true, .bool true, t16, t17, t18, t19, t20, t21, t22, t23, t24, t25, t26, t27, undef, undef, undef, undef, undef, undef, undef, undef, undef, undef, undef, undef, undef, undef, undef, undef, undef, undef, undef, undef, undef, undef, undef, undef, undef, undef, undef, undef, undef, undef, undef, undef, undef, undef, undef, undef, undef, undef, undef, undef, undef, undef, undef, undef, undef], defers := [] } W := by
      intro fa fc D2 e5 t16 t17 t18 t19 t20 t21 t22 t23 t24 t25 t26 t27 W hL
      clear hL0
      apply hK1
      clear hK1
      have a0 : W.cell? ⟨X, 0, none⟩ = some (.slice (some ⟨gs, 0, none⟩) D2.secs.length sc) := hL.ms.x.cell 0
      have a1 : W.cell? ⟨X, 1, none⟩ = some (.slice ca D2.cache.length cc) := hL.ms.x.cell 1
      have a2 : W.cell? ⟨X, 2, none⟩ = some (.int .i64 D2.ops) := hL.ms.x.cell 2
      have a3 : W.cell? ⟨X, 3, none⟩ = some (.slice fa D2.faults.length fc) := hL.ms.x.cell 3
      have a4 : W.cell? ⟨X, 4, none⟩ = some (.bool D2.down) := hL.ms.x.cell 4
      have r0 : W.cell? ⟨w.heap.size, 0, none⟩ = some (.slice none 0 0) := hL.r.cell 0
      have z0 := hL.r.fz 0
      have r1 : W.cell? ⟨w.heap.size, 1, none⟩ = some (.slice none 0 0) := hL.r.cell 1
      have z1 := hL.r.fz 1
      have r2 : W.cell? ⟨w.heap.size, 2, none⟩ = some (.int .i64 0) := hL.r.cell 2
      have z2 := hL.r.fz 2
      have r3 : W.cell? ⟨w.heap.size, 3, none⟩ = some (.slice none 0 0) := hL.r.cell 3
      have z3 := hL.r.fz 3
      have r4 : W.cell? ⟨w.heap.size, 4, none⟩ = some (.bool false) := hL.r.cell 4
      have z4 := hL.r.fz 4
      have hr5 := ret5_vn (.slice (some ⟨gs, 0, none⟩) D2.secs.length sc) (.slice ca D2.cache.length cc) (.int .i64 D2.ops) (.slice fa D2.faults.length fc) (.bool D2.down) hL.r
      have HE : Hid _ := hL.out
      have m0 := hr5.cell 0
      have m1 := hr5.cell 1
      have m2 := hr5.cell 2
      have m3 := hr5.cell 3
      have m4 := hr5.cell 4
      simp only [List.getElem?_cons_zero, List.getElem?_cons_succ] at m0 m1 m2 m3 m4
      have HM : Hid _ := And.intro m0 (And.intro m1 (And.intro m2 (And.intro m3 m4)))
      clear hr5 m0 m1 m2 m3 m4 hL
      go_wp2
      obtain ⟨m0, m1, m2, m3, m4⟩ := HM.out
      refine bodyPost_ret (v := .agg #[.slice (some ⟨gs, 0, none⟩) D2.secs.length sc, .slice ca D2.cache.length cc, .int .i64 D2.ops, .slice fa D2.faults.length fc, .bool D2.down]) (by simp [results, Try.results81, go_sem, m0, m1, m2, m3, m4]) rfl HE.out
    clear hK1
    have HR2 : Hid (∀ (fa : Option Addr) (fc : Nat) (D2 : PDisk) (e5 : Value) (t16 t17 t18 t19 t20 t21 t22 t23 t24 t25 t26 t27 : Value) (W : World), AL w g ao n cap f B X gs sc fa fc D2 ca cc ss cs W → K1 { tmps := #[.pointer (some ⟨g, 0, none⟩), undef, .pointer (some ⟨w.heap.size, 0, none⟩), .pointer (some ⟨X, 0, none⟩), .pointer (some ⟨g, 0, none⟩), e5, .pointer (some ⟨g, 0, none⟩), .int .i64 1, .bool false, .bool false, undef, undef, undef, undef, .bool true, .bool true, t16, t17, t18, t19, t20, t21, t22, t23, t24, t25, t26, t27, undef, undef, undef, undef, undef, undef, undef, undef, undef, undef, undef, undef, undef, undef, undef, undef, undef, undef, undef, undef, undef, undef, undef, undef, undef, undef, undef, undef, undef, undef, undef, undef, undef, undef, undef, undef, undef, undef, undef, undef, undef, undef, undef, undef, undef], defers := [] } W) := HREST
    clear HREST
    have hL := hL0.on (Below.refl _ _).drew
    clear hL0
    obtain ⟨wd, hwd⟩ := hidEx w4.drew
    exact l12Any_b hn hjf fz0 fz1 fz2 hjw wz0 wz1 wz2 hc12 hf3 hXg hfew HR2 hL wd hwd
  by_cases h2 : y = 2
  · subst h2
    have hfew : D.cache.length ≤ 1000 := by omega
    go_wp2_with fail
    rename_i K1 hK1
    have HREST : ∀ (ca : Option Addr) (cc : Nat) (cs : List Value) (D2 : PDisk) (e5 : Value) (t30 t31 t32 t33 t34 t35 t36 t37 t38 t39 t40 : Value) (W : World), AL w g ao n cap f B X gs sc fa fc D2 ca cc ss cs W → K1 { tmps := #[.pointer (some ⟨g, 0, none⟩), undef, .pointer (some ⟨w.heap.size, 0, none⟩), .pointer (some ⟨X, 0, none⟩), .pointer (some ⟨g, 0, none⟩), e5, .pointer (some ⟨g, 0, none⟩), .int .i64 2, .bool false, .bool false, undef, undef, undef, undef, .bool false, .bool false, undef, undef, undef, undef, undef, undef, undef, undef, undef, undef, undef, undef, .bool true, .bool true, t30, t31, t32, t33, t34, t35, t36, t37, t38, t39, t40, undef, undef, undef, undef, undef, undef, undef, undef, undef, undef, undef, undef, undef, undef, undef, undef, undef, undef, undef, undef, undef, undef, undef, undef, undef, undef, undef, undef, undef, undef, undef, undef], defers := [] } W := by
      intro ca cc cs D2 e5 t30 t31 t32 t33 t34 t35 t36 t37 t38 t39 t40 W hL
      clear hL0
      apply hK1
      clear hK1
      have a0 : W.cell? ⟨X, 0, none⟩ = some (.slice (some ⟨gs, 0, none⟩) D2.secs.length sc) := hL.ms.x.cell 0
      have a1 : W.cell? ⟨X, 1, none⟩ = some (.slice ca D2.cache.length cc) := hL.ms.x.cell 1
      have a2 : W.cell? ⟨X, 2, none⟩ = some (.int .i64 D2.ops) := hL.ms.x.cell 2
      have a3 : W.cell? ⟨X, 3, none⟩ = some (.slice fa D2.faults.length fc) := hL.ms.x.cell 3
      have a4 : W.cell? ⟨X, 4, none⟩ = some (.bool D2.down) := hL.ms.x.cell 4
      have r0 : W.cell? ⟨w.heap.size, 0, none⟩ = some (.slice none 0 0) := hL.r.cell 0
      have z0 := hL.r.fz 0
      have r1 : W.cell? ⟨w.heap.size, 1, none⟩ = some (.slice none 0 0) := hL.r.cell 1
      have z1 := hL.r.fz 1
      have r2 : W.cell? ⟨w.heap.size, 2, none⟩ = some (.int .i64 0) := hL.r.cell 2
      have z2 := hL.r.fz 2
      have r3 : W.cell? ⟨w.heap.size, 3, none⟩ = some (.slice none 0 0) := hL.r.cell 3
      have z3 := hL.r.fz 3
      have r4 : W.cell? ⟨w.heap.size, 4, none⟩ = some (.bool false) := hL.r.cell 4
      have z4 := hL.r.fz 4
      have hr5 := ret5_vn (.slice (some ⟨gs, 0, none⟩) D2.secs.length sc) (.slice ca D2.cache.length cc) (.int .i64 D2.ops) (.slice fa D2.faults.length fc) (.bool D2.down) hL.r
      have HE : Hid _ := hL.out
      have m0 := hr5.cell 0
      have m1 := hr5.cell 1
      have m2 := hr5.cell 2
      have m3 := hr5.cell 3
      have m4 := hr5.cell 4
      simp only [List.getElem?_cons_zero, List.getElem?_cons_succ] at m0 m1 m2 m3 m4
      have HM : Hid _ := And.intro m0 (And.intro m1 (And.intro m2 (And.intro m3 m4)))
      clear hr5 m0 m1 m2 m3 m4 hL
      go_wp2
      obtain ⟨m0, m1, m2, m3, m4⟩ := HM.out
      refine bodyPost_ret (v := .agg #[.slice (some ⟨gs, 0, none⟩) D2.secs.length sc, .slice ca D2.cache.length cc, .int .i64 D2.ops, .slice fa D2.faults.length fc, .bool D2.down]) (by simp [results, Try.results81, go_sem, m0, m1, m2, m3, m4]) rfl HE.out
    clear hK1
    have HR2 : Hid (∀ (ca : Option Addr) (cc : Nat) (cs : List Value) (D2 : PDisk) (e5 : Value) (t30 t31 t32 t33 t34 t35 t36 t37 t38 t39 t40 : Value) (W : World), AL w g ao n cap f B X gs sc fa fc D2 ca cc ss cs W → K1 { tmps := #[.pointer (some ⟨g, 0, none⟩), undef, .pointer (some ⟨w.heap.size, 0, none⟩), .pointer (some ⟨X, 0, none⟩), .pointer (some ⟨g, 0, none⟩), e5, .pointer (some ⟨g, 0, none⟩), .int .i64 2, .bool false, .bool false, undef, undef, undef, undef, .bool false, .bool false, undef, undef, undef, undef, undef, undef, undef, undef, undef, undef, undef, undef, .bool true, .bool true, t30, t31, t32, t33, t34, t35, t36, t37, t38, t39, t40, undef, undef, undef, undef, undef, undef, undef, undef, undef, undef, undef, undef, undef, undef, undef, undef, undef, undef, undef, undef, undef, undef, undef, undef, undef, undef, undef, undef, undef, undef, undef, undef], defers := [] } W) := HREST
    clear HREST
    have hL := hL0.on (Below.refl _ _).drew
    clear hL0
    obtain ⟨wd, hwd⟩ := hidEx w4.drew
    exact l12Any_c hn hjf fz0 fz1 fz2 hjw wz0 wz1 wz2 hc12 hf3 hXg hfew HR2 hL wd hwd
  by_cases h3 : y = 3
  · subst h3
    have hmk := run_make_row' (P := Try.prog) 27 5 (.int .u8 0) 1 Try.underlying27 Try.info5 rfl .i64 .i64
    go_wp2_with fail
    have hL := hL0.on (Below.refl _ _).drew
    clear hL0
    have hs3 : 3 ≤ D.secs.length := hL.few.1
    have hz3 : (0 : Int) < D.secs.length := by omega
    have hz3n : 0 < D.secs.length := by omega
    obtain ⟨wd, hwd⟩ := hidEx w4.drew
    as_aux_lemma =>
      refine wp_region_held_drew (S := fun W => W.cell? ⟨X, 0, none⟩ = some (.slice (some ⟨gs, 0, none⟩) D.secs.length sc)) (by kernel_rfl) (hL.ms.x.cell 0) (fun hHeld => ?_)
      rw [hwd.out] at hL hHeld ⊢
      clear hwd
      refine' wpAnyH_take (i := 0) (v := _) rfl (by kernel_rfl) (by kernel_rfl) (by kernel_rfl) (fun _ _ _ h => h) (Or.inl ⟨by kernel_rfl, ?hfc1⟩) (by assumption) ?rfc1
      case hfc1 => intro W hW; go_simp; all_goals with_reducible rfl
      change wpAnyH _ _ _ _ _ _ _ (Act.put _ (some 43) _) _
      simp only [Act.put, List.setIfInBounds_toArray, List.set_cons_zero, List.set_cons_succ]
      refine' wpAnyH_take (i := 1) (v := _) rfl (by kernel_rfl) (by kernel_rfl) (by kernel_rfl) (fun _ _ _ h => h) (Or.inl ⟨by kernel_rfl, ?hfc2⟩) (by assumption) ?rfc2
      case hfc2 => intro W hW; go_simp; all_goals with_reducible rfl
      change wpAnyH _ _ _ _ _ _ _ (Act.put _ (some 44) _) _
      simp only [Act.put, List.setIfInBounds_toArray, List.set_cons_zero, List.set_cons_succ]
      refine' wpAnyH_take (i := 2) (v := _) rfl (by kernel_rfl) (by kernel_rfl) (by kernel_rfl) (fun _ _ _ h => h) (Or.inl ⟨by kernel_rfl, ?hfc3⟩) (by assumption) ?rfc3
      case hfc3 => intro W hW; go_simp; all_goals with_reducible rfl
      change wpAnyH _ _ _ _ _ _ _ (Act.put _ (some 45) _) _
      simp only [Act.put, List.setIfInBounds_toArray, List.set_cons_zero, List.set_cons_succ]
      refine wpAnyH_ready (rs := [3]) (by kernel_rfl) (by simp) ?_
      refine AllReadyH.cons rfl (fun KK hK => ?_) AllReadyH.nil
      go_simp
      refine (l1Below_any g ao n cap f 2 _ hn (by omega) (by omega) hL.cn.cur).mono ?_
      rintro e v5 ⟨z, rfl, hz0, hz1, hCc, hOc⟩
      obtain ⟨q, rfl⟩ := Int.eq_ofNat_of_zero_le hz0
      obtain ⟨N, hN⟩ : ∃ N : Nat, (256 : Int) + (q : Int) = (N : Int) := ⟨256 + q, by push_cast; rfl⟩
      have hNl : N ≤ 257 := by omega
      have hmk' := hmk N (by omega) (by omega)
      have hwr : IntKind.i64.wrap ((256 : Int) + (q : Int)) = (N : Int) := by rw [IntKind.wrap_i64]; omega
      have hwN : IntKind.i64.wrap (N : Int) = (N : Int) := by rw [IntKind.wrap_i64]; omega
      replace hL := hL.but hCc (But.ofOnly hOc)
      clear hCc hOc hmk hHeld
      go_wp2_with fail
      refine hK.out _ _ (hL.ms.x.cell 0) (fun hHeld => ?_)
      clear hK KK
      try simp only [Act.put, List.setIfInBounds_toArray, List.set_cons_zero, List.set_cons_succ]
      refine' wpAnyH_take (i := 4) (v := _) rfl (by kernel_rfl) (by kernel_rfl) (by kernel_rfl) (fun _ _ _ h => h) (Or.inl ⟨by kernel_rfl, ?hfc4⟩) (by assumption) ?rfc4
      case hfc4 => intro W hW; go_simp; all_goals with_reducible rfl
      change wpAnyH _ _ _ _ _ _ _ (Act.put _ (some 47) _) _
      simp only [Act.put, List.setIfInBounds_toArray, List.set_cons_zero, List.set_cons_succ]
      refine wpAnyH_ready (rs := [5]) (by kernel_rfl) (by simp) ?_
      refine AllReadyH.cons rfl (fun KK hK => ?_) AllReadyH.nil
      go_simp
      have hbA : Below v5.heap.size v5 (v5.alloc (.cells (madeCells #[.int .u8 0] N) 5)) := (Below.refl _ _).alloc (Nat.le_refl _) _
      have hob : OB (v5.alloc (.cells (madeCells #[.int .u8 0] N) 5)) B (.slice (some ⟨v5.heap.size, 0, none⟩) N N) (List.replicate N 0) := ob_zeros v5 N hL.b
      replace hL := hL.on hbA
      clear hbA hmk' hHeld
      obtain ⟨v6, hv6⟩ := hidEx (v5.alloc (.cells (madeCells #[.int .u8 0] N) 5))
      obtain ⟨Am, hAm⟩ := hidEx v5.heap.size
      rw [hv6.out, hAm.out] at hob
      rw [hv6.out] at hL ⊢
      rw [hAm.out]
      refine hK.out _ _ (hL.ms.x.cell 0) (fun hHeld => ?_)
      clear hK KK
      try simp only [Act.put, List.setIfInBounds_toArray, List.set_cons_zero, List.set_cons_succ]
      refine' wpAnyH_take (i := 6) (v := _) rfl (by kernel_rfl) (by kernel_rfl) (by kernel_rfl) (fun _ _ _ h => h) (Or.inl ⟨by kernel_rfl, ?hfc5⟩) (by assumption) ?rfc5
      case hfc5 => intro W hW; go_simp; all_goals with_reducible rfl
      change wpAnyH _ _ _ _ _ _ _ (Act.put _ (some 49) _) _
      simp only [Act.put, List.setIfInBounds_toArray, List.set_cons_zero, List.set_cons_succ]
      refine wpAnyH_ready (rs := [7]) (by kernel_rfl) (by simp) ?_
      refine AllReadyH.cons rfl (fun KK hK => ?_) AllReadyH.nil
      have hz := hL.ms.secs.cellFz (by rw [hL.ms.ns]; omega) 0
      obtain ⟨g9, e9, hg9, -, hc9⟩ := hL.ms.secs.cell (by rw [hL.ms.ns]; omega)
      cases e9
      obtain ⟨u9, hcm⟩ : ∃ u, v6.cell? ⟨gs, 0, none⟩ = some u := ⟨_, hc9 0 _ (List.getElem?_eq_getElem (by rw [hL.ms.ns]; omega))⟩
      have hL9 := hL.sec (m := 0) (by omega) hob (by simp; omega)
      clear hL hc9 hob hHeld
      go_simp
      refine hK.out _ _ (by have := hL9.ms.x.cell 0; simpa using this) (fun hHeld => ?_)
      clear hK KK
      try simp only [Act.put, List.setIfInBounds_toArray, List.set_cons_zero, List.set_cons_succ]
      refine wpAnyH_done (by kernel_rfl) ?_ _
      have hL := hL9
      clear hL9 hHeld hcm hz hwr hwN hN
      obtain ⟨D2, hD2⟩ : ∃ x, Hid (({ D with secs := D.secs.set 0 (List.replicate N 0) } : PDisk) = x) := ⟨_, rfl⟩
      rw [hD2.out] at hL
      obtain ⟨W6, hW6⟩ : ∃ x, Hid (v6.setCell ⟨gs, 0, none⟩ (.slice (some ⟨Am, 0, none⟩) N N) = x) := ⟨_, rfl⟩
      rw [hW6.out] at hL ⊢
      clear hD2 hW6
      have a0 : W6.cell? ⟨X, 0, none⟩ = some (.slice (some ⟨gs, 0, none⟩) D2.secs.length sc) := hL.ms.x.cell 0
      have a1 : W6.cell? ⟨X, 1, none⟩ = some (.slice ca D2.cache.length cc) := hL.ms.x.cell 1
      have a2 : W6.cell? ⟨X, 2, none⟩ = some (.int .i64 D2.ops) := hL.ms.x.cell 2
      have a3 : W6.cell? ⟨X, 3, none⟩ = some (.slice fa D2.faults.length fc) := hL.ms.x.cell 3
      have a4 : W6.cell? ⟨X, 4, none⟩ = some (.bool D2.down) := hL.ms.x.cell 4
      have r0 : W6.cell? ⟨w.heap.size, 0, none⟩ = some (.slice none 0 0) := hL.r.cell 0
      have z0 := hL.r.fz 0
      have r1 : W6.cell? ⟨w.heap.size, 1, none⟩ = some (.slice none 0 0) := hL.r.cell 1
      have z1 := hL.r.fz 1
      have r2 : W6.cell? ⟨w.heap.size, 2, none⟩ = some (.int .i64 0) := hL.r.cell 2
      have z2 := hL.r.fz 2
      have r3 : W6.cell? ⟨w.heap.size, 3, none⟩ = some (.slice none 0 0) := hL.r.cell 3
      have z3 := hL.r.fz 3
      have r4 : W6.cell? ⟨w.heap.size, 4, none⟩ = some (.bool false) := hL.r.cell 4
      have z4 := hL.r.fz 4
      have hr5 := ret5_vn (.slice (some ⟨gs, 0, none⟩) D2.secs.length sc) (.slice ca D2.cache.length cc) (.int .i64 D2.ops) (.slice fa D2.faults.length fc) (.bool D2.down) hL.r
      have HE : Hid _ := hL.out
      have m0 := hr5.cell 0
      have m1 := hr5.cell 1
      have m2 := hr5.cell 2
      have m3 := hr5.cell 3
      have m4 := hr5.cell 4
      simp only [List.getElem?_cons_zero, List.getElem?_cons_succ] at m0 m1 m2 m3 m4
      have HM : Hid _ := And.intro m0 (And.intro m1 (And.intro m2 (And.intro m3 m4)))
      clear hr5 m0 m1 m2 m3 m4 hL
      go_wp2
      obtain ⟨m0, m1, m2, m3, m4⟩ := HM.out
      refine bodyPost_ret (v := .agg #[.slice (some ⟨gs, 0, none⟩) D2.secs.length sc, .slice ca D2.cache.length cc, .int .i64 D2.ops, .slice fa D2.faults.length fc, .bool D2.down]) (by simp [results, Try.results81, go_sem, m0, m1, m2, m3, m4]) rfl HE.out
  by_cases h4 : y = 4
  · subst h4
    have c0 : w4.cell? ⟨X, 0, none⟩ = some (.slice (some ⟨gs, 0, none⟩) D.secs.length sc) := hL0.ms.x.cell 0
    have q0 := hL0.ms.x.fz 0
    have hs3 : 3 ≤ D.secs.length := hL0.few.1
    have hsc : D.secs.length ≤ sc := hL0.ml.s
    have hz3 : (3 : Int) ≤ (sc : Int) := by omega
    have hL := hL0.cut
    obtain ⟨W6, hW6⟩ : ∃ x, Hid (w4.setCell ⟨X, 0, none⟩ (.slice (some ⟨gs, 0, none⟩) 3 sc) = x) := ⟨_, rfl⟩
    rw [hW6.out] at hL
    obtain ⟨D2, hD2⟩ : ∃ x, Hid (({ D with secs := D.secs.take 3 } : PDisk) = x) := ⟨_, rfl⟩
    rw [hD2.out] at hL
    clear hL0 hD2
    have a0 : W6.cell? ⟨X, 0, none⟩ = some (.slice (some ⟨gs, 0, none⟩) D2.secs.length sc) := hL.ms.x.cell 0
    have a1 : W6.cell? ⟨X, 1, none⟩ = some (.slice ca D2.cache.length cc) := hL.ms.x.cell 1
    have a2 : W6.cell? ⟨X, 2, none⟩ = some (.int .i64 D2.ops) := hL.ms.x.cell 2
    have a3 : W6.cell? ⟨X, 3, none⟩ = some (.slice fa D2.faults.length fc) := hL.ms.x.cell 3
    have a4 : W6.cell? ⟨X, 4, none⟩ = some (.bool D2.down) := hL.ms.x.cell 4
    have r0 : W6.cell? ⟨w.heap.size, 0, none⟩ = some (.slice none 0 0) := hL.r.cell 0
    have z0 := hL.r.fz 0
    have r1 : W6.cell? ⟨w.heap.size, 1, none⟩ = some (.slice none 0 0) := hL.r.cell 1
    have z1 := hL.r.fz 1
    have r2 : W6.cell? ⟨w.heap.size, 2, none⟩ = some (.int .i64 0) := hL.r.cell 2
    have z2 := hL.r.fz 2
    have r3 : W6.cell? ⟨w.heap.size, 3, none⟩ = some (.slice none 0 0) := hL.r.cell 3
    have z3 := hL.r.fz 3
    have r4 : W6.cell? ⟨w.heap.size, 4, none⟩ = some (.bool false) := hL.r.cell 4
    have z4 := hL.r.fz 4
    have hr5 := ret5_vn (.slice (some ⟨gs, 0, none⟩) D2.secs.length sc) (.slice ca D2.cache.length cc) (.int .i64 D2.ops) (.slice fa D2.faults.length fc) (.bool D2.down) hL.r
    have HE : Hid _ := hL.out
    have m0 := hr5.cell 0
    have m1 := hr5.cell 1
    have m2 := hr5.cell 2
    have m3 := hr5.cell 3
    have m4 := hr5.cell 4
    simp only [List.getElem?_cons_zero, List.getElem?_cons_succ] at m0 m1 m2 m3 m4
    have HM : Hid _ := And.intro m0 (And.intro m1 (And.intro m2 (And.intro m3 m4)))
    clear hr5 m0 m1 m2 m3 m4 hL
    go_wp2_with (rw [hW6.out])
    obtain ⟨m0, m1, m2, m3, m4⟩ := HM.out
    refine bodyPost_ret (v := .agg #[.slice (some ⟨gs, 0, none⟩) D2.secs.length sc, .slice ca D2.cache.length cc, .int .i64 D2.ops, .slice fa D2.faults.length fc, .bool D2.down]) (by simp [results, Try.results81, go_sem, m0, m1, m2, m3, m4]) rfl HE.out
  by_cases h5 : y = 5
  · subst h5
    have hc60 : D.cache.length ≤ 60 := by omega
    have HL0 : Hid (AL w g ao n cap f B X gs sc fa fc D ca cc ss cs w4) := hL0
    clear hL0
    go_wp2
    go_loopg [] (60 - D.cache.length) (fun q wr => ∃ (E : PDisk) (ca : Option Addr) (cc : Nat) (cs : List Value), q = 60 - E.cache.length ∧ E.cache.length ≤ 60 ∧ AL w g ao n cap f B X gs sc fa fc E ca cc ss cs wr)
    case atStart => exact ⟨D, ca, cc, cs, rfl, hc60, HL0.out⟩
    case round =>
      clear HL0 hc60 hc12
      obtain ⟨E, ca, cc, cs, hq, hc60, hL⟩ := hrel
      go_wp2_with fail
      replace hL := hL.on (Below.refl _ _).drew
      as_aux_lemma =>
        refine wp_region_held_drew (S := fun W => W.cell? ⟨X, 1, none⟩ = some (.slice ca E.cache.length cc)) (by kernel_rfl) (hL.ms.x.cell 1) (fun hHeld => ?_)
        obtain ⟨wd, hwd⟩ := hidEx wr.drew
        rw [hwd.out] at hL hHeld ⊢
        clear hwd
        refine' wpAnyH_take (i := 0) (v := _) rfl (by kernel_rfl) (by kernel_rfl) (by kernel_rfl) (fun _ _ _ h => h) (Or.inl ⟨by kernel_rfl, ?hff1⟩) (by assumption) ?rff1
        case hff1 => intro W hW; go_simp; all_goals with_reducible rfl
        change wpAnyH _ _ _ _ _ _ _ (Act.put _ (some 58) _) _
        simp only [Act.put, List.setIfInBounds_toArray, List.set_cons_zero, List.set_cons_succ]
        refine' wpAnyH_take (i := 1) (v := _) rfl (by kernel_rfl) (by kernel_rfl) (by kernel_rfl) (fun _ _ _ h => h) (Or.inl ⟨by kernel_rfl, ?hff2⟩) (by assumption) ?rff2
        case hff2 => intro W hW; go_simp; all_goals with_reducible rfl
        change wpAnyH _ _ _ _ _ _ _ (Act.put _ (some 59) _) _
        simp only [Act.put, List.setIfInBounds_toArray, List.set_cons_zero, List.set_cons_succ]
        refine' wpAnyH_take (i := 2) (v := _) rfl (by kernel_rfl) (by kernel_rfl) (by kernel_rfl) (fun _ _ _ h => h) (Or.inl ⟨by kernel_rfl, ?hff3⟩) (by assumption) ?rff3
        case hff3 => intro W hW; go_simp; all_goals with_reducible rfl
        change wpAnyH _ _ _ _ _ _ _ (Act.put _ (some 60) _) _
        simp only [Act.put, List.setIfInBounds_toArray, List.set_cons_zero, List.set_cons_succ]
        refine' wpAnyH_take (i := 3) (v := _) rfl (by kernel_rfl) (by kernel_rfl) (by kernel_rfl) (fun _ _ _ h => h) (Or.inl ⟨by kernel_rfl, ?hff4⟩) (by assumption) ?rff4
        case hff4 => intro W hW; go_simp; all_goals with_reducible rfl
        change wpAnyH _ _ _ _ _ _ _ (Act.put _ (some 61) _) _
        simp only [Act.put, List.setIfInBounds_toArray, List.set_cons_zero, List.set_cons_succ]
        refine wpAnyH_ready (rs := [4]) (by kernel_rfl) (by simp) ?_
        refine AllReadyH.cons rfl (fun KK hK => ?_) AllReadyH.nil
        go_simp
        refine (l1Below_any g ao n cap f 2 _ hn (by omega) (by omega) hL.cn.cur).mono ?_
        rintro e wq ⟨z, rfl, hz0, hz1, hCc, hOc⟩
        have hwz : IntKind.i64.wrap (59 + z) = 59 + z := by rw [IntKind.wrap_i64]; omega
        replace hL := hL.but hCc (But.ofOnly hOc)
        clear hCc hOc hHeld
        go_wp2_with fail
        refine hK.out _ _ (hL.ms.x.cell 1) (fun hHeld => ?_)
        clear hK KK
        try simp only [Act.put, List.setIfInBounds_toArray, List.set_cons_zero, List.set_cons_succ]
        refine' wpAnyH_take (i := 5) (v := _) rfl (by kernel_rfl) (by kernel_rfl) (by kernel_rfl) (fun _ _ _ h => h) (Or.inl ⟨by kernel_rfl, ?hff5⟩) (by assumption) ?rff5
        case hff5 => intro W hW; go_simp; all_goals with_reducible rfl
        change wpAnyH _ _ _ _ _ _ _ (Act.put _ (some 63) _) _
        simp only [Act.put, List.setIfInBounds_toArray, List.set_cons_zero, List.set_cons_succ]
        refine' wpAnyH_take (i := 6) (v := _) rfl (by kernel_rfl) (by kernel_rfl) (by kernel_rfl) (fun _ _ _ h => h) (Or.inl ⟨by kernel_rfl, ?hff6⟩) (by assumption) ?rff6
        case hff6 => intro W hW; go_simp; all_goals with_reducible rfl
        change wpAnyH _ _ _ _ _ _ _ (Act.put _ (some 64) _) _
        simp only [Act.put, List.setIfInBounds_toArray, List.set_cons_zero, List.set_cons_succ]
        refine wpAnyH_done (by kernel_rfl) ?_ _
        clear hHeld
        by_cases hlt : (E.cache.length : Int) < 59 + z
        · have hW1b : Below wq.heap.size wq (wq.alloc (.cells #[.int .u8 1] 5)) := (Below.refl _ _).alloc (Nat.le_refl _) _
          have hob := ob_one wq hL.b
          have hL1 := hL.on hW1b
          obtain ⟨W1, hW1⟩ : ∃ x, Hid ((wq.alloc (.cells #[.int .u8 1] 5)) = x) := ⟨_, rfl⟩
          rw [hW1.out] at hob hL1
          have hsz1 : wq.heap.size + 1 = W1.heap.size := by rw [← hW1.out]; simp
          have hW2b : Below W1.heap.size W1 (W1.alloc (.cells #[.int .i64 1, .slice (some ⟨wq.heap.size, 0, none⟩) 1 1] 51)) := (Below.refl _ _).alloc (Nat.le_refl _) _
          have hcl := cells2New W1 (.int .i64 1) (.slice (some ⟨wq.heap.size, 0, none⟩) 1 1) 51
          replace hob := hob.up (Up.ofBelow hW2b)
          have hL2 := hL1.on hW2b
          obtain ⟨W2, hW2⟩ : ∃ x, Hid (W1.alloc (.cells #[.int .i64 1, .slice (some ⟨wq.heap.size, 0, none⟩) 1 1] 51) = x) := ⟨_, rfl⟩
          rw [hW2.out] at hob hL2 hcl
          have x1 : wq.cell? ⟨X, 1, none⟩ = some (.slice ca E.cache.length cc) := hL.ms.x.cell 1
          have hXq := hL.ms.x.lt
          clear hL hL1 hW1b hW2b hsz1
          go_wp2_with (first | rw [hW1.out] | rw [hW2.out] | (at_builtin; go_must (refine wpList_append_own _ rfl (.tmp 66) (.tmp 69) 29 rfl B 51 jw (.agg #[.int .i64 0, .slice none 0 0]) 2 32 Try.underlying29 hjw wz0 wz1 wz2 rfl (by decide) _ _ _ rfl hL2.ms.own ⟨W1.heap.size, 0, none⟩ 1 1 [.int .i64 1, .slice (some ⟨wq.heap.size, 0, none⟩) 1 1] rfl rfl hcl (by intro u hu; simp at hu; rcases hu with rfl | rfl <;> rfl) (by unfold maxLen; omega) (by omega) hL2.b ?_)))
          intro v7 w7 hO7 hg7 _
          have hKa := keep_grown hL2.ms.own hg7
          have hge : ∀ k, Value.ownBlock (.slice ca E.cache.length cc) = some k → B ≤ k := fun k e => own_geK hL2.ms.own k e
          obtain ⟨fb, fd, rfl⟩ := own_succK hO7
          obtain ⟨_, _, ee, hfd, -, -⟩ := own_rl hO7
          cases ee
          have hXa := hL2.ms.x.block (hKa _ _ _ _ hL2.ms.x (by decide))
          have xa := hXa.cell 1
          have za := hXa.fz 1
          simp only [List.getElem?_cons_zero, List.getElem?_cons_succ] at xa
          have hL9 := hL2.push hg7 hge hKa hob (by simp) (by omega) hfd (fun e => by cases e) hO7
          obtain ⟨E2, hE2⟩ : ∃ x, Hid (({ E with cache := E.cache ++ [(1, [1])] } : PDisk) = x) := ⟨_, rfl⟩
          have HE2 : Hid (E2.cache.length = E.cache.length + 1) := by show _ = _; rw [← hE2.out]; simp
          rw [hE2.out] at hL9
          have HL9 : Hid _ := hL9
          clear hXa hL9 hL2 hge hKa hg7 hO7 hE2 hob hcl hW1 hW2 x1
          go_wp2
          go_roundg (60 - (E.cache.length + 1))
          case measure => omega
          case rel => exact ⟨E2, _, _, _, by rw [HE2.out], by rw [HE2.out]; omega, HL9.out⟩
        · have hL9 := hL
          clear hL
          obtain ⟨Wz, hWz⟩ : ∃ x, Hid (wq = x) := ⟨_, rfl⟩
          rw [hWz.out] at hL9 ⊢
          have hL := hL9
          clear hL9 hWz
          have a0 : Wz.cell? ⟨X, 0, none⟩ = some (.slice (some ⟨gs, 0, none⟩) E.secs.length sc) := hL.ms.x.cell 0
          have a1 : Wz.cell? ⟨X, 1, none⟩ = some (.slice ca E.cache.length cc) := hL.ms.x.cell 1
          have a2 : Wz.cell? ⟨X, 2, none⟩ = some (.int .i64 E.ops) := hL.ms.x.cell 2
          have a3 : Wz.cell? ⟨X, 3, none⟩ = some (.slice fa E.faults.length fc) := hL.ms.x.cell 3
          have a4 : Wz.cell? ⟨X, 4, none⟩ = some (.bool E.down) := hL.ms.x.cell 4
          have r0 : Wz.cell? ⟨w.heap.size, 0, none⟩ = some (.slice none 0 0) := hL.r.cell 0
          have z0 := hL.r.fz 0
          have r1 : Wz.cell? ⟨w.heap.size, 1, none⟩ = some (.slice none 0 0) := hL.r.cell 1
          have z1 := hL.r.fz 1
          have r2 : Wz.cell? ⟨w.heap.size, 2, none⟩ = some (.int .i64 0) := hL.r.cell 2
          have z2 := hL.r.fz 2
          have r3 : Wz.cell? ⟨w.heap.size, 3, none⟩ = some (.slice none 0 0) := hL.r.cell 3
          have z3 := hL.r.fz 3
          have r4 : Wz.cell? ⟨w.heap.size, 4, none⟩ = some (.bool false) := hL.r.cell 4
          have z4 := hL.r.fz 4
          have hr5 := ret5_vn (.slice (some ⟨gs, 0, none⟩) E.secs.length sc) (.slice ca E.cache.length cc) (.int .i64 E.ops) (.slice fa E.faults.length fc) (.bool E.down) hL.r
          have HE : Hid _ := hL.out
          have m0 := hr5.cell 0
          have m1 := hr5.cell 1
          have m2 := hr5.cell 2
          have m3 := hr5.cell 3
          have m4 := hr5.cell 4
          simp only [List.getElem?_cons_zero, List.getElem?_cons_succ] at m0 m1 m2 m3 m4
          have HM : Hid _ := And.intro m0 (And.intro m1 (And.intro m2 (And.intro m3 m4)))
          clear hr5 m0 m1 m2 m3 m4 hL
          go_wp2
          obtain ⟨m0, m1, m2, m3, m4⟩ := HM.out
          refine bodyPost_ret (v := .agg #[.slice (some ⟨gs, 0, none⟩) E.secs.length sc, .slice ca E.cache.length cc, .int .i64 E.ops, .slice fa E.faults.length fc, .bool E.down]) (by simp [results, Try.results81, go_sem, m0, m1, m2, m3, m4]) rfl HE.out
  have hL := hL0
  clear hL0
  have e0 : (y == 0) = false := beq_eq_false_iff_ne.2 h0
  have e1 : (y == 1) = false := beq_eq_false_iff_ne.2 h1
  have e2 : (y == 2) = false := beq_eq_false_iff_ne.2 h2
  have e3 : (y == 3) = false := beq_eq_false_iff_ne.2 h3
  have e4 : (y == 4) = false := beq_eq_false_iff_ne.2 h4
  have e5 : (y == 5) = false := beq_eq_false_iff_ne.2 h5
  have a0 : w4.cell? ⟨X, 0, none⟩ = some (.slice (some ⟨gs, 0, none⟩) D.secs.length sc) := hL.ms.x.cell 0
  have a1 : w4.cell? ⟨X, 1, none⟩ = some (.slice ca D.cache.length cc) := hL.ms.x.cell 1
  have a2 : w4.cell? ⟨X, 2, none⟩ = some (.int .i64 D.ops) := hL.ms.x.cell 2
  have a3 : w4.cell? ⟨X, 3, none⟩ = some (.slice fa D.faults.length fc) := hL.ms.x.cell 3
  have a4 : w4.cell? ⟨X, 4, none⟩ = some (.bool D.down) := hL.ms.x.cell 4
  have r0 : w4.cell? ⟨w.heap.size, 0, none⟩ = some (.slice none 0 0) := hL.r.cell 0
  have z0 := hL.r.fz 0
  have r1 : w4.cell? ⟨w.heap.size, 1, none⟩ = some (.slice none 0 0) := hL.r.cell 1
  have z1 := hL.r.fz 1
  have r2 : w4.cell? ⟨w.heap.size, 2, none⟩ = some (.int .i64 0) := hL.r.cell 2
  have z2 := hL.r.fz 2
  have r3 : w4.cell? ⟨w.heap.size, 3, none⟩ = some (.slice none 0 0) := hL.r.cell 3
  have z3 := hL.r.fz 3
  have r4 : w4.cell? ⟨w.heap.size, 4, none⟩ = some (.bool false) := hL.r.cell 4
  have z4 := hL.r.fz 4
  have hr5 := ret5_vn (.slice (some ⟨gs, 0, none⟩) D.secs.length sc) (.slice ca D.cache.length cc) (.int .i64 D.ops) (.slice fa D.faults.length fc) (.bool D.down) hL.r
  have HE : Hid _ := hL.out
  have m0 := hr5.cell 0
  have m1 := hr5.cell 1
  have m2 := hr5.cell 2
  have m3 := hr5.cell 3
  have m4 := hr5.cell 4
  simp only [List.getElem?_cons_zero, List.getElem?_cons_succ] at m0 m1 m2 m3 m4
  have HM : Hid _ := And.intro m0 (And.intro m1 (And.intro m2 (And.intro m3 m4)))
  clear hr5 m0 m1 m2 m3 m4 hL
  go_wp2
  obtain ⟨m0, m1, m2, m3, m4⟩ := HM.out
  refine bodyPost_ret (v := .agg #[.slice (some ⟨gs, 0, none⟩) D.secs.length sc, .slice ca D.cache.length cc, .int .i64 D.ops, .slice fa D.faults.length fc, .bool D.down]) (by simp [results, Try.results81, go_sem, m0, m1, m2, m3, m4]) rfl HE.out
end Go.Proofs.Ytdhfbblameiloaa

/-
  What DrawDiskOk, DrawTurnOn and DrawReadSec draw.
-/
namespace Go.Proofs.Ytdhfbblameiloaa
open Go.RowKit
set_option maxRecDepth 4000

/-- A disk that was drawn reads. -/
theorem AD.kview {w : World} {g : Nat} {ao : Option Addr} {n cap : Nat} {f : Nat → Int} {e : Ending} {W : World} (h : AD w g ao n cap f e W) : ∃ (dv : Value) (D : PDisk), e = .returned dv ∧ KView W dv D ∧ KFine D ∧ (3 ≤ D.secs.length ∧ D.secs.length ≤ 48) ∧ CN w g ao n cap f W := by
  obtain ⟨D, B, X, gs, sc, ca, cc, fa, fc, ss, cs, rfl, hM, hl, hok, hf, hc, -, -⟩ := h
  exact ⟨_, D, rfl, hM.kview hl (by omega), hok, hf, hc⟩
/-- A disk comes out of a function that draws nothing else. -/
def DrawsD (fn : Nat) (a : Option Addr) (n cap : Nat) (w : World) : Prop :=
  Calls Try.prog fn #[.slice a n cap] w fun e w' => ∃ (dv : Value) (D : PDisk), e = .returned dv ∧ KView w' dv D ∧ KFine D ∧ (3 ≤ D.secs.length ∧ D.secs.length ≤ 48) ∧ Below w.heap.size w w'

end Go.Proofs.Ytdhfbblameiloaa

