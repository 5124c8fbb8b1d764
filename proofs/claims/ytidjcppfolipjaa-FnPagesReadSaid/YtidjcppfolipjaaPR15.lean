/-
  Together: DrawPageAtAny, IterKit, IterOwn, BackI, ReadSecS
-/
import Derived.Test.YtidjcppfolipjaaPR14
import Derived.Test.YtidjcppfolipjaaPR11
import Derived.Deep.RegionHeld3
import Derived.Test.YtidjcppfolipjaaPR1
import Derived.RangeFuncNested
import Derived.RangeFuncBound
import Derived.RangeFuncCalls
import Derived.RangeFuncLeaves
import Derived.OwnWalkIn
import Derived.TacticsInMore
import Derived.LoopNIn
import Derived.LoopIn
import Derived.Shelf.RegionOpen
import Derived.Test.YtidjcppfolipjaaPR2
import Derived.Test.YtidjcppfolipjaaPR5
import Derived.Test.YtidjcppfolipjaaPR4
/-
  What DrawPageAt draws.
-/
namespace Go.Proofs.Ytidjcppfolipjaa
open Go.RowKit
set_option maxRecDepth 4000

theorem MS.asSecs {w : World} {B X gs sc : Nat} {ca : Option Addr} {cc : Nat} {fa : Option Addr} {fc : Nat} {ss cs : List Value} {D : PDisk} {S : List (List Int)} (h : MS w B X gs sc ca cc fa fc ss cs D S) : MS w B X gs sc ca cc fa fc ss cs { D with secs := S } S := by
  have e := h.len
  exact ⟨by have := h.x; rw [← e] at this; exact this, h.secs, h.ns.trans e.symm, rfl, h.ob, h.own, h.nc, h.cb, h.faults⟩
theorem Up.five {B R : Nat} {w : World} (v0 v1 v2 v3 v4 : Value) (h : R < B) : Up B w (((((w.setCell ⟨R, 0, none⟩ v0).setCell ⟨R, 1, none⟩ v1).setCell ⟨R, 2, none⟩ v2).setCell ⟨R, 3, none⟩ v3).setCell ⟨R, 4, none⟩ v4) :=
  ((((Up.set h).trans (Up.set h)).trans (Up.set h)).trans (Up.set h)).trans (Up.set h)
theorem PA.on {w : World} {g : Nat} {ao : Option Addr} {n cap : Nat} {f : Nat → Int} {B X gs sc : Nat} {fa : Option Addr} {fc : Nat} {D : PDisk} {ca : Option Addr} {cc : Nat} {ss cs : List Value} {W W' : World} (h : PA w g ao n cap f B X gs sc fa fc D ca cc ss cs W) (hb : Below W.heap.size W W') : PA w g ao n cap f B X gs sc fa fc D ca cc ss cs W' :=
  h.but (h.cur.below hb) ⟨hb.os, hb.tape, hb.output, hb.size, fun k hk _ => hb.block k hk⟩
/-- A sector is written. -/
theorem PA.put {w : World} {g : Nat} {ao : Option Addr} {n cap : Nat} {f : Nat → Int} {B X gs sc : Nat} {fa : Option Addr} {fc : Nat} {D : PDisk} {ca : Option Addr} {cc : Nat} {ss cs : List Value} {W : World} (h : PA w g ao n cap f B X gs sc fa fc D ca cc ss cs W) {m : Nat} (hm : m < D.secs.length) {v : Value} {l : List Int} (hv : OB W B v l) (hl : l.length ≤ 1048576) :
    PA w g ao n cap f B X gs sc fa fc { D with secs := D.secs.set m l } ca cc (ss.set m v) cs (W.setCell ⟨gs, m, none⟩ v) := by
  have hlen : (D.secs.set m l).length = D.secs.length := by simp
  obtain ⟨gs', e, hgB, -, -⟩ := h.ms.secs.cell (by rw [h.ms.ns]; omega)
  cases e
  have h1 := h.gB
  have h2 := h.rg
  have h3 := h.x
  refine ⟨(h.ms.put hm hv).asSecs, ⟨by rw [show ({ D with secs := D.secs.set m l } : PDisk).secs.length = D.secs.length from hlen]; exact h.ml.s, h.ml.c, h.ml.cn, h.ml.f, h.ml.fn⟩, ⟨by show (D.secs.set m l).length ≤ _; rw [hlen]; exact h.ok.ns, fun x hx => ?_, h.ok.nc, h.ok.cache, h.ok.nf⟩, by show 4 ≤ (D.secs.set m l).length ∧ _; rw [hlen]; exact h.few, h.r.other (by omega), ?_, h.below.setCell (p := ⟨gs, m, none⟩) (by show _ ≤ gs; omega) _, h.rg, h.gB, h.code, by have := h.b; simpa using this, h.x⟩
  · rcases List.mem_or_eq_of_mem_set hx with hx | hx
    · exact h.ok.sec x hx
    · rw [hx]; exact hl
  · obtain ⟨j, k, hr, h0, hi⟩ := h.cur.cells
    refine ⟨⟨j, k, hr.of_block (Below.heap_setCell _ _ _ _ (show g ≠ gs by omega)), h0, hi⟩, ⟨h.cur.view.le, h.cur.view.byte, fun hn => ?_⟩, h.cur.apart⟩
    obtain ⟨b', off, e, hlt, hcc⟩ := h.cur.view.cells hn
    refine ⟨b', off, e, by simpa using hlt, fun j hj => ?_⟩
    have := h.code _ e hn
    rw [World.cell?_of_block (w := W) (Below.heap_setCell _ _ _ _ (show b' ≠ gs by simp at this; omega))]
    exact hcc j hj
set_option maxHeartbeats 4000000 in
theorem drawPageAt_any (ao : Option Addr) (n cap : Nat) (f : Nat → Int) (w : World) (hn : n ≤ 1048576) (hv : View w ao n cap f) :
    Calls Try.prog 41 #[.slice ao n cap] w fun e w' => ∃ (dv : Value) (D : PDisk) (z k : Int), e = .returned (.tuple #[dv, .int .i64 z, .int .i64 k]) ∧ KView w' dv D ∧ KFine D ∧ (-1 ≤ z ∧ z ≤ 48) ∧ (1 ≤ k ∧ k ≤ 2) ∧ Below w.heap.size w w' := by
  have hbA : Below w.heap.size w (w.alloc (.cells #[.slice none 0 0, .slice none 0 0, .int .i64 0, .slice none 0 0, .bool false] 32)) := (Below.refl _ _).alloc (Nat.le_refl _) _
  have hV := VN.new w 32 [.slice none 0 0, .slice none 0 0, .int .i64 0, .slice none 0 0, .bool false]
  have hsz : (w.alloc (.cells #[.slice none 0 0, .slice none 0 0, .int .i64 0, .slice none 0 0, .bool false] 32)).heap.size = w.heap.size + 1 := by simp
  have hvA := hv.below hbA
  have HSZ : Hid ((w.alloc (.cells #[.slice none 0 0, .slice none 0 0, .int .i64 0, .slice none 0 0, .bool false] 32)).heap.size = w.heap.size + 1) := hsz
  clear hsz
  have HC : Hid (∀ a, ao = some a → 0 < n → a.block < w.heap.size) := by
    rintro a rfl h0
    obtain ⟨b, off, e, hlt, -⟩ := hv.cells h0
    cases e
    exact hlt
  go_enter Try.func41, Try.ntmps41
  go_wp2_with fail
  obtain ⟨WA, hWA⟩ : ∃ x, Hid (w.alloc (.cells #[.slice none 0 0, .slice none 0 0, .int .i64 0, .slice none 0 0, .bool false] 32) = x) := ⟨_, rfl⟩
  rw [hWA.out] at hbA hV HSZ hvA ⊢
  refine (l1New_any ao n cap f WA hn hvA).mono ?_
  rintro e w1 ⟨rfl, hC1, hb1⟩
  obtain ⟨g, hg⟩ := hidEx WA.heap.size
  rw [hg.out] at hC1 HSZ ⊢
  have hgs : w.heap.size < g := by have := HSZ.out; omega
  have hV1 := hV.below hb1
  have hbw1 := hbA.trans (hb1.mono hbA.size)
  have hgl := hC1.lt
  clear hvA hV hbA hb1 hWA hv hg HSZ
  go_wp2_with fail
  refine (l12Draw_any g ao n cap f w1 hn hC1).mono ?_
  rintro e w2 ⟨D, B, X0, gs, sc, ca, cc, fa, fc, ss, cs, rfl, hM, hl, hok, hc12, hR, hB, hX0⟩
  unfold dval
  have hbX : Below w2.heap.size w2 (w2.alloc (.cells #[.slice (some ⟨gs, 0, none⟩) D.secs.length sc, .slice ca D.cache.length cc, .int .i64 D.ops, .slice fa D.faults.length fc, .bool D.down] 32)) := (Below.refl _ _).alloc (Nat.le_refl _) _
  have hX := VN.new w2 32 [.slice (some ⟨gs, 0, none⟩) D.secs.length sc, .slice ca D.cache.length cc, .int .i64 D.ops, .slice fa D.faults.length fc, .bool D.down]
  have hM2 := hM.on hbX
  have hxl := hM.x.lt
  have hBw2 : B ≤ w2.heap.size := by omega
  have hfewD : 4 ≤ D.secs.length ∧ D.secs.length ≤ 48 := ⟨hok.1.1, hok.1.2.1⟩
  have hP0 : PA w g ao n cap f B w2.heap.size gs sc fa fc D ca cc ss cs (w2.alloc (.cells #[.slice (some ⟨gs, 0, none⟩) D.secs.length sc, .slice ca D.cache.length cc, .int .i64 D.ops, .slice fa D.faults.length fc, .bool D.down] 32)) :=
    ⟨⟨hX, hM2.secs, hM2.ns, hM2.len, hM2.ob, hM2.own, hM2.nc, hM2.cb, hM2.faults⟩, hl, hok.fine, hfewD, (hV1.block (hR.but.block _ hV1.lt (by omega))).below hbX, hR.cur.below hbX, (hbw1.trans ⟨hR.but.os, hR.but.tape, hR.but.output, hR.but.size, fun k hk => hR.but.block k (by omega) (by omega)⟩).trans (hbX.mono (Nat.le_trans hbw1.size hR.but.size)), by omega, by omega, HC.out, Nat.le_trans hBw2 hbX.size, hBw2⟩
  clear hX hM2 hM hV1 hR hbX hok hC1 hbw1 hl HC
  obtain ⟨X, hXe⟩ := hidEx w2.heap.size
  obtain ⟨W3, hW3⟩ : ∃ z, Hid (w2.alloc (.cells #[.slice (some ⟨gs, 0, none⟩) D.secs.length sc, .slice ca D.cache.length cc, .int .i64 D.ops, .slice fa D.faults.length fc, .bool D.down] 32) = z) := ⟨_, rfl⟩
  rw [hXe.out, hW3.out] at hP0
  have x0 : W3.cell? ⟨X, 0, none⟩ = some (.slice (some ⟨gs, 0, none⟩) D.secs.length sc) := hP0.ms.x.cell 0
  obtain ⟨hf4, hf48⟩ := hfewD
  clear hc12 hB hX0 hxl hBw2
  have x0' : (w2.alloc (.cells #[.slice (some ⟨gs, 0, none⟩) D.secs.length sc, .slice ca D.cache.length cc, .int .i64 D.ops, .slice fa D.faults.length fc, .bool D.down] 32)).cell? ⟨w2.heap.size, 0, none⟩ = some (.slice (some ⟨gs, 0, none⟩) D.secs.length sc) := by rw [hXe.out, hW3.out]; exact x0
  go_wp2_with fail
  rw [hXe.out, hW3.out]
  refine (l1Below_any g ao n cap f (D.secs.length : Nat) W3 hn (by omega) (by omega) hP0.cur).mono ?_
  rintro e w4 ⟨u, rfl, hu0, hu1, hC4, hO4⟩
  obtain ⟨m, rfl⟩ := Int.eq_ofNat_of_zero_le hu0
  replace hP0 := hP0.but hC4 (But.ofOnly hO4)
  clear x0 x0' hXe hW3 hC4 hO4
  have x0 : w4.cell? ⟨X, 0, none⟩ = some (.slice (some ⟨gs, 0, none⟩) D.secs.length sc) := hP0.ms.x.cell 0
  go_wp2_with fail
  have hwb : ∀ x : Int, 0 ≤ x → x < 2 → IntKind.i64.wrap (1 + x) = 1 + x := fun x h1 h2 => by rw [IntKind.wrap_i64]; omega
  have HP4 : Hid (PA w g ao n cap f B X gs sc fa fc D ca cc ss cs w4) := hP0
  have hgB := hP0.gB
  clear hP0 x0
  refine wp_region_held_drew (S := fun W => W.cell? ⟨X, 0, none⟩ = some (.slice (some ⟨gs, 0, none⟩) D.secs.length sc)) (by kernel_rfl) (HP4.out.drew.ms.x.cell 0) (fun hHeld => ?_)
  have hP := HP4.out.drew
  clear HP4
  refine' wpAnyH_take (i := 0) (v := _) rfl (by kernel_rfl) (by kernel_rfl) (by kernel_rfl) (fun _ _ _ h => h) (Or.inl ⟨by kernel_rfl, ?hda1⟩) (by assumption) ?rda1
  case hda1 => intro W hW; go_simp; all_goals with_reducible rfl
  change wpAnyH _ _ _ _ _ _ _ (Act.put _ (some 17) _) _
  simp only [Act.put, List.setIfInBounds_toArray, List.set_cons_zero, List.set_cons_succ]
  refine' wpAnyH_take (i := 1) (v := _) rfl (by kernel_rfl) (by kernel_rfl) (by kernel_rfl) (fun _ _ _ h => h) (Or.inl ⟨by kernel_rfl, ?hda2⟩) (by assumption) ?rda2
  case hda2 => intro W hW; go_simp; all_goals with_reducible rfl
  change wpAnyH _ _ _ _ _ _ _ (Act.put _ (some 18) _) _
  simp only [Act.put, List.setIfInBounds_toArray, List.set_cons_zero, List.set_cons_succ]
  refine' wpAnyH_take (i := 2) (v := _) rfl (by kernel_rfl) (by kernel_rfl) (by kernel_rfl) (fun _ _ _ h => h) (Or.inl ⟨by kernel_rfl, ?hda3⟩) (by assumption) ?rda3
  case hda3 => intro W hW; go_simp; all_goals with_reducible rfl
  change wpAnyH _ _ _ _ _ _ _ (Act.put _ (some 19) _) _
  simp only [Act.put, List.setIfInBounds_toArray, List.set_cons_zero, List.set_cons_succ]
  refine' wpAnyH_take (i := 3) (v := _) rfl (by kernel_rfl) (by kernel_rfl) (by kernel_rfl) (fun _ _ _ h => h) (Or.inl ⟨by kernel_rfl, ?hda4⟩) (by assumption) ?rda4
  case hda4 => intro W hW; go_simp; all_goals with_reducible rfl
  change wpAnyH _ _ _ _ _ _ _ (Act.put _ (some 20) _) _
  simp only [Act.put, List.setIfInBounds_toArray, List.set_cons_zero, List.set_cons_succ]
  refine' wpAnyH_take (i := 4) (v := _) rfl (by kernel_rfl) (by kernel_rfl) (by kernel_rfl) (fun _ _ _ h => h) (Or.inl ⟨by kernel_rfl, ?hda5⟩) (by assumption) ?rda5
  case hda5 => intro W hW; go_simp; all_goals with_reducible rfl
  change wpAnyH _ _ _ _ _ _ _ (Act.put _ (some 21) _) _
  simp only [Act.put, List.setIfInBounds_toArray, List.set_cons_zero, List.set_cons_succ]
  refine' wpAnyH_take (i := 7) (v := _) rfl (by kernel_rfl) (by kernel_rfl) (by kernel_rfl) (fun _ _ _ h => h) (Or.inl ⟨by kernel_rfl, ?hda6⟩) (by assumption) ?rda6
  case hda6 => intro W hW; go_simp; all_goals with_reducible rfl
  change wpAnyH _ _ _ _ _ _ _ (Act.put _ (some 24) _) _
  simp only [Act.put, List.setIfInBounds_toArray, List.set_cons_zero, List.set_cons_succ]
  refine wpAnyH_ready (rs := [5]) (by kernel_rfl) (by simp) ?_
  refine AllReadyH.cons rfl (fun KK hK => ?_) AllReadyH.nil
  go_simp
  refine (l1Below_any g ao n cap f 2 _ hn (by omega) (by omega) hP.cur).mono ?_
  rintro e w5 ⟨x, rfl, hx0, hx1, hC5, hO5⟩
  have hP5 := hP.but hC5 (But.ofOnly hO5)
  have hwx := hwb x hx0 hx1
  clear hHeld hP hC5 hO5
  go_wp2_with fail
  refine hK.out _ _ (hP5.ms.x.cell 0) (fun hHeld => ?_)
  have hP := hP5
  clear hP5
  clear hK KK
  try simp only [Act.put, List.setIfInBounds_toArray, List.set_cons_zero, List.set_cons_succ]
  refine' wpAnyH_take (i := 6) (v := _) rfl (by kernel_rfl) (by kernel_rfl) (by kernel_rfl) (fun _ _ _ h => h) (Or.inl ⟨by kernel_rfl, ?hda7⟩) (by assumption) ?rda7
  case hda7 => intro W hW; go_simp; all_goals with_reducible rfl
  change wpAnyH _ _ _ _ _ _ _ (Act.put _ (some 23) _) _
  simp only [Act.put, List.setIfInBounds_toArray, List.set_cons_zero, List.set_cons_succ]
  refine wpAnyH_ready (rs := [8]) (by kernel_rfl) (by simp) ?_
  refine AllReadyH.cons rfl (fun KK hK => ?_) AllReadyH.nil
  go_simp
  refine (l1Some_any g ao n cap f _ hn hP.cur).mono ?_
  rintro e w6 ⟨⟨b6, c6, m6, l6, hD6⟩, hC6, hB6⟩
  obtain rfl := hD6.ret
  have hP6 := hP.but hC6 hB6
  have HP6 : Hid (PA w g ao n cap f B X gs sc fa fc D ca cc ss cs w6) := hP6
  have hV6 : View w6 (some ⟨b6, 0, none⟩) m6 c6 (fun i => l6.getD i 0) := Own9.view (w := w5) (w' := w6) ⟨hD6.len, hD6.byte, hD6.new, hD6.le, hD6.row, hD6.few⟩
  have hm6 := hD6.few
  have hPut := putPage_own b6 0 m6 c6 (fun i => l6.getD i 0) (1 + x) w6 hV6 (by omega) (by omega)
  have hfew := page_few (k := 1 + x) (l := lof m6 (fun i => l6.getD i 0)) (by omega) (by rw [lof_len]; omega)
  obtain ⟨L, hL⟩ : ∃ L, Hid (pageF (1 + x) (strOfNums (lof m6 (fun i => l6.getD i 0))) = L) := ⟨_, rfl⟩
  rw [hL.out] at hPut hfew
  obtain ⟨hf0, hf1, hf2⟩ := hfew
  have HY : Hid (∀ y ∈ L, 0 ≤ y ∧ y ≤ 255) := hf2
  clear hHeld hP hC6 hB6 hD6 hV6 hL hf2
  go_wp2_with fail
  refine hK.out _ _ (hP6.ms.x.cell 0) (fun hHeld => ?_)
  have hP := hP6
  clear hP6
  clear hK KK
  try simp only [Act.put, List.setIfInBounds_toArray, List.set_cons_zero, List.set_cons_succ]
  refine wpAnyH_ready (rs := [9]) (by kernel_rfl) (by simp) ?_
  refine AllReadyH.cons rfl (fun KK hK => ?_) AllReadyH.nil
  go_simp
  refine hPut.mono ?_
  rintro e w7 ⟨v7, rfl, hown7, hb7⟩
  have hP7 := hP.on hb7
  have hK7 : But g w6 w7 := ⟨hb7.os, hb7.tape, hb7.output, hb7.size, fun k hk _ => hb7.block k hk⟩
  have hs7 := hb7.size
  clear hHeld hP hb7 hPut
  go_wp2_with fail
  refine hK.out _ _ (hP7.ms.x.cell 0) (fun hHeld => ?_)
  have hP := hP7
  clear hP7
  clear hK KK
  try simp only [Act.put, List.setIfInBounds_toArray, List.set_cons_zero, List.set_cons_succ]
  refine wpAnyH_ready (rs := [10]) (by kernel_rfl) (by simp) ?_
  refine AllReadyH.cons rfl (fun KK hK => ?_) AllReadyH.nil
  obtain ⟨N, hN⟩ := hidEx L.length
  have HL : Hid (L.length = N) := hN
  rw [hN.out] at hown7 hf0 hf1
  clear hN
  have hbB : B ≤ w6.heap.size := HP6.out.b
  have hBd := l1Bend_row g ao n cap f w6.heap.size v7 N L w7 hn hf0 (by omega) hP.cur hown7 HL.out HY.out (by omega) (fun a ha h0 => by have := hP.code a ha h0; have := hP.rg; omega) hs7
  go_simp
  refine hBd.mono ?_
  rintro e w8 ⟨⟨b8, c8, m8, F8, hD8⟩, hC8, hK8⟩
  have hP8 := HP6.out.but hC8 ⟨hK8.os.trans hK7.os, hK8.tape.trans hK7.tape, hK8.output.trans hK7.output, Nat.le_trans hK7.size hK8.size, fun k hk hne => (hK8.block k hk hne).trans (hK7.block k hk hne)⟩
  have hob := hD8.ob hbB
  have hlen8 : (lof m8 F8).length ≤ 1048576 := by rw [lof_len]; have := hD8.few; omega
  obtain rfl := hD8.ret
  clear hHeld hP hC8 hK8 hD8 hBd hown7 HL HY hK7 HP6
  go_wp2_with fail
  refine hK.out _ _ (hP8.ms.x.cell 0) (fun hHeld => ?_)
  have hP := hP8
  clear hP8
  clear hK KK
  try simp only [Act.put, List.setIfInBounds_toArray, List.set_cons_zero, List.set_cons_succ]
  refine' wpAnyH_take (i := 11) (v := _) rfl (by kernel_rfl) (by kernel_rfl) (by kernel_rfl) (fun _ _ _ h => h) (Or.inl ⟨by kernel_rfl, ?hda8⟩) (by assumption) ?rda8
  case hda8 => intro W hW; go_simp; all_goals with_reducible rfl
  change wpAnyH _ _ _ _ _ _ _ (Act.put _ (some 28) _) _
  simp only [Act.put, List.setIfInBounds_toArray, List.set_cons_zero, List.set_cons_succ]
  refine wpAnyH_ready (rs := [12]) (by kernel_rfl) (by simp) ?_
  refine AllReadyH.cons rfl (fun KK hK => ?_) AllReadyH.nil
  have hmD : m < D.secs.length := by omega
  have hz := hP.ms.secs.cellFz (by rw [hP.ms.ns]; omega) m
  obtain ⟨g9, e9, hg9, -, hc9⟩ := hP.ms.secs.cell (by rw [hP.ms.ns]; omega)
  cases e9
  obtain ⟨u9, hcm⟩ : ∃ u, w8.cell? ⟨gs, m, none⟩ = some u := ⟨_, hc9 m _ (List.getElem?_eq_getElem (by rw [hP.ms.ns]; omega))⟩
  have hP9 := hP.put hmD hob hlen8
  clear hHeld hP hc9 hob hlen8
  go_simp
  refine hK.out _ _ (by have := hP9.ms.x.cell 0; simpa using this) (fun hHeld => ?_)
  clear hK KK
  try simp only [Act.put, List.setIfInBounds_toArray, List.set_cons_zero, List.set_cons_succ]
  refine wpAnyH_done (by kernel_rfl) ?_ _
  have hP : PA w g ao n cap f B X gs sc fa fc _ ca cc _ cs _ := hP9
  clear hP9 hHeld hcm hz
  obtain ⟨D2, hD2⟩ : ∃ x, Hid (({ D with secs := D.secs.set m (lof m8 F8) } : PDisk) = x) := ⟨_, rfl⟩
  rw [hD2.out] at hP
  obtain ⟨ss2, hss2⟩ : ∃ x, Hid (ss.set m (Value.slice (some ⟨b8, 0, none⟩) m8 c8) = x) := ⟨_, rfl⟩
  rw [hss2.out] at hP
  obtain ⟨W9, hW9⟩ : ∃ x, Hid (w8.setCell ⟨gs, m, none⟩ (Value.slice (some ⟨b8, 0, none⟩) m8 c8) = x) := ⟨_, rfl⟩
  rw [hW9.out] at hP ⊢
  clear hD2 hss2 hW9 hwx hx0 hx1 hf0 hf1 hbB hs7 hm6
  go_wp2_with fail
  refine (l1Once_any g ao n cap f 4 W9 hn (by omega) (by omega) hP.cur).mono ?_
  rintro e wa ⟨bo, rfl, hCa, hOa⟩
  replace hP := hP.but hCa (But.ofOnly hOa)
  clear hCa hOa
  cases bo with
  | false =>
    go_wp2_with fail
    refine wp_region_held_drew (S := fun W => W.cell? ⟨X, 0, none⟩ = some (.slice (some ⟨gs, 0, none⟩) D2.secs.length sc) ∧ W.cell? ⟨X, 1, none⟩ = some (.slice ca D2.cache.length cc) ∧ W.cell? ⟨X, 2, none⟩ = some (.int .i64 D2.ops) ∧ W.cell? ⟨X, 3, none⟩ = some (.slice fa D2.faults.length fc) ∧ W.cell? ⟨X, 4, none⟩ = some (.bool D2.down)) (by kernel_rfl) ⟨hP.drew.ms.x.cell 0, hP.drew.ms.x.cell 1, hP.drew.ms.x.cell 2, hP.drew.ms.x.cell 3, hP.drew.ms.x.cell 4⟩ (fun hHeld => ?_)
    replace hP := hP.drew
    refine' wpAnyH_take (i := 0) (v := _) rfl (by kernel_rfl) (by kernel_rfl) (by kernel_rfl) (fun _ _ _ h => h) (Or.inl ⟨by kernel_rfl, ?hea1⟩) (by assumption) ?rea1
    case hea1 => intro W hW; obtain ⟨c0, c1, c2, c3, c4⟩ := hW; go_simp; all_goals with_reducible rfl
    change wpAnyH _ _ _ _ _ _ _ (Act.put _ (some 33) _) _
    simp only [Act.put, List.setIfInBounds_toArray, List.set_cons_zero, List.set_cons_succ]
    refine' wpAnyH_take (i := 1) (v := _) rfl (by kernel_rfl) (by kernel_rfl) (by kernel_rfl) (fun _ _ _ h => h) (Or.inl ⟨by kernel_rfl, ?hea2⟩) (by assumption) ?rea2
    case hea2 => intro W hW; obtain ⟨c0, c1, c2, c3, c4⟩ := hW; go_simp; all_goals with_reducible rfl
    change wpAnyH _ _ _ _ _ _ _ (Act.put _ (some 34) _) _
    simp only [Act.put, List.setIfInBounds_toArray, List.set_cons_zero, List.set_cons_succ]
    refine' wpAnyH_take (i := 2) (v := _) rfl (by kernel_rfl) (by kernel_rfl) (by kernel_rfl) (fun _ _ _ h => h) (Or.inl ⟨by kernel_rfl, ?hea3⟩) (by assumption) ?rea3
    case hea3 => intro W hW; obtain ⟨c0, c1, c2, c3, c4⟩ := hW; go_simp; all_goals with_reducible rfl
    change wpAnyH _ _ _ _ _ _ _ (Act.put _ (some 35) _) _
    simp only [Act.put, List.setIfInBounds_toArray, List.set_cons_zero, List.set_cons_succ]
    refine wpAnyH_ready (rs := [3]) (by kernel_rfl) (by simp) ?_
    refine AllReadyH.cons rfl (fun KK hK => ?_) AllReadyH.nil
    go_simp
    refine (l1Below_any g ao n cap f 2 _ hn (by omega) (by omega) hP.cur).mono ?_
    rintro e wz ⟨y, rfl, hy0, hy1, hCz, hOz⟩
    have hPz := hP.but hCz (But.ofOnly hOz)
    have hwy := hwb y hy0 hy1
    clear hHeld hP hCz hOz
    go_wp2_with fail
    refine hK.out _ _ ⟨hPz.ms.x.cell 0, hPz.ms.x.cell 1, hPz.ms.x.cell 2, hPz.ms.x.cell 3, hPz.ms.x.cell 4⟩ (fun hHeld => ?_)
    have hP := hPz
    clear hPz
    clear hK KK
    try simp only [Act.put, List.setIfInBounds_toArray, List.set_cons_zero, List.set_cons_succ]
    refine' wpAnyH_take (i := 4) (v := _) rfl (by kernel_rfl) (by kernel_rfl) (by kernel_rfl) (fun _ _ _ h => h) (Or.inl ⟨by kernel_rfl, ?hea4⟩) (by assumption) ?rea4
    case hea4 => intro W hW; obtain ⟨c0, c1, c2, c3, c4⟩ := hW; go_simp; all_goals with_reducible rfl
    change wpAnyH _ _ _ _ _ _ _ (Act.put _ (some 37) _) _
    simp only [Act.put, List.setIfInBounds_toArray, List.set_cons_zero, List.set_cons_succ]
    refine wpAnyH_ready (rs := [5]) (by kernel_rfl) (by simp) ?_
    refine AllReadyH.cons rfl (fun KK hK => ?_) AllReadyH.nil
    have e0 : wz.cell? ⟨w.heap.size, 0, none⟩ = some (.slice none 0 0) := hP.r.cell 0
    have z0 := hP.r.fz 0
    have e1 : wz.cell? ⟨w.heap.size, 1, none⟩ = some (.slice none 0 0) := hP.r.cell 1
    have z1 := hP.r.fz 1
    have e2 : wz.cell? ⟨w.heap.size, 2, none⟩ = some (.int .i64 0) := hP.r.cell 2
    have z2 := hP.r.fz 2
    have e3 : wz.cell? ⟨w.heap.size, 3, none⟩ = some (.slice none 0 0) := hP.r.cell 3
    have z3 := hP.r.fz 3
    have e4 : wz.cell? ⟨w.heap.size, 4, none⟩ = some (.bool false) := hP.r.cell 4
    have z4 := hP.r.fz 4
    go_simp
    clear e0 e1 e2 e3 e4 z0 z1 z2 z3 z4
    have hgB := hP.gB
    have hxB := hP.x
    have hr5 := ret5_vn (.slice (some ⟨gs, 0, none⟩) D2.secs.length sc) (.slice ca D2.cache.length cc) (.int .i64 D2.ops) (.slice fa D2.faults.length fc) (.bool D2.down) hP.r
    have hms := hP.ms.up (Up.five (B := B) (R := w.heap.size) (w := wz) (.slice (some ⟨gs, 0, none⟩) D2.secs.length sc) (.slice ca D2.cache.length cc) (.int .i64 D2.ops) (.slice fa D2.faults.length fc) (.bool D2.down) (by omega)) hxB
    have hkv := hms.kview hP.ml (by have := hP.few; omega)
    have hbl := ret5_below (.slice (some ⟨gs, 0, none⟩) D2.secs.length sc) (.slice ca D2.cache.length cc) (.int .i64 D2.ops) (.slice fa D2.faults.length fc) (.bool D2.down) hP.below (Nat.le_refl _)
    have hok := hP.ok
    refine hK.out _ _ ⟨hms.x.cell 0, hms.x.cell 1, hms.x.cell 2, hms.x.cell 3, hms.x.cell 4⟩ (fun hHeld => ?_)
    clear hP hms
    clear hK KK
    try simp only [Act.put, List.setIfInBounds_toArray, List.set_cons_zero, List.set_cons_succ]
    refine' wpAnyH_take (i := 6) (v := _) rfl (by kernel_rfl) (by kernel_rfl) (by kernel_rfl) (fun _ _ _ h => h) (Or.inl ⟨by kernel_rfl, ?hea5⟩) (by assumption) ?rea5
    case hea5 => intro W hW; obtain ⟨c0, c1, c2, c3, c4⟩ := hW; go_simp; all_goals with_reducible rfl
    change wpAnyH _ _ _ _ _ _ _ (Act.put _ (some 3) _) _
    simp only [Act.put, List.setIfInBounds_toArray, List.set_cons_zero, List.set_cons_succ]
    refine' wpAnyH_take (i := 7) (v := _) rfl (by kernel_rfl) (by kernel_rfl) (by kernel_rfl) (fun _ _ _ h => h) (Or.inl ⟨by kernel_rfl, ?hea6⟩) (by assumption) ?rea6
    case hea6 => intro W hW; obtain ⟨c0, c1, c2, c3, c4⟩ := hW; go_simp; all_goals with_reducible rfl
    change wpAnyH _ _ _ _ _ _ _ (Act.put _ (some 4) _) _
    simp only [Act.put, List.setIfInBounds_toArray, List.set_cons_zero, List.set_cons_succ]
    refine wpAnyH_done (by kernel_rfl) ?_ _
    have HF : Hid _ := And.intro hkv (And.intro hok hbl)
    have m0 := hr5.cell 0
    have m1 := hr5.cell 1
    have m2 := hr5.cell 2
    have m3 := hr5.cell 3
    have m4 := hr5.cell 4
    simp only [List.getElem?_cons_zero, List.getElem?_cons_succ] at m0 m1 m2 m3 m4
    clear hkv hok hbl hr5 hHeld
    go_wp2
    exact bodyPost_ret (v := .tuple #[.agg #[.slice (some ⟨gs, 0, none⟩) D2.secs.length sc, .slice ca D2.cache.length cc, .int .i64 D2.ops, .slice fa D2.faults.length fc, .bool D2.down], .int .i64 m, .int .i64 (1 + y)]) (by simp [results, Try.results41, go_sem, m0, m1, m2, m3, m4]) rfl ⟨_, D2, m, 1 + y, rfl, HF.out.1, HF.out.2.1, by omega, by omega, HF.out.2.2⟩
  | true =>
    go_wp2_with fail
    refine (l12N_any g ao n cap f wa hn hP.cur).mono ?_
    rintro e wc ⟨zz, rfl, hzz0, hzz1, hCc, hBc⟩
    replace hP := hP.but hCc hBc
    clear hCc hBc
    go_wp2_with fail
    refine wp_region_held_drew (S := fun W => W.cell? ⟨X, 0, none⟩ = some (.slice (some ⟨gs, 0, none⟩) D2.secs.length sc) ∧ W.cell? ⟨X, 1, none⟩ = some (.slice ca D2.cache.length cc) ∧ W.cell? ⟨X, 2, none⟩ = some (.int .i64 D2.ops) ∧ W.cell? ⟨X, 3, none⟩ = some (.slice fa D2.faults.length fc) ∧ W.cell? ⟨X, 4, none⟩ = some (.bool D2.down)) (by kernel_rfl) ⟨hP.drew.ms.x.cell 0, hP.drew.ms.x.cell 1, hP.drew.ms.x.cell 2, hP.drew.ms.x.cell 3, hP.drew.ms.x.cell 4⟩ (fun hHeld => ?_)
    replace hP := hP.drew
    refine' wpAnyH_take (i := 0) (v := _) rfl (by kernel_rfl) (by kernel_rfl) (by kernel_rfl) (fun _ _ _ h => h) (Or.inl ⟨by kernel_rfl, ?heb1⟩) (by assumption) ?reb1
    case heb1 => intro W hW; obtain ⟨c0, c1, c2, c3, c4⟩ := hW; go_simp; all_goals with_reducible rfl
    change wpAnyH _ _ _ _ _ _ _ (Act.put _ (some 33) _) _
    simp only [Act.put, List.setIfInBounds_toArray, List.set_cons_zero, List.set_cons_succ]
    refine' wpAnyH_take (i := 1) (v := _) rfl (by kernel_rfl) (by kernel_rfl) (by kernel_rfl) (fun _ _ _ h => h) (Or.inl ⟨by kernel_rfl, ?heb2⟩) (by assumption) ?reb2
    case heb2 => intro W hW; obtain ⟨c0, c1, c2, c3, c4⟩ := hW; go_simp; all_goals with_reducible rfl
    change wpAnyH _ _ _ _ _ _ _ (Act.put _ (some 34) _) _
    simp only [Act.put, List.setIfInBounds_toArray, List.set_cons_zero, List.set_cons_succ]
    refine' wpAnyH_take (i := 2) (v := _) rfl (by kernel_rfl) (by kernel_rfl) (by kernel_rfl) (fun _ _ _ h => h) (Or.inl ⟨by kernel_rfl, ?heb3⟩) (by assumption) ?reb3
    case heb3 => intro W hW; obtain ⟨c0, c1, c2, c3, c4⟩ := hW; go_simp; all_goals with_reducible rfl
    change wpAnyH _ _ _ _ _ _ _ (Act.put _ (some 35) _) _
    simp only [Act.put, List.setIfInBounds_toArray, List.set_cons_zero, List.set_cons_succ]
    refine wpAnyH_ready (rs := [3]) (by kernel_rfl) (by simp) ?_
    refine AllReadyH.cons rfl (fun KK hK => ?_) AllReadyH.nil
    go_simp
    refine (l1Below_any g ao n cap f 2 _ hn (by omega) (by omega) hP.cur).mono ?_
    rintro e wz ⟨y, rfl, hy0, hy1, hCz, hOz⟩
    have hPz := hP.but hCz (But.ofOnly hOz)
    have hwy := hwb y hy0 hy1
    clear hHeld hP hCz hOz
    go_wp2_with fail
    refine hK.out _ _ ⟨hPz.ms.x.cell 0, hPz.ms.x.cell 1, hPz.ms.x.cell 2, hPz.ms.x.cell 3, hPz.ms.x.cell 4⟩ (fun hHeld => ?_)
    have hP := hPz
    clear hPz
    clear hK KK
    try simp only [Act.put, List.setIfInBounds_toArray, List.set_cons_zero, List.set_cons_succ]
    refine' wpAnyH_take (i := 4) (v := _) rfl (by kernel_rfl) (by kernel_rfl) (by kernel_rfl) (fun _ _ _ h => h) (Or.inl ⟨by kernel_rfl, ?heb4⟩) (by assumption) ?reb4
    case heb4 => intro W hW; obtain ⟨c0, c1, c2, c3, c4⟩ := hW; go_simp; all_goals with_reducible rfl
    change wpAnyH _ _ _ _ _ _ _ (Act.put _ (some 37) _) _
    simp only [Act.put, List.setIfInBounds_toArray, List.set_cons_zero, List.set_cons_succ]
    refine wpAnyH_ready (rs := [5]) (by kernel_rfl) (by simp) ?_
    refine AllReadyH.cons rfl (fun KK hK => ?_) AllReadyH.nil
    have e0 : wz.cell? ⟨w.heap.size, 0, none⟩ = some (.slice none 0 0) := hP.r.cell 0
    have z0 := hP.r.fz 0
    have e1 : wz.cell? ⟨w.heap.size, 1, none⟩ = some (.slice none 0 0) := hP.r.cell 1
    have z1 := hP.r.fz 1
    have e2 : wz.cell? ⟨w.heap.size, 2, none⟩ = some (.int .i64 0) := hP.r.cell 2
    have z2 := hP.r.fz 2
    have e3 : wz.cell? ⟨w.heap.size, 3, none⟩ = some (.slice none 0 0) := hP.r.cell 3
    have z3 := hP.r.fz 3
    have e4 : wz.cell? ⟨w.heap.size, 4, none⟩ = some (.bool false) := hP.r.cell 4
    have z4 := hP.r.fz 4
    go_simp
    clear e0 e1 e2 e3 e4 z0 z1 z2 z3 z4
    have hgB := hP.gB
    have hxB := hP.x
    have hr5 := ret5_vn (.slice (some ⟨gs, 0, none⟩) D2.secs.length sc) (.slice ca D2.cache.length cc) (.int .i64 D2.ops) (.slice fa D2.faults.length fc) (.bool D2.down) hP.r
    have hms := hP.ms.up (Up.five (B := B) (R := w.heap.size) (w := wz) (.slice (some ⟨gs, 0, none⟩) D2.secs.length sc) (.slice ca D2.cache.length cc) (.int .i64 D2.ops) (.slice fa D2.faults.length fc) (.bool D2.down) (by omega)) hxB
    have hkv := hms.kview hP.ml (by have := hP.few; omega)
    have hbl := ret5_below (.slice (some ⟨gs, 0, none⟩) D2.secs.length sc) (.slice ca D2.cache.length cc) (.int .i64 D2.ops) (.slice fa D2.faults.length fc) (.bool D2.down) hP.below (Nat.le_refl _)
    have hok := hP.ok
    refine hK.out _ _ ⟨hms.x.cell 0, hms.x.cell 1, hms.x.cell 2, hms.x.cell 3, hms.x.cell 4⟩ (fun hHeld => ?_)
    clear hP hms
    clear hK KK
    try simp only [Act.put, List.setIfInBounds_toArray, List.set_cons_zero, List.set_cons_succ]
    refine' wpAnyH_take (i := 6) (v := _) rfl (by kernel_rfl) (by kernel_rfl) (by kernel_rfl) (fun _ _ _ h => h) (Or.inl ⟨by kernel_rfl, ?heb5⟩) (by assumption) ?reb5
    case heb5 => intro W hW; obtain ⟨c0, c1, c2, c3, c4⟩ := hW; go_simp; all_goals with_reducible rfl
    change wpAnyH _ _ _ _ _ _ _ (Act.put _ (some 3) _) _
    simp only [Act.put, List.setIfInBounds_toArray, List.set_cons_zero, List.set_cons_succ]
    refine' wpAnyH_take (i := 7) (v := _) rfl (by kernel_rfl) (by kernel_rfl) (by kernel_rfl) (fun _ _ _ h => h) (Or.inl ⟨by kernel_rfl, ?heb6⟩) (by assumption) ?reb6
    case heb6 => intro W hW; obtain ⟨c0, c1, c2, c3, c4⟩ := hW; go_simp; all_goals with_reducible rfl
    change wpAnyH _ _ _ _ _ _ _ (Act.put _ (some 4) _) _
    simp only [Act.put, List.setIfInBounds_toArray, List.set_cons_zero, List.set_cons_succ]
    refine wpAnyH_done (by kernel_rfl) ?_ _
    have HF : Hid _ := And.intro hkv (And.intro hok hbl)
    have m0 := hr5.cell 0
    have m1 := hr5.cell 1
    have m2 := hr5.cell 2
    have m3 := hr5.cell 3
    have m4 := hr5.cell 4
    simp only [List.getElem?_cons_zero, List.getElem?_cons_succ] at m0 m1 m2 m3 m4
    clear hkv hok hbl hr5 hHeld
    go_wp2
    exact bodyPost_ret (v := .tuple #[.agg #[.slice (some ⟨gs, 0, none⟩) D2.secs.length sc, .slice ca D2.cache.length cc, .int .i64 D2.ops, .slice fa D2.faults.length fc, .bool D2.down], .int .i64 zz, .int .i64 (1 + y)]) (by simp [results, Try.results41, go_sem, m0, m1, m2, m3, m4]) rfl ⟨_, D2, zz, 1 + y, rfl, HF.out.1, HF.out.2.1, by omega, by omega, HF.out.2.2⟩
end Go.Proofs.Ytidjcppfolipjaa

/-
  What a round of a loop over an iterator keeps: all that lay at the start of the call, and the two boxes that the iterator holds.
-/
namespace Go.Proofs.Ytidjcppfolipjaa
open Go.RowKit
set_option maxRecDepth 4000

/-- What a round that goes on keeps. -/
structure KpB (n₀ Bl Bv : Nat) (W W' : World) : Prop where
  below : Below n₀ W W'
  bl : W'.heap[Bl]? = W.heap[Bl]?
  bv : W'.heap[Bv]? = W.heap[Bv]?
theorem KpB.refl (n₀ Bl Bv : Nat) (W : World) : KpB n₀ Bl Bv W W := ⟨Below.refl _ _, rfl, rfl⟩
theorem KpB.trans {n₀ Bl Bv : Nat} {A B C : World} (h : KpB n₀ Bl Bv A B) (k : KpB n₀ Bl Bv B C) : KpB n₀ Bl Bv A C := ⟨h.below.trans k.below, k.bl.trans h.bl, k.bv.trans h.bv⟩
/-- Whatever leaves all that lay as it lay. -/
theorem KpB.ofBelow {n₀ Bl Bv : Nat} {W W' : World} (h : Below W.heap.size W W') (hn : n₀ ≤ W.heap.size) (hl : Bl < W.heap.size) (hv : Bv < W.heap.size) : KpB n₀ Bl Bv W W' := ⟨h.mono hn, h.block Bl hl, h.block Bv hv⟩
/-- A step that turns one block. -/
theorem KpB.ofGrown {n₀ Bl Bv : Nat} {W W' : World} {row : Option Nat} (hg : W.grownBy W' row) (hn : n₀ ≤ W.heap.size) (hl : Bl < W.heap.size) (hv : Bv < W.heap.size) (hr : ∀ k, row = some k → n₀ ≤ k ∧ k ≠ Bl ∧ k ≠ Bv) : KpB n₀ Bl Bv W W' :=
  ⟨⟨hg.os, hg.tape, hg.output, hg.size, fun k hk => hg.block k (by omega) (fun e => by have := (hr k e.symm).1; omega)⟩, hg.block Bl hl (fun e => (hr Bl e.symm).2.1 rfl), hg.block Bv hv (fun e => (hr Bv e.symm).2.2 rfl)⟩
theorem KpB.put {n₀ Bl Bv : Nat} {w : World} (hn : n₀ ≤ w.heap.size) (hl : Bl < w.heap.size) (hv : Bv < w.heap.size) (W : World) (l : Nat) (o o' : Obj) (hle : w.heap.size ≤ l) (h : W.heap[l]? = some o) (h1 : o.isCells = false) (h2 : o.isWalk = false) : KpB n₀ Bl Bv W (W.putObj l o') :=
  ⟨belowK_b hn W l o o' hle h h1 h2, World.putObj_heap_other (by omega), World.putObj_heap_other (by omega)⟩
theorem Boxed.kpl {n₀ Bl Bv : Nat} {W W' : World} {t : TypeId} {v : Value} (h : Boxed W Bl t v) (k : KpB n₀ Bl Bv W W') : Boxed W' Bl t v := k.bl.trans h
theorem Boxed.kpv {n₀ Bl Bv : Nat} {W W' : World} {t : TypeId} {v : Value} (h : Boxed W Bv t v) (k : KpB n₀ Bl Bv W W') : Boxed W' Bv t v := k.bv.trans h
theorem Boxed.below' {W W' : World} {B : Nat} {t : TypeId} {v : Value} (h : Boxed W B t v) (k : Below W.heap.size W W') : Boxed W' B t v := (k.block B h.lt).trans h
theorem grownBy_drew' (W : World) : W.grownBy W.drew none := ⟨rfl, rfl, rfl, Nat.le_refl _, fun _ _ _ => rfl⟩
theorem grownBy_below' {W W' : World} (h : Below W.heap.size W W') : W.grownBy W' none := ⟨h.os, h.tape, h.output, h.size, fun k hk _ => h.block k hk⟩
theorem AbidesFrom.step {β : Type} {B : Nat} {J : β → World → Prop} (h : AbidesFrom B J) {s : β} {W W' : World} (hs : J s W) (hg : W.grownBy W' none) : J s W' := h s W W' none hs hg (fun _ e => by cases e)
/-- 'KeepsFrom' of whatever leaves all that lay as it lay. -/
theorem KeepsFrom.ofBelow {B : Nat} {W W' : World} (h : Below W.heap.size W W') : KeepsFrom B W W' := ⟨h.size, fun k _ _ hk _ => (h.block k (Array.getElem?_eq_some_iff.1 hk).1).trans hk⟩
/-- 'KpB .. w₀ ·' abides what the loop itself turns. -/
theorem ownFrom_kpB {β : Type} {n₀ Bl Bv B' : Nat} {w₀ : World} (hn : n₀ ≤ B') (hl : Bl < B') (hv : Bv < B') (hB : B' ≤ w₀.heap.size) : OwnFrom B' (fun (_ : β) W => KpB n₀ Bl Bv w₀ W) :=
  fun _ X Y row hs hg hr => by
    have hs0 := hs.below.size
    refine ⟨hs.below.trans ⟨hg.os, hg.tape, hg.output, hg.size, fun k hk => hg.block k (by omega) (fun e => by have := (hr k e.symm).1; omega)⟩, ?_, ?_⟩
    · exact (hg.block Bl (by omega) (fun e => by have := (hr Bl e.symm).1; omega)).trans hs.bl
    · exact (hg.block Bv (by omega) (fun e => by have := (hr Bv e.symm).1; omega)).trans hs.bv

/-- The first j of the indices. -/
theorem fin_take {k j : Nat} (h : j < k) : (List.finRange k).take (j + 1) = (List.finRange k).take j ++ [⟨j, h⟩] := by
  rw [List.take_add_one, List.getElem?_eq_getElem (by simpa using h)]
  simp
theorem fin_len {k j : Nat} (h : j ≤ k) : ((List.finRange k).take j).length = j := by simp [h]
end Go.Proofs.Ytidjcppfolipjaa

/-
  A box of a round, and what the loop itself turns.
-/
namespace Go.Proofs.Ytidjcppfolipjaa
open Go.RowKit
set_option maxRecDepth 4000

theorem Boxed.ownK {W W' : World} {row : Option Nat} {B : Nat} {t : TypeId} {v : Value} (h : Boxed W B t v) (hg : W.grownBy W' row) (hr : ∀ r, row = some r → ∃ o : Obj, W.heap[r]? = some o ∧ o.isCells = false) : Boxed W' B t v := by
  obtain ⟨o, ho, hc⟩ := cells_of_cell h.cell
  exact (grownBy_keeps_cells hg hr ho hc).trans h
theorem Below.put' {n₀ : Nat} {w₀ W : World} {D : Nat} {o o' : Obj} (h : Below n₀ w₀ W) (hn : n₀ ≤ D) (hK : W.heap[D]? = some o) : Below n₀ w₀ (W.putObj D o') :=
  h.trans ((Below.refl n₀ W).grown (grownBy_putObj' W D o') (by have := (Array.getElem?_eq_some_iff.1 hK).1; omega) (fun k e => by cases e; omega))
end Go.Proofs.Ytidjcppfolipjaa

/-
  slices.Backward of a row of writes.
-/
namespace Go.Proofs.Ytidjcppfolipjaa
open Go.RowKit
set_option maxRecDepth 4000

attribute [local go_sem] Oper.semAt_some

/-- The write at place i from the end, as it is yielded. -/
abbrev encK (n : Nat) (fn : Nat → Int) (us : Nat → Value) (x : Nat) : Array Value := #[.int .i64 ((n - 1 - x : Nat) : Int), .agg #[.int .i64 (fn (n - 1 - x)), us (n - 1 - x)]]
/-- The cells of a row of writes. -/
def WCells (w : World) (a : Option Addr) (n : Nat) (fn : Nat → Int) (us : Nat → Value) : Prop := 0 < n → ∃ b off, a = some ⟨b, off, none⟩ ∧ b < w.heap.size ∧ ∀ i, i < n → w.cell? ⟨b, off + i * 2, none⟩ = some (.int .i64 (fn i)) ∧ w.cell? ⟨b, off + i * 2 + 1, none⟩ = some (us i) ∧ (us i).oneCell' = true
theorem WCells.below {w w' : World} {a : Option Addr} {n : Nat} {fn : Nat → Int} {us : Nat → Value} (h : WCells w a n fn us) (hb : Below w.heap.size w w') : WCells w' a n fn us := by
  intro hn
  obtain ⟨b, off, e, hlt, hc⟩ := h hn
  refine ⟨b, off, e, Nat.lt_of_lt_of_le hlt hb.size, fun i hi => ?_⟩
  obtain ⟨h1, h2, h3⟩ := hc i hi
  exact ⟨by rw [hb.cell (p := ⟨b, off + i * 2, none⟩) hlt]; exact h1, by rw [hb.cell (p := ⟨b, off + i * 2 + 1, none⟩) hlt]; exact h2, h3⟩
/-- A row of writes that reads, by functions of the index. -/
theorem wcells_of {w : World} {a : Option Addr} {cap : Nat} {l : List (Int × List Int)} (h : WView w a cap l) : ∃ us : Nat → Value, WCells w a l.length (fun i => (l.getD i (0, [])).1) us ∧ ∀ i (hi : i < l.length), LV w (us i) (l[i]).2 := by
  by_cases hn : 0 < l.length
  case neg => exact ⟨fun _ => undef, fun h => absurd h hn, fun i hi => absurd (Nat.lt_of_le_of_lt (Nat.zero_le _) hi) hn⟩
  obtain ⟨b, off, e, hlt, hc⟩ := h.cells hn
  have key : ∀ i (hi : i < l.length), ∃ u, w.cell? ⟨b, off + i * 2, none⟩ = some (.int .i64 (l[i]).1) ∧ w.cell? ⟨b, off + i * 2 + 1, none⟩ = some u ∧ LV w u (l[i]).2 := by
    intro i hi
    obtain ⟨us, ⟨u, rfl, hu⟩, h2⟩ := hc i l[i] (List.getElem?_eq_getElem hi)
    exact ⟨u, by simpa using h2 0 _ rfl, by simpa using h2 1 _ rfl, hu⟩
  refine ⟨fun i => (w.cell? ⟨b, off + i * 2 + 1, none⟩).getD undef, fun _ => ⟨b, off, e, hlt, fun i hi => ?_⟩, fun i hi => ?_⟩
  · obtain ⟨u, h1, h2, h3⟩ := key i hi
    refine ⟨by rw [h1]; simp [hi], by show _ = some ((w.cell? ⟨b, off + i * 2 + 1, none⟩).getD undef); rw [h2]; rfl, ?_⟩
    show ((w.cell? ⟨b, off + i * 2 + 1, none⟩).getD undef).oneCell' = true
    rw [h2]
    obtain ⟨a', c', rfl, -, -⟩ := h3.is
    rfl
  · obtain ⟨u, h1, h2, h3⟩ := key i hi
    show LV w ((w.cell? ⟨b, off + i * 2 + 1, none⟩).getD undef) _
    rw [h2]
    exact h3

set_option linter.unusedSimpArgs false in
set_option maxRecDepth 100000 in
set_option maxHeartbeats 4000000 in
theorem back1_in (NN : Nat) (hNN : 1 ≤ NN) (l B : Nat) (a : Option Addr) (n cap : Nat) (fn : Nat → Int) (us : Nat → Value) (w : World) (hp : WCells w a n fn us) (hn : n ≤ 281474976710656)
    (J Jx : List (Fin n) → World → Prop) (W : World)
    (hY : ∀ pre x W1, J pre W1 → pre.length < n → YieldAt Fence.wide (NN - 1) Try.prog l (encK n fn us x.1) W1 fun e W' =>
      (e = .returned (.bool true) ∧ J (pre ++ [x]) W' ∧ KpB w.heap.size B B W1 W') ∨ (e = .returned (.bool false) ∧ Jx (pre ++ [x]) W'))
    (hb : Below w.heap.size w W) (hl : Boxed W B 29 (.slice a n cap)) (h0 : J [] W) :
    CallsIn Fence.wide NN Try.prog 126 #[.func (.yield l) #[] #[], .pointer (some ⟨B, 0, none⟩)] W fun e W' => (∃ v, e = .returned v) ∧
      ((∃ xs, xs = List.finRange n ∧ J xs W') ∨ (∃ pre, pre <+: List.finRange n ∧ Jx pre W')) := by
  refine callsIn_of_wp Try.func126 rfl trivial ?_ rfl
  simp only [Try.ntmps126, List.size_toArray, List.length_cons, List.length_nil, Nat.reduceAdd, Nat.reduceSub, Array.replicate_succ, Array.replicate_zero, List.push_toArray, List.append_toArray, List.nil_append, List.cons_append]
  have cl := hl.cell
  have hw0 : IntKind.i64.wrap ((n : Int) - 1) = (n : Int) - 1 := by rw [IntKind.wrap_i64]; omega
  gi_wp2
  gi_loopw [3] (fun i wr => ∃ (j : Nat), j ≤ n ∧ i = .int .i64 ((n : Int) - 1 - j) ∧ J ((List.finRange n).take j) wr ∧ KpB w.heap.size B B W wr) (fun i _ => ((intOf i) + 1).toNat)
  case atStart => exact ⟨0, Nat.zero_le _, by simp, h0, KpB.refl _ _ _ _⟩
  case round =>
    obtain ⟨j, hj, rfl, hJs, hk⟩ := hrel
    by_cases hlt : j < n
    · have hbw : Below w.heap.size w wr := hb.trans hk.below
      obtain ⟨b1, o1, rfl, hb1, hd1⟩ := (hp.below hbw) (by omega)
      obtain ⟨x0, x1, xo⟩ := hd1 (n - 1 - j) (by omega)
      have cl' := (Boxed.kpl hl hk).cell
      have ei : (n : Int) - 1 - j = ((n - 1 - j : Nat) : Int) := by omega
      have hfl : ((List.finRange n).take j).length < n := by rw [fin_len hj]; exact hlt
      have HU : Hid ((List.finRange n).take (j + 1) = (List.finRange n).take j ++ [⟨j, hlt⟩]) := fin_take hlt
      obtain ⟨fn', tmps, assign, body, hy, hR⟩ := hY ((List.finRange n).take j) ⟨j, hlt⟩ wr hJs hfl
      dsimp only [encK] at hy
      have hw1 : IntKind.i64.wrap (((n - 1 - j : Nat) : Int) - 1) = ((n - 1 - j : Nat) : Int) - 1 := by rw [IntKind.wrap_i64]; omega
      have e2 : ((n - 1 - j : Nat) : Int) - 1 = (n : Int) - 1 - ((j + 1 : Nat) : Int) := by omega
      have hin : n - 1 - j < n := by omega
      rw [ei]
      obtain ⟨p, hpp⟩ : ∃ p, Hid (n - 1 - j = p) := ⟨_, rfl⟩
      rw [hpp.out] at x0 x1 xo hy hw1 e2 hin ⊢
      have HE2 : Hid ((p : Int) - 1 = (n : Int) - 1 - ((j + 1 : Nat) : Int)) := e2
      have hpz : (p : Int) < (n : Int) := by omega
      obtain ⟨z, hz⟩ : ∃ z, Hid (fn p = z) := ⟨_, rfl⟩
      obtain ⟨u, hu⟩ : ∃ u, Hid (us p = u) := ⟨_, rfl⟩
      rw [hz.out] at x0 hy
      rw [hu.out] at x1 xo hy
      clear hd1 cl hJs ei e2
      gi_wp2
      refine hR.mono ?_
      rintro e W3 (⟨rfl, hJ3, hk3⟩ | ⟨rfl, hJx3⟩)
      · clear hy hR x0 x1 cl'
        have hJ4 : Hid (J ((List.finRange n).take (j + 1)) W3) := by show J _ W3; rw [HU.out]; exact hJ3
        have HP : Hid (p + j + 1 = n) := by show _ = _; have := hpp.out; omega
        clear hJ3 hpp
        gi_wp2
        go_roundw
        case rel => exact ⟨j + 1, by omega, by rw [HE2.out], hJ4.out, hk.trans hk3⟩
        case measure => simp [intOf]; try omega
      · have hJ4 : Hid (Jx ((List.finRange n).take (j + 1)) W3) := by show Jx _ W3; rw [HU.out]; exact hJx3
        clear hy hR x0 x1 cl' hJx3
        gi_wp2
        refine bodyPost_ret (results_none rfl _ _ _) rfl ?_
        exact ⟨⟨_, rfl⟩, .inr ⟨_, List.take_prefix _ _, hJ4.out⟩⟩
    · obtain rfl : j = n := by omega
      have hJe : Hid (J (List.finRange j) wr) := by
        show J _ wr
        have e : (List.finRange j).take j = List.finRange j := List.take_of_length_le (by simp)
        rw [← e]; exact hJs
      have hz : ¬ (0 : Int) ≤ (j : Int) - 1 - j := by omega
      clear hJs
      gi_wp2
      go_end0
      first
        | exact ⟨⟨_, rfl⟩, .inl hJe.out⟩
        | exact ⟨⟨_, rfl⟩, .inl ⟨_, rfl, hJe.out⟩⟩

theorem back_stops (NN : Nat) (hNN : 1 ≤ NN) (B : Nat) (a : Option Addr) (n cap : Nat) (fn : Nat → Int) (us : Nat → Value) (w : World) (hp : WCells w a n fn us) (hn : n ≤ 281474976710656)
    (W0 : World) (hb : Below w.heap.size w W0) (hl : Boxed W0 B 29 (.slice a n cap)) :
    SeqStopsK Fence.wide NN Try.prog 126 #[.pointer (some ⟨B, 0, none⟩)] (fun x : Fin n => encK n fn us x.1) (KpB w.heap.size B B) (fun xs => xs = List.finRange n) (fun pre => pre <+: List.finRange n) n W0 :=
  fun l J Jx W hW _ _ hY h0 => back1_in NN hNN l B a n cap fn us w hp hn J Jx W hY (hb.trans (hW.mono hb.size)) (Boxed.below' hl hW) h0

set_option maxHeartbeats 1000000 in
/-- slices.Backward boxes its argument. -/
theorem backward_in (NN : Nat) (a : Option Addr) (n cap : Nat) (w : World) :
    CallsIn Fence.wide NN Try.prog 87 #[.slice a n cap] w fun e w' => e = .returned (.func (.func 126) #[] #[.pointer (some ⟨w.heap.size, 0, none⟩)]) ∧ w' = w.alloc (.cells #[.slice a n cap] 29) := by
  refine callsIn_of_wp Try.func87 rfl trivial ?_ rfl
  simp only [Try.ntmps87, List.size_toArray, List.length_cons, List.length_nil, Nat.reduceAdd, Nat.reduceSub, Array.replicate_succ, Array.replicate_zero, List.push_toArray, List.append_toArray, List.nil_append, List.cons_append]
  gi_wp2
  go_ret
  exact ⟨rfl, rfl⟩
end Go.Proofs.Ytidjcppfolipjaa

/-
  The model's ReadSec.
-/
namespace Go.Proofs.Ytidjcppfolipjaa
open Go.RowKit
set_option maxRecDepth 4000

/-- What ReadSec comes to. -/
def ReadTo (w : World) (D : PDisk) (n : Int) (e : Ending) (w' : World) : Prop := ∃ (v : Value) (ok : Bool), e = .returned (.tuple #[v, .bool ok]) ∧ (ok = true ↔ HasS D n) ∧ OB w' w.heap.size v (readB D n) ∧ Below w.heap.size w w'

set_option maxHeartbeats 8000000 in
theorem specReadSec_any (v : Value) (D : PDisk) (n : Int) (w : World) (h : KView w v D) (hf : KFine D) :
    Calls Try.prog 36 #[v, .int .i64 n] w (ReadTo w D n) := by
  obtain ⟨ib, hib, hb0, hb1, hb2⟩ := info_parts Try.info5
  obtain ⟨sa, sc, ca, cc, fa, fc, rfl, hs, hc, hfv⟩ := h.is
  clear h hfv
  have hns := hf.ns
  have hnc := hf.nc
  have HH : Hid (SView w sa sc D.secs ∧ WView w ca cc D.cache ∧ KFine D) := ⟨hs, hc, hf⟩
  clear hs hc hf
  have hB0 := box5_start w (.cells #[.slice sa D.secs.length sc, .slice ca D.cache.length cc, .int .i64 D.ops, .slice fa D.faults.length fc, .bool D.down] 32)
  have hs1 : IntKind.i64.wrap ((D.secs.length : Int) - 1) = (D.secs.length : Int) - 1 := by rw [IntKind.wrap_i64]; omega
  have hs2 : IntKind.i64.wrap ((D.cache.length : Int) - 1) = (D.cache.length : Int) - 1 := by rw [IntKind.wrap_i64]; omega
  by_cases hr : 0 ≤ n ∧ n < D.secs.length
  case neg =>
    have hV := fun W => l1In_no n 0 ((D.secs.length : Int) - 1) W (by omega)
    obtain ⟨hBw0, -⟩ := box5_below hB0
    go_enter Try.func36, Try.ntmps36
    go_wp2_with fail
    refine (hV _).mono ?_
    rintro e w1 ⟨rfl, rfl⟩
    clear hV
    go_wp2
    refine bodyPost_ret (v := .tuple #[.slice (some ⟨w.heap.size + 1, 0, none⟩) 0 0, .bool false]) (by simp [results, Try.results36, go_sem]) rfl ⟨_, false, rfl, by simpa [HasS] using hr, ?_, hBw0.alloc (by simp) _⟩
    rw [readB_none hr]
    exact ⟨_, 0, rfl, Nat.le_refl _, (fun e => by cases e), by simp, .inl rfl⟩
  have hV := fun W => l1In_yes n 0 ((D.secs.length : Int) - 1) W hr.1 (by omega)
  go_enter Try.func36, Try.ntmps36
  go_wp2_with fail
  refine (hV _).mono ?_
  rintro e w1 ⟨rfl, rfl⟩
  clear hV
  go_wp2
  go_loopg [6] D.cache.length (fun q i wr => ∃ k : Nat, k ≤ D.cache.length ∧ q = k ∧ i = .int .i64 ((k : Int) - 1) ∧ Below (w.heap.size + 1) (w.alloc (.cells #[.slice sa D.secs.length sc, .slice ca D.cache.length cc, .int .i64 D.ops, .slice fa D.faults.length fc, .bool D.down] 32)) wr ∧ Hid (lastW D.cache n D.cache.length = lastW D.cache n k))
  case atStart => exact ⟨D.cache.length, Nat.le_refl _, rfl, rfl, hB0, rfl⟩
  case round =>
    clear hB0
    obtain ⟨k, hk, hqk, rfl, hB5, HL⟩ := hrel
    obtain ⟨hB, -⟩ := box5_below hB5
    obtain ⟨y0, y1, y2, y3, y4⟩ := box5 hB5
    have hbE : Below w.heap.size w (wr.alloc (.cells #[] 5)) := hB.alloc hB.size _
    have hbE0 : Below wr.heap.size wr (wr.alloc (.cells #[] 5)) := (Below.refl _ _).alloc (Nat.le_refl _) _
    have hE := own_emptyK wr 5 1
    have hszE : wr.heap.size ≤ (wr.alloc (.cells #[] 5)).heap.size := hbE0.size
    by_cases hlt : 0 < k
    · obtain ⟨j, rfl⟩ : ∃ j, k = j + 1 := ⟨k - 1, by omega⟩
      have hjl : j < D.cache.length := by omega
      obtain ⟨b1, o1, a3, c3, esa, hb1', x0, x1, v0, vn⟩ := wview_at (wview_below HH.out.2.1 hB) hjl
      subst esa
      have hkz : (0 : Int) ≤ (j : Int) := by omega
      have hjz : (j : Int) < (D.cache.length : Int) := by omega
      have e1 : ((j + 1 : Nat) : Int) - 1 = (j : Int) := by omega
      rw [e1]
      have hw1 : IntKind.i64.wrap ((j : Int) - 1) = (j : Int) - 1 := by rw [IntKind.wrap_i64]; omega
      have hpl := HH.out.2.2.cache _ (List.getElem_mem hjl)
      by_cases hN : (D.cache[j]).1 = n
      · have HRB : Hid (readB D n = (D.cache[j]).2) := readB_hit hr (by rw [HL.out, lastW_hit hjl hN])
        rw [hN] at x0
        have v0' := v0.below hbE0
        have hnews := view_news v0'
        have hby := lv_bytes v0
        have hno : a3 = none → (D.cache[j]).2.length = 0 ∧ c3 = 0 := fun e => by have h1 := vn e; have h2 := v0.le; omega
        have hlen : (bl (D.cache[j]).2).length = (D.cache[j]).2.length * 1 := by rw [bl_len]; omega
        obtain ⟨p0, hp0⟩ := hidEx (D.cache[j]).2.length
        obtain ⟨pl, hpl'⟩ := hidEx (D.cache[j]).2
        have hp0v := hp0.out
        have hq : (n == n) = true := beq_self_eq_true _
        rw [hpl'.out] at hnews hby hlen HRB hp0v
        rw [hp0.out] at x1 hno hpl
        rw [hp0v] at hlen
        have hlb : w.heap.size < wr.heap.size := by have := hB5.size; simp at this; omega
        have y1' : (wr.alloc (.cells #[] 5)).cell? ⟨w.heap.size, 1, none⟩ = some (.slice (some ⟨b1, o1, none⟩) D.cache.length cc) := by rw [hbE0.cell (p := ⟨w.heap.size, 1, none⟩) hlb]; exact y1
        have x1' : (wr.alloc (.cells #[] 5)).cell? ⟨b1, o1 + j * 2 + 1, none⟩ = some (.slice a3 p0 c3) := by rw [hbE0.cell (p := ⟨b1, o1 + j * 2 + 1, none⟩) hb1']; exact x1
        clear v0 v0' HL
        go_wp2_with (at_builtin; refine wpList_append_opt rfl (.tmp 31) (.tmp 37) 27 rfl wr.heap.size 5 ib (.int .u8 0) 1 1 Try.underlying27 hib hb0 hb1 hb2 rfl (by decide) _ _ _ rfl hE a3 p0 c3 (bl pl) rfl hno hlen hnews (bl_one _) (by unfold maxLen; omega) (by omega) hszE ?_)
        intro v8 w8 hE8 hgr8
        try rw [Nat.zero_add, List.nil_append] at hE8
        have HO : Hid (OB w8 w.heap.size v8 pl ∧ Below w.heap.size w w8) := ⟨(ob_own_any hE8 hp0v.symm hby).mono hB.size, hbE.grown hgr8 hbE.size (fun k e => by have h1 := own_geK hE k e; have h2 := hB.size; omega)⟩
        clear hE8 hgr8 hE hnews
        go_wp2
        exact bodyPost_ret (v := .tuple #[v8, .bool true]) (by simp [results, Try.results36, go_sem]) rfl ⟨v8, true, rfl, by simpa [HasS] using hr, by rw [HRB.out]; exact HO.out.1, HO.out.2⟩
      · have HL2 : Hid (lastW D.cache n D.cache.length = lastW D.cache n j) := by
          show _ = _
          rw [HL.out, lastW_miss hjl hN]
        obtain ⟨p1, hp1⟩ := hidEx (D.cache[j]).1
        obtain ⟨p0, hp0⟩ := hidEx (D.cache[j]).2.length
        have hN' : ¬ p1 = n := by rw [← hp1.out]; exact hN
        have hq : (p1 == n) = false := beq_eq_false_iff_ne.2 hN'
        rw [hp1.out] at x0
        rw [hp0.out] at x1
        clear v0 HL hE hbE hbE0 hN hpl
        go_wp2
        go_roundg j
        case measure => omega
        case rel => exact ⟨j, by omega, rfl, by go_num, hB5, HL2⟩
    · obtain rfl : k = 0 := by omega
      have hkz : ¬ (0 : Int) ≤ ((0 : Nat) : Int) - 1 := by omega
      obtain ⟨m, hm⟩ : ∃ m : Nat, n = m := ⟨n.toNat, by omega⟩
      subst hm
      have hml : m < D.secs.length := by omega
      obtain ⟨b1, o1, a3, c3, esa, hb1', x0, v0, vn⟩ := sview_at (sview_below HH.out.1 hB) hml
      subst esa
      have hmz : (m : Int) < (D.secs.length : Int) := by omega
      have hpl := HH.out.2.2.sec _ (List.getElem_mem hml)
      have HRB : Hid (readB D (m : Int) = D.secs[m]) := readB_sec hr (by rw [HL.out]; rfl) hml
      have v0' := v0.below hbE0
      have hnews := view_news v0'
      have hby := lv_bytes v0
      have hno : a3 = none → (D.secs[m]).length = 0 ∧ c3 = 0 := fun e => by have h1 := vn e; have h2 := v0.le; omega
      have hlen : (bl D.secs[m]).length = (D.secs[m]).length * 1 := by rw [bl_len]; omega
      obtain ⟨p0, hp0⟩ := hidEx (D.secs[m]).length
      obtain ⟨pl, hpl'⟩ := hidEx D.secs[m]
      have hp0v := hp0.out
      rw [hpl'.out] at hnews hby hlen HRB hp0v
      rw [hp0.out] at x0 hno hpl
      rw [hp0v] at hlen
      have hlb : w.heap.size < wr.heap.size := by have := hB5.size; simp at this; omega
      have y0' : (wr.alloc (.cells #[] 5)).cell? ⟨w.heap.size, 0, none⟩ = some (.slice (some ⟨b1, o1, none⟩) D.secs.length sc) := by rw [hbE0.cell (p := ⟨w.heap.size, 0, none⟩) hlb]; exact y0
      have x0' : (wr.alloc (.cells #[] 5)).cell? ⟨b1, o1 + m, none⟩ = some (.slice a3 p0 c3) := by rw [hbE0.cell (p := ⟨b1, o1 + m, none⟩) hb1']; exact x0
      clear v0 v0' HL
      go_wp2_with (at_builtin; refine wpList_append_opt rfl (.tmp 39) (.tmp 44) 27 rfl wr.heap.size 5 ib (.int .u8 0) 1 1 Try.underlying27 hib hb0 hb1 hb2 rfl (by decide) _ _ _ rfl hE a3 p0 c3 (bl pl) rfl hno hlen hnews (bl_one _) (by unfold maxLen; omega) (by omega) hszE ?_)
      intro v8 w8 hE8 hgr8
      try rw [Nat.zero_add, List.nil_append] at hE8
      have HO : Hid (OB w8 w.heap.size v8 pl ∧ Below w.heap.size w w8) := ⟨(ob_own_any hE8 hp0v.symm hby).mono hB.size, hbE.grown hgr8 hbE.size (fun k e => by have h1 := own_geK hE k e; have h2 := hB.size; omega)⟩
      clear hE8 hgr8 hE hnews
      go_wp2
      exact bodyPost_ret (v := .tuple #[v8, .bool true]) (by simp [results, Try.results36, go_sem]) rfl ⟨v8, true, rfl, by simpa [HasS] using hr, by rw [HRB.out]; exact HO.out.1, HO.out.2⟩
end Go.Proofs.Ytidjcppfolipjaa

