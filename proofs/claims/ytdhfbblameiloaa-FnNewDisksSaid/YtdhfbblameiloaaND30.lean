/-
  Together: DrawDisks12, DrawDiskNew12
-/
import Derived.Test.YtdhfbblameiloaaND24
import Derived.Test.YtdhfbblameiloaaND29
import Derived.Test.YtdhfbblameiloaaND20
import Derived.Test.YtdhfbblameiloaaND2
/-
  What DrawDiskOk, DrawTurnOn and DrawReadSec draw.
-/
namespace Go.Proofs.Ytdhfbblameiloaa
open Go.RowKit
set_option maxRecDepth 4000

/-- A disk that was drawn reads. -/
theorem AD.kview {w : World} {g : Nat} {ao : Option Addr} {n cap : Nat} {f : Nat → Int} {e : Ending} {W : World} (h : AD w g ao n cap f e W) : ∃ (dv : Value) (D : PDisk), e = .returned dv ∧ KView W dv D ∧ KFine D ∧ (3 ≤ D.secs.length ∧ D.secs.length ≤ 48) ∧ CN w g ao n cap f W := by
  obtain ⟨D, B, X, gs, sc, ca, cc, fa, fc, ss, cs, rfl, hM, hl, hok, hf, hc, -, -⟩ := h
  exact ⟨_, D, rfl, hM.kview hl (by omega), hok, hf, hc⟩
/-- A disk comes out of a function that draws nothing else. -/
def DrawsD (fn : Nat) (a : Option Addr) (n cap : Nat) (w : World) : Prop :=
  Calls Try.prog fn #[.slice a n cap] w fun e w' => ∃ (dv : Value) (D : PDisk), e = .returned dv ∧ KView w' dv D ∧ KFine D ∧ (3 ≤ D.secs.length ∧ D.secs.length ≤ 48) ∧ Below w.heap.size w w'

set_option maxHeartbeats 4000000 in
theorem drawDiskOk_any (ao : Option Addr) (n cap : Nat) (f : Nat → Int) (w : World) (hn : n ≤ 1048576) (hv : View w ao n cap f) :
    DrawsD 32 ao n cap w := by
  unfold DrawsD
  have hbA : Below w.heap.size w (w.alloc (.cells #[.slice none 0 0, .slice none 0 0, .int .i64 0, .slice none 0 0, .bool false] 32)) := (Below.refl _ _).alloc (Nat.le_refl _) _
  have hR := VN.new w 32 [.slice none 0 0, .slice none 0 0, .int .i64 0, .slice none 0 0, .bool false]
  have hlt : w.heap.size < (w.alloc (.cells #[.slice none 0 0, .slice none 0 0, .int .i64 0, .slice none 0 0, .bool false] 32)).heap.size := by simp
  have hvA := hv.below hbA
  go_enter Try.func32, Try.ntmps32
  go_wp2_with fail
  obtain ⟨WA, hWA⟩ : ∃ x, Hid (w.alloc (.cells #[.slice none 0 0, .slice none 0 0, .int .i64 0, .slice none 0 0, .bool false] 32) = x) := ⟨_, rfl⟩
  rw [hWA.out] at hbA hR hlt hvA ⊢
  refine (l1New_any ao n cap f WA hn hvA).mono ?_
  rintro e w1 ⟨rfl, hC1, hb1⟩
  obtain ⟨g, hg⟩ := hidEx WA.heap.size
  rw [hg.out] at hC1 hlt ⊢
  replace hR := hR.below hb1
  have hB := hbA.trans (hb1.mono hbA.size)
  have hgl := hC1.lt
  clear hbA hvA hb1 hg hWA hv
  go_wp2_with fail
  refine (l12Any_any g ao n cap f w1 hn hC1).mono ?_
  intro e w2 hAD
  obtain ⟨D, B, X, gs, sc, ca, cc, fa, fc, ss, cs, rfl, hM, hl, hok, hf, hc, hB1, hX⟩ := hAD
  unfold dval
  replace hR := hR.block (hc.but.block _ hR.lt (by omega))
  replace hB := hB.trans (⟨hc.but.os, hc.but.tape, hc.but.output, hc.but.size, fun k hk => hc.but.block k (by have := hB.size; omega) (by omega)⟩ : Below w.heap.size w1 w2)
  have r0 : w2.cell? ⟨w.heap.size, 0, none⟩ = some (.slice none 0 0) := hR.cell 0
  have z0 := hR.fz 0
  have r1 : w2.cell? ⟨w.heap.size, 1, none⟩ = some (.slice none 0 0) := hR.cell 1
  have z1 := hR.fz 1
  have r2 : w2.cell? ⟨w.heap.size, 2, none⟩ = some (.int .i64 0) := hR.cell 2
  have z2 := hR.fz 2
  have r3 : w2.cell? ⟨w.heap.size, 3, none⟩ = some (.slice none 0 0) := hR.cell 3
  have z3 := hR.fz 3
  have r4 : w2.cell? ⟨w.heap.size, 4, none⟩ = some (.bool false) := hR.cell 4
  have z4 := hR.fz 4
  have hr5 := ret5_vn (.slice (some ⟨gs, 0, none⟩) D.secs.length sc) (.slice ca D.cache.length cc) (.int .i64 D.ops) (.slice fa D.faults.length fc) (.bool D.down) hR
  have hms := hM.up (Up.five (B := B) (R := w.heap.size) (w := w2) (.slice (some ⟨gs, 0, none⟩) D.secs.length sc) (.slice ca D.cache.length cc) (.int .i64 D.ops) (.slice fa D.faults.length fc) (.bool D.down) (by omega)) hX
  have HE : Hid _ := And.intro (hms.kview hl (by omega)) (And.intro hok (And.intro hf (ret5_below (.slice (some ⟨gs, 0, none⟩) D.secs.length sc) (.slice ca D.cache.length cc) (.int .i64 D.ops) (.slice fa D.faults.length fc) (.bool D.down) hB (Nat.le_refl _))))
  have m0 := hr5.cell 0
  have m1 := hr5.cell 1
  have m2 := hr5.cell 2
  have m3 := hr5.cell 3
  have m4 := hr5.cell 4
  simp only [List.getElem?_cons_zero, List.getElem?_cons_succ] at m0 m1 m2 m3 m4
  have HM : Hid _ := And.intro m0 (And.intro m1 (And.intro m2 (And.intro m3 m4)))
  clear hr5 hms m0 m1 m2 m3 m4 hM hR hB hc hok hl
  go_wp2
  obtain ⟨m0, m1, m2, m3, m4⟩ := HM.out
  exact bodyPost_ret (v := .agg #[.slice (some ⟨gs, 0, none⟩) D.secs.length sc, .slice ca D.cache.length cc, .int .i64 D.ops, .slice fa D.faults.length fc, .bool D.down]) (by simp [results, Try.results32, go_sem, m0, m1, m2, m3, m4]) rfl ⟨_, D, rfl, HE.out.1, HE.out.2.1, HE.out.2.2.1, HE.out.2.2.2⟩

set_option maxHeartbeats 4000000 in
theorem drawTurnOn_any (ao : Option Addr) (n cap : Nat) (f : Nat → Int) (w : World) (hn : n ≤ 1048576) (hv : View w ao n cap f) :
    DrawsD 34 ao n cap w := by
  unfold DrawsD
  have hbA : Below w.heap.size w (w.alloc (.cells #[.slice none 0 0, .slice none 0 0, .int .i64 0, .slice none 0 0, .bool false] 32)) := (Below.refl _ _).alloc (Nat.le_refl _) _
  have hR := VN.new w 32 [.slice none 0 0, .slice none 0 0, .int .i64 0, .slice none 0 0, .bool false]
  have hlt : w.heap.size < (w.alloc (.cells #[.slice none 0 0, .slice none 0 0, .int .i64 0, .slice none 0 0, .bool false] 32)).heap.size := by simp
  have hvA := hv.below hbA
  go_enter Try.func34, Try.ntmps34
  go_wp2_with fail
  obtain ⟨WA, hWA⟩ : ∃ x, Hid (w.alloc (.cells #[.slice none 0 0, .slice none 0 0, .int .i64 0, .slice none 0 0, .bool false] 32) = x) := ⟨_, rfl⟩
  rw [hWA.out] at hbA hR hlt hvA ⊢
  refine (l1New_any ao n cap f WA hn hvA).mono ?_
  rintro e w1 ⟨rfl, hC1, hb1⟩
  obtain ⟨g, hg⟩ := hidEx WA.heap.size
  rw [hg.out] at hC1 hlt ⊢
  replace hR := hR.below hb1
  have hB := hbA.trans (hb1.mono hbA.size)
  have hgl := hC1.lt
  clear hbA hvA hb1 hg hWA hv
  go_wp2_with fail
  refine (l12Any_any g ao n cap f w1 hn hC1).mono ?_
  intro e w2 hAD
  obtain ⟨D, B, X, gs, sc, ca, cc, fa, fc, ss, cs, rfl, hM, hl, hok, hf, hc, hB1, hX⟩ := hAD
  unfold dval
  replace hR := hR.block (hc.but.block _ hR.lt (by omega))
  replace hB := hB.trans (⟨hc.but.os, hc.but.tape, hc.but.output, hc.but.size, fun k hk => hc.but.block k (by have := hB.size; omega) (by omega)⟩ : Below w.heap.size w1 w2)
  have r0 : w2.cell? ⟨w.heap.size, 0, none⟩ = some (.slice none 0 0) := hR.cell 0
  have z0 := hR.fz 0
  have r1 : w2.cell? ⟨w.heap.size, 1, none⟩ = some (.slice none 0 0) := hR.cell 1
  have z1 := hR.fz 1
  have r2 : w2.cell? ⟨w.heap.size, 2, none⟩ = some (.int .i64 0) := hR.cell 2
  have z2 := hR.fz 2
  have r3 : w2.cell? ⟨w.heap.size, 3, none⟩ = some (.slice none 0 0) := hR.cell 3
  have z3 := hR.fz 3
  have r4 : w2.cell? ⟨w.heap.size, 4, none⟩ = some (.bool false) := hR.cell 4
  have z4 := hR.fz 4
  have hr5 := ret5_vn (.slice (some ⟨gs, 0, none⟩) D.secs.length sc) (.slice ca D.cache.length cc) (.int .i64 D.ops) (.slice fa D.faults.length fc) (.bool D.down) hR
  have hms := hM.up (Up.five (B := B) (R := w.heap.size) (w := w2) (.slice (some ⟨gs, 0, none⟩) D.secs.length sc) (.slice ca D.cache.length cc) (.int .i64 D.ops) (.slice fa D.faults.length fc) (.bool D.down) (by omega)) hX
  have HE : Hid _ := And.intro (hms.kview hl (by omega)) (And.intro hok (And.intro hf (ret5_below (.slice (some ⟨gs, 0, none⟩) D.secs.length sc) (.slice ca D.cache.length cc) (.int .i64 D.ops) (.slice fa D.faults.length fc) (.bool D.down) hB (Nat.le_refl _))))
  have m0 := hr5.cell 0
  have m1 := hr5.cell 1
  have m2 := hr5.cell 2
  have m3 := hr5.cell 3
  have m4 := hr5.cell 4
  simp only [List.getElem?_cons_zero, List.getElem?_cons_succ] at m0 m1 m2 m3 m4
  have HM : Hid _ := And.intro m0 (And.intro m1 (And.intro m2 (And.intro m3 m4)))
  clear hr5 hms m0 m1 m2 m3 m4 hM hR hB hc hok hl
  go_wp2
  obtain ⟨m0, m1, m2, m3, m4⟩ := HM.out
  exact bodyPost_ret (v := .agg #[.slice (some ⟨gs, 0, none⟩) D.secs.length sc, .slice ca D.cache.length cc, .int .i64 D.ops, .slice fa D.faults.length fc, .bool D.down]) (by simp [results, Try.results34, go_sem, m0, m1, m2, m3, m4]) rfl ⟨_, D, rfl, HE.out.1, HE.out.2.1, HE.out.2.2.1, HE.out.2.2.2⟩

set_option maxHeartbeats 4000000 in
theorem drawReadSec_any (ao : Option Addr) (n cap : Nat) (f : Nat → Int) (w : World) (hn : n ≤ 1048576) (hv : View w ao n cap f) :
    Calls Try.prog 35 #[.slice ao n cap] w fun e w' => ∃ (dv : Value) (D : PDisk) (z : Int), e = .returned (.tuple #[dv, .int .i64 z]) ∧ KView w' dv D ∧ KFine D ∧ (3 ≤ D.secs.length ∧ D.secs.length ≤ 48) ∧ (-1 ≤ z ∧ z ≤ 48) ∧ Below w.heap.size w w' := by
  have hbA : Below w.heap.size w (w.alloc (.cells #[.slice none 0 0, .slice none 0 0, .int .i64 0, .slice none 0 0, .bool false] 32)) := (Below.refl _ _).alloc (Nat.le_refl _) _
  have hR := VN.new w 32 [.slice none 0 0, .slice none 0 0, .int .i64 0, .slice none 0 0, .bool false]
  have hlt : w.heap.size < (w.alloc (.cells #[.slice none 0 0, .slice none 0 0, .int .i64 0, .slice none 0 0, .bool false] 32)).heap.size := by simp
  have hvA := hv.below hbA
  go_enter Try.func35, Try.ntmps35
  go_wp2_with fail
  obtain ⟨WA, hWA⟩ : ∃ x, Hid (w.alloc (.cells #[.slice none 0 0, .slice none 0 0, .int .i64 0, .slice none 0 0, .bool false] 32) = x) := ⟨_, rfl⟩
  rw [hWA.out] at hbA hR hlt hvA ⊢
  refine (l1New_any ao n cap f WA hn hvA).mono ?_
  rintro e w1 ⟨rfl, hC1, hb1⟩
  obtain ⟨g, hg⟩ := hidEx WA.heap.size
  rw [hg.out] at hC1 hlt ⊢
  replace hR := hR.below hb1
  have hB := hbA.trans (hb1.mono hbA.size)
  have hgl := hC1.lt
  clear hbA hvA hb1 hg hWA hv
  go_wp2_with fail
  refine (l12Any_any g ao n cap f w1 hn hC1).mono ?_
  intro e w2 hAD
  obtain ⟨D, B, X, gs, sc, ca, cc, fa, fc, ss, cs, rfl, hM, hl, hok, hf, hc, hB1, hX⟩ := hAD
  unfold dval
  replace hR := hR.block (hc.but.block _ hR.lt (by omega))
  replace hB := hB.trans (⟨hc.but.os, hc.but.tape, hc.but.output, hc.but.size, fun k hk => hc.but.block k (by have := hB.size; omega) (by omega)⟩ : Below w.heap.size w1 w2)
  have hC2 := hc.cur
  go_wp2_with fail
  refine (l12N_any g ao n cap f w2 hn hC2).mono ?_
  rintro e w3 ⟨z, rfl, hz0, hz1, hC3, hB3⟩
  replace hR := hR.block (hB3.block _ hR.lt (by omega))
  replace hM := hM.up (Up.ofBut hB3 (by omega)) hX
  replace hB := hB.trans (⟨hB3.os, hB3.tape, hB3.output, hB3.size, fun k hk => hB3.block k (by have := hB.size; omega) (by omega)⟩ : Below w.heap.size w2 w3)
  clear hC2 hC3 hB3
  have r0 : w3.cell? ⟨w.heap.size, 0, none⟩ = some (.slice none 0 0) := hR.cell 0
  have z0 := hR.fz 0
  have r1 : w3.cell? ⟨w.heap.size, 1, none⟩ = some (.slice none 0 0) := hR.cell 1
  have z1 := hR.fz 1
  have r2 : w3.cell? ⟨w.heap.size, 2, none⟩ = some (.int .i64 0) := hR.cell 2
  have z2 := hR.fz 2
  have r3 : w3.cell? ⟨w.heap.size, 3, none⟩ = some (.slice none 0 0) := hR.cell 3
  have z3 := hR.fz 3
  have r4 : w3.cell? ⟨w.heap.size, 4, none⟩ = some (.bool false) := hR.cell 4
  have z4 := hR.fz 4
  have hr5 := ret5_vn (.slice (some ⟨gs, 0, none⟩) D.secs.length sc) (.slice ca D.cache.length cc) (.int .i64 D.ops) (.slice fa D.faults.length fc) (.bool D.down) hR
  have hms := hM.up (Up.five (B := B) (R := w.heap.size) (w := w3) (.slice (some ⟨gs, 0, none⟩) D.secs.length sc) (.slice ca D.cache.length cc) (.int .i64 D.ops) (.slice fa D.faults.length fc) (.bool D.down) (by omega)) hX
  have HE : Hid _ := And.intro (hms.kview hl (by omega)) (And.intro hok (And.intro hf (ret5_below (.slice (some ⟨gs, 0, none⟩) D.secs.length sc) (.slice ca D.cache.length cc) (.int .i64 D.ops) (.slice fa D.faults.length fc) (.bool D.down) hB (Nat.le_refl _))))
  have m0 := hr5.cell 0
  have m1 := hr5.cell 1
  have m2 := hr5.cell 2
  have m3 := hr5.cell 3
  have m4 := hr5.cell 4
  simp only [List.getElem?_cons_zero, List.getElem?_cons_succ] at m0 m1 m2 m3 m4
  have HM : Hid _ := And.intro m0 (And.intro m1 (And.intro m2 (And.intro m3 m4)))
  clear hr5 hms m0 m1 m2 m3 m4 hM hR hB hc hok hl
  go_wp2
  obtain ⟨m0, m1, m2, m3, m4⟩ := HM.out
  exact bodyPost_ret (v := .tuple #[.agg #[.slice (some ⟨gs, 0, none⟩) D.secs.length sc, .slice ca D.cache.length cc, .int .i64 D.ops, .slice fa D.faults.length fc, .bool D.down], .int .i64 z]) (by simp [results, Try.results35, go_sem, m0, m1, m2, m3, m4]) rfl ⟨_, D, z, rfl, HE.out.1, HE.out.2.1, HE.out.2.2.1, ⟨hz0, hz1⟩, HE.out.2.2.2⟩
end Go.Proofs.Ytdhfbblameiloaa

/-
  What DrawDiskNew draws.
-/
namespace Go.Proofs.Ytdhfbblameiloaa
open Go.RowKit
set_option maxRecDepth 4000

set_option maxHeartbeats 4000000 in
theorem drawDiskNew_any (ao : Option Addr) (n cap : Nat) (f : Nat → Int) (w : World) (hn : n ≤ 1048576) (hv : View w ao n cap f) :
    Calls Try.prog 30 #[.slice ao n cap] w fun e w' => ∃ (z : Int) (l : List PFault) (va : Option Addr) (vc : Nat), e = .returned (.tuple #[.int .i64 z, .slice va l.length vc]) ∧ FView w' va vc l ∧ l.length ≤ 4 ∧ (3 ≤ z ∧ z ≤ 49) ∧ Below w.heap.size w w' := by
  obtain ⟨jf, hjf, fz0, fz1, fz2⟩ := infoFault
  go_enter Try.func30, Try.ntmps30
  go_wp2_with fail
  refine (l1New_any ao n cap f w hn hv).mono ?_
  rintro e w1 ⟨rfl, hC1, hb1⟩
  have hl1 := hC1.lt
  obtain ⟨g, hg⟩ := hidEx w.heap.size
  have hB : Below g w w1 := by rw [← hg.out]; exact hb1
  rw [hg.out] at hC1 hl1 ⊢
  clear hb1 hv
  go_wp2_with fail
  refine (l12FaultList_any g ao n cap f w1 hn hC1).mono ?_
  rintro e w2 ⟨l, v, rfl, hDF, hl3, hcn⟩
  have hO := hDF.own
  have hgl := hcn.lt
  clear hDF hC1
  go_wp2_with fail
  refine (l1Once_any g ao n cap f 6 w2 hn (by omega) (by omega) hcn.cur).mono ?_
  rintro e w3 ⟨bo, rfl, hC3, hO3⟩
  have hB3 := But.ofOnly hO3
  replace hO := own_grownN hO hB3.grown (fun j e => by have := (own_blkN hO e).1; simp; omega)
  replace hcn := hcn.next hC3 hB3
  clear hO3 hB3 hC3
  have HFIN : ∀ (l : List PFault) (va : Option Addr) (vc : Nat) (W : World) (z : Int), W.ownsRow w1.heap.size 79 3 (.slice va l.length vc) l.length (fcells l) → l.length ≤ 4 → z ∈ [(4 : Int), 7, 48, 3, 49] → CN w1 g ao n cap f W → (∃ (z' : Int) (l' : List PFault) (va' : Option Addr) (vc' : Nat), Ending.returned (.tuple #[.int .i64 z, .slice va l.length vc]) = .returned (.tuple #[.int .i64 z', .slice va' l'.length vc']) ∧ FView W va' vc' l' ∧ l'.length ≤ 4 ∧ (3 ≤ z' ∧ z' ≤ 49) ∧ Below g w W) := by
    intro l va vc W z hO hl hz hcn
    refine ⟨z, l, va, vc, rfl, own_fview hO, hl, by simp at hz; omega, hB.trans ⟨hcn.but.os, hcn.but.tape, hcn.but.output, hcn.but.size, fun k hk => hcn.but.block k (by omega) (by omega)⟩⟩
  have HF : Hid _ := HFIN
  clear HFIN
  cases bo with
  | false =>
    obtain ⟨va, vc, ev⟩ := own_form hO
    subst ev
    have hI := l1Int_mem g ao n cap f [4, 7, 48, 3, 49] w3.heap.size w3 rfl hn (by simp) (by simp) hcn.cur
    go_wp2_with fail
    refine hI.mono ?_
    rintro e w4 ⟨z, rfl, hz, hC4, hB4⟩
    replace hO := own_grownN hO hB4.grown (fun j e => by have := (own_blkN hO e).1; simp; omega)
    replace hcn := hcn.next hC4 hB4
    have HE : Hid _ := HF.out l va vc w4 z hO (by omega) hz hcn
    clear hI hO hcn hB4 hC4
    go_wp2
    go_ret2
    rw [hg.out]
    exact HE.out
  | true =>
    have hI := l1Int_mem g ao n cap f [0, 99, 100001] w3.heap.size w3 rfl hn (by simp) (by simp) hcn.cur
    go_wp2_with fail
    refine hI.mono ?_
    rintro e w4 ⟨z1, rfl, -, hC4, hB4⟩
    replace hO := own_grownN hO hB4.grown (fun j e => by have := (own_blkN hO e).1; simp; omega)
    replace hcn := hcn.next hC4 hB4
    clear hI hC4 hB4
    have hI := l1Int_mem g ao n cap f [-1, 0, 257] w4.heap.size w4 rfl hn (by simp) (by simp) hcn.cur
    go_wp2_with fail
    refine hI.mono ?_
    rintro e w5 ⟨z2, rfl, -, hC5, hB5⟩
    replace hO := own_grownN hO hB5.grown (fun j e => by have := (own_blkN hO e).1; simp; omega)
    replace hcn := hcn.next hC5 hB5
    clear hI hC5 hB5
    have hbO : Below w5.heap.size w5 (w5.alloc (.cells #[.int .i64 z1, .int .i64 0, .int .i64 z2] 79)) := (Below.refl _ _).alloc (Nat.le_refl _) _
    have hcl := cells3New w5 z1 0 z2 79
    have hg6 : w5.grownBy (w5.alloc (.cells #[.int .i64 z1, .int .i64 0, .int .i64 z2] 79)) none := ⟨hbO.os, hbO.tape, hbO.output, hbO.size, fun k hk _ => hbO.block k hk⟩
    have hO6 := own_grownN hO hg6 (fun j e => by simp)
    have hR6 := hcn.below hbO
    have hsz6 := hR6.size
    clear hO hcn hbO hg6
    go_wp2_with (at_builtin; go_must (refine wpList_append_own _ rfl (.tmp 12) (.tmp 20) 30 rfl w1.heap.size 79 jf (.agg #[.int .i64 0, .int .i64 0, .int .i64 0]) 3 24 Try.underlying30 hjf fz0 fz1 fz2 rfl (by decide) _ _ _ rfl hO6 ⟨w5.heap.size, 0, none⟩ 1 1 [.int .i64 z1, .int .i64 0, .int .i64 z2] rfl rfl hcl (by intro u hu; simp at hu; rcases hu with rfl | rfl | rfl <;> rfl) (by unfold maxLen; omega) (by omega) hsz6 ?_))
    intro v7 w7 hO7 hg7 _
    have hR7 := hR6.grown hg7 (fun j e => (own_blkN hO6 e).1)
    obtain ⟨va, vc, ev⟩ := own_form hO7
    subst ev
    have hO8 : w7.ownsRow w1.heap.size 79 3 (.slice va (l ++ [(⟨z1, 0, z2⟩ : PFault)]).length vc) (l ++ [(⟨z1, 0, z2⟩ : PFault)]).length (fcells (l ++ [(⟨z1, 0, z2⟩ : PFault)])) := by
      rw [List.length_append, fcells_push]; exact hO7
    have hl4 : (l ++ [(⟨z1, 0, z2⟩ : PFault)]).length ≤ 4 := by simp; omega
    have hle : (l ++ [(⟨z1, 0, z2⟩ : PFault)]).length = l.length + 1 := by simp
    obtain ⟨l2, hl2⟩ : ∃ x, Hid (l ++ [(⟨z1, 0, z2⟩ : PFault)] = x) := ⟨_, rfl⟩
    rw [hl2.out] at hO8 hl4 hle
    have HLE : Hid (l2.length = l.length + 1) := hle
    rw [← HLE.out]
    clear hO7 hO6 hg7 hR6 hcl hl2 hle
    have hI := l1Int_mem g ao n cap f [4, 7, 48, 3, 49] w7.heap.size w7 rfl hn (by simp) (by simp) hR7.cur
    go_wp2_with fail
    refine hI.mono ?_
    rintro e w8 ⟨z, rfl, hz, hC8, hB8⟩
    replace hO8 := own_grownN hO8 hB8.grown (fun j e => by have := (own_blkN hO8 e).1; simp; omega)
    replace hR7 := hR7.next hC8 hB8
    have HE : Hid _ := HF.out l2 va vc w8 z hO8 hl4 hz hR7
    clear hI hO8 hR7 hB8 hC8
    go_wp2
    go_ret2
    rw [hg.out]
    exact HE.out
end Go.Proofs.Ytdhfbblameiloaa

