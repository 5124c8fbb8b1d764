/-
  Together: DrawFlush12, Same, BeginsZ
-/
import Derived.Test.YtdhfbblameiloaaUP14
import Derived.Test.YtdhfbblameiloaaUP17
/-
  What DrawFlush draws.
-/
namespace Go.Proofs.Ytdhfbblameiloaa
open Go.RowKit
set_option maxRecDepth 4000

set_option maxHeartbeats 4000000 in
theorem drawFlush_any (ao : Option Addr) (n cap : Nat) (f : Nat → Int) (w : World) (hn : n ≤ 1048576) (hv : View w ao n cap f) :
    DrawsD 26 ao n cap w := by
  unfold DrawsD
  have hbA : Below w.heap.size w (w.alloc (.cells #[.slice none 0 0, .slice none 0 0, .int .i64 0, .slice none 0 0, .bool false] 32)) := (Below.refl _ _).alloc (Nat.le_refl _) _
  have hV := VN.new w 32 [.slice none 0 0, .slice none 0 0, .int .i64 0, .slice none 0 0, .bool false]
  have hD := drawWriteSec_any ao n cap f (w.alloc (.cells #[.slice none 0 0, .slice none 0 0, .int .i64 0, .slice none 0 0, .bool false] 32)) hn (hv.below hbA)
  go_enter Try.func26, Try.ntmps26
  go_wp2_with fail
  obtain ⟨WA, hWA⟩ : ∃ x, Hid ((w.alloc (.cells #[.slice none 0 0, .slice none 0 0, .int .i64 0, .slice none 0 0, .bool false] 32)) = x) := ⟨_, rfl⟩
  rw [hWA.out] at hbA hV hD ⊢
  refine hD.mono ?_
  rintro e w1 ⟨dv, D, z, b, m, c, F, rfl, hk, hok, hfew, -, -, hb1, hku⟩
  have hAs : w.heap.size < WA.heap.size := hV.lt
  replace hV := hV.below hb1
  have hB := hbA.trans (hb1.mono hbA.size)
  have hltR := hV.lt
  clear hD hb1 hbA hWA hv
  obtain ⟨sa, sc, ca, cc, fa, fc, rfl, -, -, -⟩ := hk.is
  have hbX : Below w1.heap.size w1 (w1.alloc (.cells #[.slice sa D.secs.length sc, .slice ca D.cache.length cc, .int .i64 D.ops, .slice fa D.faults.length fc, .bool D.down] 32)) := (Below.refl _ _).alloc (Nat.le_refl _) _
  have hX := VN.new w1 32 [.slice sa D.secs.length sc, .slice ca D.cache.length cc, .int .i64 D.ops, .slice fa D.faults.length fc, .bool D.down]
  replace hV := hV.below hbX
  replace hk := hk.below hbX
  replace hB := hB.trans (hbX.mono hB.size)
  obtain ⟨W1, hW1⟩ : ∃ x, Hid ((w1.alloc (.cells #[.slice sa D.secs.length sc, .slice ca D.cache.length cc, .int .i64 D.ops, .slice fa D.faults.length fc, .bool D.down] 32)) = x) := ⟨_, rfl⟩
  obtain ⟨X, hXe⟩ : ∃ x, Hid (w1.heap.size = x) := ⟨_, rfl⟩
  rw [hW1.out] at hV hk hB hX hbX
  rw [hXe.out] at hX hltR
  have hbX9 := hbX
  clear hbX
  have x0 : W1.cell? ⟨w1.heap.size, 0, none⟩ = some (.slice sa D.secs.length sc) := by rw [hXe.out]; exact hX.cell 0
  have r0 : W1.cell? ⟨w.heap.size, 0, none⟩ = some (.slice none 0 0) := hV.cell 0
  have z0 := hV.fz 0
  have x1 : W1.cell? ⟨w1.heap.size, 1, none⟩ = some (.slice ca D.cache.length cc) := by rw [hXe.out]; exact hX.cell 1
  have r1 : W1.cell? ⟨w.heap.size, 1, none⟩ = some (.slice none 0 0) := hV.cell 1
  have z1 := hV.fz 1
  have x2 : W1.cell? ⟨w1.heap.size, 2, none⟩ = some (.int .i64 D.ops) := by rw [hXe.out]; exact hX.cell 2
  have r2 : W1.cell? ⟨w.heap.size, 2, none⟩ = some (.int .i64 0) := hV.cell 2
  have z2 := hV.fz 2
  have x3 : W1.cell? ⟨w1.heap.size, 3, none⟩ = some (.slice fa D.faults.length fc) := by rw [hXe.out]; exact hX.cell 3
  have r3 : W1.cell? ⟨w.heap.size, 3, none⟩ = some (.slice none 0 0) := hV.cell 3
  have z3 := hV.fz 3
  have x4 : W1.cell? ⟨w1.heap.size, 4, none⟩ = some (.bool D.down) := by rw [hXe.out]; exact hX.cell 4
  have r4 : W1.cell? ⟨w.heap.size, 4, none⟩ = some (.bool false) := hV.cell 4
  have z4 := hV.fz 4
  have hr5 := ret5_vn (.slice sa D.secs.length sc) (.slice ca D.cache.length cc) (.int .i64 D.ops) (.slice fa D.faults.length fc) (.bool D.down) hV
  have hb5 := ret5_below (.slice sa D.secs.length sc) (.slice ca D.cache.length cc) (.int .i64 D.ops) (.slice fa D.faults.length fc) (.bool D.down) (Below.refl w.heap.size W1) (Nat.le_refl _)
  have hbl := ret5_below (.slice sa D.secs.length sc) (.slice ca D.cache.length cc) (.int .i64 D.ops) (.slice fa D.faults.length fc) (.bool D.down) hB (Nat.le_refl _)
  have HK : Hid _ := And.intro (hku _ ((Up.ofBelow hbX9).trans (Up.five (R := w.heap.size) (w := W1) (.slice sa D.secs.length sc) (.slice ca D.cache.length cc) (.int .i64 D.ops) (.slice fa D.faults.length fc) (.bool D.down) hAs))) (And.intro hok (And.intro hfew hbl))
  have m0 := hr5.cell 0
  have m1 := hr5.cell 1
  have m2 := hr5.cell 2
  have m3 := hr5.cell 3
  have m4 := hr5.cell 4
  simp only [List.getElem?_cons_zero, List.getElem?_cons_succ] at m0 m1 m2 m3 m4
  have HM : Hid _ := And.intro m0 (And.intro m1 (And.intro m2 (And.intro m3 m4)))
  clear hr5 m0 m1 m2 m3 m4 hV hX hB hb5 hbl hk hok hfew hku hbX9 hltR
  go_wp2_with (rw [hW1.out])
  obtain ⟨m0, m1, m2, m3, m4⟩ := HM.out
  exact bodyPost_ret (v := .agg #[.slice sa D.secs.length sc, .slice ca D.cache.length cc, .int .i64 D.ops, .slice fa D.faults.length fc, .bool D.down]) (by simp [results, Try.results26, go_sem, m0, m1, m2, m3, m4]) rfl ⟨_, D, rfl, HK.out.1, HK.out.2.1, HK.out.2.2.1, HK.out.2.2.2⟩
end Go.Proofs.Ytdhfbblameiloaa

/-
  laws.begins.
-/
namespace Go.Proofs.Ytdhfbblameiloaa
open Go.RowKit
set_option maxRecDepth 4000

set_option maxHeartbeats 1000000 in
theorem begins_any (b1 o1 n c1 : Nat) (a2 : Option Addr) (m c2 : Nat) (f g : Nat → Int) (w : World) (h1 : View w (some ⟨b1, o1, none⟩) n c1 f) (h2 : View w a2 m c2 g) (hm : m ≤ 281474976710656) :
    Calls Try.prog 29 #[.slice (some ⟨b1, o1, none⟩) n c1, .slice a2 m c2] w fun e w' => e = .returned (.bool (decide (m ≤ n ∧ lof m f = lof m g))) ∧ Below w.heap.size w w' := by
  have hc := h1.le
  by_cases hle : m ≤ n
  · have hz : (m : Int) ≤ (n : Int) := by omega
    have hzc : (m : Int) ≤ (c1 : Int) := by omega
    obtain ⟨x, hx⟩ : ∃ x, Hid (decide (lof m f = lof m g) = x) := ⟨_, rfl⟩
    have HD : Hid (decide (m ≤ n ∧ lof m f = lof m g) = x) := by show _ = _; rw [← hx.out]; simp [hle]
    rw [HD.out]
    go_enter Try.func29, Try.ntmps29
    go_wp2_with fail
    refine (sameBytes_any (some ⟨b1, o1, none⟩) a2 m m c1 c2 f g w (h1.take hle) h2 hm hm).mono ?_
    rw [hx.out]
    rintro e w1 ⟨rfl, hb⟩
    go_wp2
    go_ret
    exact ⟨rfl, hb⟩
  · have hz : (n : Int) < (m : Int) := by omega
    have HD : Hid (decide (m ≤ n ∧ lof m f = lof m g) = false) := by show _ = _; simp [hle]
    rw [HD.out]
    go_enter Try.func29, Try.ntmps29
    go_wp2
    go_ret
    exact ⟨rfl, Below.refl _ _⟩
end Go.Proofs.Ytdhfbblameiloaa

/-
  The laws' begins, at bytes that may be nil.
-/
namespace Go.Proofs.Ytdhfbblameiloaa
open Go.RowKit
set_option maxRecDepth 4000

theorem begins_none (a2 : Option Addr) (m c2 : Nat) (g : Nat → Int) (w : World) (h2 : View w a2 m c2 g) (hm : m ≤ 281474976710656) :
    Calls Try.prog 29 #[.slice none 0 0, .slice a2 m c2] w fun e w' => e = .returned (.bool (decide (m = 0))) ∧ Below w.heap.size w w' := by
  by_cases h0 : m = 0
  · subst h0
    have hS := sameBytes_any none a2 0 0 0 c2 g g w ⟨Nat.le_refl _, fun i hi => absurd hi (Nat.not_lt_zero _), fun h => absurd h (Nat.lt_irrefl _)⟩ h2 (by omega) (by omega)
    simp only [decide_true] at hS ⊢
    go_enter Try.func29, Try.ntmps29
    go_wp2_with fail
    refine hS.mono ?_
    rintro e w1 ⟨rfl, hb⟩
    go_wp2
    go_ret
    exact ⟨rfl, hb⟩
  · have hz : (0 : Int) < (m : Int) := by omega
    have HD : Hid (decide (m = 0) = false) := by show _ = _; simp [h0]
    rw [HD.out]
    clear h0
    go_enter Try.func29, Try.ntmps29
    go_wp2
    go_ret
    exact ⟨rfl, Below.refl _ _⟩
theorem begins_empty (p : Addr) (c1 : Nat) (a2 : Option Addr) (m c2 : Nat) (g : Nat → Int) (w : World) (h2 : View w a2 m c2 g) (hm : m ≤ 281474976710656) :
    Calls Try.prog 29 #[.slice (some p) 0 c1, .slice a2 m c2] w fun e w' => e = .returned (.bool (decide (m = 0))) ∧ Below w.heap.size w w' := by
  by_cases h0 : m = 0
  · subst h0
    have hS := sameBytes_any (some p) a2 0 0 c1 c2 g g w ⟨Nat.zero_le _, fun i hi => absurd hi (Nat.not_lt_zero _), fun h => absurd h (Nat.lt_irrefl _)⟩ h2 (by omega) (by omega)
    simp only [decide_true] at hS ⊢
    go_enter Try.func29, Try.ntmps29
    go_wp2_with fail
    refine hS.mono ?_
    rintro e w1 ⟨rfl, hb⟩
    go_wp2
    go_ret
    exact ⟨rfl, hb⟩
  · have hz : (0 : Int) < (m : Int) := by omega
    have HD : Hid (decide (m = 0) = false) := by show _ = _; simp [h0]
    rw [HD.out]
    clear h0
    go_enter Try.func29, Try.ntmps29
    go_wp2
    go_ret
    exact ⟨rfl, Below.refl _ _⟩
/-- Whatever the bytes are. -/
theorem begins_lv (a1 : Option Addr) (n c1 : Nat) (a2 : Option Addr) (m c2 : Nat) (f g : Nat → Int) (w : World) (h1 : View w a1 n c1 f) (hn : a1 = none → c1 = 0) (h2 : View w a2 m c2 g) (hm : m ≤ 281474976710656) :
    Calls Try.prog 29 #[.slice a1 n c1, .slice a2 m c2] w fun e w' => e = .returned (.bool (decide (m ≤ n ∧ lof m f = lof m g))) ∧ Below w.heap.size w w' := by
  have hle := h1.le
  cases a1 with
  | none =>
    have := hn rfl
    obtain rfl : c1 = 0 := this
    obtain rfl : n = 0 := by omega
    have hD : decide (m ≤ 0 ∧ lof m f = lof m g) = decide (m = 0) := by
      by_cases h : m = 0
      · subst h; simp [lof]
      · simp [h]
    rw [hD]
    exact begins_none a2 m c2 g w h2 hm
  | some p =>
    by_cases h0 : n = 0
    · subst h0
      have hD : decide (m ≤ 0 ∧ lof m f = lof m g) = decide (m = 0) := by
        by_cases h : m = 0
        · subst h; simp [lof]
        · simp [h]
      rw [hD]
      exact begins_empty p c1 a2 m c2 g w h2 hm
    · obtain ⟨b, o, e, -⟩ := h1.cells (by omega)
      cases e
      exact begins_any b o n c1 a2 m c2 f g w h1 h2 hm
end Go.Proofs.Ytdhfbblameiloaa

