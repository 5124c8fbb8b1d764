/-
  LawFlushed
-/
import Derived.Test.YtdhfbblameiloaaUP23
import Derived.Test.YtdhfbblameiloaaUP17
import Derived.Test.YtdhfbblameiloaaUP18
import Derived.Test.YtdhfbblameiloaaUP21
import Derived.Test.YtdhfbblameiloaaUP22
import Derived.Test.YtdhfbblameiloaaUP20
import Derived.Test.YtdhfbblameiloaaUP15
import Derived.Deep.RegionHeld3
import Derived.Deep.LoopGhost
/-
  The law FnFlushed.
-/
namespace Go.Proofs.Ytdhfbblameiloaa
open Go.RowKit
set_option maxRecDepth 4000

theorem says_is {w : World} {P : Prop} {fn : Nat} {v : Value} (h : Calls Try.prog fn #[v] w (Says w P)) (b : Bool) (hb : b = true ↔ P) : Calls Try.prog fn #[v] w fun e w' => e = .returned (.bool b) ∧ Below w.heap.size w w' := by
  refine h.mono ?_
  rintro e w' ⟨r, rfl, hr, hbl⟩
  have : r = b := by
    cases r <;> cases b <;> simp_all
  rw [this]
  exact ⟨rfl, hbl⟩
/-- s is the beginning of b. -/
def Heads (b s : List Int) : Prop := s.length ≤ b.length ∧ lof s.length (bf b) = lof s.length (bf s)
theorem heads_take (b : List Int) (q : Nat) : Heads b (b.take q) := by
  refine ⟨by simp [List.length_take]; omega, ?_⟩
  unfold lof
  refine List.ext_getElem (by simp) (fun i h1 h2 => ?_)
  have hi : i < (b.take q).length := by simpa using h1
  have hq : i < q := by simp [List.length_take] at hi; omega
  simp [bf, hq]
/-- What each sector has behind a flush in whose midst the power went, or that was not begun. -/
def Torn (D D1 : PDisk) : Prop := ∀ i, i < D.secs.length → D1.secs[i]? = D.secs[i]? ∨ ∃ (k : Nat) (h : k < D.cache.length), (D.cache[k]).1 = (i : Int) ∧ ∃ q, D1.secs[i]? = some ((D.cache[k]).2.take q)
theorem flush_all {D : PDisk} (h : OkD D) : (flushD D).1.secs.length = D.secs.length ∧ OkD (flushD D).1 ∧ (((flushD D).2 = 9 ∧ Torn D (flushD D).1 ∧ ((flushD D).1.down = true ∨ 100000 ≤ D.ops)) ∨ ((flushD D).2 = 0 ∧ ∀ i, i < D.secs.length → (flushD D).1.secs[i]? = some (readB D i))) := by
  rcases flush_ways h with ⟨h1, h2, h3⟩ | ⟨f, h1, h2, h3⟩ | ⟨h1, h2, h3⟩
  · rw [h1, h2]
    exact ⟨rfl, h, .inl ⟨rfl, fun i _ => .inl rfl, h3⟩⟩
  · refine ⟨by rw [h2]; exact settleL_len _ _, h3, .inl ⟨h1, fun i hi => ?_, .inl (by rw [h2]; rfl)⟩⟩
    rw [h2]
    rcases lose_sec (D := { D with ops := D.ops + 1 }) f i with h4 | ⟨k, hk, h4, q, h5⟩
    · exact .inl h4
    · have := (h.2.1.2 k hk).1
      exact .inr ⟨k, hk, by have e : ((D.cache[k]).1.toNat : Int) = (i : Int) := by exact congrArg Int.ofNat h4
                            omega, q, h5⟩
  · refine ⟨by rw [h2]; exact settleL_len _ _, h3, .inr ⟨h1, fun i hi => ?_⟩⟩
    rw [h2]
    exact calm_sec (D := { D with ops := D.ops + 1 }) h.2.1 hi
/-- What the walk carries into the loops. -/
structure DFk (w : World) (X3 X4 : Nat) (dc xc : List Value) (v3 v4 : Value) (D D1 : PDisk) (W : World) : Prop where
  x3 : VN W X3 32 dc
  x4 : VN W X4 32 xc
  k3 : KView W v3 D
  k4 : KView W v4 D1
  below : Below w.heap.size w W
theorem DFk.on {w : World} {X3 X4 : Nat} {dc xc : List Value} {v3 v4 : Value} {D D1 : PDisk} {W W' : World} (h : DFk w X3 X4 dc xc v3 v4 D D1 W) (hb : Below W.heap.size W W') : DFk w X3 X4 dc xc v3 v4 D D1 W' :=
  ⟨h.x3.below hb, h.x4.below hb, h.k3.below hb, h.k4.below hb, h.below.trans (hb.mono h.below.size)⟩
theorem sec_of {W : World} {a b c : Option Addr} {n1 m1 n2 m2 n3 m3 : Nat} {x : Int} {d : Bool} {D : PDisk} (h : KView W (.agg #[.slice a n1 m1, .slice b n2 m2, .int .i64 x, .slice c n3 m3, .bool d]) D) : SView W a m1 D.secs ∧ WView W b m2 D.cache := by
  obtain ⟨_, _, _, _, _, _, e1, a1, a2, -⟩ := h.is
  simp only [Value.agg.injEq, Array.mk.injEq, List.cons.injEq, Value.slice.injEq] at e1
  obtain ⟨⟨rfl, -, rfl⟩, ⟨rfl, -, rfl⟩, -⟩ := e1
  exact ⟨a1, a2⟩

set_option maxHeartbeats 8000000 in
theorem lawFlushed (ao : Option Addr) (n cap : Nat) (f : Nat → Int) (w : World) (hv : View w ao n cap f) (hn63 : n ≤ 9223372036854775807) :
    Calls Try.prog 5 #[.slice ao n cap] w fun e w' => e = .returned (.bool true) ∧ Below w.heap.size w w' := by
  by_cases hbig : 1048576 < n
  · have hd : decide ((1048576 : Int) < (n : Int)) = true := by simp; omega
    go_enter Try.func5, Try.ntmps5
    go_wp2_with fail
    refine (big_any ao n cap w hn63).mono ?_
    rw [hd]
    rintro e _ ⟨rfl, rfl⟩
    go_wp2
    go_ret
    exact ⟨rfl, Below.refl _ _⟩
  have hd : decide ((1048576 : Int) < (n : Int)) = false := by simp; omega
  have hn : n ≤ 1048576 := by omega
  clear hbig
  have hDr := drawFlush_any ao n cap f w hn hv
  unfold DrawsD at hDr
  clear hv
  go_enter Try.func5, Try.ntmps5
  go_wp2_with fail
  refine (big_any ao n cap w hn63).mono ?_
  rw [hd]
  rintro e _ ⟨rfl, rfl⟩
  clear hd hn63
  go_wp2_with fail
  refine hDr.mono ?_
  rintro e w1 ⟨dv, D, rfl, hk, hfD, hfw, hB⟩
  clear hDr
  obtain ⟨dsa, dsc, dca, dcc, dfa, dfc, rfl, -, -, -⟩ := hk.is
  have hD48 := hfw.2
  clear hfw
  have hbX : Below w1.heap.size w1 (w1.alloc (.cells #[.slice dsa D.secs.length dsc, .slice dca D.cache.length dcc, .int .i64 D.ops, .slice dfa D.faults.length dfc, .bool D.down] 32)) := (Below.refl _ _).alloc (Nat.le_refl _) _
  have h3 := VN.new w1 32 [.slice dsa D.secs.length dsc, .slice dca D.cache.length dcc, .int .i64 D.ops, .slice dfa D.faults.length dfc, .bool D.down]
  replace hk := hk.below hbX
  replace hB := hB.trans (hbX.mono hB.size)
  clear hbX
  obtain ⟨W1, hW1⟩ : ∃ x, Hid ((w1.alloc (.cells #[.slice dsa D.secs.length dsc, .slice dca D.cache.length dcc, .int .i64 D.ops, .slice dfa D.faults.length dfc, .bool D.down] 32)) = x) := ⟨_, rfl⟩
  obtain ⟨X3, hX3e⟩ : ∃ x, Hid (w1.heap.size = x) := ⟨_, rfl⟩
  rw [hW1.out] at h3 hk hB
  rw [hX3e.out] at h3
  have HW : Hid ((OkD D → (flushD D).1.secs.length = D.secs.length ∧ OkD (flushD D).1 ∧ (((flushD D).2 = 9 ∧ Torn D (flushD D).1 ∧ ((flushD D).1.down = true ∨ 100000 ≤ D.ops)) ∨ ((flushD D).2 = 0 ∧ ∀ i, i < D.secs.length → (flushD D).1.secs[i]? = some (readB D i)))) ∧ (¬ OkD D → (flushD D).1 = D ∧ (flushD D).2 = 1)) := ⟨fun h => flush_all h, fun h => by rw [flushD_no h]; exact ⟨rfl, rfl⟩⟩
  obtain ⟨D1, hD1⟩ := hidEx (flushD D).1
  obtain ⟨code, hcode⟩ := hidEx (flushD D).2
  have hI := implFlush_any _ D W1 hk hfD
  rw [hD1.out, hcode.out] at hI HW
  have s0 : W1.cell? ⟨w1.heap.size, 0, none⟩ = some (.slice dsa D.secs.length dsc) := by rw [hX3e.out]; exact h3.cell 0
  have s1 : W1.cell? ⟨w1.heap.size, 1, none⟩ = some (.slice dca D.cache.length dcc) := by rw [hX3e.out]; exact h3.cell 1
  have s2 : W1.cell? ⟨w1.heap.size, 2, none⟩ = some (.int .i64 D.ops) := by rw [hX3e.out]; exact h3.cell 2
  have s3 : W1.cell? ⟨w1.heap.size, 3, none⟩ = some (.slice dfa D.faults.length dfc) := by rw [hX3e.out]; exact h3.cell 3
  have s4 : W1.cell? ⟨w1.heap.size, 4, none⟩ = some (.bool D.down) := by rw [hX3e.out]; exact h3.cell 4
  go_wp2_with (rw [hW1.out])
  rw [hX3e.out]
  clear s0 s1 s2 s3 s4
  refine hI.mono ?_
  rintro e w2 ⟨vx, rfl, hOx, hb2⟩
  clear hI hW1 hX3e
  replace hk := hk.below hb2
  replace hB := hB.trans (hb2.mono hB.size)
  replace h3 := h3.below hb2
  clear hb2
  have hkx := hOx.view
  clear hOx
  obtain ⟨xsa, xsc, xca, xcc, xfa, xfc, rfl, -, -, -⟩ := hkx.is
  have hbX : Below w2.heap.size w2 (w2.alloc (.cells #[.slice xsa D1.secs.length xsc, .slice xca D1.cache.length xcc, .int .i64 D1.ops, .slice xfa D1.faults.length xfc, .bool D1.down] 32)) := (Below.refl _ _).alloc (Nat.le_refl _) _
  have h4 := VN.new w2 32 [.slice xsa D1.secs.length xsc, .slice xca D1.cache.length xcc, .int .i64 D1.ops, .slice xfa D1.faults.length xfc, .bool D1.down]
  replace hk := hk.below hbX
  replace hB := hB.trans (hbX.mono hB.size)
  replace h3 := h3.below hbX
  replace hkx := hkx.below hbX
  clear hbX
  obtain ⟨W2, hW2⟩ : ∃ x, Hid ((w2.alloc (.cells #[.slice xsa D1.secs.length xsc, .slice xca D1.cache.length xcc, .int .i64 D1.ops, .slice xfa D1.faults.length xfc, .bool D1.down] 32)) = x) := ⟨_, rfl⟩
  obtain ⟨X4, hX4e⟩ : ∃ x, Hid (w2.heap.size = x) := ⟨_, rfl⟩
  rw [hW2.out] at h4 hk hB h3 hkx
  rw [hX4e.out] at h4
  have hI := specFlush_any _ D W2 hk hfD
  rw [hD1.out, hcode.out] at hI
  have s0 : W2.cell? ⟨X3, 0, none⟩ = some (.slice dsa D.secs.length dsc) := h3.cell 0
  have s1 : W2.cell? ⟨X3, 1, none⟩ = some (.slice dca D.cache.length dcc) := h3.cell 1
  have s2 : W2.cell? ⟨X3, 2, none⟩ = some (.int .i64 D.ops) := h3.cell 2
  have s3 : W2.cell? ⟨X3, 3, none⟩ = some (.slice dfa D.faults.length dfc) := h3.cell 3
  have s4 : W2.cell? ⟨X3, 4, none⟩ = some (.bool D.down) := h3.cell 4
  go_wp2_with (rw [hW2.out])
  rw [hX4e.out]
  clear s0 s1 s2 s3 s4
  refine hI.mono ?_
  rintro e w3 ⟨ysa, ysc, yca, ycc, yfa, yfc, rfl, hky, hb3⟩
  clear hI hW2 hX4e hD1 hcode
  replace hk := hk.below hb3
  replace hB := hB.trans (hb3.mono hB.size)
  replace h3 := h3.below hb3
  replace hkx := hkx.below hb3
  replace h4 := h4.below hb3
  clear hb3
  unfold dval at hky ⊢
  have hbX : Below w3.heap.size w3 (w3.alloc (.cells #[.slice ysa D1.secs.length ysc, .slice yca D1.cache.length ycc, .int .i64 D1.ops, .slice yfa D1.faults.length yfc, .bool D1.down] 32)) := (Below.refl _ _).alloc (Nat.le_refl _) _
  have h8 := VN.new w3 32 [.slice ysa D1.secs.length ysc, .slice yca D1.cache.length ycc, .int .i64 D1.ops, .slice yfa D1.faults.length yfc, .bool D1.down]
  replace hk := hk.below hbX
  replace hB := hB.trans (hbX.mono hB.size)
  replace h3 := h3.below hbX
  replace hkx := hkx.below hbX
  replace h4 := h4.below hbX
  replace hky := hky.below hbX
  clear hbX
  obtain ⟨W3, hW3⟩ : ∃ x, Hid ((w3.alloc (.cells #[.slice ysa D1.secs.length ysc, .slice yca D1.cache.length ycc, .int .i64 D1.ops, .slice yfa D1.faults.length yfc, .bool D1.down] 32)) = x) := ⟨_, rfl⟩
  obtain ⟨X8, hX8e⟩ : ∃ x, Hid (w3.heap.size = x) := ⟨_, rfl⟩
  rw [hW3.out] at h8 hk hB h3 hkx h4 hky
  rw [hX8e.out] at h8
  have hfx : KFine D1 := by
    by_cases h : OkD D
    · exact (HW.out.1 h).2.1.fine
    · rw [(HW.out.2 h).1]; exact hfD
  have hcc : (code != code) = false := bne_self_eq_false _
  have hSC : Calls Try.prog 21 #[.agg #[.slice xsa D1.secs.length xsc, .slice xca D1.cache.length xcc, .int .i64 D1.ops, .slice xfa D1.faults.length xfc, .bool D1.down], .agg #[.slice ysa D1.secs.length ysc, .slice yca D1.cache.length ycc, .int .i64 D1.ops, .slice yfa D1.faults.length yfc, .bool D1.down]] W3 fun e w' => e = .returned (.bool true) ∧ Below W3.heap.size W3 w' :=
    sameDisk_alike D1 _ _ _ _ _ _ _ _ _ _ _ _ _ _ W3 (sec_of hkx).1 (sec_of hkx).2 (sec_of hky).1 (sec_of hky).2 hfx
  have y0 : W3.cell? ⟨w3.heap.size, 0, none⟩ = some (.slice ysa D1.secs.length ysc) := by rw [hX8e.out]; exact h8.cell 0
  have y1 : W3.cell? ⟨w3.heap.size, 1, none⟩ = some (.slice yca D1.cache.length ycc) := by rw [hX8e.out]; exact h8.cell 1
  have y2 : W3.cell? ⟨w3.heap.size, 2, none⟩ = some (.int .i64 D1.ops) := by rw [hX8e.out]; exact h8.cell 2
  have y3 : W3.cell? ⟨w3.heap.size, 3, none⟩ = some (.slice yfa D1.faults.length yfc) := by rw [hX8e.out]; exact h8.cell 3
  have y4 : W3.cell? ⟨w3.heap.size, 4, none⟩ = some (.bool D1.down) := by rw [hX8e.out]; exact h8.cell 4
  have x0 : W3.cell? ⟨X4, 0, none⟩ = some (.slice xsa D1.secs.length xsc) := h4.cell 0
  have x1 : W3.cell? ⟨X4, 1, none⟩ = some (.slice xca D1.cache.length xcc) := h4.cell 1
  have x2 : W3.cell? ⟨X4, 2, none⟩ = some (.int .i64 D1.ops) := h4.cell 2
  have x3 : W3.cell? ⟨X4, 3, none⟩ = some (.slice xfa D1.faults.length xfc) := h4.cell 3
  have x4 : W3.cell? ⟨X4, 4, none⟩ = some (.bool D1.down) := h4.cell 4
  go_wp2_with (rw [hW3.out])
  refine hSC.mono ?_
  rintro e w4 ⟨rfl, hb4⟩
  clear x0 x1 x2 x3 x4 y0 y1 y2 y3 y4
  clear hSC hcc hW3
  replace hk := hk.below hb4
  replace hB := hB.trans (hb4.mono hB.size)
  replace h3 := h3.below hb4
  replace hkx := hkx.below hb4
  replace h4 := h4.below hb4
  replace hky := hky.below hb4
  replace h8 := h8.below hb4
  clear hb4 hky h8
  try rw [hX8e.out]
  clear hX8e
  have s0 : w4.cell? ⟨X3, 0, none⟩ = some (.slice dsa D.secs.length dsc) := h3.cell 0
  have s1 : w4.cell? ⟨X3, 1, none⟩ = some (.slice dca D.cache.length dcc) := h3.cell 1
  have s2 : w4.cell? ⟨X3, 2, none⟩ = some (.int .i64 D.ops) := h3.cell 2
  have s3 : w4.cell? ⟨X3, 3, none⟩ = some (.slice dfa D.faults.length dfc) := h3.cell 3
  have s4 : w4.cell? ⟨X3, 4, none⟩ = some (.bool D.down) := h3.cell 4
  by_cases hok : OkD D
  · have hS1 := says_is (specDiskOk_any _ D w4 hk hfD) true (by simp [hok])
    obtain ⟨hsl, hokX, hways⟩ := HW.out.1 hok
    have HSL : Hid (D1.secs.length = D.secs.length) := hsl
    clear hsl
    clear HW
    have HFF : Hid (KFine D ∧ KFine D1 ∧ OkD D1) := ⟨hfD, hfx, hokX⟩
    have HN0 : Hid (DFk w X3 X4 [.slice dsa D.secs.length dsc, .slice dca D.cache.length dcc, .int .i64 D.ops, .slice dfa D.faults.length dfc, .bool D.down] [.slice xsa D1.secs.length xsc, .slice xca D1.cache.length xcc, .int .i64 D1.ops, .slice xfa D1.faults.length xfc, .bool D1.down] (.agg #[.slice dsa D.secs.length dsc, .slice dca D.cache.length dcc, .int .i64 D.ops, .slice dfa D.faults.length dfc, .bool D.down]) (.agg #[.slice xsa D1.secs.length xsc, .slice xca D1.cache.length xcc, .int .i64 D1.ops, .slice xfa D1.faults.length xfc, .bool D1.down]) D D1 w4) := ⟨h3, h4, hk, hkx, hB⟩
    clear h3 h4 hk hkx hB hfD hfx hokX hok
    go_wp2_with fail
    clear s0 s1 s2 s3 s4
    refine hS1.mono ?_
    rintro e w5 ⟨rfl, hb5⟩
    have HN : Hid _ := HN0.out.on hb5
    clear hS1 hb5 HN0
    rcases hways with ⟨hc9, htorn, hdn⟩ | ⟨hc0, hcalm⟩
    · subst hc9
      have HT : Hid (Torn D D1) := htorn
      have HDN : Hid (D1.down = true ∨ 100000 ≤ D.ops) := hdn
      clear htorn hdn
      go_wp2_with fail
      go_loopg [8] D.secs.length (fun q i wr => ∃ k : Nat, k ≤ D.secs.length ∧ q = D.secs.length - k ∧ i = .int .i64 k ∧ DFk w X3 X4 [.slice dsa D.secs.length dsc, .slice dca D.cache.length dcc, .int .i64 D.ops, .slice dfa D.faults.length dfc, .bool D.down] [.slice xsa D1.secs.length xsc, .slice xca D1.cache.length xcc, .int .i64 D1.ops, .slice xfa D1.faults.length xfc, .bool D1.down] (.agg #[.slice dsa D.secs.length dsc, .slice dca D.cache.length dcc, .int .i64 D.ops, .slice dfa D.faults.length dfc, .bool D.down]) (.agg #[.slice xsa D1.secs.length xsc, .slice xca D1.cache.length xcc, .int .i64 D1.ops, .slice xfa D1.faults.length xfc, .bool D1.down]) D D1 wr)
      case atStart => exact ⟨0, Nat.zero_le _, rfl, rfl, HN.out⟩
      case round =>
        clear HN
        obtain ⟨k, hk, rfl, rfl, hN⟩ := hrel
        have s0 : wr.cell? ⟨X3, 0, none⟩ = some (.slice dsa D.secs.length dsc) := hN.x3.cell 0
        have s1 : wr.cell? ⟨X3, 1, none⟩ = some (.slice dca D.cache.length dcc) := hN.x3.cell 1
        have s2 : wr.cell? ⟨X3, 2, none⟩ = some (.int .i64 D.ops) := hN.x3.cell 2
        have s3 : wr.cell? ⟨X3, 3, none⟩ = some (.slice dfa D.faults.length dfc) := hN.x3.cell 3
        have s4 : wr.cell? ⟨X3, 4, none⟩ = some (.bool D.down) := hN.x3.cell 4
        by_cases hlt : k < D.secs.length
        · have hkz : (k : Int) < (D.secs.length : Int) := by omega
          have hkz1 : (k : Int) < (D1.secs.length : Int) := by have := HSL.out; omega
          have hkl1 : k < D1.secs.length := by have := HSL.out; omega
          obtain ⟨y, hy⟩ := hidEx (readB D k)
          obtain ⟨hh, hhh⟩ := hidEx (hasB D k)
          have hyl := readB_len HFF.out.1 k
          have hR := (implReadSec_any _ D k wr hN.k3 HFF.out.1).mono (fun _ _ h => h.bto)
          rw [hy.out, hhh.out] at hR
          rw [hy.out] at hyl
          have HYk : Hid (readB D k = y) := hy.out
          go_wp2_with fail
          refine hR.mono ?_
          rintro e wx ⟨vr, rfl, hoz, hbx⟩
          clear hR s0 s1 s2 s3 s4
          replace hN := hN.on hbx
          obtain ⟨ra, rc, rfl, hvr⟩ := oz_view hoz
          clear hoz hbx hy hhh
          obtain ⟨b1, o1, a1, c1, ea1, hb1, p1, v1, -⟩ := sview_at (sec_of hN.k4).1 hkl1
          obtain ⟨b2, o2, a2, c2, ea2, hb2, p2, v2, -⟩ := sview_at (sec_of hN.k3).1 hlt
          have EA1 : Hid _ := ea1
          have EA2 : Hid _ := ea2
          clear ea1 ea2
          have hn1 : (D1.secs[k]).length ≤ 1048576 := HFF.out.2.1.sec _ (List.getElem_mem hkl1)
          have hn2 : (D.secs[k]).length ≤ 1048576 := HFF.out.1.sec _ (List.getElem_mem hlt)
          have HG1 : Hid (D1.secs[k]? = some (D1.secs[k])) := List.getElem?_eq_getElem hkl1
          have HG2 : Hid (D.secs[k]? = some (D.secs[k])) := List.getElem?_eq_getElem hlt
          obtain ⟨t1, ht1⟩ := hidEx (D1.secs[k])
          obtain ⟨t2, ht2⟩ := hidEx (D.secs[k])
          rw [ht1.out] at p1 v1 hn1 HG1
          rw [ht2.out] at p2 v2 hn2 HG2
          obtain ⟨qa, hqa⟩ := hidEx (decide (lof t1.length (bf t1) = lof t2.length (bf t2)))
          obtain ⟨qb, hqb⟩ := hidEx (decide (lof t1.length (bf t1) = lof y.length (bf y)))
          have hs1 := fun W (hW : Below wx.heap.size wx W) => sameBytes_any a1 a2 t1.length t2.length c1 c2 (bf t1) (bf t2) W (v1.below hW) (v2.below hW) (by omega) (by omega)
          have hs2 := fun W (hW : Below wx.heap.size wx W) => sameBytes_any a1 ra t1.length y.length c1 rc (bf t1) (bf y) W (v1.below hW) (hvr.below hW) (by omega) (by omega)
          simp only [hqa.out] at hs1
          simp only [hqb.out] at hs2
          have HQA : Hid (qa = true ↔ t1 = t2) := by
            show _ ↔ _
            rw [← hqa.out, lof_bf, lof_bf]; simp
          have HQB : Hid (qb = true ↔ t1 = y) := by
            show _ ↔ _
            rw [← hqb.out, lof_bf, lof_bf]; simp
          obtain ⟨n1, hn1e⟩ := hidEx t1.length
          obtain ⟨n2, hn2e⟩ := hidEx t2.length
          simp only [hn1e.out] at p1 hs1 hs2
          simp only [hn2e.out] at p2 hs1
          clear v1 v2 hvr hn1 hn2 hqa hqb hyl ht1 ht2 hn1e hn2e hkl1
          obtain ⟨wr2, hwr2⟩ : ∃ x, x = wx := ⟨_, rfl⟩
          rw [← hwr2] at hN hb1 hb2 p1 p2 hs1 hs2 ⊢
          clear hwr2
          have HLT : Hid (k < D.secs.length) := hlt
          cases qa with
          | true =>
            go_wp2_with fail
            have HS : Hid (∀ W, Below wr2.heap.size wr2 W → (W.cell? ⟨X4, 0, none⟩ = some (.slice (some ⟨b1, o1, none⟩) D1.secs.length xsc) ∧ W.cell? ⟨X3, 0, none⟩ = some (.slice (some ⟨b2, o2, none⟩) D.secs.length dsc)) ∧ W.cell? ⟨b1, o1 + k, none⟩ = some (.slice a1 n1 c1) ∧ W.cell? ⟨b2, o2 + k, none⟩ = some (.slice a2 n2 c2)) := fun W hW => ⟨⟨by rw [← EA1.out]; exact (hN.x4.below hW).cell 0, by rw [← EA2.out]; exact (hN.x3.below hW).cell 0⟩, by rw [hW.cell hb1]; exact p1, by rw [hW.cell hb2]; exact p2⟩
            have hbd : Below wr2.heap.size wr2 wr2.drew := (Below.refl _ _).drew
            replace hN := hN.on hbd
            refine wp_region_held_drew (S := fun W => (W.cell? ⟨X4, 0, none⟩ = some (.slice (some ⟨b1, o1, none⟩) D1.secs.length xsc) ∧ W.cell? ⟨X3, 0, none⟩ = some (.slice (some ⟨b2, o2, none⟩) D.secs.length dsc)) ∧ W.cell? ⟨b1, o1 + k, none⟩ = some (.slice a1 n1 c1) ∧ W.cell? ⟨b2, o2 + k, none⟩ = some (.slice a2 n2 c2)) (by kernel_rfl) (HS.out _ hbd) (fun hHeld => ?_)
            obtain ⟨wd, hwd⟩ := hidEx wr2.drew
            rw [hwd.out] at hN hbd hHeld ⊢
            clear hwd p1 p2
            refine' wpAnyH_take (i := 0) (v := _) rfl (by kernel_rfl) (by kernel_rfl) (by kernel_rfl) (fun _ _ _ h => h) (Or.inl ⟨by kernel_rfl, ?hfa1⟩) (by assumption) ?rfa1
            case hfa1 => intro W hW; obtain ⟨⟨c0, c1⟩, d0, d1⟩ := hW; go_simp; all_goals with_reducible rfl
            change wpAnyH _ _ _ _ _ _ _ (Act.put _ (some 59) _) _
            simp only [Act.put, List.setIfInBounds_toArray, List.set_cons_zero, List.set_cons_succ]
            refine' wpAnyH_take (i := 1) (v := _) rfl (by kernel_rfl) (by kernel_rfl) (by kernel_rfl) (fun _ _ _ h => h) (Or.inl ⟨by kernel_rfl, ?hfa2⟩) (by assumption) ?rfa2
            case hfa2 => intro W hW; obtain ⟨⟨c0, c1⟩, d0, d1⟩ := hW; go_simp; all_goals with_reducible rfl
            change wpAnyH _ _ _ _ _ _ _ (Act.put _ (some 60) _) _
            simp only [Act.put, List.setIfInBounds_toArray, List.set_cons_zero, List.set_cons_succ]
            refine' wpAnyH_take (i := 2) (v := _) rfl (by kernel_rfl) (by kernel_rfl) (by kernel_rfl) (fun _ _ _ h => h) (Or.inl ⟨by kernel_rfl, ?hfa3⟩) (by assumption) ?rfa3
            case hfa3 => intro W hW; obtain ⟨⟨c0, c1⟩, d0, d1⟩ := hW; go_simp; all_goals with_reducible rfl
            change wpAnyH _ _ _ _ _ _ _ (Act.put _ (some 61) _) _
            simp only [Act.put, List.setIfInBounds_toArray, List.set_cons_zero, List.set_cons_succ]
            refine' wpAnyH_take (i := 3) (v := _) rfl (by kernel_rfl) (by kernel_rfl) (by kernel_rfl) (fun _ _ _ h => h) (Or.inl ⟨by kernel_rfl, ?hfa4⟩) (by assumption) ?rfa4
            case hfa4 => intro W hW; obtain ⟨⟨c0, c1⟩, d0, d1⟩ := hW; go_simp; all_goals with_reducible rfl
            change wpAnyH _ _ _ _ _ _ _ (Act.put _ (some 62) _) _
            simp only [Act.put, List.setIfInBounds_toArray, List.set_cons_zero, List.set_cons_succ]
            refine' wpAnyH_take (i := 4) (v := _) rfl (by kernel_rfl) (by kernel_rfl) (by kernel_rfl) (fun _ _ _ h => h) (Or.inl ⟨by kernel_rfl, ?hfa5⟩) (by assumption) ?rfa5
            case hfa5 => intro W hW; obtain ⟨⟨c0, c1⟩, d0, d1⟩ := hW; go_simp; all_goals with_reducible rfl
            change wpAnyH _ _ _ _ _ _ _ (Act.put _ (some 63) _) _
            simp only [Act.put, List.setIfInBounds_toArray, List.set_cons_zero, List.set_cons_succ]
            refine' wpAnyH_take (i := 5) (v := _) rfl (by kernel_rfl) (by kernel_rfl) (by kernel_rfl) (fun _ _ _ h => h) (Or.inl ⟨by kernel_rfl, ?hfa6⟩) (by assumption) ?rfa6
            case hfa6 => intro W hW; obtain ⟨⟨c0, c1⟩, d0, d1⟩ := hW; go_simp; all_goals with_reducible rfl
            change wpAnyH _ _ _ _ _ _ _ (Act.put _ (some 64) _) _
            simp only [Act.put, List.setIfInBounds_toArray, List.set_cons_zero, List.set_cons_succ]
            refine' wpAnyH_take (i := 6) (v := _) rfl (by kernel_rfl) (by kernel_rfl) (by kernel_rfl) (fun _ _ _ h => h) (Or.inl ⟨by kernel_rfl, ?hfa7⟩) (by assumption) ?rfa7
            case hfa7 => intro W hW; obtain ⟨⟨c0, c1⟩, d0, d1⟩ := hW; go_simp; all_goals with_reducible rfl
            change wpAnyH _ _ _ _ _ _ _ (Act.put _ (some 65) _) _
            simp only [Act.put, List.setIfInBounds_toArray, List.set_cons_zero, List.set_cons_succ]
            refine' wpAnyH_take (i := 7) (v := _) rfl (by kernel_rfl) (by kernel_rfl) (by kernel_rfl) (fun _ _ _ h => h) (Or.inl ⟨by kernel_rfl, ?hfa8⟩) (by assumption) ?rfa8
            case hfa8 => intro W hW; obtain ⟨⟨c0, c1⟩, d0, d1⟩ := hW; go_simp; all_goals with_reducible rfl
            change wpAnyH _ _ _ _ _ _ _ (Act.put _ (some 66) _) _
            simp only [Act.put, List.setIfInBounds_toArray, List.set_cons_zero, List.set_cons_succ]
            refine' wpAnyH_take (i := 8) (v := _) rfl (by kernel_rfl) (by kernel_rfl) (by kernel_rfl) (fun _ _ _ h => h) (Or.inl ⟨by kernel_rfl, ?hfa9⟩) (by assumption) ?rfa9
            case hfa9 => intro W hW; obtain ⟨⟨c0, c1⟩, d0, d1⟩ := hW; go_simp; all_goals with_reducible rfl
            change wpAnyH _ _ _ _ _ _ _ (Act.put _ (some 67) _) _
            simp only [Act.put, List.setIfInBounds_toArray, List.set_cons_zero, List.set_cons_succ]
            refine' wpAnyH_take (i := 9) (v := _) rfl (by kernel_rfl) (by kernel_rfl) (by kernel_rfl) (fun _ _ _ h => h) (Or.inl ⟨by kernel_rfl, ?hfa10⟩) (by assumption) ?rfa10
            case hfa10 => intro W hW; obtain ⟨⟨c0, c1⟩, d0, d1⟩ := hW; go_simp; all_goals with_reducible rfl
            change wpAnyH _ _ _ _ _ _ _ (Act.put _ (some 68) _) _
            simp only [Act.put, List.setIfInBounds_toArray, List.set_cons_zero, List.set_cons_succ]
            refine wpAnyH_ready (rs := [10]) (by kernel_rfl) (by simp) ?_
            refine AllReadyH.cons rfl (fun KK hK => ?_) AllReadyH.nil
            go_simp
            refine (hs1 wd hbd).mono ?_
            rintro e wf ⟨rfl, hbf⟩
            have hN2 := hN.on hbf
            have hbd2 := hbd.trans (hbf.mono hbd.size)
            have hHf : (wf.cell? ⟨X4, 0, none⟩ = some (.slice (some ⟨b1, o1, none⟩) D1.secs.length xsc) ∧ wf.cell? ⟨X3, 0, none⟩ = some (.slice (some ⟨b2, o2, none⟩) D.secs.length dsc)) ∧ wf.cell? ⟨b1, o1 + k, none⟩ = some (.slice a1 n1 c1) ∧ wf.cell? ⟨b2, o2 + k, none⟩ = some (.slice a2 n2 c2) := HS.out wf hbd2
            clear hHeld hN hbd hbf hs1
            go_wp2_with fail
            refine hK.out _ _ hHf (fun hHeld => ?_)
            have hN := hN2
            have hbd := hbd2
            clear hN2 hbd2
            clear hK KK
            try simp only [Act.put, List.setIfInBounds_toArray, List.set_cons_zero, List.set_cons_succ]
            refine' wpAnyH_take (i := 11) (v := _) rfl (by kernel_rfl) (by kernel_rfl) (by kernel_rfl) (fun _ _ _ h => h) (Or.inl ⟨by kernel_rfl, ?hfa11⟩) (by assumption) ?rfa11
            case hfa11 => intro W hW; obtain ⟨⟨c0, c1⟩, d0, d1⟩ := hW; go_simp; all_goals with_reducible rfl
            change wpAnyH _ _ _ _ _ _ _ (Act.put _ (some 70) _) _
            simp only [Act.put, List.setIfInBounds_toArray, List.set_cons_zero, List.set_cons_succ]
            refine' wpAnyH_take (i := 12) (v := _) rfl (by kernel_rfl) (by kernel_rfl) (by kernel_rfl) (fun _ _ _ h => h) (Or.inl ⟨by kernel_rfl, ?hfa12⟩) (by assumption) ?rfa12
            case hfa12 => intro W hW; obtain ⟨⟨c0, c1⟩, d0, d1⟩ := hW; go_simp; all_goals with_reducible rfl
            change wpAnyH _ _ _ _ _ _ _ (Act.put _ (some 71) _) _
            simp only [Act.put, List.setIfInBounds_toArray, List.set_cons_zero, List.set_cons_succ]
            refine' wpAnyH_take (i := 13) (v := _) rfl (by kernel_rfl) (by kernel_rfl) (by kernel_rfl) (fun _ _ _ h => h) (Or.inl ⟨by kernel_rfl, ?hfa13⟩) (by assumption) ?rfa13
            case hfa13 => intro W hW; obtain ⟨⟨c0, c1⟩, d0, d1⟩ := hW; go_simp; all_goals with_reducible rfl
            change wpAnyH _ _ _ _ _ _ _ (Act.put _ (some 72) _) _
            simp only [Act.put, List.setIfInBounds_toArray, List.set_cons_zero, List.set_cons_succ]
            refine' wpAnyH_take (i := 14) (v := _) rfl (by kernel_rfl) (by kernel_rfl) (by kernel_rfl) (fun _ _ _ h => h) (Or.inl ⟨by kernel_rfl, ?hfa14⟩) (by assumption) ?rfa14
            case hfa14 => intro W hW; obtain ⟨⟨c0, c1⟩, d0, d1⟩ := hW; go_simp; all_goals with_reducible rfl
            change wpAnyH _ _ _ _ _ _ _ (Act.put _ (some 73) _) _
            simp only [Act.put, List.setIfInBounds_toArray, List.set_cons_zero, List.set_cons_succ]
            refine' wpAnyH_take (i := 15) (v := _) rfl (by kernel_rfl) (by kernel_rfl) (by kernel_rfl) (fun _ _ _ h => h) (Or.inl ⟨by kernel_rfl, ?hfa15⟩) (by assumption) ?rfa15
            case hfa15 => intro W hW; obtain ⟨⟨c0, c1⟩, d0, d1⟩ := hW; go_simp; all_goals with_reducible rfl
            change wpAnyH _ _ _ _ _ _ _ (Act.put _ (some 74) _) _
            simp only [Act.put, List.setIfInBounds_toArray, List.set_cons_zero, List.set_cons_succ]
            refine wpAnyH_take (i := 16) (v := undef) rfl (by kernel_rfl) (by kernel_rfl) (by kernel_rfl) (fun _ _ _ h => h) (Or.inr ⟨by kernel_rfl, rfl⟩) (by assumption) ?_
            change wpAnyH _ _ _ _ _ _ _ (Act.put _ (some 75) _) _
            simp only [Act.put, List.setIfInBounds_toArray, List.set_cons_zero, List.set_cons_succ]
            refine wpAnyH_take (i := 17) (v := undef) rfl (by kernel_rfl) (by kernel_rfl) (by kernel_rfl) (fun _ _ _ h => h) (Or.inr ⟨by kernel_rfl, rfl⟩) (by assumption) ?_
            change wpAnyH _ _ _ _ _ _ _ (Act.put _ (some 76) _) _
            simp only [Act.put, List.setIfInBounds_toArray, List.set_cons_zero, List.set_cons_succ]
            refine wpAnyH_take (i := 18) (v := undef) rfl (by kernel_rfl) (by kernel_rfl) (by kernel_rfl) (fun _ _ _ h => h) (Or.inr ⟨by kernel_rfl, rfl⟩) (by assumption) ?_
            change wpAnyH _ _ _ _ _ _ _ (Act.put _ (some 77) _) _
            simp only [Act.put, List.setIfInBounds_toArray, List.set_cons_zero, List.set_cons_succ]
            refine wpAnyH_take (i := 19) (v := undef) rfl (by kernel_rfl) (by kernel_rfl) (by kernel_rfl) (fun _ _ _ h => h) (Or.inr ⟨by kernel_rfl, rfl⟩) (by assumption) ?_
            change wpAnyH _ _ _ _ _ _ _ (Act.put _ (some 78) _) _
            simp only [Act.put, List.setIfInBounds_toArray, List.set_cons_zero, List.set_cons_succ]
            refine wpAnyH_take (i := 20) (v := undef) rfl (by kernel_rfl) (by kernel_rfl) (by kernel_rfl) (fun _ _ _ h => h) (Or.inr ⟨by kernel_rfl, rfl⟩) (by assumption) ?_
            change wpAnyH _ _ _ _ _ _ _ (Act.put _ (some 79) _) _
            simp only [Act.put, List.setIfInBounds_toArray, List.set_cons_zero, List.set_cons_succ]
            refine wpAnyH_take (i := 21) (v := undef) rfl (by kernel_rfl) (by kernel_rfl) (by kernel_rfl) (fun _ _ _ h => h) (Or.inr ⟨by kernel_rfl, rfl⟩) (by assumption) ?_
            change wpAnyH _ _ _ _ _ _ _ (Act.put _ (some 80) _) _
            simp only [Act.put, List.setIfInBounds_toArray, List.set_cons_zero, List.set_cons_succ]
            refine wpAnyH_take (i := 22) (v := undef) rfl (by kernel_rfl) (by kernel_rfl) (by kernel_rfl) (fun _ _ _ h => h) (Or.inr ⟨by kernel_rfl, rfl⟩) (by assumption) ?_
            change wpAnyH _ _ _ _ _ _ _ (Act.put _ (some 81) _) _
            simp only [Act.put, List.setIfInBounds_toArray, List.set_cons_zero, List.set_cons_succ]
            refine wpAnyH_take (i := 23) (v := undef) rfl (by kernel_rfl) (by kernel_rfl) (by kernel_rfl) (fun _ _ _ h => h) (Or.inr ⟨by kernel_rfl, rfl⟩) (by assumption) ?_
            change wpAnyH _ _ _ _ _ _ _ (Act.put _ (some 82) _) _
            simp only [Act.put, List.setIfInBounds_toArray, List.set_cons_zero, List.set_cons_succ]
            refine wpAnyH_take (i := 24) (v := undef) rfl (by kernel_rfl) (by kernel_rfl) (by kernel_rfl) (fun _ _ _ h => h) (Or.inr ⟨by kernel_rfl, rfl⟩) (by assumption) ?_
            change wpAnyH _ _ _ _ _ _ _ (Act.put _ (some 83) _) _
            simp only [Act.put, List.setIfInBounds_toArray, List.set_cons_zero, List.set_cons_succ]
            refine wpAnyH_take (i := 25) (v := undef) rfl (by kernel_rfl) (by kernel_rfl) (by kernel_rfl) (fun _ _ _ h => h) (Or.inr ⟨by kernel_rfl, rfl⟩) (by assumption) ?_
            change wpAnyH _ _ _ _ _ _ _ (Act.put _ (some 84) _) _
            simp only [Act.put, List.setIfInBounds_toArray, List.set_cons_zero, List.set_cons_succ]
            refine wpAnyH_take (i := 26) (v := undef) rfl (by kernel_rfl) (by kernel_rfl) (by kernel_rfl) (fun _ _ _ h => h) (Or.inr ⟨by kernel_rfl, rfl⟩) (by assumption) ?_
            change wpAnyH _ _ _ _ _ _ _ (Act.put _ (some 85) _) _
            simp only [Act.put, List.setIfInBounds_toArray, List.set_cons_zero, List.set_cons_succ]
            refine' wpAnyH_take (i := 27) (v := _) rfl (by kernel_rfl) (by kernel_rfl) (by kernel_rfl) (fun _ _ _ h => h) (Or.inl ⟨by kernel_rfl, ?hfa27⟩) (by assumption) ?rfa27
            case hfa27 => intro W hW; obtain ⟨⟨c0, c1⟩, d0, d1⟩ := hW; go_simp; all_goals with_reducible rfl
            change wpAnyH _ _ _ _ _ _ _ (Act.put _ (some 86) _) _
            simp only [Act.put, List.setIfInBounds_toArray, List.set_cons_zero, List.set_cons_succ]
            refine' wpAnyH_take (i := 28) (v := _) rfl (by kernel_rfl) (by kernel_rfl) (by kernel_rfl) (fun _ _ _ h => h) (Or.inl ⟨by kernel_rfl, ?hfa28⟩) (by assumption) ?rfa28
            case hfa28 => intro W hW; obtain ⟨⟨c0, c1⟩, d0, d1⟩ := hW; go_simp; all_goals with_reducible rfl
            change wpAnyH _ _ _ _ _ _ _ (Act.put _ (some 11) _) _
            simp only [Act.put, List.setIfInBounds_toArray, List.set_cons_zero, List.set_cons_succ]
            refine wpAnyH_done (by kernel_rfl) ?_ _
            have HN : Hid _ := hN
            clear hN hHeld hbd HS
            clear hHf
            go_wp2
            go_loopg [11, 12] D.cache.length (fun q m i wr => ∃ (j : Nat) (mb : Bool), j ≤ D.cache.length ∧ q = D.cache.length - j ∧ m = .bool mb ∧ i = .int .i64 j ∧ (mb = false → t1 ≠ t2 ∧ ∀ (jj : Nat) (h : jj < D.cache.length), jj < j → (D.cache[jj]).1 = (k : Int) → ¬ Heads (D.cache[jj]).2 t1) ∧ DFk w X3 X4 [.slice dsa D.secs.length dsc, .slice dca D.cache.length dcc, .int .i64 D.ops, .slice dfa D.faults.length dfc, .bool D.down] [.slice xsa D1.secs.length xsc, .slice xca D1.cache.length xcc, .int .i64 D1.ops, .slice xfa D1.faults.length xfc, .bool D1.down] (.agg #[.slice dsa D.secs.length dsc, .slice dca D.cache.length dcc, .int .i64 D.ops, .slice dfa D.faults.length dfc, .bool D.down]) (.agg #[.slice xsa D1.secs.length xsc, .slice xca D1.cache.length xcc, .int .i64 D1.ops, .slice xfa D1.faults.length xfc, .bool D1.down]) D D1 wr)
            case atStart => exact ⟨0, true, Nat.zero_le _, rfl, rfl, rfl, (fun h => by cases h), HN.out⟩
            case round =>
              clear HN
              obtain ⟨j, mb, hj, rfl, rfl, rfl, hmb, hN⟩ := hrel
              have HMB : Hid (mb = false → t1 ≠ t2 ∧ ∀ (jj : Nat) (h : jj < D.cache.length), jj < j → (D.cache[jj]).1 = (k : Int) → ¬ Heads (D.cache[jj]).2 t1) := hmb
              clear hmb
              have s1 : wr.cell? ⟨X3, 1, none⟩ = some (.slice dca D.cache.length dcc) := hN.x3.cell 1
              by_cases hlj : j < D.cache.length
              · have hjz : (j : Int) < (D.cache.length : Int) := by omega
                have hjn : D.cache.length ≤ 1048576 := HFF.out.1.nc
                cases mb with
                | true =>
                  go_wp2_with fail
                  clear s1
                  replace hN := hN.on (Below.refl _ _).drew
                  refine wp_region_held_drew (S := fun _ => True) (by kernel_rfl) trivial (fun hHeld => ?_)
                  refine' wpAnyH_take (i := 0) (v := _) rfl (by kernel_rfl) (by kernel_rfl) (by kernel_rfl) (fun _ _ _ h => h) (Or.inl ⟨by kernel_rfl, ?hgax1⟩) (by assumption) ?rgax1
                  case hgax1 => intro W hW; go_simp; all_goals with_reducible rfl
                  change wpAnyH _ _ _ _ _ _ _ (Act.put _ (some 98) _) _
                  simp only [Act.put, List.setIfInBounds_toArray, List.set_cons_zero, List.set_cons_succ]
                  refine' wpAnyH_take (i := 1) (v := _) rfl (by kernel_rfl) (by kernel_rfl) (by kernel_rfl) (fun _ _ _ h => h) (Or.inl ⟨by kernel_rfl, ?hgax2⟩) (by assumption) ?rgax2
                  case hgax2 => intro W hW; go_simp; all_goals with_reducible rfl
                  change wpAnyH _ _ _ _ _ _ _ (Act.put _ (some 99) _) _
                  simp only [Act.put, List.setIfInBounds_toArray, List.set_cons_zero, List.set_cons_succ]
                  refine wpAnyH_take (i := 2) (v := undef) rfl (by kernel_rfl) (by kernel_rfl) (by kernel_rfl) (fun _ _ _ h => h) (Or.inr ⟨by kernel_rfl, rfl⟩) (by assumption) ?_
                  change wpAnyH _ _ _ _ _ _ _ (Act.put _ (some 100) _) _
                  simp only [Act.put, List.setIfInBounds_toArray, List.set_cons_zero, List.set_cons_succ]
                  refine wpAnyH_take (i := 3) (v := undef) rfl (by kernel_rfl) (by kernel_rfl) (by kernel_rfl) (fun _ _ _ h => h) (Or.inr ⟨by kernel_rfl, rfl⟩) (by assumption) ?_
                  change wpAnyH _ _ _ _ _ _ _ (Act.put _ (some 101) _) _
                  simp only [Act.put, List.setIfInBounds_toArray, List.set_cons_zero, List.set_cons_succ]
                  refine wpAnyH_take (i := 4) (v := undef) rfl (by kernel_rfl) (by kernel_rfl) (by kernel_rfl) (fun _ _ _ h => h) (Or.inr ⟨by kernel_rfl, rfl⟩) (by assumption) ?_
                  change wpAnyH _ _ _ _ _ _ _ (Act.put _ (some 102) _) _
                  simp only [Act.put, List.setIfInBounds_toArray, List.set_cons_zero, List.set_cons_succ]
                  refine wpAnyH_take (i := 5) (v := undef) rfl (by kernel_rfl) (by kernel_rfl) (by kernel_rfl) (fun _ _ _ h => h) (Or.inr ⟨by kernel_rfl, rfl⟩) (by assumption) ?_
                  change wpAnyH _ _ _ _ _ _ _ (Act.put _ (some 103) _) _
                  simp only [Act.put, List.setIfInBounds_toArray, List.set_cons_zero, List.set_cons_succ]
                  refine wpAnyH_take (i := 6) (v := undef) rfl (by kernel_rfl) (by kernel_rfl) (by kernel_rfl) (fun _ _ _ h => h) (Or.inr ⟨by kernel_rfl, rfl⟩) (by assumption) ?_
                  change wpAnyH _ _ _ _ _ _ _ (Act.put _ (some 104) _) _
                  simp only [Act.put, List.setIfInBounds_toArray, List.set_cons_zero, List.set_cons_succ]
                  refine wpAnyH_take (i := 7) (v := undef) rfl (by kernel_rfl) (by kernel_rfl) (by kernel_rfl) (fun _ _ _ h => h) (Or.inr ⟨by kernel_rfl, rfl⟩) (by assumption) ?_
                  change wpAnyH _ _ _ _ _ _ _ (Act.put _ (some 105) _) _
                  simp only [Act.put, List.setIfInBounds_toArray, List.set_cons_zero, List.set_cons_succ]
                  refine wpAnyH_take (i := 8) (v := undef) rfl (by kernel_rfl) (by kernel_rfl) (by kernel_rfl) (fun _ _ _ h => h) (Or.inr ⟨by kernel_rfl, rfl⟩) (by assumption) ?_
                  change wpAnyH _ _ _ _ _ _ _ (Act.put _ (some 106) _) _
                  simp only [Act.put, List.setIfInBounds_toArray, List.set_cons_zero, List.set_cons_succ]
                  refine wpAnyH_take (i := 9) (v := undef) rfl (by kernel_rfl) (by kernel_rfl) (by kernel_rfl) (fun _ _ _ h => h) (Or.inr ⟨by kernel_rfl, rfl⟩) (by assumption) ?_
                  change wpAnyH _ _ _ _ _ _ _ (Act.put _ (some 107) _) _
                  simp only [Act.put, List.setIfInBounds_toArray, List.set_cons_zero, List.set_cons_succ]
                  refine wpAnyH_take (i := 10) (v := undef) rfl (by kernel_rfl) (by kernel_rfl) (by kernel_rfl) (fun _ _ _ h => h) (Or.inr ⟨by kernel_rfl, rfl⟩) (by assumption) ?_
                  change wpAnyH _ _ _ _ _ _ _ (Act.put _ (some 108) _) _
                  simp only [Act.put, List.setIfInBounds_toArray, List.set_cons_zero, List.set_cons_succ]
                  refine wpAnyH_take (i := 11) (v := undef) rfl (by kernel_rfl) (by kernel_rfl) (by kernel_rfl) (fun _ _ _ h => h) (Or.inr ⟨by kernel_rfl, rfl⟩) (by assumption) ?_
                  change wpAnyH _ _ _ _ _ _ _ (Act.put _ (some 109) _) _
                  simp only [Act.put, List.setIfInBounds_toArray, List.set_cons_zero, List.set_cons_succ]
                  refine wpAnyH_take (i := 12) (v := undef) rfl (by kernel_rfl) (by kernel_rfl) (by kernel_rfl) (fun _ _ _ h => h) (Or.inr ⟨by kernel_rfl, rfl⟩) (by assumption) ?_
                  change wpAnyH _ _ _ _ _ _ _ (Act.put _ (some 110) _) _
                  simp only [Act.put, List.setIfInBounds_toArray, List.set_cons_zero, List.set_cons_succ]
                  refine wpAnyH_take (i := 13) (v := undef) rfl (by kernel_rfl) (by kernel_rfl) (by kernel_rfl) (fun _ _ _ h => h) (Or.inr ⟨by kernel_rfl, rfl⟩) (by assumption) ?_
                  change wpAnyH _ _ _ _ _ _ _ (Act.put _ (some 111) _) _
                  simp only [Act.put, List.setIfInBounds_toArray, List.set_cons_zero, List.set_cons_succ]
                  refine wpAnyH_take (i := 14) (v := undef) rfl (by kernel_rfl) (by kernel_rfl) (by kernel_rfl) (fun _ _ _ h => h) (Or.inr ⟨by kernel_rfl, rfl⟩) (by assumption) ?_
                  change wpAnyH _ _ _ _ _ _ _ (Act.put _ (some 112) _) _
                  simp only [Act.put, List.setIfInBounds_toArray, List.set_cons_zero, List.set_cons_succ]
                  refine wpAnyH_take (i := 15) (v := undef) rfl (by kernel_rfl) (by kernel_rfl) (by kernel_rfl) (fun _ _ _ h => h) (Or.inr ⟨by kernel_rfl, rfl⟩) (by assumption) ?_
                  change wpAnyH _ _ _ _ _ _ _ (Act.put _ (some 113) _) _
                  simp only [Act.put, List.setIfInBounds_toArray, List.set_cons_zero, List.set_cons_succ]
                  refine wpAnyH_take (i := 16) (v := undef) rfl (by kernel_rfl) (by kernel_rfl) (by kernel_rfl) (fun _ _ _ h => h) (Or.inr ⟨by kernel_rfl, rfl⟩) (by assumption) ?_
                  change wpAnyH _ _ _ _ _ _ _ (Act.put _ (some 114) _) _
                  simp only [Act.put, List.setIfInBounds_toArray, List.set_cons_zero, List.set_cons_succ]
                  refine wpAnyH_take (i := 17) (v := undef) rfl (by kernel_rfl) (by kernel_rfl) (by kernel_rfl) (fun _ _ _ h => h) (Or.inr ⟨by kernel_rfl, rfl⟩) (by assumption) ?_
                  change wpAnyH _ _ _ _ _ _ _ (Act.put _ (some 115) _) _
                  simp only [Act.put, List.setIfInBounds_toArray, List.set_cons_zero, List.set_cons_succ]
                  refine wpAnyH_take (i := 18) (v := undef) rfl (by kernel_rfl) (by kernel_rfl) (by kernel_rfl) (fun _ _ _ h => h) (Or.inr ⟨by kernel_rfl, rfl⟩) (by assumption) ?_
                  change wpAnyH _ _ _ _ _ _ _ (Act.put _ (some 116) _) _
                  simp only [Act.put, List.setIfInBounds_toArray, List.set_cons_zero, List.set_cons_succ]
                  refine wpAnyH_take (i := 19) (v := undef) rfl (by kernel_rfl) (by kernel_rfl) (by kernel_rfl) (fun _ _ _ h => h) (Or.inr ⟨by kernel_rfl, rfl⟩) (by assumption) ?_
                  change wpAnyH _ _ _ _ _ _ _ (Act.put _ (some 117) _) _
                  simp only [Act.put, List.setIfInBounds_toArray, List.set_cons_zero, List.set_cons_succ]
                  refine wpAnyH_take (i := 20) (v := undef) rfl (by kernel_rfl) (by kernel_rfl) (by kernel_rfl) (fun _ _ _ h => h) (Or.inr ⟨by kernel_rfl, rfl⟩) (by assumption) ?_
                  change wpAnyH _ _ _ _ _ _ _ (Act.put _ (some 118) _) _
                  simp only [Act.put, List.setIfInBounds_toArray, List.set_cons_zero, List.set_cons_succ]
                  refine wpAnyH_take (i := 21) (v := undef) rfl (by kernel_rfl) (by kernel_rfl) (by kernel_rfl) (fun _ _ _ h => h) (Or.inr ⟨by kernel_rfl, rfl⟩) (by assumption) ?_
                  change wpAnyH _ _ _ _ _ _ _ (Act.put _ (some 119) _) _
                  simp only [Act.put, List.setIfInBounds_toArray, List.set_cons_zero, List.set_cons_succ]
                  refine wpAnyH_take (i := 22) (v := undef) rfl (by kernel_rfl) (by kernel_rfl) (by kernel_rfl) (fun _ _ _ h => h) (Or.inr ⟨by kernel_rfl, rfl⟩) (by assumption) ?_
                  change wpAnyH _ _ _ _ _ _ _ (Act.put _ (some 120) _) _
                  simp only [Act.put, List.setIfInBounds_toArray, List.set_cons_zero, List.set_cons_succ]
                  refine wpAnyH_take (i := 23) (v := undef) rfl (by kernel_rfl) (by kernel_rfl) (by kernel_rfl) (fun _ _ _ h => h) (Or.inr ⟨by kernel_rfl, rfl⟩) (by assumption) ?_
                  change wpAnyH _ _ _ _ _ _ _ (Act.put _ (some 121) _) _
                  simp only [Act.put, List.setIfInBounds_toArray, List.set_cons_zero, List.set_cons_succ]
                  refine' wpAnyH_take (i := 24) (v := _) rfl (by kernel_rfl) (by kernel_rfl) (by kernel_rfl) (fun _ _ _ h => h) (Or.inl ⟨by kernel_rfl, ?hgax25⟩) (by assumption) ?rgax25
                  case hgax25 => intro W hW; go_simp; all_goals with_reducible rfl
                  change wpAnyH _ _ _ _ _ _ _ (Act.put _ (some 122) _) _
                  simp only [Act.put, List.setIfInBounds_toArray, List.set_cons_zero, List.set_cons_succ]
                  refine' wpAnyH_take (i := 25) (v := _) rfl (by kernel_rfl) (by kernel_rfl) (by kernel_rfl) (fun _ _ _ h => h) (Or.inl ⟨by kernel_rfl, ?hgax26⟩) (by assumption) ?rgax26
                  case hgax26 => intro W hW; go_simp; all_goals with_reducible rfl
                  change wpAnyH _ _ _ _ _ _ _ (Act.put _ (some 11) _) _
                  simp only [Act.put, List.setIfInBounds_toArray, List.set_cons_zero, List.set_cons_succ]
                  refine wpAnyH_done (by kernel_rfl) ?_ _
                  have HN2 : Hid _ := hN
                  clear hN hHeld
                  go_wp2
                  go_roundg (D.cache.length - (j + 1))
                  case measure => omega
                  case rel => exact ⟨j + 1, true, by omega, rfl, rfl, by go_num, (fun h => by cases h), HN2.out⟩
                | false =>
                  obtain ⟨hne, hno⟩ := HMB.out rfl
                  have HNE : Hid (t1 ≠ t2) := hne
                  have HNO : Hid (∀ (jj : Nat) (h : jj < D.cache.length), jj < j → (D.cache[jj]).1 = (k : Int) → ¬ Heads (D.cache[jj]).2 t1) := hno
                  clear hne hno HMB
                  obtain ⟨b5, o5, a5, c5, ea5, hb5, q0, q1, v5, hn5⟩ := wview_at (sec_of hN.k3).2 hlj
                  obtain ⟨b1, o1, a1, c1, ea1, hb1, p1, v1, -⟩ := sview_at (sec_of hN.k4).1 (List.getElem?_eq_some_iff.1 HG1.out).1
                  have EA5 : Hid _ := ea5
                  have EA1 : Hid _ := ea1
                  clear ea1 ea5
                  have ht1 : D1.secs[k]'(List.getElem?_eq_some_iff.1 HG1.out).1 = t1 := (List.getElem?_eq_some_iff.1 HG1.out).2
                  rw [ht1] at p1 v1
                  have hl1 : t1.length ≤ 1048576 := by rw [← ht1]; exact HFF.out.2.1.sec _ (List.getElem_mem _)
                  have hbg := fun W (hW : Below wr.heap.size wr W) => begins_lv a5 (D.cache[j]).2.length c5 a1 t1.length c1 (bf (D.cache[j]).2) (bf t1) W (v5.below hW) hn5 (v1.below hW) (by omega)
                  have HNX : Hid (∀ (bb : Bool), decide (t1.length ≤ (D.cache[j]).2.length ∧ lof t1.length (bf (D.cache[j]).2) = lof t1.length (bf t1)) = bb → bb = false → ¬ Heads (D.cache[j]).2 t1) := fun bb h h2 h3 => by
                    rw [h2] at h
                    exact absurd h3 (by simpa [Heads] using h)
                  obtain ⟨bb, hbb⟩ := hidEx (decide (t1.length ≤ (D.cache[j]).2.length ∧ lof t1.length (bf (D.cache[j]).2) = lof t1.length (bf t1)))
                  simp only [hbb.out] at hbg
                  have HNB : Hid (bb = false → ¬ Heads (D.cache[j]).2 t1) := HNX.out bb hbb.out
                  have HP0 : Hid (∀ (x : Int), (D.cache[j]).1 = x → x ≠ (k : Int) → (D.cache[j]).1 ≠ (k : Int)) := fun x h h2 => by rw [h]; exact h2
                  obtain ⟨p0, hp0⟩ := hidEx (D.cache[j]).1
                  obtain ⟨n5, hn5e⟩ := hidEx (D.cache[j]).2.length
                  obtain ⟨n1, hn1e⟩ := hidEx t1.length
                  have HPX : Hid (p0 ≠ (k : Int) → (D.cache[j]).1 ≠ (k : Int)) := HP0.out p0 hp0.out
                  rw [hp0.out] at q0
                  simp only [hn5e.out] at q1 hbg
                  simp only [hn1e.out] at p1 hbg
                  have hkz1 : (k : Int) < (D1.secs.length : Int) := by have := (List.getElem?_eq_some_iff.1 HG1.out).1; omega
                  clear v5 v1 hn5 ht1 hl1 HNX hbb HP0 hp0 hn5e hn1e
                  have HS : Hid (∀ W, Below wr.heap.size wr W → (W.cell? ⟨X3, 1, none⟩ = some (.slice (some ⟨b5, o5, none⟩) D.cache.length dcc) ∧ W.cell? ⟨b5, o5 + j * 2, none⟩ = some (.int .i64 p0) ∧ W.cell? ⟨b5, o5 + j * 2 + 1, none⟩ = some (.slice a5 n5 c5)) ∧ W.cell? ⟨X4, 0, none⟩ = some (.slice (some ⟨b1, o1, none⟩) D1.secs.length xsc) ∧ W.cell? ⟨b1, o1 + k, none⟩ = some (.slice a1 n1 c1)) := fun W hW => ⟨⟨by rw [← EA5.out]; exact (hN.x3.below hW).cell 1, by rw [hW.cell hb5]; exact q0, by rw [hW.cell hb5]; exact q1⟩, by rw [← EA1.out]; exact (hN.x4.below hW).cell 0, by rw [hW.cell hb1]; exact p1⟩
                  by_cases hpk : p0 = (k : Int)
                  · have hpq : (p0 == (k : Int)) = true := beq_iff_eq.2 hpk
                    clear hpk
                    go_wp2_with fail
                    clear s1 q0 q1 p1
                    have hbd : Below wr.heap.size wr wr.drew := (Below.refl _ _).drew
                    replace hN := hN.on hbd
                    refine wp_region_held_drew (S := fun W => (W.cell? ⟨X3, 1, none⟩ = some (.slice (some ⟨b5, o5, none⟩) D.cache.length dcc) ∧ W.cell? ⟨b5, o5 + j * 2, none⟩ = some (.int .i64 p0) ∧ W.cell? ⟨b5, o5 + j * 2 + 1, none⟩ = some (.slice a5 n5 c5)) ∧ W.cell? ⟨X4, 0, none⟩ = some (.slice (some ⟨b1, o1, none⟩) D1.secs.length xsc) ∧ W.cell? ⟨b1, o1 + k, none⟩ = some (.slice a1 n1 c1)) (by kernel_rfl) (HS.out _ hbd) (fun hHeld => ?_)
                    obtain ⟨wd, hwd⟩ := hidEx wr.drew
                    rw [hwd.out] at hN hbd hHeld ⊢
                    clear hwd
                    refine' wpAnyH_take (i := 0) (v := _) rfl (by kernel_rfl) (by kernel_rfl) (by kernel_rfl) (fun _ _ _ h => h) (Or.inl ⟨by kernel_rfl, ?hgbx1⟩) (by assumption) ?rgbx1
                    case hgbx1 => intro W hW; obtain ⟨⟨c0, c1, c2⟩, d0, d1⟩ := hW; go_simp; all_goals with_reducible rfl
                    change wpAnyH _ _ _ _ _ _ _ (Act.put _ (some 98) _) _
                    simp only [Act.put, List.setIfInBounds_toArray, List.set_cons_zero, List.set_cons_succ]
                    refine' wpAnyH_take (i := 1) (v := _) rfl (by kernel_rfl) (by kernel_rfl) (by kernel_rfl) (fun _ _ _ h => h) (Or.inl ⟨by kernel_rfl, ?hgbx2⟩) (by assumption) ?rgbx2
                    case hgbx2 => intro W hW; obtain ⟨⟨c0, c1, c2⟩, d0, d1⟩ := hW; go_simp; all_goals with_reducible rfl
                    change wpAnyH _ _ _ _ _ _ _ (Act.put _ (some 99) _) _
                    simp only [Act.put, List.setIfInBounds_toArray, List.set_cons_zero, List.set_cons_succ]
                    refine' wpAnyH_take (i := 2) (v := _) rfl (by kernel_rfl) (by kernel_rfl) (by kernel_rfl) (fun _ _ _ h => h) (Or.inl ⟨by kernel_rfl, ?hgbx3⟩) (by assumption) ?rgbx3
                    case hgbx3 => intro W hW; obtain ⟨⟨c0, c1, c2⟩, d0, d1⟩ := hW; go_simp; all_goals with_reducible rfl
                    change wpAnyH _ _ _ _ _ _ _ (Act.put _ (some 100) _) _
                    simp only [Act.put, List.setIfInBounds_toArray, List.set_cons_zero, List.set_cons_succ]
                    refine' wpAnyH_take (i := 3) (v := _) rfl (by kernel_rfl) (by kernel_rfl) (by kernel_rfl) (fun _ _ _ h => h) (Or.inl ⟨by kernel_rfl, ?hgbx4⟩) (by assumption) ?rgbx4
                    case hgbx4 => intro W hW; obtain ⟨⟨c0, c1, c2⟩, d0, d1⟩ := hW; go_simp; all_goals with_reducible rfl
                    change wpAnyH _ _ _ _ _ _ _ (Act.put _ (some 101) _) _
                    simp only [Act.put, List.setIfInBounds_toArray, List.set_cons_zero, List.set_cons_succ]
                    refine' wpAnyH_take (i := 4) (v := _) rfl (by kernel_rfl) (by kernel_rfl) (by kernel_rfl) (fun _ _ _ h => h) (Or.inl ⟨by kernel_rfl, ?hgbx5⟩) (by assumption) ?rgbx5
                    case hgbx5 => intro W hW; obtain ⟨⟨c0, c1, c2⟩, d0, d1⟩ := hW; go_simp; all_goals with_reducible rfl
                    change wpAnyH _ _ _ _ _ _ _ (Act.put _ (some 102) _) _
                    simp only [Act.put, List.setIfInBounds_toArray, List.set_cons_zero, List.set_cons_succ]
                    refine' wpAnyH_take (i := 5) (v := _) rfl (by kernel_rfl) (by kernel_rfl) (by kernel_rfl) (fun _ _ _ h => h) (Or.inl ⟨by kernel_rfl, ?hgbx6⟩) (by assumption) ?rgbx6
                    case hgbx6 => intro W hW; obtain ⟨⟨c0, c1, c2⟩, d0, d1⟩ := hW; go_simp; all_goals with_reducible rfl
                    change wpAnyH _ _ _ _ _ _ _ (Act.put _ (some 103) _) _
                    simp only [Act.put, List.setIfInBounds_toArray, List.set_cons_zero, List.set_cons_succ]
                    refine' wpAnyH_take (i := 6) (v := _) rfl (by kernel_rfl) (by kernel_rfl) (by kernel_rfl) (fun _ _ _ h => h) (Or.inl ⟨by kernel_rfl, ?hgbx7⟩) (by assumption) ?rgbx7
                    case hgbx7 => intro W hW; obtain ⟨⟨c0, c1, c2⟩, d0, d1⟩ := hW; go_simp; all_goals with_reducible rfl
                    change wpAnyH _ _ _ _ _ _ _ (Act.put _ (some 104) _) _
                    simp only [Act.put, List.setIfInBounds_toArray, List.set_cons_zero, List.set_cons_succ]
                    refine' wpAnyH_take (i := 7) (v := _) rfl (by kernel_rfl) (by kernel_rfl) (by kernel_rfl) (fun _ _ _ h => h) (Or.inl ⟨by kernel_rfl, ?hgbx8⟩) (by assumption) ?rgbx8
                    case hgbx8 => intro W hW; obtain ⟨⟨c0, c1, c2⟩, d0, d1⟩ := hW; go_simp; all_goals with_reducible rfl
                    change wpAnyH _ _ _ _ _ _ _ (Act.put _ (some 105) _) _
                    simp only [Act.put, List.setIfInBounds_toArray, List.set_cons_zero, List.set_cons_succ]
                    refine' wpAnyH_take (i := 8) (v := _) rfl (by kernel_rfl) (by kernel_rfl) (by kernel_rfl) (fun _ _ _ h => h) (Or.inl ⟨by kernel_rfl, ?hgbx9⟩) (by assumption) ?rgbx9
                    case hgbx9 => intro W hW; obtain ⟨⟨c0, c1, c2⟩, d0, d1⟩ := hW; go_simp; all_goals with_reducible rfl
                    change wpAnyH _ _ _ _ _ _ _ (Act.put _ (some 106) _) _
                    simp only [Act.put, List.setIfInBounds_toArray, List.set_cons_zero, List.set_cons_succ]
                    refine' wpAnyH_take (i := 9) (v := _) rfl (by kernel_rfl) (by kernel_rfl) (by kernel_rfl) (fun _ _ _ h => h) (Or.inl ⟨by kernel_rfl, ?hgbx10⟩) (by assumption) ?rgbx10
                    case hgbx10 => intro W hW; obtain ⟨⟨c0, c1, c2⟩, d0, d1⟩ := hW; go_simp; all_goals with_reducible rfl
                    change wpAnyH _ _ _ _ _ _ _ (Act.put _ (some 107) _) _
                    simp only [Act.put, List.setIfInBounds_toArray, List.set_cons_zero, List.set_cons_succ]
                    refine' wpAnyH_take (i := 10) (v := _) rfl (by kernel_rfl) (by kernel_rfl) (by kernel_rfl) (fun _ _ _ h => h) (Or.inl ⟨by kernel_rfl, ?hgbx11⟩) (by assumption) ?rgbx11
                    case hgbx11 => intro W hW; obtain ⟨⟨c0, c1, c2⟩, d0, d1⟩ := hW; go_simp; all_goals with_reducible rfl
                    change wpAnyH _ _ _ _ _ _ _ (Act.put _ (some 108) _) _
                    simp only [Act.put, List.setIfInBounds_toArray, List.set_cons_zero, List.set_cons_succ]
                    refine' wpAnyH_take (i := 11) (v := _) rfl (by kernel_rfl) (by kernel_rfl) (by kernel_rfl) (fun _ _ _ h => h) (Or.inl ⟨by kernel_rfl, ?hgbx12⟩) (by assumption) ?rgbx12
                    case hgbx12 => intro W hW; obtain ⟨⟨c0, c1, c2⟩, d0, d1⟩ := hW; go_simp; all_goals with_reducible rfl
                    change wpAnyH _ _ _ _ _ _ _ (Act.put _ (some 109) _) _
                    simp only [Act.put, List.setIfInBounds_toArray, List.set_cons_zero, List.set_cons_succ]
                    refine' wpAnyH_take (i := 12) (v := _) rfl (by kernel_rfl) (by kernel_rfl) (by kernel_rfl) (fun _ _ _ h => h) (Or.inl ⟨by kernel_rfl, ?hgbx13⟩) (by assumption) ?rgbx13
                    case hgbx13 => intro W hW; obtain ⟨⟨c0, c1, c2⟩, d0, d1⟩ := hW; go_simp; all_goals with_reducible rfl
                    change wpAnyH _ _ _ _ _ _ _ (Act.put _ (some 110) _) _
                    simp only [Act.put, List.setIfInBounds_toArray, List.set_cons_zero, List.set_cons_succ]
                    refine' wpAnyH_take (i := 13) (v := _) rfl (by kernel_rfl) (by kernel_rfl) (by kernel_rfl) (fun _ _ _ h => h) (Or.inl ⟨by kernel_rfl, ?hgbx14⟩) (by assumption) ?rgbx14
                    case hgbx14 => intro W hW; obtain ⟨⟨c0, c1, c2⟩, d0, d1⟩ := hW; go_simp; all_goals with_reducible rfl
                    change wpAnyH _ _ _ _ _ _ _ (Act.put _ (some 111) _) _
                    simp only [Act.put, List.setIfInBounds_toArray, List.set_cons_zero, List.set_cons_succ]
                    refine' wpAnyH_take (i := 14) (v := _) rfl (by kernel_rfl) (by kernel_rfl) (by kernel_rfl) (fun _ _ _ h => h) (Or.inl ⟨by kernel_rfl, ?hgbx15⟩) (by assumption) ?rgbx15
                    case hgbx15 => intro W hW; obtain ⟨⟨c0, c1, c2⟩, d0, d1⟩ := hW; go_simp; all_goals with_reducible rfl
                    change wpAnyH _ _ _ _ _ _ _ (Act.put _ (some 112) _) _
                    simp only [Act.put, List.setIfInBounds_toArray, List.set_cons_zero, List.set_cons_succ]
                    refine' wpAnyH_take (i := 15) (v := _) rfl (by kernel_rfl) (by kernel_rfl) (by kernel_rfl) (fun _ _ _ h => h) (Or.inl ⟨by kernel_rfl, ?hgbx16⟩) (by assumption) ?rgbx16
                    case hgbx16 => intro W hW; obtain ⟨⟨c0, c1, c2⟩, d0, d1⟩ := hW; go_simp; all_goals with_reducible rfl
                    change wpAnyH _ _ _ _ _ _ _ (Act.put _ (some 113) _) _
                    simp only [Act.put, List.setIfInBounds_toArray, List.set_cons_zero, List.set_cons_succ]
                    refine' wpAnyH_take (i := 16) (v := _) rfl (by kernel_rfl) (by kernel_rfl) (by kernel_rfl) (fun _ _ _ h => h) (Or.inl ⟨by kernel_rfl, ?hgbx17⟩) (by assumption) ?rgbx17
                    case hgbx17 => intro W hW; obtain ⟨⟨c0, c1, c2⟩, d0, d1⟩ := hW; go_simp; all_goals with_reducible rfl
                    change wpAnyH _ _ _ _ _ _ _ (Act.put _ (some 114) _) _
                    simp only [Act.put, List.setIfInBounds_toArray, List.set_cons_zero, List.set_cons_succ]
                    refine' wpAnyH_take (i := 17) (v := _) rfl (by kernel_rfl) (by kernel_rfl) (by kernel_rfl) (fun _ _ _ h => h) (Or.inl ⟨by kernel_rfl, ?hgbx18⟩) (by assumption) ?rgbx18
                    case hgbx18 => intro W hW; obtain ⟨⟨c0, c1, c2⟩, d0, d1⟩ := hW; go_simp; all_goals with_reducible rfl
                    change wpAnyH _ _ _ _ _ _ _ (Act.put _ (some 115) _) _
                    simp only [Act.put, List.setIfInBounds_toArray, List.set_cons_zero, List.set_cons_succ]
                    refine' wpAnyH_take (i := 18) (v := _) rfl (by kernel_rfl) (by kernel_rfl) (by kernel_rfl) (fun _ _ _ h => h) (Or.inl ⟨by kernel_rfl, ?hgbx19⟩) (by assumption) ?rgbx19
                    case hgbx19 => intro W hW; obtain ⟨⟨c0, c1, c2⟩, d0, d1⟩ := hW; go_simp; all_goals with_reducible rfl
                    change wpAnyH _ _ _ _ _ _ _ (Act.put _ (some 116) _) _
                    simp only [Act.put, List.setIfInBounds_toArray, List.set_cons_zero, List.set_cons_succ]
                    refine' wpAnyH_take (i := 19) (v := _) rfl (by kernel_rfl) (by kernel_rfl) (by kernel_rfl) (fun _ _ _ h => h) (Or.inl ⟨by kernel_rfl, ?hgbx20⟩) (by assumption) ?rgbx20
                    case hgbx20 => intro W hW; obtain ⟨⟨c0, c1, c2⟩, d0, d1⟩ := hW; go_simp; all_goals with_reducible rfl
                    change wpAnyH _ _ _ _ _ _ _ (Act.put _ (some 117) _) _
                    simp only [Act.put, List.setIfInBounds_toArray, List.set_cons_zero, List.set_cons_succ]
                    refine' wpAnyH_take (i := 20) (v := _) rfl (by kernel_rfl) (by kernel_rfl) (by kernel_rfl) (fun _ _ _ h => h) (Or.inl ⟨by kernel_rfl, ?hgbx21⟩) (by assumption) ?rgbx21
                    case hgbx21 => intro W hW; obtain ⟨⟨c0, c1, c2⟩, d0, d1⟩ := hW; go_simp; all_goals with_reducible rfl
                    change wpAnyH _ _ _ _ _ _ _ (Act.put _ (some 118) _) _
                    simp only [Act.put, List.setIfInBounds_toArray, List.set_cons_zero, List.set_cons_succ]
                    refine' wpAnyH_take (i := 21) (v := _) rfl (by kernel_rfl) (by kernel_rfl) (by kernel_rfl) (fun _ _ _ h => h) (Or.inl ⟨by kernel_rfl, ?hgbx22⟩) (by assumption) ?rgbx22
                    case hgbx22 => intro W hW; obtain ⟨⟨c0, c1, c2⟩, d0, d1⟩ := hW; go_simp; all_goals with_reducible rfl
                    change wpAnyH _ _ _ _ _ _ _ (Act.put _ (some 119) _) _
                    simp only [Act.put, List.setIfInBounds_toArray, List.set_cons_zero, List.set_cons_succ]
                    refine wpAnyH_ready (rs := [22]) (by kernel_rfl) (by simp) ?_
                    refine AllReadyH.cons rfl (fun KK hK => ?_) AllReadyH.nil
                    go_simp
                    refine (hbg wd hbd).mono ?_
                    rintro e wf ⟨rfl, hbf⟩
                    have hN2 := hN.on hbf
                    have hHf : (wf.cell? ⟨X3, 1, none⟩ = some (.slice (some ⟨b5, o5, none⟩) D.cache.length dcc) ∧ wf.cell? ⟨b5, o5 + j * 2, none⟩ = some (.int .i64 p0) ∧ wf.cell? ⟨b5, o5 + j * 2 + 1, none⟩ = some (.slice a5 n5 c5)) ∧ wf.cell? ⟨X4, 0, none⟩ = some (.slice (some ⟨b1, o1, none⟩) D1.secs.length xsc) ∧ wf.cell? ⟨b1, o1 + k, none⟩ = some (.slice a1 n1 c1) := HS.out wf (hbd.trans (hbf.mono hbd.size))
                    clear hHeld hN hbd hbf hbg
                    go_wp2_with fail
                    refine hK.out _ _ hHf (fun hHeld => ?_)
                    clear hK KK
                    try simp only [Act.put, List.setIfInBounds_toArray, List.set_cons_zero, List.set_cons_succ]
                    refine' wpAnyH_take (i := 23) (v := _) rfl (by kernel_rfl) (by kernel_rfl) (by kernel_rfl) (fun _ _ _ h => h) (Or.inl ⟨by kernel_rfl, ?hgbx23⟩) (by assumption) ?rgbx23
                    case hgbx23 => intro W hW; obtain ⟨⟨c0, c1, c2⟩, d0, d1⟩ := hW; go_simp; all_goals with_reducible rfl
                    change wpAnyH _ _ _ _ _ _ _ (Act.put _ (some 121) _) _
                    simp only [Act.put, List.setIfInBounds_toArray, List.set_cons_zero, List.set_cons_succ]
                    refine' wpAnyH_take (i := 24) (v := _) rfl (by kernel_rfl) (by kernel_rfl) (by kernel_rfl) (fun _ _ _ h => h) (Or.inl ⟨by kernel_rfl, ?hgbx24⟩) (by assumption) ?rgbx24
                    case hgbx24 => intro W hW; obtain ⟨⟨c0, c1, c2⟩, d0, d1⟩ := hW; go_simp; all_goals with_reducible rfl
                    change wpAnyH _ _ _ _ _ _ _ (Act.put _ (some 122) _) _
                    simp only [Act.put, List.setIfInBounds_toArray, List.set_cons_zero, List.set_cons_succ]
                    refine' wpAnyH_take (i := 25) (v := _) rfl (by kernel_rfl) (by kernel_rfl) (by kernel_rfl) (fun _ _ _ h => h) (Or.inl ⟨by kernel_rfl, ?hgbx25⟩) (by assumption) ?rgbx25
                    case hgbx25 => intro W hW; obtain ⟨⟨c0, c1, c2⟩, d0, d1⟩ := hW; go_simp; all_goals with_reducible rfl
                    change wpAnyH _ _ _ _ _ _ _ (Act.put _ (some 11) _) _
                    simp only [Act.put, List.setIfInBounds_toArray, List.set_cons_zero, List.set_cons_succ]
                    refine wpAnyH_done (by kernel_rfl) ?_ _
                    have HN2 : Hid _ := hN2
                    clear hN2 hHeld hHf HS
                    go_wp2
                    go_roundg (D.cache.length - (j + 1))
                    case measure => omega
                    case rel => exact ⟨j + 1, bb, by omega, rfl, rfl, by go_num, (fun h => ⟨HNE.out, fun jj hjj hlt hp => (Nat.lt_or_ge jj j).elim (fun e => HNO.out jj hjj e hp) (fun e => by obtain rfl : jj = j := (by omega); exact HNB.out h)⟩), HN2.out⟩
                  · have hpq : (p0 == (k : Int)) = false := beq_eq_false_iff_ne.2 hpk
                    have HPK : Hid ((D.cache[j]).1 ≠ (k : Int)) := HPX.out hpk
                    clear hpk hbg
                    go_wp2_with fail
                    clear s1 q0 q1 p1
                    have hbd : Below wr.heap.size wr wr.drew := (Below.refl _ _).drew
                    replace hN := hN.on hbd
                    refine wp_region_held_drew (S := fun W => (W.cell? ⟨X3, 1, none⟩ = some (.slice (some ⟨b5, o5, none⟩) D.cache.length dcc) ∧ W.cell? ⟨b5, o5 + j * 2, none⟩ = some (.int .i64 p0) ∧ W.cell? ⟨b5, o5 + j * 2 + 1, none⟩ = some (.slice a5 n5 c5)) ∧ W.cell? ⟨X4, 0, none⟩ = some (.slice (some ⟨b1, o1, none⟩) D1.secs.length xsc) ∧ W.cell? ⟨b1, o1 + k, none⟩ = some (.slice a1 n1 c1)) (by kernel_rfl) (HS.out _ hbd) (fun hHeld => ?_)
                    obtain ⟨wd, hwd⟩ := hidEx wr.drew
                    rw [hwd.out] at hN hbd hHeld ⊢
                    clear hwd
                    refine' wpAnyH_take (i := 0) (v := _) rfl (by kernel_rfl) (by kernel_rfl) (by kernel_rfl) (fun _ _ _ h => h) (Or.inl ⟨by kernel_rfl, ?hgcx1⟩) (by assumption) ?rgcx1
                    case hgcx1 => intro W hW; obtain ⟨⟨c0, c1, c2⟩, d0, d1⟩ := hW; go_simp; all_goals with_reducible rfl
                    change wpAnyH _ _ _ _ _ _ _ (Act.put _ (some 98) _) _
                    simp only [Act.put, List.setIfInBounds_toArray, List.set_cons_zero, List.set_cons_succ]
                    refine' wpAnyH_take (i := 1) (v := _) rfl (by kernel_rfl) (by kernel_rfl) (by kernel_rfl) (fun _ _ _ h => h) (Or.inl ⟨by kernel_rfl, ?hgcx2⟩) (by assumption) ?rgcx2
                    case hgcx2 => intro W hW; obtain ⟨⟨c0, c1, c2⟩, d0, d1⟩ := hW; go_simp; all_goals with_reducible rfl
                    change wpAnyH _ _ _ _ _ _ _ (Act.put _ (some 99) _) _
                    simp only [Act.put, List.setIfInBounds_toArray, List.set_cons_zero, List.set_cons_succ]
                    refine' wpAnyH_take (i := 2) (v := _) rfl (by kernel_rfl) (by kernel_rfl) (by kernel_rfl) (fun _ _ _ h => h) (Or.inl ⟨by kernel_rfl, ?hgcx3⟩) (by assumption) ?rgcx3
                    case hgcx3 => intro W hW; obtain ⟨⟨c0, c1, c2⟩, d0, d1⟩ := hW; go_simp; all_goals with_reducible rfl
                    change wpAnyH _ _ _ _ _ _ _ (Act.put _ (some 100) _) _
                    simp only [Act.put, List.setIfInBounds_toArray, List.set_cons_zero, List.set_cons_succ]
                    refine' wpAnyH_take (i := 3) (v := _) rfl (by kernel_rfl) (by kernel_rfl) (by kernel_rfl) (fun _ _ _ h => h) (Or.inl ⟨by kernel_rfl, ?hgcx4⟩) (by assumption) ?rgcx4
                    case hgcx4 => intro W hW; obtain ⟨⟨c0, c1, c2⟩, d0, d1⟩ := hW; go_simp; all_goals with_reducible rfl
                    change wpAnyH _ _ _ _ _ _ _ (Act.put _ (some 101) _) _
                    simp only [Act.put, List.setIfInBounds_toArray, List.set_cons_zero, List.set_cons_succ]
                    refine' wpAnyH_take (i := 4) (v := _) rfl (by kernel_rfl) (by kernel_rfl) (by kernel_rfl) (fun _ _ _ h => h) (Or.inl ⟨by kernel_rfl, ?hgcx5⟩) (by assumption) ?rgcx5
                    case hgcx5 => intro W hW; obtain ⟨⟨c0, c1, c2⟩, d0, d1⟩ := hW; go_simp; all_goals with_reducible rfl
                    change wpAnyH _ _ _ _ _ _ _ (Act.put _ (some 102) _) _
                    simp only [Act.put, List.setIfInBounds_toArray, List.set_cons_zero, List.set_cons_succ]
                    refine' wpAnyH_take (i := 5) (v := _) rfl (by kernel_rfl) (by kernel_rfl) (by kernel_rfl) (fun _ _ _ h => h) (Or.inl ⟨by kernel_rfl, ?hgcx6⟩) (by assumption) ?rgcx6
                    case hgcx6 => intro W hW; obtain ⟨⟨c0, c1, c2⟩, d0, d1⟩ := hW; go_simp; all_goals with_reducible rfl
                    change wpAnyH _ _ _ _ _ _ _ (Act.put _ (some 103) _) _
                    simp only [Act.put, List.setIfInBounds_toArray, List.set_cons_zero, List.set_cons_succ]
                    refine' wpAnyH_take (i := 6) (v := _) rfl (by kernel_rfl) (by kernel_rfl) (by kernel_rfl) (fun _ _ _ h => h) (Or.inl ⟨by kernel_rfl, ?hgcx7⟩) (by assumption) ?rgcx7
                    case hgcx7 => intro W hW; obtain ⟨⟨c0, c1, c2⟩, d0, d1⟩ := hW; go_simp; all_goals with_reducible rfl
                    change wpAnyH _ _ _ _ _ _ _ (Act.put _ (some 104) _) _
                    simp only [Act.put, List.setIfInBounds_toArray, List.set_cons_zero, List.set_cons_succ]
                    refine' wpAnyH_take (i := 7) (v := _) rfl (by kernel_rfl) (by kernel_rfl) (by kernel_rfl) (fun _ _ _ h => h) (Or.inl ⟨by kernel_rfl, ?hgcx8⟩) (by assumption) ?rgcx8
                    case hgcx8 => intro W hW; obtain ⟨⟨c0, c1, c2⟩, d0, d1⟩ := hW; go_simp; all_goals with_reducible rfl
                    change wpAnyH _ _ _ _ _ _ _ (Act.put _ (some 105) _) _
                    simp only [Act.put, List.setIfInBounds_toArray, List.set_cons_zero, List.set_cons_succ]
                    refine' wpAnyH_take (i := 8) (v := _) rfl (by kernel_rfl) (by kernel_rfl) (by kernel_rfl) (fun _ _ _ h => h) (Or.inl ⟨by kernel_rfl, ?hgcx9⟩) (by assumption) ?rgcx9
                    case hgcx9 => intro W hW; obtain ⟨⟨c0, c1, c2⟩, d0, d1⟩ := hW; go_simp; all_goals with_reducible rfl
                    change wpAnyH _ _ _ _ _ _ _ (Act.put _ (some 106) _) _
                    simp only [Act.put, List.setIfInBounds_toArray, List.set_cons_zero, List.set_cons_succ]
                    refine' wpAnyH_take (i := 9) (v := _) rfl (by kernel_rfl) (by kernel_rfl) (by kernel_rfl) (fun _ _ _ h => h) (Or.inl ⟨by kernel_rfl, ?hgcx10⟩) (by assumption) ?rgcx10
                    case hgcx10 => intro W hW; obtain ⟨⟨c0, c1, c2⟩, d0, d1⟩ := hW; go_simp; all_goals with_reducible rfl
                    change wpAnyH _ _ _ _ _ _ _ (Act.put _ (some 107) _) _
                    simp only [Act.put, List.setIfInBounds_toArray, List.set_cons_zero, List.set_cons_succ]
                    refine' wpAnyH_take (i := 10) (v := _) rfl (by kernel_rfl) (by kernel_rfl) (by kernel_rfl) (fun _ _ _ h => h) (Or.inl ⟨by kernel_rfl, ?hgcx11⟩) (by assumption) ?rgcx11
                    case hgcx11 => intro W hW; obtain ⟨⟨c0, c1, c2⟩, d0, d1⟩ := hW; go_simp; all_goals with_reducible rfl
                    change wpAnyH _ _ _ _ _ _ _ (Act.put _ (some 108) _) _
                    simp only [Act.put, List.setIfInBounds_toArray, List.set_cons_zero, List.set_cons_succ]
                    refine wpAnyH_take (i := 11) (v := undef) rfl (by kernel_rfl) (by kernel_rfl) (by kernel_rfl) (fun _ _ _ h => h) (Or.inr ⟨by kernel_rfl, rfl⟩) (by assumption) ?_
                    change wpAnyH _ _ _ _ _ _ _ (Act.put _ (some 109) _) _
                    simp only [Act.put, List.setIfInBounds_toArray, List.set_cons_zero, List.set_cons_succ]
                    refine wpAnyH_take (i := 12) (v := undef) rfl (by kernel_rfl) (by kernel_rfl) (by kernel_rfl) (fun _ _ _ h => h) (Or.inr ⟨by kernel_rfl, rfl⟩) (by assumption) ?_
                    change wpAnyH _ _ _ _ _ _ _ (Act.put _ (some 110) _) _
                    simp only [Act.put, List.setIfInBounds_toArray, List.set_cons_zero, List.set_cons_succ]
                    refine wpAnyH_take (i := 13) (v := undef) rfl (by kernel_rfl) (by kernel_rfl) (by kernel_rfl) (fun _ _ _ h => h) (Or.inr ⟨by kernel_rfl, rfl⟩) (by assumption) ?_
                    change wpAnyH _ _ _ _ _ _ _ (Act.put _ (some 111) _) _
                    simp only [Act.put, List.setIfInBounds_toArray, List.set_cons_zero, List.set_cons_succ]
                    refine wpAnyH_take (i := 14) (v := undef) rfl (by kernel_rfl) (by kernel_rfl) (by kernel_rfl) (fun _ _ _ h => h) (Or.inr ⟨by kernel_rfl, rfl⟩) (by assumption) ?_
                    change wpAnyH _ _ _ _ _ _ _ (Act.put _ (some 112) _) _
                    simp only [Act.put, List.setIfInBounds_toArray, List.set_cons_zero, List.set_cons_succ]
                    refine wpAnyH_take (i := 15) (v := undef) rfl (by kernel_rfl) (by kernel_rfl) (by kernel_rfl) (fun _ _ _ h => h) (Or.inr ⟨by kernel_rfl, rfl⟩) (by assumption) ?_
                    change wpAnyH _ _ _ _ _ _ _ (Act.put _ (some 113) _) _
                    simp only [Act.put, List.setIfInBounds_toArray, List.set_cons_zero, List.set_cons_succ]
                    refine wpAnyH_take (i := 16) (v := undef) rfl (by kernel_rfl) (by kernel_rfl) (by kernel_rfl) (fun _ _ _ h => h) (Or.inr ⟨by kernel_rfl, rfl⟩) (by assumption) ?_
                    change wpAnyH _ _ _ _ _ _ _ (Act.put _ (some 114) _) _
                    simp only [Act.put, List.setIfInBounds_toArray, List.set_cons_zero, List.set_cons_succ]
                    refine wpAnyH_take (i := 17) (v := undef) rfl (by kernel_rfl) (by kernel_rfl) (by kernel_rfl) (fun _ _ _ h => h) (Or.inr ⟨by kernel_rfl, rfl⟩) (by assumption) ?_
                    change wpAnyH _ _ _ _ _ _ _ (Act.put _ (some 115) _) _
                    simp only [Act.put, List.setIfInBounds_toArray, List.set_cons_zero, List.set_cons_succ]
                    refine wpAnyH_take (i := 18) (v := undef) rfl (by kernel_rfl) (by kernel_rfl) (by kernel_rfl) (fun _ _ _ h => h) (Or.inr ⟨by kernel_rfl, rfl⟩) (by assumption) ?_
                    change wpAnyH _ _ _ _ _ _ _ (Act.put _ (some 116) _) _
                    simp only [Act.put, List.setIfInBounds_toArray, List.set_cons_zero, List.set_cons_succ]
                    refine wpAnyH_take (i := 19) (v := undef) rfl (by kernel_rfl) (by kernel_rfl) (by kernel_rfl) (fun _ _ _ h => h) (Or.inr ⟨by kernel_rfl, rfl⟩) (by assumption) ?_
                    change wpAnyH _ _ _ _ _ _ _ (Act.put _ (some 117) _) _
                    simp only [Act.put, List.setIfInBounds_toArray, List.set_cons_zero, List.set_cons_succ]
                    refine wpAnyH_take (i := 20) (v := undef) rfl (by kernel_rfl) (by kernel_rfl) (by kernel_rfl) (fun _ _ _ h => h) (Or.inr ⟨by kernel_rfl, rfl⟩) (by assumption) ?_
                    change wpAnyH _ _ _ _ _ _ _ (Act.put _ (some 118) _) _
                    simp only [Act.put, List.setIfInBounds_toArray, List.set_cons_zero, List.set_cons_succ]
                    refine wpAnyH_take (i := 21) (v := undef) rfl (by kernel_rfl) (by kernel_rfl) (by kernel_rfl) (fun _ _ _ h => h) (Or.inr ⟨by kernel_rfl, rfl⟩) (by assumption) ?_
                    change wpAnyH _ _ _ _ _ _ _ (Act.put _ (some 119) _) _
                    simp only [Act.put, List.setIfInBounds_toArray, List.set_cons_zero, List.set_cons_succ]
                    refine wpAnyH_take (i := 22) (v := undef) rfl (by kernel_rfl) (by kernel_rfl) (by kernel_rfl) (fun _ _ _ h => h) (Or.inr ⟨by kernel_rfl, rfl⟩) (by assumption) ?_
                    change wpAnyH _ _ _ _ _ _ _ (Act.put _ (some 120) _) _
                    simp only [Act.put, List.setIfInBounds_toArray, List.set_cons_zero, List.set_cons_succ]
                    refine' wpAnyH_take (i := 23) (v := _) rfl (by kernel_rfl) (by kernel_rfl) (by kernel_rfl) (fun _ _ _ h => h) (Or.inl ⟨by kernel_rfl, ?hgcx24⟩) (by assumption) ?rgcx24
                    case hgcx24 => intro W hW; obtain ⟨⟨c0, c1, c2⟩, d0, d1⟩ := hW; go_simp; all_goals with_reducible rfl
                    change wpAnyH _ _ _ _ _ _ _ (Act.put _ (some 121) _) _
                    simp only [Act.put, List.setIfInBounds_toArray, List.set_cons_zero, List.set_cons_succ]
                    refine' wpAnyH_take (i := 24) (v := _) rfl (by kernel_rfl) (by kernel_rfl) (by kernel_rfl) (fun _ _ _ h => h) (Or.inl ⟨by kernel_rfl, ?hgcx25⟩) (by assumption) ?rgcx25
                    case hgcx25 => intro W hW; obtain ⟨⟨c0, c1, c2⟩, d0, d1⟩ := hW; go_simp; all_goals with_reducible rfl
                    change wpAnyH _ _ _ _ _ _ _ (Act.put _ (some 122) _) _
                    simp only [Act.put, List.setIfInBounds_toArray, List.set_cons_zero, List.set_cons_succ]
                    refine' wpAnyH_take (i := 25) (v := _) rfl (by kernel_rfl) (by kernel_rfl) (by kernel_rfl) (fun _ _ _ h => h) (Or.inl ⟨by kernel_rfl, ?hgcx26⟩) (by assumption) ?rgcx26
                    case hgcx26 => intro W hW; obtain ⟨⟨c0, c1, c2⟩, d0, d1⟩ := hW; go_simp; all_goals with_reducible rfl
                    change wpAnyH _ _ _ _ _ _ _ (Act.put _ (some 11) _) _
                    simp only [Act.put, List.setIfInBounds_toArray, List.set_cons_zero, List.set_cons_succ]
                    refine wpAnyH_done (by kernel_rfl) ?_ _
                    have HN2 : Hid _ := hN
                    clear hN hHeld HS hbd
                    go_wp2
                    go_roundg (D.cache.length - (j + 1))
                    case measure => omega
                    case rel => exact ⟨j + 1, false, by omega, rfl, rfl, by go_num, (fun h => ⟨HNE.out, fun jj hjj hlt hp => (Nat.lt_or_ge jj j).elim (fun e => HNO.out jj hjj e hp) (fun e => by obtain rfl : jj = j := (by omega); exact absurd hp HPK.out)⟩), HN2.out⟩
              · have hjz : ¬ (j : Int) < (D.cache.length : Int) := by omega
                have hmt : mb = true := by
                  cases hmb : mb with
                  | true => rfl
                  | false =>
                    obtain ⟨hne, hno⟩ := HMB.out hmb
                    rcases HT.out k HLT.out with h | ⟨jj, hjj, h1, qq, h2⟩
                    · rw [HG1.out, HG2.out] at h
                      exact absurd (Option.some.inj h) hne
                    · rw [HG1.out] at h2
                      have e : t1 = (D.cache[jj]).2.take qq := Option.some.inj h2
                      exact absurd (by rw [e]; exact heads_take _ _) (hno jj hjj (by omega) h1)
                subst hmt
                have HN2 : Hid _ := hN
                clear hN HMB hlj hj
                go_wp2
                go_roundg (D.secs.length - (k + 1))
                case measure => have := HLT.out; omega
                case rel => exact ⟨k + 1, by have := HLT.out; omega, rfl, by go_num, HN2.out⟩
          | false =>
            have HAB : Hid (t1 ≠ t2) := fun h => by have := HQA.out.2 h; cases this
            cases qb with
            | true =>
              go_wp2_with fail
              have HS : Hid (∀ W, Below wr2.heap.size wr2 W → (W.cell? ⟨X4, 0, none⟩ = some (.slice (some ⟨b1, o1, none⟩) D1.secs.length xsc) ∧ W.cell? ⟨X3, 0, none⟩ = some (.slice (some ⟨b2, o2, none⟩) D.secs.length dsc)) ∧ W.cell? ⟨b1, o1 + k, none⟩ = some (.slice a1 n1 c1) ∧ W.cell? ⟨b2, o2 + k, none⟩ = some (.slice a2 n2 c2)) := fun W hW => ⟨⟨by rw [← EA1.out]; exact (hN.x4.below hW).cell 0, by rw [← EA2.out]; exact (hN.x3.below hW).cell 0⟩, by rw [hW.cell hb1]; exact p1, by rw [hW.cell hb2]; exact p2⟩
              have hbd : Below wr2.heap.size wr2 wr2.drew := (Below.refl _ _).drew
              replace hN := hN.on hbd
              refine wp_region_held_drew (S := fun W => (W.cell? ⟨X4, 0, none⟩ = some (.slice (some ⟨b1, o1, none⟩) D1.secs.length xsc) ∧ W.cell? ⟨X3, 0, none⟩ = some (.slice (some ⟨b2, o2, none⟩) D.secs.length dsc)) ∧ W.cell? ⟨b1, o1 + k, none⟩ = some (.slice a1 n1 c1) ∧ W.cell? ⟨b2, o2 + k, none⟩ = some (.slice a2 n2 c2)) (by kernel_rfl) (HS.out _ hbd) (fun hHeld => ?_)
              obtain ⟨wd, hwd⟩ := hidEx wr2.drew
              rw [hwd.out] at hN hbd hHeld ⊢
              clear hwd p1 p2
              refine' wpAnyH_take (i := 0) (v := _) rfl (by kernel_rfl) (by kernel_rfl) (by kernel_rfl) (fun _ _ _ h => h) (Or.inl ⟨by kernel_rfl, ?hfb1⟩) (by assumption) ?rfb1
              case hfb1 => intro W hW; obtain ⟨⟨c0, c1⟩, d0, d1⟩ := hW; go_simp; all_goals with_reducible rfl
              change wpAnyH _ _ _ _ _ _ _ (Act.put _ (some 59) _) _
              simp only [Act.put, List.setIfInBounds_toArray, List.set_cons_zero, List.set_cons_succ]
              refine' wpAnyH_take (i := 1) (v := _) rfl (by kernel_rfl) (by kernel_rfl) (by kernel_rfl) (fun _ _ _ h => h) (Or.inl ⟨by kernel_rfl, ?hfb2⟩) (by assumption) ?rfb2
              case hfb2 => intro W hW; obtain ⟨⟨c0, c1⟩, d0, d1⟩ := hW; go_simp; all_goals with_reducible rfl
              change wpAnyH _ _ _ _ _ _ _ (Act.put _ (some 60) _) _
              simp only [Act.put, List.setIfInBounds_toArray, List.set_cons_zero, List.set_cons_succ]
              refine' wpAnyH_take (i := 2) (v := _) rfl (by kernel_rfl) (by kernel_rfl) (by kernel_rfl) (fun _ _ _ h => h) (Or.inl ⟨by kernel_rfl, ?hfb3⟩) (by assumption) ?rfb3
              case hfb3 => intro W hW; obtain ⟨⟨c0, c1⟩, d0, d1⟩ := hW; go_simp; all_goals with_reducible rfl
              change wpAnyH _ _ _ _ _ _ _ (Act.put _ (some 61) _) _
              simp only [Act.put, List.setIfInBounds_toArray, List.set_cons_zero, List.set_cons_succ]
              refine' wpAnyH_take (i := 3) (v := _) rfl (by kernel_rfl) (by kernel_rfl) (by kernel_rfl) (fun _ _ _ h => h) (Or.inl ⟨by kernel_rfl, ?hfb4⟩) (by assumption) ?rfb4
              case hfb4 => intro W hW; obtain ⟨⟨c0, c1⟩, d0, d1⟩ := hW; go_simp; all_goals with_reducible rfl
              change wpAnyH _ _ _ _ _ _ _ (Act.put _ (some 62) _) _
              simp only [Act.put, List.setIfInBounds_toArray, List.set_cons_zero, List.set_cons_succ]
              refine' wpAnyH_take (i := 4) (v := _) rfl (by kernel_rfl) (by kernel_rfl) (by kernel_rfl) (fun _ _ _ h => h) (Or.inl ⟨by kernel_rfl, ?hfb5⟩) (by assumption) ?rfb5
              case hfb5 => intro W hW; obtain ⟨⟨c0, c1⟩, d0, d1⟩ := hW; go_simp; all_goals with_reducible rfl
              change wpAnyH _ _ _ _ _ _ _ (Act.put _ (some 63) _) _
              simp only [Act.put, List.setIfInBounds_toArray, List.set_cons_zero, List.set_cons_succ]
              refine' wpAnyH_take (i := 5) (v := _) rfl (by kernel_rfl) (by kernel_rfl) (by kernel_rfl) (fun _ _ _ h => h) (Or.inl ⟨by kernel_rfl, ?hfb6⟩) (by assumption) ?rfb6
              case hfb6 => intro W hW; obtain ⟨⟨c0, c1⟩, d0, d1⟩ := hW; go_simp; all_goals with_reducible rfl
              change wpAnyH _ _ _ _ _ _ _ (Act.put _ (some 64) _) _
              simp only [Act.put, List.setIfInBounds_toArray, List.set_cons_zero, List.set_cons_succ]
              refine' wpAnyH_take (i := 6) (v := _) rfl (by kernel_rfl) (by kernel_rfl) (by kernel_rfl) (fun _ _ _ h => h) (Or.inl ⟨by kernel_rfl, ?hfb7⟩) (by assumption) ?rfb7
              case hfb7 => intro W hW; obtain ⟨⟨c0, c1⟩, d0, d1⟩ := hW; go_simp; all_goals with_reducible rfl
              change wpAnyH _ _ _ _ _ _ _ (Act.put _ (some 65) _) _
              simp only [Act.put, List.setIfInBounds_toArray, List.set_cons_zero, List.set_cons_succ]
              refine' wpAnyH_take (i := 7) (v := _) rfl (by kernel_rfl) (by kernel_rfl) (by kernel_rfl) (fun _ _ _ h => h) (Or.inl ⟨by kernel_rfl, ?hfb8⟩) (by assumption) ?rfb8
              case hfb8 => intro W hW; obtain ⟨⟨c0, c1⟩, d0, d1⟩ := hW; go_simp; all_goals with_reducible rfl
              change wpAnyH _ _ _ _ _ _ _ (Act.put _ (some 66) _) _
              simp only [Act.put, List.setIfInBounds_toArray, List.set_cons_zero, List.set_cons_succ]
              refine' wpAnyH_take (i := 8) (v := _) rfl (by kernel_rfl) (by kernel_rfl) (by kernel_rfl) (fun _ _ _ h => h) (Or.inl ⟨by kernel_rfl, ?hfb9⟩) (by assumption) ?rfb9
              case hfb9 => intro W hW; obtain ⟨⟨c0, c1⟩, d0, d1⟩ := hW; go_simp; all_goals with_reducible rfl
              change wpAnyH _ _ _ _ _ _ _ (Act.put _ (some 67) _) _
              simp only [Act.put, List.setIfInBounds_toArray, List.set_cons_zero, List.set_cons_succ]
              refine' wpAnyH_take (i := 9) (v := _) rfl (by kernel_rfl) (by kernel_rfl) (by kernel_rfl) (fun _ _ _ h => h) (Or.inl ⟨by kernel_rfl, ?hfb10⟩) (by assumption) ?rfb10
              case hfb10 => intro W hW; obtain ⟨⟨c0, c1⟩, d0, d1⟩ := hW; go_simp; all_goals with_reducible rfl
              change wpAnyH _ _ _ _ _ _ _ (Act.put _ (some 68) _) _
              simp only [Act.put, List.setIfInBounds_toArray, List.set_cons_zero, List.set_cons_succ]
              refine wpAnyH_ready (rs := [10]) (by kernel_rfl) (by simp) ?_
              refine AllReadyH.cons rfl (fun KK hK => ?_) AllReadyH.nil
              go_simp
              refine (hs1 wd hbd).mono ?_
              rintro e wf ⟨rfl, hbf⟩
              have hN2 := hN.on hbf
              have hbd2 := hbd.trans (hbf.mono hbd.size)
              have hHf : (wf.cell? ⟨X4, 0, none⟩ = some (.slice (some ⟨b1, o1, none⟩) D1.secs.length xsc) ∧ wf.cell? ⟨X3, 0, none⟩ = some (.slice (some ⟨b2, o2, none⟩) D.secs.length dsc)) ∧ wf.cell? ⟨b1, o1 + k, none⟩ = some (.slice a1 n1 c1) ∧ wf.cell? ⟨b2, o2 + k, none⟩ = some (.slice a2 n2 c2) := HS.out wf hbd2
              clear hHeld hN hbd hbf hs1
              go_wp2_with fail
              refine hK.out _ _ hHf (fun hHeld => ?_)
              have hN := hN2
              have hbd := hbd2
              clear hN2 hbd2
              clear hK KK
              try simp only [Act.put, List.setIfInBounds_toArray, List.set_cons_zero, List.set_cons_succ]
              refine' wpAnyH_take (i := 11) (v := _) rfl (by kernel_rfl) (by kernel_rfl) (by kernel_rfl) (fun _ _ _ h => h) (Or.inl ⟨by kernel_rfl, ?hfb11⟩) (by assumption) ?rfb11
              case hfb11 => intro W hW; obtain ⟨⟨c0, c1⟩, d0, d1⟩ := hW; go_simp; all_goals with_reducible rfl
              change wpAnyH _ _ _ _ _ _ _ (Act.put _ (some 70) _) _
              simp only [Act.put, List.setIfInBounds_toArray, List.set_cons_zero, List.set_cons_succ]
              refine wpAnyH_take (i := 12) (v := undef) rfl (by kernel_rfl) (by kernel_rfl) (by kernel_rfl) (fun _ _ _ h => h) (Or.inr ⟨by kernel_rfl, rfl⟩) (by assumption) ?_
              change wpAnyH _ _ _ _ _ _ _ (Act.put _ (some 71) _) _
              simp only [Act.put, List.setIfInBounds_toArray, List.set_cons_zero, List.set_cons_succ]
              refine wpAnyH_take (i := 13) (v := undef) rfl (by kernel_rfl) (by kernel_rfl) (by kernel_rfl) (fun _ _ _ h => h) (Or.inr ⟨by kernel_rfl, rfl⟩) (by assumption) ?_
              change wpAnyH _ _ _ _ _ _ _ (Act.put _ (some 72) _) _
              simp only [Act.put, List.setIfInBounds_toArray, List.set_cons_zero, List.set_cons_succ]
              refine' wpAnyH_take (i := 14) (v := _) rfl (by kernel_rfl) (by kernel_rfl) (by kernel_rfl) (fun _ _ _ h => h) (Or.inl ⟨by kernel_rfl, ?hfb14⟩) (by assumption) ?rfb14
              case hfb14 => intro W hW; obtain ⟨⟨c0, c1⟩, d0, d1⟩ := hW; go_simp; all_goals with_reducible rfl
              change wpAnyH _ _ _ _ _ _ _ (Act.put _ (some 73) _) _
              simp only [Act.put, List.setIfInBounds_toArray, List.set_cons_zero, List.set_cons_succ]
              refine' wpAnyH_take (i := 15) (v := _) rfl (by kernel_rfl) (by kernel_rfl) (by kernel_rfl) (fun _ _ _ h => h) (Or.inl ⟨by kernel_rfl, ?hfb15⟩) (by assumption) ?rfb15
              case hfb15 => intro W hW; obtain ⟨⟨c0, c1⟩, d0, d1⟩ := hW; go_simp; all_goals with_reducible rfl
              change wpAnyH _ _ _ _ _ _ _ (Act.put _ (some 74) _) _
              simp only [Act.put, List.setIfInBounds_toArray, List.set_cons_zero, List.set_cons_succ]
              refine' wpAnyH_take (i := 16) (v := _) rfl (by kernel_rfl) (by kernel_rfl) (by kernel_rfl) (fun _ _ _ h => h) (Or.inl ⟨by kernel_rfl, ?hfb16⟩) (by assumption) ?rfb16
              case hfb16 => intro W hW; obtain ⟨⟨c0, c1⟩, d0, d1⟩ := hW; go_simp; all_goals with_reducible rfl
              change wpAnyH _ _ _ _ _ _ _ (Act.put _ (some 75) _) _
              simp only [Act.put, List.setIfInBounds_toArray, List.set_cons_zero, List.set_cons_succ]
              refine' wpAnyH_take (i := 17) (v := _) rfl (by kernel_rfl) (by kernel_rfl) (by kernel_rfl) (fun _ _ _ h => h) (Or.inl ⟨by kernel_rfl, ?hfb17⟩) (by assumption) ?rfb17
              case hfb17 => intro W hW; obtain ⟨⟨c0, c1⟩, d0, d1⟩ := hW; go_simp; all_goals with_reducible rfl
              change wpAnyH _ _ _ _ _ _ _ (Act.put _ (some 76) _) _
              simp only [Act.put, List.setIfInBounds_toArray, List.set_cons_zero, List.set_cons_succ]
              refine' wpAnyH_take (i := 18) (v := _) rfl (by kernel_rfl) (by kernel_rfl) (by kernel_rfl) (fun _ _ _ h => h) (Or.inl ⟨by kernel_rfl, ?hfb18⟩) (by assumption) ?rfb18
              case hfb18 => intro W hW; obtain ⟨⟨c0, c1⟩, d0, d1⟩ := hW; go_simp; all_goals with_reducible rfl
              change wpAnyH _ _ _ _ _ _ _ (Act.put _ (some 77) _) _
              simp only [Act.put, List.setIfInBounds_toArray, List.set_cons_zero, List.set_cons_succ]
              refine' wpAnyH_take (i := 19) (v := _) rfl (by kernel_rfl) (by kernel_rfl) (by kernel_rfl) (fun _ _ _ h => h) (Or.inl ⟨by kernel_rfl, ?hfb19⟩) (by assumption) ?rfb19
              case hfb19 => intro W hW; obtain ⟨⟨c0, c1⟩, d0, d1⟩ := hW; go_simp; all_goals with_reducible rfl
              change wpAnyH _ _ _ _ _ _ _ (Act.put _ (some 78) _) _
              simp only [Act.put, List.setIfInBounds_toArray, List.set_cons_zero, List.set_cons_succ]
              refine' wpAnyH_take (i := 20) (v := _) rfl (by kernel_rfl) (by kernel_rfl) (by kernel_rfl) (fun _ _ _ h => h) (Or.inl ⟨by kernel_rfl, ?hfb20⟩) (by assumption) ?rfb20
              case hfb20 => intro W hW; obtain ⟨⟨c0, c1⟩, d0, d1⟩ := hW; go_simp; all_goals with_reducible rfl
              change wpAnyH _ _ _ _ _ _ _ (Act.put _ (some 79) _) _
              simp only [Act.put, List.setIfInBounds_toArray, List.set_cons_zero, List.set_cons_succ]
              refine' wpAnyH_take (i := 21) (v := _) rfl (by kernel_rfl) (by kernel_rfl) (by kernel_rfl) (fun _ _ _ h => h) (Or.inl ⟨by kernel_rfl, ?hfb21⟩) (by assumption) ?rfb21
              case hfb21 => intro W hW; obtain ⟨⟨c0, c1⟩, d0, d1⟩ := hW; go_simp; all_goals with_reducible rfl
              change wpAnyH _ _ _ _ _ _ _ (Act.put _ (some 80) _) _
              simp only [Act.put, List.setIfInBounds_toArray, List.set_cons_zero, List.set_cons_succ]
              refine wpAnyH_ready (rs := [22]) (by kernel_rfl) (by simp) ?_
              refine AllReadyH.cons rfl (fun KK hK => ?_) AllReadyH.nil
              go_simp
              refine (hs2 wf hbd).mono ?_
              rintro e wg ⟨rfl, hbg⟩
              have hN2 := hN.on hbg
              have hbd2 := hbd.trans (hbg.mono hbd.size)
              have hHg : (wg.cell? ⟨X4, 0, none⟩ = some (.slice (some ⟨b1, o1, none⟩) D1.secs.length xsc) ∧ wg.cell? ⟨X3, 0, none⟩ = some (.slice (some ⟨b2, o2, none⟩) D.secs.length dsc)) ∧ wg.cell? ⟨b1, o1 + k, none⟩ = some (.slice a1 n1 c1) ∧ wg.cell? ⟨b2, o2 + k, none⟩ = some (.slice a2 n2 c2) := HS.out wg hbd2
              clear hHeld hN hbd hbg hs2 hHf
              go_wp2_with fail
              refine hK.out _ _ hHg (fun hHeld => ?_)
              have hN := hN2
              have hbd := hbd2
              clear hN2 hbd2
              clear hK KK
              try simp only [Act.put, List.setIfInBounds_toArray, List.set_cons_zero, List.set_cons_succ]
              refine' wpAnyH_take (i := 23) (v := _) rfl (by kernel_rfl) (by kernel_rfl) (by kernel_rfl) (fun _ _ _ h => h) (Or.inl ⟨by kernel_rfl, ?hfb22⟩) (by assumption) ?rfb22
              case hfb22 => intro W hW; obtain ⟨⟨c0, c1⟩, d0, d1⟩ := hW; go_simp; all_goals with_reducible rfl
              change wpAnyH _ _ _ _ _ _ _ (Act.put _ (some 82) _) _
              simp only [Act.put, List.setIfInBounds_toArray, List.set_cons_zero, List.set_cons_succ]
              refine' wpAnyH_take (i := 24) (v := _) rfl (by kernel_rfl) (by kernel_rfl) (by kernel_rfl) (fun _ _ _ h => h) (Or.inl ⟨by kernel_rfl, ?hfb23⟩) (by assumption) ?rfb23
              case hfb23 => intro W hW; obtain ⟨⟨c0, c1⟩, d0, d1⟩ := hW; go_simp; all_goals with_reducible rfl
              change wpAnyH _ _ _ _ _ _ _ (Act.put _ (some 83) _) _
              simp only [Act.put, List.setIfInBounds_toArray, List.set_cons_zero, List.set_cons_succ]
              refine' wpAnyH_take (i := 25) (v := _) rfl (by kernel_rfl) (by kernel_rfl) (by kernel_rfl) (fun _ _ _ h => h) (Or.inl ⟨by kernel_rfl, ?hfb24⟩) (by assumption) ?rfb24
              case hfb24 => intro W hW; obtain ⟨⟨c0, c1⟩, d0, d1⟩ := hW; go_simp; all_goals with_reducible rfl
              change wpAnyH _ _ _ _ _ _ _ (Act.put _ (some 84) _) _
              simp only [Act.put, List.setIfInBounds_toArray, List.set_cons_zero, List.set_cons_succ]
              refine' wpAnyH_take (i := 26) (v := _) rfl (by kernel_rfl) (by kernel_rfl) (by kernel_rfl) (fun _ _ _ h => h) (Or.inl ⟨by kernel_rfl, ?hfb25⟩) (by assumption) ?rfb25
              case hfb25 => intro W hW; obtain ⟨⟨c0, c1⟩, d0, d1⟩ := hW; go_simp; all_goals with_reducible rfl
              change wpAnyH _ _ _ _ _ _ _ (Act.put _ (some 85) _) _
              simp only [Act.put, List.setIfInBounds_toArray, List.set_cons_zero, List.set_cons_succ]
              refine' wpAnyH_take (i := 27) (v := _) rfl (by kernel_rfl) (by kernel_rfl) (by kernel_rfl) (fun _ _ _ h => h) (Or.inl ⟨by kernel_rfl, ?hfb26⟩) (by assumption) ?rfb26
              case hfb26 => intro W hW; obtain ⟨⟨c0, c1⟩, d0, d1⟩ := hW; go_simp; all_goals with_reducible rfl
              change wpAnyH _ _ _ _ _ _ _ (Act.put _ (some 86) _) _
              simp only [Act.put, List.setIfInBounds_toArray, List.set_cons_zero, List.set_cons_succ]
              refine' wpAnyH_take (i := 28) (v := _) rfl (by kernel_rfl) (by kernel_rfl) (by kernel_rfl) (fun _ _ _ h => h) (Or.inl ⟨by kernel_rfl, ?hfb27⟩) (by assumption) ?rfb27
              case hfb27 => intro W hW; obtain ⟨⟨c0, c1⟩, d0, d1⟩ := hW; go_simp; all_goals with_reducible rfl
              change wpAnyH _ _ _ _ _ _ _ (Act.put _ (some 11) _) _
              simp only [Act.put, List.setIfInBounds_toArray, List.set_cons_zero, List.set_cons_succ]
              refine wpAnyH_done (by kernel_rfl) ?_ _
              have HN : Hid _ := hN
              clear hN hHeld hbd HS
              clear hHg
              go_wp2
              go_loopg [11, 12] D.cache.length (fun q m i wr => ∃ (j : Nat) (mb : Bool), j ≤ D.cache.length ∧ q = D.cache.length - j ∧ m = .bool mb ∧ i = .int .i64 j ∧ (mb = false → t1 ≠ t2 ∧ ∀ (jj : Nat) (h : jj < D.cache.length), jj < j → (D.cache[jj]).1 = (k : Int) → ¬ Heads (D.cache[jj]).2 t1) ∧ DFk w X3 X4 [.slice dsa D.secs.length dsc, .slice dca D.cache.length dcc, .int .i64 D.ops, .slice dfa D.faults.length dfc, .bool D.down] [.slice xsa D1.secs.length xsc, .slice xca D1.cache.length xcc, .int .i64 D1.ops, .slice xfa D1.faults.length xfc, .bool D1.down] (.agg #[.slice dsa D.secs.length dsc, .slice dca D.cache.length dcc, .int .i64 D.ops, .slice dfa D.faults.length dfc, .bool D.down]) (.agg #[.slice xsa D1.secs.length xsc, .slice xca D1.cache.length xcc, .int .i64 D1.ops, .slice xfa D1.faults.length xfc, .bool D1.down]) D D1 wr)
              case atStart => exact ⟨0, false, Nat.zero_le _, rfl, rfl, rfl, (fun _ => ⟨HAB.out, fun jj _ h => absurd h (Nat.not_lt_zero _)⟩), HN.out⟩
              case round =>
                clear HN
                obtain ⟨j, mb, hj, rfl, rfl, rfl, hmb, hN⟩ := hrel
                have HMB : Hid (mb = false → t1 ≠ t2 ∧ ∀ (jj : Nat) (h : jj < D.cache.length), jj < j → (D.cache[jj]).1 = (k : Int) → ¬ Heads (D.cache[jj]).2 t1) := hmb
                clear hmb
                have s1 : wr.cell? ⟨X3, 1, none⟩ = some (.slice dca D.cache.length dcc) := hN.x3.cell 1
                by_cases hlj : j < D.cache.length
                · have hjz : (j : Int) < (D.cache.length : Int) := by omega
                  have hjn : D.cache.length ≤ 1048576 := HFF.out.1.nc
                  cases mb with
                  | true =>
                    go_wp2_with fail
                    clear s1
                    replace hN := hN.on (Below.refl _ _).drew
                    refine wp_region_held_drew (S := fun _ => True) (by kernel_rfl) trivial (fun hHeld => ?_)
                    refine' wpAnyH_take (i := 0) (v := _) rfl (by kernel_rfl) (by kernel_rfl) (by kernel_rfl) (fun _ _ _ h => h) (Or.inl ⟨by kernel_rfl, ?hgay1⟩) (by assumption) ?rgay1
                    case hgay1 => intro W hW; go_simp; all_goals with_reducible rfl
                    change wpAnyH _ _ _ _ _ _ _ (Act.put _ (some 98) _) _
                    simp only [Act.put, List.setIfInBounds_toArray, List.set_cons_zero, List.set_cons_succ]
                    refine' wpAnyH_take (i := 1) (v := _) rfl (by kernel_rfl) (by kernel_rfl) (by kernel_rfl) (fun _ _ _ h => h) (Or.inl ⟨by kernel_rfl, ?hgay2⟩) (by assumption) ?rgay2
                    case hgay2 => intro W hW; go_simp; all_goals with_reducible rfl
                    change wpAnyH _ _ _ _ _ _ _ (Act.put _ (some 99) _) _
                    simp only [Act.put, List.setIfInBounds_toArray, List.set_cons_zero, List.set_cons_succ]
                    refine wpAnyH_take (i := 2) (v := undef) rfl (by kernel_rfl) (by kernel_rfl) (by kernel_rfl) (fun _ _ _ h => h) (Or.inr ⟨by kernel_rfl, rfl⟩) (by assumption) ?_
                    change wpAnyH _ _ _ _ _ _ _ (Act.put _ (some 100) _) _
                    simp only [Act.put, List.setIfInBounds_toArray, List.set_cons_zero, List.set_cons_succ]
                    refine wpAnyH_take (i := 3) (v := undef) rfl (by kernel_rfl) (by kernel_rfl) (by kernel_rfl) (fun _ _ _ h => h) (Or.inr ⟨by kernel_rfl, rfl⟩) (by assumption) ?_
                    change wpAnyH _ _ _ _ _ _ _ (Act.put _ (some 101) _) _
                    simp only [Act.put, List.setIfInBounds_toArray, List.set_cons_zero, List.set_cons_succ]
                    refine wpAnyH_take (i := 4) (v := undef) rfl (by kernel_rfl) (by kernel_rfl) (by kernel_rfl) (fun _ _ _ h => h) (Or.inr ⟨by kernel_rfl, rfl⟩) (by assumption) ?_
                    change wpAnyH _ _ _ _ _ _ _ (Act.put _ (some 102) _) _
                    simp only [Act.put, List.setIfInBounds_toArray, List.set_cons_zero, List.set_cons_succ]
                    refine wpAnyH_take (i := 5) (v := undef) rfl (by kernel_rfl) (by kernel_rfl) (by kernel_rfl) (fun _ _ _ h => h) (Or.inr ⟨by kernel_rfl, rfl⟩) (by assumption) ?_
                    change wpAnyH _ _ _ _ _ _ _ (Act.put _ (some 103) _) _
                    simp only [Act.put, List.setIfInBounds_toArray, List.set_cons_zero, List.set_cons_succ]
                    refine wpAnyH_take (i := 6) (v := undef) rfl (by kernel_rfl) (by kernel_rfl) (by kernel_rfl) (fun _ _ _ h => h) (Or.inr ⟨by kernel_rfl, rfl⟩) (by assumption) ?_
                    change wpAnyH _ _ _ _ _ _ _ (Act.put _ (some 104) _) _
                    simp only [Act.put, List.setIfInBounds_toArray, List.set_cons_zero, List.set_cons_succ]
                    refine wpAnyH_take (i := 7) (v := undef) rfl (by kernel_rfl) (by kernel_rfl) (by kernel_rfl) (fun _ _ _ h => h) (Or.inr ⟨by kernel_rfl, rfl⟩) (by assumption) ?_
                    change wpAnyH _ _ _ _ _ _ _ (Act.put _ (some 105) _) _
                    simp only [Act.put, List.setIfInBounds_toArray, List.set_cons_zero, List.set_cons_succ]
                    refine wpAnyH_take (i := 8) (v := undef) rfl (by kernel_rfl) (by kernel_rfl) (by kernel_rfl) (fun _ _ _ h => h) (Or.inr ⟨by kernel_rfl, rfl⟩) (by assumption) ?_
                    change wpAnyH _ _ _ _ _ _ _ (Act.put _ (some 106) _) _
                    simp only [Act.put, List.setIfInBounds_toArray, List.set_cons_zero, List.set_cons_succ]
                    refine wpAnyH_take (i := 9) (v := undef) rfl (by kernel_rfl) (by kernel_rfl) (by kernel_rfl) (fun _ _ _ h => h) (Or.inr ⟨by kernel_rfl, rfl⟩) (by assumption) ?_
                    change wpAnyH _ _ _ _ _ _ _ (Act.put _ (some 107) _) _
                    simp only [Act.put, List.setIfInBounds_toArray, List.set_cons_zero, List.set_cons_succ]
                    refine wpAnyH_take (i := 10) (v := undef) rfl (by kernel_rfl) (by kernel_rfl) (by kernel_rfl) (fun _ _ _ h => h) (Or.inr ⟨by kernel_rfl, rfl⟩) (by assumption) ?_
                    change wpAnyH _ _ _ _ _ _ _ (Act.put _ (some 108) _) _
                    simp only [Act.put, List.setIfInBounds_toArray, List.set_cons_zero, List.set_cons_succ]
                    refine wpAnyH_take (i := 11) (v := undef) rfl (by kernel_rfl) (by kernel_rfl) (by kernel_rfl) (fun _ _ _ h => h) (Or.inr ⟨by kernel_rfl, rfl⟩) (by assumption) ?_
                    change wpAnyH _ _ _ _ _ _ _ (Act.put _ (some 109) _) _
                    simp only [Act.put, List.setIfInBounds_toArray, List.set_cons_zero, List.set_cons_succ]
                    refine wpAnyH_take (i := 12) (v := undef) rfl (by kernel_rfl) (by kernel_rfl) (by kernel_rfl) (fun _ _ _ h => h) (Or.inr ⟨by kernel_rfl, rfl⟩) (by assumption) ?_
                    change wpAnyH _ _ _ _ _ _ _ (Act.put _ (some 110) _) _
                    simp only [Act.put, List.setIfInBounds_toArray, List.set_cons_zero, List.set_cons_succ]
                    refine wpAnyH_take (i := 13) (v := undef) rfl (by kernel_rfl) (by kernel_rfl) (by kernel_rfl) (fun _ _ _ h => h) (Or.inr ⟨by kernel_rfl, rfl⟩) (by assumption) ?_
                    change wpAnyH _ _ _ _ _ _ _ (Act.put _ (some 111) _) _
                    simp only [Act.put, List.setIfInBounds_toArray, List.set_cons_zero, List.set_cons_succ]
                    refine wpAnyH_take (i := 14) (v := undef) rfl (by kernel_rfl) (by kernel_rfl) (by kernel_rfl) (fun _ _ _ h => h) (Or.inr ⟨by kernel_rfl, rfl⟩) (by assumption) ?_
                    change wpAnyH _ _ _ _ _ _ _ (Act.put _ (some 112) _) _
                    simp only [Act.put, List.setIfInBounds_toArray, List.set_cons_zero, List.set_cons_succ]
                    refine wpAnyH_take (i := 15) (v := undef) rfl (by kernel_rfl) (by kernel_rfl) (by kernel_rfl) (fun _ _ _ h => h) (Or.inr ⟨by kernel_rfl, rfl⟩) (by assumption) ?_
                    change wpAnyH _ _ _ _ _ _ _ (Act.put _ (some 113) _) _
                    simp only [Act.put, List.setIfInBounds_toArray, List.set_cons_zero, List.set_cons_succ]
                    refine wpAnyH_take (i := 16) (v := undef) rfl (by kernel_rfl) (by kernel_rfl) (by kernel_rfl) (fun _ _ _ h => h) (Or.inr ⟨by kernel_rfl, rfl⟩) (by assumption) ?_
                    change wpAnyH _ _ _ _ _ _ _ (Act.put _ (some 114) _) _
                    simp only [Act.put, List.setIfInBounds_toArray, List.set_cons_zero, List.set_cons_succ]
                    refine wpAnyH_take (i := 17) (v := undef) rfl (by kernel_rfl) (by kernel_rfl) (by kernel_rfl) (fun _ _ _ h => h) (Or.inr ⟨by kernel_rfl, rfl⟩) (by assumption) ?_
                    change wpAnyH _ _ _ _ _ _ _ (Act.put _ (some 115) _) _
                    simp only [Act.put, List.setIfInBounds_toArray, List.set_cons_zero, List.set_cons_succ]
                    refine wpAnyH_take (i := 18) (v := undef) rfl (by kernel_rfl) (by kernel_rfl) (by kernel_rfl) (fun _ _ _ h => h) (Or.inr ⟨by kernel_rfl, rfl⟩) (by assumption) ?_
                    change wpAnyH _ _ _ _ _ _ _ (Act.put _ (some 116) _) _
                    simp only [Act.put, List.setIfInBounds_toArray, List.set_cons_zero, List.set_cons_succ]
                    refine wpAnyH_take (i := 19) (v := undef) rfl (by kernel_rfl) (by kernel_rfl) (by kernel_rfl) (fun _ _ _ h => h) (Or.inr ⟨by kernel_rfl, rfl⟩) (by assumption) ?_
                    change wpAnyH _ _ _ _ _ _ _ (Act.put _ (some 117) _) _
                    simp only [Act.put, List.setIfInBounds_toArray, List.set_cons_zero, List.set_cons_succ]
                    refine wpAnyH_take (i := 20) (v := undef) rfl (by kernel_rfl) (by kernel_rfl) (by kernel_rfl) (fun _ _ _ h => h) (Or.inr ⟨by kernel_rfl, rfl⟩) (by assumption) ?_
                    change wpAnyH _ _ _ _ _ _ _ (Act.put _ (some 118) _) _
                    simp only [Act.put, List.setIfInBounds_toArray, List.set_cons_zero, List.set_cons_succ]
                    refine wpAnyH_take (i := 21) (v := undef) rfl (by kernel_rfl) (by kernel_rfl) (by kernel_rfl) (fun _ _ _ h => h) (Or.inr ⟨by kernel_rfl, rfl⟩) (by assumption) ?_
                    change wpAnyH _ _ _ _ _ _ _ (Act.put _ (some 119) _) _
                    simp only [Act.put, List.setIfInBounds_toArray, List.set_cons_zero, List.set_cons_succ]
                    refine wpAnyH_take (i := 22) (v := undef) rfl (by kernel_rfl) (by kernel_rfl) (by kernel_rfl) (fun _ _ _ h => h) (Or.inr ⟨by kernel_rfl, rfl⟩) (by assumption) ?_
                    change wpAnyH _ _ _ _ _ _ _ (Act.put _ (some 120) _) _
                    simp only [Act.put, List.setIfInBounds_toArray, List.set_cons_zero, List.set_cons_succ]
                    refine wpAnyH_take (i := 23) (v := undef) rfl (by kernel_rfl) (by kernel_rfl) (by kernel_rfl) (fun _ _ _ h => h) (Or.inr ⟨by kernel_rfl, rfl⟩) (by assumption) ?_
                    change wpAnyH _ _ _ _ _ _ _ (Act.put _ (some 121) _) _
                    simp only [Act.put, List.setIfInBounds_toArray, List.set_cons_zero, List.set_cons_succ]
                    refine' wpAnyH_take (i := 24) (v := _) rfl (by kernel_rfl) (by kernel_rfl) (by kernel_rfl) (fun _ _ _ h => h) (Or.inl ⟨by kernel_rfl, ?hgay25⟩) (by assumption) ?rgay25
                    case hgay25 => intro W hW; go_simp; all_goals with_reducible rfl
                    change wpAnyH _ _ _ _ _ _ _ (Act.put _ (some 122) _) _
                    simp only [Act.put, List.setIfInBounds_toArray, List.set_cons_zero, List.set_cons_succ]
                    refine' wpAnyH_take (i := 25) (v := _) rfl (by kernel_rfl) (by kernel_rfl) (by kernel_rfl) (fun _ _ _ h => h) (Or.inl ⟨by kernel_rfl, ?hgay26⟩) (by assumption) ?rgay26
                    case hgay26 => intro W hW; go_simp; all_goals with_reducible rfl
                    change wpAnyH _ _ _ _ _ _ _ (Act.put _ (some 11) _) _
                    simp only [Act.put, List.setIfInBounds_toArray, List.set_cons_zero, List.set_cons_succ]
                    refine wpAnyH_done (by kernel_rfl) ?_ _
                    have HN2 : Hid _ := hN
                    clear hN hHeld
                    go_wp2
                    go_roundg (D.cache.length - (j + 1))
                    case measure => omega
                    case rel => exact ⟨j + 1, true, by omega, rfl, rfl, by go_num, (fun h => by cases h), HN2.out⟩
                  | false =>
                    obtain ⟨hne, hno⟩ := HMB.out rfl
                    have HNE : Hid (t1 ≠ t2) := hne
                    have HNO : Hid (∀ (jj : Nat) (h : jj < D.cache.length), jj < j → (D.cache[jj]).1 = (k : Int) → ¬ Heads (D.cache[jj]).2 t1) := hno
                    clear hne hno HMB
                    obtain ⟨b5, o5, a5, c5, ea5, hb5, q0, q1, v5, hn5⟩ := wview_at (sec_of hN.k3).2 hlj
                    obtain ⟨b1, o1, a1, c1, ea1, hb1, p1, v1, -⟩ := sview_at (sec_of hN.k4).1 (List.getElem?_eq_some_iff.1 HG1.out).1
                    have EA5 : Hid _ := ea5
                    have EA1 : Hid _ := ea1
                    clear ea1 ea5
                    have ht1 : D1.secs[k]'(List.getElem?_eq_some_iff.1 HG1.out).1 = t1 := (List.getElem?_eq_some_iff.1 HG1.out).2
                    rw [ht1] at p1 v1
                    have hl1 : t1.length ≤ 1048576 := by rw [← ht1]; exact HFF.out.2.1.sec _ (List.getElem_mem _)
                    have hbg := fun W (hW : Below wr.heap.size wr W) => begins_lv a5 (D.cache[j]).2.length c5 a1 t1.length c1 (bf (D.cache[j]).2) (bf t1) W (v5.below hW) hn5 (v1.below hW) (by omega)
                    have HNX : Hid (∀ (bb : Bool), decide (t1.length ≤ (D.cache[j]).2.length ∧ lof t1.length (bf (D.cache[j]).2) = lof t1.length (bf t1)) = bb → bb = false → ¬ Heads (D.cache[j]).2 t1) := fun bb h h2 h3 => by
                      rw [h2] at h
                      exact absurd h3 (by simpa [Heads] using h)
                    obtain ⟨bb, hbb⟩ := hidEx (decide (t1.length ≤ (D.cache[j]).2.length ∧ lof t1.length (bf (D.cache[j]).2) = lof t1.length (bf t1)))
                    simp only [hbb.out] at hbg
                    have HNB : Hid (bb = false → ¬ Heads (D.cache[j]).2 t1) := HNX.out bb hbb.out
                    have HP0 : Hid (∀ (x : Int), (D.cache[j]).1 = x → x ≠ (k : Int) → (D.cache[j]).1 ≠ (k : Int)) := fun x h h2 => by rw [h]; exact h2
                    obtain ⟨p0, hp0⟩ := hidEx (D.cache[j]).1
                    obtain ⟨n5, hn5e⟩ := hidEx (D.cache[j]).2.length
                    obtain ⟨n1, hn1e⟩ := hidEx t1.length
                    have HPX : Hid (p0 ≠ (k : Int) → (D.cache[j]).1 ≠ (k : Int)) := HP0.out p0 hp0.out
                    rw [hp0.out] at q0
                    simp only [hn5e.out] at q1 hbg
                    simp only [hn1e.out] at p1 hbg
                    have hkz1 : (k : Int) < (D1.secs.length : Int) := by have := (List.getElem?_eq_some_iff.1 HG1.out).1; omega
                    clear v5 v1 hn5 ht1 hl1 HNX hbb HP0 hp0 hn5e hn1e
                    have HS : Hid (∀ W, Below wr.heap.size wr W → (W.cell? ⟨X3, 1, none⟩ = some (.slice (some ⟨b5, o5, none⟩) D.cache.length dcc) ∧ W.cell? ⟨b5, o5 + j * 2, none⟩ = some (.int .i64 p0) ∧ W.cell? ⟨b5, o5 + j * 2 + 1, none⟩ = some (.slice a5 n5 c5)) ∧ W.cell? ⟨X4, 0, none⟩ = some (.slice (some ⟨b1, o1, none⟩) D1.secs.length xsc) ∧ W.cell? ⟨b1, o1 + k, none⟩ = some (.slice a1 n1 c1)) := fun W hW => ⟨⟨by rw [← EA5.out]; exact (hN.x3.below hW).cell 1, by rw [hW.cell hb5]; exact q0, by rw [hW.cell hb5]; exact q1⟩, by rw [← EA1.out]; exact (hN.x4.below hW).cell 0, by rw [hW.cell hb1]; exact p1⟩
                    by_cases hpk : p0 = (k : Int)
                    · have hpq : (p0 == (k : Int)) = true := beq_iff_eq.2 hpk
                      clear hpk
                      go_wp2_with fail
                      clear s1 q0 q1 p1
                      have hbd : Below wr.heap.size wr wr.drew := (Below.refl _ _).drew
                      replace hN := hN.on hbd
                      refine wp_region_held_drew (S := fun W => (W.cell? ⟨X3, 1, none⟩ = some (.slice (some ⟨b5, o5, none⟩) D.cache.length dcc) ∧ W.cell? ⟨b5, o5 + j * 2, none⟩ = some (.int .i64 p0) ∧ W.cell? ⟨b5, o5 + j * 2 + 1, none⟩ = some (.slice a5 n5 c5)) ∧ W.cell? ⟨X4, 0, none⟩ = some (.slice (some ⟨b1, o1, none⟩) D1.secs.length xsc) ∧ W.cell? ⟨b1, o1 + k, none⟩ = some (.slice a1 n1 c1)) (by kernel_rfl) (HS.out _ hbd) (fun hHeld => ?_)
                      obtain ⟨wd, hwd⟩ := hidEx wr.drew
                      rw [hwd.out] at hN hbd hHeld ⊢
                      clear hwd
                      refine' wpAnyH_take (i := 0) (v := _) rfl (by kernel_rfl) (by kernel_rfl) (by kernel_rfl) (fun _ _ _ h => h) (Or.inl ⟨by kernel_rfl, ?hgby1⟩) (by assumption) ?rgby1
                      case hgby1 => intro W hW; obtain ⟨⟨c0, c1, c2⟩, d0, d1⟩ := hW; go_simp; all_goals with_reducible rfl
                      change wpAnyH _ _ _ _ _ _ _ (Act.put _ (some 98) _) _
                      simp only [Act.put, List.setIfInBounds_toArray, List.set_cons_zero, List.set_cons_succ]
                      refine' wpAnyH_take (i := 1) (v := _) rfl (by kernel_rfl) (by kernel_rfl) (by kernel_rfl) (fun _ _ _ h => h) (Or.inl ⟨by kernel_rfl, ?hgby2⟩) (by assumption) ?rgby2
                      case hgby2 => intro W hW; obtain ⟨⟨c0, c1, c2⟩, d0, d1⟩ := hW; go_simp; all_goals with_reducible rfl
                      change wpAnyH _ _ _ _ _ _ _ (Act.put _ (some 99) _) _
                      simp only [Act.put, List.setIfInBounds_toArray, List.set_cons_zero, List.set_cons_succ]
                      refine' wpAnyH_take (i := 2) (v := _) rfl (by kernel_rfl) (by kernel_rfl) (by kernel_rfl) (fun _ _ _ h => h) (Or.inl ⟨by kernel_rfl, ?hgby3⟩) (by assumption) ?rgby3
                      case hgby3 => intro W hW; obtain ⟨⟨c0, c1, c2⟩, d0, d1⟩ := hW; go_simp; all_goals with_reducible rfl
                      change wpAnyH _ _ _ _ _ _ _ (Act.put _ (some 100) _) _
                      simp only [Act.put, List.setIfInBounds_toArray, List.set_cons_zero, List.set_cons_succ]
                      refine' wpAnyH_take (i := 3) (v := _) rfl (by kernel_rfl) (by kernel_rfl) (by kernel_rfl) (fun _ _ _ h => h) (Or.inl ⟨by kernel_rfl, ?hgby4⟩) (by assumption) ?rgby4
                      case hgby4 => intro W hW; obtain ⟨⟨c0, c1, c2⟩, d0, d1⟩ := hW; go_simp; all_goals with_reducible rfl
                      change wpAnyH _ _ _ _ _ _ _ (Act.put _ (some 101) _) _
                      simp only [Act.put, List.setIfInBounds_toArray, List.set_cons_zero, List.set_cons_succ]
                      refine' wpAnyH_take (i := 4) (v := _) rfl (by kernel_rfl) (by kernel_rfl) (by kernel_rfl) (fun _ _ _ h => h) (Or.inl ⟨by kernel_rfl, ?hgby5⟩) (by assumption) ?rgby5
                      case hgby5 => intro W hW; obtain ⟨⟨c0, c1, c2⟩, d0, d1⟩ := hW; go_simp; all_goals with_reducible rfl
                      change wpAnyH _ _ _ _ _ _ _ (Act.put _ (some 102) _) _
                      simp only [Act.put, List.setIfInBounds_toArray, List.set_cons_zero, List.set_cons_succ]
                      refine' wpAnyH_take (i := 5) (v := _) rfl (by kernel_rfl) (by kernel_rfl) (by kernel_rfl) (fun _ _ _ h => h) (Or.inl ⟨by kernel_rfl, ?hgby6⟩) (by assumption) ?rgby6
                      case hgby6 => intro W hW; obtain ⟨⟨c0, c1, c2⟩, d0, d1⟩ := hW; go_simp; all_goals with_reducible rfl
                      change wpAnyH _ _ _ _ _ _ _ (Act.put _ (some 103) _) _
                      simp only [Act.put, List.setIfInBounds_toArray, List.set_cons_zero, List.set_cons_succ]
                      refine' wpAnyH_take (i := 6) (v := _) rfl (by kernel_rfl) (by kernel_rfl) (by kernel_rfl) (fun _ _ _ h => h) (Or.inl ⟨by kernel_rfl, ?hgby7⟩) (by assumption) ?rgby7
                      case hgby7 => intro W hW; obtain ⟨⟨c0, c1, c2⟩, d0, d1⟩ := hW; go_simp; all_goals with_reducible rfl
                      change wpAnyH _ _ _ _ _ _ _ (Act.put _ (some 104) _) _
                      simp only [Act.put, List.setIfInBounds_toArray, List.set_cons_zero, List.set_cons_succ]
                      refine' wpAnyH_take (i := 7) (v := _) rfl (by kernel_rfl) (by kernel_rfl) (by kernel_rfl) (fun _ _ _ h => h) (Or.inl ⟨by kernel_rfl, ?hgby8⟩) (by assumption) ?rgby8
                      case hgby8 => intro W hW; obtain ⟨⟨c0, c1, c2⟩, d0, d1⟩ := hW; go_simp; all_goals with_reducible rfl
                      change wpAnyH _ _ _ _ _ _ _ (Act.put _ (some 105) _) _
                      simp only [Act.put, List.setIfInBounds_toArray, List.set_cons_zero, List.set_cons_succ]
                      refine' wpAnyH_take (i := 8) (v := _) rfl (by kernel_rfl) (by kernel_rfl) (by kernel_rfl) (fun _ _ _ h => h) (Or.inl ⟨by kernel_rfl, ?hgby9⟩) (by assumption) ?rgby9
                      case hgby9 => intro W hW; obtain ⟨⟨c0, c1, c2⟩, d0, d1⟩ := hW; go_simp; all_goals with_reducible rfl
                      change wpAnyH _ _ _ _ _ _ _ (Act.put _ (some 106) _) _
                      simp only [Act.put, List.setIfInBounds_toArray, List.set_cons_zero, List.set_cons_succ]
                      refine' wpAnyH_take (i := 9) (v := _) rfl (by kernel_rfl) (by kernel_rfl) (by kernel_rfl) (fun _ _ _ h => h) (Or.inl ⟨by kernel_rfl, ?hgby10⟩) (by assumption) ?rgby10
                      case hgby10 => intro W hW; obtain ⟨⟨c0, c1, c2⟩, d0, d1⟩ := hW; go_simp; all_goals with_reducible rfl
                      change wpAnyH _ _ _ _ _ _ _ (Act.put _ (some 107) _) _
                      simp only [Act.put, List.setIfInBounds_toArray, List.set_cons_zero, List.set_cons_succ]
                      refine' wpAnyH_take (i := 10) (v := _) rfl (by kernel_rfl) (by kernel_rfl) (by kernel_rfl) (fun _ _ _ h => h) (Or.inl ⟨by kernel_rfl, ?hgby11⟩) (by assumption) ?rgby11
                      case hgby11 => intro W hW; obtain ⟨⟨c0, c1, c2⟩, d0, d1⟩ := hW; go_simp; all_goals with_reducible rfl
                      change wpAnyH _ _ _ _ _ _ _ (Act.put _ (some 108) _) _
                      simp only [Act.put, List.setIfInBounds_toArray, List.set_cons_zero, List.set_cons_succ]
                      refine' wpAnyH_take (i := 11) (v := _) rfl (by kernel_rfl) (by kernel_rfl) (by kernel_rfl) (fun _ _ _ h => h) (Or.inl ⟨by kernel_rfl, ?hgby12⟩) (by assumption) ?rgby12
                      case hgby12 => intro W hW; obtain ⟨⟨c0, c1, c2⟩, d0, d1⟩ := hW; go_simp; all_goals with_reducible rfl
                      change wpAnyH _ _ _ _ _ _ _ (Act.put _ (some 109) _) _
                      simp only [Act.put, List.setIfInBounds_toArray, List.set_cons_zero, List.set_cons_succ]
                      refine' wpAnyH_take (i := 12) (v := _) rfl (by kernel_rfl) (by kernel_rfl) (by kernel_rfl) (fun _ _ _ h => h) (Or.inl ⟨by kernel_rfl, ?hgby13⟩) (by assumption) ?rgby13
                      case hgby13 => intro W hW; obtain ⟨⟨c0, c1, c2⟩, d0, d1⟩ := hW; go_simp; all_goals with_reducible rfl
                      change wpAnyH _ _ _ _ _ _ _ (Act.put _ (some 110) _) _
                      simp only [Act.put, List.setIfInBounds_toArray, List.set_cons_zero, List.set_cons_succ]
                      refine' wpAnyH_take (i := 13) (v := _) rfl (by kernel_rfl) (by kernel_rfl) (by kernel_rfl) (fun _ _ _ h => h) (Or.inl ⟨by kernel_rfl, ?hgby14⟩) (by assumption) ?rgby14
                      case hgby14 => intro W hW; obtain ⟨⟨c0, c1, c2⟩, d0, d1⟩ := hW; go_simp; all_goals with_reducible rfl
                      change wpAnyH _ _ _ _ _ _ _ (Act.put _ (some 111) _) _
                      simp only [Act.put, List.setIfInBounds_toArray, List.set_cons_zero, List.set_cons_succ]
                      refine' wpAnyH_take (i := 14) (v := _) rfl (by kernel_rfl) (by kernel_rfl) (by kernel_rfl) (fun _ _ _ h => h) (Or.inl ⟨by kernel_rfl, ?hgby15⟩) (by assumption) ?rgby15
                      case hgby15 => intro W hW; obtain ⟨⟨c0, c1, c2⟩, d0, d1⟩ := hW; go_simp; all_goals with_reducible rfl
                      change wpAnyH _ _ _ _ _ _ _ (Act.put _ (some 112) _) _
                      simp only [Act.put, List.setIfInBounds_toArray, List.set_cons_zero, List.set_cons_succ]
                      refine' wpAnyH_take (i := 15) (v := _) rfl (by kernel_rfl) (by kernel_rfl) (by kernel_rfl) (fun _ _ _ h => h) (Or.inl ⟨by kernel_rfl, ?hgby16⟩) (by assumption) ?rgby16
                      case hgby16 => intro W hW; obtain ⟨⟨c0, c1, c2⟩, d0, d1⟩ := hW; go_simp; all_goals with_reducible rfl
                      change wpAnyH _ _ _ _ _ _ _ (Act.put _ (some 113) _) _
                      simp only [Act.put, List.setIfInBounds_toArray, List.set_cons_zero, List.set_cons_succ]
                      refine' wpAnyH_take (i := 16) (v := _) rfl (by kernel_rfl) (by kernel_rfl) (by kernel_rfl) (fun _ _ _ h => h) (Or.inl ⟨by kernel_rfl, ?hgby17⟩) (by assumption) ?rgby17
                      case hgby17 => intro W hW; obtain ⟨⟨c0, c1, c2⟩, d0, d1⟩ := hW; go_simp; all_goals with_reducible rfl
                      change wpAnyH _ _ _ _ _ _ _ (Act.put _ (some 114) _) _
                      simp only [Act.put, List.setIfInBounds_toArray, List.set_cons_zero, List.set_cons_succ]
                      refine' wpAnyH_take (i := 17) (v := _) rfl (by kernel_rfl) (by kernel_rfl) (by kernel_rfl) (fun _ _ _ h => h) (Or.inl ⟨by kernel_rfl, ?hgby18⟩) (by assumption) ?rgby18
                      case hgby18 => intro W hW; obtain ⟨⟨c0, c1, c2⟩, d0, d1⟩ := hW; go_simp; all_goals with_reducible rfl
                      change wpAnyH _ _ _ _ _ _ _ (Act.put _ (some 115) _) _
                      simp only [Act.put, List.setIfInBounds_toArray, List.set_cons_zero, List.set_cons_succ]
                      refine' wpAnyH_take (i := 18) (v := _) rfl (by kernel_rfl) (by kernel_rfl) (by kernel_rfl) (fun _ _ _ h => h) (Or.inl ⟨by kernel_rfl, ?hgby19⟩) (by assumption) ?rgby19
                      case hgby19 => intro W hW; obtain ⟨⟨c0, c1, c2⟩, d0, d1⟩ := hW; go_simp; all_goals with_reducible rfl
                      change wpAnyH _ _ _ _ _ _ _ (Act.put _ (some 116) _) _
                      simp only [Act.put, List.setIfInBounds_toArray, List.set_cons_zero, List.set_cons_succ]
                      refine' wpAnyH_take (i := 19) (v := _) rfl (by kernel_rfl) (by kernel_rfl) (by kernel_rfl) (fun _ _ _ h => h) (Or.inl ⟨by kernel_rfl, ?hgby20⟩) (by assumption) ?rgby20
                      case hgby20 => intro W hW; obtain ⟨⟨c0, c1, c2⟩, d0, d1⟩ := hW; go_simp; all_goals with_reducible rfl
                      change wpAnyH _ _ _ _ _ _ _ (Act.put _ (some 117) _) _
                      simp only [Act.put, List.setIfInBounds_toArray, List.set_cons_zero, List.set_cons_succ]
                      refine' wpAnyH_take (i := 20) (v := _) rfl (by kernel_rfl) (by kernel_rfl) (by kernel_rfl) (fun _ _ _ h => h) (Or.inl ⟨by kernel_rfl, ?hgby21⟩) (by assumption) ?rgby21
                      case hgby21 => intro W hW; obtain ⟨⟨c0, c1, c2⟩, d0, d1⟩ := hW; go_simp; all_goals with_reducible rfl
                      change wpAnyH _ _ _ _ _ _ _ (Act.put _ (some 118) _) _
                      simp only [Act.put, List.setIfInBounds_toArray, List.set_cons_zero, List.set_cons_succ]
                      refine' wpAnyH_take (i := 21) (v := _) rfl (by kernel_rfl) (by kernel_rfl) (by kernel_rfl) (fun _ _ _ h => h) (Or.inl ⟨by kernel_rfl, ?hgby22⟩) (by assumption) ?rgby22
                      case hgby22 => intro W hW; obtain ⟨⟨c0, c1, c2⟩, d0, d1⟩ := hW; go_simp; all_goals with_reducible rfl
                      change wpAnyH _ _ _ _ _ _ _ (Act.put _ (some 119) _) _
                      simp only [Act.put, List.setIfInBounds_toArray, List.set_cons_zero, List.set_cons_succ]
                      refine wpAnyH_ready (rs := [22]) (by kernel_rfl) (by simp) ?_
                      refine AllReadyH.cons rfl (fun KK hK => ?_) AllReadyH.nil
                      go_simp
                      refine (hbg wd hbd).mono ?_
                      rintro e wf ⟨rfl, hbf⟩
                      have hN2 := hN.on hbf
                      have hHf : (wf.cell? ⟨X3, 1, none⟩ = some (.slice (some ⟨b5, o5, none⟩) D.cache.length dcc) ∧ wf.cell? ⟨b5, o5 + j * 2, none⟩ = some (.int .i64 p0) ∧ wf.cell? ⟨b5, o5 + j * 2 + 1, none⟩ = some (.slice a5 n5 c5)) ∧ wf.cell? ⟨X4, 0, none⟩ = some (.slice (some ⟨b1, o1, none⟩) D1.secs.length xsc) ∧ wf.cell? ⟨b1, o1 + k, none⟩ = some (.slice a1 n1 c1) := HS.out wf (hbd.trans (hbf.mono hbd.size))
                      clear hHeld hN hbd hbf hbg
                      go_wp2_with fail
                      refine hK.out _ _ hHf (fun hHeld => ?_)
                      clear hK KK
                      try simp only [Act.put, List.setIfInBounds_toArray, List.set_cons_zero, List.set_cons_succ]
                      refine' wpAnyH_take (i := 23) (v := _) rfl (by kernel_rfl) (by kernel_rfl) (by kernel_rfl) (fun _ _ _ h => h) (Or.inl ⟨by kernel_rfl, ?hgby23⟩) (by assumption) ?rgby23
                      case hgby23 => intro W hW; obtain ⟨⟨c0, c1, c2⟩, d0, d1⟩ := hW; go_simp; all_goals with_reducible rfl
                      change wpAnyH _ _ _ _ _ _ _ (Act.put _ (some 121) _) _
                      simp only [Act.put, List.setIfInBounds_toArray, List.set_cons_zero, List.set_cons_succ]
                      refine' wpAnyH_take (i := 24) (v := _) rfl (by kernel_rfl) (by kernel_rfl) (by kernel_rfl) (fun _ _ _ h => h) (Or.inl ⟨by kernel_rfl, ?hgby24⟩) (by assumption) ?rgby24
                      case hgby24 => intro W hW; obtain ⟨⟨c0, c1, c2⟩, d0, d1⟩ := hW; go_simp; all_goals with_reducible rfl
                      change wpAnyH _ _ _ _ _ _ _ (Act.put _ (some 122) _) _
                      simp only [Act.put, List.setIfInBounds_toArray, List.set_cons_zero, List.set_cons_succ]
                      refine' wpAnyH_take (i := 25) (v := _) rfl (by kernel_rfl) (by kernel_rfl) (by kernel_rfl) (fun _ _ _ h => h) (Or.inl ⟨by kernel_rfl, ?hgby25⟩) (by assumption) ?rgby25
                      case hgby25 => intro W hW; obtain ⟨⟨c0, c1, c2⟩, d0, d1⟩ := hW; go_simp; all_goals with_reducible rfl
                      change wpAnyH _ _ _ _ _ _ _ (Act.put _ (some 11) _) _
                      simp only [Act.put, List.setIfInBounds_toArray, List.set_cons_zero, List.set_cons_succ]
                      refine wpAnyH_done (by kernel_rfl) ?_ _
                      have HN2 : Hid _ := hN2
                      clear hN2 hHeld hHf HS
                      go_wp2
                      go_roundg (D.cache.length - (j + 1))
                      case measure => omega
                      case rel => exact ⟨j + 1, bb, by omega, rfl, rfl, by go_num, (fun h => ⟨HNE.out, fun jj hjj hlt hp => (Nat.lt_or_ge jj j).elim (fun e => HNO.out jj hjj e hp) (fun e => by obtain rfl : jj = j := (by omega); exact HNB.out h)⟩), HN2.out⟩
                    · have hpq : (p0 == (k : Int)) = false := beq_eq_false_iff_ne.2 hpk
                      have HPK : Hid ((D.cache[j]).1 ≠ (k : Int)) := HPX.out hpk
                      clear hpk hbg
                      go_wp2_with fail
                      clear s1 q0 q1 p1
                      have hbd : Below wr.heap.size wr wr.drew := (Below.refl _ _).drew
                      replace hN := hN.on hbd
                      refine wp_region_held_drew (S := fun W => (W.cell? ⟨X3, 1, none⟩ = some (.slice (some ⟨b5, o5, none⟩) D.cache.length dcc) ∧ W.cell? ⟨b5, o5 + j * 2, none⟩ = some (.int .i64 p0) ∧ W.cell? ⟨b5, o5 + j * 2 + 1, none⟩ = some (.slice a5 n5 c5)) ∧ W.cell? ⟨X4, 0, none⟩ = some (.slice (some ⟨b1, o1, none⟩) D1.secs.length xsc) ∧ W.cell? ⟨b1, o1 + k, none⟩ = some (.slice a1 n1 c1)) (by kernel_rfl) (HS.out _ hbd) (fun hHeld => ?_)
                      obtain ⟨wd, hwd⟩ := hidEx wr.drew
                      rw [hwd.out] at hN hbd hHeld ⊢
                      clear hwd
                      refine' wpAnyH_take (i := 0) (v := _) rfl (by kernel_rfl) (by kernel_rfl) (by kernel_rfl) (fun _ _ _ h => h) (Or.inl ⟨by kernel_rfl, ?hgcy1⟩) (by assumption) ?rgcy1
                      case hgcy1 => intro W hW; obtain ⟨⟨c0, c1, c2⟩, d0, d1⟩ := hW; go_simp; all_goals with_reducible rfl
                      change wpAnyH _ _ _ _ _ _ _ (Act.put _ (some 98) _) _
                      simp only [Act.put, List.setIfInBounds_toArray, List.set_cons_zero, List.set_cons_succ]
                      refine' wpAnyH_take (i := 1) (v := _) rfl (by kernel_rfl) (by kernel_rfl) (by kernel_rfl) (fun _ _ _ h => h) (Or.inl ⟨by kernel_rfl, ?hgcy2⟩) (by assumption) ?rgcy2
                      case hgcy2 => intro W hW; obtain ⟨⟨c0, c1, c2⟩, d0, d1⟩ := hW; go_simp; all_goals with_reducible rfl
                      change wpAnyH _ _ _ _ _ _ _ (Act.put _ (some 99) _) _
                      simp only [Act.put, List.setIfInBounds_toArray, List.set_cons_zero, List.set_cons_succ]
                      refine' wpAnyH_take (i := 2) (v := _) rfl (by kernel_rfl) (by kernel_rfl) (by kernel_rfl) (fun _ _ _ h => h) (Or.inl ⟨by kernel_rfl, ?hgcy3⟩) (by assumption) ?rgcy3
                      case hgcy3 => intro W hW; obtain ⟨⟨c0, c1, c2⟩, d0, d1⟩ := hW; go_simp; all_goals with_reducible rfl
                      change wpAnyH _ _ _ _ _ _ _ (Act.put _ (some 100) _) _
                      simp only [Act.put, List.setIfInBounds_toArray, List.set_cons_zero, List.set_cons_succ]
                      refine' wpAnyH_take (i := 3) (v := _) rfl (by kernel_rfl) (by kernel_rfl) (by kernel_rfl) (fun _ _ _ h => h) (Or.inl ⟨by kernel_rfl, ?hgcy4⟩) (by assumption) ?rgcy4
                      case hgcy4 => intro W hW; obtain ⟨⟨c0, c1, c2⟩, d0, d1⟩ := hW; go_simp; all_goals with_reducible rfl
                      change wpAnyH _ _ _ _ _ _ _ (Act.put _ (some 101) _) _
                      simp only [Act.put, List.setIfInBounds_toArray, List.set_cons_zero, List.set_cons_succ]
                      refine' wpAnyH_take (i := 4) (v := _) rfl (by kernel_rfl) (by kernel_rfl) (by kernel_rfl) (fun _ _ _ h => h) (Or.inl ⟨by kernel_rfl, ?hgcy5⟩) (by assumption) ?rgcy5
                      case hgcy5 => intro W hW; obtain ⟨⟨c0, c1, c2⟩, d0, d1⟩ := hW; go_simp; all_goals with_reducible rfl
                      change wpAnyH _ _ _ _ _ _ _ (Act.put _ (some 102) _) _
                      simp only [Act.put, List.setIfInBounds_toArray, List.set_cons_zero, List.set_cons_succ]
                      refine' wpAnyH_take (i := 5) (v := _) rfl (by kernel_rfl) (by kernel_rfl) (by kernel_rfl) (fun _ _ _ h => h) (Or.inl ⟨by kernel_rfl, ?hgcy6⟩) (by assumption) ?rgcy6
                      case hgcy6 => intro W hW; obtain ⟨⟨c0, c1, c2⟩, d0, d1⟩ := hW; go_simp; all_goals with_reducible rfl
                      change wpAnyH _ _ _ _ _ _ _ (Act.put _ (some 103) _) _
                      simp only [Act.put, List.setIfInBounds_toArray, List.set_cons_zero, List.set_cons_succ]
                      refine' wpAnyH_take (i := 6) (v := _) rfl (by kernel_rfl) (by kernel_rfl) (by kernel_rfl) (fun _ _ _ h => h) (Or.inl ⟨by kernel_rfl, ?hgcy7⟩) (by assumption) ?rgcy7
                      case hgcy7 => intro W hW; obtain ⟨⟨c0, c1, c2⟩, d0, d1⟩ := hW; go_simp; all_goals with_reducible rfl
                      change wpAnyH _ _ _ _ _ _ _ (Act.put _ (some 104) _) _
                      simp only [Act.put, List.setIfInBounds_toArray, List.set_cons_zero, List.set_cons_succ]
                      refine' wpAnyH_take (i := 7) (v := _) rfl (by kernel_rfl) (by kernel_rfl) (by kernel_rfl) (fun _ _ _ h => h) (Or.inl ⟨by kernel_rfl, ?hgcy8⟩) (by assumption) ?rgcy8
                      case hgcy8 => intro W hW; obtain ⟨⟨c0, c1, c2⟩, d0, d1⟩ := hW; go_simp; all_goals with_reducible rfl
                      change wpAnyH _ _ _ _ _ _ _ (Act.put _ (some 105) _) _
                      simp only [Act.put, List.setIfInBounds_toArray, List.set_cons_zero, List.set_cons_succ]
                      refine' wpAnyH_take (i := 8) (v := _) rfl (by kernel_rfl) (by kernel_rfl) (by kernel_rfl) (fun _ _ _ h => h) (Or.inl ⟨by kernel_rfl, ?hgcy9⟩) (by assumption) ?rgcy9
                      case hgcy9 => intro W hW; obtain ⟨⟨c0, c1, c2⟩, d0, d1⟩ := hW; go_simp; all_goals with_reducible rfl
                      change wpAnyH _ _ _ _ _ _ _ (Act.put _ (some 106) _) _
                      simp only [Act.put, List.setIfInBounds_toArray, List.set_cons_zero, List.set_cons_succ]
                      refine' wpAnyH_take (i := 9) (v := _) rfl (by kernel_rfl) (by kernel_rfl) (by kernel_rfl) (fun _ _ _ h => h) (Or.inl ⟨by kernel_rfl, ?hgcy10⟩) (by assumption) ?rgcy10
                      case hgcy10 => intro W hW; obtain ⟨⟨c0, c1, c2⟩, d0, d1⟩ := hW; go_simp; all_goals with_reducible rfl
                      change wpAnyH _ _ _ _ _ _ _ (Act.put _ (some 107) _) _
                      simp only [Act.put, List.setIfInBounds_toArray, List.set_cons_zero, List.set_cons_succ]
                      refine' wpAnyH_take (i := 10) (v := _) rfl (by kernel_rfl) (by kernel_rfl) (by kernel_rfl) (fun _ _ _ h => h) (Or.inl ⟨by kernel_rfl, ?hgcy11⟩) (by assumption) ?rgcy11
                      case hgcy11 => intro W hW; obtain ⟨⟨c0, c1, c2⟩, d0, d1⟩ := hW; go_simp; all_goals with_reducible rfl
                      change wpAnyH _ _ _ _ _ _ _ (Act.put _ (some 108) _) _
                      simp only [Act.put, List.setIfInBounds_toArray, List.set_cons_zero, List.set_cons_succ]
                      refine wpAnyH_take (i := 11) (v := undef) rfl (by kernel_rfl) (by kernel_rfl) (by kernel_rfl) (fun _ _ _ h => h) (Or.inr ⟨by kernel_rfl, rfl⟩) (by assumption) ?_
                      change wpAnyH _ _ _ _ _ _ _ (Act.put _ (some 109) _) _
                      simp only [Act.put, List.setIfInBounds_toArray, List.set_cons_zero, List.set_cons_succ]
                      refine wpAnyH_take (i := 12) (v := undef) rfl (by kernel_rfl) (by kernel_rfl) (by kernel_rfl) (fun _ _ _ h => h) (Or.inr ⟨by kernel_rfl, rfl⟩) (by assumption) ?_
                      change wpAnyH _ _ _ _ _ _ _ (Act.put _ (some 110) _) _
                      simp only [Act.put, List.setIfInBounds_toArray, List.set_cons_zero, List.set_cons_succ]
                      refine wpAnyH_take (i := 13) (v := undef) rfl (by kernel_rfl) (by kernel_rfl) (by kernel_rfl) (fun _ _ _ h => h) (Or.inr ⟨by kernel_rfl, rfl⟩) (by assumption) ?_
                      change wpAnyH _ _ _ _ _ _ _ (Act.put _ (some 111) _) _
                      simp only [Act.put, List.setIfInBounds_toArray, List.set_cons_zero, List.set_cons_succ]
                      refine wpAnyH_take (i := 14) (v := undef) rfl (by kernel_rfl) (by kernel_rfl) (by kernel_rfl) (fun _ _ _ h => h) (Or.inr ⟨by kernel_rfl, rfl⟩) (by assumption) ?_
                      change wpAnyH _ _ _ _ _ _ _ (Act.put _ (some 112) _) _
                      simp only [Act.put, List.setIfInBounds_toArray, List.set_cons_zero, List.set_cons_succ]
                      refine wpAnyH_take (i := 15) (v := undef) rfl (by kernel_rfl) (by kernel_rfl) (by kernel_rfl) (fun _ _ _ h => h) (Or.inr ⟨by kernel_rfl, rfl⟩) (by assumption) ?_
                      change wpAnyH _ _ _ _ _ _ _ (Act.put _ (some 113) _) _
                      simp only [Act.put, List.setIfInBounds_toArray, List.set_cons_zero, List.set_cons_succ]
                      refine wpAnyH_take (i := 16) (v := undef) rfl (by kernel_rfl) (by kernel_rfl) (by kernel_rfl) (fun _ _ _ h => h) (Or.inr ⟨by kernel_rfl, rfl⟩) (by assumption) ?_
                      change wpAnyH _ _ _ _ _ _ _ (Act.put _ (some 114) _) _
                      simp only [Act.put, List.setIfInBounds_toArray, List.set_cons_zero, List.set_cons_succ]
                      refine wpAnyH_take (i := 17) (v := undef) rfl (by kernel_rfl) (by kernel_rfl) (by kernel_rfl) (fun _ _ _ h => h) (Or.inr ⟨by kernel_rfl, rfl⟩) (by assumption) ?_
                      change wpAnyH _ _ _ _ _ _ _ (Act.put _ (some 115) _) _
                      simp only [Act.put, List.setIfInBounds_toArray, List.set_cons_zero, List.set_cons_succ]
                      refine wpAnyH_take (i := 18) (v := undef) rfl (by kernel_rfl) (by kernel_rfl) (by kernel_rfl) (fun _ _ _ h => h) (Or.inr ⟨by kernel_rfl, rfl⟩) (by assumption) ?_
                      change wpAnyH _ _ _ _ _ _ _ (Act.put _ (some 116) _) _
                      simp only [Act.put, List.setIfInBounds_toArray, List.set_cons_zero, List.set_cons_succ]
                      refine wpAnyH_take (i := 19) (v := undef) rfl (by kernel_rfl) (by kernel_rfl) (by kernel_rfl) (fun _ _ _ h => h) (Or.inr ⟨by kernel_rfl, rfl⟩) (by assumption) ?_
                      change wpAnyH _ _ _ _ _ _ _ (Act.put _ (some 117) _) _
                      simp only [Act.put, List.setIfInBounds_toArray, List.set_cons_zero, List.set_cons_succ]
                      refine wpAnyH_take (i := 20) (v := undef) rfl (by kernel_rfl) (by kernel_rfl) (by kernel_rfl) (fun _ _ _ h => h) (Or.inr ⟨by kernel_rfl, rfl⟩) (by assumption) ?_
                      change wpAnyH _ _ _ _ _ _ _ (Act.put _ (some 118) _) _
                      simp only [Act.put, List.setIfInBounds_toArray, List.set_cons_zero, List.set_cons_succ]
                      refine wpAnyH_take (i := 21) (v := undef) rfl (by kernel_rfl) (by kernel_rfl) (by kernel_rfl) (fun _ _ _ h => h) (Or.inr ⟨by kernel_rfl, rfl⟩) (by assumption) ?_
                      change wpAnyH _ _ _ _ _ _ _ (Act.put _ (some 119) _) _
                      simp only [Act.put, List.setIfInBounds_toArray, List.set_cons_zero, List.set_cons_succ]
                      refine wpAnyH_take (i := 22) (v := undef) rfl (by kernel_rfl) (by kernel_rfl) (by kernel_rfl) (fun _ _ _ h => h) (Or.inr ⟨by kernel_rfl, rfl⟩) (by assumption) ?_
                      change wpAnyH _ _ _ _ _ _ _ (Act.put _ (some 120) _) _
                      simp only [Act.put, List.setIfInBounds_toArray, List.set_cons_zero, List.set_cons_succ]
                      refine' wpAnyH_take (i := 23) (v := _) rfl (by kernel_rfl) (by kernel_rfl) (by kernel_rfl) (fun _ _ _ h => h) (Or.inl ⟨by kernel_rfl, ?hgcy24⟩) (by assumption) ?rgcy24
                      case hgcy24 => intro W hW; obtain ⟨⟨c0, c1, c2⟩, d0, d1⟩ := hW; go_simp; all_goals with_reducible rfl
                      change wpAnyH _ _ _ _ _ _ _ (Act.put _ (some 121) _) _
                      simp only [Act.put, List.setIfInBounds_toArray, List.set_cons_zero, List.set_cons_succ]
                      refine' wpAnyH_take (i := 24) (v := _) rfl (by kernel_rfl) (by kernel_rfl) (by kernel_rfl) (fun _ _ _ h => h) (Or.inl ⟨by kernel_rfl, ?hgcy25⟩) (by assumption) ?rgcy25
                      case hgcy25 => intro W hW; obtain ⟨⟨c0, c1, c2⟩, d0, d1⟩ := hW; go_simp; all_goals with_reducible rfl
                      change wpAnyH _ _ _ _ _ _ _ (Act.put _ (some 122) _) _
                      simp only [Act.put, List.setIfInBounds_toArray, List.set_cons_zero, List.set_cons_succ]
                      refine' wpAnyH_take (i := 25) (v := _) rfl (by kernel_rfl) (by kernel_rfl) (by kernel_rfl) (fun _ _ _ h => h) (Or.inl ⟨by kernel_rfl, ?hgcy26⟩) (by assumption) ?rgcy26
                      case hgcy26 => intro W hW; obtain ⟨⟨c0, c1, c2⟩, d0, d1⟩ := hW; go_simp; all_goals with_reducible rfl
                      change wpAnyH _ _ _ _ _ _ _ (Act.put _ (some 11) _) _
                      simp only [Act.put, List.setIfInBounds_toArray, List.set_cons_zero, List.set_cons_succ]
                      refine wpAnyH_done (by kernel_rfl) ?_ _
                      have HN2 : Hid _ := hN
                      clear hN hHeld HS hbd
                      go_wp2
                      go_roundg (D.cache.length - (j + 1))
                      case measure => omega
                      case rel => exact ⟨j + 1, false, by omega, rfl, rfl, by go_num, (fun h => ⟨HNE.out, fun jj hjj hlt hp => (Nat.lt_or_ge jj j).elim (fun e => HNO.out jj hjj e hp) (fun e => by obtain rfl : jj = j := (by omega); exact absurd hp HPK.out)⟩), HN2.out⟩
                · have hjz : ¬ (j : Int) < (D.cache.length : Int) := by omega
                  have hmt : mb = true := by
                    cases hmb : mb with
                    | true => rfl
                    | false =>
                      obtain ⟨hne, hno⟩ := HMB.out hmb
                      rcases HT.out k HLT.out with h | ⟨jj, hjj, h1, qq, h2⟩
                      · rw [HG1.out, HG2.out] at h
                        exact absurd (Option.some.inj h) hne
                      · rw [HG1.out] at h2
                        have e : t1 = (D.cache[jj]).2.take qq := Option.some.inj h2
                        exact absurd (by rw [e]; exact heads_take _ _) (hno jj hjj (by omega) h1)
                  subst hmt
                  have HN2 : Hid _ := hN
                  clear hN HMB hlj hj
                  go_wp2
                  go_roundg (D.secs.length - (k + 1))
                  case measure => have := HLT.out; omega
                  case rel => exact ⟨k + 1, by have := HLT.out; omega, rfl, by go_num, HN2.out⟩
            | false =>
              go_wp2_with fail
              have HS : Hid (∀ W, Below wr2.heap.size wr2 W → (W.cell? ⟨X4, 0, none⟩ = some (.slice (some ⟨b1, o1, none⟩) D1.secs.length xsc) ∧ W.cell? ⟨X3, 0, none⟩ = some (.slice (some ⟨b2, o2, none⟩) D.secs.length dsc)) ∧ W.cell? ⟨b1, o1 + k, none⟩ = some (.slice a1 n1 c1) ∧ W.cell? ⟨b2, o2 + k, none⟩ = some (.slice a2 n2 c2)) := fun W hW => ⟨⟨by rw [← EA1.out]; exact (hN.x4.below hW).cell 0, by rw [← EA2.out]; exact (hN.x3.below hW).cell 0⟩, by rw [hW.cell hb1]; exact p1, by rw [hW.cell hb2]; exact p2⟩
              have hbd : Below wr2.heap.size wr2 wr2.drew := (Below.refl _ _).drew
              replace hN := hN.on hbd
              refine wp_region_held_drew (S := fun W => (W.cell? ⟨X4, 0, none⟩ = some (.slice (some ⟨b1, o1, none⟩) D1.secs.length xsc) ∧ W.cell? ⟨X3, 0, none⟩ = some (.slice (some ⟨b2, o2, none⟩) D.secs.length dsc)) ∧ W.cell? ⟨b1, o1 + k, none⟩ = some (.slice a1 n1 c1) ∧ W.cell? ⟨b2, o2 + k, none⟩ = some (.slice a2 n2 c2)) (by kernel_rfl) (HS.out _ hbd) (fun hHeld => ?_)
              obtain ⟨wd, hwd⟩ := hidEx wr2.drew
              rw [hwd.out] at hN hbd hHeld ⊢
              clear hwd p1 p2
              refine' wpAnyH_take (i := 0) (v := _) rfl (by kernel_rfl) (by kernel_rfl) (by kernel_rfl) (fun _ _ _ h => h) (Or.inl ⟨by kernel_rfl, ?hfc1⟩) (by assumption) ?rfc1
              case hfc1 => intro W hW; obtain ⟨⟨c0, c1⟩, d0, d1⟩ := hW; go_simp; all_goals with_reducible rfl
              change wpAnyH _ _ _ _ _ _ _ (Act.put _ (some 59) _) _
              simp only [Act.put, List.setIfInBounds_toArray, List.set_cons_zero, List.set_cons_succ]
              refine' wpAnyH_take (i := 1) (v := _) rfl (by kernel_rfl) (by kernel_rfl) (by kernel_rfl) (fun _ _ _ h => h) (Or.inl ⟨by kernel_rfl, ?hfc2⟩) (by assumption) ?rfc2
              case hfc2 => intro W hW; obtain ⟨⟨c0, c1⟩, d0, d1⟩ := hW; go_simp; all_goals with_reducible rfl
              change wpAnyH _ _ _ _ _ _ _ (Act.put _ (some 60) _) _
              simp only [Act.put, List.setIfInBounds_toArray, List.set_cons_zero, List.set_cons_succ]
              refine' wpAnyH_take (i := 2) (v := _) rfl (by kernel_rfl) (by kernel_rfl) (by kernel_rfl) (fun _ _ _ h => h) (Or.inl ⟨by kernel_rfl, ?hfc3⟩) (by assumption) ?rfc3
              case hfc3 => intro W hW; obtain ⟨⟨c0, c1⟩, d0, d1⟩ := hW; go_simp; all_goals with_reducible rfl
              change wpAnyH _ _ _ _ _ _ _ (Act.put _ (some 61) _) _
              simp only [Act.put, List.setIfInBounds_toArray, List.set_cons_zero, List.set_cons_succ]
              refine' wpAnyH_take (i := 3) (v := _) rfl (by kernel_rfl) (by kernel_rfl) (by kernel_rfl) (fun _ _ _ h => h) (Or.inl ⟨by kernel_rfl, ?hfc4⟩) (by assumption) ?rfc4
              case hfc4 => intro W hW; obtain ⟨⟨c0, c1⟩, d0, d1⟩ := hW; go_simp; all_goals with_reducible rfl
              change wpAnyH _ _ _ _ _ _ _ (Act.put _ (some 62) _) _
              simp only [Act.put, List.setIfInBounds_toArray, List.set_cons_zero, List.set_cons_succ]
              refine' wpAnyH_take (i := 4) (v := _) rfl (by kernel_rfl) (by kernel_rfl) (by kernel_rfl) (fun _ _ _ h => h) (Or.inl ⟨by kernel_rfl, ?hfc5⟩) (by assumption) ?rfc5
              case hfc5 => intro W hW; obtain ⟨⟨c0, c1⟩, d0, d1⟩ := hW; go_simp; all_goals with_reducible rfl
              change wpAnyH _ _ _ _ _ _ _ (Act.put _ (some 63) _) _
              simp only [Act.put, List.setIfInBounds_toArray, List.set_cons_zero, List.set_cons_succ]
              refine' wpAnyH_take (i := 5) (v := _) rfl (by kernel_rfl) (by kernel_rfl) (by kernel_rfl) (fun _ _ _ h => h) (Or.inl ⟨by kernel_rfl, ?hfc6⟩) (by assumption) ?rfc6
              case hfc6 => intro W hW; obtain ⟨⟨c0, c1⟩, d0, d1⟩ := hW; go_simp; all_goals with_reducible rfl
              change wpAnyH _ _ _ _ _ _ _ (Act.put _ (some 64) _) _
              simp only [Act.put, List.setIfInBounds_toArray, List.set_cons_zero, List.set_cons_succ]
              refine' wpAnyH_take (i := 6) (v := _) rfl (by kernel_rfl) (by kernel_rfl) (by kernel_rfl) (fun _ _ _ h => h) (Or.inl ⟨by kernel_rfl, ?hfc7⟩) (by assumption) ?rfc7
              case hfc7 => intro W hW; obtain ⟨⟨c0, c1⟩, d0, d1⟩ := hW; go_simp; all_goals with_reducible rfl
              change wpAnyH _ _ _ _ _ _ _ (Act.put _ (some 65) _) _
              simp only [Act.put, List.setIfInBounds_toArray, List.set_cons_zero, List.set_cons_succ]
              refine' wpAnyH_take (i := 7) (v := _) rfl (by kernel_rfl) (by kernel_rfl) (by kernel_rfl) (fun _ _ _ h => h) (Or.inl ⟨by kernel_rfl, ?hfc8⟩) (by assumption) ?rfc8
              case hfc8 => intro W hW; obtain ⟨⟨c0, c1⟩, d0, d1⟩ := hW; go_simp; all_goals with_reducible rfl
              change wpAnyH _ _ _ _ _ _ _ (Act.put _ (some 66) _) _
              simp only [Act.put, List.setIfInBounds_toArray, List.set_cons_zero, List.set_cons_succ]
              refine' wpAnyH_take (i := 8) (v := _) rfl (by kernel_rfl) (by kernel_rfl) (by kernel_rfl) (fun _ _ _ h => h) (Or.inl ⟨by kernel_rfl, ?hfc9⟩) (by assumption) ?rfc9
              case hfc9 => intro W hW; obtain ⟨⟨c0, c1⟩, d0, d1⟩ := hW; go_simp; all_goals with_reducible rfl
              change wpAnyH _ _ _ _ _ _ _ (Act.put _ (some 67) _) _
              simp only [Act.put, List.setIfInBounds_toArray, List.set_cons_zero, List.set_cons_succ]
              refine' wpAnyH_take (i := 9) (v := _) rfl (by kernel_rfl) (by kernel_rfl) (by kernel_rfl) (fun _ _ _ h => h) (Or.inl ⟨by kernel_rfl, ?hfc10⟩) (by assumption) ?rfc10
              case hfc10 => intro W hW; obtain ⟨⟨c0, c1⟩, d0, d1⟩ := hW; go_simp; all_goals with_reducible rfl
              change wpAnyH _ _ _ _ _ _ _ (Act.put _ (some 68) _) _
              simp only [Act.put, List.setIfInBounds_toArray, List.set_cons_zero, List.set_cons_succ]
              refine wpAnyH_ready (rs := [10]) (by kernel_rfl) (by simp) ?_
              refine AllReadyH.cons rfl (fun KK hK => ?_) AllReadyH.nil
              go_simp
              refine (hs1 wd hbd).mono ?_
              rintro e wf ⟨rfl, hbf⟩
              have hN2 := hN.on hbf
              have hbd2 := hbd.trans (hbf.mono hbd.size)
              have hHf : (wf.cell? ⟨X4, 0, none⟩ = some (.slice (some ⟨b1, o1, none⟩) D1.secs.length xsc) ∧ wf.cell? ⟨X3, 0, none⟩ = some (.slice (some ⟨b2, o2, none⟩) D.secs.length dsc)) ∧ wf.cell? ⟨b1, o1 + k, none⟩ = some (.slice a1 n1 c1) ∧ wf.cell? ⟨b2, o2 + k, none⟩ = some (.slice a2 n2 c2) := HS.out wf hbd2
              clear hHeld hN hbd hbf hs1
              go_wp2_with fail
              refine hK.out _ _ hHf (fun hHeld => ?_)
              have hN := hN2
              have hbd := hbd2
              clear hN2 hbd2
              clear hK KK
              try simp only [Act.put, List.setIfInBounds_toArray, List.set_cons_zero, List.set_cons_succ]
              refine' wpAnyH_take (i := 11) (v := _) rfl (by kernel_rfl) (by kernel_rfl) (by kernel_rfl) (fun _ _ _ h => h) (Or.inl ⟨by kernel_rfl, ?hfc11⟩) (by assumption) ?rfc11
              case hfc11 => intro W hW; obtain ⟨⟨c0, c1⟩, d0, d1⟩ := hW; go_simp; all_goals with_reducible rfl
              change wpAnyH _ _ _ _ _ _ _ (Act.put _ (some 70) _) _
              simp only [Act.put, List.setIfInBounds_toArray, List.set_cons_zero, List.set_cons_succ]
              refine wpAnyH_take (i := 12) (v := undef) rfl (by kernel_rfl) (by kernel_rfl) (by kernel_rfl) (fun _ _ _ h => h) (Or.inr ⟨by kernel_rfl, rfl⟩) (by assumption) ?_
              change wpAnyH _ _ _ _ _ _ _ (Act.put _ (some 71) _) _
              simp only [Act.put, List.setIfInBounds_toArray, List.set_cons_zero, List.set_cons_succ]
              refine wpAnyH_take (i := 13) (v := undef) rfl (by kernel_rfl) (by kernel_rfl) (by kernel_rfl) (fun _ _ _ h => h) (Or.inr ⟨by kernel_rfl, rfl⟩) (by assumption) ?_
              change wpAnyH _ _ _ _ _ _ _ (Act.put _ (some 72) _) _
              simp only [Act.put, List.setIfInBounds_toArray, List.set_cons_zero, List.set_cons_succ]
              refine' wpAnyH_take (i := 14) (v := _) rfl (by kernel_rfl) (by kernel_rfl) (by kernel_rfl) (fun _ _ _ h => h) (Or.inl ⟨by kernel_rfl, ?hfc14⟩) (by assumption) ?rfc14
              case hfc14 => intro W hW; obtain ⟨⟨c0, c1⟩, d0, d1⟩ := hW; go_simp; all_goals with_reducible rfl
              change wpAnyH _ _ _ _ _ _ _ (Act.put _ (some 73) _) _
              simp only [Act.put, List.setIfInBounds_toArray, List.set_cons_zero, List.set_cons_succ]
              refine' wpAnyH_take (i := 15) (v := _) rfl (by kernel_rfl) (by kernel_rfl) (by kernel_rfl) (fun _ _ _ h => h) (Or.inl ⟨by kernel_rfl, ?hfc15⟩) (by assumption) ?rfc15
              case hfc15 => intro W hW; obtain ⟨⟨c0, c1⟩, d0, d1⟩ := hW; go_simp; all_goals with_reducible rfl
              change wpAnyH _ _ _ _ _ _ _ (Act.put _ (some 74) _) _
              simp only [Act.put, List.setIfInBounds_toArray, List.set_cons_zero, List.set_cons_succ]
              refine' wpAnyH_take (i := 16) (v := _) rfl (by kernel_rfl) (by kernel_rfl) (by kernel_rfl) (fun _ _ _ h => h) (Or.inl ⟨by kernel_rfl, ?hfc16⟩) (by assumption) ?rfc16
              case hfc16 => intro W hW; obtain ⟨⟨c0, c1⟩, d0, d1⟩ := hW; go_simp; all_goals with_reducible rfl
              change wpAnyH _ _ _ _ _ _ _ (Act.put _ (some 75) _) _
              simp only [Act.put, List.setIfInBounds_toArray, List.set_cons_zero, List.set_cons_succ]
              refine' wpAnyH_take (i := 17) (v := _) rfl (by kernel_rfl) (by kernel_rfl) (by kernel_rfl) (fun _ _ _ h => h) (Or.inl ⟨by kernel_rfl, ?hfc17⟩) (by assumption) ?rfc17
              case hfc17 => intro W hW; obtain ⟨⟨c0, c1⟩, d0, d1⟩ := hW; go_simp; all_goals with_reducible rfl
              change wpAnyH _ _ _ _ _ _ _ (Act.put _ (some 76) _) _
              simp only [Act.put, List.setIfInBounds_toArray, List.set_cons_zero, List.set_cons_succ]
              refine' wpAnyH_take (i := 18) (v := _) rfl (by kernel_rfl) (by kernel_rfl) (by kernel_rfl) (fun _ _ _ h => h) (Or.inl ⟨by kernel_rfl, ?hfc18⟩) (by assumption) ?rfc18
              case hfc18 => intro W hW; obtain ⟨⟨c0, c1⟩, d0, d1⟩ := hW; go_simp; all_goals with_reducible rfl
              change wpAnyH _ _ _ _ _ _ _ (Act.put _ (some 77) _) _
              simp only [Act.put, List.setIfInBounds_toArray, List.set_cons_zero, List.set_cons_succ]
              refine' wpAnyH_take (i := 19) (v := _) rfl (by kernel_rfl) (by kernel_rfl) (by kernel_rfl) (fun _ _ _ h => h) (Or.inl ⟨by kernel_rfl, ?hfc19⟩) (by assumption) ?rfc19
              case hfc19 => intro W hW; obtain ⟨⟨c0, c1⟩, d0, d1⟩ := hW; go_simp; all_goals with_reducible rfl
              change wpAnyH _ _ _ _ _ _ _ (Act.put _ (some 78) _) _
              simp only [Act.put, List.setIfInBounds_toArray, List.set_cons_zero, List.set_cons_succ]
              refine' wpAnyH_take (i := 20) (v := _) rfl (by kernel_rfl) (by kernel_rfl) (by kernel_rfl) (fun _ _ _ h => h) (Or.inl ⟨by kernel_rfl, ?hfc20⟩) (by assumption) ?rfc20
              case hfc20 => intro W hW; obtain ⟨⟨c0, c1⟩, d0, d1⟩ := hW; go_simp; all_goals with_reducible rfl
              change wpAnyH _ _ _ _ _ _ _ (Act.put _ (some 79) _) _
              simp only [Act.put, List.setIfInBounds_toArray, List.set_cons_zero, List.set_cons_succ]
              refine' wpAnyH_take (i := 21) (v := _) rfl (by kernel_rfl) (by kernel_rfl) (by kernel_rfl) (fun _ _ _ h => h) (Or.inl ⟨by kernel_rfl, ?hfc21⟩) (by assumption) ?rfc21
              case hfc21 => intro W hW; obtain ⟨⟨c0, c1⟩, d0, d1⟩ := hW; go_simp; all_goals with_reducible rfl
              change wpAnyH _ _ _ _ _ _ _ (Act.put _ (some 80) _) _
              simp only [Act.put, List.setIfInBounds_toArray, List.set_cons_zero, List.set_cons_succ]
              refine wpAnyH_ready (rs := [22]) (by kernel_rfl) (by simp) ?_
              refine AllReadyH.cons rfl (fun KK hK => ?_) AllReadyH.nil
              go_simp
              refine (hs2 wf hbd).mono ?_
              rintro e wg ⟨rfl, hbg⟩
              have hN2 := hN.on hbg
              have hbd2 := hbd.trans (hbg.mono hbd.size)
              have hHg : (wg.cell? ⟨X4, 0, none⟩ = some (.slice (some ⟨b1, o1, none⟩) D1.secs.length xsc) ∧ wg.cell? ⟨X3, 0, none⟩ = some (.slice (some ⟨b2, o2, none⟩) D.secs.length dsc)) ∧ wg.cell? ⟨b1, o1 + k, none⟩ = some (.slice a1 n1 c1) ∧ wg.cell? ⟨b2, o2 + k, none⟩ = some (.slice a2 n2 c2) := HS.out wg hbd2
              clear hHeld hN hbd hbg hs2 hHf
              go_wp2_with fail
              refine hK.out _ _ hHg (fun hHeld => ?_)
              have hN := hN2
              have hbd := hbd2
              clear hN2 hbd2
              clear hK KK
              try simp only [Act.put, List.setIfInBounds_toArray, List.set_cons_zero, List.set_cons_succ]
              refine' wpAnyH_take (i := 23) (v := _) rfl (by kernel_rfl) (by kernel_rfl) (by kernel_rfl) (fun _ _ _ h => h) (Or.inl ⟨by kernel_rfl, ?hfc22⟩) (by assumption) ?rfc22
              case hfc22 => intro W hW; obtain ⟨⟨c0, c1⟩, d0, d1⟩ := hW; go_simp; all_goals with_reducible rfl
              change wpAnyH _ _ _ _ _ _ _ (Act.put _ (some 82) _) _
              simp only [Act.put, List.setIfInBounds_toArray, List.set_cons_zero, List.set_cons_succ]
              refine wpAnyH_take (i := 24) (v := undef) rfl (by kernel_rfl) (by kernel_rfl) (by kernel_rfl) (fun _ _ _ h => h) (Or.inr ⟨by kernel_rfl, rfl⟩) (by assumption) ?_
              change wpAnyH _ _ _ _ _ _ _ (Act.put _ (some 83) _) _
              simp only [Act.put, List.setIfInBounds_toArray, List.set_cons_zero, List.set_cons_succ]
              refine wpAnyH_take (i := 25) (v := undef) rfl (by kernel_rfl) (by kernel_rfl) (by kernel_rfl) (fun _ _ _ h => h) (Or.inr ⟨by kernel_rfl, rfl⟩) (by assumption) ?_
              change wpAnyH _ _ _ _ _ _ _ (Act.put _ (some 84) _) _
              simp only [Act.put, List.setIfInBounds_toArray, List.set_cons_zero, List.set_cons_succ]
              refine' wpAnyH_take (i := 26) (v := _) rfl (by kernel_rfl) (by kernel_rfl) (by kernel_rfl) (fun _ _ _ h => h) (Or.inl ⟨by kernel_rfl, ?hfc25⟩) (by assumption) ?rfc25
              case hfc25 => intro W hW; obtain ⟨⟨c0, c1⟩, d0, d1⟩ := hW; go_simp; all_goals with_reducible rfl
              change wpAnyH _ _ _ _ _ _ _ (Act.put _ (some 85) _) _
              simp only [Act.put, List.setIfInBounds_toArray, List.set_cons_zero, List.set_cons_succ]
              refine' wpAnyH_take (i := 27) (v := _) rfl (by kernel_rfl) (by kernel_rfl) (by kernel_rfl) (fun _ _ _ h => h) (Or.inl ⟨by kernel_rfl, ?hfc26⟩) (by assumption) ?rfc26
              case hfc26 => intro W hW; obtain ⟨⟨c0, c1⟩, d0, d1⟩ := hW; go_simp; all_goals with_reducible rfl
              change wpAnyH _ _ _ _ _ _ _ (Act.put _ (some 86) _) _
              simp only [Act.put, List.setIfInBounds_toArray, List.set_cons_zero, List.set_cons_succ]
              refine' wpAnyH_take (i := 28) (v := _) rfl (by kernel_rfl) (by kernel_rfl) (by kernel_rfl) (fun _ _ _ h => h) (Or.inl ⟨by kernel_rfl, ?hfc27⟩) (by assumption) ?rfc27
              case hfc27 => intro W hW; obtain ⟨⟨c0, c1⟩, d0, d1⟩ := hW; go_simp; all_goals with_reducible rfl
              change wpAnyH _ _ _ _ _ _ _ (Act.put _ (some 11) _) _
              simp only [Act.put, List.setIfInBounds_toArray, List.set_cons_zero, List.set_cons_succ]
              refine wpAnyH_done (by kernel_rfl) ?_ _
              have HN : Hid _ := hN
              clear hN hHeld hbd HS
              clear hHg
              go_wp2
              go_loopg [11, 12] D.cache.length (fun q m i wr => ∃ (j : Nat) (mb : Bool), j ≤ D.cache.length ∧ q = D.cache.length - j ∧ m = .bool mb ∧ i = .int .i64 j ∧ (mb = false → t1 ≠ t2 ∧ ∀ (jj : Nat) (h : jj < D.cache.length), jj < j → (D.cache[jj]).1 = (k : Int) → ¬ Heads (D.cache[jj]).2 t1) ∧ DFk w X3 X4 [.slice dsa D.secs.length dsc, .slice dca D.cache.length dcc, .int .i64 D.ops, .slice dfa D.faults.length dfc, .bool D.down] [.slice xsa D1.secs.length xsc, .slice xca D1.cache.length xcc, .int .i64 D1.ops, .slice xfa D1.faults.length xfc, .bool D1.down] (.agg #[.slice dsa D.secs.length dsc, .slice dca D.cache.length dcc, .int .i64 D.ops, .slice dfa D.faults.length dfc, .bool D.down]) (.agg #[.slice xsa D1.secs.length xsc, .slice xca D1.cache.length xcc, .int .i64 D1.ops, .slice xfa D1.faults.length xfc, .bool D1.down]) D D1 wr)
              case atStart => exact ⟨0, false, Nat.zero_le _, rfl, rfl, rfl, (fun _ => ⟨HAB.out, fun jj _ h => absurd h (Nat.not_lt_zero _)⟩), HN.out⟩
              case round =>
                clear HN
                obtain ⟨j, mb, hj, rfl, rfl, rfl, hmb, hN⟩ := hrel
                have HMB : Hid (mb = false → t1 ≠ t2 ∧ ∀ (jj : Nat) (h : jj < D.cache.length), jj < j → (D.cache[jj]).1 = (k : Int) → ¬ Heads (D.cache[jj]).2 t1) := hmb
                clear hmb
                have s1 : wr.cell? ⟨X3, 1, none⟩ = some (.slice dca D.cache.length dcc) := hN.x3.cell 1
                by_cases hlj : j < D.cache.length
                · have hjz : (j : Int) < (D.cache.length : Int) := by omega
                  have hjn : D.cache.length ≤ 1048576 := HFF.out.1.nc
                  cases mb with
                  | true =>
                    go_wp2_with fail
                    clear s1
                    replace hN := hN.on (Below.refl _ _).drew
                    refine wp_region_held_drew (S := fun _ => True) (by kernel_rfl) trivial (fun hHeld => ?_)
                    refine' wpAnyH_take (i := 0) (v := _) rfl (by kernel_rfl) (by kernel_rfl) (by kernel_rfl) (fun _ _ _ h => h) (Or.inl ⟨by kernel_rfl, ?hgaz1⟩) (by assumption) ?rgaz1
                    case hgaz1 => intro W hW; go_simp; all_goals with_reducible rfl
                    change wpAnyH _ _ _ _ _ _ _ (Act.put _ (some 98) _) _
                    simp only [Act.put, List.setIfInBounds_toArray, List.set_cons_zero, List.set_cons_succ]
                    refine' wpAnyH_take (i := 1) (v := _) rfl (by kernel_rfl) (by kernel_rfl) (by kernel_rfl) (fun _ _ _ h => h) (Or.inl ⟨by kernel_rfl, ?hgaz2⟩) (by assumption) ?rgaz2
                    case hgaz2 => intro W hW; go_simp; all_goals with_reducible rfl
                    change wpAnyH _ _ _ _ _ _ _ (Act.put _ (some 99) _) _
                    simp only [Act.put, List.setIfInBounds_toArray, List.set_cons_zero, List.set_cons_succ]
                    refine wpAnyH_take (i := 2) (v := undef) rfl (by kernel_rfl) (by kernel_rfl) (by kernel_rfl) (fun _ _ _ h => h) (Or.inr ⟨by kernel_rfl, rfl⟩) (by assumption) ?_
                    change wpAnyH _ _ _ _ _ _ _ (Act.put _ (some 100) _) _
                    simp only [Act.put, List.setIfInBounds_toArray, List.set_cons_zero, List.set_cons_succ]
                    refine wpAnyH_take (i := 3) (v := undef) rfl (by kernel_rfl) (by kernel_rfl) (by kernel_rfl) (fun _ _ _ h => h) (Or.inr ⟨by kernel_rfl, rfl⟩) (by assumption) ?_
                    change wpAnyH _ _ _ _ _ _ _ (Act.put _ (some 101) _) _
                    simp only [Act.put, List.setIfInBounds_toArray, List.set_cons_zero, List.set_cons_succ]
                    refine wpAnyH_take (i := 4) (v := undef) rfl (by kernel_rfl) (by kernel_rfl) (by kernel_rfl) (fun _ _ _ h => h) (Or.inr ⟨by kernel_rfl, rfl⟩) (by assumption) ?_
                    change wpAnyH _ _ _ _ _ _ _ (Act.put _ (some 102) _) _
                    simp only [Act.put, List.setIfInBounds_toArray, List.set_cons_zero, List.set_cons_succ]
                    refine wpAnyH_take (i := 5) (v := undef) rfl (by kernel_rfl) (by kernel_rfl) (by kernel_rfl) (fun _ _ _ h => h) (Or.inr ⟨by kernel_rfl, rfl⟩) (by assumption) ?_
                    change wpAnyH _ _ _ _ _ _ _ (Act.put _ (some 103) _) _
                    simp only [Act.put, List.setIfInBounds_toArray, List.set_cons_zero, List.set_cons_succ]
                    refine wpAnyH_take (i := 6) (v := undef) rfl (by kernel_rfl) (by kernel_rfl) (by kernel_rfl) (fun _ _ _ h => h) (Or.inr ⟨by kernel_rfl, rfl⟩) (by assumption) ?_
                    change wpAnyH _ _ _ _ _ _ _ (Act.put _ (some 104) _) _
                    simp only [Act.put, List.setIfInBounds_toArray, List.set_cons_zero, List.set_cons_succ]
                    refine wpAnyH_take (i := 7) (v := undef) rfl (by kernel_rfl) (by kernel_rfl) (by kernel_rfl) (fun _ _ _ h => h) (Or.inr ⟨by kernel_rfl, rfl⟩) (by assumption) ?_
                    change wpAnyH _ _ _ _ _ _ _ (Act.put _ (some 105) _) _
                    simp only [Act.put, List.setIfInBounds_toArray, List.set_cons_zero, List.set_cons_succ]
                    refine wpAnyH_take (i := 8) (v := undef) rfl (by kernel_rfl) (by kernel_rfl) (by kernel_rfl) (fun _ _ _ h => h) (Or.inr ⟨by kernel_rfl, rfl⟩) (by assumption) ?_
                    change wpAnyH _ _ _ _ _ _ _ (Act.put _ (some 106) _) _
                    simp only [Act.put, List.setIfInBounds_toArray, List.set_cons_zero, List.set_cons_succ]
                    refine wpAnyH_take (i := 9) (v := undef) rfl (by kernel_rfl) (by kernel_rfl) (by kernel_rfl) (fun _ _ _ h => h) (Or.inr ⟨by kernel_rfl, rfl⟩) (by assumption) ?_
                    change wpAnyH _ _ _ _ _ _ _ (Act.put _ (some 107) _) _
                    simp only [Act.put, List.setIfInBounds_toArray, List.set_cons_zero, List.set_cons_succ]
                    refine wpAnyH_take (i := 10) (v := undef) rfl (by kernel_rfl) (by kernel_rfl) (by kernel_rfl) (fun _ _ _ h => h) (Or.inr ⟨by kernel_rfl, rfl⟩) (by assumption) ?_
                    change wpAnyH _ _ _ _ _ _ _ (Act.put _ (some 108) _) _
                    simp only [Act.put, List.setIfInBounds_toArray, List.set_cons_zero, List.set_cons_succ]
                    refine wpAnyH_take (i := 11) (v := undef) rfl (by kernel_rfl) (by kernel_rfl) (by kernel_rfl) (fun _ _ _ h => h) (Or.inr ⟨by kernel_rfl, rfl⟩) (by assumption) ?_
                    change wpAnyH _ _ _ _ _ _ _ (Act.put _ (some 109) _) _
                    simp only [Act.put, List.setIfInBounds_toArray, List.set_cons_zero, List.set_cons_succ]
                    refine wpAnyH_take (i := 12) (v := undef) rfl (by kernel_rfl) (by kernel_rfl) (by kernel_rfl) (fun _ _ _ h => h) (Or.inr ⟨by kernel_rfl, rfl⟩) (by assumption) ?_
                    change wpAnyH _ _ _ _ _ _ _ (Act.put _ (some 110) _) _
                    simp only [Act.put, List.setIfInBounds_toArray, List.set_cons_zero, List.set_cons_succ]
                    refine wpAnyH_take (i := 13) (v := undef) rfl (by kernel_rfl) (by kernel_rfl) (by kernel_rfl) (fun _ _ _ h => h) (Or.inr ⟨by kernel_rfl, rfl⟩) (by assumption) ?_
                    change wpAnyH _ _ _ _ _ _ _ (Act.put _ (some 111) _) _
                    simp only [Act.put, List.setIfInBounds_toArray, List.set_cons_zero, List.set_cons_succ]
                    refine wpAnyH_take (i := 14) (v := undef) rfl (by kernel_rfl) (by kernel_rfl) (by kernel_rfl) (fun _ _ _ h => h) (Or.inr ⟨by kernel_rfl, rfl⟩) (by assumption) ?_
                    change wpAnyH _ _ _ _ _ _ _ (Act.put _ (some 112) _) _
                    simp only [Act.put, List.setIfInBounds_toArray, List.set_cons_zero, List.set_cons_succ]
                    refine wpAnyH_take (i := 15) (v := undef) rfl (by kernel_rfl) (by kernel_rfl) (by kernel_rfl) (fun _ _ _ h => h) (Or.inr ⟨by kernel_rfl, rfl⟩) (by assumption) ?_
                    change wpAnyH _ _ _ _ _ _ _ (Act.put _ (some 113) _) _
                    simp only [Act.put, List.setIfInBounds_toArray, List.set_cons_zero, List.set_cons_succ]
                    refine wpAnyH_take (i := 16) (v := undef) rfl (by kernel_rfl) (by kernel_rfl) (by kernel_rfl) (fun _ _ _ h => h) (Or.inr ⟨by kernel_rfl, rfl⟩) (by assumption) ?_
                    change wpAnyH _ _ _ _ _ _ _ (Act.put _ (some 114) _) _
                    simp only [Act.put, List.setIfInBounds_toArray, List.set_cons_zero, List.set_cons_succ]
                    refine wpAnyH_take (i := 17) (v := undef) rfl (by kernel_rfl) (by kernel_rfl) (by kernel_rfl) (fun _ _ _ h => h) (Or.inr ⟨by kernel_rfl, rfl⟩) (by assumption) ?_
                    change wpAnyH _ _ _ _ _ _ _ (Act.put _ (some 115) _) _
                    simp only [Act.put, List.setIfInBounds_toArray, List.set_cons_zero, List.set_cons_succ]
                    refine wpAnyH_take (i := 18) (v := undef) rfl (by kernel_rfl) (by kernel_rfl) (by kernel_rfl) (fun _ _ _ h => h) (Or.inr ⟨by kernel_rfl, rfl⟩) (by assumption) ?_
                    change wpAnyH _ _ _ _ _ _ _ (Act.put _ (some 116) _) _
                    simp only [Act.put, List.setIfInBounds_toArray, List.set_cons_zero, List.set_cons_succ]
                    refine wpAnyH_take (i := 19) (v := undef) rfl (by kernel_rfl) (by kernel_rfl) (by kernel_rfl) (fun _ _ _ h => h) (Or.inr ⟨by kernel_rfl, rfl⟩) (by assumption) ?_
                    change wpAnyH _ _ _ _ _ _ _ (Act.put _ (some 117) _) _
                    simp only [Act.put, List.setIfInBounds_toArray, List.set_cons_zero, List.set_cons_succ]
                    refine wpAnyH_take (i := 20) (v := undef) rfl (by kernel_rfl) (by kernel_rfl) (by kernel_rfl) (fun _ _ _ h => h) (Or.inr ⟨by kernel_rfl, rfl⟩) (by assumption) ?_
                    change wpAnyH _ _ _ _ _ _ _ (Act.put _ (some 118) _) _
                    simp only [Act.put, List.setIfInBounds_toArray, List.set_cons_zero, List.set_cons_succ]
                    refine wpAnyH_take (i := 21) (v := undef) rfl (by kernel_rfl) (by kernel_rfl) (by kernel_rfl) (fun _ _ _ h => h) (Or.inr ⟨by kernel_rfl, rfl⟩) (by assumption) ?_
                    change wpAnyH _ _ _ _ _ _ _ (Act.put _ (some 119) _) _
                    simp only [Act.put, List.setIfInBounds_toArray, List.set_cons_zero, List.set_cons_succ]
                    refine wpAnyH_take (i := 22) (v := undef) rfl (by kernel_rfl) (by kernel_rfl) (by kernel_rfl) (fun _ _ _ h => h) (Or.inr ⟨by kernel_rfl, rfl⟩) (by assumption) ?_
                    change wpAnyH _ _ _ _ _ _ _ (Act.put _ (some 120) _) _
                    simp only [Act.put, List.setIfInBounds_toArray, List.set_cons_zero, List.set_cons_succ]
                    refine wpAnyH_take (i := 23) (v := undef) rfl (by kernel_rfl) (by kernel_rfl) (by kernel_rfl) (fun _ _ _ h => h) (Or.inr ⟨by kernel_rfl, rfl⟩) (by assumption) ?_
                    change wpAnyH _ _ _ _ _ _ _ (Act.put _ (some 121) _) _
                    simp only [Act.put, List.setIfInBounds_toArray, List.set_cons_zero, List.set_cons_succ]
                    refine' wpAnyH_take (i := 24) (v := _) rfl (by kernel_rfl) (by kernel_rfl) (by kernel_rfl) (fun _ _ _ h => h) (Or.inl ⟨by kernel_rfl, ?hgaz25⟩) (by assumption) ?rgaz25
                    case hgaz25 => intro W hW; go_simp; all_goals with_reducible rfl
                    change wpAnyH _ _ _ _ _ _ _ (Act.put _ (some 122) _) _
                    simp only [Act.put, List.setIfInBounds_toArray, List.set_cons_zero, List.set_cons_succ]
                    refine' wpAnyH_take (i := 25) (v := _) rfl (by kernel_rfl) (by kernel_rfl) (by kernel_rfl) (fun _ _ _ h => h) (Or.inl ⟨by kernel_rfl, ?hgaz26⟩) (by assumption) ?rgaz26
                    case hgaz26 => intro W hW; go_simp; all_goals with_reducible rfl
                    change wpAnyH _ _ _ _ _ _ _ (Act.put _ (some 11) _) _
                    simp only [Act.put, List.setIfInBounds_toArray, List.set_cons_zero, List.set_cons_succ]
                    refine wpAnyH_done (by kernel_rfl) ?_ _
                    have HN2 : Hid _ := hN
                    clear hN hHeld
                    go_wp2
                    go_roundg (D.cache.length - (j + 1))
                    case measure => omega
                    case rel => exact ⟨j + 1, true, by omega, rfl, rfl, by go_num, (fun h => by cases h), HN2.out⟩
                  | false =>
                    obtain ⟨hne, hno⟩ := HMB.out rfl
                    have HNE : Hid (t1 ≠ t2) := hne
                    have HNO : Hid (∀ (jj : Nat) (h : jj < D.cache.length), jj < j → (D.cache[jj]).1 = (k : Int) → ¬ Heads (D.cache[jj]).2 t1) := hno
                    clear hne hno HMB
                    obtain ⟨b5, o5, a5, c5, ea5, hb5, q0, q1, v5, hn5⟩ := wview_at (sec_of hN.k3).2 hlj
                    obtain ⟨b1, o1, a1, c1, ea1, hb1, p1, v1, -⟩ := sview_at (sec_of hN.k4).1 (List.getElem?_eq_some_iff.1 HG1.out).1
                    have EA5 : Hid _ := ea5
                    have EA1 : Hid _ := ea1
                    clear ea1 ea5
                    have ht1 : D1.secs[k]'(List.getElem?_eq_some_iff.1 HG1.out).1 = t1 := (List.getElem?_eq_some_iff.1 HG1.out).2
                    rw [ht1] at p1 v1
                    have hl1 : t1.length ≤ 1048576 := by rw [← ht1]; exact HFF.out.2.1.sec _ (List.getElem_mem _)
                    have hbg := fun W (hW : Below wr.heap.size wr W) => begins_lv a5 (D.cache[j]).2.length c5 a1 t1.length c1 (bf (D.cache[j]).2) (bf t1) W (v5.below hW) hn5 (v1.below hW) (by omega)
                    have HNX : Hid (∀ (bb : Bool), decide (t1.length ≤ (D.cache[j]).2.length ∧ lof t1.length (bf (D.cache[j]).2) = lof t1.length (bf t1)) = bb → bb = false → ¬ Heads (D.cache[j]).2 t1) := fun bb h h2 h3 => by
                      rw [h2] at h
                      exact absurd h3 (by simpa [Heads] using h)
                    obtain ⟨bb, hbb⟩ := hidEx (decide (t1.length ≤ (D.cache[j]).2.length ∧ lof t1.length (bf (D.cache[j]).2) = lof t1.length (bf t1)))
                    simp only [hbb.out] at hbg
                    have HNB : Hid (bb = false → ¬ Heads (D.cache[j]).2 t1) := HNX.out bb hbb.out
                    have HP0 : Hid (∀ (x : Int), (D.cache[j]).1 = x → x ≠ (k : Int) → (D.cache[j]).1 ≠ (k : Int)) := fun x h h2 => by rw [h]; exact h2
                    obtain ⟨p0, hp0⟩ := hidEx (D.cache[j]).1
                    obtain ⟨n5, hn5e⟩ := hidEx (D.cache[j]).2.length
                    obtain ⟨n1, hn1e⟩ := hidEx t1.length
                    have HPX : Hid (p0 ≠ (k : Int) → (D.cache[j]).1 ≠ (k : Int)) := HP0.out p0 hp0.out
                    rw [hp0.out] at q0
                    simp only [hn5e.out] at q1 hbg
                    simp only [hn1e.out] at p1 hbg
                    have hkz1 : (k : Int) < (D1.secs.length : Int) := by have := (List.getElem?_eq_some_iff.1 HG1.out).1; omega
                    clear v5 v1 hn5 ht1 hl1 HNX hbb HP0 hp0 hn5e hn1e
                    have HS : Hid (∀ W, Below wr.heap.size wr W → (W.cell? ⟨X3, 1, none⟩ = some (.slice (some ⟨b5, o5, none⟩) D.cache.length dcc) ∧ W.cell? ⟨b5, o5 + j * 2, none⟩ = some (.int .i64 p0) ∧ W.cell? ⟨b5, o5 + j * 2 + 1, none⟩ = some (.slice a5 n5 c5)) ∧ W.cell? ⟨X4, 0, none⟩ = some (.slice (some ⟨b1, o1, none⟩) D1.secs.length xsc) ∧ W.cell? ⟨b1, o1 + k, none⟩ = some (.slice a1 n1 c1)) := fun W hW => ⟨⟨by rw [← EA5.out]; exact (hN.x3.below hW).cell 1, by rw [hW.cell hb5]; exact q0, by rw [hW.cell hb5]; exact q1⟩, by rw [← EA1.out]; exact (hN.x4.below hW).cell 0, by rw [hW.cell hb1]; exact p1⟩
                    by_cases hpk : p0 = (k : Int)
                    · have hpq : (p0 == (k : Int)) = true := beq_iff_eq.2 hpk
                      clear hpk
                      go_wp2_with fail
                      clear s1 q0 q1 p1
                      have hbd : Below wr.heap.size wr wr.drew := (Below.refl _ _).drew
                      replace hN := hN.on hbd
                      refine wp_region_held_drew (S := fun W => (W.cell? ⟨X3, 1, none⟩ = some (.slice (some ⟨b5, o5, none⟩) D.cache.length dcc) ∧ W.cell? ⟨b5, o5 + j * 2, none⟩ = some (.int .i64 p0) ∧ W.cell? ⟨b5, o5 + j * 2 + 1, none⟩ = some (.slice a5 n5 c5)) ∧ W.cell? ⟨X4, 0, none⟩ = some (.slice (some ⟨b1, o1, none⟩) D1.secs.length xsc) ∧ W.cell? ⟨b1, o1 + k, none⟩ = some (.slice a1 n1 c1)) (by kernel_rfl) (HS.out _ hbd) (fun hHeld => ?_)
                      obtain ⟨wd, hwd⟩ := hidEx wr.drew
                      rw [hwd.out] at hN hbd hHeld ⊢
                      clear hwd
                      refine' wpAnyH_take (i := 0) (v := _) rfl (by kernel_rfl) (by kernel_rfl) (by kernel_rfl) (fun _ _ _ h => h) (Or.inl ⟨by kernel_rfl, ?hgbz1⟩) (by assumption) ?rgbz1
                      case hgbz1 => intro W hW; obtain ⟨⟨c0, c1, c2⟩, d0, d1⟩ := hW; go_simp; all_goals with_reducible rfl
                      change wpAnyH _ _ _ _ _ _ _ (Act.put _ (some 98) _) _
                      simp only [Act.put, List.setIfInBounds_toArray, List.set_cons_zero, List.set_cons_succ]
                      refine' wpAnyH_take (i := 1) (v := _) rfl (by kernel_rfl) (by kernel_rfl) (by kernel_rfl) (fun _ _ _ h => h) (Or.inl ⟨by kernel_rfl, ?hgbz2⟩) (by assumption) ?rgbz2
                      case hgbz2 => intro W hW; obtain ⟨⟨c0, c1, c2⟩, d0, d1⟩ := hW; go_simp; all_goals with_reducible rfl
                      change wpAnyH _ _ _ _ _ _ _ (Act.put _ (some 99) _) _
                      simp only [Act.put, List.setIfInBounds_toArray, List.set_cons_zero, List.set_cons_succ]
                      refine' wpAnyH_take (i := 2) (v := _) rfl (by kernel_rfl) (by kernel_rfl) (by kernel_rfl) (fun _ _ _ h => h) (Or.inl ⟨by kernel_rfl, ?hgbz3⟩) (by assumption) ?rgbz3
                      case hgbz3 => intro W hW; obtain ⟨⟨c0, c1, c2⟩, d0, d1⟩ := hW; go_simp; all_goals with_reducible rfl
                      change wpAnyH _ _ _ _ _ _ _ (Act.put _ (some 100) _) _
                      simp only [Act.put, List.setIfInBounds_toArray, List.set_cons_zero, List.set_cons_succ]
                      refine' wpAnyH_take (i := 3) (v := _) rfl (by kernel_rfl) (by kernel_rfl) (by kernel_rfl) (fun _ _ _ h => h) (Or.inl ⟨by kernel_rfl, ?hgbz4⟩) (by assumption) ?rgbz4
                      case hgbz4 => intro W hW; obtain ⟨⟨c0, c1, c2⟩, d0, d1⟩ := hW; go_simp; all_goals with_reducible rfl
                      change wpAnyH _ _ _ _ _ _ _ (Act.put _ (some 101) _) _
                      simp only [Act.put, List.setIfInBounds_toArray, List.set_cons_zero, List.set_cons_succ]
                      refine' wpAnyH_take (i := 4) (v := _) rfl (by kernel_rfl) (by kernel_rfl) (by kernel_rfl) (fun _ _ _ h => h) (Or.inl ⟨by kernel_rfl, ?hgbz5⟩) (by assumption) ?rgbz5
                      case hgbz5 => intro W hW; obtain ⟨⟨c0, c1, c2⟩, d0, d1⟩ := hW; go_simp; all_goals with_reducible rfl
                      change wpAnyH _ _ _ _ _ _ _ (Act.put _ (some 102) _) _
                      simp only [Act.put, List.setIfInBounds_toArray, List.set_cons_zero, List.set_cons_succ]
                      refine' wpAnyH_take (i := 5) (v := _) rfl (by kernel_rfl) (by kernel_rfl) (by kernel_rfl) (fun _ _ _ h => h) (Or.inl ⟨by kernel_rfl, ?hgbz6⟩) (by assumption) ?rgbz6
                      case hgbz6 => intro W hW; obtain ⟨⟨c0, c1, c2⟩, d0, d1⟩ := hW; go_simp; all_goals with_reducible rfl
                      change wpAnyH _ _ _ _ _ _ _ (Act.put _ (some 103) _) _
                      simp only [Act.put, List.setIfInBounds_toArray, List.set_cons_zero, List.set_cons_succ]
                      refine' wpAnyH_take (i := 6) (v := _) rfl (by kernel_rfl) (by kernel_rfl) (by kernel_rfl) (fun _ _ _ h => h) (Or.inl ⟨by kernel_rfl, ?hgbz7⟩) (by assumption) ?rgbz7
                      case hgbz7 => intro W hW; obtain ⟨⟨c0, c1, c2⟩, d0, d1⟩ := hW; go_simp; all_goals with_reducible rfl
                      change wpAnyH _ _ _ _ _ _ _ (Act.put _ (some 104) _) _
                      simp only [Act.put, List.setIfInBounds_toArray, List.set_cons_zero, List.set_cons_succ]
                      refine' wpAnyH_take (i := 7) (v := _) rfl (by kernel_rfl) (by kernel_rfl) (by kernel_rfl) (fun _ _ _ h => h) (Or.inl ⟨by kernel_rfl, ?hgbz8⟩) (by assumption) ?rgbz8
                      case hgbz8 => intro W hW; obtain ⟨⟨c0, c1, c2⟩, d0, d1⟩ := hW; go_simp; all_goals with_reducible rfl
                      change wpAnyH _ _ _ _ _ _ _ (Act.put _ (some 105) _) _
                      simp only [Act.put, List.setIfInBounds_toArray, List.set_cons_zero, List.set_cons_succ]
                      refine' wpAnyH_take (i := 8) (v := _) rfl (by kernel_rfl) (by kernel_rfl) (by kernel_rfl) (fun _ _ _ h => h) (Or.inl ⟨by kernel_rfl, ?hgbz9⟩) (by assumption) ?rgbz9
                      case hgbz9 => intro W hW; obtain ⟨⟨c0, c1, c2⟩, d0, d1⟩ := hW; go_simp; all_goals with_reducible rfl
                      change wpAnyH _ _ _ _ _ _ _ (Act.put _ (some 106) _) _
                      simp only [Act.put, List.setIfInBounds_toArray, List.set_cons_zero, List.set_cons_succ]
                      refine' wpAnyH_take (i := 9) (v := _) rfl (by kernel_rfl) (by kernel_rfl) (by kernel_rfl) (fun _ _ _ h => h) (Or.inl ⟨by kernel_rfl, ?hgbz10⟩) (by assumption) ?rgbz10
                      case hgbz10 => intro W hW; obtain ⟨⟨c0, c1, c2⟩, d0, d1⟩ := hW; go_simp; all_goals with_reducible rfl
                      change wpAnyH _ _ _ _ _ _ _ (Act.put _ (some 107) _) _
                      simp only [Act.put, List.setIfInBounds_toArray, List.set_cons_zero, List.set_cons_succ]
                      refine' wpAnyH_take (i := 10) (v := _) rfl (by kernel_rfl) (by kernel_rfl) (by kernel_rfl) (fun _ _ _ h => h) (Or.inl ⟨by kernel_rfl, ?hgbz11⟩) (by assumption) ?rgbz11
                      case hgbz11 => intro W hW; obtain ⟨⟨c0, c1, c2⟩, d0, d1⟩ := hW; go_simp; all_goals with_reducible rfl
                      change wpAnyH _ _ _ _ _ _ _ (Act.put _ (some 108) _) _
                      simp only [Act.put, List.setIfInBounds_toArray, List.set_cons_zero, List.set_cons_succ]
                      refine' wpAnyH_take (i := 11) (v := _) rfl (by kernel_rfl) (by kernel_rfl) (by kernel_rfl) (fun _ _ _ h => h) (Or.inl ⟨by kernel_rfl, ?hgbz12⟩) (by assumption) ?rgbz12
                      case hgbz12 => intro W hW; obtain ⟨⟨c0, c1, c2⟩, d0, d1⟩ := hW; go_simp; all_goals with_reducible rfl
                      change wpAnyH _ _ _ _ _ _ _ (Act.put _ (some 109) _) _
                      simp only [Act.put, List.setIfInBounds_toArray, List.set_cons_zero, List.set_cons_succ]
                      refine' wpAnyH_take (i := 12) (v := _) rfl (by kernel_rfl) (by kernel_rfl) (by kernel_rfl) (fun _ _ _ h => h) (Or.inl ⟨by kernel_rfl, ?hgbz13⟩) (by assumption) ?rgbz13
                      case hgbz13 => intro W hW; obtain ⟨⟨c0, c1, c2⟩, d0, d1⟩ := hW; go_simp; all_goals with_reducible rfl
                      change wpAnyH _ _ _ _ _ _ _ (Act.put _ (some 110) _) _
                      simp only [Act.put, List.setIfInBounds_toArray, List.set_cons_zero, List.set_cons_succ]
                      refine' wpAnyH_take (i := 13) (v := _) rfl (by kernel_rfl) (by kernel_rfl) (by kernel_rfl) (fun _ _ _ h => h) (Or.inl ⟨by kernel_rfl, ?hgbz14⟩) (by assumption) ?rgbz14
                      case hgbz14 => intro W hW; obtain ⟨⟨c0, c1, c2⟩, d0, d1⟩ := hW; go_simp; all_goals with_reducible rfl
                      change wpAnyH _ _ _ _ _ _ _ (Act.put _ (some 111) _) _
                      simp only [Act.put, List.setIfInBounds_toArray, List.set_cons_zero, List.set_cons_succ]
                      refine' wpAnyH_take (i := 14) (v := _) rfl (by kernel_rfl) (by kernel_rfl) (by kernel_rfl) (fun _ _ _ h => h) (Or.inl ⟨by kernel_rfl, ?hgbz15⟩) (by assumption) ?rgbz15
                      case hgbz15 => intro W hW; obtain ⟨⟨c0, c1, c2⟩, d0, d1⟩ := hW; go_simp; all_goals with_reducible rfl
                      change wpAnyH _ _ _ _ _ _ _ (Act.put _ (some 112) _) _
                      simp only [Act.put, List.setIfInBounds_toArray, List.set_cons_zero, List.set_cons_succ]
                      refine' wpAnyH_take (i := 15) (v := _) rfl (by kernel_rfl) (by kernel_rfl) (by kernel_rfl) (fun _ _ _ h => h) (Or.inl ⟨by kernel_rfl, ?hgbz16⟩) (by assumption) ?rgbz16
                      case hgbz16 => intro W hW; obtain ⟨⟨c0, c1, c2⟩, d0, d1⟩ := hW; go_simp; all_goals with_reducible rfl
                      change wpAnyH _ _ _ _ _ _ _ (Act.put _ (some 113) _) _
                      simp only [Act.put, List.setIfInBounds_toArray, List.set_cons_zero, List.set_cons_succ]
                      refine' wpAnyH_take (i := 16) (v := _) rfl (by kernel_rfl) (by kernel_rfl) (by kernel_rfl) (fun _ _ _ h => h) (Or.inl ⟨by kernel_rfl, ?hgbz17⟩) (by assumption) ?rgbz17
                      case hgbz17 => intro W hW; obtain ⟨⟨c0, c1, c2⟩, d0, d1⟩ := hW; go_simp; all_goals with_reducible rfl
                      change wpAnyH _ _ _ _ _ _ _ (Act.put _ (some 114) _) _
                      simp only [Act.put, List.setIfInBounds_toArray, List.set_cons_zero, List.set_cons_succ]
                      refine' wpAnyH_take (i := 17) (v := _) rfl (by kernel_rfl) (by kernel_rfl) (by kernel_rfl) (fun _ _ _ h => h) (Or.inl ⟨by kernel_rfl, ?hgbz18⟩) (by assumption) ?rgbz18
                      case hgbz18 => intro W hW; obtain ⟨⟨c0, c1, c2⟩, d0, d1⟩ := hW; go_simp; all_goals with_reducible rfl
                      change wpAnyH _ _ _ _ _ _ _ (Act.put _ (some 115) _) _
                      simp only [Act.put, List.setIfInBounds_toArray, List.set_cons_zero, List.set_cons_succ]
                      refine' wpAnyH_take (i := 18) (v := _) rfl (by kernel_rfl) (by kernel_rfl) (by kernel_rfl) (fun _ _ _ h => h) (Or.inl ⟨by kernel_rfl, ?hgbz19⟩) (by assumption) ?rgbz19
                      case hgbz19 => intro W hW; obtain ⟨⟨c0, c1, c2⟩, d0, d1⟩ := hW; go_simp; all_goals with_reducible rfl
                      change wpAnyH _ _ _ _ _ _ _ (Act.put _ (some 116) _) _
                      simp only [Act.put, List.setIfInBounds_toArray, List.set_cons_zero, List.set_cons_succ]
                      refine' wpAnyH_take (i := 19) (v := _) rfl (by kernel_rfl) (by kernel_rfl) (by kernel_rfl) (fun _ _ _ h => h) (Or.inl ⟨by kernel_rfl, ?hgbz20⟩) (by assumption) ?rgbz20
                      case hgbz20 => intro W hW; obtain ⟨⟨c0, c1, c2⟩, d0, d1⟩ := hW; go_simp; all_goals with_reducible rfl
                      change wpAnyH _ _ _ _ _ _ _ (Act.put _ (some 117) _) _
                      simp only [Act.put, List.setIfInBounds_toArray, List.set_cons_zero, List.set_cons_succ]
                      refine' wpAnyH_take (i := 20) (v := _) rfl (by kernel_rfl) (by kernel_rfl) (by kernel_rfl) (fun _ _ _ h => h) (Or.inl ⟨by kernel_rfl, ?hgbz21⟩) (by assumption) ?rgbz21
                      case hgbz21 => intro W hW; obtain ⟨⟨c0, c1, c2⟩, d0, d1⟩ := hW; go_simp; all_goals with_reducible rfl
                      change wpAnyH _ _ _ _ _ _ _ (Act.put _ (some 118) _) _
                      simp only [Act.put, List.setIfInBounds_toArray, List.set_cons_zero, List.set_cons_succ]
                      refine' wpAnyH_take (i := 21) (v := _) rfl (by kernel_rfl) (by kernel_rfl) (by kernel_rfl) (fun _ _ _ h => h) (Or.inl ⟨by kernel_rfl, ?hgbz22⟩) (by assumption) ?rgbz22
                      case hgbz22 => intro W hW; obtain ⟨⟨c0, c1, c2⟩, d0, d1⟩ := hW; go_simp; all_goals with_reducible rfl
                      change wpAnyH _ _ _ _ _ _ _ (Act.put _ (some 119) _) _
                      simp only [Act.put, List.setIfInBounds_toArray, List.set_cons_zero, List.set_cons_succ]
                      refine wpAnyH_ready (rs := [22]) (by kernel_rfl) (by simp) ?_
                      refine AllReadyH.cons rfl (fun KK hK => ?_) AllReadyH.nil
                      go_simp
                      refine (hbg wd hbd).mono ?_
                      rintro e wf ⟨rfl, hbf⟩
                      have hN2 := hN.on hbf
                      have hHf : (wf.cell? ⟨X3, 1, none⟩ = some (.slice (some ⟨b5, o5, none⟩) D.cache.length dcc) ∧ wf.cell? ⟨b5, o5 + j * 2, none⟩ = some (.int .i64 p0) ∧ wf.cell? ⟨b5, o5 + j * 2 + 1, none⟩ = some (.slice a5 n5 c5)) ∧ wf.cell? ⟨X4, 0, none⟩ = some (.slice (some ⟨b1, o1, none⟩) D1.secs.length xsc) ∧ wf.cell? ⟨b1, o1 + k, none⟩ = some (.slice a1 n1 c1) := HS.out wf (hbd.trans (hbf.mono hbd.size))
                      clear hHeld hN hbd hbf hbg
                      go_wp2_with fail
                      refine hK.out _ _ hHf (fun hHeld => ?_)
                      clear hK KK
                      try simp only [Act.put, List.setIfInBounds_toArray, List.set_cons_zero, List.set_cons_succ]
                      refine' wpAnyH_take (i := 23) (v := _) rfl (by kernel_rfl) (by kernel_rfl) (by kernel_rfl) (fun _ _ _ h => h) (Or.inl ⟨by kernel_rfl, ?hgbz23⟩) (by assumption) ?rgbz23
                      case hgbz23 => intro W hW; obtain ⟨⟨c0, c1, c2⟩, d0, d1⟩ := hW; go_simp; all_goals with_reducible rfl
                      change wpAnyH _ _ _ _ _ _ _ (Act.put _ (some 121) _) _
                      simp only [Act.put, List.setIfInBounds_toArray, List.set_cons_zero, List.set_cons_succ]
                      refine' wpAnyH_take (i := 24) (v := _) rfl (by kernel_rfl) (by kernel_rfl) (by kernel_rfl) (fun _ _ _ h => h) (Or.inl ⟨by kernel_rfl, ?hgbz24⟩) (by assumption) ?rgbz24
                      case hgbz24 => intro W hW; obtain ⟨⟨c0, c1, c2⟩, d0, d1⟩ := hW; go_simp; all_goals with_reducible rfl
                      change wpAnyH _ _ _ _ _ _ _ (Act.put _ (some 122) _) _
                      simp only [Act.put, List.setIfInBounds_toArray, List.set_cons_zero, List.set_cons_succ]
                      refine' wpAnyH_take (i := 25) (v := _) rfl (by kernel_rfl) (by kernel_rfl) (by kernel_rfl) (fun _ _ _ h => h) (Or.inl ⟨by kernel_rfl, ?hgbz25⟩) (by assumption) ?rgbz25
                      case hgbz25 => intro W hW; obtain ⟨⟨c0, c1, c2⟩, d0, d1⟩ := hW; go_simp; all_goals with_reducible rfl
                      change wpAnyH _ _ _ _ _ _ _ (Act.put _ (some 11) _) _
                      simp only [Act.put, List.setIfInBounds_toArray, List.set_cons_zero, List.set_cons_succ]
                      refine wpAnyH_done (by kernel_rfl) ?_ _
                      have HN2 : Hid _ := hN2
                      clear hN2 hHeld hHf HS
                      go_wp2
                      go_roundg (D.cache.length - (j + 1))
                      case measure => omega
                      case rel => exact ⟨j + 1, bb, by omega, rfl, rfl, by go_num, (fun h => ⟨HNE.out, fun jj hjj hlt hp => (Nat.lt_or_ge jj j).elim (fun e => HNO.out jj hjj e hp) (fun e => by obtain rfl : jj = j := (by omega); exact HNB.out h)⟩), HN2.out⟩
                    · have hpq : (p0 == (k : Int)) = false := beq_eq_false_iff_ne.2 hpk
                      have HPK : Hid ((D.cache[j]).1 ≠ (k : Int)) := HPX.out hpk
                      clear hpk hbg
                      go_wp2_with fail
                      clear s1 q0 q1 p1
                      have hbd : Below wr.heap.size wr wr.drew := (Below.refl _ _).drew
                      replace hN := hN.on hbd
                      refine wp_region_held_drew (S := fun W => (W.cell? ⟨X3, 1, none⟩ = some (.slice (some ⟨b5, o5, none⟩) D.cache.length dcc) ∧ W.cell? ⟨b5, o5 + j * 2, none⟩ = some (.int .i64 p0) ∧ W.cell? ⟨b5, o5 + j * 2 + 1, none⟩ = some (.slice a5 n5 c5)) ∧ W.cell? ⟨X4, 0, none⟩ = some (.slice (some ⟨b1, o1, none⟩) D1.secs.length xsc) ∧ W.cell? ⟨b1, o1 + k, none⟩ = some (.slice a1 n1 c1)) (by kernel_rfl) (HS.out _ hbd) (fun hHeld => ?_)
                      obtain ⟨wd, hwd⟩ := hidEx wr.drew
                      rw [hwd.out] at hN hbd hHeld ⊢
                      clear hwd
                      refine' wpAnyH_take (i := 0) (v := _) rfl (by kernel_rfl) (by kernel_rfl) (by kernel_rfl) (fun _ _ _ h => h) (Or.inl ⟨by kernel_rfl, ?hgcz1⟩) (by assumption) ?rgcz1
                      case hgcz1 => intro W hW; obtain ⟨⟨c0, c1, c2⟩, d0, d1⟩ := hW; go_simp; all_goals with_reducible rfl
                      change wpAnyH _ _ _ _ _ _ _ (Act.put _ (some 98) _) _
                      simp only [Act.put, List.setIfInBounds_toArray, List.set_cons_zero, List.set_cons_succ]
                      refine' wpAnyH_take (i := 1) (v := _) rfl (by kernel_rfl) (by kernel_rfl) (by kernel_rfl) (fun _ _ _ h => h) (Or.inl ⟨by kernel_rfl, ?hgcz2⟩) (by assumption) ?rgcz2
                      case hgcz2 => intro W hW; obtain ⟨⟨c0, c1, c2⟩, d0, d1⟩ := hW; go_simp; all_goals with_reducible rfl
                      change wpAnyH _ _ _ _ _ _ _ (Act.put _ (some 99) _) _
                      simp only [Act.put, List.setIfInBounds_toArray, List.set_cons_zero, List.set_cons_succ]
                      refine' wpAnyH_take (i := 2) (v := _) rfl (by kernel_rfl) (by kernel_rfl) (by kernel_rfl) (fun _ _ _ h => h) (Or.inl ⟨by kernel_rfl, ?hgcz3⟩) (by assumption) ?rgcz3
                      case hgcz3 => intro W hW; obtain ⟨⟨c0, c1, c2⟩, d0, d1⟩ := hW; go_simp; all_goals with_reducible rfl
                      change wpAnyH _ _ _ _ _ _ _ (Act.put _ (some 100) _) _
                      simp only [Act.put, List.setIfInBounds_toArray, List.set_cons_zero, List.set_cons_succ]
                      refine' wpAnyH_take (i := 3) (v := _) rfl (by kernel_rfl) (by kernel_rfl) (by kernel_rfl) (fun _ _ _ h => h) (Or.inl ⟨by kernel_rfl, ?hgcz4⟩) (by assumption) ?rgcz4
                      case hgcz4 => intro W hW; obtain ⟨⟨c0, c1, c2⟩, d0, d1⟩ := hW; go_simp; all_goals with_reducible rfl
                      change wpAnyH _ _ _ _ _ _ _ (Act.put _ (some 101) _) _
                      simp only [Act.put, List.setIfInBounds_toArray, List.set_cons_zero, List.set_cons_succ]
                      refine' wpAnyH_take (i := 4) (v := _) rfl (by kernel_rfl) (by kernel_rfl) (by kernel_rfl) (fun _ _ _ h => h) (Or.inl ⟨by kernel_rfl, ?hgcz5⟩) (by assumption) ?rgcz5
                      case hgcz5 => intro W hW; obtain ⟨⟨c0, c1, c2⟩, d0, d1⟩ := hW; go_simp; all_goals with_reducible rfl
                      change wpAnyH _ _ _ _ _ _ _ (Act.put _ (some 102) _) _
                      simp only [Act.put, List.setIfInBounds_toArray, List.set_cons_zero, List.set_cons_succ]
                      refine' wpAnyH_take (i := 5) (v := _) rfl (by kernel_rfl) (by kernel_rfl) (by kernel_rfl) (fun _ _ _ h => h) (Or.inl ⟨by kernel_rfl, ?hgcz6⟩) (by assumption) ?rgcz6
                      case hgcz6 => intro W hW; obtain ⟨⟨c0, c1, c2⟩, d0, d1⟩ := hW; go_simp; all_goals with_reducible rfl
                      change wpAnyH _ _ _ _ _ _ _ (Act.put _ (some 103) _) _
                      simp only [Act.put, List.setIfInBounds_toArray, List.set_cons_zero, List.set_cons_succ]
                      refine' wpAnyH_take (i := 6) (v := _) rfl (by kernel_rfl) (by kernel_rfl) (by kernel_rfl) (fun _ _ _ h => h) (Or.inl ⟨by kernel_rfl, ?hgcz7⟩) (by assumption) ?rgcz7
                      case hgcz7 => intro W hW; obtain ⟨⟨c0, c1, c2⟩, d0, d1⟩ := hW; go_simp; all_goals with_reducible rfl
                      change wpAnyH _ _ _ _ _ _ _ (Act.put _ (some 104) _) _
                      simp only [Act.put, List.setIfInBounds_toArray, List.set_cons_zero, List.set_cons_succ]
                      refine' wpAnyH_take (i := 7) (v := _) rfl (by kernel_rfl) (by kernel_rfl) (by kernel_rfl) (fun _ _ _ h => h) (Or.inl ⟨by kernel_rfl, ?hgcz8⟩) (by assumption) ?rgcz8
                      case hgcz8 => intro W hW; obtain ⟨⟨c0, c1, c2⟩, d0, d1⟩ := hW; go_simp; all_goals with_reducible rfl
                      change wpAnyH _ _ _ _ _ _ _ (Act.put _ (some 105) _) _
                      simp only [Act.put, List.setIfInBounds_toArray, List.set_cons_zero, List.set_cons_succ]
                      refine' wpAnyH_take (i := 8) (v := _) rfl (by kernel_rfl) (by kernel_rfl) (by kernel_rfl) (fun _ _ _ h => h) (Or.inl ⟨by kernel_rfl, ?hgcz9⟩) (by assumption) ?rgcz9
                      case hgcz9 => intro W hW; obtain ⟨⟨c0, c1, c2⟩, d0, d1⟩ := hW; go_simp; all_goals with_reducible rfl
                      change wpAnyH _ _ _ _ _ _ _ (Act.put _ (some 106) _) _
                      simp only [Act.put, List.setIfInBounds_toArray, List.set_cons_zero, List.set_cons_succ]
                      refine' wpAnyH_take (i := 9) (v := _) rfl (by kernel_rfl) (by kernel_rfl) (by kernel_rfl) (fun _ _ _ h => h) (Or.inl ⟨by kernel_rfl, ?hgcz10⟩) (by assumption) ?rgcz10
                      case hgcz10 => intro W hW; obtain ⟨⟨c0, c1, c2⟩, d0, d1⟩ := hW; go_simp; all_goals with_reducible rfl
                      change wpAnyH _ _ _ _ _ _ _ (Act.put _ (some 107) _) _
                      simp only [Act.put, List.setIfInBounds_toArray, List.set_cons_zero, List.set_cons_succ]
                      refine' wpAnyH_take (i := 10) (v := _) rfl (by kernel_rfl) (by kernel_rfl) (by kernel_rfl) (fun _ _ _ h => h) (Or.inl ⟨by kernel_rfl, ?hgcz11⟩) (by assumption) ?rgcz11
                      case hgcz11 => intro W hW; obtain ⟨⟨c0, c1, c2⟩, d0, d1⟩ := hW; go_simp; all_goals with_reducible rfl
                      change wpAnyH _ _ _ _ _ _ _ (Act.put _ (some 108) _) _
                      simp only [Act.put, List.setIfInBounds_toArray, List.set_cons_zero, List.set_cons_succ]
                      refine wpAnyH_take (i := 11) (v := undef) rfl (by kernel_rfl) (by kernel_rfl) (by kernel_rfl) (fun _ _ _ h => h) (Or.inr ⟨by kernel_rfl, rfl⟩) (by assumption) ?_
                      change wpAnyH _ _ _ _ _ _ _ (Act.put _ (some 109) _) _
                      simp only [Act.put, List.setIfInBounds_toArray, List.set_cons_zero, List.set_cons_succ]
                      refine wpAnyH_take (i := 12) (v := undef) rfl (by kernel_rfl) (by kernel_rfl) (by kernel_rfl) (fun _ _ _ h => h) (Or.inr ⟨by kernel_rfl, rfl⟩) (by assumption) ?_
                      change wpAnyH _ _ _ _ _ _ _ (Act.put _ (some 110) _) _
                      simp only [Act.put, List.setIfInBounds_toArray, List.set_cons_zero, List.set_cons_succ]
                      refine wpAnyH_take (i := 13) (v := undef) rfl (by kernel_rfl) (by kernel_rfl) (by kernel_rfl) (fun _ _ _ h => h) (Or.inr ⟨by kernel_rfl, rfl⟩) (by assumption) ?_
                      change wpAnyH _ _ _ _ _ _ _ (Act.put _ (some 111) _) _
                      simp only [Act.put, List.setIfInBounds_toArray, List.set_cons_zero, List.set_cons_succ]
                      refine wpAnyH_take (i := 14) (v := undef) rfl (by kernel_rfl) (by kernel_rfl) (by kernel_rfl) (fun _ _ _ h => h) (Or.inr ⟨by kernel_rfl, rfl⟩) (by assumption) ?_
                      change wpAnyH _ _ _ _ _ _ _ (Act.put _ (some 112) _) _
                      simp only [Act.put, List.setIfInBounds_toArray, List.set_cons_zero, List.set_cons_succ]
                      refine wpAnyH_take (i := 15) (v := undef) rfl (by kernel_rfl) (by kernel_rfl) (by kernel_rfl) (fun _ _ _ h => h) (Or.inr ⟨by kernel_rfl, rfl⟩) (by assumption) ?_
                      change wpAnyH _ _ _ _ _ _ _ (Act.put _ (some 113) _) _
                      simp only [Act.put, List.setIfInBounds_toArray, List.set_cons_zero, List.set_cons_succ]
                      refine wpAnyH_take (i := 16) (v := undef) rfl (by kernel_rfl) (by kernel_rfl) (by kernel_rfl) (fun _ _ _ h => h) (Or.inr ⟨by kernel_rfl, rfl⟩) (by assumption) ?_
                      change wpAnyH _ _ _ _ _ _ _ (Act.put _ (some 114) _) _
                      simp only [Act.put, List.setIfInBounds_toArray, List.set_cons_zero, List.set_cons_succ]
                      refine wpAnyH_take (i := 17) (v := undef) rfl (by kernel_rfl) (by kernel_rfl) (by kernel_rfl) (fun _ _ _ h => h) (Or.inr ⟨by kernel_rfl, rfl⟩) (by assumption) ?_
                      change wpAnyH _ _ _ _ _ _ _ (Act.put _ (some 115) _) _
                      simp only [Act.put, List.setIfInBounds_toArray, List.set_cons_zero, List.set_cons_succ]
                      refine wpAnyH_take (i := 18) (v := undef) rfl (by kernel_rfl) (by kernel_rfl) (by kernel_rfl) (fun _ _ _ h => h) (Or.inr ⟨by kernel_rfl, rfl⟩) (by assumption) ?_
                      change wpAnyH _ _ _ _ _ _ _ (Act.put _ (some 116) _) _
                      simp only [Act.put, List.setIfInBounds_toArray, List.set_cons_zero, List.set_cons_succ]
                      refine wpAnyH_take (i := 19) (v := undef) rfl (by kernel_rfl) (by kernel_rfl) (by kernel_rfl) (fun _ _ _ h => h) (Or.inr ⟨by kernel_rfl, rfl⟩) (by assumption) ?_
                      change wpAnyH _ _ _ _ _ _ _ (Act.put _ (some 117) _) _
                      simp only [Act.put, List.setIfInBounds_toArray, List.set_cons_zero, List.set_cons_succ]
                      refine wpAnyH_take (i := 20) (v := undef) rfl (by kernel_rfl) (by kernel_rfl) (by kernel_rfl) (fun _ _ _ h => h) (Or.inr ⟨by kernel_rfl, rfl⟩) (by assumption) ?_
                      change wpAnyH _ _ _ _ _ _ _ (Act.put _ (some 118) _) _
                      simp only [Act.put, List.setIfInBounds_toArray, List.set_cons_zero, List.set_cons_succ]
                      refine wpAnyH_take (i := 21) (v := undef) rfl (by kernel_rfl) (by kernel_rfl) (by kernel_rfl) (fun _ _ _ h => h) (Or.inr ⟨by kernel_rfl, rfl⟩) (by assumption) ?_
                      change wpAnyH _ _ _ _ _ _ _ (Act.put _ (some 119) _) _
                      simp only [Act.put, List.setIfInBounds_toArray, List.set_cons_zero, List.set_cons_succ]
                      refine wpAnyH_take (i := 22) (v := undef) rfl (by kernel_rfl) (by kernel_rfl) (by kernel_rfl) (fun _ _ _ h => h) (Or.inr ⟨by kernel_rfl, rfl⟩) (by assumption) ?_
                      change wpAnyH _ _ _ _ _ _ _ (Act.put _ (some 120) _) _
                      simp only [Act.put, List.setIfInBounds_toArray, List.set_cons_zero, List.set_cons_succ]
                      refine' wpAnyH_take (i := 23) (v := _) rfl (by kernel_rfl) (by kernel_rfl) (by kernel_rfl) (fun _ _ _ h => h) (Or.inl ⟨by kernel_rfl, ?hgcz24⟩) (by assumption) ?rgcz24
                      case hgcz24 => intro W hW; obtain ⟨⟨c0, c1, c2⟩, d0, d1⟩ := hW; go_simp; all_goals with_reducible rfl
                      change wpAnyH _ _ _ _ _ _ _ (Act.put _ (some 121) _) _
                      simp only [Act.put, List.setIfInBounds_toArray, List.set_cons_zero, List.set_cons_succ]
                      refine' wpAnyH_take (i := 24) (v := _) rfl (by kernel_rfl) (by kernel_rfl) (by kernel_rfl) (fun _ _ _ h => h) (Or.inl ⟨by kernel_rfl, ?hgcz25⟩) (by assumption) ?rgcz25
                      case hgcz25 => intro W hW; obtain ⟨⟨c0, c1, c2⟩, d0, d1⟩ := hW; go_simp; all_goals with_reducible rfl
                      change wpAnyH _ _ _ _ _ _ _ (Act.put _ (some 122) _) _
                      simp only [Act.put, List.setIfInBounds_toArray, List.set_cons_zero, List.set_cons_succ]
                      refine' wpAnyH_take (i := 25) (v := _) rfl (by kernel_rfl) (by kernel_rfl) (by kernel_rfl) (fun _ _ _ h => h) (Or.inl ⟨by kernel_rfl, ?hgcz26⟩) (by assumption) ?rgcz26
                      case hgcz26 => intro W hW; obtain ⟨⟨c0, c1, c2⟩, d0, d1⟩ := hW; go_simp; all_goals with_reducible rfl
                      change wpAnyH _ _ _ _ _ _ _ (Act.put _ (some 11) _) _
                      simp only [Act.put, List.setIfInBounds_toArray, List.set_cons_zero, List.set_cons_succ]
                      refine wpAnyH_done (by kernel_rfl) ?_ _
                      have HN2 : Hid _ := hN
                      clear hN hHeld HS hbd
                      go_wp2
                      go_roundg (D.cache.length - (j + 1))
                      case measure => omega
                      case rel => exact ⟨j + 1, false, by omega, rfl, rfl, by go_num, (fun h => ⟨HNE.out, fun jj hjj hlt hp => (Nat.lt_or_ge jj j).elim (fun e => HNO.out jj hjj e hp) (fun e => by obtain rfl : jj = j := (by omega); exact absurd hp HPK.out)⟩), HN2.out⟩
                · have hjz : ¬ (j : Int) < (D.cache.length : Int) := by omega
                  have hmt : mb = true := by
                    cases hmb : mb with
                    | true => rfl
                    | false =>
                      obtain ⟨hne, hno⟩ := HMB.out hmb
                      rcases HT.out k HLT.out with h | ⟨jj, hjj, h1, qq, h2⟩
                      · rw [HG1.out, HG2.out] at h
                        exact absurd (Option.some.inj h) hne
                      · rw [HG1.out] at h2
                        have e : t1 = (D.cache[jj]).2.take qq := Option.some.inj h2
                        exact absurd (by rw [e]; exact heads_take _ _) (hno jj hjj (by omega) h1)
                  subst hmt
                  have HN2 : Hid _ := hN
                  clear hN HMB hlj hj
                  go_wp2
                  go_roundg (D.secs.length - (k + 1))
                  case measure => have := HLT.out; omega
                  case rel => exact ⟨k + 1, by have := HLT.out; omega, rfl, by go_num, HN2.out⟩
        · have hkz : ¬ (k : Int) < (D.secs.length : Int) := by omega
          have hS1 := says_is (implDiskOk_any _ D1 wr hN.k4 HFF.out.2.1) true (by simp [HFF.out.2.2])
          have x0 : wr.cell? ⟨X4, 0, none⟩ = some (.slice xsa D1.secs.length xsc) := hN.x4.cell 0
          have x1 : wr.cell? ⟨X4, 1, none⟩ = some (.slice xca D1.cache.length xcc) := hN.x4.cell 1
          have x2 : wr.cell? ⟨X4, 2, none⟩ = some (.int .i64 D1.ops) := hN.x4.cell 2
          have x3 : wr.cell? ⟨X4, 3, none⟩ = some (.slice xfa D1.faults.length xfc) := hN.x4.cell 3
          have x4 : wr.cell? ⟨X4, 4, none⟩ = some (.bool D1.down) := hN.x4.cell 4
          have HN : Hid _ := hN
          clear hN hlt hk
          rcases HDN.out with hdn | hop
          · rw [hdn] at x4 hS1
            clear hdn
            go_wp2_with fail
            refine hS1.mono ?_
            rintro e wa ⟨rfl, hba⟩
            have hN := HN.out.on hba
            have y4 : wa.cell? ⟨X4, 4, none⟩ = some (.bool true) := by rw [hba.cell (HN.out.x4.lt)]; exact x4
            have HB : Hid (Below w.heap.size w wa) := hN.below
            clear hS1 hba HN hN s0 s1 s2 s3 s4 x0 x1 x2 x3 x4
            go_wp2
            go_ret
            exact ⟨rfl, HB.out⟩
          · have hopz : decide ((100000 : Int) ≤ D.ops) = true := by simp [hop]
            go_wp2_with fail
            refine hS1.mono ?_
            rintro e wa ⟨rfl, hba⟩
            have hN := HN.out.on hba
            have y4 : wa.cell? ⟨X4, 4, none⟩ = some (.bool D1.down) := hN.x4.cell 4
            have y2 : wa.cell? ⟨X3, 2, none⟩ = some (.int .i64 D.ops) := hN.x3.cell 2
            have HB : Hid (Below w.heap.size w wa) := hN.below
            clear hS1 hba HN hN s0 s1 s2 s3 s4 x0 x1 x2 x3 x4
            generalize D1.down = dn at y4 ⊢
            cases dn with
            | true =>
              go_wp2
              go_ret
              exact ⟨rfl, HB.out⟩
            | false =>
              go_wp2
              go_ret
              exact ⟨rfl, HB.out⟩
    · subst hc0
      have HCM : Hid (∀ i, i < D.secs.length → D1.secs[i]? = some (readB D i)) := hcalm
      clear hcalm
      go_wp2_with fail
      go_loopg [8] D.secs.length (fun q i wr => ∃ k : Nat, k ≤ D.secs.length ∧ q = D.secs.length - k ∧ i = .int .i64 k ∧ DFk w X3 X4 [.slice dsa D.secs.length dsc, .slice dca D.cache.length dcc, .int .i64 D.ops, .slice dfa D.faults.length dfc, .bool D.down] [.slice xsa D1.secs.length xsc, .slice xca D1.cache.length xcc, .int .i64 D1.ops, .slice xfa D1.faults.length xfc, .bool D1.down] (.agg #[.slice dsa D.secs.length dsc, .slice dca D.cache.length dcc, .int .i64 D.ops, .slice dfa D.faults.length dfc, .bool D.down]) (.agg #[.slice xsa D1.secs.length xsc, .slice xca D1.cache.length xcc, .int .i64 D1.ops, .slice xfa D1.faults.length xfc, .bool D1.down]) D D1 wr)
      case atStart => exact ⟨0, Nat.zero_le _, rfl, rfl, HN.out⟩
      case round =>
        clear HN
        obtain ⟨k, hk, rfl, rfl, hN⟩ := hrel
        have s0 : wr.cell? ⟨X3, 0, none⟩ = some (.slice dsa D.secs.length dsc) := hN.x3.cell 0
        have s1 : wr.cell? ⟨X3, 1, none⟩ = some (.slice dca D.cache.length dcc) := hN.x3.cell 1
        have s2 : wr.cell? ⟨X3, 2, none⟩ = some (.int .i64 D.ops) := hN.x3.cell 2
        have s3 : wr.cell? ⟨X3, 3, none⟩ = some (.slice dfa D.faults.length dfc) := hN.x3.cell 3
        have s4 : wr.cell? ⟨X3, 4, none⟩ = some (.bool D.down) := hN.x3.cell 4
        by_cases hlt : k < D.secs.length
        · have hkz : (k : Int) < (D.secs.length : Int) := by omega
          have hkz1 : (k : Int) < (D1.secs.length : Int) := by have := HSL.out; omega
          have hkl1 : k < D1.secs.length := by have := HSL.out; omega
          obtain ⟨y, hy⟩ := hidEx (readB D k)
          obtain ⟨hh, hhh⟩ := hidEx (hasB D k)
          have hyl := readB_len HFF.out.1 k
          have hR := (implReadSec_any _ D k wr hN.k3 HFF.out.1).mono (fun _ _ h => h.bto)
          rw [hy.out, hhh.out] at hR
          rw [hy.out] at hyl
          have HYk : Hid (readB D k = y) := hy.out
          go_wp2_with fail
          refine hR.mono ?_
          rintro e wx ⟨vr, rfl, hoz, hbx⟩
          clear hR s0 s1 s2 s3 s4
          replace hN := hN.on hbx
          obtain ⟨ra, rc, rfl, hvr⟩ := oz_view hoz
          clear hoz hbx hy hhh
          obtain ⟨b1, o1, a1, c1, ea1, hb1, p1, v1, -⟩ := sview_at (sec_of hN.k4).1 hkl1
          obtain ⟨b2, o2, a2, c2, ea2, hb2, p2, v2, -⟩ := sview_at (sec_of hN.k3).1 hlt
          have EA1 : Hid _ := ea1
          have EA2 : Hid _ := ea2
          clear ea1 ea2
          have hn1 : (D1.secs[k]).length ≤ 1048576 := HFF.out.2.1.sec _ (List.getElem_mem hkl1)
          have hn2 : (D.secs[k]).length ≤ 1048576 := HFF.out.1.sec _ (List.getElem_mem hlt)
          have HG1 : Hid (D1.secs[k]? = some (D1.secs[k])) := List.getElem?_eq_getElem hkl1
          have HG2 : Hid (D.secs[k]? = some (D.secs[k])) := List.getElem?_eq_getElem hlt
          obtain ⟨t1, ht1⟩ := hidEx (D1.secs[k])
          obtain ⟨t2, ht2⟩ := hidEx (D.secs[k])
          rw [ht1.out] at p1 v1 hn1 HG1
          rw [ht2.out] at p2 v2 hn2 HG2
          obtain ⟨qa, hqa⟩ := hidEx (decide (lof t1.length (bf t1) = lof t2.length (bf t2)))
          obtain ⟨qb, hqb⟩ := hidEx (decide (lof t1.length (bf t1) = lof y.length (bf y)))
          have hs1 := fun W (hW : Below wx.heap.size wx W) => sameBytes_any a1 a2 t1.length t2.length c1 c2 (bf t1) (bf t2) W (v1.below hW) (v2.below hW) (by omega) (by omega)
          have hs2 := fun W (hW : Below wx.heap.size wx W) => sameBytes_any a1 ra t1.length y.length c1 rc (bf t1) (bf y) W (v1.below hW) (hvr.below hW) (by omega) (by omega)
          simp only [hqa.out] at hs1
          simp only [hqb.out] at hs2
          have HQA : Hid (qa = true ↔ t1 = t2) := by
            show _ ↔ _
            rw [← hqa.out, lof_bf, lof_bf]; simp
          have HQB : Hid (qb = true ↔ t1 = y) := by
            show _ ↔ _
            rw [← hqb.out, lof_bf, lof_bf]; simp
          obtain ⟨n1, hn1e⟩ := hidEx t1.length
          obtain ⟨n2, hn2e⟩ := hidEx t2.length
          simp only [hn1e.out] at p1 hs1 hs2
          simp only [hn2e.out] at p2 hs1
          clear v1 v2 hvr hn1 hn2 hqa hqb hyl ht1 ht2 hn1e hn2e hkl1
          obtain ⟨wr2, hwr2⟩ : ∃ x, x = wx := ⟨_, rfl⟩
          rw [← hwr2] at hN hb1 hb2 p1 p2 hs1 hs2 ⊢
          clear hwr2
          have HLT : Hid (k < D.secs.length) := hlt
          have hqt : qb = true := by
            refine HQB.out.2 ?_
            have := HCM.out k hlt
            rw [HG1.out, HYk.out] at this
            exact Option.some.inj this
          subst hqt
          cases qa with
          | true =>
            go_wp2_with fail
            have HS : Hid (∀ W, Below wr2.heap.size wr2 W → (W.cell? ⟨X4, 0, none⟩ = some (.slice (some ⟨b1, o1, none⟩) D1.secs.length xsc) ∧ W.cell? ⟨X3, 0, none⟩ = some (.slice (some ⟨b2, o2, none⟩) D.secs.length dsc)) ∧ W.cell? ⟨b1, o1 + k, none⟩ = some (.slice a1 n1 c1) ∧ W.cell? ⟨b2, o2 + k, none⟩ = some (.slice a2 n2 c2)) := fun W hW => ⟨⟨by rw [← EA1.out]; exact (hN.x4.below hW).cell 0, by rw [← EA2.out]; exact (hN.x3.below hW).cell 0⟩, by rw [hW.cell hb1]; exact p1, by rw [hW.cell hb2]; exact p2⟩
            have hbd : Below wr2.heap.size wr2 wr2.drew := (Below.refl _ _).drew
            replace hN := hN.on hbd
            refine wp_region_held_drew (S := fun W => (W.cell? ⟨X4, 0, none⟩ = some (.slice (some ⟨b1, o1, none⟩) D1.secs.length xsc) ∧ W.cell? ⟨X3, 0, none⟩ = some (.slice (some ⟨b2, o2, none⟩) D.secs.length dsc)) ∧ W.cell? ⟨b1, o1 + k, none⟩ = some (.slice a1 n1 c1) ∧ W.cell? ⟨b2, o2 + k, none⟩ = some (.slice a2 n2 c2)) (by kernel_rfl) (HS.out _ hbd) (fun hHeld => ?_)
            obtain ⟨wd, hwd⟩ := hidEx wr2.drew
            rw [hwd.out] at hN hbd hHeld ⊢
            clear hwd p1 p2
            refine' wpAnyH_take (i := 0) (v := _) rfl (by kernel_rfl) (by kernel_rfl) (by kernel_rfl) (fun _ _ _ h => h) (Or.inl ⟨by kernel_rfl, ?hfd1⟩) (by assumption) ?rfd1
            case hfd1 => intro W hW; obtain ⟨⟨c0, c1⟩, d0, d1⟩ := hW; go_simp; all_goals with_reducible rfl
            change wpAnyH _ _ _ _ _ _ _ (Act.put _ (some 59) _) _
            simp only [Act.put, List.setIfInBounds_toArray, List.set_cons_zero, List.set_cons_succ]
            refine' wpAnyH_take (i := 1) (v := _) rfl (by kernel_rfl) (by kernel_rfl) (by kernel_rfl) (fun _ _ _ h => h) (Or.inl ⟨by kernel_rfl, ?hfd2⟩) (by assumption) ?rfd2
            case hfd2 => intro W hW; obtain ⟨⟨c0, c1⟩, d0, d1⟩ := hW; go_simp; all_goals with_reducible rfl
            change wpAnyH _ _ _ _ _ _ _ (Act.put _ (some 60) _) _
            simp only [Act.put, List.setIfInBounds_toArray, List.set_cons_zero, List.set_cons_succ]
            refine' wpAnyH_take (i := 2) (v := _) rfl (by kernel_rfl) (by kernel_rfl) (by kernel_rfl) (fun _ _ _ h => h) (Or.inl ⟨by kernel_rfl, ?hfd3⟩) (by assumption) ?rfd3
            case hfd3 => intro W hW; obtain ⟨⟨c0, c1⟩, d0, d1⟩ := hW; go_simp; all_goals with_reducible rfl
            change wpAnyH _ _ _ _ _ _ _ (Act.put _ (some 61) _) _
            simp only [Act.put, List.setIfInBounds_toArray, List.set_cons_zero, List.set_cons_succ]
            refine' wpAnyH_take (i := 3) (v := _) rfl (by kernel_rfl) (by kernel_rfl) (by kernel_rfl) (fun _ _ _ h => h) (Or.inl ⟨by kernel_rfl, ?hfd4⟩) (by assumption) ?rfd4
            case hfd4 => intro W hW; obtain ⟨⟨c0, c1⟩, d0, d1⟩ := hW; go_simp; all_goals with_reducible rfl
            change wpAnyH _ _ _ _ _ _ _ (Act.put _ (some 62) _) _
            simp only [Act.put, List.setIfInBounds_toArray, List.set_cons_zero, List.set_cons_succ]
            refine' wpAnyH_take (i := 4) (v := _) rfl (by kernel_rfl) (by kernel_rfl) (by kernel_rfl) (fun _ _ _ h => h) (Or.inl ⟨by kernel_rfl, ?hfd5⟩) (by assumption) ?rfd5
            case hfd5 => intro W hW; obtain ⟨⟨c0, c1⟩, d0, d1⟩ := hW; go_simp; all_goals with_reducible rfl
            change wpAnyH _ _ _ _ _ _ _ (Act.put _ (some 63) _) _
            simp only [Act.put, List.setIfInBounds_toArray, List.set_cons_zero, List.set_cons_succ]
            refine' wpAnyH_take (i := 5) (v := _) rfl (by kernel_rfl) (by kernel_rfl) (by kernel_rfl) (fun _ _ _ h => h) (Or.inl ⟨by kernel_rfl, ?hfd6⟩) (by assumption) ?rfd6
            case hfd6 => intro W hW; obtain ⟨⟨c0, c1⟩, d0, d1⟩ := hW; go_simp; all_goals with_reducible rfl
            change wpAnyH _ _ _ _ _ _ _ (Act.put _ (some 64) _) _
            simp only [Act.put, List.setIfInBounds_toArray, List.set_cons_zero, List.set_cons_succ]
            refine' wpAnyH_take (i := 6) (v := _) rfl (by kernel_rfl) (by kernel_rfl) (by kernel_rfl) (fun _ _ _ h => h) (Or.inl ⟨by kernel_rfl, ?hfd7⟩) (by assumption) ?rfd7
            case hfd7 => intro W hW; obtain ⟨⟨c0, c1⟩, d0, d1⟩ := hW; go_simp; all_goals with_reducible rfl
            change wpAnyH _ _ _ _ _ _ _ (Act.put _ (some 65) _) _
            simp only [Act.put, List.setIfInBounds_toArray, List.set_cons_zero, List.set_cons_succ]
            refine' wpAnyH_take (i := 7) (v := _) rfl (by kernel_rfl) (by kernel_rfl) (by kernel_rfl) (fun _ _ _ h => h) (Or.inl ⟨by kernel_rfl, ?hfd8⟩) (by assumption) ?rfd8
            case hfd8 => intro W hW; obtain ⟨⟨c0, c1⟩, d0, d1⟩ := hW; go_simp; all_goals with_reducible rfl
            change wpAnyH _ _ _ _ _ _ _ (Act.put _ (some 66) _) _
            simp only [Act.put, List.setIfInBounds_toArray, List.set_cons_zero, List.set_cons_succ]
            refine' wpAnyH_take (i := 8) (v := _) rfl (by kernel_rfl) (by kernel_rfl) (by kernel_rfl) (fun _ _ _ h => h) (Or.inl ⟨by kernel_rfl, ?hfd9⟩) (by assumption) ?rfd9
            case hfd9 => intro W hW; obtain ⟨⟨c0, c1⟩, d0, d1⟩ := hW; go_simp; all_goals with_reducible rfl
            change wpAnyH _ _ _ _ _ _ _ (Act.put _ (some 67) _) _
            simp only [Act.put, List.setIfInBounds_toArray, List.set_cons_zero, List.set_cons_succ]
            refine' wpAnyH_take (i := 9) (v := _) rfl (by kernel_rfl) (by kernel_rfl) (by kernel_rfl) (fun _ _ _ h => h) (Or.inl ⟨by kernel_rfl, ?hfd10⟩) (by assumption) ?rfd10
            case hfd10 => intro W hW; obtain ⟨⟨c0, c1⟩, d0, d1⟩ := hW; go_simp; all_goals with_reducible rfl
            change wpAnyH _ _ _ _ _ _ _ (Act.put _ (some 68) _) _
            simp only [Act.put, List.setIfInBounds_toArray, List.set_cons_zero, List.set_cons_succ]
            refine wpAnyH_ready (rs := [10]) (by kernel_rfl) (by simp) ?_
            refine AllReadyH.cons rfl (fun KK hK => ?_) AllReadyH.nil
            go_simp
            refine (hs1 wd hbd).mono ?_
            rintro e wf ⟨rfl, hbf⟩
            have hN2 := hN.on hbf
            have hbd2 := hbd.trans (hbf.mono hbd.size)
            have hHf : (wf.cell? ⟨X4, 0, none⟩ = some (.slice (some ⟨b1, o1, none⟩) D1.secs.length xsc) ∧ wf.cell? ⟨X3, 0, none⟩ = some (.slice (some ⟨b2, o2, none⟩) D.secs.length dsc)) ∧ wf.cell? ⟨b1, o1 + k, none⟩ = some (.slice a1 n1 c1) ∧ wf.cell? ⟨b2, o2 + k, none⟩ = some (.slice a2 n2 c2) := HS.out wf hbd2
            clear hHeld hN hbd hbf hs1
            go_wp2_with fail
            refine hK.out _ _ hHf (fun hHeld => ?_)
            have hN := hN2
            have hbd := hbd2
            clear hN2 hbd2
            clear hK KK
            try simp only [Act.put, List.setIfInBounds_toArray, List.set_cons_zero, List.set_cons_succ]
            refine' wpAnyH_take (i := 11) (v := _) rfl (by kernel_rfl) (by kernel_rfl) (by kernel_rfl) (fun _ _ _ h => h) (Or.inl ⟨by kernel_rfl, ?hfd11⟩) (by assumption) ?rfd11
            case hfd11 => intro W hW; obtain ⟨⟨c0, c1⟩, d0, d1⟩ := hW; go_simp; all_goals with_reducible rfl
            change wpAnyH _ _ _ _ _ _ _ (Act.put _ (some 70) _) _
            simp only [Act.put, List.setIfInBounds_toArray, List.set_cons_zero, List.set_cons_succ]
            refine' wpAnyH_take (i := 12) (v := _) rfl (by kernel_rfl) (by kernel_rfl) (by kernel_rfl) (fun _ _ _ h => h) (Or.inl ⟨by kernel_rfl, ?hfd12⟩) (by assumption) ?rfd12
            case hfd12 => intro W hW; obtain ⟨⟨c0, c1⟩, d0, d1⟩ := hW; go_simp; all_goals with_reducible rfl
            change wpAnyH _ _ _ _ _ _ _ (Act.put _ (some 71) _) _
            simp only [Act.put, List.setIfInBounds_toArray, List.set_cons_zero, List.set_cons_succ]
            refine' wpAnyH_take (i := 13) (v := _) rfl (by kernel_rfl) (by kernel_rfl) (by kernel_rfl) (fun _ _ _ h => h) (Or.inl ⟨by kernel_rfl, ?hfd13⟩) (by assumption) ?rfd13
            case hfd13 => intro W hW; obtain ⟨⟨c0, c1⟩, d0, d1⟩ := hW; go_simp; all_goals with_reducible rfl
            change wpAnyH _ _ _ _ _ _ _ (Act.put _ (some 72) _) _
            simp only [Act.put, List.setIfInBounds_toArray, List.set_cons_zero, List.set_cons_succ]
            refine' wpAnyH_take (i := 14) (v := _) rfl (by kernel_rfl) (by kernel_rfl) (by kernel_rfl) (fun _ _ _ h => h) (Or.inl ⟨by kernel_rfl, ?hfd14⟩) (by assumption) ?rfd14
            case hfd14 => intro W hW; obtain ⟨⟨c0, c1⟩, d0, d1⟩ := hW; go_simp; all_goals with_reducible rfl
            change wpAnyH _ _ _ _ _ _ _ (Act.put _ (some 73) _) _
            simp only [Act.put, List.setIfInBounds_toArray, List.set_cons_zero, List.set_cons_succ]
            refine' wpAnyH_take (i := 15) (v := _) rfl (by kernel_rfl) (by kernel_rfl) (by kernel_rfl) (fun _ _ _ h => h) (Or.inl ⟨by kernel_rfl, ?hfd15⟩) (by assumption) ?rfd15
            case hfd15 => intro W hW; obtain ⟨⟨c0, c1⟩, d0, d1⟩ := hW; go_simp; all_goals with_reducible rfl
            change wpAnyH _ _ _ _ _ _ _ (Act.put _ (some 74) _) _
            simp only [Act.put, List.setIfInBounds_toArray, List.set_cons_zero, List.set_cons_succ]
            refine' wpAnyH_take (i := 16) (v := _) rfl (by kernel_rfl) (by kernel_rfl) (by kernel_rfl) (fun _ _ _ h => h) (Or.inl ⟨by kernel_rfl, ?hfd16⟩) (by assumption) ?rfd16
            case hfd16 => intro W hW; obtain ⟨⟨c0, c1⟩, d0, d1⟩ := hW; go_simp; all_goals with_reducible rfl
            change wpAnyH _ _ _ _ _ _ _ (Act.put _ (some 75) _) _
            simp only [Act.put, List.setIfInBounds_toArray, List.set_cons_zero, List.set_cons_succ]
            refine' wpAnyH_take (i := 17) (v := _) rfl (by kernel_rfl) (by kernel_rfl) (by kernel_rfl) (fun _ _ _ h => h) (Or.inl ⟨by kernel_rfl, ?hfd17⟩) (by assumption) ?rfd17
            case hfd17 => intro W hW; obtain ⟨⟨c0, c1⟩, d0, d1⟩ := hW; go_simp; all_goals with_reducible rfl
            change wpAnyH _ _ _ _ _ _ _ (Act.put _ (some 76) _) _
            simp only [Act.put, List.setIfInBounds_toArray, List.set_cons_zero, List.set_cons_succ]
            refine' wpAnyH_take (i := 18) (v := _) rfl (by kernel_rfl) (by kernel_rfl) (by kernel_rfl) (fun _ _ _ h => h) (Or.inl ⟨by kernel_rfl, ?hfd18⟩) (by assumption) ?rfd18
            case hfd18 => intro W hW; obtain ⟨⟨c0, c1⟩, d0, d1⟩ := hW; go_simp; all_goals with_reducible rfl
            change wpAnyH _ _ _ _ _ _ _ (Act.put _ (some 77) _) _
            simp only [Act.put, List.setIfInBounds_toArray, List.set_cons_zero, List.set_cons_succ]
            refine' wpAnyH_take (i := 19) (v := _) rfl (by kernel_rfl) (by kernel_rfl) (by kernel_rfl) (fun _ _ _ h => h) (Or.inl ⟨by kernel_rfl, ?hfd19⟩) (by assumption) ?rfd19
            case hfd19 => intro W hW; obtain ⟨⟨c0, c1⟩, d0, d1⟩ := hW; go_simp; all_goals with_reducible rfl
            change wpAnyH _ _ _ _ _ _ _ (Act.put _ (some 78) _) _
            simp only [Act.put, List.setIfInBounds_toArray, List.set_cons_zero, List.set_cons_succ]
            refine' wpAnyH_take (i := 20) (v := _) rfl (by kernel_rfl) (by kernel_rfl) (by kernel_rfl) (fun _ _ _ h => h) (Or.inl ⟨by kernel_rfl, ?hfd20⟩) (by assumption) ?rfd20
            case hfd20 => intro W hW; obtain ⟨⟨c0, c1⟩, d0, d1⟩ := hW; go_simp; all_goals with_reducible rfl
            change wpAnyH _ _ _ _ _ _ _ (Act.put _ (some 79) _) _
            simp only [Act.put, List.setIfInBounds_toArray, List.set_cons_zero, List.set_cons_succ]
            refine' wpAnyH_take (i := 21) (v := _) rfl (by kernel_rfl) (by kernel_rfl) (by kernel_rfl) (fun _ _ _ h => h) (Or.inl ⟨by kernel_rfl, ?hfd21⟩) (by assumption) ?rfd21
            case hfd21 => intro W hW; obtain ⟨⟨c0, c1⟩, d0, d1⟩ := hW; go_simp; all_goals with_reducible rfl
            change wpAnyH _ _ _ _ _ _ _ (Act.put _ (some 80) _) _
            simp only [Act.put, List.setIfInBounds_toArray, List.set_cons_zero, List.set_cons_succ]
            refine wpAnyH_ready (rs := [22]) (by kernel_rfl) (by simp) ?_
            refine AllReadyH.cons rfl (fun KK hK => ?_) AllReadyH.nil
            go_simp
            refine (hs2 wf hbd).mono ?_
            rintro e wg ⟨rfl, hbg⟩
            have hN2 := hN.on hbg
            have hbd2 := hbd.trans (hbg.mono hbd.size)
            have hHg : (wg.cell? ⟨X4, 0, none⟩ = some (.slice (some ⟨b1, o1, none⟩) D1.secs.length xsc) ∧ wg.cell? ⟨X3, 0, none⟩ = some (.slice (some ⟨b2, o2, none⟩) D.secs.length dsc)) ∧ wg.cell? ⟨b1, o1 + k, none⟩ = some (.slice a1 n1 c1) ∧ wg.cell? ⟨b2, o2 + k, none⟩ = some (.slice a2 n2 c2) := HS.out wg hbd2
            clear hHeld hN hbd hbg hs2 hHf
            go_wp2_with fail
            refine hK.out _ _ hHg (fun hHeld => ?_)
            have hN := hN2
            have hbd := hbd2
            clear hN2 hbd2
            clear hK KK
            try simp only [Act.put, List.setIfInBounds_toArray, List.set_cons_zero, List.set_cons_succ]
            refine' wpAnyH_take (i := 23) (v := _) rfl (by kernel_rfl) (by kernel_rfl) (by kernel_rfl) (fun _ _ _ h => h) (Or.inl ⟨by kernel_rfl, ?hfd22⟩) (by assumption) ?rfd22
            case hfd22 => intro W hW; obtain ⟨⟨c0, c1⟩, d0, d1⟩ := hW; go_simp; all_goals with_reducible rfl
            change wpAnyH _ _ _ _ _ _ _ (Act.put _ (some 82) _) _
            simp only [Act.put, List.setIfInBounds_toArray, List.set_cons_zero, List.set_cons_succ]
            refine' wpAnyH_take (i := 24) (v := _) rfl (by kernel_rfl) (by kernel_rfl) (by kernel_rfl) (fun _ _ _ h => h) (Or.inl ⟨by kernel_rfl, ?hfd23⟩) (by assumption) ?rfd23
            case hfd23 => intro W hW; obtain ⟨⟨c0, c1⟩, d0, d1⟩ := hW; go_simp; all_goals with_reducible rfl
            change wpAnyH _ _ _ _ _ _ _ (Act.put _ (some 83) _) _
            simp only [Act.put, List.setIfInBounds_toArray, List.set_cons_zero, List.set_cons_succ]
            refine' wpAnyH_take (i := 25) (v := _) rfl (by kernel_rfl) (by kernel_rfl) (by kernel_rfl) (fun _ _ _ h => h) (Or.inl ⟨by kernel_rfl, ?hfd24⟩) (by assumption) ?rfd24
            case hfd24 => intro W hW; obtain ⟨⟨c0, c1⟩, d0, d1⟩ := hW; go_simp; all_goals with_reducible rfl
            change wpAnyH _ _ _ _ _ _ _ (Act.put _ (some 84) _) _
            simp only [Act.put, List.setIfInBounds_toArray, List.set_cons_zero, List.set_cons_succ]
            refine' wpAnyH_take (i := 26) (v := _) rfl (by kernel_rfl) (by kernel_rfl) (by kernel_rfl) (fun _ _ _ h => h) (Or.inl ⟨by kernel_rfl, ?hfd25⟩) (by assumption) ?rfd25
            case hfd25 => intro W hW; obtain ⟨⟨c0, c1⟩, d0, d1⟩ := hW; go_simp; all_goals with_reducible rfl
            change wpAnyH _ _ _ _ _ _ _ (Act.put _ (some 85) _) _
            simp only [Act.put, List.setIfInBounds_toArray, List.set_cons_zero, List.set_cons_succ]
            refine' wpAnyH_take (i := 27) (v := _) rfl (by kernel_rfl) (by kernel_rfl) (by kernel_rfl) (fun _ _ _ h => h) (Or.inl ⟨by kernel_rfl, ?hfd26⟩) (by assumption) ?rfd26
            case hfd26 => intro W hW; obtain ⟨⟨c0, c1⟩, d0, d1⟩ := hW; go_simp; all_goals with_reducible rfl
            change wpAnyH _ _ _ _ _ _ _ (Act.put _ (some 86) _) _
            simp only [Act.put, List.setIfInBounds_toArray, List.set_cons_zero, List.set_cons_succ]
            refine' wpAnyH_take (i := 28) (v := _) rfl (by kernel_rfl) (by kernel_rfl) (by kernel_rfl) (fun _ _ _ h => h) (Or.inl ⟨by kernel_rfl, ?hfd27⟩) (by assumption) ?rfd27
            case hfd27 => intro W hW; obtain ⟨⟨c0, c1⟩, d0, d1⟩ := hW; go_simp; all_goals with_reducible rfl
            change wpAnyH _ _ _ _ _ _ _ (Act.put _ (some 11) _) _
            simp only [Act.put, List.setIfInBounds_toArray, List.set_cons_zero, List.set_cons_succ]
            refine wpAnyH_done (by kernel_rfl) ?_ _
            have HN : Hid _ := hN
            clear hN hHeld hHg hbd HS
            go_wp2
            go_loopg [11, 12] 0 (fun q m i wr => q = 0 ∧ m = .bool true ∧ i = .int .i64 0 ∧ DFk w X3 X4 [.slice dsa D.secs.length dsc, .slice dca D.cache.length dcc, .int .i64 D.ops, .slice dfa D.faults.length dfc, .bool D.down] [.slice xsa D1.secs.length xsc, .slice xca D1.cache.length xcc, .int .i64 D1.ops, .slice xfa D1.faults.length xfc, .bool D1.down] (.agg #[.slice dsa D.secs.length dsc, .slice dca D.cache.length dcc, .int .i64 D.ops, .slice dfa D.faults.length dfc, .bool D.down]) (.agg #[.slice xsa D1.secs.length xsc, .slice xca D1.cache.length xcc, .int .i64 D1.ops, .slice xfa D1.faults.length xfc, .bool D1.down]) D D1 wr)
            case atStart => exact ⟨rfl, rfl, rfl, HN.out⟩
            case round =>
              clear HN
              obtain ⟨rfl, rfl, rfl, hN⟩ := hrel
              have s1 : wr.cell? ⟨X3, 1, none⟩ = some (.slice dca D.cache.length dcc) := hN.x3.cell 1
              have HN2 : Hid _ := hN
              clear hN
              by_cases hc0 : (0 : Int) < (D.cache.length : Int)
              · go_wp2
                go_roundg (D.secs.length - (k + 1))
                case measure => have := HLT.out; omega
                case rel => exact ⟨k + 1, by have := HLT.out; omega, rfl, by go_num, HN2.out⟩
              · go_wp2
                go_roundg (D.secs.length - (k + 1))
                case measure => have := HLT.out; omega
                case rel => exact ⟨k + 1, by have := HLT.out; omega, rfl, by go_num, HN2.out⟩
          | false =>
            go_wp2_with fail
            have HS : Hid (∀ W, Below wr2.heap.size wr2 W → (W.cell? ⟨X4, 0, none⟩ = some (.slice (some ⟨b1, o1, none⟩) D1.secs.length xsc) ∧ W.cell? ⟨X3, 0, none⟩ = some (.slice (some ⟨b2, o2, none⟩) D.secs.length dsc)) ∧ W.cell? ⟨b1, o1 + k, none⟩ = some (.slice a1 n1 c1) ∧ W.cell? ⟨b2, o2 + k, none⟩ = some (.slice a2 n2 c2)) := fun W hW => ⟨⟨by rw [← EA1.out]; exact (hN.x4.below hW).cell 0, by rw [← EA2.out]; exact (hN.x3.below hW).cell 0⟩, by rw [hW.cell hb1]; exact p1, by rw [hW.cell hb2]; exact p2⟩
            have hbd : Below wr2.heap.size wr2 wr2.drew := (Below.refl _ _).drew
            replace hN := hN.on hbd
            refine wp_region_held_drew (S := fun W => (W.cell? ⟨X4, 0, none⟩ = some (.slice (some ⟨b1, o1, none⟩) D1.secs.length xsc) ∧ W.cell? ⟨X3, 0, none⟩ = some (.slice (some ⟨b2, o2, none⟩) D.secs.length dsc)) ∧ W.cell? ⟨b1, o1 + k, none⟩ = some (.slice a1 n1 c1) ∧ W.cell? ⟨b2, o2 + k, none⟩ = some (.slice a2 n2 c2)) (by kernel_rfl) (HS.out _ hbd) (fun hHeld => ?_)
            obtain ⟨wd, hwd⟩ := hidEx wr2.drew
            rw [hwd.out] at hN hbd hHeld ⊢
            clear hwd p1 p2
            refine' wpAnyH_take (i := 0) (v := _) rfl (by kernel_rfl) (by kernel_rfl) (by kernel_rfl) (fun _ _ _ h => h) (Or.inl ⟨by kernel_rfl, ?hfe1⟩) (by assumption) ?rfe1
            case hfe1 => intro W hW; obtain ⟨⟨c0, c1⟩, d0, d1⟩ := hW; go_simp; all_goals with_reducible rfl
            change wpAnyH _ _ _ _ _ _ _ (Act.put _ (some 59) _) _
            simp only [Act.put, List.setIfInBounds_toArray, List.set_cons_zero, List.set_cons_succ]
            refine' wpAnyH_take (i := 1) (v := _) rfl (by kernel_rfl) (by kernel_rfl) (by kernel_rfl) (fun _ _ _ h => h) (Or.inl ⟨by kernel_rfl, ?hfe2⟩) (by assumption) ?rfe2
            case hfe2 => intro W hW; obtain ⟨⟨c0, c1⟩, d0, d1⟩ := hW; go_simp; all_goals with_reducible rfl
            change wpAnyH _ _ _ _ _ _ _ (Act.put _ (some 60) _) _
            simp only [Act.put, List.setIfInBounds_toArray, List.set_cons_zero, List.set_cons_succ]
            refine' wpAnyH_take (i := 2) (v := _) rfl (by kernel_rfl) (by kernel_rfl) (by kernel_rfl) (fun _ _ _ h => h) (Or.inl ⟨by kernel_rfl, ?hfe3⟩) (by assumption) ?rfe3
            case hfe3 => intro W hW; obtain ⟨⟨c0, c1⟩, d0, d1⟩ := hW; go_simp; all_goals with_reducible rfl
            change wpAnyH _ _ _ _ _ _ _ (Act.put _ (some 61) _) _
            simp only [Act.put, List.setIfInBounds_toArray, List.set_cons_zero, List.set_cons_succ]
            refine' wpAnyH_take (i := 3) (v := _) rfl (by kernel_rfl) (by kernel_rfl) (by kernel_rfl) (fun _ _ _ h => h) (Or.inl ⟨by kernel_rfl, ?hfe4⟩) (by assumption) ?rfe4
            case hfe4 => intro W hW; obtain ⟨⟨c0, c1⟩, d0, d1⟩ := hW; go_simp; all_goals with_reducible rfl
            change wpAnyH _ _ _ _ _ _ _ (Act.put _ (some 62) _) _
            simp only [Act.put, List.setIfInBounds_toArray, List.set_cons_zero, List.set_cons_succ]
            refine' wpAnyH_take (i := 4) (v := _) rfl (by kernel_rfl) (by kernel_rfl) (by kernel_rfl) (fun _ _ _ h => h) (Or.inl ⟨by kernel_rfl, ?hfe5⟩) (by assumption) ?rfe5
            case hfe5 => intro W hW; obtain ⟨⟨c0, c1⟩, d0, d1⟩ := hW; go_simp; all_goals with_reducible rfl
            change wpAnyH _ _ _ _ _ _ _ (Act.put _ (some 63) _) _
            simp only [Act.put, List.setIfInBounds_toArray, List.set_cons_zero, List.set_cons_succ]
            refine' wpAnyH_take (i := 5) (v := _) rfl (by kernel_rfl) (by kernel_rfl) (by kernel_rfl) (fun _ _ _ h => h) (Or.inl ⟨by kernel_rfl, ?hfe6⟩) (by assumption) ?rfe6
            case hfe6 => intro W hW; obtain ⟨⟨c0, c1⟩, d0, d1⟩ := hW; go_simp; all_goals with_reducible rfl
            change wpAnyH _ _ _ _ _ _ _ (Act.put _ (some 64) _) _
            simp only [Act.put, List.setIfInBounds_toArray, List.set_cons_zero, List.set_cons_succ]
            refine' wpAnyH_take (i := 6) (v := _) rfl (by kernel_rfl) (by kernel_rfl) (by kernel_rfl) (fun _ _ _ h => h) (Or.inl ⟨by kernel_rfl, ?hfe7⟩) (by assumption) ?rfe7
            case hfe7 => intro W hW; obtain ⟨⟨c0, c1⟩, d0, d1⟩ := hW; go_simp; all_goals with_reducible rfl
            change wpAnyH _ _ _ _ _ _ _ (Act.put _ (some 65) _) _
            simp only [Act.put, List.setIfInBounds_toArray, List.set_cons_zero, List.set_cons_succ]
            refine' wpAnyH_take (i := 7) (v := _) rfl (by kernel_rfl) (by kernel_rfl) (by kernel_rfl) (fun _ _ _ h => h) (Or.inl ⟨by kernel_rfl, ?hfe8⟩) (by assumption) ?rfe8
            case hfe8 => intro W hW; obtain ⟨⟨c0, c1⟩, d0, d1⟩ := hW; go_simp; all_goals with_reducible rfl
            change wpAnyH _ _ _ _ _ _ _ (Act.put _ (some 66) _) _
            simp only [Act.put, List.setIfInBounds_toArray, List.set_cons_zero, List.set_cons_succ]
            refine' wpAnyH_take (i := 8) (v := _) rfl (by kernel_rfl) (by kernel_rfl) (by kernel_rfl) (fun _ _ _ h => h) (Or.inl ⟨by kernel_rfl, ?hfe9⟩) (by assumption) ?rfe9
            case hfe9 => intro W hW; obtain ⟨⟨c0, c1⟩, d0, d1⟩ := hW; go_simp; all_goals with_reducible rfl
            change wpAnyH _ _ _ _ _ _ _ (Act.put _ (some 67) _) _
            simp only [Act.put, List.setIfInBounds_toArray, List.set_cons_zero, List.set_cons_succ]
            refine' wpAnyH_take (i := 9) (v := _) rfl (by kernel_rfl) (by kernel_rfl) (by kernel_rfl) (fun _ _ _ h => h) (Or.inl ⟨by kernel_rfl, ?hfe10⟩) (by assumption) ?rfe10
            case hfe10 => intro W hW; obtain ⟨⟨c0, c1⟩, d0, d1⟩ := hW; go_simp; all_goals with_reducible rfl
            change wpAnyH _ _ _ _ _ _ _ (Act.put _ (some 68) _) _
            simp only [Act.put, List.setIfInBounds_toArray, List.set_cons_zero, List.set_cons_succ]
            refine wpAnyH_ready (rs := [10]) (by kernel_rfl) (by simp) ?_
            refine AllReadyH.cons rfl (fun KK hK => ?_) AllReadyH.nil
            go_simp
            refine (hs1 wd hbd).mono ?_
            rintro e wf ⟨rfl, hbf⟩
            have hN2 := hN.on hbf
            have hbd2 := hbd.trans (hbf.mono hbd.size)
            have hHf : (wf.cell? ⟨X4, 0, none⟩ = some (.slice (some ⟨b1, o1, none⟩) D1.secs.length xsc) ∧ wf.cell? ⟨X3, 0, none⟩ = some (.slice (some ⟨b2, o2, none⟩) D.secs.length dsc)) ∧ wf.cell? ⟨b1, o1 + k, none⟩ = some (.slice a1 n1 c1) ∧ wf.cell? ⟨b2, o2 + k, none⟩ = some (.slice a2 n2 c2) := HS.out wf hbd2
            clear hHeld hN hbd hbf hs1
            go_wp2_with fail
            refine hK.out _ _ hHf (fun hHeld => ?_)
            have hN := hN2
            have hbd := hbd2
            clear hN2 hbd2
            clear hK KK
            try simp only [Act.put, List.setIfInBounds_toArray, List.set_cons_zero, List.set_cons_succ]
            refine' wpAnyH_take (i := 11) (v := _) rfl (by kernel_rfl) (by kernel_rfl) (by kernel_rfl) (fun _ _ _ h => h) (Or.inl ⟨by kernel_rfl, ?hfe11⟩) (by assumption) ?rfe11
            case hfe11 => intro W hW; obtain ⟨⟨c0, c1⟩, d0, d1⟩ := hW; go_simp; all_goals with_reducible rfl
            change wpAnyH _ _ _ _ _ _ _ (Act.put _ (some 70) _) _
            simp only [Act.put, List.setIfInBounds_toArray, List.set_cons_zero, List.set_cons_succ]
            refine wpAnyH_take (i := 12) (v := undef) rfl (by kernel_rfl) (by kernel_rfl) (by kernel_rfl) (fun _ _ _ h => h) (Or.inr ⟨by kernel_rfl, rfl⟩) (by assumption) ?_
            change wpAnyH _ _ _ _ _ _ _ (Act.put _ (some 71) _) _
            simp only [Act.put, List.setIfInBounds_toArray, List.set_cons_zero, List.set_cons_succ]
            refine wpAnyH_take (i := 13) (v := undef) rfl (by kernel_rfl) (by kernel_rfl) (by kernel_rfl) (fun _ _ _ h => h) (Or.inr ⟨by kernel_rfl, rfl⟩) (by assumption) ?_
            change wpAnyH _ _ _ _ _ _ _ (Act.put _ (some 72) _) _
            simp only [Act.put, List.setIfInBounds_toArray, List.set_cons_zero, List.set_cons_succ]
            refine' wpAnyH_take (i := 14) (v := _) rfl (by kernel_rfl) (by kernel_rfl) (by kernel_rfl) (fun _ _ _ h => h) (Or.inl ⟨by kernel_rfl, ?hfe14⟩) (by assumption) ?rfe14
            case hfe14 => intro W hW; obtain ⟨⟨c0, c1⟩, d0, d1⟩ := hW; go_simp; all_goals with_reducible rfl
            change wpAnyH _ _ _ _ _ _ _ (Act.put _ (some 73) _) _
            simp only [Act.put, List.setIfInBounds_toArray, List.set_cons_zero, List.set_cons_succ]
            refine' wpAnyH_take (i := 15) (v := _) rfl (by kernel_rfl) (by kernel_rfl) (by kernel_rfl) (fun _ _ _ h => h) (Or.inl ⟨by kernel_rfl, ?hfe15⟩) (by assumption) ?rfe15
            case hfe15 => intro W hW; obtain ⟨⟨c0, c1⟩, d0, d1⟩ := hW; go_simp; all_goals with_reducible rfl
            change wpAnyH _ _ _ _ _ _ _ (Act.put _ (some 74) _) _
            simp only [Act.put, List.setIfInBounds_toArray, List.set_cons_zero, List.set_cons_succ]
            refine' wpAnyH_take (i := 16) (v := _) rfl (by kernel_rfl) (by kernel_rfl) (by kernel_rfl) (fun _ _ _ h => h) (Or.inl ⟨by kernel_rfl, ?hfe16⟩) (by assumption) ?rfe16
            case hfe16 => intro W hW; obtain ⟨⟨c0, c1⟩, d0, d1⟩ := hW; go_simp; all_goals with_reducible rfl
            change wpAnyH _ _ _ _ _ _ _ (Act.put _ (some 75) _) _
            simp only [Act.put, List.setIfInBounds_toArray, List.set_cons_zero, List.set_cons_succ]
            refine' wpAnyH_take (i := 17) (v := _) rfl (by kernel_rfl) (by kernel_rfl) (by kernel_rfl) (fun _ _ _ h => h) (Or.inl ⟨by kernel_rfl, ?hfe17⟩) (by assumption) ?rfe17
            case hfe17 => intro W hW; obtain ⟨⟨c0, c1⟩, d0, d1⟩ := hW; go_simp; all_goals with_reducible rfl
            change wpAnyH _ _ _ _ _ _ _ (Act.put _ (some 76) _) _
            simp only [Act.put, List.setIfInBounds_toArray, List.set_cons_zero, List.set_cons_succ]
            refine' wpAnyH_take (i := 18) (v := _) rfl (by kernel_rfl) (by kernel_rfl) (by kernel_rfl) (fun _ _ _ h => h) (Or.inl ⟨by kernel_rfl, ?hfe18⟩) (by assumption) ?rfe18
            case hfe18 => intro W hW; obtain ⟨⟨c0, c1⟩, d0, d1⟩ := hW; go_simp; all_goals with_reducible rfl
            change wpAnyH _ _ _ _ _ _ _ (Act.put _ (some 77) _) _
            simp only [Act.put, List.setIfInBounds_toArray, List.set_cons_zero, List.set_cons_succ]
            refine' wpAnyH_take (i := 19) (v := _) rfl (by kernel_rfl) (by kernel_rfl) (by kernel_rfl) (fun _ _ _ h => h) (Or.inl ⟨by kernel_rfl, ?hfe19⟩) (by assumption) ?rfe19
            case hfe19 => intro W hW; obtain ⟨⟨c0, c1⟩, d0, d1⟩ := hW; go_simp; all_goals with_reducible rfl
            change wpAnyH _ _ _ _ _ _ _ (Act.put _ (some 78) _) _
            simp only [Act.put, List.setIfInBounds_toArray, List.set_cons_zero, List.set_cons_succ]
            refine' wpAnyH_take (i := 20) (v := _) rfl (by kernel_rfl) (by kernel_rfl) (by kernel_rfl) (fun _ _ _ h => h) (Or.inl ⟨by kernel_rfl, ?hfe20⟩) (by assumption) ?rfe20
            case hfe20 => intro W hW; obtain ⟨⟨c0, c1⟩, d0, d1⟩ := hW; go_simp; all_goals with_reducible rfl
            change wpAnyH _ _ _ _ _ _ _ (Act.put _ (some 79) _) _
            simp only [Act.put, List.setIfInBounds_toArray, List.set_cons_zero, List.set_cons_succ]
            refine' wpAnyH_take (i := 21) (v := _) rfl (by kernel_rfl) (by kernel_rfl) (by kernel_rfl) (fun _ _ _ h => h) (Or.inl ⟨by kernel_rfl, ?hfe21⟩) (by assumption) ?rfe21
            case hfe21 => intro W hW; obtain ⟨⟨c0, c1⟩, d0, d1⟩ := hW; go_simp; all_goals with_reducible rfl
            change wpAnyH _ _ _ _ _ _ _ (Act.put _ (some 80) _) _
            simp only [Act.put, List.setIfInBounds_toArray, List.set_cons_zero, List.set_cons_succ]
            refine wpAnyH_ready (rs := [22]) (by kernel_rfl) (by simp) ?_
            refine AllReadyH.cons rfl (fun KK hK => ?_) AllReadyH.nil
            go_simp
            refine (hs2 wf hbd).mono ?_
            rintro e wg ⟨rfl, hbg⟩
            have hN2 := hN.on hbg
            have hbd2 := hbd.trans (hbg.mono hbd.size)
            have hHg : (wg.cell? ⟨X4, 0, none⟩ = some (.slice (some ⟨b1, o1, none⟩) D1.secs.length xsc) ∧ wg.cell? ⟨X3, 0, none⟩ = some (.slice (some ⟨b2, o2, none⟩) D.secs.length dsc)) ∧ wg.cell? ⟨b1, o1 + k, none⟩ = some (.slice a1 n1 c1) ∧ wg.cell? ⟨b2, o2 + k, none⟩ = some (.slice a2 n2 c2) := HS.out wg hbd2
            clear hHeld hN hbd hbg hs2 hHf
            go_wp2_with fail
            refine hK.out _ _ hHg (fun hHeld => ?_)
            have hN := hN2
            have hbd := hbd2
            clear hN2 hbd2
            clear hK KK
            try simp only [Act.put, List.setIfInBounds_toArray, List.set_cons_zero, List.set_cons_succ]
            refine' wpAnyH_take (i := 23) (v := _) rfl (by kernel_rfl) (by kernel_rfl) (by kernel_rfl) (fun _ _ _ h => h) (Or.inl ⟨by kernel_rfl, ?hfe22⟩) (by assumption) ?rfe22
            case hfe22 => intro W hW; obtain ⟨⟨c0, c1⟩, d0, d1⟩ := hW; go_simp; all_goals with_reducible rfl
            change wpAnyH _ _ _ _ _ _ _ (Act.put _ (some 82) _) _
            simp only [Act.put, List.setIfInBounds_toArray, List.set_cons_zero, List.set_cons_succ]
            refine' wpAnyH_take (i := 24) (v := _) rfl (by kernel_rfl) (by kernel_rfl) (by kernel_rfl) (fun _ _ _ h => h) (Or.inl ⟨by kernel_rfl, ?hfe23⟩) (by assumption) ?rfe23
            case hfe23 => intro W hW; obtain ⟨⟨c0, c1⟩, d0, d1⟩ := hW; go_simp; all_goals with_reducible rfl
            change wpAnyH _ _ _ _ _ _ _ (Act.put _ (some 83) _) _
            simp only [Act.put, List.setIfInBounds_toArray, List.set_cons_zero, List.set_cons_succ]
            refine' wpAnyH_take (i := 25) (v := _) rfl (by kernel_rfl) (by kernel_rfl) (by kernel_rfl) (fun _ _ _ h => h) (Or.inl ⟨by kernel_rfl, ?hfe24⟩) (by assumption) ?rfe24
            case hfe24 => intro W hW; obtain ⟨⟨c0, c1⟩, d0, d1⟩ := hW; go_simp; all_goals with_reducible rfl
            change wpAnyH _ _ _ _ _ _ _ (Act.put _ (some 84) _) _
            simp only [Act.put, List.setIfInBounds_toArray, List.set_cons_zero, List.set_cons_succ]
            refine' wpAnyH_take (i := 26) (v := _) rfl (by kernel_rfl) (by kernel_rfl) (by kernel_rfl) (fun _ _ _ h => h) (Or.inl ⟨by kernel_rfl, ?hfe25⟩) (by assumption) ?rfe25
            case hfe25 => intro W hW; obtain ⟨⟨c0, c1⟩, d0, d1⟩ := hW; go_simp; all_goals with_reducible rfl
            change wpAnyH _ _ _ _ _ _ _ (Act.put _ (some 85) _) _
            simp only [Act.put, List.setIfInBounds_toArray, List.set_cons_zero, List.set_cons_succ]
            refine' wpAnyH_take (i := 27) (v := _) rfl (by kernel_rfl) (by kernel_rfl) (by kernel_rfl) (fun _ _ _ h => h) (Or.inl ⟨by kernel_rfl, ?hfe26⟩) (by assumption) ?rfe26
            case hfe26 => intro W hW; obtain ⟨⟨c0, c1⟩, d0, d1⟩ := hW; go_simp; all_goals with_reducible rfl
            change wpAnyH _ _ _ _ _ _ _ (Act.put _ (some 86) _) _
            simp only [Act.put, List.setIfInBounds_toArray, List.set_cons_zero, List.set_cons_succ]
            refine' wpAnyH_take (i := 28) (v := _) rfl (by kernel_rfl) (by kernel_rfl) (by kernel_rfl) (fun _ _ _ h => h) (Or.inl ⟨by kernel_rfl, ?hfe27⟩) (by assumption) ?rfe27
            case hfe27 => intro W hW; obtain ⟨⟨c0, c1⟩, d0, d1⟩ := hW; go_simp; all_goals with_reducible rfl
            change wpAnyH _ _ _ _ _ _ _ (Act.put _ (some 11) _) _
            simp only [Act.put, List.setIfInBounds_toArray, List.set_cons_zero, List.set_cons_succ]
            refine wpAnyH_done (by kernel_rfl) ?_ _
            have HN : Hid _ := hN
            clear hN hHeld hHg hbd HS
            go_wp2
            go_loopg [11, 12] 0 (fun q m i wr => q = 0 ∧ m = .bool true ∧ i = .int .i64 0 ∧ DFk w X3 X4 [.slice dsa D.secs.length dsc, .slice dca D.cache.length dcc, .int .i64 D.ops, .slice dfa D.faults.length dfc, .bool D.down] [.slice xsa D1.secs.length xsc, .slice xca D1.cache.length xcc, .int .i64 D1.ops, .slice xfa D1.faults.length xfc, .bool D1.down] (.agg #[.slice dsa D.secs.length dsc, .slice dca D.cache.length dcc, .int .i64 D.ops, .slice dfa D.faults.length dfc, .bool D.down]) (.agg #[.slice xsa D1.secs.length xsc, .slice xca D1.cache.length xcc, .int .i64 D1.ops, .slice xfa D1.faults.length xfc, .bool D1.down]) D D1 wr)
            case atStart => exact ⟨rfl, rfl, rfl, HN.out⟩
            case round =>
              clear HN
              obtain ⟨rfl, rfl, rfl, hN⟩ := hrel
              have s1 : wr.cell? ⟨X3, 1, none⟩ = some (.slice dca D.cache.length dcc) := hN.x3.cell 1
              have HN2 : Hid _ := hN
              clear hN
              by_cases hc0 : (0 : Int) < (D.cache.length : Int)
              · go_wp2
                go_roundg (D.secs.length - (k + 1))
                case measure => have := HLT.out; omega
                case rel => exact ⟨k + 1, by have := HLT.out; omega, rfl, by go_num, HN2.out⟩
              · go_wp2
                go_roundg (D.secs.length - (k + 1))
                case measure => have := HLT.out; omega
                case rel => exact ⟨k + 1, by have := HLT.out; omega, rfl, by go_num, HN2.out⟩
        · have hkz : ¬ (k : Int) < (D.secs.length : Int) := by omega
          have hS1 := says_is (implDiskOk_any _ D1 wr hN.k4 HFF.out.2.1) true (by simp [HFF.out.2.2])
          have x0 : wr.cell? ⟨X4, 0, none⟩ = some (.slice xsa D1.secs.length xsc) := hN.x4.cell 0
          have x1 : wr.cell? ⟨X4, 1, none⟩ = some (.slice xca D1.cache.length xcc) := hN.x4.cell 1
          have x2 : wr.cell? ⟨X4, 2, none⟩ = some (.int .i64 D1.ops) := hN.x4.cell 2
          have x3 : wr.cell? ⟨X4, 3, none⟩ = some (.slice xfa D1.faults.length xfc) := hN.x4.cell 3
          have x4 : wr.cell? ⟨X4, 4, none⟩ = some (.bool D1.down) := hN.x4.cell 4
          have HN : Hid _ := hN
          clear hN hlt hk
          go_wp2_with fail
          refine hS1.mono ?_
          rintro e wa ⟨rfl, hba⟩
          have HB : Hid (Below w.heap.size w wa) := (HN.out.on hba).below
          clear hS1 hba HN s0 s1 s2 s3 s4 x0 x1 x2 x3 x4
          go_wp2
          go_ret
          exact ⟨rfl, HB.out⟩
  · have hS1 := says_is (specDiskOk_any _ D w4 hk hfD) false (by simp [hok])
    obtain ⟨hDD, hc1⟩ := HW.out.2 hok
    clear HW hok
    subst hDD hc1
    have hS2 : ∀ W, Below w4.heap.size w4 W → Calls Try.prog 21 #[.agg #[.slice xsa D1.secs.length xsc, .slice xca D1.cache.length xcc, .int .i64 D1.ops, .slice xfa D1.faults.length xfc, .bool D1.down], .agg #[.slice dsa D1.secs.length dsc, .slice dca D1.cache.length dcc, .int .i64 D1.ops, .slice dfa D1.faults.length dfc, .bool D1.down]] W fun e w' => e = .returned (.bool true) ∧ Below W.heap.size W w' := fun W hW =>
      sameDisk_alike D1 _ _ _ _ _ _ _ _ _ _ _ _ _ _ W (sec_of (hkx.below hW)).1 (sec_of (hkx.below hW)).2 (sec_of (hk.below hW)).1 (sec_of (hk.below hW)).2 hfx
    have H34 : Hid _ := And.intro h3 (And.intro h4 hB)
    clear h3 h4 hB hk hkx hfD hfx
    go_wp2_with fail
    refine hS1.mono ?_
    rintro e w5 ⟨rfl, hb5⟩
    have hS3 := hS2 w5 hb5
    have h3 := H34.out.1.below hb5
    have h4 := H34.out.2.1.below hb5
    have HB : Hid (Below w.heap.size w w5) := H34.out.2.2.trans (hb5.mono H34.out.2.2.size)
    clear hS1 hS2 hb5 H34 s0 s1 s2 s3 s4
    have s0 : w5.cell? ⟨X3, 0, none⟩ = some (.slice dsa D1.secs.length dsc) := h3.cell 0
    have s1 : w5.cell? ⟨X3, 1, none⟩ = some (.slice dca D1.cache.length dcc) := h3.cell 1
    have s2 : w5.cell? ⟨X3, 2, none⟩ = some (.int .i64 D1.ops) := h3.cell 2
    have s3 : w5.cell? ⟨X3, 3, none⟩ = some (.slice dfa D1.faults.length dfc) := h3.cell 3
    have s4 : w5.cell? ⟨X3, 4, none⟩ = some (.bool D1.down) := h3.cell 4
    have x0 : w5.cell? ⟨X4, 0, none⟩ = some (.slice xsa D1.secs.length xsc) := h4.cell 0
    have x1 : w5.cell? ⟨X4, 1, none⟩ = some (.slice xca D1.cache.length xcc) := h4.cell 1
    have x2 : w5.cell? ⟨X4, 2, none⟩ = some (.int .i64 D1.ops) := h4.cell 2
    have x3 : w5.cell? ⟨X4, 3, none⟩ = some (.slice xfa D1.faults.length xfc) := h4.cell 3
    have x4 : w5.cell? ⟨X4, 4, none⟩ = some (.bool D1.down) := h4.cell 4
    clear h3 h4
    go_wp2_with fail
    refine hS3.mono ?_
    rintro e w6 ⟨rfl, hb6⟩
    have HB2 : Hid (Below w.heap.size w w6) := HB.out.trans (hb6.mono HB.out.size)
    clear hS3 hb6 HB s0 s1 s2 s3 s4 x0 x1 x2 x3 x4
    go_wp2
    go_ret
    exact ⟨rfl, HB2.out⟩
end Go.Proofs.Ytdhfbblameiloaa

