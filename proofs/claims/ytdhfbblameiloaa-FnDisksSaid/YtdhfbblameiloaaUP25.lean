/-
  LawDisks
-/
import Derived.Test.YtdhfbblameiloaaUP14
import Derived.Test.YtdhfbblameiloaaUP17
import Derived.Test.YtdhfbblameiloaaUP18
import Derived.Test.YtdhfbblameiloaaUP23
import Derived.Test.YtdhfbblameiloaaUP24
import Derived.Test.YtdhfbblameiloaaUP21
import Derived.Test.YtdhfbblameiloaaUP22
import Derived.Test.YtdhfbblameiloaaUP20
import Derived.Deep.LoopGhost
/-
  The law FnDisks.
-/
namespace Go.Proofs.Ytdhfbblameiloaa
open Go.RowKit
set_option maxRecDepth 4000

theorem says_yes {w : World} {P : Prop} {fn : Nat} {v : Value} (h : Calls Try.prog fn #[v] w (Says w P)) (hp : P) : Calls Try.prog fn #[v] w fun e w' => e = .returned (.bool true) ∧ Below w.heap.size w w' := by
  refine h.mono ?_
  rintro e w' ⟨r, rfl, hr, hbl⟩
  rw [hr.2 hp]
  exact ⟨rfl, hbl⟩
theorem view_lof {w : World} {a : Option Addr} {m c : Nat} {F : Nat → Int} (h : View w a m c F) : ∃ l : List Int, l.length = m ∧ View w a l.length c (bf l) := by
  have hl := lof_len m F
  refine ⟨lof m F, hl, ?_⟩
  rw [hl]
  have hg : ∀ i, i < m → bf (lof m F) i = F i := fun i hi => lof_get m F i hi
  refine ⟨h.le, fun i hi => by rw [hg i hi]; exact h.byte i hi, fun hn => ?_⟩
  obtain ⟨b, off, e, hlt, hc⟩ := h.cells hn
  exact ⟨b, off, e, hlt, fun i hi => by rw [hg i hi]; exact hc i hi⟩
theorem fview_nil (W : World) (g : Nat) : FView W (some ⟨g, 0, none⟩) 0 [] := ⟨Nat.le_refl _, (fun e => by cases e), fun h => absurd h (Nat.not_lt_zero _)⟩
/-- What the walk carries into the loop. -/
structure DKk (w : World) (X3 X6 X12 : Nat) (dc ec fc : List Value) (v3 v6 v12 : Value) (D E F : PDisk) (rb rk bb bk : Option Addr × Nat) (r l : List Int) (W : World) : Prop where
  x3 : VN W X3 32 dc
  x6 : VN W X6 32 ec
  x12 : VN W X12 32 fc
  k3 : KView W v3 D
  k6 : KView W v6 E
  k12 : KView W v12 F
  vr : View W rb.1 r.length rb.2 (bf r)
  vb : View W bb.1 l.length bb.2 (bf l)
  below : Below w.heap.size w W
theorem DKk.on {w : World} {X3 X6 X12 : Nat} {dc ec fc : List Value} {v3 v6 v12 : Value} {D E F : PDisk} {rb rk bb bk : Option Addr × Nat} {r l : List Int} {W W' : World} (h : DKk w X3 X6 X12 dc ec fc v3 v6 v12 D E F rb rk bb bk r l W) (hb : Below W.heap.size W W') : DKk w X3 X6 X12 dc ec fc v3 v6 v12 D E F rb rk bb bk r l W' :=
  ⟨h.x3.below hb, h.x6.below hb, h.x12.below hb, h.k3.below hb, h.k6.below hb, h.k12.below hb, h.vr.below hb, h.vb.below hb, h.below.trans (hb.mono h.below.size)⟩

set_option maxHeartbeats 8000000 in
theorem lawDisks (ao : Option Addr) (n cap : Nat) (f : Nat → Int) (w : World) (hv : View w ao n cap f) (hn63 : n ≤ 9223372036854775807) :
    Calls Try.prog 4 #[.slice ao n cap] w fun e w' => e = .returned (.bool true) ∧ Below w.heap.size w w' := by
  by_cases hbig : 1048576 < n
  · have hd : decide ((1048576 : Int) < (n : Int)) = true := by simp; omega
    go_enter Try.func4, Try.ntmps4
    go_wp2_with fail
    refine (big_any ao n cap w hn63).mono ?_
    rw [hd]
    rintro e _ ⟨rfl, rfl⟩
    go_wp2
    go_ret
    exact ⟨rfl, Below.refl _ _⟩
  have hd : decide ((1048576 : Int) < (n : Int)) = false := by simp; omega
  have hn : n ≤ 1048576 := by omega
  clear hbig
  have hDr := drawWriteSec_any ao n cap f w hn hv
  clear hv
  go_enter Try.func4, Try.ntmps4
  go_wp2_with fail
  refine (big_any ao n cap w hn63).mono ?_
  rw [hd]
  rintro e _ ⟨rfl, rfl⟩
  clear hd hn63
  go_wp2_with fail
  refine hDr.mono ?_
  rintro e w1 ⟨dv, D, z, b, m, c, F, rfl, hk, hfD, hfw, hvb, hm, hB, -⟩
  clear hDr
  obtain ⟨l, rfl, hvl⟩ := view_lof hvb
  obtain ⟨dsa, dsc, dca, dcc, dfa, dfc, rfl, -, -, -⟩ := hk.is
  have hD48 := hfw.2
  clear hvb hfw
  have hbX : Below w1.heap.size w1 (w1.alloc (.cells #[.slice dsa D.secs.length dsc, .slice dca D.cache.length dcc, .int .i64 D.ops, .slice dfa D.faults.length dfc, .bool D.down] 32)) := (Below.refl _ _).alloc (Nat.le_refl _) _
  have h3 := VN.new w1 32 [.slice dsa D.secs.length dsc, .slice dca D.cache.length dcc, .int .i64 D.ops, .slice dfa D.faults.length dfc, .bool D.down]
  replace hk := hk.below hbX
  replace hvl := hvl.below hbX
  replace hB := hB.trans (hbX.mono hB.size)
  clear hbX
  obtain ⟨W1, hW1⟩ : ∃ x, Hid ((w1.alloc (.cells #[.slice dsa D.secs.length dsc, .slice dca D.cache.length dcc, .int .i64 D.ops, .slice dfa D.faults.length dfc, .bool D.down] 32)) = x) := ⟨_, rfl⟩
  obtain ⟨X3, hX3e⟩ : ∃ x, Hid (w1.heap.size = x) := ⟨_, rfl⟩
  rw [hW1.out] at h3 hk hvl hB
  rw [hX3e.out] at h3
  have hways := write_ways D z l
  obtain ⟨D1, hD1⟩ := hidEx (writeD D z l).1
  obtain ⟨code, hcode⟩ := hidEx (writeD D z l).2
  have hI := implWrite_any _ D z (some ⟨b, 0, none⟩) c l W1 hk hfD hvl (fun e => by cases e) (by omega)
  rw [hD1.out, hcode.out] at hI hways
  have s0 : W1.cell? ⟨w1.heap.size, 0, none⟩ = some (.slice dsa D.secs.length dsc) := by rw [hX3e.out]; exact h3.cell 0
  have s1 : W1.cell? ⟨w1.heap.size, 1, none⟩ = some (.slice dca D.cache.length dcc) := by rw [hX3e.out]; exact h3.cell 1
  have s2 : W1.cell? ⟨w1.heap.size, 2, none⟩ = some (.int .i64 D.ops) := by rw [hX3e.out]; exact h3.cell 2
  have s3 : W1.cell? ⟨w1.heap.size, 3, none⟩ = some (.slice dfa D.faults.length dfc) := by rw [hX3e.out]; exact h3.cell 3
  have s4 : W1.cell? ⟨w1.heap.size, 4, none⟩ = some (.bool D.down) := by rw [hX3e.out]; exact h3.cell 4
  have HW : Hid _ := hways
  clear hways
  go_wp2_with (rw [hW1.out])
  rw [hX3e.out]
  clear s0 s1 s2 s3 s4
  refine hI.mono ?_
  rintro e w2 ⟨vx, rfl, hOx, hb2⟩
  clear hI hW1 hX3e
  replace hk := hk.below hb2
  replace hvl := hvl.below hb2
  replace hB := hB.trans (hb2.mono hB.size)
  replace h3 := h3.below hb2
  clear hb2
  have hkx := hOx.view
  clear hOx
  obtain ⟨xsa, xsc, xca, xcc, xfa, xfc, rfl, hsx, hcx, -⟩ := hkx.is
  have HK2 : Hid (KView w2 (.agg #[.slice dsa D.secs.length dsc, .slice dca D.cache.length dcc, .int .i64 D.ops, .slice dfa D.faults.length dfc, .bool D.down]) D ∧ SView w2 xsa xsc D1.secs ∧ WView w2 xca xcc D1.cache ∧ View w2 (some ⟨b, 0, none⟩) l.length c (bf l) ∧ VN w2 X3 32 [.slice dsa D.secs.length dsc, .slice dca D.cache.length dcc, .int .i64 D.ops, .slice dfa D.faults.length dfc, .bool D.down]) := ⟨hk, hsx, hcx, hvl, h3⟩
  have hB2 : Below w2.heap.size w2 w2 := Below.refl _ _
  have hw2s := hB.size
  clear hsx hcx
  have hbX : Below w2.heap.size w2 (w2.alloc (.cells #[.slice xsa D1.secs.length xsc, .slice xca D1.cache.length xcc, .int .i64 D1.ops, .slice xfa D1.faults.length xfc, .bool D1.down] 32)) := (Below.refl _ _).alloc (Nat.le_refl _) _
  have h6 := VN.new w2 32 [.slice xsa D1.secs.length xsc, .slice xca D1.cache.length xcc, .int .i64 D1.ops, .slice xfa D1.faults.length xfc, .bool D1.down]
  replace hk := hk.below hbX
  replace hvl := hvl.below hbX
  replace hB := hB.trans (hbX.mono hB.size)
  replace h3 := h3.below hbX
  replace hkx := hkx.below hbX
  replace hB2 := hB2.trans (hbX.mono hB2.size)
  clear hbX
  obtain ⟨W2, hW2⟩ : ∃ x, Hid ((w2.alloc (.cells #[.slice xsa D1.secs.length xsc, .slice xca D1.cache.length xcc, .int .i64 D1.ops, .slice xfa D1.faults.length xfc, .bool D1.down] 32)) = x) := ⟨_, rfl⟩
  obtain ⟨X6, hX6e⟩ : ∃ x, Hid (w2.heap.size = x) := ⟨_, rfl⟩
  rw [hW2.out] at h6 hk hvl hB h3 hkx hB2
  rw [hX6e.out] at h6
  have HX6 : Hid (w2.heap.size ≤ X6) := by show _ ≤ _; have := hX6e.out; omega
  have hI := specWrite_any _ D z (some ⟨b, 0, none⟩) c l W2 hk hfD hvl (fun e => by cases e) (by omega)
  rw [hD1.out, hcode.out] at hI
  have s0 : W2.cell? ⟨X3, 0, none⟩ = some (.slice dsa D.secs.length dsc) := h3.cell 0
  have s1 : W2.cell? ⟨X3, 1, none⟩ = some (.slice dca D.cache.length dcc) := h3.cell 1
  have s2 : W2.cell? ⟨X3, 2, none⟩ = some (.int .i64 D.ops) := h3.cell 2
  have s3 : W2.cell? ⟨X3, 3, none⟩ = some (.slice dfa D.faults.length dfc) := h3.cell 3
  have s4 : W2.cell? ⟨X3, 4, none⟩ = some (.bool D.down) := h3.cell 4
  go_wp2_with (rw [hW2.out])
  rw [hX6e.out]
  clear s0 s1 s2 s3 s4
  refine hI.mono ?_
  rintro e w3 ⟨ysa, ysc, yca, ycc, yfa, yfc, rfl, hky, hb3⟩
  clear hI hW2 hX6e hD1 hcode
  replace hk := hk.below hb3
  replace hvl := hvl.below hb3
  replace hB := hB.trans (hb3.mono hB.size)
  replace h3 := h3.below hb3
  replace hkx := hkx.below hb3
  replace hB2 := hB2.trans (hb3.mono hB2.size)
  replace h6 := h6.below hb3
  clear hb3
  unfold dval at hky ⊢
  have hbX : Below w3.heap.size w3 (w3.alloc (.cells #[.slice ysa D1.secs.length ysc, .slice yca D1.cache.length ycc, .int .i64 D1.ops, .slice yfa D1.faults.length yfc, .bool D1.down] 32)) := (Below.refl _ _).alloc (Nat.le_refl _) _
  have h8 := VN.new w3 32 [.slice ysa D1.secs.length ysc, .slice yca D1.cache.length ycc, .int .i64 D1.ops, .slice yfa D1.faults.length yfc, .bool D1.down]
  replace hk := hk.below hbX
  replace hvl := hvl.below hbX
  replace hB := hB.trans (hbX.mono hB.size)
  replace h3 := h3.below hbX
  replace hkx := hkx.below hbX
  replace hB2 := hB2.trans (hbX.mono hB2.size)
  replace h6 := h6.below hbX
  replace hky := hky.below hbX
  clear hbX
  obtain ⟨W3, hW3⟩ : ∃ x, Hid ((w3.alloc (.cells #[.slice ysa D1.secs.length ysc, .slice yca D1.cache.length ycc, .int .i64 D1.ops, .slice yfa D1.faults.length yfc, .bool D1.down] 32)) = x) := ⟨_, rfl⟩
  obtain ⟨X8, hX8e⟩ : ∃ x, Hid (w3.heap.size = x) := ⟨_, rfl⟩
  rw [hW3.out] at h8 hk hvl hB h3 hkx hB2 h6 hky
  rw [hX8e.out] at h8
  have hfx : KFine D1 := by
    rcases HW.out with ⟨-, e⟩ | ⟨-, -, -, -, h⟩ | ⟨-, e, -, -, h⟩
    · rw [e]; exact hfD
    · exact h.fine
    · rw [e]; exact h.fine
  have hS : ∀ W, KView W (.agg #[.slice xsa D1.secs.length xsc, .slice xca D1.cache.length xcc, .int .i64 D1.ops, .slice xfa D1.faults.length xfc, .bool D1.down]) D1 → KView W (.agg #[.slice ysa D1.secs.length ysc, .slice yca D1.cache.length ycc, .int .i64 D1.ops, .slice yfa D1.faults.length yfc, .bool D1.down]) D1 → Calls Try.prog 21 #[.agg #[.slice xsa D1.secs.length xsc, .slice xca D1.cache.length xcc, .int .i64 D1.ops, .slice xfa D1.faults.length xfc, .bool D1.down], .agg #[.slice ysa D1.secs.length ysc, .slice yca D1.cache.length ycc, .int .i64 D1.ops, .slice yfa D1.faults.length yfc, .bool D1.down]] W fun e w' => e = .returned (.bool true) ∧ Below W.heap.size W w' := by
    intro W h1 h2
    obtain ⟨_, _, _, _, _, _, e1, a1, a2, -⟩ := h1.is
    obtain ⟨_, _, _, _, _, _, e2, b1, b2, -⟩ := h2.is
    simp only [Value.agg.injEq, Array.mk.injEq, List.cons.injEq, Value.slice.injEq] at e1 e2
    obtain ⟨⟨rfl, -, rfl⟩, ⟨rfl, -, rfl⟩, -⟩ := e1
    obtain ⟨⟨rfl, -, rfl⟩, ⟨rfl, -, rfl⟩, -⟩ := e2
    exact sameDisk_alike D1 _ _ _ _ _ _ _ _ _ _ _ _ _ _ W a1 a2 b1 b2 hfx
  have hcc : (code != code) = false := bne_self_eq_false _
  have hSC := hS W3 hkx hky
  have y0 : W3.cell? ⟨w3.heap.size, 0, none⟩ = some (.slice ysa D1.secs.length ysc) := by rw [hX8e.out]; exact h8.cell 0
  have y1 : W3.cell? ⟨w3.heap.size, 1, none⟩ = some (.slice yca D1.cache.length ycc) := by rw [hX8e.out]; exact h8.cell 1
  have y2 : W3.cell? ⟨w3.heap.size, 2, none⟩ = some (.int .i64 D1.ops) := by rw [hX8e.out]; exact h8.cell 2
  have y3 : W3.cell? ⟨w3.heap.size, 3, none⟩ = some (.slice yfa D1.faults.length yfc) := by rw [hX8e.out]; exact h8.cell 3
  have y4 : W3.cell? ⟨w3.heap.size, 4, none⟩ = some (.bool D1.down) := by rw [hX8e.out]; exact h8.cell 4
  have x0 : W3.cell? ⟨X6, 0, none⟩ = some (.slice xsa D1.secs.length xsc) := h6.cell 0
  have x1 : W3.cell? ⟨X6, 1, none⟩ = some (.slice xca D1.cache.length xcc) := h6.cell 1
  have x2 : W3.cell? ⟨X6, 2, none⟩ = some (.int .i64 D1.ops) := h6.cell 2
  have x3 : W3.cell? ⟨X6, 3, none⟩ = some (.slice xfa D1.faults.length xfc) := h6.cell 3
  have x4 : W3.cell? ⟨X6, 4, none⟩ = some (.bool D1.down) := h6.cell 4
  go_wp2_with (rw [hW3.out])
  refine hSC.mono ?_
  rintro e w4 ⟨rfl, hb4⟩
  clear x0 x1 x2 x3 x4 y0 y1 y2 y3 y4
  clear hSC hS hcc hW3
  replace hk := hk.below hb4
  replace hvl := hvl.below hb4
  replace hB := hB.trans (hb4.mono hB.size)
  replace h3 := h3.below hb4
  replace hkx := hkx.below hb4
  replace hB2 := hB2.trans (hb4.mono hB2.size)
  replace h6 := h6.below hb4
  replace hky := hky.below hb4
  replace h8 := h8.below hb4
  clear hb4 hky h8
  try rw [hX8e.out]
  clear hX8e
  have x0 : w4.cell? ⟨X6, 0, none⟩ = some (.slice xsa D1.secs.length xsc) := h6.cell 0
  have x1 : w4.cell? ⟨X6, 1, none⟩ = some (.slice xca D1.cache.length xcc) := h6.cell 1
  have x2 : w4.cell? ⟨X6, 2, none⟩ = some (.int .i64 D1.ops) := h6.cell 2
  have x3 : w4.cell? ⟨X6, 3, none⟩ = some (.slice xfa D1.faults.length xfc) := h6.cell 3
  have x4 : w4.cell? ⟨X6, 4, none⟩ = some (.bool D1.down) := h6.cell 4
  have s0 : w4.cell? ⟨X3, 0, none⟩ = some (.slice dsa D.secs.length dsc) := h3.cell 0
  have s1 : w4.cell? ⟨X3, 1, none⟩ = some (.slice dca D.cache.length dcc) := h3.cell 1
  have s2 : w4.cell? ⟨X3, 2, none⟩ = some (.int .i64 D.ops) := h3.cell 2
  have s3 : w4.cell? ⟨X3, 3, none⟩ = some (.slice dfa D.faults.length dfc) := h3.cell 3
  have s4 : w4.cell? ⟨X3, 4, none⟩ = some (.bool D.down) := h3.cell 4
  rcases HW.out with ⟨hc19, hDD⟩ | ⟨hc9, hops, hdn, hca, hok1⟩ | ⟨hc0, hmore, hokD, hHS, hokM⟩
  · clear HW
    subst hDD
    have hoo : (D1.ops == D1.ops) = true := beq_self_eq_true _
    have hS2 : Calls Try.prog 21 #[.agg #[.slice xsa D1.secs.length xsc, .slice xca D1.cache.length xcc, .int .i64 D1.ops, .slice xfa D1.faults.length xfc, .bool D1.down], .agg #[.slice dsa D1.secs.length dsc, .slice dca D1.cache.length dcc, .int .i64 D1.ops, .slice dfa D1.faults.length dfc, .bool D1.down]] w4 fun e w' => e = .returned (.bool true) ∧ Below w4.heap.size w4 w' := by
      obtain ⟨_, _, _, _, _, _, e1, a1, a2, -⟩ := hkx.is
      obtain ⟨_, _, _, _, _, _, e2, b1, b2, -⟩ := hk.is
      simp only [Value.agg.injEq, Array.mk.injEq, List.cons.injEq, Value.slice.injEq] at e1 e2
      obtain ⟨⟨rfl, -, rfl⟩, ⟨rfl, -, rfl⟩, -⟩ := e1
      obtain ⟨⟨rfl, -, rfl⟩, ⟨rfl, -, rfl⟩, -⟩ := e2
      exact sameDisk_alike D1 _ _ _ _ _ _ _ _ _ _ _ _ _ _ w4 a1 a2 b1 b2 hfx
    have HB0 : Hid (Below w.heap.size w w4) := hB
    clear hk hkx hvl h3 h6 hB hB2 hfD hfx
    rcases hc19 with rfl | rfl
    · go_wp2_with fail
      refine hS2.mono ?_
      rintro e w5 ⟨rfl, hb5⟩
      have HB : Hid (Below w.heap.size w w5) := HB0.out.trans (hb5.mono HB0.out.size)
      clear hb5 hS2 x0 x1 x2 x3 x4 s0 s1 s2 s3 s4
      go_wp2
      go_ret
      exact ⟨rfl, HB.out⟩
    · go_wp2_with fail
      refine hS2.mono ?_
      rintro e w5 ⟨rfl, hb5⟩
      have HB : Hid (Below w.heap.size w w5) := HB0.out.trans (hb5.mono HB0.out.size)
      clear hb5 hS2 x0 x1 x2 x3 x4 s0 s1 s2 s3 s4
      go_wp2
      go_ret
      exact ⟨rfl, HB.out⟩
  · clear HW
    subst hc9
    have hoo : (D1.ops == D.ops) = false := beq_eq_false_iff_ne.2 (by omega)
    have hS2 := says_yes (implDiskOk_any _ D1 w4 hkx hfx) hok1
    have HB0 : Hid (Below w.heap.size w w4) := hB
    have hcl : D1.cache.length = 0 := by rw [hca]; rfl
    rw [hdn] at x4 hS2
    rw [hcl] at x1 hS2
    clear hk hkx hvl h3 h6 hB hB2 hfD hfx hops hdn hca hok1 hcl
    go_wp2_with fail
    refine hS2.mono ?_
    rintro e w5 ⟨rfl, hb5⟩
    have HB : Hid (Below w.heap.size w w5) := HB0.out.trans (hb5.mono HB0.out.size)
    clear hb5 hS2 x0 x1 x2 x3 x4 s0 s1 s2 s3 s4
    go_wp2
    go_ret
    exact ⟨rfl, HB.out⟩
  · clear HW
    subst hc0
    obtain ⟨kz, rfl⟩ := Int.eq_ofNat_of_zero_le hHS.1
    have hrd := more_read (l := l) hHS
    rw [← hmore] at hrd hokM
    have hops : D1.ops = D.ops + 1 := by rw [hmore]; rfl
    have hsl : D1.secs.length = D.secs.length := by rw [hmore]; rfl
    have hdn : D1.down = false := by
      rw [hmore]
      show D.down = false
      have hcc : 0 < D1.cache.length := by rw [hmore]; show 0 < (D.cache ++ [((kz : Int), l)]).length; simp
      cases hd : D.down with
      | false => rfl
      | true => exact absurd ⟨(by rw [hmore]; exact hd), hcc⟩ hokM.2.2.2.2
    have hoo : (D1.ops == D.ops) = false := beq_eq_false_iff_ne.2 (by omega)
    have hHS1 : HasS D1 kz := ⟨hHS.1, by rw [hsl]; exact hHS.2⟩
    have hR := (implReadSec_any _ D1 kz w4 hkx hfx).mono (fun _ _ h => h.bto)
    rw [hrd.1, (hasB_iff D1 kz).2 hHS1] at hR
    have hll : Hid (l.length ≤ 257) := hm
    have HX : Hid (OkD D ∧ HasS D kz ∧ OkD D1 ∧ HasS D1 kz ∧ (∀ i : Int, i ≠ kz → readB D1 i = readB D i) ∧ readB D1 kz = l ∧ D1.secs.length = D.secs.length ∧ D1.down = false) := ⟨hokD, hHS, hokM, hHS1, hrd.2, hrd.1, hsl, hdn⟩
    have HF0 : Hid _ := And.intro hk (And.intro hkx (And.intro hvl (And.intro h3 (And.intro h6 (And.intro hB (And.intro hfx (And.intro hfD hB2)))))))
    clear hmore hokD hHS hokM hHS1 hrd hsl hdn hops hk hkx hvl h3 h6 hB hfx hfD hm hB2
    go_wp2_with fail
    refine hR.mono ?_
    rintro e w5 ⟨v5, rfl, hoz, hb5⟩
    clear hR
    obtain ⟨hk, hkx, hvl, h3, h6, hB, hfx, hfD, hB2⟩ := HF0.out
    clear HF0
    clear x0 x1 x2 x3 x4 s0 s1 s2 s3 s4
    have h64 := h6.lt
    replace hB := hB.trans (hb5.mono hB.size)
    replace hB2 := hB2.trans (hb5.mono hB2.size)
    replace h6 := h6.below hb5
    clear hb5 hk hkx hvl h3
    have hbX : Below w5.heap.size w5 (w5.alloc (.cells #[] 79)) := (Below.refl _ _).alloc (Nat.le_refl _) _
    replace hB := hB.trans (hbX.mono hB.size)
    replace hB2 := hB2.trans (hbX.mono hB2.size)
    replace h6 := h6.below hbX
    replace hoz := hoz.up (Up.ofBelow hbX)
    clear hbX
    obtain ⟨W5, hW5⟩ : ∃ x, Hid ((w5.alloc (.cells #[] 79)) = x) := ⟨_, rfl⟩
    obtain ⟨A9, hA9⟩ : ∃ x, Hid (w5.heap.size = x) := ⟨_, rfl⟩
    rw [hW5.out] at hB hB2 h6 hoz
    have x3 : W5.cell? ⟨X6, 3, none⟩ = some (.slice xfa D1.faults.length xfc) := h6.cell 3
    have z3 := h6.fz 3
    have h67 := h6.set 3 (.slice (some ⟨A9, 0, none⟩) 0 0)
    simp only [List.set] at h67
    have hX6e : w2.heap.size ≤ X6 ∧ X6 < w4.heap.size := ⟨HX6.out, h64⟩
    have hB7 := hB.setCell (p := ⟨X6, 3, none⟩) (by show _ ≤ X6; omega) (.slice (some ⟨A9, 0, none⟩) 0 0)
    have hB27 := hB2.setCell (p := ⟨X6, 3, none⟩) hX6e.1 (.slice (some ⟨A9, 0, none⟩) 0 0)
    have hoz7 := hoz.up (Up.set (C := X6) (i := 3) (u := .slice (some ⟨A9, 0, none⟩) 0 0) hX6e.2)
    obtain ⟨W7, hW7⟩ : ∃ x, Hid (W5.setCell ⟨X6, 3, none⟩ (.slice (some ⟨A9, 0, none⟩) 0 0) = x) := ⟨_, rfl⟩
    rw [hW7.out] at h67 hB7 hB27 hoz7
    obtain ⟨ra, rc, rfl, hvr⟩ := oz_view hoz7
    have hk := HK2.out.1.below hB27
    have hkE : KView W7 (.agg #[.slice xsa D1.secs.length xsc, .slice xca D1.cache.length xcc, .int .i64 D1.ops, .slice (some ⟨A9, 0, none⟩) 0 0, .bool D1.down]) { D1 with faults := [] } := ⟨xsa, xsc, xca, xcc, some ⟨A9, 0, none⟩, 0, rfl, sview_below HK2.out.2.1 hB27, wview_below HK2.out.2.2.1 hB27, fview_nil _ _⟩
    have hvl := HK2.out.2.2.2.1.below hB27
    have h3 := HK2.out.2.2.2.2.below hB27
    have h6 := h67
    have hB := hB7
    clear h67 hB7 hB2 hB27 hoz hoz7 hX6e h64
    have hfE : KFine { D1 with faults := [] } := ⟨hfx.ns, hfx.sec, hfx.nc, hfx.cache, Nat.zero_le _⟩
    have hokE : OkD { D1 with faults := [] } := ⟨HX.out.2.2.1.1, HX.out.2.2.1.2.1, HX.out.2.2.1.2.2.1, ⟨Nat.zero_le _, fun i hi => absurd hi (Nat.not_lt_zero _)⟩, HX.out.2.2.1.2.2.2.2⟩
    have hways := flush_nofault hokE HX.out.2.2.2.2.2.2.2 rfl
    have hI := implFlush_any _ { D1 with faults := [] } W7 hkE hfE
    obtain ⟨E2, hE2⟩ := hidEx (flushD { D1 with faults := [] }).1
    obtain ⟨e2, he2⟩ := hidEx (flushD { D1 with faults := [] }).2
    rw [hE2.out, he2.out] at hI hways
    have HFL : Hid ((e2 = 0 ∧ E2.cache.length = 0 ∧ E2.secs[kz]? = some l ∧ ∀ i : Nat, readB E2 i = readB D1 i) ∨ (e2 = 9 ∧ ∀ i : Nat, readB E2 i = readB D1 i)) := by
      rcases hways with ⟨h1, h2⟩ | ⟨h1, h2⟩
      · refine .inl ⟨h1, by rw [h2]; rfl, ?_, fun i => by rw [h2]; exact calm_read (D := { D1 with faults := [] }) hokE.2.1 _ i⟩
        have hz := HX.out.2.2.2.1.2
        have := calm_sec (D := { D1 with faults := [], ops := D1.ops + 1 }) hokE.2.1 (i := kz) (by show kz < D1.secs.length; omega)
        rw [h2, this]
        exact congrArg some HX.out.2.2.2.2.2.1
      · exact .inr ⟨h1, fun i => by rw [h2]; rfl⟩
    have hfE2 : KFine E2 := by
      rcases hways with ⟨h1, h2⟩ | ⟨h1, h2⟩
      · rw [h2]; exact calmD_fine (D := { D1 with faults := [], ops := D1.ops + 1 }) ⟨hfE.ns, hfE.sec, hfE.nc, hfE.cache, hfE.nf⟩
      · rw [h2]; exact hfE
    have HOE : Hid (OkD { D1 with faults := [] }) := hokE
    have H0 : Hid _ := And.intro hk (And.intro hkE (And.intro hvl (And.intro h3 (And.intro h6 (And.intro hB hvr)))))
    have q0 : W7.cell? ⟨X6, 0, none⟩ = some (.slice xsa D1.secs.length xsc) := h6.cell 0
    have q1 : W7.cell? ⟨X6, 1, none⟩ = some (.slice xca D1.cache.length xcc) := h6.cell 1
    have q2 : W7.cell? ⟨X6, 2, none⟩ = some (.int .i64 D1.ops) := h6.cell 2
    have q3 : W7.cell? ⟨X6, 3, none⟩ = some (.slice (some ⟨A9, 0, none⟩) 0 0) := h6.cell 3
    have q4 : W7.cell? ⟨X6, 4, none⟩ = some (.bool D1.down) := h6.cell 4
    clear hways hokE hE2 he2 hk hkE hvl h3 h6 hB hvr
    go_wp2_with (first | rw [hW5.out] | rw [hA9.out] | rw [hW7.out])
    clear q0 q1 q2 q3 q4 hW5 hA9 hW7 x3 z3
    refine hI.mono ?_
    rintro e w8 ⟨vf, rfl, hOf, hb8⟩
    clear hI
    obtain ⟨hk, hkE, hvl, h3, h6, hB, hvr⟩ := H0.out
    clear H0
    replace hk := hk.below hb8
    replace hkE := hkE.below hb8
    replace hvl := hvl.below hb8
    replace h3 := h3.below hb8
    replace h6 := h6.below hb8
    replace hB := hB.trans (hb8.mono hB.size)
    replace hvr := hvr.below hb8
    clear hb8
    have hkf := hOf.view
    clear hOf
    obtain ⟨fsa, fsc, fca, fcc, ffa, ffc, rfl, hsf, -, -⟩ := hkf.is
    clear hsf
    have hbX : Below w8.heap.size w8 (w8.alloc (.cells #[.slice fsa E2.secs.length fsc, .slice fca E2.cache.length fcc, .int .i64 E2.ops, .slice ffa E2.faults.length ffc, .bool E2.down] 32)) := (Below.refl _ _).alloc (Nat.le_refl _) _
    have h12 := VN.new w8 32 [.slice fsa E2.secs.length fsc, .slice fca E2.cache.length fcc, .int .i64 E2.ops, .slice ffa E2.faults.length ffc, .bool E2.down]
    replace hk := hk.below hbX
    replace hkE := hkE.below hbX
    replace hvl := hvl.below hbX
    replace h3 := h3.below hbX
    replace h6 := h6.below hbX
    replace hB := hB.trans (hbX.mono hB.size)
    replace hvr := hvr.below hbX
    replace hkf := hkf.below hbX
    clear hbX
    obtain ⟨W8, hW8⟩ : ∃ x, Hid ((w8.alloc (.cells #[.slice fsa E2.secs.length fsc, .slice fca E2.cache.length fcc, .int .i64 E2.ops, .slice ffa E2.faults.length ffc, .bool E2.down] 32)) = x) := ⟨_, rfl⟩
    obtain ⟨X12, hX12e⟩ : ∃ x, Hid (w8.heap.size = x) := ⟨_, rfl⟩
    rw [hW8.out] at h12 hk hkE hvl h3 h6 hB hvr hkf
    rw [hX12e.out] at h12
    have HD : Hid (DKk w X3 X6 X12 [.slice dsa D.secs.length dsc, .slice dca D.cache.length dcc, .int .i64 D.ops, .slice dfa D.faults.length dfc, .bool D.down] [.slice xsa D1.secs.length xsc, .slice xca D1.cache.length xcc, .int .i64 D1.ops, .slice (some ⟨A9, 0, none⟩) 0 0, .bool D1.down] [.slice fsa E2.secs.length fsc, .slice fca E2.cache.length fcc, .int .i64 E2.ops, .slice ffa E2.faults.length ffc, .bool E2.down] (.agg #[.slice dsa D.secs.length dsc, .slice dca D.cache.length dcc, .int .i64 D.ops, .slice dfa D.faults.length dfc, .bool D.down]) (.agg #[.slice xsa D1.secs.length xsc, .slice xca D1.cache.length xcc, .int .i64 D1.ops, .slice (some ⟨A9, 0, none⟩) 0 0, .bool D1.down]) (.agg #[.slice fsa E2.secs.length fsc, .slice fca E2.cache.length fcc, .int .i64 E2.ops, .slice ffa E2.faults.length ffc, .bool E2.down]) D { D1 with faults := [] } E2 (ra, rc) (ra, rc) (some ⟨b, 0, none⟩, c) (some ⟨b, 0, none⟩, c) l l W8) := ⟨h3, h6, h12, hk, hkE, hkf, hvr, hvl, hB⟩
    clear h3 h6 h12 hk hkE hkf hvr hvl hB
    have HFE : Hid (KFine D ∧ KFine { D1 with faults := [] } ∧ KFine E2) := ⟨hfD, hfE, hfE2⟩
    clear hfD hfE hfE2 hfx hoo
    go_wp2_with (rw [hW8.out])
    rw [hX12e.out]
    clear hW8 hX12e
    go_loopg [14] D.secs.length (fun q i wr => ∃ k : Nat, k ≤ D.secs.length ∧ q = D.secs.length - k ∧ i = .int .i64 k ∧ DKk w X3 X6 X12 [.slice dsa D.secs.length dsc, .slice dca D.cache.length dcc, .int .i64 D.ops, .slice dfa D.faults.length dfc, .bool D.down] [.slice xsa D1.secs.length xsc, .slice xca D1.cache.length xcc, .int .i64 D1.ops, .slice (some ⟨A9, 0, none⟩) 0 0, .bool D1.down] [.slice fsa E2.secs.length fsc, .slice fca E2.cache.length fcc, .int .i64 E2.ops, .slice ffa E2.faults.length ffc, .bool E2.down] (.agg #[.slice dsa D.secs.length dsc, .slice dca D.cache.length dcc, .int .i64 D.ops, .slice dfa D.faults.length dfc, .bool D.down]) (.agg #[.slice xsa D1.secs.length xsc, .slice xca D1.cache.length xcc, .int .i64 D1.ops, .slice (some ⟨A9, 0, none⟩) 0 0, .bool D1.down]) (.agg #[.slice fsa E2.secs.length fsc, .slice fca E2.cache.length fcc, .int .i64 E2.ops, .slice ffa E2.faults.length ffc, .bool E2.down]) D { D1 with faults := [] } E2 (ra, rc) (ra, rc) (some ⟨b, 0, none⟩, c) (some ⟨b, 0, none⟩, c) l l wr)
    case atStart => exact ⟨0, Nat.zero_le _, rfl, rfl, HD.out⟩
    case round =>
      clear HD
      obtain ⟨k, hk, rfl, rfl, hN⟩ := hrel
      have s0 : wr.cell? ⟨X3, 0, none⟩ = some (.slice dsa D.secs.length dsc) := hN.x3.cell 0
      have s1 : wr.cell? ⟨X3, 1, none⟩ = some (.slice dca D.cache.length dcc) := hN.x3.cell 1
      have s2 : wr.cell? ⟨X3, 2, none⟩ = some (.int .i64 D.ops) := hN.x3.cell 2
      have s3 : wr.cell? ⟨X3, 3, none⟩ = some (.slice dfa D.faults.length dfc) := hN.x3.cell 3
      have s4 : wr.cell? ⟨X3, 4, none⟩ = some (.bool D.down) := hN.x3.cell 4
      by_cases hlt : k < D.secs.length
      · have hkz : (k : Int) < (D.secs.length : Int) := by omega
        have hD48x := hD48
        obtain ⟨y0, hy0⟩ := hidEx (readB D k)
        obtain ⟨y1, hy1⟩ := hidEx (readB D1 k)
        have hl0 := readB_len HFE.out.1 k
        have hl1 : (readB D1 k).length ≤ 1048576 := readB_len (D := { D1 with faults := [] }) HFE.out.2.1 k
        rw [hy0.out] at hl0
        rw [hy1.out] at hl1
        have HYE : Hid (readB { D1 with faults := [] } k = y1) := hy1.out
        have HYF : Hid (readB E2 k = y1) := by
          rcases HFL.out with ⟨-, -, -, h⟩ | ⟨-, h⟩
          · exact (h k).trans hy1.out
          · exact (h k).trans hy1.out
        have HNE : Hid ((k : Int) ≠ (kz : Int) → y0 = y1) := fun h => by rw [← hy0.out, ← hy1.out]; exact (HX.out.2.2.2.2.1 k h).symm
        obtain ⟨o0, ho0⟩ := hidEx (hasB D k)
        obtain ⟨o1, ho1⟩ := hidEx (hasB { D1 with faults := [] } k)
        obtain ⟨o2, ho2⟩ := hidEx (hasB E2 k)
        have hR := (implReadSec_any _ D k wr hN.k3 HFE.out.1).mono (fun _ _ h => h.bto)
        rw [hy0.out, ho0.out] at hR
        go_wp2_with fail
        refine hR.mono ?_
        rintro e wa ⟨vwa, rfl, hoza, hba⟩
        clear hR s0 s1 s2 s3 s4
        replace hN := hN.on hba
        obtain ⟨ua, uc, rfl, hvu⟩ := oz_view hoza
        clear hoza hba
        have s0 : wa.cell? ⟨X6, 0, none⟩ = some (.slice xsa D1.secs.length xsc) := hN.x6.cell 0
        have s1 : wa.cell? ⟨X6, 1, none⟩ = some (.slice xca D1.cache.length xcc) := hN.x6.cell 1
        have s2 : wa.cell? ⟨X6, 2, none⟩ = some (.int .i64 D1.ops) := hN.x6.cell 2
        have s3 : wa.cell? ⟨X6, 3, none⟩ = some (.slice (some ⟨A9, 0, none⟩) 0 0) := hN.x6.cell 3
        have s4 : wa.cell? ⟨X6, 4, none⟩ = some (.bool D1.down) := hN.x6.cell 4
        have hR := (implReadSec_any _ { D1 with faults := [] } k wa hN.k6 HFE.out.2.1).mono (fun _ _ h => h.bto)
        rw [HYE.out, ho1.out] at hR
        go_wp2_with fail
        refine hR.mono ?_
        rintro e wb ⟨vwb, rfl, hozb, hbb⟩
        clear hR s0 s1 s2 s3 s4
        replace hN := hN.on hbb
        obtain ⟨wa1, wc1, rfl, hvw⟩ := oz_view hozb
        replace hvu := hvu.below hbb
        clear hozb hbb
        have s0 : wb.cell? ⟨X12, 0, none⟩ = some (.slice fsa E2.secs.length fsc) := hN.x12.cell 0
        have s1 : wb.cell? ⟨X12, 1, none⟩ = some (.slice fca E2.cache.length fcc) := hN.x12.cell 1
        have s2 : wb.cell? ⟨X12, 2, none⟩ = some (.int .i64 E2.ops) := hN.x12.cell 2
        have s3 : wb.cell? ⟨X12, 3, none⟩ = some (.slice ffa E2.faults.length ffc) := hN.x12.cell 3
        have s4 : wb.cell? ⟨X12, 4, none⟩ = some (.bool E2.down) := hN.x12.cell 4
        have hR := (implReadSec_any _ E2 k wb hN.k12 HFE.out.2.2).mono (fun _ _ h => h.bto)
        rw [HYF.out, ho2.out] at hR
        go_wp2_with fail
        refine hR.mono ?_
        rintro e wc ⟨vwc, rfl, hozc, hbc⟩
        clear hR s0 s1 s2 s3 s4
        replace hN := hN.on hbc
        obtain ⟨va1, vc1, rfl, hvv⟩ := oz_view hozc
        replace hvu := hvu.below hbc
        replace hvw := hvw.below hbc
        clear hozc hbc hy0 hy1 ho0 ho1 ho2 HYE HYF
        have hsb : ∀ W a1 c1 a2 c2, View W a1 y1.length c1 (bf y1) → View W a2 y1.length c2 (bf y1) → Calls Try.prog 25 #[.slice a1 y1.length c1, .slice a2 y1.length c2] W fun e w' => e = .returned (.bool true) ∧ Below W.heap.size W w' := by
          intro W a1 c1 a2 c2 h1 h2
          have := sameBytes_any a1 a2 y1.length y1.length c1 c2 (bf y1) (bf y1) W h1 h2 (by omega) (by omega)
          simpa only [decide_true] using this
        have hns := HFE.out.1.ns
        by_cases hkn : k = kz
        · subst hkn
          have hkq : ((k : Int) != (k : Int)) = false := bne_self_eq_false _
          have hS2 := hsb wc _ _ _ _ hvw hvv
          have HN : Hid _ := hN
          clear hsb hvu hvw hvv hN HNE hl0
          go_wp2_with fail
          refine hS2.mono ?_
          rintro e wd ⟨rfl, hbd⟩
          have HN2 : Hid _ := HN.out.on hbd
          clear hS2 hbd HN
          go_wp2
          go_roundg (D.secs.length - (k + 1))
          case measure => omega
          case rel => exact ⟨k + 1, by omega, rfl, by go_num, HN2.out⟩
        · have hki : (k : Int) ≠ (kz : Int) := by omega
          have hkq : ((k : Int) != (kz : Int)) = true := by rw [bne_iff_ne]; exact hki
          obtain rfl := HNE.out hki
          have hS1 := hsb wc _ _ _ _ hvu hvw
          have HV2 : Hid (View wc wa1 y0.length wc1 (bf y0) ∧ View wc va1 y0.length vc1 (bf y0)) := ⟨hvw, hvv⟩
          have HN : Hid _ := hN
          have HSB : Hid _ := hsb
          clear hsb hvu hvw hvv hN HNE hl0 hki hkn
          go_wp2_with fail
          refine hS1.mono ?_
          rintro e wd ⟨rfl, hbd⟩
          have hS2 := HSB.out wd _ _ _ _ (HV2.out.1.below hbd) (HV2.out.2.below hbd)
          have HN2 : Hid _ := HN.out.on hbd
          clear hS1 hbd HN HV2 HSB
          go_wp2_with fail
          refine hS2.mono ?_
          rintro e we ⟨rfl, hbe⟩
          have HN3 : Hid _ := HN2.out.on hbe
          clear hS2 hbe HN2
          go_wp2
          go_roundg (D.secs.length - (k + 1))
          case measure => omega
          case rel => exact ⟨k + 1, by omega, rfl, by go_num, HN3.out⟩
      · have hkz : ¬ (k : Int) < (D.secs.length : Int) := by omega
        have hS1 : Calls Try.prog 25 #[.slice ra l.length rc, .slice (some ⟨b, 0, none⟩) l.length c] wr fun e w' => e = .returned (.bool true) ∧ Below wr.heap.size wr w' := by
          have := sameBytes_any ra (some ⟨b, 0, none⟩) l.length l.length rc c (bf l) (bf l) wr hN.vr hN.vb (by have := HFL; have := hll.out; omega) (by have := hll.out; omega)
          simpa only [decide_true] using this
        have HN : Hid _ := hN
        clear hN hlt hk
        go_wp2_with fail
        clear s0 s1 s2 s3 s4
        refine hS1.mono ?_
        rintro e wa ⟨rfl, hba⟩
        clear hS1
        have hN := HN.out.on hba
        clear HN hba
        have hS2 := says_yes (implDiskOk_any _ { D1 with faults := [] } wa hN.k6 HFE.out.2.1) HOE.out
        have s0 : wa.cell? ⟨X6, 0, none⟩ = some (.slice xsa D1.secs.length xsc) := hN.x6.cell 0
        have s1 : wa.cell? ⟨X6, 1, none⟩ = some (.slice xca D1.cache.length xcc) := hN.x6.cell 1
        have s2 : wa.cell? ⟨X6, 2, none⟩ = some (.int .i64 D1.ops) := hN.x6.cell 2
        have s3 : wa.cell? ⟨X6, 3, none⟩ = some (.slice (some ⟨A9, 0, none⟩) 0 0) := hN.x6.cell 3
        have s4 : wa.cell? ⟨X6, 4, none⟩ = some (.bool D1.down) := hN.x6.cell 4
        have HN : Hid _ := hN
        clear hN
        go_wp2_with fail
        clear s0 s1 s2 s3 s4
        refine hS2.mono ?_
        rintro e wb ⟨rfl, hbb⟩
        clear hS2
        have hN := HN.out.on hbb
        clear HN hbb
        rcases HFL.out with ⟨he2, hcl, hsec, -⟩ | ⟨he2, -⟩
        · subst he2
          have hsv : SView wb fsa fsc E2.secs := by
            obtain ⟨_, _, _, _, _, _, e1, a1, -, -⟩ := hN.k12.is
            simp only [Value.agg.injEq, Array.mk.injEq, List.cons.injEq, Value.slice.injEq] at e1
            obtain ⟨⟨rfl, -, rfl⟩, -⟩ := e1
            exact a1
          have hkl : kz < E2.secs.length := (List.getElem?_eq_some_iff.1 hsec).1
          have hel : E2.secs[kz] = l := (List.getElem?_eq_some_iff.1 hsec).2
          obtain ⟨b1, o1, a1, c1, ea, hb1, hc1, hv1, -⟩ := sview_at hsv hkl
          rw [hel] at hc1 hv1
          have hkn : (kz : Int) < (E2.secs.length : Int) := by omega
          have hS3 : Calls Try.prog 25 #[.slice a1 l.length c1, .slice (some ⟨b, 0, none⟩) l.length c] wb fun e w' => e = .returned (.bool true) ∧ Below wb.heap.size wb w' := by
            have := sameBytes_any a1 (some ⟨b, 0, none⟩) l.length l.length c1 c (bf l) (bf l) wb hv1 hN.vb (by have := hll.out; omega) (by have := hll.out; omega)
            simpa only [decide_true] using this
          have t1 : wb.cell? ⟨X12, 1, none⟩ = some (.slice fca 0 fcc) := by rw [← hcl]; exact hN.x12.cell 1
          have t0 : wb.cell? ⟨X12, 0, none⟩ = some (.slice fsa E2.secs.length fsc) := hN.x12.cell 0
          have HB : Hid (Below w.heap.size w wb) := hN.below
          clear hN hsv hsec hel hcl hv1
          subst ea
          go_wp2_with fail
          refine hS3.mono ?_
          rintro e wd ⟨rfl, hbd⟩
          have HB2 : Hid (Below w.heap.size w wd) := HB.out.trans (hbd.mono HB.out.size)
          clear hS3 hbd HB t0 t1 hc1
          go_wp2
          go_ret
          exact ⟨rfl, HB2.out⟩
        · subst he2
          have HB : Hid (Below w.heap.size w wb) := hN.below
          clear hN
          go_wp2
          go_ret
          exact ⟨rfl, HB.out⟩
end Go.Proofs.Ytdhfbblameiloaa

