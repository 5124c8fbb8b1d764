/-
  LawNewDisks
-/
import Derived.Test.YtdhfbblameiloaaND30
import Derived.Test.YtdhfbblameiloaaND32
import Derived.Test.YtdhfbblameiloaaND36
import Derived.Test.YtdhfbblameiloaaND31
import Derived.Test.YtdhfbblameiloaaND37
import Derived.Test.YtdhfbblameiloaaND39
import Derived.Test.YtdhfbblameiloaaND38
import Derived.Test.YtdhfbblameiloaaND40
import Derived.Deep.RegionHeld3
import Derived.Deep.LoopGhost
/-
  The walk over the law FnNewDisks.
-/
namespace Go.Proofs.Ytdhfbblameiloaa
open Go.RowKit
set_option maxRecDepth 4000

theorem secsField (a b c : Option Addr) (n1 m1 n2 m2 n3 m3 : Nat) (x : Int) (d : Bool) (W : World) : (Instr.field 32 (.agg #[.slice a n1 m1, .slice b n2 m2, .int .i64 x, .slice c n3 m3, .bool d]) 0).run Try.prog W = .ok (.slice a n1 m1) W := by kernel_rfl
theorem new_cases {n : Int} {l : List PFault} {v : Value} {w : World} {B : Nat} (h : (NewOk n l ∧ KOwn w B v (madeD n.toNat l)) ∨ (¬ NewOk n l ∧ KOwn w B v zeroD)) : ∃ D, KOwn w B v D ∧ ((NewOk n l ∧ D = madeD n.toNat l) ∨ (¬ NewOk n l ∧ D = zeroD)) := by
  rcases h with ⟨h, k⟩ | ⟨h, k⟩
  · exact ⟨_, k, .inl ⟨h, rfl⟩⟩
  · exact ⟨_, k, .inr ⟨h, rfl⟩⟩
theorem new_fine {n : Int} {l : List PFault} {D : PDisk} (hl : l.length ≤ 1048576) (h : (NewOk n l ∧ D = madeD n.toNat l) ∨ (¬ NewOk n l ∧ D = zeroD)) : KFine D ∧ (∀ i, readB D i = []) ∧ (OkD D ↔ 0 < D.secs.length) ∧ D.secs.length ≤ 48 := by
  rcases h with ⟨⟨h1, h2⟩, rfl⟩ | ⟨-, rfl⟩
  · refine ⟨⟨by simp [madeD]; omega, fun x hx => by simp [madeD] at hx; simp [hx], by simp [madeD], fun x hx => by simp [madeD] at hx, hl⟩, fun i => ?_, ⟨fun _ => by simp [madeD]; omega, fun _ => (okMade (by omega) (by omega)).2 h2⟩, by simp [madeD]; omega⟩
    by_cases hs : HasS (madeD n.toNat l) i
    · rw [readB_sec hs rfl (by have := hs.1; have := hs.2; omega)]
      simp [madeD]
    · exact readB_none hs
  · refine ⟨⟨by simp [zeroD], fun x hx => by simp [zeroD] at hx, by simp [zeroD], fun x hx => by simp [zeroD] at hx, by simp [zeroD]⟩, fun i => readB_none (fun hs => by have := hs.1; have := hs.2; simp [zeroD] at *; omega), ⟨fun h => by have := h.1.1; simp [zeroD] at this, fun h => by simp [zeroD] at h⟩, by simp [zeroD]⟩
/-- Whatever bool a test answers. -/
theorem says_bool {w : World} {P : Prop} {fn : Nat} {v : Value} (h : Calls Try.prog fn #[v] w (Says w P)) (b : Bool) (hb : b = true ↔ P) : Calls Try.prog fn #[v] w fun e w' => e = .returned (.bool b) ∧ Below w.heap.size w w' := by
  refine h.mono ?_
  rintro e w' ⟨r, rfl, hr, hbl⟩
  have : r = b := by
    cases r <;> cases b <;> simp_all
  rw [this]
  exact ⟨rfl, hbl⟩

/-- What the walk carries. -/
structure ND (w : World) (X5 X6 X7 : Nat) (c5 c6 c7 : List Value) (v5 v6 : Value) (D E : PDisk) (a10 a12 : Option Addr) (k10 k12 : Nat) (y : List Int) (va : Option Addr) (vc : Nat) (l : List PFault) (W : World) : Prop where
  x5 : VN W X5 32 c5
  x6 : VN W X6 32 c6
  x7 : VN W X7 32 c7
  k5 : KView W v5 D
  k6 : KView W v6 E
  v10 : View W a10 y.length k10 (bf y)
  v12 : View W a12 y.length k12 (bf y)
  fv : FView W va vc l
  below : Below w.heap.size w W
theorem ND.on {w : World} {X5 X6 X7 : Nat} {c5 c6 c7 : List Value} {v5 v6 : Value} {D E : PDisk} {a10 a12 : Option Addr} {k10 k12 : Nat} {y : List Int} {va : Option Addr} {vc : Nat} {l : List PFault} {W W' : World} (h : ND w X5 X6 X7 c5 c6 c7 v5 v6 D E a10 a12 k10 k12 y va vc l W) (hb : Below W.heap.size W W') : ND w X5 X6 X7 c5 c6 c7 v5 v6 D E a10 a12 k10 k12 y va vc l W' :=
  ⟨h.x5.below hb, h.x6.below hb, h.x7.below hb, h.k5.below hb, h.k6.below hb, h.v10.below hb, h.v12.below hb, fview_below h.fv hb, h.below.trans (hb.mono h.below.size)⟩

set_option maxHeartbeats 8000000 in
theorem lawNewDisks (ao : Option Addr) (n cap : Nat) (f : Nat → Int) (w : World) (hv : View w ao n cap f) (hn63 : n ≤ 9223372036854775807) :
    Calls Try.prog 6 #[.slice ao n cap] w fun e w' => e = .returned (.bool true) ∧ Below w.heap.size w w' := by
  by_cases hbig : 1048576 < n
  · have hd : decide ((1048576 : Int) < (n : Int)) = true := by simp; omega
    go_enter Try.func6, Try.ntmps6
    go_wp2_with fail
    refine (big_any ao n cap w hn63).mono ?_
    rw [hd]
    rintro e _ ⟨rfl, rfl⟩
    go_wp2
    go_ret
    exact ⟨rfl, Below.refl _ _⟩
  have hd : decide ((1048576 : Int) < (n : Int)) = false := by simp; omega
  have hn : n ≤ 1048576 := by omega
  clear hbig
  go_enter Try.func6, Try.ntmps6
  go_wp2_with fail
  refine (big_any ao n cap w hn63).mono ?_
  rw [hd]
  rintro e _ ⟨rfl, rfl⟩
  clear hd
  go_wp2_with fail
  refine (drawDiskNew_any ao n cap f w hn hv).mono ?_
  rintro e w1 ⟨z, l, va, vc, rfl, hfv, hl4, hz, hB⟩
  go_wp2_with fail
  refine (implDiskNew_any z va vc l w1 hfv (by omega)).mono ?_
  rintro e w2 ⟨v5, rfl, hb2, h2⟩
  obtain ⟨D, hKO, hcs⟩ := new_cases h2
  obtain ⟨hfD, hrD, hoD, hlD⟩ := new_fine (by omega) hcs
  have hk5 := hKO.view
  replace hfv := fview_below hfv hb2
  replace hB := hB.trans (hb2.mono hB.size)
  obtain ⟨dsa, dsc, dca, dcc, dfa, dfc, rfl, -, -, -⟩ := hk5.is
  have HFD : Hid (KFine D ∧ (∀ i, readB D i = []) ∧ (OkD D ↔ 0 < D.secs.length)) := ⟨hfD, hrD, hoD⟩
  have HCS : Hid ((NewOk z l ∧ D = madeD z.toNat l) ∨ (¬ NewOk z l ∧ D = zeroD)) := hcs
  clear hb2 h2 hKO hcs hfD hrD hoD
  have hbX : Below w2.heap.size w2 (w2.alloc (.cells #[.slice dsa D.secs.length dsc, .slice dca D.cache.length dcc, .int .i64 D.ops, .slice dfa D.faults.length dfc, .bool D.down] 32)) := (Below.refl _ _).alloc (Nat.le_refl _) _
  have hX5 := VN.new w2 32 [.slice dsa D.secs.length dsc, .slice dca D.cache.length dcc, .int .i64 D.ops, .slice dfa D.faults.length dfc, .bool D.down]
  replace hk5 := hk5.below hbX
  replace hfv := fview_below hfv hbX
  replace hB := hB.trans (hbX.mono hB.size)
  clear hbX
  obtain ⟨W2, hW2⟩ : ∃ x, Hid ((w2.alloc (.cells #[.slice dsa D.secs.length dsc, .slice dca D.cache.length dcc, .int .i64 D.ops, .slice dfa D.faults.length dfc, .bool D.down] 32)) = x) := ⟨_, rfl⟩
  obtain ⟨X5, hX5e⟩ : ∃ x, Hid (w2.heap.size = x) := ⟨_, rfl⟩
  rw [hW2.out] at hX5 hk5 hfv hB
  rw [hX5e.out] at hX5
  go_wp2_with (rw [hW2.out])
  rw [hX5e.out]
  refine (drawDiskOk_any ao n cap f W2 hn (hv.below hB)).mono ?_
  rintro e w3 ⟨dv, E, rfl, hk6, hfE, -, hbb⟩
  clear hW2 hX5e
  obtain ⟨esa, esc, eca, ecc, efa, efc, rfl, -, -, -⟩ := hk6.is
  replace hk5 := hk5.below hbb
  replace hfv := fview_below hfv hbb
  replace hX5 := hX5.below hbb
  replace hB := hB.trans (hbb.mono hB.size)
  clear hbb
  have hbX : Below w3.heap.size w3 (w3.alloc (.cells #[.slice esa E.secs.length esc, .slice eca E.cache.length ecc, .int .i64 E.ops, .slice efa E.faults.length efc, .bool E.down] 32)) := (Below.refl _ _).alloc (Nat.le_refl _) _
  have hX6 := VN.new w3 32 [.slice esa E.secs.length esc, .slice eca E.cache.length ecc, .int .i64 E.ops, .slice efa E.faults.length efc, .bool E.down]
  replace hk5 := hk5.below hbX
  replace hk6 := hk6.below hbX
  replace hfv := fview_below hfv hbX
  replace hX5 := hX5.below hbX
  replace hB := hB.trans (hbX.mono hB.size)
  clear hbX
  obtain ⟨W3, hW3⟩ : ∃ x, Hid ((w3.alloc (.cells #[.slice esa E.secs.length esc, .slice eca E.cache.length ecc, .int .i64 E.ops, .slice efa E.faults.length efc, .bool E.down] 32)) = x) := ⟨_, rfl⟩
  obtain ⟨X6, hX6e⟩ : ∃ x, Hid (w3.heap.size = x) := ⟨_, rfl⟩
  rw [hW3.out] at hX6 hk5 hk6 hfv hX5 hB
  rw [hX6e.out] at hX6
  go_wp2_with (rw [hW3.out])
  rw [hX6e.out]
  refine (drawTurnOn_any ao n cap f W3 hn (hv.below hB)).mono ?_
  rintro e w4 ⟨dv, U, rfl, hk7, hfU, -, hbb⟩
  clear hW3 hX6e
  obtain ⟨usa, usc, uca, ucc, ufa, ufc, rfl, -, -, -⟩ := hk7.is
  replace hk5 := hk5.below hbb
  replace hk6 := hk6.below hbb
  replace hfv := fview_below hfv hbb
  replace hX5 := hX5.below hbb
  replace hX6 := hX6.below hbb
  replace hB := hB.trans (hbb.mono hB.size)
  clear hbb
  have hTo := implTurnOn_any _ U w4 hk7 hfU
  go_wp2_with fail
  refine hTo.mono ?_
  rintro e w5 ⟨v7, rfl, hKO, hbb⟩
  obtain ⟨T, hTe⟩ : ∃ x, Hid (({ U with down := false } : PDisk) = x) := ⟨_, rfl⟩
  have HTd : Hid (T.down = false) := by show _ = _; rw [← hTe.out]
  rw [hTe.out] at hKO
  obtain ⟨tsa, tsc, tca, tcc, tfa, tfc, rfl, -, -, -⟩ := hKO.view.is
  replace hk5 := hk5.below hbb
  replace hk6 := hk6.below hbb
  replace hX5 := hX5.below hbb
  replace hX6 := hX6.below hbb
  replace hfv := fview_below hfv hbb
  replace hB := hB.trans (hbb.mono hB.size)
  clear hbb hTo hKO hTe hk7 hfU
  have hbX : Below w5.heap.size w5 (w5.alloc (.cells #[.slice tsa T.secs.length tsc, .slice tca T.cache.length tcc, .int .i64 T.ops, .slice tfa T.faults.length tfc, .bool T.down] 32)) := (Below.refl _ _).alloc (Nat.le_refl _) _
  have hX7 := VN.new w5 32 [.slice tsa T.secs.length tsc, .slice tca T.cache.length tcc, .int .i64 T.ops, .slice tfa T.faults.length tfc, .bool T.down]
  replace hk5 := hk5.below hbX
  replace hk6 := hk6.below hbX
  replace hfv := fview_below hfv hbX
  replace hX5 := hX5.below hbX
  replace hX6 := hX6.below hbX
  replace hB := hB.trans (hbX.mono hB.size)
  clear hbX
  obtain ⟨W5, hW5⟩ : ∃ x, Hid ((w5.alloc (.cells #[.slice tsa T.secs.length tsc, .slice tca T.cache.length tcc, .int .i64 T.ops, .slice tfa T.faults.length tfc, .bool T.down] 32)) = x) := ⟨_, rfl⟩
  obtain ⟨X7, hX7e⟩ : ∃ x, Hid (w5.heap.size = x) := ⟨_, rfl⟩
  rw [hW5.out] at hX7 hk5 hk6 hfv hX5 hX6 hB
  rw [hX7e.out] at hX7
  go_wp2_with (rw [hW5.out])
  rw [hX7e.out]
  refine (drawReadSec_any ao n cap f W5 hn (hv.below hB)).mono ?_
  rintro e w6 ⟨dv, Z, q, rfl, hk8, hfZ, -, hq, hbb⟩
  clear hW5 hX7e
  obtain ⟨zsa, zsc, zca, zcc, zfa, zfc, rfl, -, -, -⟩ := hk8.is
  replace hk5 := hk5.below hbb
  replace hk6 := hk6.below hbb
  replace hX5 := hX5.below hbb
  replace hX6 := hX6.below hbb
  replace hX7 := hX7.below hbb
  replace hfv := fview_below hfv hbb
  replace hB := hB.trans (hbb.mono hB.size)
  clear hbb
  have hbX : Below w6.heap.size w6 (w6.alloc (.cells #[.slice zsa Z.secs.length zsc, .slice zca Z.cache.length zcc, .int .i64 Z.ops, .slice zfa Z.faults.length zfc, .bool Z.down] 32)) := (Below.refl _ _).alloc (Nat.le_refl _) _
  have hX8 := VN.new w6 32 [.slice zsa Z.secs.length zsc, .slice zca Z.cache.length zcc, .int .i64 Z.ops, .slice zfa Z.faults.length zfc, .bool Z.down]
  replace hk5 := hk5.below hbX
  replace hk6 := hk6.below hbX
  replace hk8 := hk8.below hbX
  replace hfv := fview_below hfv hbX
  replace hX5 := hX5.below hbX
  replace hX6 := hX6.below hbX
  replace hX7 := hX7.below hbX
  replace hB := hB.trans (hbX.mono hB.size)
  clear hbX
  obtain ⟨W6, hW6⟩ : ∃ x, Hid ((w6.alloc (.cells #[.slice zsa Z.secs.length zsc, .slice zca Z.cache.length zcc, .int .i64 Z.ops, .slice zfa Z.faults.length zfc, .bool Z.down] 32)) = x) := ⟨_, rfl⟩
  obtain ⟨X8, hX8e⟩ : ∃ x, Hid (w6.heap.size = x) := ⟨_, rfl⟩
  rw [hW6.out] at hX8 hk5 hk6 hk8 hfv hX5 hX6 hX7 hB
  rw [hX8e.out] at hX8
  have hRI := (implReadSec_any _ Z q W6 hk8 hfZ).mono (fun _ _ h => h.bto)
  have hyl := readB_len hfZ q
  obtain ⟨y, hy⟩ := hidEx (readB Z q)
  obtain ⟨okk, hokk⟩ := hidEx (hasB Z q)
  rw [hy.out, hokk.out] at hRI
  rw [hy.out] at hyl
  have s0 : W6.cell? ⟨w6.heap.size, 0, none⟩ = some (.slice zsa Z.secs.length zsc) := by rw [hX8e.out]; exact hX8.cell 0
  have s1 : W6.cell? ⟨w6.heap.size, 1, none⟩ = some (.slice zca Z.cache.length zcc) := by rw [hX8e.out]; exact hX8.cell 1
  have s2 : W6.cell? ⟨w6.heap.size, 2, none⟩ = some (.int .i64 Z.ops) := by rw [hX8e.out]; exact hX8.cell 2
  have s3 : W6.cell? ⟨w6.heap.size, 3, none⟩ = some (.slice zfa Z.faults.length zfc) := by rw [hX8e.out]; exact hX8.cell 3
  have s4 : W6.cell? ⟨w6.heap.size, 4, none⟩ = some (.bool Z.down) := by rw [hX8e.out]; exact hX8.cell 4
  go_wp2_with (rw [hW6.out])
  rw [hX8e.out]
  clear s0 s1 s2 s3 s4
  refine hRI.mono ?_
  rintro e w7 ⟨v10, rfl, hoz, hbb⟩
  clear hW6 hX8e hRI
  obtain ⟨a10, k10, rfl, hv10⟩ := oz_view hoz
  replace hk5 := hk5.below hbb
  replace hk6 := hk6.below hbb
  replace hk8 := hk8.below hbb
  replace hX5 := hX5.below hbb
  replace hX6 := hX6.below hbb
  replace hX7 := hX7.below hbb
  replace hX8 := hX8.below hbb
  replace hfv := fview_below hfv hbb
  replace hB := hB.trans (hbb.mono hB.size)
  clear hbb hoz
  have s0 : w7.cell? ⟨X8, 0, none⟩ = some (.slice zsa Z.secs.length zsc) := hX8.cell 0
  have s1 : w7.cell? ⟨X8, 1, none⟩ = some (.slice zca Z.cache.length zcc) := hX8.cell 1
  have s2 : w7.cell? ⟨X8, 2, none⟩ = some (.int .i64 Z.ops) := hX8.cell 2
  have s3 : w7.cell? ⟨X8, 3, none⟩ = some (.slice zfa Z.faults.length zfc) := hX8.cell 3
  have s4 : w7.cell? ⟨X8, 4, none⟩ = some (.bool Z.down) := hX8.cell 4
  have hRS := (specReadSec_any _ Z q w7 hk8 hfZ).mono (fun _ _ h => h.bto)
  rw [hy.out, hokk.out] at hRS
  go_wp2_with fail
  refine hRS.mono ?_
  rintro e w8 ⟨v12, rfl, hoz, hbb⟩
  clear hRS s0 s1 s2 s3 s4 hX8 hk8
  obtain ⟨a12, k12, rfl, hv12⟩ := oz_view hoz
  have hND : ND w X5 X6 X7 [.slice dsa D.secs.length dsc, .slice dca D.cache.length dcc, .int .i64 D.ops, .slice dfa D.faults.length dfc, .bool D.down] [.slice esa E.secs.length esc, .slice eca E.cache.length ecc, .int .i64 E.ops, .slice efa E.faults.length efc, .bool E.down] [.slice tsa T.secs.length tsc, .slice tca T.cache.length tcc, .int .i64 T.ops, .slice tfa T.faults.length tfc, .bool T.down] _ _ D E a10 a12 k10 k12 y va vc l w8 := ⟨hX5.below hbb, hX6.below hbb, hX7.below hbb, hk5.below hbb, hk6.below hbb, hv10.below hbb, hv12, fview_below hfv hbb, hB.trans (hbb.mono hB.size)⟩
  have HND : Hid _ := hND
  clear hND hbb hoz hv12 hv10 hk5 hk6 hX5 hX6 hX7 hfv hB hfZ hv hy hokk
  have hkk : (okk == okk) = true := beq_self_eq_true _
  go_wp2
  go_loopg [14] D.secs.length (fun q i wr => ∃ k : Nat, k ≤ D.secs.length ∧ q = D.secs.length - k ∧ i = .int .i64 k ∧ ND w X5 X6 X7 [.slice dsa D.secs.length dsc, .slice dca D.cache.length dcc, .int .i64 D.ops, .slice dfa D.faults.length dfc, .bool D.down] [.slice esa E.secs.length esc, .slice eca E.cache.length ecc, .int .i64 E.ops, .slice efa E.faults.length efc, .bool E.down] [.slice tsa T.secs.length tsc, .slice tca T.cache.length tcc, .int .i64 T.ops, .slice tfa T.faults.length tfc, .bool T.down] (.agg #[.slice dsa D.secs.length dsc, .slice dca D.cache.length dcc, .int .i64 D.ops, .slice dfa D.faults.length dfc, .bool D.down]) (.agg #[.slice esa E.secs.length esc, .slice eca E.cache.length ecc, .int .i64 E.ops, .slice efa E.faults.length efc, .bool E.down]) D E a10 a12 k10 k12 y va vc l wr)
  case atStart => exact ⟨0, Nat.zero_le _, rfl, rfl, HND.out⟩
  case round =>
    clear HND
    obtain ⟨k, hk, rfl, rfl, hN⟩ := hrel
    have p0 : wr.cell? ⟨X5, 0, none⟩ = some (.slice dsa D.secs.length dsc) := hN.x5.cell 0
    have p1 : wr.cell? ⟨X5, 1, none⟩ = some (.slice dca D.cache.length dcc) := hN.x5.cell 1
    have p2 : wr.cell? ⟨X5, 2, none⟩ = some (.int .i64 D.ops) := hN.x5.cell 2
    have p3 : wr.cell? ⟨X5, 3, none⟩ = some (.slice dfa D.faults.length dfc) := hN.x5.cell 3
    have p4 : wr.cell? ⟨X5, 4, none⟩ = some (.bool D.down) := hN.x5.cell 4
    by_cases hlt : k < D.secs.length
    · have hkz : (k : Int) < (D.secs.length : Int) := by omega
      have hR := (implReadSec_any _ D k wr hN.k5 HFD.out.1).mono (fun _ _ h => h.bto)
      rw [HFD.out.2.1, show hasB D k = true by unfold hasB; simp; omega] at hR
      go_wp2_with fail
      refine hR.mono ?_
      rintro e w9 ⟨v9, rfl, hoz, hbb⟩
      obtain ⟨a9, k9, rfl, -⟩ := oz_view hoz
      have HN : Hid _ := hN.on hbb
      clear hR hoz hbb hN p0 p1 p2 p3 p4
      go_wp2
      go_roundg (D.secs.length - (k + 1))
      case measure => omega
      case rel => exact ⟨k + 1, by omega, rfl, by go_num, HN.out⟩
    · obtain rfl : k = D.secs.length := by omega
      have hkz : ¬ (D.secs.length : Int) < (D.secs.length : Int) := by omega
      have hll : ((D.secs.length : Int) == (D.secs.length : Int)) = true := beq_self_eq_true _
      go_wp2_with fail
      clear p0 p1 p2 p3 p4 hkz hk
      have hN := hN.on (Below.refl _ _).drew
      obtain ⟨wd, hwd⟩ := hidEx wr.drew
      rw [hwd.out] at hN
      have hsf := secsField
      obtain ⟨okE, hokE⟩ : ∃ b : Bool, (b = true ↔ OkD E) := by
        by_cases h : OkD E
        · exact ⟨true, by simp [h]⟩
        · exact ⟨false, by simp [h]⟩
      have hoE : (okE == okE) = true := beq_self_eq_true _
      by_cases hpos : 0 < D.secs.length
      · have hpz : (0 : Int) < (D.secs.length : Int) := by omega
        refine wp_region_held_drew (S := fun W => (W.cell? ⟨X5, 0, none⟩ = some (.slice dsa D.secs.length dsc) ∧ W.cell? ⟨X5, 1, none⟩ = some (.slice dca D.cache.length dcc) ∧ W.cell? ⟨X5, 2, none⟩ = some (.int .i64 D.ops) ∧ W.cell? ⟨X5, 3, none⟩ = some (.slice dfa D.faults.length dfc) ∧ W.cell? ⟨X5, 4, none⟩ = some (.bool D.down)) ∧ (W.cell? ⟨X6, 0, none⟩ = some (.slice esa E.secs.length esc) ∧ W.cell? ⟨X6, 1, none⟩ = some (.slice eca E.cache.length ecc) ∧ W.cell? ⟨X6, 2, none⟩ = some (.int .i64 E.ops) ∧ W.cell? ⟨X6, 3, none⟩ = some (.slice efa E.faults.length efc) ∧ W.cell? ⟨X6, 4, none⟩ = some (.bool E.down)) ∧ W.cell? ⟨X7, 4, none⟩ = some (.bool false)) (by kernel_rfl) (by rw [hwd.out]; exact ⟨⟨hN.x5.cell 0, hN.x5.cell 1, hN.x5.cell 2, hN.x5.cell 3, hN.x5.cell 4⟩, ⟨hN.x6.cell 0, hN.x6.cell 1, hN.x6.cell 2, hN.x6.cell 3, hN.x6.cell 4⟩, by have := hN.x7.cell 4; rw [HTd.out] at this; exact this⟩) (fun hHeld => ?_)
        rw [hwd.out] at hHeld ⊢
        refine' wpAnyH_take (i := 0) (v := _) rfl (by kernel_rfl) (by kernel_rfl) (by kernel_rfl) (fun _ _ _ h => h) (Or.inl ⟨by kernel_rfl, ?hnt1⟩) (by assumption) ?rnt1
        case hnt1 => intro W hW; obtain ⟨⟨c0, c1, c2, c3, c4⟩, ⟨d0, d1, d2, d3, d4⟩, t4⟩ := hW; go_simp; all_goals with_reducible rfl
        change wpAnyH _ _ _ _ _ _ _ (Act.put _ (some 69) _) _
        simp only [Act.put, List.setIfInBounds_toArray, List.set_cons_zero, List.set_cons_succ]
        refine' wpAnyH_take (i := 2) (v := _) rfl (by kernel_rfl) (by kernel_rfl) (by kernel_rfl) (fun _ _ _ h => h) (Or.inl ⟨by kernel_rfl, ?hnt2⟩) (by assumption) ?rnt2
        case hnt2 => intro W hW; obtain ⟨⟨c0, c1, c2, c3, c4⟩, ⟨d0, d1, d2, d3, d4⟩, t4⟩ := hW; go_simp; all_goals with_reducible rfl
        change wpAnyH _ _ _ _ _ _ _ (Act.put _ (some 71) _) _
        simp only [Act.put, List.setIfInBounds_toArray, List.set_cons_zero, List.set_cons_succ]
        refine' wpAnyH_take (i := 3) (v := _) rfl (by kernel_rfl) (by kernel_rfl) (by kernel_rfl) (fun _ _ _ h => h) (Or.inl ⟨by kernel_rfl, ?hnt3⟩) (by assumption) ?rnt3
        case hnt3 => intro W hW; obtain ⟨⟨c0, c1, c2, c3, c4⟩, ⟨d0, d1, d2, d3, d4⟩, t4⟩ := hW; go_simp; all_goals with_reducible rfl
        change wpAnyH _ _ _ _ _ _ _ (Act.put _ (some 72) _) _
        simp only [Act.put, List.setIfInBounds_toArray, List.set_cons_zero, List.set_cons_succ]
        refine' wpAnyH_take (i := 4) (v := _) rfl (by kernel_rfl) (by kernel_rfl) (by kernel_rfl) (fun _ _ _ h => h) (Or.inl ⟨by kernel_rfl, ?hnt4⟩) (by assumption) ?rnt4
        case hnt4 => intro W hW; obtain ⟨⟨c0, c1, c2, c3, c4⟩, ⟨d0, d1, d2, d3, d4⟩, t4⟩ := hW; go_simp; all_goals with_reducible rfl
        change wpAnyH _ _ _ _ _ _ _ (Act.put _ (some 73) _) _
        simp only [Act.put, List.setIfInBounds_toArray, List.set_cons_zero, List.set_cons_succ]
        refine' wpAnyH_take (i := 5) (v := _) rfl (by kernel_rfl) (by kernel_rfl) (by kernel_rfl) (fun _ _ _ h => h) (Or.inl ⟨by kernel_rfl, ?hnt5⟩) (by assumption) ?rnt5
        case hnt5 => intro W hW; obtain ⟨⟨c0, c1, c2, c3, c4⟩, ⟨d0, d1, d2, d3, d4⟩, t4⟩ := hW; go_simp; all_goals with_reducible rfl
        change wpAnyH _ _ _ _ _ _ _ (Act.put _ (some 74) _) _
        simp only [Act.put, List.setIfInBounds_toArray, List.set_cons_zero, List.set_cons_succ]
        refine wpAnyH_ready (rs := [1]) (by kernel_rfl) (by simp) ?_
        refine AllReadyH.cons rfl (fun KK hK => ?_) AllReadyH.nil
        go_simp
        refine (says_bool (implDiskOk_any _ D _ hN.k5 HFD.out.1) true (by rw [HFD.out.2.2]; exact ⟨fun _ => hpos, fun _ => rfl⟩)).mono ?_
        rintro e wa ⟨rfl, hb1⟩
        replace hN := hN.on hb1
        clear hb1 hHeld
        go_wp2_with fail
        refine hK.out _ _ ⟨⟨hN.x5.cell 0, hN.x5.cell 1, hN.x5.cell 2, hN.x5.cell 3, hN.x5.cell 4⟩, ⟨hN.x6.cell 0, hN.x6.cell 1, hN.x6.cell 2, hN.x6.cell 3, hN.x6.cell 4⟩, by have := hN.x7.cell 4; rw [HTd.out] at this; exact this⟩ (fun hHeld => ?_)
        clear hK KK
        try simp only [Act.put, List.setIfInBounds_toArray, List.set_cons_zero, List.set_cons_succ]
        refine' wpAnyH_take (i := 6) (v := _) rfl (by kernel_rfl) (by kernel_rfl) (by kernel_rfl) (fun _ _ _ h => h) (Or.inl ⟨by kernel_rfl, ?hnt6⟩) (by assumption) ?rnt6
        case hnt6 => intro W hW; obtain ⟨⟨c0, c1, c2, c3, c4⟩, ⟨d0, d1, d2, d3, d4⟩, t4⟩ := hW; go_simp; all_goals with_reducible rfl
        change wpAnyH _ _ _ _ _ _ _ (Act.put _ (some 75) _) _
        simp only [Act.put, List.setIfInBounds_toArray, List.set_cons_zero, List.set_cons_succ]
        refine' wpAnyH_take (i := 7) (v := _) rfl (by kernel_rfl) (by kernel_rfl) (by kernel_rfl) (fun _ _ _ h => h) (Or.inl ⟨by kernel_rfl, ?hnt7⟩) (by assumption) ?rnt7
        case hnt7 => intro W hW; obtain ⟨⟨c0, c1, c2, c3, c4⟩, ⟨d0, d1, d2, d3, d4⟩, t4⟩ := hW; go_simp; all_goals with_reducible rfl
        change wpAnyH _ _ _ _ _ _ _ (Act.put _ (some 76) _) _
        simp only [Act.put, List.setIfInBounds_toArray, List.set_cons_zero, List.set_cons_succ]
        refine' wpAnyH_take (i := 8) (v := _) rfl (by kernel_rfl) (by kernel_rfl) (by kernel_rfl) (fun _ _ _ h => h) (Or.inl ⟨by kernel_rfl, ?hnt8⟩) (by assumption) ?rnt8
        case hnt8 => intro W hW; obtain ⟨⟨c0, c1, c2, c3, c4⟩, ⟨d0, d1, d2, d3, d4⟩, t4⟩ := hW; go_simp; all_goals with_reducible rfl
        change wpAnyH _ _ _ _ _ _ _ (Act.put _ (some 77) _) _
        simp only [Act.put, List.setIfInBounds_toArray, List.set_cons_zero, List.set_cons_succ]
        refine' wpAnyH_take (i := 9) (v := _) rfl (by kernel_rfl) (by kernel_rfl) (by kernel_rfl) (fun _ _ _ h => h) (Or.inl ⟨by kernel_rfl, ?hnt9⟩) (by assumption) ?rnt9
        case hnt9 => intro W hW; obtain ⟨⟨c0, c1, c2, c3, c4⟩, ⟨d0, d1, d2, d3, d4⟩, t4⟩ := hW; go_simp; all_goals with_reducible rfl
        change wpAnyH _ _ _ _ _ _ _ (Act.put _ (some 78) _) _
        simp only [Act.put, List.setIfInBounds_toArray, List.set_cons_zero, List.set_cons_succ]
        refine' wpAnyH_take (i := 10) (v := _) rfl (by kernel_rfl) (by kernel_rfl) (by kernel_rfl) (fun _ _ _ h => h) (Or.inl ⟨by kernel_rfl, ?hnt10⟩) (by assumption) ?rnt10
        case hnt10 => intro W hW; obtain ⟨⟨c0, c1, c2, c3, c4⟩, ⟨d0, d1, d2, d3, d4⟩, t4⟩ := hW; go_simp; all_goals with_reducible rfl
        change wpAnyH _ _ _ _ _ _ _ (Act.put _ (some 79) _) _
        simp only [Act.put, List.setIfInBounds_toArray, List.set_cons_zero, List.set_cons_succ]
        refine' wpAnyH_take (i := 11) (v := _) rfl (by kernel_rfl) (by kernel_rfl) (by kernel_rfl) (fun _ _ _ h => h) (Or.inl ⟨by kernel_rfl, ?hnt11⟩) (by assumption) ?rnt11
        case hnt11 => intro W hW; obtain ⟨⟨c0, c1, c2, c3, c4⟩, ⟨d0, d1, d2, d3, d4⟩, t4⟩ := hW; go_simp; all_goals with_reducible rfl
        change wpAnyH _ _ _ _ _ _ _ (Act.put _ (some 80) _) _
        simp only [Act.put, List.setIfInBounds_toArray, List.set_cons_zero, List.set_cons_succ]
        refine' wpAnyH_take (i := 12) (v := _) rfl (by kernel_rfl) (by kernel_rfl) (by kernel_rfl) (fun _ _ _ h => h) (Or.inl ⟨by kernel_rfl, ?hnt12⟩) (by assumption) ?rnt12
        case hnt12 => intro W hW; obtain ⟨⟨c0, c1, c2, c3, c4⟩, ⟨d0, d1, d2, d3, d4⟩, t4⟩ := hW; go_simp; all_goals with_reducible rfl
        change wpAnyH _ _ _ _ _ _ _ (Act.put _ (some 81) _) _
        simp only [Act.put, List.setIfInBounds_toArray, List.set_cons_zero, List.set_cons_succ]
        refine wpAnyH_ready (rs := [13]) (by kernel_rfl) (by simp) ?_
        refine AllReadyH.cons rfl (fun KK hK => ?_) AllReadyH.nil
        go_simp
        refine (specDiskNew_any z va vc l _ hN.fv (by omega)).mono ?_
        rintro e wb ⟨vn, rfl, hb2, hn2⟩
        obtain ⟨D2, hKO, hc2⟩ := new_cases hn2
        obtain rfl : D2 = D := by rcases HCS.out with ⟨a1, a2⟩ | ⟨a1, a2⟩ <;> rcases hc2 with ⟨b1, b2⟩ | ⟨b1, b2⟩ <;> first | exact b2.trans a2.symm | exact absurd b1 a1 | exact absurd a1 b1
        obtain ⟨nsa, nsc, nca, ncc, nfa, nfc, rfl, -, -, -⟩ := hKO.view.is
        clear hn2 hKO hc2
        replace hN := hN.on hb2
        clear hb2 hHeld
        go_wp2_with fail
        refine hK.out _ _ ⟨⟨hN.x5.cell 0, hN.x5.cell 1, hN.x5.cell 2, hN.x5.cell 3, hN.x5.cell 4⟩, ⟨hN.x6.cell 0, hN.x6.cell 1, hN.x6.cell 2, hN.x6.cell 3, hN.x6.cell 4⟩, by have := hN.x7.cell 4; rw [HTd.out] at this; exact this⟩ (fun hHeld => ?_)
        clear hK KK
        try simp only [Act.put, List.setIfInBounds_toArray, List.set_cons_zero, List.set_cons_succ]
        refine' wpAnyH_take (i := 14) (v := _) rfl (by kernel_rfl) (by kernel_rfl) (by kernel_rfl) (fun _ _ _ h => h) (Or.inl ⟨by kernel_rfl, ?hnt13⟩) (by assumption) ?rnt13
        case hnt13 => intro W hW; obtain ⟨⟨c0, c1, c2, c3, c4⟩, ⟨d0, d1, d2, d3, d4⟩, t4⟩ := hW; go_simp; all_goals with_reducible rfl
        change wpAnyH _ _ _ _ _ _ _ (Act.put _ (some 83) _) _
        simp only [Act.put, List.setIfInBounds_toArray, List.set_cons_zero, List.set_cons_succ]
        refine' wpAnyH_take (i := 15) (v := _) rfl (by kernel_rfl) (by kernel_rfl) (by kernel_rfl) (fun _ _ _ h => h) (Or.inl ⟨by kernel_rfl, ?hnt14⟩) (by assumption) ?rnt14
        case hnt14 => intro W hW; obtain ⟨⟨c0, c1, c2, c3, c4⟩, ⟨d0, d1, d2, d3, d4⟩, t4⟩ := hW; go_simp; all_goals with_reducible rfl
        change wpAnyH _ _ _ _ _ _ _ (Act.put _ (some 84) _) _
        simp only [Act.put, List.setIfInBounds_toArray, List.set_cons_zero, List.set_cons_succ]
        refine' wpAnyH_take (i := 16) (v := _) rfl (by kernel_rfl) (by kernel_rfl) (by kernel_rfl) (fun _ _ _ h => h) (Or.inl ⟨by kernel_rfl, ?hnt15⟩) (by assumption) ?rnt15
        case hnt15 => intro W hW; obtain ⟨⟨c0, c1, c2, c3, c4⟩, ⟨d0, d1, d2, d3, d4⟩, t4⟩ := hW; go_simp; all_goals with_reducible rfl
        change wpAnyH _ _ _ _ _ _ _ (Act.put _ (some 85) _) _
        simp only [Act.put, List.setIfInBounds_toArray, List.set_cons_zero, List.set_cons_succ]
        refine' wpAnyH_take (i := 17) (v := _) rfl (by kernel_rfl) (by kernel_rfl) (by kernel_rfl) (fun _ _ _ h => h) (Or.inl ⟨by kernel_rfl, ?hnt16⟩) (by assumption) ?rnt16
        case hnt16 => intro W hW; obtain ⟨⟨c0, c1, c2, c3, c4⟩, ⟨d0, d1, d2, d3, d4⟩, t4⟩ := hW; go_simp; all_goals with_reducible rfl
        change wpAnyH _ _ _ _ _ _ _ (Act.put _ (some 86) _) _
        simp only [Act.put, List.setIfInBounds_toArray, List.set_cons_zero, List.set_cons_succ]
        refine' wpAnyH_take (i := 18) (v := _) rfl (by kernel_rfl) (by kernel_rfl) (by kernel_rfl) (fun _ _ _ h => h) (Or.inl ⟨by kernel_rfl, ?hnt17⟩) (by assumption) ?rnt17
        case hnt17 => intro W hW; obtain ⟨⟨c0, c1, c2, c3, c4⟩, ⟨d0, d1, d2, d3, d4⟩, t4⟩ := hW; go_simp; all_goals with_reducible rfl
        change wpAnyH _ _ _ _ _ _ _ (Act.put _ (some 87) _) _
        simp only [Act.put, List.setIfInBounds_toArray, List.set_cons_zero, List.set_cons_succ]
        refine' wpAnyH_take (i := 19) (v := _) rfl (by kernel_rfl) (by kernel_rfl) (by kernel_rfl) (fun _ _ _ h => h) (Or.inl ⟨by kernel_rfl, ?hnt18⟩) (by assumption) ?rnt18
        case hnt18 => intro W hW; obtain ⟨⟨c0, c1, c2, c3, c4⟩, ⟨d0, d1, d2, d3, d4⟩, t4⟩ := hW; go_simp; all_goals with_reducible rfl
        change wpAnyH _ _ _ _ _ _ _ (Act.put _ (some 88) _) _
        simp only [Act.put, List.setIfInBounds_toArray, List.set_cons_zero, List.set_cons_succ]
        refine' wpAnyH_take (i := 21) (v := _) rfl (by kernel_rfl) (by kernel_rfl) (by kernel_rfl) (fun _ _ _ h => h) (Or.inl ⟨by kernel_rfl, ?hnt19⟩) (by assumption) ?rnt19
        case hnt19 => intro W hW; obtain ⟨⟨c0, c1, c2, c3, c4⟩, ⟨d0, d1, d2, d3, d4⟩, t4⟩ := hW; go_simp; all_goals with_reducible rfl
        change wpAnyH _ _ _ _ _ _ _ (Act.put _ (some 90) _) _
        simp only [Act.put, List.setIfInBounds_toArray, List.set_cons_zero, List.set_cons_succ]
        refine wpAnyH_ready (rs := [20]) (by kernel_rfl) (by simp) ?_
        refine AllReadyH.cons rfl (fun KK hK => ?_) AllReadyH.nil
        go_simp
        refine (says_bool (implDiskOk_any _ E _ hN.k6 hfE) okE hokE).mono ?_
        rintro e wc ⟨rfl, hb3⟩
        replace hN := hN.on hb3
        clear hb3 hHeld
        go_wp2_with fail
        refine hK.out _ _ ⟨⟨hN.x5.cell 0, hN.x5.cell 1, hN.x5.cell 2, hN.x5.cell 3, hN.x5.cell 4⟩, ⟨hN.x6.cell 0, hN.x6.cell 1, hN.x6.cell 2, hN.x6.cell 3, hN.x6.cell 4⟩, by have := hN.x7.cell 4; rw [HTd.out] at this; exact this⟩ (fun hHeld => ?_)
        clear hK KK
        try simp only [Act.put, List.setIfInBounds_toArray, List.set_cons_zero, List.set_cons_succ]
        refine wpAnyH_ready (rs := [22]) (by kernel_rfl) (by simp) ?_
        refine AllReadyH.cons rfl (fun KK hK => ?_) AllReadyH.nil
        go_simp
        refine (says_bool (specDiskOk_any _ E _ hN.k6 hfE) okE hokE).mono ?_
        rintro e wf ⟨rfl, hb4⟩
        replace hN := hN.on hb4
        clear hb4 hHeld
        go_wp2_with fail
        refine hK.out _ _ ⟨⟨hN.x5.cell 0, hN.x5.cell 1, hN.x5.cell 2, hN.x5.cell 3, hN.x5.cell 4⟩, ⟨hN.x6.cell 0, hN.x6.cell 1, hN.x6.cell 2, hN.x6.cell 3, hN.x6.cell 4⟩, by have := hN.x7.cell 4; rw [HTd.out] at this; exact this⟩ (fun hHeld => ?_)
        clear hK KK
        try simp only [Act.put, List.setIfInBounds_toArray, List.set_cons_zero, List.set_cons_succ]
        refine' wpAnyH_take (i := 23) (v := _) rfl (by kernel_rfl) (by kernel_rfl) (by kernel_rfl) (fun _ _ _ h => h) (Or.inl ⟨by kernel_rfl, ?hnt20⟩) (by assumption) ?rnt20
        case hnt20 => intro W hW; obtain ⟨⟨c0, c1, c2, c3, c4⟩, ⟨d0, d1, d2, d3, d4⟩, t4⟩ := hW; go_simp; all_goals with_reducible rfl
        change wpAnyH _ _ _ _ _ _ _ (Act.put _ (some 92) _) _
        simp only [Act.put, List.setIfInBounds_toArray, List.set_cons_zero, List.set_cons_succ]
        refine' wpAnyH_take (i := 24) (v := _) rfl (by kernel_rfl) (by kernel_rfl) (by kernel_rfl) (fun _ _ _ h => h) (Or.inl ⟨by kernel_rfl, ?hnt21⟩) (by assumption) ?rnt21
        case hnt21 => intro W hW; obtain ⟨⟨c0, c1, c2, c3, c4⟩, ⟨d0, d1, d2, d3, d4⟩, t4⟩ := hW; go_simp; all_goals with_reducible rfl
        change wpAnyH _ _ _ _ _ _ _ (Act.put _ (some 93) _) _
        simp only [Act.put, List.setIfInBounds_toArray, List.set_cons_zero, List.set_cons_succ]
        refine' wpAnyH_take (i := 25) (v := _) rfl (by kernel_rfl) (by kernel_rfl) (by kernel_rfl) (fun _ _ _ h => h) (Or.inl ⟨by kernel_rfl, ?hnt22⟩) (by assumption) ?rnt22
        case hnt22 => intro W hW; obtain ⟨⟨c0, c1, c2, c3, c4⟩, ⟨d0, d1, d2, d3, d4⟩, t4⟩ := hW; go_simp; all_goals with_reducible rfl
        change wpAnyH _ _ _ _ _ _ _ (Act.put _ (some 94) _) _
        simp only [Act.put, List.setIfInBounds_toArray, List.set_cons_zero, List.set_cons_succ]
        refine' wpAnyH_take (i := 26) (v := _) rfl (by kernel_rfl) (by kernel_rfl) (by kernel_rfl) (fun _ _ _ h => h) (Or.inl ⟨by kernel_rfl, ?hnt23⟩) (by assumption) ?rnt23
        case hnt23 => intro W hW; obtain ⟨⟨c0, c1, c2, c3, c4⟩, ⟨d0, d1, d2, d3, d4⟩, t4⟩ := hW; go_simp; all_goals with_reducible rfl
        change wpAnyH _ _ _ _ _ _ _ (Act.put _ (some 95) _) _
        simp only [Act.put, List.setIfInBounds_toArray, List.set_cons_zero, List.set_cons_succ]
        refine' wpAnyH_take (i := 27) (v := _) rfl (by kernel_rfl) (by kernel_rfl) (by kernel_rfl) (fun _ _ _ h => h) (Or.inl ⟨by kernel_rfl, ?hnt24⟩) (by assumption) ?rnt24
        case hnt24 => intro W hW; obtain ⟨⟨c0, c1, c2, c3, c4⟩, ⟨d0, d1, d2, d3, d4⟩, t4⟩ := hW; go_simp; all_goals with_reducible rfl
        change wpAnyH _ _ _ _ _ _ _ (Act.put _ (some 96) _) _
        simp only [Act.put, List.setIfInBounds_toArray, List.set_cons_zero, List.set_cons_succ]
        refine' wpAnyH_take (i := 28) (v := _) rfl (by kernel_rfl) (by kernel_rfl) (by kernel_rfl) (fun _ _ _ h => h) (Or.inl ⟨by kernel_rfl, ?hnt25⟩) (by assumption) ?rnt25
        case hnt25 => intro W hW; obtain ⟨⟨c0, c1, c2, c3, c4⟩, ⟨d0, d1, d2, d3, d4⟩, t4⟩ := hW; go_simp; all_goals with_reducible rfl
        change wpAnyH _ _ _ _ _ _ _ (Act.put _ (some 97) _) _
        simp only [Act.put, List.setIfInBounds_toArray, List.set_cons_zero, List.set_cons_succ]
        refine' wpAnyH_take (i := 29) (v := _) rfl (by kernel_rfl) (by kernel_rfl) (by kernel_rfl) (fun _ _ _ h => h) (Or.inl ⟨by kernel_rfl, ?hnt26⟩) (by assumption) ?rnt26
        case hnt26 => intro W hW; obtain ⟨⟨c0, c1, c2, c3, c4⟩, ⟨d0, d1, d2, d3, d4⟩, t4⟩ := hW; go_simp; all_goals with_reducible rfl
        change wpAnyH _ _ _ _ _ _ _ (Act.put _ (some 98) _) _
        simp only [Act.put, List.setIfInBounds_toArray, List.set_cons_zero, List.set_cons_succ]
        refine' wpAnyH_take (i := 30) (v := _) rfl (by kernel_rfl) (by kernel_rfl) (by kernel_rfl) (fun _ _ _ h => h) (Or.inl ⟨by kernel_rfl, ?hnt27⟩) (by assumption) ?rnt27
        case hnt27 => intro W hW; obtain ⟨⟨c0, c1, c2, c3, c4⟩, ⟨d0, d1, d2, d3, d4⟩, t4⟩ := hW; go_simp; all_goals with_reducible rfl
        change wpAnyH _ _ _ _ _ _ _ (Act.put _ (some 99) _) _
        simp only [Act.put, List.setIfInBounds_toArray, List.set_cons_zero, List.set_cons_succ]
        refine' wpAnyH_take (i := 31) (v := _) rfl (by kernel_rfl) (by kernel_rfl) (by kernel_rfl) (fun _ _ _ h => h) (Or.inl ⟨by kernel_rfl, ?hnt28⟩) (by assumption) ?rnt28
        case hnt28 => intro W hW; obtain ⟨⟨c0, c1, c2, c3, c4⟩, ⟨d0, d1, d2, d3, d4⟩, t4⟩ := hW; go_simp; all_goals with_reducible rfl
        change wpAnyH _ _ _ _ _ _ _ (Act.put _ (some 100) _) _
        simp only [Act.put, List.setIfInBounds_toArray, List.set_cons_zero, List.set_cons_succ]
        refine' wpAnyH_take (i := 32) (v := _) rfl (by kernel_rfl) (by kernel_rfl) (by kernel_rfl) (fun _ _ _ h => h) (Or.inl ⟨by kernel_rfl, ?hnt29⟩) (by assumption) ?rnt29
        case hnt29 => intro W hW; obtain ⟨⟨c0, c1, c2, c3, c4⟩, ⟨d0, d1, d2, d3, d4⟩, t4⟩ := hW; go_simp; all_goals with_reducible rfl
        change wpAnyH _ _ _ _ _ _ _ (Act.put _ (some 101) _) _
        simp only [Act.put, List.setIfInBounds_toArray, List.set_cons_zero, List.set_cons_succ]
        refine' wpAnyH_take (i := 33) (v := _) rfl (by kernel_rfl) (by kernel_rfl) (by kernel_rfl) (fun _ _ _ h => h) (Or.inl ⟨by kernel_rfl, ?hnt30⟩) (by assumption) ?rnt30
        case hnt30 => intro W hW; obtain ⟨⟨c0, c1, c2, c3, c4⟩, ⟨d0, d1, d2, d3, d4⟩, t4⟩ := hW; go_simp; all_goals with_reducible rfl
        change wpAnyH _ _ _ _ _ _ _ (Act.put _ (some 102) _) _
        simp only [Act.put, List.setIfInBounds_toArray, List.set_cons_zero, List.set_cons_succ]
        refine' wpAnyH_take (i := 34) (v := _) rfl (by kernel_rfl) (by kernel_rfl) (by kernel_rfl) (fun _ _ _ h => h) (Or.inl ⟨by kernel_rfl, ?hnt31⟩) (by assumption) ?rnt31
        case hnt31 => intro W hW; obtain ⟨⟨c0, c1, c2, c3, c4⟩, ⟨d0, d1, d2, d3, d4⟩, t4⟩ := hW; go_simp; all_goals with_reducible rfl
        change wpAnyH _ _ _ _ _ _ _ (Act.put _ (some 103) _) _
        simp only [Act.put, List.setIfInBounds_toArray, List.set_cons_zero, List.set_cons_succ]
        refine' wpAnyH_take (i := 35) (v := _) rfl (by kernel_rfl) (by kernel_rfl) (by kernel_rfl) (fun _ _ _ h => h) (Or.inl ⟨by kernel_rfl, ?hnt32⟩) (by assumption) ?rnt32
        case hnt32 => intro W hW; obtain ⟨⟨c0, c1, c2, c3, c4⟩, ⟨d0, d1, d2, d3, d4⟩, t4⟩ := hW; go_simp; all_goals with_reducible rfl
        change wpAnyH _ _ _ _ _ _ _ (Act.put _ (some 104) _) _
        simp only [Act.put, List.setIfInBounds_toArray, List.set_cons_zero, List.set_cons_succ]
        refine' wpAnyH_take (i := 36) (v := _) rfl (by kernel_rfl) (by kernel_rfl) (by kernel_rfl) (fun _ _ _ h => h) (Or.inl ⟨by kernel_rfl, ?hnt33⟩) (by assumption) ?rnt33
        case hnt33 => intro W hW; obtain ⟨⟨c0, c1, c2, c3, c4⟩, ⟨d0, d1, d2, d3, d4⟩, t4⟩ := hW; go_simp; all_goals with_reducible rfl
        change wpAnyH _ _ _ _ _ _ _ (Act.put _ (some 105) _) _
        simp only [Act.put, List.setIfInBounds_toArray, List.set_cons_zero, List.set_cons_succ]
        refine' wpAnyH_take (i := 37) (v := _) rfl (by kernel_rfl) (by kernel_rfl) (by kernel_rfl) (fun _ _ _ h => h) (Or.inl ⟨by kernel_rfl, ?hnt34⟩) (by assumption) ?rnt34
        case hnt34 => intro W hW; obtain ⟨⟨c0, c1, c2, c3, c4⟩, ⟨d0, d1, d2, d3, d4⟩, t4⟩ := hW; go_simp; all_goals with_reducible rfl
        change wpAnyH _ _ _ _ _ _ _ (Act.put _ (some 106) _) _
        simp only [Act.put, List.setIfInBounds_toArray, List.set_cons_zero, List.set_cons_succ]
        refine wpAnyH_ready (rs := [38]) (by kernel_rfl) (by simp) ?_
        refine AllReadyH.cons rfl (fun KK hK => ?_) AllReadyH.nil
        go_simp
        have hsm := sameBytes_any a10 a12 y.length y.length k10 k12 (bf y) (bf y) _ hN.v10 hN.v12 (by omega) (by omega)
        rw [decide_eq_true rfl] at hsm
        refine hsm.mono ?_
        rintro e wg ⟨rfl, hb5⟩
        clear hsm
        replace hN := hN.on hb5
        clear hb5 hHeld
        go_wp2_with fail
        refine hK.out _ _ ⟨⟨hN.x5.cell 0, hN.x5.cell 1, hN.x5.cell 2, hN.x5.cell 3, hN.x5.cell 4⟩, ⟨hN.x6.cell 0, hN.x6.cell 1, hN.x6.cell 2, hN.x6.cell 3, hN.x6.cell 4⟩, by have := hN.x7.cell 4; rw [HTd.out] at this; exact this⟩ (fun hHeld => ?_)
        clear hK KK
        try simp only [Act.put, List.setIfInBounds_toArray, List.set_cons_zero, List.set_cons_succ]
        refine' wpAnyH_take (i := 39) (v := _) rfl (by kernel_rfl) (by kernel_rfl) (by kernel_rfl) (fun _ _ _ h => h) (Or.inl ⟨by kernel_rfl, ?hnt35⟩) (by assumption) ?rnt35
        case hnt35 => intro W hW; obtain ⟨⟨c0, c1, c2, c3, c4⟩, ⟨d0, d1, d2, d3, d4⟩, t4⟩ := hW; go_simp; all_goals with_reducible rfl
        change wpAnyH _ _ _ _ _ _ _ (Act.put _ (some 108) _) _
        simp only [Act.put, List.setIfInBounds_toArray, List.set_cons_zero, List.set_cons_succ]
        refine' wpAnyH_take (i := 40) (v := _) rfl (by kernel_rfl) (by kernel_rfl) (by kernel_rfl) (fun _ _ _ h => h) (Or.inl ⟨by kernel_rfl, ?hnt36⟩) (by assumption) ?rnt36
        case hnt36 => intro W hW; obtain ⟨⟨c0, c1, c2, c3, c4⟩, ⟨d0, d1, d2, d3, d4⟩, t4⟩ := hW; go_simp; all_goals with_reducible rfl
        change wpAnyH _ _ _ _ _ _ _ (Act.put _ (some 2) _) _
        simp only [Act.put, List.setIfInBounds_toArray, List.set_cons_zero, List.set_cons_succ]
        refine wpAnyH_done (by kernel_rfl) ?_ _
        have HB : Hid _ := hN.below
        clear hN hHeld
        go_wp2
        go_ret
        exact ⟨rfl, HB.out⟩
      · have hpz : ¬ (0 : Int) < (D.secs.length : Int) := by omega
        refine wp_region_held_drew (S := fun W => (W.cell? ⟨X5, 0, none⟩ = some (.slice dsa D.secs.length dsc) ∧ W.cell? ⟨X5, 1, none⟩ = some (.slice dca D.cache.length dcc) ∧ W.cell? ⟨X5, 2, none⟩ = some (.int .i64 D.ops) ∧ W.cell? ⟨X5, 3, none⟩ = some (.slice dfa D.faults.length dfc) ∧ W.cell? ⟨X5, 4, none⟩ = some (.bool D.down)) ∧ (W.cell? ⟨X6, 0, none⟩ = some (.slice esa E.secs.length esc) ∧ W.cell? ⟨X6, 1, none⟩ = some (.slice eca E.cache.length ecc) ∧ W.cell? ⟨X6, 2, none⟩ = some (.int .i64 E.ops) ∧ W.cell? ⟨X6, 3, none⟩ = some (.slice efa E.faults.length efc) ∧ W.cell? ⟨X6, 4, none⟩ = some (.bool E.down)) ∧ W.cell? ⟨X7, 4, none⟩ = some (.bool false)) (by kernel_rfl) (by rw [hwd.out]; exact ⟨⟨hN.x5.cell 0, hN.x5.cell 1, hN.x5.cell 2, hN.x5.cell 3, hN.x5.cell 4⟩, ⟨hN.x6.cell 0, hN.x6.cell 1, hN.x6.cell 2, hN.x6.cell 3, hN.x6.cell 4⟩, by have := hN.x7.cell 4; rw [HTd.out] at this; exact this⟩) (fun hHeld => ?_)
        rw [hwd.out] at hHeld ⊢
        refine' wpAnyH_take (i := 0) (v := _) rfl (by kernel_rfl) (by kernel_rfl) (by kernel_rfl) (fun _ _ _ h => h) (Or.inl ⟨by kernel_rfl, ?hnf1⟩) (by assumption) ?rnf1
        case hnf1 => intro W hW; obtain ⟨⟨c0, c1, c2, c3, c4⟩, ⟨d0, d1, d2, d3, d4⟩, t4⟩ := hW; go_simp; all_goals with_reducible rfl
        change wpAnyH _ _ _ _ _ _ _ (Act.put _ (some 69) _) _
        simp only [Act.put, List.setIfInBounds_toArray, List.set_cons_zero, List.set_cons_succ]
        refine' wpAnyH_take (i := 2) (v := _) rfl (by kernel_rfl) (by kernel_rfl) (by kernel_rfl) (fun _ _ _ h => h) (Or.inl ⟨by kernel_rfl, ?hnf2⟩) (by assumption) ?rnf2
        case hnf2 => intro W hW; obtain ⟨⟨c0, c1, c2, c3, c4⟩, ⟨d0, d1, d2, d3, d4⟩, t4⟩ := hW; go_simp; all_goals with_reducible rfl
        change wpAnyH _ _ _ _ _ _ _ (Act.put _ (some 71) _) _
        simp only [Act.put, List.setIfInBounds_toArray, List.set_cons_zero, List.set_cons_succ]
        refine' wpAnyH_take (i := 3) (v := _) rfl (by kernel_rfl) (by kernel_rfl) (by kernel_rfl) (fun _ _ _ h => h) (Or.inl ⟨by kernel_rfl, ?hnf3⟩) (by assumption) ?rnf3
        case hnf3 => intro W hW; obtain ⟨⟨c0, c1, c2, c3, c4⟩, ⟨d0, d1, d2, d3, d4⟩, t4⟩ := hW; go_simp; all_goals with_reducible rfl
        change wpAnyH _ _ _ _ _ _ _ (Act.put _ (some 72) _) _
        simp only [Act.put, List.setIfInBounds_toArray, List.set_cons_zero, List.set_cons_succ]
        refine' wpAnyH_take (i := 4) (v := _) rfl (by kernel_rfl) (by kernel_rfl) (by kernel_rfl) (fun _ _ _ h => h) (Or.inl ⟨by kernel_rfl, ?hnf4⟩) (by assumption) ?rnf4
        case hnf4 => intro W hW; obtain ⟨⟨c0, c1, c2, c3, c4⟩, ⟨d0, d1, d2, d3, d4⟩, t4⟩ := hW; go_simp; all_goals with_reducible rfl
        change wpAnyH _ _ _ _ _ _ _ (Act.put _ (some 73) _) _
        simp only [Act.put, List.setIfInBounds_toArray, List.set_cons_zero, List.set_cons_succ]
        refine' wpAnyH_take (i := 5) (v := _) rfl (by kernel_rfl) (by kernel_rfl) (by kernel_rfl) (fun _ _ _ h => h) (Or.inl ⟨by kernel_rfl, ?hnf5⟩) (by assumption) ?rnf5
        case hnf5 => intro W hW; obtain ⟨⟨c0, c1, c2, c3, c4⟩, ⟨d0, d1, d2, d3, d4⟩, t4⟩ := hW; go_simp; all_goals with_reducible rfl
        change wpAnyH _ _ _ _ _ _ _ (Act.put _ (some 74) _) _
        simp only [Act.put, List.setIfInBounds_toArray, List.set_cons_zero, List.set_cons_succ]
        refine wpAnyH_ready (rs := [1]) (by kernel_rfl) (by simp) ?_
        refine AllReadyH.cons rfl (fun KK hK => ?_) AllReadyH.nil
        go_simp
        refine (says_bool (implDiskOk_any _ D _ hN.k5 HFD.out.1) false (by rw [HFD.out.2.2]; exact ⟨fun h => (by cases h), fun h => absurd h hpos⟩)).mono ?_
        rintro e wa ⟨rfl, hb1⟩
        replace hN := hN.on hb1
        clear hb1 hHeld
        go_wp2_with fail
        refine hK.out _ _ ⟨⟨hN.x5.cell 0, hN.x5.cell 1, hN.x5.cell 2, hN.x5.cell 3, hN.x5.cell 4⟩, ⟨hN.x6.cell 0, hN.x6.cell 1, hN.x6.cell 2, hN.x6.cell 3, hN.x6.cell 4⟩, by have := hN.x7.cell 4; rw [HTd.out] at this; exact this⟩ (fun hHeld => ?_)
        clear hK KK
        try simp only [Act.put, List.setIfInBounds_toArray, List.set_cons_zero, List.set_cons_succ]
        refine' wpAnyH_take (i := 6) (v := _) rfl (by kernel_rfl) (by kernel_rfl) (by kernel_rfl) (fun _ _ _ h => h) (Or.inl ⟨by kernel_rfl, ?hnf6⟩) (by assumption) ?rnf6
        case hnf6 => intro W hW; obtain ⟨⟨c0, c1, c2, c3, c4⟩, ⟨d0, d1, d2, d3, d4⟩, t4⟩ := hW; go_simp; all_goals with_reducible rfl
        change wpAnyH _ _ _ _ _ _ _ (Act.put _ (some 75) _) _
        simp only [Act.put, List.setIfInBounds_toArray, List.set_cons_zero, List.set_cons_succ]
        refine' wpAnyH_take (i := 7) (v := _) rfl (by kernel_rfl) (by kernel_rfl) (by kernel_rfl) (fun _ _ _ h => h) (Or.inl ⟨by kernel_rfl, ?hnf7⟩) (by assumption) ?rnf7
        case hnf7 => intro W hW; obtain ⟨⟨c0, c1, c2, c3, c4⟩, ⟨d0, d1, d2, d3, d4⟩, t4⟩ := hW; go_simp; all_goals with_reducible rfl
        change wpAnyH _ _ _ _ _ _ _ (Act.put _ (some 76) _) _
        simp only [Act.put, List.setIfInBounds_toArray, List.set_cons_zero, List.set_cons_succ]
        refine' wpAnyH_take (i := 8) (v := _) rfl (by kernel_rfl) (by kernel_rfl) (by kernel_rfl) (fun _ _ _ h => h) (Or.inl ⟨by kernel_rfl, ?hnf8⟩) (by assumption) ?rnf8
        case hnf8 => intro W hW; obtain ⟨⟨c0, c1, c2, c3, c4⟩, ⟨d0, d1, d2, d3, d4⟩, t4⟩ := hW; go_simp; all_goals with_reducible rfl
        change wpAnyH _ _ _ _ _ _ _ (Act.put _ (some 77) _) _
        simp only [Act.put, List.setIfInBounds_toArray, List.set_cons_zero, List.set_cons_succ]
        refine' wpAnyH_take (i := 9) (v := _) rfl (by kernel_rfl) (by kernel_rfl) (by kernel_rfl) (fun _ _ _ h => h) (Or.inl ⟨by kernel_rfl, ?hnf9⟩) (by assumption) ?rnf9
        case hnf9 => intro W hW; obtain ⟨⟨c0, c1, c2, c3, c4⟩, ⟨d0, d1, d2, d3, d4⟩, t4⟩ := hW; go_simp; all_goals with_reducible rfl
        change wpAnyH _ _ _ _ _ _ _ (Act.put _ (some 78) _) _
        simp only [Act.put, List.setIfInBounds_toArray, List.set_cons_zero, List.set_cons_succ]
        refine' wpAnyH_take (i := 10) (v := _) rfl (by kernel_rfl) (by kernel_rfl) (by kernel_rfl) (fun _ _ _ h => h) (Or.inl ⟨by kernel_rfl, ?hnf10⟩) (by assumption) ?rnf10
        case hnf10 => intro W hW; obtain ⟨⟨c0, c1, c2, c3, c4⟩, ⟨d0, d1, d2, d3, d4⟩, t4⟩ := hW; go_simp; all_goals with_reducible rfl
        change wpAnyH _ _ _ _ _ _ _ (Act.put _ (some 79) _) _
        simp only [Act.put, List.setIfInBounds_toArray, List.set_cons_zero, List.set_cons_succ]
        refine' wpAnyH_take (i := 11) (v := _) rfl (by kernel_rfl) (by kernel_rfl) (by kernel_rfl) (fun _ _ _ h => h) (Or.inl ⟨by kernel_rfl, ?hnf11⟩) (by assumption) ?rnf11
        case hnf11 => intro W hW; obtain ⟨⟨c0, c1, c2, c3, c4⟩, ⟨d0, d1, d2, d3, d4⟩, t4⟩ := hW; go_simp; all_goals with_reducible rfl
        change wpAnyH _ _ _ _ _ _ _ (Act.put _ (some 80) _) _
        simp only [Act.put, List.setIfInBounds_toArray, List.set_cons_zero, List.set_cons_succ]
        refine' wpAnyH_take (i := 12) (v := _) rfl (by kernel_rfl) (by kernel_rfl) (by kernel_rfl) (fun _ _ _ h => h) (Or.inl ⟨by kernel_rfl, ?hnf12⟩) (by assumption) ?rnf12
        case hnf12 => intro W hW; obtain ⟨⟨c0, c1, c2, c3, c4⟩, ⟨d0, d1, d2, d3, d4⟩, t4⟩ := hW; go_simp; all_goals with_reducible rfl
        change wpAnyH _ _ _ _ _ _ _ (Act.put _ (some 81) _) _
        simp only [Act.put, List.setIfInBounds_toArray, List.set_cons_zero, List.set_cons_succ]
        refine wpAnyH_ready (rs := [13]) (by kernel_rfl) (by simp) ?_
        refine AllReadyH.cons rfl (fun KK hK => ?_) AllReadyH.nil
        go_simp
        refine (specDiskNew_any z va vc l _ hN.fv (by omega)).mono ?_
        rintro e wb ⟨vn, rfl, hb2, hn2⟩
        obtain ⟨D2, hKO, hc2⟩ := new_cases hn2
        obtain rfl : D2 = D := by rcases HCS.out with ⟨a1, a2⟩ | ⟨a1, a2⟩ <;> rcases hc2 with ⟨b1, b2⟩ | ⟨b1, b2⟩ <;> first | exact b2.trans a2.symm | exact absurd b1 a1 | exact absurd a1 b1
        obtain ⟨nsa, nsc, nca, ncc, nfa, nfc, rfl, -, -, -⟩ := hKO.view.is
        clear hn2 hKO hc2
        replace hN := hN.on hb2
        clear hb2 hHeld
        go_wp2_with fail
        refine hK.out _ _ ⟨⟨hN.x5.cell 0, hN.x5.cell 1, hN.x5.cell 2, hN.x5.cell 3, hN.x5.cell 4⟩, ⟨hN.x6.cell 0, hN.x6.cell 1, hN.x6.cell 2, hN.x6.cell 3, hN.x6.cell 4⟩, by have := hN.x7.cell 4; rw [HTd.out] at this; exact this⟩ (fun hHeld => ?_)
        clear hK KK
        try simp only [Act.put, List.setIfInBounds_toArray, List.set_cons_zero, List.set_cons_succ]
        refine' wpAnyH_take (i := 14) (v := _) rfl (by kernel_rfl) (by kernel_rfl) (by kernel_rfl) (fun _ _ _ h => h) (Or.inl ⟨by kernel_rfl, ?hnf13⟩) (by assumption) ?rnf13
        case hnf13 => intro W hW; obtain ⟨⟨c0, c1, c2, c3, c4⟩, ⟨d0, d1, d2, d3, d4⟩, t4⟩ := hW; go_simp; all_goals with_reducible rfl
        change wpAnyH _ _ _ _ _ _ _ (Act.put _ (some 83) _) _
        simp only [Act.put, List.setIfInBounds_toArray, List.set_cons_zero, List.set_cons_succ]
        refine' wpAnyH_take (i := 15) (v := _) rfl (by kernel_rfl) (by kernel_rfl) (by kernel_rfl) (fun _ _ _ h => h) (Or.inl ⟨by kernel_rfl, ?hnf14⟩) (by assumption) ?rnf14
        case hnf14 => intro W hW; obtain ⟨⟨c0, c1, c2, c3, c4⟩, ⟨d0, d1, d2, d3, d4⟩, t4⟩ := hW; go_simp; all_goals with_reducible rfl
        change wpAnyH _ _ _ _ _ _ _ (Act.put _ (some 84) _) _
        simp only [Act.put, List.setIfInBounds_toArray, List.set_cons_zero, List.set_cons_succ]
        refine' wpAnyH_take (i := 16) (v := _) rfl (by kernel_rfl) (by kernel_rfl) (by kernel_rfl) (fun _ _ _ h => h) (Or.inl ⟨by kernel_rfl, ?hnf15⟩) (by assumption) ?rnf15
        case hnf15 => intro W hW; obtain ⟨⟨c0, c1, c2, c3, c4⟩, ⟨d0, d1, d2, d3, d4⟩, t4⟩ := hW; go_simp; all_goals with_reducible rfl
        change wpAnyH _ _ _ _ _ _ _ (Act.put _ (some 85) _) _
        simp only [Act.put, List.setIfInBounds_toArray, List.set_cons_zero, List.set_cons_succ]
        refine' wpAnyH_take (i := 17) (v := _) rfl (by kernel_rfl) (by kernel_rfl) (by kernel_rfl) (fun _ _ _ h => h) (Or.inl ⟨by kernel_rfl, ?hnf16⟩) (by assumption) ?rnf16
        case hnf16 => intro W hW; obtain ⟨⟨c0, c1, c2, c3, c4⟩, ⟨d0, d1, d2, d3, d4⟩, t4⟩ := hW; go_simp; all_goals with_reducible rfl
        change wpAnyH _ _ _ _ _ _ _ (Act.put _ (some 86) _) _
        simp only [Act.put, List.setIfInBounds_toArray, List.set_cons_zero, List.set_cons_succ]
        refine' wpAnyH_take (i := 18) (v := _) rfl (by kernel_rfl) (by kernel_rfl) (by kernel_rfl) (fun _ _ _ h => h) (Or.inl ⟨by kernel_rfl, ?hnf17⟩) (by assumption) ?rnf17
        case hnf17 => intro W hW; obtain ⟨⟨c0, c1, c2, c3, c4⟩, ⟨d0, d1, d2, d3, d4⟩, t4⟩ := hW; go_simp; all_goals with_reducible rfl
        change wpAnyH _ _ _ _ _ _ _ (Act.put _ (some 87) _) _
        simp only [Act.put, List.setIfInBounds_toArray, List.set_cons_zero, List.set_cons_succ]
        refine' wpAnyH_take (i := 19) (v := _) rfl (by kernel_rfl) (by kernel_rfl) (by kernel_rfl) (fun _ _ _ h => h) (Or.inl ⟨by kernel_rfl, ?hnf18⟩) (by assumption) ?rnf18
        case hnf18 => intro W hW; obtain ⟨⟨c0, c1, c2, c3, c4⟩, ⟨d0, d1, d2, d3, d4⟩, t4⟩ := hW; go_simp; all_goals with_reducible rfl
        change wpAnyH _ _ _ _ _ _ _ (Act.put _ (some 88) _) _
        simp only [Act.put, List.setIfInBounds_toArray, List.set_cons_zero, List.set_cons_succ]
        refine' wpAnyH_take (i := 21) (v := _) rfl (by kernel_rfl) (by kernel_rfl) (by kernel_rfl) (fun _ _ _ h => h) (Or.inl ⟨by kernel_rfl, ?hnf19⟩) (by assumption) ?rnf19
        case hnf19 => intro W hW; obtain ⟨⟨c0, c1, c2, c3, c4⟩, ⟨d0, d1, d2, d3, d4⟩, t4⟩ := hW; go_simp; all_goals with_reducible rfl
        change wpAnyH _ _ _ _ _ _ _ (Act.put _ (some 90) _) _
        simp only [Act.put, List.setIfInBounds_toArray, List.set_cons_zero, List.set_cons_succ]
        refine wpAnyH_ready (rs := [20]) (by kernel_rfl) (by simp) ?_
        refine AllReadyH.cons rfl (fun KK hK => ?_) AllReadyH.nil
        go_simp
        refine (says_bool (implDiskOk_any _ E _ hN.k6 hfE) okE hokE).mono ?_
        rintro e wc ⟨rfl, hb3⟩
        replace hN := hN.on hb3
        clear hb3 hHeld
        go_wp2_with fail
        refine hK.out _ _ ⟨⟨hN.x5.cell 0, hN.x5.cell 1, hN.x5.cell 2, hN.x5.cell 3, hN.x5.cell 4⟩, ⟨hN.x6.cell 0, hN.x6.cell 1, hN.x6.cell 2, hN.x6.cell 3, hN.x6.cell 4⟩, by have := hN.x7.cell 4; rw [HTd.out] at this; exact this⟩ (fun hHeld => ?_)
        clear hK KK
        try simp only [Act.put, List.setIfInBounds_toArray, List.set_cons_zero, List.set_cons_succ]
        refine wpAnyH_ready (rs := [22]) (by kernel_rfl) (by simp) ?_
        refine AllReadyH.cons rfl (fun KK hK => ?_) AllReadyH.nil
        go_simp
        refine (says_bool (specDiskOk_any _ E _ hN.k6 hfE) okE hokE).mono ?_
        rintro e wf ⟨rfl, hb4⟩
        replace hN := hN.on hb4
        clear hb4 hHeld
        go_wp2_with fail
        refine hK.out _ _ ⟨⟨hN.x5.cell 0, hN.x5.cell 1, hN.x5.cell 2, hN.x5.cell 3, hN.x5.cell 4⟩, ⟨hN.x6.cell 0, hN.x6.cell 1, hN.x6.cell 2, hN.x6.cell 3, hN.x6.cell 4⟩, by have := hN.x7.cell 4; rw [HTd.out] at this; exact this⟩ (fun hHeld => ?_)
        clear hK KK
        try simp only [Act.put, List.setIfInBounds_toArray, List.set_cons_zero, List.set_cons_succ]
        refine' wpAnyH_take (i := 23) (v := _) rfl (by kernel_rfl) (by kernel_rfl) (by kernel_rfl) (fun _ _ _ h => h) (Or.inl ⟨by kernel_rfl, ?hnf20⟩) (by assumption) ?rnf20
        case hnf20 => intro W hW; obtain ⟨⟨c0, c1, c2, c3, c4⟩, ⟨d0, d1, d2, d3, d4⟩, t4⟩ := hW; go_simp; all_goals with_reducible rfl
        change wpAnyH _ _ _ _ _ _ _ (Act.put _ (some 92) _) _
        simp only [Act.put, List.setIfInBounds_toArray, List.set_cons_zero, List.set_cons_succ]
        refine' wpAnyH_take (i := 24) (v := _) rfl (by kernel_rfl) (by kernel_rfl) (by kernel_rfl) (fun _ _ _ h => h) (Or.inl ⟨by kernel_rfl, ?hnf21⟩) (by assumption) ?rnf21
        case hnf21 => intro W hW; obtain ⟨⟨c0, c1, c2, c3, c4⟩, ⟨d0, d1, d2, d3, d4⟩, t4⟩ := hW; go_simp; all_goals with_reducible rfl
        change wpAnyH _ _ _ _ _ _ _ (Act.put _ (some 93) _) _
        simp only [Act.put, List.setIfInBounds_toArray, List.set_cons_zero, List.set_cons_succ]
        refine' wpAnyH_take (i := 25) (v := _) rfl (by kernel_rfl) (by kernel_rfl) (by kernel_rfl) (fun _ _ _ h => h) (Or.inl ⟨by kernel_rfl, ?hnf22⟩) (by assumption) ?rnf22
        case hnf22 => intro W hW; obtain ⟨⟨c0, c1, c2, c3, c4⟩, ⟨d0, d1, d2, d3, d4⟩, t4⟩ := hW; go_simp; all_goals with_reducible rfl
        change wpAnyH _ _ _ _ _ _ _ (Act.put _ (some 94) _) _
        simp only [Act.put, List.setIfInBounds_toArray, List.set_cons_zero, List.set_cons_succ]
        refine' wpAnyH_take (i := 26) (v := _) rfl (by kernel_rfl) (by kernel_rfl) (by kernel_rfl) (fun _ _ _ h => h) (Or.inl ⟨by kernel_rfl, ?hnf23⟩) (by assumption) ?rnf23
        case hnf23 => intro W hW; obtain ⟨⟨c0, c1, c2, c3, c4⟩, ⟨d0, d1, d2, d3, d4⟩, t4⟩ := hW; go_simp; all_goals with_reducible rfl
        change wpAnyH _ _ _ _ _ _ _ (Act.put _ (some 95) _) _
        simp only [Act.put, List.setIfInBounds_toArray, List.set_cons_zero, List.set_cons_succ]
        refine' wpAnyH_take (i := 27) (v := _) rfl (by kernel_rfl) (by kernel_rfl) (by kernel_rfl) (fun _ _ _ h => h) (Or.inl ⟨by kernel_rfl, ?hnf24⟩) (by assumption) ?rnf24
        case hnf24 => intro W hW; obtain ⟨⟨c0, c1, c2, c3, c4⟩, ⟨d0, d1, d2, d3, d4⟩, t4⟩ := hW; go_simp; all_goals with_reducible rfl
        change wpAnyH _ _ _ _ _ _ _ (Act.put _ (some 96) _) _
        simp only [Act.put, List.setIfInBounds_toArray, List.set_cons_zero, List.set_cons_succ]
        refine' wpAnyH_take (i := 28) (v := _) rfl (by kernel_rfl) (by kernel_rfl) (by kernel_rfl) (fun _ _ _ h => h) (Or.inl ⟨by kernel_rfl, ?hnf25⟩) (by assumption) ?rnf25
        case hnf25 => intro W hW; obtain ⟨⟨c0, c1, c2, c3, c4⟩, ⟨d0, d1, d2, d3, d4⟩, t4⟩ := hW; go_simp; all_goals with_reducible rfl
        change wpAnyH _ _ _ _ _ _ _ (Act.put _ (some 97) _) _
        simp only [Act.put, List.setIfInBounds_toArray, List.set_cons_zero, List.set_cons_succ]
        refine' wpAnyH_take (i := 29) (v := _) rfl (by kernel_rfl) (by kernel_rfl) (by kernel_rfl) (fun _ _ _ h => h) (Or.inl ⟨by kernel_rfl, ?hnf26⟩) (by assumption) ?rnf26
        case hnf26 => intro W hW; obtain ⟨⟨c0, c1, c2, c3, c4⟩, ⟨d0, d1, d2, d3, d4⟩, t4⟩ := hW; go_simp; all_goals with_reducible rfl
        change wpAnyH _ _ _ _ _ _ _ (Act.put _ (some 98) _) _
        simp only [Act.put, List.setIfInBounds_toArray, List.set_cons_zero, List.set_cons_succ]
        refine' wpAnyH_take (i := 30) (v := _) rfl (by kernel_rfl) (by kernel_rfl) (by kernel_rfl) (fun _ _ _ h => h) (Or.inl ⟨by kernel_rfl, ?hnf27⟩) (by assumption) ?rnf27
        case hnf27 => intro W hW; obtain ⟨⟨c0, c1, c2, c3, c4⟩, ⟨d0, d1, d2, d3, d4⟩, t4⟩ := hW; go_simp; all_goals with_reducible rfl
        change wpAnyH _ _ _ _ _ _ _ (Act.put _ (some 99) _) _
        simp only [Act.put, List.setIfInBounds_toArray, List.set_cons_zero, List.set_cons_succ]
        refine' wpAnyH_take (i := 31) (v := _) rfl (by kernel_rfl) (by kernel_rfl) (by kernel_rfl) (fun _ _ _ h => h) (Or.inl ⟨by kernel_rfl, ?hnf28⟩) (by assumption) ?rnf28
        case hnf28 => intro W hW; obtain ⟨⟨c0, c1, c2, c3, c4⟩, ⟨d0, d1, d2, d3, d4⟩, t4⟩ := hW; go_simp; all_goals with_reducible rfl
        change wpAnyH _ _ _ _ _ _ _ (Act.put _ (some 100) _) _
        simp only [Act.put, List.setIfInBounds_toArray, List.set_cons_zero, List.set_cons_succ]
        refine' wpAnyH_take (i := 32) (v := _) rfl (by kernel_rfl) (by kernel_rfl) (by kernel_rfl) (fun _ _ _ h => h) (Or.inl ⟨by kernel_rfl, ?hnf29⟩) (by assumption) ?rnf29
        case hnf29 => intro W hW; obtain ⟨⟨c0, c1, c2, c3, c4⟩, ⟨d0, d1, d2, d3, d4⟩, t4⟩ := hW; go_simp; all_goals with_reducible rfl
        change wpAnyH _ _ _ _ _ _ _ (Act.put _ (some 101) _) _
        simp only [Act.put, List.setIfInBounds_toArray, List.set_cons_zero, List.set_cons_succ]
        refine' wpAnyH_take (i := 33) (v := _) rfl (by kernel_rfl) (by kernel_rfl) (by kernel_rfl) (fun _ _ _ h => h) (Or.inl ⟨by kernel_rfl, ?hnf30⟩) (by assumption) ?rnf30
        case hnf30 => intro W hW; obtain ⟨⟨c0, c1, c2, c3, c4⟩, ⟨d0, d1, d2, d3, d4⟩, t4⟩ := hW; go_simp; all_goals with_reducible rfl
        change wpAnyH _ _ _ _ _ _ _ (Act.put _ (some 102) _) _
        simp only [Act.put, List.setIfInBounds_toArray, List.set_cons_zero, List.set_cons_succ]
        refine' wpAnyH_take (i := 34) (v := _) rfl (by kernel_rfl) (by kernel_rfl) (by kernel_rfl) (fun _ _ _ h => h) (Or.inl ⟨by kernel_rfl, ?hnf31⟩) (by assumption) ?rnf31
        case hnf31 => intro W hW; obtain ⟨⟨c0, c1, c2, c3, c4⟩, ⟨d0, d1, d2, d3, d4⟩, t4⟩ := hW; go_simp; all_goals with_reducible rfl
        change wpAnyH _ _ _ _ _ _ _ (Act.put _ (some 103) _) _
        simp only [Act.put, List.setIfInBounds_toArray, List.set_cons_zero, List.set_cons_succ]
        refine' wpAnyH_take (i := 35) (v := _) rfl (by kernel_rfl) (by kernel_rfl) (by kernel_rfl) (fun _ _ _ h => h) (Or.inl ⟨by kernel_rfl, ?hnf32⟩) (by assumption) ?rnf32
        case hnf32 => intro W hW; obtain ⟨⟨c0, c1, c2, c3, c4⟩, ⟨d0, d1, d2, d3, d4⟩, t4⟩ := hW; go_simp; all_goals with_reducible rfl
        change wpAnyH _ _ _ _ _ _ _ (Act.put _ (some 104) _) _
        simp only [Act.put, List.setIfInBounds_toArray, List.set_cons_zero, List.set_cons_succ]
        refine' wpAnyH_take (i := 36) (v := _) rfl (by kernel_rfl) (by kernel_rfl) (by kernel_rfl) (fun _ _ _ h => h) (Or.inl ⟨by kernel_rfl, ?hnf33⟩) (by assumption) ?rnf33
        case hnf33 => intro W hW; obtain ⟨⟨c0, c1, c2, c3, c4⟩, ⟨d0, d1, d2, d3, d4⟩, t4⟩ := hW; go_simp; all_goals with_reducible rfl
        change wpAnyH _ _ _ _ _ _ _ (Act.put _ (some 105) _) _
        simp only [Act.put, List.setIfInBounds_toArray, List.set_cons_zero, List.set_cons_succ]
        refine' wpAnyH_take (i := 37) (v := _) rfl (by kernel_rfl) (by kernel_rfl) (by kernel_rfl) (fun _ _ _ h => h) (Or.inl ⟨by kernel_rfl, ?hnf34⟩) (by assumption) ?rnf34
        case hnf34 => intro W hW; obtain ⟨⟨c0, c1, c2, c3, c4⟩, ⟨d0, d1, d2, d3, d4⟩, t4⟩ := hW; go_simp; all_goals with_reducible rfl
        change wpAnyH _ _ _ _ _ _ _ (Act.put _ (some 106) _) _
        simp only [Act.put, List.setIfInBounds_toArray, List.set_cons_zero, List.set_cons_succ]
        refine wpAnyH_ready (rs := [38]) (by kernel_rfl) (by simp) ?_
        refine AllReadyH.cons rfl (fun KK hK => ?_) AllReadyH.nil
        go_simp
        have hsm := sameBytes_any a10 a12 y.length y.length k10 k12 (bf y) (bf y) _ hN.v10 hN.v12 (by omega) (by omega)
        rw [decide_eq_true rfl] at hsm
        refine hsm.mono ?_
        rintro e wg ⟨rfl, hb5⟩
        clear hsm
        replace hN := hN.on hb5
        clear hb5 hHeld
        go_wp2_with fail
        refine hK.out _ _ ⟨⟨hN.x5.cell 0, hN.x5.cell 1, hN.x5.cell 2, hN.x5.cell 3, hN.x5.cell 4⟩, ⟨hN.x6.cell 0, hN.x6.cell 1, hN.x6.cell 2, hN.x6.cell 3, hN.x6.cell 4⟩, by have := hN.x7.cell 4; rw [HTd.out] at this; exact this⟩ (fun hHeld => ?_)
        clear hK KK
        try simp only [Act.put, List.setIfInBounds_toArray, List.set_cons_zero, List.set_cons_succ]
        refine' wpAnyH_take (i := 39) (v := _) rfl (by kernel_rfl) (by kernel_rfl) (by kernel_rfl) (fun _ _ _ h => h) (Or.inl ⟨by kernel_rfl, ?hnf35⟩) (by assumption) ?rnf35
        case hnf35 => intro W hW; obtain ⟨⟨c0, c1, c2, c3, c4⟩, ⟨d0, d1, d2, d3, d4⟩, t4⟩ := hW; go_simp; all_goals with_reducible rfl
        change wpAnyH _ _ _ _ _ _ _ (Act.put _ (some 108) _) _
        simp only [Act.put, List.setIfInBounds_toArray, List.set_cons_zero, List.set_cons_succ]
        refine' wpAnyH_take (i := 40) (v := _) rfl (by kernel_rfl) (by kernel_rfl) (by kernel_rfl) (fun _ _ _ h => h) (Or.inl ⟨by kernel_rfl, ?hnf36⟩) (by assumption) ?rnf36
        case hnf36 => intro W hW; obtain ⟨⟨c0, c1, c2, c3, c4⟩, ⟨d0, d1, d2, d3, d4⟩, t4⟩ := hW; go_simp; all_goals with_reducible rfl
        change wpAnyH _ _ _ _ _ _ _ (Act.put _ (some 2) _) _
        simp only [Act.put, List.setIfInBounds_toArray, List.set_cons_zero, List.set_cons_succ]
        refine wpAnyH_done (by kernel_rfl) ?_ _
        have HB : Hid _ := hN.below
        clear hN hHeld
        go_wp2
        go_ret
        exact ⟨rfl, HB.out⟩
end Go.Proofs.Ytdhfbblameiloaa

