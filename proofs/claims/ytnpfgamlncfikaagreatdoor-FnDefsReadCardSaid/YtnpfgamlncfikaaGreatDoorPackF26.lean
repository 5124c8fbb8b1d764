/-
  Together: EqDef, EqDefs, TokOkImpl
-/
import Derived.Test.YtnpfgamlncfikaaGreatDoorPackF4
import Derived.Test.YtnpfgamlncfikaaGreatDoorPackF25
import Derived.Test.YtnpfgamlncfikaaGreatDoorPackF5
import Derived.Deep.LoopGhost
import Derived.Deep.RegionHeld3
import Derived.Test.YtnpfgamlncfikaaGreatDoorPackF12
import Derived.Test.YtnpfgamlncfikaaGreatDoorLexImpl
import Derived.Test.YtnpfgamlncfikaaGreatDoorPackF8
import Derived.BigQuiet
import Derived.Deep.QuietTactic
/-
  Tables that read alike are alike, as the law holds them against each other.
-/
namespace Go.Proofs.YtnpfgamlncfikaaGreatDoor
open Go.RowKit
set_option maxRecDepth 4000

set_option maxHeartbeats 1000000 in
theorem eqBy_same (c : Int) (d : Bool) (w : World) :
    Calls Tryz.prog 128 #[.agg #[.int .i64 c, .bool d], .agg #[.int .i64 c, .bool d]] w fun e w' => e = .returned (.bool true) ∧ Below w.heap.size w w' := by
  have e1 : (c != c) = false := bne_self_eq_false _
  have e2 : (d != d) = false := bne_self_eq_false _
  go_enter Tryz.func128, Tryz.ntmps128
  go_wp2
  go_ret
  refine ⟨rfl, ?_⟩
  repeat (first | exact Below.refl _ _ | refine Below.alloc ?_ (by simp <;> omega) _ | refine Below.drew ?_)

set_option maxHeartbeats 1000000 in
theorem eqCol_same (s : ByteArray) (c : Int) (d : Bool) (w : World) :
    Calls Tryz.prog 127 #[.agg #[.string s, .int .i64 c, .bool d], .agg #[.string s, .int .i64 c, .bool d]] w fun e w' => e = .returned (.bool true) ∧ Below w.heap.size w w' := by
  have e0 := bytes_eq (a := s) rfl
  have e1 : (c != c) = false := bne_self_eq_false _
  have e2 : (d != d) = false := bne_self_eq_false _
  go_enter Tryz.func127, Tryz.ntmps127
  go_wp2
  go_ret
  refine ⟨rfl, ?_⟩
  repeat (first | exact Below.refl _ _ | refine Below.alloc ?_ (by simp <;> omega) _ | refine Below.drew ?_)

set_option maxHeartbeats 2000000 in
theorem eqByS_same (a1 a2 : Option Addr) (n c1 c2 : Nat) (f : Nat → PBy) (w : World) (h1 : BView w a1 n c1 f) (h2 : BView w a2 n c2 f) (hn : n ≤ 1048576) :
    Calls Tryz.prog 88 #[.slice a1 n c1, .slice a2 n c2] w fun e w' => e = .returned (.bool true) ∧ Below w.heap.size w w' := by
  go_enter Tryz.func88, Tryz.ntmps88
  go_wp2
  go_loopg [5] n (fun q i wr => ∃ k : Nat, k ≤ n ∧ q = n - k ∧ i = .int .i64 k ∧ Below w.heap.size w wr)
  case atStart => exact ⟨0, Nat.zero_le _, rfl, rfl, Below.refl _ _⟩
  case round =>
    obtain ⟨k, hk, rfl, rfl, hB⟩ := hrel
    by_cases hlt : k < n
    · obtain ⟨b1, o1, rfl, hb1, hc1⟩ := (h1.below hB).cells (by omega)
      obtain ⟨b2, o2, rfl, hb2, hc2⟩ := (h2.below hB).cells (by omega)
      obtain ⟨x0, x1⟩ := hc1 k hlt
      obtain ⟨y0, y1⟩ := hc2 k hlt
      obtain ⟨p0, hp0⟩ : ∃ x, Hid ((f k).col = x) := ⟨_, rfl⟩
      obtain ⟨p1, hp1⟩ : ∃ x, Hid ((f k).desc = x) := ⟨_, rfl⟩
      rw [hp0.out] at x0 y0
      rw [hp1.out] at x1 y1
      have hkz : (k : Int) < (n : Int) := by omega
      have hV := fun W (_ : Below wr.heap.size wr W) => eqBy_same p0 p1 W
      have HWK : Hid (∀ W, Below wr.heap.size wr W → (W.cell? ⟨b1, o1 + k * 2, none⟩ = some (.int .i64 p0) ∧ W.cell? ⟨b1, o1 + k * 2 + 1, none⟩ = some (.bool p1)) ∧ (W.cell? ⟨b2, o2 + k * 2, none⟩ = some (.int .i64 p0) ∧ W.cell? ⟨b2, o2 + k * 2 + 1, none⟩ = some (.bool p1))) := by
        intro W hb
        refine ⟨⟨?_, ?_⟩, ⟨?_, ?_⟩⟩ <;> (rw [hb.cell (by first | exact hb1 | exact hb2)]; assumption)
      clear hc1 hc2 h1 h2
      go_wp2_with fail
      go_region_held3 (fun W => (W.cell? ⟨b1, o1 + k * 2, none⟩ = some (.int .i64 p0) ∧ W.cell? ⟨b1, o1 + k * 2 + 1, none⟩ = some (.bool p1)) ∧ (W.cell? ⟨b2, o2 + k * 2, none⟩ = some (.int .i64 p0) ∧ W.cell? ⟨b2, o2 + k * 2 + 1, none⟩ = some (.bool p1))) (first | assumption | go_keep) (first | (go_at_call 128; refine (hV _ (by repeat (first | exact Below.refl _ _ | refine Below.drew ?_))).mono ?_; rintro e w2 ⟨rfl, hB2⟩; have hcells : (w2.cell? ⟨b1, o1 + k * 2, none⟩ = some (.int .i64 p0) ∧ w2.cell? ⟨b1, o1 + k * 2 + 1, none⟩ = some (.bool p1)) ∧ (w2.cell? ⟨b2, o2 + k * 2, none⟩ = some (.int .i64 p0) ∧ w2.cell? ⟨b2, o2 + k * 2 + 1, none⟩ = some (.bool p1)) := HWK.out _ (Below.trans (by repeat (first | exact Below.refl _ _ | refine Below.drew ?_)) hB2)))
      all_goals
        have hB3 : Hid (Below w.heap.size w w2) := hB.trans (Below.trans (by repeat (first | exact Below.refl _ _ | refine Below.drew ?_)) (hB2.mono (by have := hB.size; exact this)))
        clear hcells HWK hV
        go_wp2
        go_roundg (n - (k + 1))
        case measure => omega
        case rel => exact ⟨k + 1, by omega, rfl, by go_num, by first | exact hB3.out | exact hB3.out.drew⟩
    · clear h1 h2
      go_wp2
      go_ret
      exact ⟨rfl, hB⟩

set_option maxHeartbeats 2000000 in
theorem eqColS_same (a1 a2 : Option Addr) (n c1 c2 : Nat) (f : Nat → PCol) (w : World) (h1 : CView w a1 n c1 f) (h2 : CView w a2 n c2 f) (hn : n ≤ 1048576) :
    Calls Tryz.prog 87 #[.slice a1 n c1, .slice a2 n c2] w fun e w' => e = .returned (.bool true) ∧ Below w.heap.size w w' := by
  go_enter Tryz.func87, Tryz.ntmps87
  go_wp2
  go_loopg [5] n (fun q i wr => ∃ k : Nat, k ≤ n ∧ q = n - k ∧ i = .int .i64 k ∧ Below w.heap.size w wr)
  case atStart => exact ⟨0, Nat.zero_le _, rfl, rfl, Below.refl _ _⟩
  case round =>
    obtain ⟨k, hk, rfl, rfl, hB⟩ := hrel
    by_cases hlt : k < n
    · obtain ⟨b1, o1, rfl, hb1, hc1⟩ := (h1.below hB).cells (by omega)
      obtain ⟨b2, o2, rfl, hb2, hc2⟩ := (h2.below hB).cells (by omega)
      obtain ⟨x0, x1, x2⟩ := hc1 k hlt
      obtain ⟨y0, y1, y2⟩ := hc2 k hlt
      obtain ⟨p0, hp0⟩ : ∃ x, Hid ((f k).name = x) := ⟨_, rfl⟩
      obtain ⟨p1, hp1⟩ : ∃ x, Hid ((f k).type = x) := ⟨_, rfl⟩
      obtain ⟨p2, hp2⟩ : ∃ x, Hid ((f k).null = x) := ⟨_, rfl⟩
      rw [hp0.out] at x0 y0
      rw [hp1.out] at x1 y1
      rw [hp2.out] at x2 y2
      have hkz : (k : Int) < (n : Int) := by omega
      have hV := fun W (_ : Below wr.heap.size wr W) => eqCol_same p0 p1 p2 W
      have HWK : Hid (∀ W, Below wr.heap.size wr W → (W.cell? ⟨b1, o1 + k * 3, none⟩ = some (.string p0) ∧ W.cell? ⟨b1, o1 + k * 3 + 1, none⟩ = some (.int .i64 p1) ∧ W.cell? ⟨b1, o1 + k * 3 + 2, none⟩ = some (.bool p2)) ∧ (W.cell? ⟨b2, o2 + k * 3, none⟩ = some (.string p0) ∧ W.cell? ⟨b2, o2 + k * 3 + 1, none⟩ = some (.int .i64 p1) ∧ W.cell? ⟨b2, o2 + k * 3 + 2, none⟩ = some (.bool p2))) := by
        intro W hb
        refine ⟨⟨?_, ?_, ?_⟩, ⟨?_, ?_, ?_⟩⟩ <;> (rw [hb.cell (by first | exact hb1 | exact hb2)]; assumption)
      clear hc1 hc2 h1 h2
      go_wp2_with fail
      go_region_held3 (fun W => (W.cell? ⟨b1, o1 + k * 3, none⟩ = some (.string p0) ∧ W.cell? ⟨b1, o1 + k * 3 + 1, none⟩ = some (.int .i64 p1) ∧ W.cell? ⟨b1, o1 + k * 3 + 2, none⟩ = some (.bool p2)) ∧ (W.cell? ⟨b2, o2 + k * 3, none⟩ = some (.string p0) ∧ W.cell? ⟨b2, o2 + k * 3 + 1, none⟩ = some (.int .i64 p1) ∧ W.cell? ⟨b2, o2 + k * 3 + 2, none⟩ = some (.bool p2))) (first | assumption | go_keep) (first | (go_at_call 127; refine (hV _ (by repeat (first | exact Below.refl _ _ | refine Below.drew ?_))).mono ?_; rintro e w2 ⟨rfl, hB2⟩; have hcells : (w2.cell? ⟨b1, o1 + k * 3, none⟩ = some (.string p0) ∧ w2.cell? ⟨b1, o1 + k * 3 + 1, none⟩ = some (.int .i64 p1) ∧ w2.cell? ⟨b1, o1 + k * 3 + 2, none⟩ = some (.bool p2)) ∧ (w2.cell? ⟨b2, o2 + k * 3, none⟩ = some (.string p0) ∧ w2.cell? ⟨b2, o2 + k * 3 + 1, none⟩ = some (.int .i64 p1) ∧ w2.cell? ⟨b2, o2 + k * 3 + 2, none⟩ = some (.bool p2)) := HWK.out _ (Below.trans (by repeat (first | exact Below.refl _ _ | refine Below.drew ?_)) hB2)))
      all_goals
        have hB3 : Hid (Below w.heap.size w w2) := hB.trans (Below.trans (by repeat (first | exact Below.refl _ _ | refine Below.drew ?_)) (hB2.mono (by have := hB.size; exact this)))
        clear hcells HWK hV
        go_wp2
        go_roundg (n - (k + 1))
        case measure => omega
        case rel => exact ⟨k + 1, by omega, rfl, by go_num, by first | exact hB3.out | exact hB3.out.drew⟩
    · clear h1 h2
      go_wp2
      go_ret
      exact ⟨rfl, hB⟩

set_option maxHeartbeats 2000000 in
theorem eqIndex_same (s : ByteArray) (u : Bool) (a1 a2 : Option Addr) (n c1 c2 : Nat) (f : Nat → PBy) (w : World) (h1 : BView w a1 n c1 f) (h2 : BView w a2 n c2 f) (hn : n ≤ 1048576) :
    Calls Tryz.prog 129 #[.agg #[.string s, .bool u, .slice a1 n c1], .agg #[.string s, .bool u, .slice a2 n c2]] w fun e w' => e = .returned (.bool true) ∧ Below w.heap.size w w' := by
  have e0 := bytes_eq (a := s) rfl
  have e2 : (u != u) = false := bne_self_eq_false _
  have hV := fun W (hb : Below w.heap.size w W) => eqByS_same a1 a2 n c1 c2 f W (h1.below hb) (h2.below hb) hn
  have hb0 : Below w.heap.size w ((w.alloc (.cells #[.string s, .bool u, .slice a1 n c1] 73)).alloc (.cells #[.string s, .bool u, .slice a2 n c2] 73)) := ((Below.refl _ _).alloc (Nat.le_refl _) _).alloc (by simp) _
  clear h1 h2
  go_enter Tryz.func129, Tryz.ntmps129
  go_wp2_with fail
  refine (hV _ hb0).mono ?_
  rintro e w2 ⟨rfl, hb2⟩
  have HB : Hid (Below w.heap.size w w2) := hb0.trans (hb2.mono (by simp; omega))
  clear hV hb0 hb2
  go_wp2
  go_ret
  exact ⟨rfl, HB.out⟩

set_option maxHeartbeats 2000000 in
theorem eqIndexS_same (a1 a2 : Option Addr) (n c1 c2 : Nat) (f : Nat → PIdx) (w : World) (h1 : IView w a1 n c1 f) (h2 : IView w a2 n c2 f) (hn : n ≤ 1048576) (hz : ∀ i, i < n → (f i).n ≤ 1048576) :
    Calls Tryz.prog 89 #[.slice a1 n c1, .slice a2 n c2] w fun e w' => e = .returned (.bool true) ∧ Below w.heap.size w w' := by
  go_enter Tryz.func89, Tryz.ntmps89
  go_wp2
  go_loopg [5] n (fun q i wr => ∃ k : Nat, k ≤ n ∧ q = n - k ∧ i = .int .i64 k ∧ Below w.heap.size w wr)
  case atStart => exact ⟨0, Nat.zero_le _, rfl, rfl, Below.refl _ _⟩
  case round =>
    obtain ⟨k, hk, rfl, rfl, hB⟩ := hrel
    by_cases hlt : k < n
    · obtain ⟨b1, o1, rfl, hb1, hc1⟩ := (h1.below hB).cells (by omega)
      obtain ⟨b2, o2, rfl, hb2, hc2⟩ := (h2.below hB).cells (by omega)
      obtain ⟨x0, x1, a1, c1, x2, hv1⟩ := hc1 k hlt
      obtain ⟨y0, y1, a2, c2, y2, hv2⟩ := hc2 k hlt
      have hV := fun W (hb : Below wr.heap.size wr W) => eqIndex_same (f k).name (f k).uniq a1 a2 (f k).n c1 c2 (f k).part W (hv1.below hb) (hv2.below hb) (hz k hlt)
      obtain ⟨p0, hp0⟩ : ∃ x, Hid ((f k).name = x) := ⟨_, rfl⟩
      obtain ⟨p1, hp1⟩ : ∃ x, Hid ((f k).uniq = x) := ⟨_, rfl⟩
      obtain ⟨p2, hp2⟩ : ∃ x, Hid ((f k).n = x) := ⟨_, rfl⟩
      simp only [hp0.out, hp1.out, hp2.out] at hV
      rw [hp0.out] at x0 y0
      rw [hp1.out] at x1 y1
      rw [hp2.out] at x2 y2
      have hkz : (k : Int) < (n : Int) := by omega

      have HWK : Hid (∀ W, Below wr.heap.size wr W → (W.cell? ⟨b1, o1 + k * 3, none⟩ = some (.string p0) ∧ W.cell? ⟨b1, o1 + k * 3 + 1, none⟩ = some (.bool p1) ∧ W.cell? ⟨b1, o1 + k * 3 + 2, none⟩ = some (.slice a1 p2 c1)) ∧ (W.cell? ⟨b2, o2 + k * 3, none⟩ = some (.string p0) ∧ W.cell? ⟨b2, o2 + k * 3 + 1, none⟩ = some (.bool p1) ∧ W.cell? ⟨b2, o2 + k * 3 + 2, none⟩ = some (.slice a2 p2 c2))) := by
        intro W hb
        refine ⟨⟨?_, ?_, ?_⟩, ⟨?_, ?_, ?_⟩⟩ <;> (rw [hb.cell (by first | exact hb1 | exact hb2)]; assumption)
      clear hc1 hc2 h1 h2 hz hv1 hv2
      go_wp2_with fail
      go_region_held3 (fun W => (W.cell? ⟨b1, o1 + k * 3, none⟩ = some (.string p0) ∧ W.cell? ⟨b1, o1 + k * 3 + 1, none⟩ = some (.bool p1) ∧ W.cell? ⟨b1, o1 + k * 3 + 2, none⟩ = some (.slice a1 p2 c1)) ∧ (W.cell? ⟨b2, o2 + k * 3, none⟩ = some (.string p0) ∧ W.cell? ⟨b2, o2 + k * 3 + 1, none⟩ = some (.bool p1) ∧ W.cell? ⟨b2, o2 + k * 3 + 2, none⟩ = some (.slice a2 p2 c2))) (first | assumption | go_keep) (first | (go_at_call 129; refine (hV _ (by repeat (first | exact Below.refl _ _ | refine Below.drew ?_))).mono ?_; rintro e w2 ⟨rfl, hB2⟩; have hcells : (w2.cell? ⟨b1, o1 + k * 3, none⟩ = some (.string p0) ∧ w2.cell? ⟨b1, o1 + k * 3 + 1, none⟩ = some (.bool p1) ∧ w2.cell? ⟨b1, o1 + k * 3 + 2, none⟩ = some (.slice a1 p2 c1)) ∧ (w2.cell? ⟨b2, o2 + k * 3, none⟩ = some (.string p0) ∧ w2.cell? ⟨b2, o2 + k * 3 + 1, none⟩ = some (.bool p1) ∧ w2.cell? ⟨b2, o2 + k * 3 + 2, none⟩ = some (.slice a2 p2 c2)) := HWK.out _ (Below.trans (by repeat (first | exact Below.refl _ _ | refine Below.drew ?_)) hB2)))
      all_goals
        have hB3 : Hid (Below w.heap.size w w2) := hB.trans (Below.trans (by repeat (first | exact Below.refl _ _ | refine Below.drew ?_)) (hB2.mono (by have := hB.size; exact this)))
        clear hcells HWK hV
        go_wp2
        go_roundg (n - (k + 1))
        case measure => omega
        case rel => exact ⟨k + 1, by omega, rfl, by go_num, by first | exact hB3.out | exact hB3.out.drew⟩
    · clear h1 h2
      go_wp2
      go_ret
      exact ⟨rfl, hB⟩

set_option maxHeartbeats 2000000 in
theorem eqDef_same (u v : Value) (D : PDef) (w : World) (h1 : DView w u D) (h2 : DView w v D) (hf : DFine D) :
    Calls Tryz.prog 49 #[u, v] w fun e w' => e = .returned (.bool true) ∧ Below w.heap.size w w' := by
  obtain ⟨ac, cc, ap, cp, ai, ci, rfl, hc1, hp1, hi1⟩ := h1.is
  obtain ⟨bc, dc, bp, dp, bi, di, rfl, hc2, hp2, hi2⟩ := h2.is
  clear h1 h2
  have e0 := bytes_eq (a := D.name) rfl
  have hB0 : Below (w.heap.size + 1 + 1) ((w.alloc (.cells #[.string D.name, .slice ac D.nc cc, .slice ap D.np cp, .slice ai D.ni ci] 35)).alloc (.cells #[.string D.name, .slice bc D.nc dc, .slice bp D.np dp, .slice bi D.ni di] 35)) ((w.alloc (.cells #[.string D.name, .slice ac D.nc cc, .slice ap D.np cp, .slice ai D.ni ci] 35)).alloc (.cells #[.string D.name, .slice bc D.nc dc, .slice bp D.np dp, .slice bi D.ni di] 35)) := Below.refl _ _
  obtain ⟨hBw0, -⟩ := box44_below hB0
  have hV1 := eqColS_same ac bc D.nc cc dc D.col _ (hc1.below hBw0) (hc2.below hBw0) hf.nc
  go_enter Tryz.func49, Tryz.ntmps49
  go_wp2_with fail
  refine hV1.mono ?_
  rintro e w1 ⟨rfl, hb1⟩
  have hB1 := box44_on hB0 hb1
  obtain ⟨hBw1, hs1⟩ := box44_below hB1
  obtain ⟨⟨x0, x1, x2, x3⟩, y0, y1, y2, y3⟩ := box44 hB1
  have hV2 := eqByS_same ap bp D.np cp dp D.pri w1 (hp1.below hBw1) (hp2.below hBw1) hf.np
  clear hV1 hb1 hB0 hBw0 hc1 hc2
  go_wp2_with fail
  refine hV2.mono ?_
  rintro e w2 ⟨rfl, hb2⟩
  have hB2 := box44_on hB1 hb2
  obtain ⟨hBw2, hs2⟩ := box44_below hB2
  clear x0 x1 x2 x3 y0 y1 y2 y3
  obtain ⟨⟨x0, x1, x2, x3⟩, y0, y1, y2, y3⟩ := box44 hB2
  have hV3 := eqIndexS_same ai bi D.ni ci di D.idx w2 (hi1.below hBw2) (hi2.below hBw2) hf.ni (fun i hi => (hf.idx i hi).2)
  clear hV2 hb2 hB1 hBw1 hp1 hp2 hs1
  go_wp2_with fail
  refine hV3.mono ?_
  rintro e w3 ⟨rfl, hb3⟩
  have HB : Hid (Below w.heap.size w w3) := (box44_below (box44_on hB2 hb3)).1
  clear hV3 hb3 hB2 hBw2 hi1 hi2 hf
  go_wp2
  go_ret
  exact ⟨rfl, HB.out⟩
end Go.Proofs.YtnpfgamlncfikaaGreatDoor

/-
  Rows of tables that read alike are alike, as the law holds them against each other.
-/
namespace Go.Proofs.YtnpfgamlncfikaaGreatDoor
open Go.RowKit
set_option maxRecDepth 4000

set_option maxHeartbeats 2000000 in
theorem eqDefS_same (a1 a2 : Option Addr) (n c1 c2 : Nat) (f : Nat → PDef) (w : World) (h1 : LView w a1 n c1 f) (h2 : LView w a2 n c2 f) (hf : LFine n f) :
    Calls Tryz.prog 19 #[.slice a1 n c1, .slice a2 n c2] w fun e w' => e = .returned (.bool true) ∧ Below w.heap.size w w' := by
  have hn := hf.few
  go_enter Tryz.func19, Tryz.ntmps19
  go_wp2
  go_loopg [5] n (fun q i wr => ∃ k : Nat, k ≤ n ∧ q = n - k ∧ i = .int .i64 k ∧ Below w.heap.size w wr)
  case atStart => exact ⟨0, Nat.zero_le _, rfl, rfl, Below.refl _ _⟩
  case round =>
    obtain ⟨k, hk, rfl, rfl, hB⟩ := hrel
    by_cases hlt : k < n
    · obtain ⟨b1, o1, rfl, hb1, hc1⟩ := (h1.below hB).cells (by omega)
      obtain ⟨b2, o2, rfl, hb2, hc2⟩ := (h2.below hB).cells (by omega)
      obtain ⟨y1, y2, y3, x0, x1, x2, x3, hv1⟩ := hc1 k hlt
      obtain ⟨z1, z2, z3, u0, u1, u2, u3, hv2⟩ := hc2 k hlt
      have hV := fun W (hb : Below wr.heap.size wr W) => eqDef_same _ _ (f k) W (hv1.below hb) (hv2.below hb) (hf.at_ k hlt)
      obtain ⟨p0, hp0⟩ : ∃ x, Hid ((f k).name = x) := ⟨_, rfl⟩
      simp only [hp0.out] at hV
      rw [hp0.out] at x0 u0
      have hkz : (k : Int) < (n : Int) := by omega
      have HWK : Hid (∀ W, Below wr.heap.size wr W → (W.cell? ⟨b1, o1 + k * 4, none⟩ = some (.string p0) ∧ W.cell? ⟨b1, o1 + k * 4 + 1, none⟩ = some y1 ∧ W.cell? ⟨b1, o1 + k * 4 + 2, none⟩ = some y2 ∧ W.cell? ⟨b1, o1 + k * 4 + 3, none⟩ = some y3) ∧ (W.cell? ⟨b2, o2 + k * 4, none⟩ = some (.string p0) ∧ W.cell? ⟨b2, o2 + k * 4 + 1, none⟩ = some z1 ∧ W.cell? ⟨b2, o2 + k * 4 + 2, none⟩ = some z2 ∧ W.cell? ⟨b2, o2 + k * 4 + 3, none⟩ = some z3)) := by
        intro W hb
        refine ⟨⟨?_, ?_, ?_, ?_⟩, ⟨?_, ?_, ?_, ?_⟩⟩ <;> (rw [hb.cell (by first | exact hb1 | exact hb2)]; assumption)
      clear hc1 hc2 h1 h2 hf hv1 hv2
      go_wp2_with fail
      go_region_held3 (fun W => (W.cell? ⟨b1, o1 + k * 4, none⟩ = some (.string p0) ∧ W.cell? ⟨b1, o1 + k * 4 + 1, none⟩ = some y1 ∧ W.cell? ⟨b1, o1 + k * 4 + 2, none⟩ = some y2 ∧ W.cell? ⟨b1, o1 + k * 4 + 3, none⟩ = some y3) ∧ (W.cell? ⟨b2, o2 + k * 4, none⟩ = some (.string p0) ∧ W.cell? ⟨b2, o2 + k * 4 + 1, none⟩ = some z1 ∧ W.cell? ⟨b2, o2 + k * 4 + 2, none⟩ = some z2 ∧ W.cell? ⟨b2, o2 + k * 4 + 3, none⟩ = some z3)) (first | assumption | go_keep) (first | (go_at_call 49; refine (hV _ (by repeat (first | exact Below.refl _ _ | refine Below.drew ?_))).mono ?_; rintro e w2 ⟨rfl, hB2⟩; have hcells : (w2.cell? ⟨b1, o1 + k * 4, none⟩ = some (.string p0) ∧ w2.cell? ⟨b1, o1 + k * 4 + 1, none⟩ = some y1 ∧ w2.cell? ⟨b1, o1 + k * 4 + 2, none⟩ = some y2 ∧ w2.cell? ⟨b1, o1 + k * 4 + 3, none⟩ = some y3) ∧ (w2.cell? ⟨b2, o2 + k * 4, none⟩ = some (.string p0) ∧ w2.cell? ⟨b2, o2 + k * 4 + 1, none⟩ = some z1 ∧ w2.cell? ⟨b2, o2 + k * 4 + 2, none⟩ = some z2 ∧ w2.cell? ⟨b2, o2 + k * 4 + 3, none⟩ = some z3) := HWK.out _ (Below.trans (by repeat (first | exact Below.refl _ _ | refine Below.drew ?_)) hB2)))
      all_goals
        have hB3 : Hid (Below w.heap.size w w2) := hB.trans (Below.trans (by repeat (first | exact Below.refl _ _ | refine Below.drew ?_)) (hB2.mono (by have := hB.size; exact this)))
        clear hcells HWK hV
        go_wp2
        go_roundg (n - (k + 1))
        case measure => omega
        case rel => exact ⟨k + 1, by omega, rfl, by go_num, by first | exact hB3.out | exact hB3.out.drew⟩
    · clear h1 h2 hf
      go_wp2
      go_ret
      exact ⟨rfl, hB⟩
end Go.Proofs.YtnpfgamlncfikaaGreatDoor

/-
  The program's TokenOk: what Lex makes of the token's own text, alone.
-/
namespace Go.Proofs.YtnpfgamlncfikaaGreatDoor
open Go.RowKit
set_option maxRecDepth 4000

theorem eqTok_run (k : Int) (s : ByteArray) (k' : Int) (s' : ByteArray) (W : World) :
    (binOp .eql 41 (.agg #[.int .i64 k, .string s]) (.agg #[.int .i64 k', .string s'])).run Tryz.prog W = .ok (.bool (eqT k s k' s')) W := by
  by_cases h1 : k = k' <;> by_cases h3 : s = s' <;> simp [go_sem, h1, h3, eqT, bytes_inj]

set_option maxHeartbeats 2000000 in
theorem implTokenOk_any (k : Int) (s : ByteArray) (w : World) (hs : s.size ≤ 281474976710656) :
    Calls Tryz.prog 141 #[.agg #[.int .i64 k, .string s]] w fun e w' => e = .returned (.bool (tokOk k s)) ∧ Below w.heap.size w w' := by
  have hL := fun W => implLex_any s W hs
  have HA : Hid ((lexF s 0 []).1.length = 1 → tokOk k s = eqT (tk (lexF s 0 []).1 0) (ts (lexF s 0 []).1 0) k s) := tok_self
  have HN : Hid ((lexF s 0 []).1.length ≠ 1 → tokOk k s = false) := tok_none
  obtain ⟨r, hr⟩ : ∃ r, Hid (lexF s 0 [] = r) := ⟨_, rfl⟩
  rw [hr.out] at HA HN
  simp only [hr.out] at hL
  go_enter Tryz.func141, Tryz.ntmps141
  go_wp2_with fail
  refine (hL _).mono ?_
  rintro e w1 ⟨v, rfl, hne, hown, hB⟩
  rw [rowL_K] at hown
  obtain ⟨a, c, rfl, hv, -⟩ := tview_of_own hown
  have hC := hB.mono (show w.heap.size + 1 ≤ _ by simp)
  have c0 : w1.cell? ⟨w.heap.size, 0, none⟩ = some (.int .i64 k) := by rw [hC.cell (by simp)]; simp [go_sem]
  have c1 : w1.cell? ⟨w.heap.size, 1, none⟩ = some (.string s) := by rw [hC.cell (by simp)]; simp [go_sem]
  have HB : Hid (Below w.heap.size w w1) := ((Below.refl _ _).alloc (Nat.le_refl _) _).trans (hB.mono (by simp))
  clear hL hown hB hC hne
  by_cases h1 : r.1.length = 1
  · have HE0 := HA.out h1
    have hd : ((r.1.length : Int) == 1) = true := by simp; omega
    obtain ⟨b, off, rfl, hb, hcs⟩ := hv.cells (by omega)
    obtain ⟨x0, x1⟩ := hcs 0 (by omega)
    simp only [Nat.zero_mul, Nat.add_zero] at x0 x1
    rw [h1]
    have hq := eqTok_run (tk r.1 0) (ts r.1 0) k s
    clear HA HN hv hcs h1 hd
    generalize tk r.1 0 = p0 at *
    generalize ts r.1 0 = p1 at *
    have HE : Hid (tokOk k s = eqT p0 p1 k s) := HE0
    clear HE0
    go_wp2_with fail
    go_quiet (fail)
    go_wp2
    go_ret
    exact ⟨by rw [HE.out]; rfl, HB.out.trans ⟨rfl, rfl, rfl, Nat.le_refl _, fun _ _ => rfl⟩⟩
  · have HE : Hid (tokOk k s = false) := HN.out h1
    have hd : ((r.1.length : Int) == 1) = false := by simp; omega
    clear HA HN hv
    go_wp2_with fail
    go_quiet (fail)
    go_wp2
    go_ret
    exact ⟨by rw [HE.out]; rfl, HB.out.trans ⟨rfl, rfl, rfl, Nat.le_refl _, fun _ _ => rfl⟩⟩
end Go.Proofs.YtnpfgamlncfikaaGreatDoor

