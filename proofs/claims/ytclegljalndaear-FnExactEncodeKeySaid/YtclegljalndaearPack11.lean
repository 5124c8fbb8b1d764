/-
  Together: EqValS, RowBut, PartRowEq, LawEncodeKey, PartsIn
-/
import Derived.Test.YtclegljalndaearPack10
import Derived.Test.YtclegljalndaearPack2
import Derived.Deep.LoopGhost
import Derived.Deep.RegionHeld3
import Derived.Test.YtclegljalndaearPack3
import Derived.Test.YtclegljalndaearPack5
import Derived.Test.YtclegljalndaearPack9
import Derived.Lib.SmallJoins
import Derived.Deep.Strs
/-
  Two rows of values that read alike are alike, as the law holds them against each other.
-/
namespace Go.Proofs.Ytclegljalndaear
open Go.RowKit
set_option maxRecDepth 4000

set_option maxHeartbeats 2000000 in
theorem eqValS_same (a1 a2 : Option Addr) (n c1 c2 : Nat) (fk fn : Nat → Int) (fs : Nat → ByteArray) (w : World) (h1 : VView w a1 n c1 fk fn fs) (h2 : VView w a2 n c2 fk fn fs) (hn : n ≤ 281474976710656) :
    Calls Try.prog 18 #[.slice a1 n c1, .slice a2 n c2] w fun e w' => e = .returned (.bool true) ∧ Below w.heap.size w w' := by
  go_enter Try.func18, Try.ntmps18
  go_wp2
  go_loopg [5] n (fun q i wr => ∃ k : Nat, k ≤ n ∧ q = n - k ∧ i = .int .i64 k ∧ Below w.heap.size w wr)
  case atStart => exact ⟨0, Nat.zero_le _, rfl, rfl, Below.refl _ _⟩
  case round =>
    obtain ⟨k, hk, rfl, rfl, hB⟩ := hrel
    by_cases hlt : k < n
    · obtain ⟨b1, o1, rfl, hb1, hc1⟩ := (h1.below hB).cells (by omega)
      obtain ⟨b2, o2, rfl, hb2, hc2⟩ := (h2.below hB).cells (by omega)
      obtain ⟨x0, x1, x2⟩ := hc1 k hlt
      obtain ⟨y0, y1, y2⟩ := hc2 k hlt
      have hkz : (k : Int) < (n : Int) := by omega
      have hV := fun W => eqVal_same (fk k) (fn k) (fs k) W
      clear hc1 hc2 h1 h2
      generalize fk k = p0 at *
      generalize fn k = p1 at *
      generalize fs k = p2 at *
      go_wp2_with fail
      go_region_held3 (fun W => (W.cell? ⟨b1, o1 + k * 3, none⟩ = some (.int .i64 p0) ∧ W.cell? ⟨b1, o1 + k * 3 + 1, none⟩ = some (.int .i64 p1) ∧ W.cell? ⟨b1, o1 + k * 3 + 2, none⟩ = some (.string p2)) ∧ (W.cell? ⟨b2, o2 + k * 3, none⟩ = some (.int .i64 p0) ∧ W.cell? ⟨b2, o2 + k * 3 + 1, none⟩ = some (.int .i64 p1) ∧ W.cell? ⟨b2, o2 + k * 3 + 2, none⟩ = some (.string p2))) (first | assumption | go_keep) (first | (go_at_call 43; refine (hV _).mono ?_; rintro e w2 ⟨rfl, hB2⟩; have hcells : (w2.cell? ⟨b1, o1 + k * 3, none⟩ = some (.int .i64 p0) ∧ w2.cell? ⟨b1, o1 + k * 3 + 1, none⟩ = some (.int .i64 p1) ∧ w2.cell? ⟨b1, o1 + k * 3 + 2, none⟩ = some (.string p2)) ∧ (w2.cell? ⟨b2, o2 + k * 3, none⟩ = some (.int .i64 p0) ∧ w2.cell? ⟨b2, o2 + k * 3 + 1, none⟩ = some (.int .i64 p1) ∧ w2.cell? ⟨b2, o2 + k * 3 + 2, none⟩ = some (.string p2)) := (by (refine ⟨⟨?_, ?_, ?_⟩, ?_, ?_, ?_⟩ <;> (rw [hB2.cell (by first | exact hb1 | exact hb2)]; assumption)))))
      all_goals
        have hB3 : Hid (Below w.heap.size w w2) := hB.trans (Below.trans (by repeat (first | exact Below.refl _ _ | refine Below.drew ?_)) (hB2.mono (by have := hB.size; exact this)))
        go_wp2
        go_roundg (n - (k + 1))
        case measure => omega
        case rel => exact ⟨k + 1, by omega, rfl, by go_num, by first | exact hB3.out | exact hB3.out.drew⟩
    · go_wp2
      go_ret
      exact ⟨rfl, hB⟩
end Go.Proofs.Ytclegljalndaear

/-
  A row of bytes is carried where one other block turns.
-/
namespace Go.Proofs.Ytclegljalndaear
open Go.RowKit
set_option maxRecDepth 4000
theorem Row.but {t : TypeId} {w w' : World} {g b n : Nat} {f : Nat → Int} (hr : Row t w b n f) (h : But g w w') (hne : b ≠ g) : Row t w' b n f := h.row hr hne
end Go.Proofs.Ytclegljalndaear

/-
  Two lists of parts that read alike are alike, as the law holds them against each other.
-/
namespace Go.Proofs.Ytclegljalndaear
open Go.RowKit
set_option maxRecDepth 4000

set_option maxHeartbeats 1000000 in
theorem eqPart_same (c t : Int) (nul d : Bool) (w : World) :
    Calls Try.prog 37 #[.agg #[.int .i64 c, .int .i64 t, .bool nul, .bool d], .agg #[.int .i64 c, .int .i64 t, .bool nul, .bool d]] w fun e w' => e = .returned (.bool true) ∧ Below w.heap.size w w' := by
  have q1 : (c != c) = false := by simp
  have q2 : (t != t) = false := by simp
  have q3 : (nul != nul) = false := by cases nul <;> rfl
  have q4 : (d != d) = false := by cases d <;> rfl
  have hb : ∀ o o', Below w.heap.size w ((w.alloc o).alloc o') := fun o o' => ((Below.refl _ _).alloc (Nat.le_refl _) _).alloc (by simp) _
  go_enter Try.func37, Try.ntmps37
  go_wp2
  go_ret
  exact ⟨rfl, hb _ _⟩

set_option maxHeartbeats 2000000 in
theorem eqPartS_same (a1 a2 : Option Addr) (n c1 c2 : Nat) (fc ft : Nat → Int) (fu fd : Nat → Bool) (w : World) (h1 : PView w a1 n c1 fc ft fu fd) (h2 : PView w a2 n c2 fc ft fu fd) (hn : n ≤ 1048576) :
    Calls Try.prog 13 #[.slice a1 n c1, .slice a2 n c2] w fun e w' => e = .returned (.bool true) ∧ Below w.heap.size w w' := by
  have hnn : ((n : Int) != (n : Int)) = false := by simp
  have hc1 := h1.le
  have hc2 := h2.le
  go_enter Try.func13, Try.ntmps13
  go_wp2
  go_loopg [5] n (fun q i wr => ∃ k : Nat, k ≤ n ∧ q = n - k ∧ i = .int .i64 k ∧ Below w.heap.size w wr)
  case atStart => exact ⟨0, Nat.zero_le _, rfl, rfl, Below.refl _ _⟩
  case round =>
    obtain ⟨k, hk, rfl, rfl, hB⟩ := hrel
    by_cases hlt : k < n
    · obtain ⟨b1, o1, rfl, hb1, hd1⟩ := (h1.below hB).cells (by omega)
      obtain ⟨b2, o2, rfl, hb2, hd2⟩ := (h2.below hB).cells (by omega)
      obtain ⟨x0, x1, x2, x3⟩ := hd1 k hlt
      obtain ⟨y0, y1, y2, y3⟩ := hd2 k hlt
      have hkz : (k : Int) < (n : Int) := by omega
      clear hd1 hd2 h1 h2
      generalize fc k = p0 at *
      generalize ft k = p1 at *
      generalize fu k = p2 at *
      generalize fd k = p3 at *
      have hV := fun W => eqPart_same p0 p1 p2 p3 W
      go_wp2_with fail
      go_region_held3 (fun W => (W.cell? ⟨b1, o1 + k * 4, none⟩ = some (.int .i64 p0) ∧ W.cell? ⟨b1, o1 + k * 4 + 1, none⟩ = some (.int .i64 p1) ∧ W.cell? ⟨b1, o1 + k * 4 + 2, none⟩ = some (.bool p2) ∧ W.cell? ⟨b1, o1 + k * 4 + 3, none⟩ = some (.bool p3)) ∧ (W.cell? ⟨b2, o2 + k * 4, none⟩ = some (.int .i64 p0) ∧ W.cell? ⟨b2, o2 + k * 4 + 1, none⟩ = some (.int .i64 p1) ∧ W.cell? ⟨b2, o2 + k * 4 + 2, none⟩ = some (.bool p2) ∧ W.cell? ⟨b2, o2 + k * 4 + 3, none⟩ = some (.bool p3))) (first | assumption | go_keep) (first | (go_at_call 37; refine (hV _).mono ?_; rintro e w2 ⟨rfl, hB2⟩; have hcells : (w2.cell? ⟨b1, o1 + k * 4, none⟩ = some (.int .i64 p0) ∧ w2.cell? ⟨b1, o1 + k * 4 + 1, none⟩ = some (.int .i64 p1) ∧ w2.cell? ⟨b1, o1 + k * 4 + 2, none⟩ = some (.bool p2) ∧ w2.cell? ⟨b1, o1 + k * 4 + 3, none⟩ = some (.bool p3)) ∧ (w2.cell? ⟨b2, o2 + k * 4, none⟩ = some (.int .i64 p0) ∧ w2.cell? ⟨b2, o2 + k * 4 + 1, none⟩ = some (.int .i64 p1) ∧ w2.cell? ⟨b2, o2 + k * 4 + 2, none⟩ = some (.bool p2) ∧ w2.cell? ⟨b2, o2 + k * 4 + 3, none⟩ = some (.bool p3)) := (by (refine ⟨⟨?_, ?_, ?_, ?_⟩, ?_, ?_, ?_, ?_⟩ <;> (rw [hB2.cell (by first | exact hb1 | exact hb2)]; assumption)))))
      all_goals
        have hB3 : Hid (Below w.heap.size w w2) := hB.trans (Below.trans (by repeat (first | exact Below.refl _ _ | refine Below.drew ?_)) (hB2.mono (by have := hB.size; exact this)))
        go_wp2
        go_roundg (n - (k + 1))
        case measure => omega
        case rel => exact ⟨k + 1, by omega, rfl, by go_num, by first | exact hB3.out | exact hB3.out.drew⟩
    · have hkz : ¬ (k : Int) < (n : Int) := by omega
      go_wp2
      go_ret
      exact ⟨rfl, hB⟩
end Go.Proofs.Ytclegljalndaear

/-
  The walk over the law FnExactEncodeKey.
-/
namespace Go.Proofs.Ytclegljalndaear
open Go.RowKit
set_option maxRecDepth 4000

set_option linter.unusedSimpArgs false in
set_option maxHeartbeats 4000000 in
theorem lawEncodeKey (a : Option Addr) (n cap : Nat) (fc ft : Nat → Int) (fu fd : Nat → Bool) (a1 : Option Addr) (m c1 : Nat) (fk fn : Nat → Int) (fs : Nat → ByteArray) (w : World) (h : PView w a n cap fc ft fu fd) (h1 : VView w a1 m c1 fk fn fs) (hM : n ≤ maxLen) (hM1 : m ≤ maxLen) (hz1 : ∀ i, i < m → (fs i).size ≤ maxLen) :
    Calls Try.prog 5 #[.slice a n cap, .slice a1 m c1] w fun e w' => e = .returned (.bool true) ∧ Below w.heap.size w w' := by
  have hB : Below w.heap.size w w := Below.refl _ _
  obtain ⟨LL, hL⟩ : ∃ L, Hid (keyL n fc ft fu fd m fk fn fs = L) := ⟨_, rfl⟩
  have hLn : LL.length ≤ 414 := by rw [← hL.out]; exact keyL_len n fc ft fu fd m fk fn fs
  have hLb : Hid (∀ y ∈ LL, 0 ≤ y ∧ y ≤ 255) := by rw [← hL.out]; exact keyL_byte n fc ft fu fd m fk fn fs
  have hby : ∀ i, i < LL.length → 0 ≤ LL.getD i 0 ∧ LL.getD i 0 ≤ 255 := fun i hi => by
    have e : LL.getD i 0 = LL[i] := by simp [List.getD, List.getElem?_eq_getElem hi]
    rw [e]; exact hLb.out _ (List.getElem_mem hi)
  have hbym : ∀ i : Nat, i < LL.length → 0 ≤ ((1 : Int) + i) % 256 ∧ ((1 : Int) + i) % 256 ≤ 255 := fun i _ => by omega
  go_enter Try.func5, Try.ntmps5
  go_wp2_with fail
  refine (szPartS_any a n cap 1048576 _ hM (by omega) (by omega)).mono ?_
  rintro e w0 ⟨L0, rfl, rfl, hL0⟩
  by_cases hneg0 : L0 < 0
  · go_wp2
    go_ret
    exact ⟨rfl, hB⟩
  have hn0 : n ≤ 1048576 ∧ 0 ≤ L0 ∧ L0 ≤ 1048576 := by omega
  clear hL0
  go_wp2_with fail
  refine (szValS_fine a1 m c1 fk fn fs L0 _ (h1.below hB) hM1 hz1 (by omega) (by omega)).mono ?_
  rintro e w1 ⟨L1, rfl, hb, hL1⟩
  replace hB := hB.trans (hb.mono hB.size)
  clear hb
  by_cases hneg1 : L1 < 0
  · go_wp2
    go_ret
    exact ⟨rfl, hB⟩
  have hn1 : m ≤ 1048576 ∧ 0 ≤ L1 ∧ L1 ≤ 1048576 := by omega
  have hfz : Hid (∀ i, i < m → (fs i).size ≤ 1048576) := by rcases hL1 with h | h; omega; exact h.2.2
  clear hL1
  go_wp2_with fail
  refine (toPartS_any a n cap fc ft fu fd _ (h.below hB) hn0.1).mono ?_
  rintro e W_hp ⟨rfl, hC⟩
  have hp := hC.view
  have hb := hC.below
  have sz_hp := hC.size
  clear hC
  replace hB := hB.trans (hb.mono hB.size)
  clear hb
  go_wp2_with fail
  refine (toValS_row a1 m c1 fk fn fs _ (h1.below hB) hn1.1).mono ?_
  rintro e W_hv ⟨rfl, hC⟩
  have hv := hC.view
  have hb := hC.below
  have sz_hv := hC.size
  clear hC
  replace hp := hp.below hb
  replace hB := hB.trans (hb.mono hB.size)
  clear hb
  go_wp2_with fail
  refine (specEncodeKey_any _ n n fc ft fu fd _ m m fk fn fs _ hp hv hn0.1 hn1.1 hfz.out).mono ?_
  rw [hL.out]
  rintro e wA ⟨gs, cs, rfl, hE⟩
  have hw0 := hE.row
  have hcs := hE.le
  have hb := hE.below
  clear hE
  replace hp := hp.below hb
  replace hv := hv.below hb
  replace hB := hB.trans (hb.mono hB.size)
  clear hb
  clear hp hv
  clear sz_hp sz_hv
  have lw0 := hw0.lt
  have sB0 := hB.size
  go_wp2_with fail
  refine (toPartS_any a n cap fc ft fu fd _ (h.below hB) hn0.1).mono ?_
  rintro e W_hp ⟨rfl, hC⟩
  have hp := hC.view
  have hb := hC.below
  have hpr := hC.row
  have sz_hp := hC.size
  clear hC
  replace hw0 := hw0.belowAll hb
  replace hB := hB.trans (hb.mono hB.size)
  clear hb
  go_wp2_with fail
  refine (toValS_row a1 m c1 fk fn fs _ (h1.below hB) hn1.1).mono ?_
  rintro e W_hv ⟨rfl, hC⟩
  have hv := hC.view
  have hb := hC.below
  have hvr := RowV.ofIs hC.row
  have sz_hv := hC.size
  clear hC
  replace hw0 := hw0.belowAll hb
  replace hp := hp.below hb
  replace hpr := rowIs_belowP hpr hb (World.rowIs.lt hpr)
  replace hB := hB.trans (hb.mono hB.size)
  clear hb
  have lpr := World.rowIs.lt hpr
  have lvr := hvr.lt
  go_wp2_with fail
  refine (implEncodeKey_any _ n n fc ft fu fd _ m m fk fn fs _ hp hv (by omega) (by omega)).mono ?_
  rw [hL.out]
  rintro e wB ⟨g, cg, rfl, hE⟩
  have hg := hE.row
  have hcg := hE.le
  have hgn := hE.new
  have hb := hE.below
  clear hE
  replace hw0 := hw0.belowAll hb
  replace hp := hp.below hb
  replace hpr := rowIs_belowP hpr hb (World.rowIs.lt hpr)
  replace hv := hv.below hb
  replace hvr := hvr.belowAll hb
  replace hB := hB.trans (hb.mono hB.size)
  clear hb
  have hVw := hw0.view hcs hby
  have hVg := hg.view hcg hby
  go_wp2_with fail
  refine (eqByteS_same _ _ LL.length cg cs _ _ _ hVg hVw (by omega) (fun _ _ => rfl)).mono ?_
  rintro e wC ⟨rfl, hb⟩
  replace hw0 := hw0.belowAll hb
  replace hp := hp.below hb
  replace hpr := rowIs_belowP hpr hb (World.rowIs.lt hpr)
  replace hv := hv.below hb
  replace hvr := hvr.belowAll hb
  replace hg := hg.belowAll hb
  replace hB := hB.trans (hb.mono hB.size)
  clear hb
  clear hVw hVg
  go_wp2_with fail
  refine (toPartS_any a n cap fc ft fu fd _ (h.below hB) hn0.1).mono ?_
  rintro e W_hq ⟨rfl, hC⟩
  have hq := hC.view
  have hb := hC.below
  have sz_hq := hC.size
  clear hC
  replace hw0 := hw0.belowAll hb
  replace hp := hp.below hb
  replace hpr := rowIs_belowP hpr hb (World.rowIs.lt hpr)
  replace hv := hv.below hb
  replace hvr := hvr.belowAll hb
  replace hg := hg.belowAll hb
  replace hB := hB.trans (hb.mono hB.size)
  clear hb
  go_wp2_with fail
  refine (eqPartS_same _ _ n n n fc ft fu fd _ hp hq hn0.1).mono ?_
  rintro e wD ⟨rfl, hb⟩
  replace hw0 := hw0.belowAll hb
  replace hp := hp.below hb
  replace hpr := rowIs_belowP hpr hb (World.rowIs.lt hpr)
  replace hv := hv.below hb
  replace hvr := hvr.belowAll hb
  replace hg := hg.belowAll hb
  replace hq := hq.below hb
  replace hB := hB.trans (hb.mono hB.size)
  clear hb
  clear hp hq
  clear sz_hq
  go_wp2_with fail
  refine (toValS_row a1 m c1 fk fn fs _ (h1.below hB) hn1.1).mono ?_
  rintro e W_hq ⟨rfl, hC⟩
  have hq := hC.view
  have hb := hC.below
  have sz_hq := hC.size
  clear hC
  replace hw0 := hw0.belowAll hb
  replace hpr := rowIs_belowP hpr hb (World.rowIs.lt hpr)
  replace hv := hv.below hb
  replace hvr := hvr.belowAll hb
  replace hg := hg.belowAll hb
  replace hB := hB.trans (hb.mono hB.size)
  clear hb
  go_wp2_with fail
  refine (eqValS_same _ _ m m m fk fn fs _ hv hq (by omega)).mono ?_
  rintro e wE ⟨rfl, hb⟩
  replace hw0 := hw0.belowAll hb
  replace hpr := rowIs_belowP hpr hb (World.rowIs.lt hpr)
  replace hv := hv.below hb
  replace hvr := hvr.belowAll hb
  replace hg := hg.belowAll hb
  replace hq := hq.below hb
  replace hB := hB.trans (hb.mono hB.size)
  clear hb
  clear hv hq
  clear sz_hq
  go_wp2_with fail
  refine (markPartS_any _ n n _ 1 _ hpr (by omega) (by omega)).mono ?_
  rintro e wM ⟨rfl, hO⟩
  have hbt := But.ofOnly hO
  clear hO hpr
  replace hw0 := hw0.but hbt (by omega)
  replace hvr := hvr.but hbt (by omega)
  replace hg := hg.but hbt (by omega)
  replace hB := hB.trans (hbt.below (by omega) hB.size)
  clear hbt
  go_wp2_with fail
  refine (markValS_any _ m m _ (1 + 4 * n) _ hvr (by omega) (by omega)).mono ?_
  rintro e wN ⟨rfl, hO1, hbt⟩
  clear hO1 hvr
  replace hw0 := hw0.but hbt (by omega)
  replace hg := hg.but hbt (by omega)
  replace hB := hB.trans (hbt.below (by omega) hB.size)
  clear hbt
  have hVw := hw0.view hcs hby
  have hVg := hg.view hcg hby
  have hkk : ¬ (1 + 4 * (n : Int) + 3 * (m : Int)) < 0 := by omega
  go_wp2_with fail
  refine (eqByteS_same _ _ LL.length cg cs _ _ _ hVg hVw (by omega) (fun _ _ => rfl)).mono ?_
  rintro e wF ⟨rfl, hb⟩
  replace hw0 := hw0.belowAll hb
  replace hg := hg.belowAll hb
  replace hB := hB.trans (hb.mono hB.size)
  clear hb
  clear hVw hVg
  go_wp2_with fail
  refine (mark_any g LL.length cg _ 1 _ hg (by omega) (by omega)).mono ?_
  rintro e wG ⟨rfl, hgm, hO⟩
  have hbt := But.ofOnly hO
  clear hO hg
  replace hw0 := hw0.but hbt (by omega)
  replace hB := hB.trans (hbt.below (by omega) hB.size)
  clear hbt
  have hVg := hgm.view hcg hbym
  go_wp2_with fail
  refine (held_any _ LL.length cg _ 1 _ hVg (fun _ _ => rfl) (by omega) (by omega)).mono ?_
  rintro e wH ⟨rfl, hb⟩
  replace hw0 := hw0.belowAll hb
  replace hgm := hgm.belowAll hb
  replace hB := hB.trans (hb.mono hB.size)
  clear hb
  clear hVg
  have hqn : ¬ (1 + (LL.length : Int)) < 0 := by omega
  go_wp2_with fail
  refine (toPartS_any a n cap fc ft fu fd _ (h.below hB) hn0.1).mono ?_
  rintro e W_hp ⟨rfl, hC⟩
  have hp := hC.view
  have hb := hC.below
  have sz_hp := hC.size
  clear hC
  replace hw0 := hw0.belowAll hb
  replace hgm := hgm.belowAll hb
  replace hB := hB.trans (hb.mono hB.size)
  clear hb
  go_wp2_with fail
  refine (toValS_row a1 m c1 fk fn fs _ (h1.below hB) hn1.1).mono ?_
  rintro e W_hv ⟨rfl, hC⟩
  have hv := hC.view
  have hb := hC.below
  have sz_hv := hC.size
  clear hC
  replace hw0 := hw0.belowAll hb
  replace hgm := hgm.belowAll hb
  replace hp := hp.below hb
  replace hB := hB.trans (hb.mono hB.size)
  clear hb
  go_wp2_with fail
  refine (implEncodeKey_any _ n n fc ft fu fd _ m m fk fn fs _ hp hv (by omega) (by omega)).mono ?_
  rw [hL.out]
  rintro e wI ⟨g2, cg2, rfl, hE⟩
  have hg2 := hE.row
  have hcg2 := hE.le
  have hb := hE.below
  clear hE
  replace hw0 := hw0.belowAll hb
  replace hgm := hgm.belowAll hb
  replace hp := hp.below hb
  replace hv := hv.below hb
  replace hB := hB.trans (hb.mono hB.size)
  clear hb
  have hVw := hw0.view hcs hby
  have hVg := hg2.view hcg2 hby
  go_wp2_with fail
  refine (eqByteS_same _ _ LL.length cg2 cs _ _ _ hVg hVw (by omega) (fun _ _ => rfl)).mono ?_
  rintro e wJ ⟨rfl, hb⟩
  replace hw0 := hw0.belowAll hb
  replace hgm := hgm.belowAll hb
  replace hp := hp.below hb
  replace hv := hv.below hb
  replace hg2 := hg2.belowAll hb
  replace hB := hB.trans (hb.mono hB.size)
  clear hb
  clear hVw hVg
  clear hp hv hg2
  have hVg := hgm.view hcg hbym
  go_wp2_with fail
  refine (held_any _ LL.length cg _ 1 _ hVg (fun _ _ => rfl) (by omega) (by omega)).mono ?_
  rintro e wK ⟨rfl, hb⟩
  replace hw0 := hw0.belowAll hb
  replace hgm := hgm.belowAll hb
  replace hB := hB.trans (hb.mono hB.size)
  clear hb
  clear hVg
  go_wp2
  go_ret
  exact ⟨rfl, hB⟩
end Go.Proofs.Ytclegljalndaear

/-
  What the frame of a row hands over of a slice of parts that came in.
-/
namespace Go.Proofs.Ytclegljalndaear
open Go.RowKit Go.Deep Go.Joins

theorem partsIn {H : Type} {enc : TypeId × Value → H} {W : World} {sp : Nat → Bool} {a : Option Addr} {len cap : Nat} {d : DataW H} {p : List MemPlace} {T : TypeId}
    (ht : Try.prog.underlying T = some (.slice 53)) (h : DataW.Trod enc Try.prog W 0 sp true T (.slice a len cap) d p) :
    ∃ fc ft fu fd, PView W a len cap fc ft fu fd ∧ cap ≤ maxLen := by
  obtain ⟨fuel, hf⟩ := h
  have c3 : Try.prog.cellsOf 53 = 4 := by kernel_rfl
  rcases DataW.trod_slice ht hf with ⟨hcs, _⟩ | ⟨x, l, c, elems, rest, n, _, hcs, _, _, hl, hm, hlen, hel, _, _⟩
  · simp [Value.cells] at hcs
    obtain ⟨rfl, rfl, rfl⟩ := hcs
    exact ⟨fun _ => 0, fun _ => 0, fun _ => false, fun _ => false, ⟨Nat.le_refl _, fun h => absurd h (Nat.lt_irrefl _)⟩, Nat.zero_le _⟩
  · simp [Value.cells] at hcs
    obtain ⟨rfl, rfl, rfl⟩ := hcs
    have each : ∀ i, i < len → ∃ (k m : Int) (u v : Bool), W.cell? (x.add (i * 4)) = some (.int .i64 k) ∧ W.cell? ((x.add (i * 4)).add 1) = some (.int .i64 m) ∧ W.cell? ((x.add (i * 4)).add 2) = some (.bool u) ∧ W.cell? ((x.add (i * 4)).add 3) = some (.bool v) := by
      intro i hi
      have h1 := hel i hi
      rw [c3] at h1
      have h2 : elems[i]? = some elems[i] := List.getElem?_eq_getElem (by omega)
      rw [h2] at h1
      obtain ⟨cs, hcs, htr⟩ := Option.bind_eq_some_iff.1 h1
      obtain ⟨_, hl3, hcell⟩ := World.cells?_some hcs
      obtain ⟨y0, y1, y2, y3, m, _, _, t0, t1, t2, t3⟩ := trod_struct4 Try.underlying53 htr
      have o1 : Try.prog.cellsOf 3 = 1 := by kernel_rfl
      have o2 : Try.prog.cellsOf 4 = 1 := by kernel_rfl
      simp only [o1, o2] at t0 t1 t2 t3
      match cs, hl3 with
      | [c0, c1, c2, c3], _ =>
        simp only [List.drop_zero, List.drop_succ_cons, List.take_succ_cons, List.take_zero] at t0 t1 t2 t3
        obtain ⟨k, e0, _, _⟩ := DataW.trod_int Try.underlying3 t0
        obtain ⟨m, e1, _, _⟩ := DataW.trod_int Try.underlying3 t1
        obtain ⟨u, e2, _⟩ := DataW.trod_bool Try.underlying4 t2
        obtain ⟨v, e3, _⟩ := DataW.trod_bool Try.underlying4 t3
        simp only [List.cons.injEq, and_true] at e0 e1 e2 e3
        subst e0 e1 e2 e3
        refine ⟨k, m, u, v, ?_, ?_, ?_, ?_⟩
        · have := hcell 0 (by omega)
          simpa [Addr.add] using this
        · exact hcell 1 (by omega)
        · exact hcell 2 (by omega)
        · exact hcell 3 (by omega)
    refine ⟨fun i => if h : i < len then (each i h).choose else 0, fun i => if h : i < len then (each i h).choose_spec.choose else 0, fun i => if h : i < len then (each i h).choose_spec.choose_spec.choose else false, fun i => if h : i < len then (each i h).choose_spec.choose_spec.choose_spec.choose else false, ⟨hl, fun hn => ?_⟩, hm⟩
    obtain ⟨b, off, spot⟩ := x
    obtain ⟨k0, m0, u0, v0, h0, _⟩ := each 0 hn
    have hs : spot = none := by simpa [Addr.add] using World.cell?_spot h0
    subst hs
    refine ⟨b, off, rfl, World.block_lt_of_cell? _ _ h0, fun i hi => ?_⟩
    have hsp := (each i hi).choose_spec.choose_spec.choose_spec.choose_spec
    have ea : (⟨b, off, none⟩ : Addr).add (i * 4) = ⟨b, off + i * 4, none⟩ := by unfold Addr.add; split <;> simp_all
    have eb : ∀ j, (⟨b, off + i * 4, none⟩ : Addr).add j = ⟨b, off + i * 4 + j, none⟩ := fun j => by unfold Addr.add; split <;> simp_all
    have e1 : (⟨b, off + i * 4 + 1, none⟩ : Addr) = ((⟨b, off, none⟩ : Addr).add (i * 4)).add 1 := by rw [ea, eb]
    have e2 : (⟨b, off + i * 4 + 2, none⟩ : Addr) = ((⟨b, off, none⟩ : Addr).add (i * 4)).add 2 := by rw [ea, eb]
    have e3 : (⟨b, off + i * 4 + 3, none⟩ : Addr) = ((⟨b, off, none⟩ : Addr).add (i * 4)).add 3 := by rw [ea, eb]
    simp only [dif_pos hi]
    exact ⟨by rw [← ea]; exact hsp.1, by rw [e1]; exact hsp.2.1, by rw [e2]; exact hsp.2.2.1, by rw [e3]; exact hsp.2.2.2⟩
end Go.Proofs.Ytclegljalndaear

