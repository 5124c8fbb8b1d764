/-
  Together: LawDecodeRow, PartsIn
-/
import Derived.Test.YtikopeihkbpjhasPack4
import Derived.Test.YtikopeihkbpjhasPack7
import Derived.Test.YtikopeihkbpjhasPack3
import Derived.Lib.SmallJoins
import Derived.Deep.Strs
import Derived.Deep.LoopGhost
/-
  The walk over the law FnExactDecodeRow.
-/
namespace Go.Proofs.Ytikopeihkbpjhas
open Go.RowKit
set_option maxRecDepth 4000

set_option linter.unusedSimpArgs false in
set_option maxHeartbeats 4000000 in
theorem lawDecodeRow (a : Option Addr) (n cap : Nat) (fc ft : Nat → Int) (fu fd : Nat → Bool) (a1 : Option Addr) (N cb : Nat) (F : Nat → Int) (w : World) (h : PView w a n cap fc ft fu fd) (h1 : View w a1 N cb F) (hM : n ≤ maxLen) :
    Calls Try.prog 5 #[.slice a n cap, .slice a1 N cb] w fun e w' => e = .returned (.bool true) ∧ Below w.heap.size w w' := by
  have hB : Below w.heap.size w w := Below.refl _ _
  obtain ⟨o, ho⟩ : ∃ o, Hid (decROk N F n fc ft fu = o) := ⟨_, rfl⟩
  obtain ⟨MM, hMM⟩ : ∃ MM, Hid ((if o = true then rCnt (N - 4) F else 0) = MM) := ⟨_, rfl⟩
  have hMn : MM ≤ 7 := by
    rw [← hMM.out]
    split
    · rename_i e
      rw [e] at ho
      have := ho.out
      unfold decROk rowRd at this
      simp only [Bool.and_eq_true, decide_eq_true_eq] at this
      omega
    · omega
  go_enter Try.func5, Try.ntmps5
  by_cases hN : N > 1048576
  · have hNz : (N : Int) > 1048576 := by omega
    go_wp2
    go_ret
    exact ⟨rfl, hB⟩
  have hNz : ¬ (N : Int) > 1048576 := by omega
  go_wp2_with fail
  refine (szPartS_any a n cap 1048576 _ hM (by omega) (by omega)).mono ?_
  rintro e w0 ⟨L0, rfl, rfl, hL0⟩
  by_cases hneg0 : L0 < 0
  · go_wp2
    go_ret
    exact ⟨rfl, hB⟩
  have hn0 : n ≤ 1048576 ∧ 0 ≤ L0 ∧ L0 ≤ 1048576 := by omega
  clear hL0
  go_wp2_with fail
  refine (toPartS_any a n cap fc ft fu fd _ (h.below hB) hn0.1).mono ?_
  rintro e W_hp ⟨rfl, hC⟩
  have hp := hC.view
  have hb := hC.below
  have sz_hp := hC.size
  clear hC
  replace hB := hB.trans (hb.mono hB.size)
  clear hb
  go_wp2_with fail
  refine (toByteS_any a1 N cb F _ (h1.below hB) (by omega)).mono ?_
  rintro e W_hv ⟨rfl, hC, hb, hz⟩
  have hv := (Row.ofIs hC).view (Nat.le_refl _) h1.byte
  have sz_hv : _ = _ + 1 := hz
  clear hC hz
  replace hp := hp.below hb
  replace hB := hB.trans (hb.mono hB.size)
  clear hb
  go_wp2_with fail
  refine (specDecodeRow_any _ n n fc ft fu fd _ N N F _ hp hv hn0.1 (by omega)).mono ?_
  rintro e wA ⟨v0, M0, he, hne, hM0, hO, hb⟩
  rw [ho.out] at he hM0
  rw [hMM.out] at hM0
  rw [hM0] at hO
  clear hM0
  subst he
  obtain ⟨gs, cs, rfl, hw0n, hw0c, hw0⟩ := RowV.ofOwn hO hne
  clear hO hne
  replace hp := hp.below hb
  replace hv := hv.below hb
  replace hB := hB.trans (hb.mono hB.size)
  clear hb
  clear hp hv
  clear sz_hp sz_hv
  have lw0 := hw0.lt
  have sB0 := hB.size
  go_wp2_with fail
  refine (toPartS_any a n cap fc ft fu fd _ (h.below hB) hn0.1).mono ?_
  rintro e W_hp ⟨rfl, hC⟩
  have hp := hC.view
  have hb := hC.below
  have hpr := hC.row
  have sz_hp := hC.size
  clear hC
  replace hw0 := hw0.belowAll hb
  replace hB := hB.trans (hb.mono hB.size)
  clear hb
  go_wp2_with fail
  refine (toByteS_any a1 N cb F _ (h1.below hB) (by omega)).mono ?_
  rintro e W_hv ⟨rfl, hC, hb, hz⟩
  have hv := (Row.ofIs hC).view (Nat.le_refl _) h1.byte
  have hvr := Row.ofIs hC
  have sz_hv : _ = _ + 1 := hz
  clear hC hz
  replace hw0 := hw0.belowAll hb
  replace hp := hp.below hb
  replace hpr := rowIs_belowP hpr hb (World.rowIs.lt hpr)
  replace hB := hB.trans (hb.mono hB.size)
  clear hb
  have lpr := World.rowIs.lt hpr
  have lvr := hvr.lt
  go_wp2_with fail
  refine (implDecodeRow_any _ n n fc ft fu fd _ N N F _ hp hv (by omega) (by omega)).mono ?_
  rintro e wB ⟨v1, M0, he, hne, hM0, hO, hb⟩
  rw [ho.out] at he hM0
  rw [hMM.out] at hM0
  rw [hM0] at hO
  clear hM0
  subst he
  obtain ⟨g, cg, rfl, hgn, hgc, hg⟩ := RowV.ofOwn hO hne
  clear hO hne
  replace hw0 := hw0.belowAll hb
  replace hp := hp.below hb
  replace hpr := rowIs_belowP hpr hb (World.rowIs.lt hpr)
  replace hv := hv.below hb
  replace hvr := hvr.belowAll hb
  replace hB := hB.trans (hb.mono hB.size)
  clear hb
  have q : (o != o) = false := by cases o <;> rfl
  have hVw := RowV.vview (c := cs) hw0 hw0c
  have hVg := RowV.vview (c := cg) hg hgc
  go_wp2_with fail
  refine (eqValS_same _ _ MM cg cs (rK (N - 4) F) (rN (N - 4) F) (rS (N - 4) F) _ hVg hVw (by omega)).mono ?_
  rintro e wC ⟨rfl, hb⟩
  replace hw0 := hw0.belowAll hb
  replace hp := hp.below hb
  replace hpr := rowIs_belowP hpr hb (World.rowIs.lt hpr)
  replace hv := hv.below hb
  replace hvr := hvr.belowAll hb
  replace hg := hg.belowAll hb
  replace hB := hB.trans (hb.mono hB.size)
  clear hb
  clear hVw hVg
  go_wp2_with fail
  refine (toPartS_any a n cap fc ft fu fd _ (h.below hB) hn0.1).mono ?_
  rintro e W_hq ⟨rfl, hC⟩
  have hq := hC.view
  have hb := hC.below
  have sz_hq := hC.size
  clear hC
  replace hw0 := hw0.belowAll hb
  replace hp := hp.below hb
  replace hpr := rowIs_belowP hpr hb (World.rowIs.lt hpr)
  replace hv := hv.below hb
  replace hvr := hvr.belowAll hb
  replace hg := hg.belowAll hb
  replace hB := hB.trans (hb.mono hB.size)
  clear hb
  go_wp2_with fail
  refine (eqPartS_same _ _ n n n fc ft fu fd _ hp hq hn0.1).mono ?_
  rintro e wD ⟨rfl, hb⟩
  replace hw0 := hw0.belowAll hb
  replace hp := hp.below hb
  replace hpr := rowIs_belowP hpr hb (World.rowIs.lt hpr)
  replace hv := hv.below hb
  replace hvr := hvr.belowAll hb
  replace hg := hg.belowAll hb
  replace hq := hq.below hb
  replace hB := hB.trans (hb.mono hB.size)
  clear hb
  clear hp hq
  clear sz_hq
  go_wp2_with fail
  refine (toByteS_any a1 N cb F _ (h1.below hB) (by omega)).mono ?_
  rintro e W_hq ⟨rfl, hC, hb, hz⟩
  have hq := (Row.ofIs hC).view (Nat.le_refl _) h1.byte
  have sz_hq : _ = _ + 1 := hz
  clear hC hz
  replace hw0 := hw0.belowAll hb
  replace hpr := rowIs_belowP hpr hb (World.rowIs.lt hpr)
  replace hv := hv.below hb
  replace hvr := hvr.belowAll hb
  replace hg := hg.belowAll hb
  replace hB := hB.trans (hb.mono hB.size)
  clear hb
  go_wp2_with fail
  refine (eqByteS_same _ _ N N N F F _ hv hq (by omega) (fun _ _ => rfl)).mono ?_
  rintro e wE ⟨rfl, hb⟩
  replace hw0 := hw0.belowAll hb
  replace hpr := rowIs_belowP hpr hb (World.rowIs.lt hpr)
  replace hv := hv.below hb
  replace hvr := hvr.belowAll hb
  replace hg := hg.belowAll hb
  replace hq := hq.below hb
  replace hB := hB.trans (hb.mono hB.size)
  clear hb
  clear hv hq
  clear sz_hq
  go_wp2_with fail
  refine (markPartS_any _ n n _ 1 _ hpr (by omega) (by omega)).mono ?_
  rintro e wM ⟨rfl, hO⟩
  have hbt := But.ofOnly hO
  clear hO hpr
  replace hw0 := hw0.but hbt (by omega)
  replace hvr := hvr.but hbt (by omega)
  replace hg := hg.but hbt (by omega)
  replace hB := hB.trans (hbt.below (by omega) hB.size)
  clear hbt
  go_wp2_with fail
  refine (mark_any _ N N _ (1 + 4 * n) _ hvr (by omega) (by omega)).mono ?_
  rintro e wN ⟨rfl, hO1, hO⟩
  have hbt := But.ofOnly hO
  clear hO hO1 hvr
  replace hw0 := hw0.but hbt (by omega)
  replace hg := hg.but hbt (by omega)
  replace hB := hB.trans (hbt.below (by omega) hB.size)
  clear hbt
  have hkk : ¬ (1 + 4 * (n : Int) + (N : Int)) < 0 := by omega
  have hVw := RowV.vview (c := cs) hw0 hw0c
  have hVg := RowV.vview (c := cg) hg hgc
  go_wp2_with fail
  refine (eqValS_same _ _ MM cg cs (rK (N - 4) F) (rN (N - 4) F) (rS (N - 4) F) _ hVg hVw (by omega)).mono ?_
  rintro e wF ⟨rfl, hb⟩
  replace hw0 := hw0.belowAll hb
  replace hg := hg.belowAll hb
  replace hB := hB.trans (hb.mono hB.size)
  clear hb
  clear hVw hVg
  go_wp2_with fail
  refine (markValS_any g MM cg _ 1 _ hg (by omega) (by omega)).mono ?_
  rintro e wG ⟨rfl, hgm, hbt⟩
  clear hg
  replace hw0 := hw0.but hbt (by omega)
  replace hB := hB.trans (hbt.below (by omega) hB.size)
  clear hbt
  have hVg := RowV.marked (c := cg) hgm hgc
  go_wp2_with fail
  refine (heldValS_any _ MM cg 1 _ hVg (by omega) (by omega)).mono ?_
  rintro e wH ⟨rfl, hb⟩
  replace hw0 := hw0.belowAll hb
  replace hgm := hgm.belowAll hb
  replace hB := hB.trans (hb.mono hB.size)
  clear hb
  clear hVg
  have hqn : ¬ (1 + 3 * (MM : Int)) < 0 := by omega
  go_wp2_with fail
  refine (toPartS_any a n cap fc ft fu fd _ (h.below hB) hn0.1).mono ?_
  rintro e W_hp ⟨rfl, hC⟩
  have hp := hC.view
  have hb := hC.below
  have sz_hp := hC.size
  clear hC
  replace hw0 := hw0.belowAll hb
  replace hgm := hgm.belowAll hb
  replace hB := hB.trans (hb.mono hB.size)
  clear hb
  go_wp2_with fail
  refine (toByteS_any a1 N cb F _ (h1.below hB) (by omega)).mono ?_
  rintro e W_hv ⟨rfl, hC, hb, hz⟩
  have hv := (Row.ofIs hC).view (Nat.le_refl _) h1.byte
  have sz_hv : _ = _ + 1 := hz
  clear hC hz
  replace hw0 := hw0.belowAll hb
  replace hgm := hgm.belowAll hb
  replace hp := hp.below hb
  replace hB := hB.trans (hb.mono hB.size)
  clear hb
  go_wp2_with fail
  refine (implDecodeRow_any _ n n fc ft fu fd _ N N F _ hp hv (by omega) (by omega)).mono ?_
  rintro e wI ⟨v2, M0, he, hne, hM0, hO, hb⟩
  rw [ho.out] at he hM0
  rw [hMM.out] at hM0
  rw [hM0] at hO
  clear hM0
  subst he
  obtain ⟨g2, cg2, rfl, hg2n, hg2c, hg2⟩ := RowV.ofOwn hO hne
  clear hO hne
  replace hw0 := hw0.belowAll hb
  replace hgm := hgm.belowAll hb
  replace hp := hp.below hb
  replace hv := hv.below hb
  replace hB := hB.trans (hb.mono hB.size)
  clear hb
  have hVw := RowV.vview (c := cs) hw0 hw0c
  have hVg := RowV.vview (c := cg2) hg2 hg2c
  go_wp2_with fail
  refine (eqValS_same _ _ MM cg2 cs (rK (N - 4) F) (rN (N - 4) F) (rS (N - 4) F) _ hVg hVw (by omega)).mono ?_
  rintro e wJ ⟨rfl, hb⟩
  replace hw0 := hw0.belowAll hb
  replace hgm := hgm.belowAll hb
  replace hp := hp.below hb
  replace hv := hv.below hb
  replace hg2 := hg2.belowAll hb
  replace hB := hB.trans (hb.mono hB.size)
  clear hb
  clear hVw hVg
  clear hp hv hg2
  have hVg := RowV.marked (c := cg) hgm hgc
  go_wp2_with fail
  refine (heldValS_any _ MM cg 1 _ hVg (by omega) (by omega)).mono ?_
  rintro e wK ⟨rfl, hb⟩
  replace hw0 := hw0.belowAll hb
  replace hgm := hgm.belowAll hb
  replace hB := hB.trans (hb.mono hB.size)
  clear hb
  clear hVg
  go_wp2
  go_ret
  exact ⟨rfl, hB⟩
end Go.Proofs.Ytikopeihkbpjhas

/-
  What the frame of a row hands over of a slice of parts that came in.
-/
namespace Go.Proofs.Ytikopeihkbpjhas
open Go.RowKit Go.Deep Go.Joins

theorem partsIn {H : Type} {enc : TypeId × Value → H} {W : World} {sp : Nat → Bool} {a : Option Addr} {len cap : Nat} {d : DataW H} {p : List MemPlace} {T : TypeId}
    (ht : Try.prog.underlying T = some (.slice 51)) (h : DataW.Trod enc Try.prog W 0 sp true T (.slice a len cap) d p) :
    ∃ fc ft fu fd, PView W a len cap fc ft fu fd ∧ cap ≤ maxLen := by
  obtain ⟨fuel, hf⟩ := h
  have c3 : Try.prog.cellsOf 51 = 4 := by kernel_rfl
  rcases DataW.trod_slice ht hf with ⟨hcs, _⟩ | ⟨x, l, c, elems, rest, n, _, hcs, _, _, hl, hm, hlen, hel, _, _⟩
  · simp [Value.cells] at hcs
    obtain ⟨rfl, rfl, rfl⟩ := hcs
    exact ⟨fun _ => 0, fun _ => 0, fun _ => false, fun _ => false, ⟨Nat.le_refl _, fun h => absurd h (Nat.lt_irrefl _)⟩, Nat.zero_le _⟩
  · simp [Value.cells] at hcs
    obtain ⟨rfl, rfl, rfl⟩ := hcs
    have each : ∀ i, i < len → ∃ (k m : Int) (u v : Bool), W.cell? (x.add (i * 4)) = some (.int .i64 k) ∧ W.cell? ((x.add (i * 4)).add 1) = some (.int .i64 m) ∧ W.cell? ((x.add (i * 4)).add 2) = some (.bool u) ∧ W.cell? ((x.add (i * 4)).add 3) = some (.bool v) := by
      intro i hi
      have h1 := hel i hi
      rw [c3] at h1
      have h2 : elems[i]? = some elems[i] := List.getElem?_eq_getElem (by omega)
      rw [h2] at h1
      obtain ⟨cs, hcs, htr⟩ := Option.bind_eq_some_iff.1 h1
      obtain ⟨_, hl3, hcell⟩ := World.cells?_some hcs
      obtain ⟨y0, y1, y2, y3, m, _, _, t0, t1, t2, t3⟩ := trod_struct4 Try.underlying51 htr
      have o1 : Try.prog.cellsOf 3 = 1 := by kernel_rfl
      have o2 : Try.prog.cellsOf 4 = 1 := by kernel_rfl
      simp only [o1, o2] at t0 t1 t2 t3
      match cs, hl3 with
      | [c0, c1, c2, c3], _ =>
        simp only [List.drop_zero, List.drop_succ_cons, List.take_succ_cons, List.take_zero] at t0 t1 t2 t3
        obtain ⟨k, e0, _, _⟩ := DataW.trod_int Try.underlying3 t0
        obtain ⟨m, e1, _, _⟩ := DataW.trod_int Try.underlying3 t1
        obtain ⟨u, e2, _⟩ := DataW.trod_bool Try.underlying4 t2
        obtain ⟨v, e3, _⟩ := DataW.trod_bool Try.underlying4 t3
        simp only [List.cons.injEq, and_true] at e0 e1 e2 e3
        subst e0 e1 e2 e3
        refine ⟨k, m, u, v, ?_, ?_, ?_, ?_⟩
        · have := hcell 0 (by omega)
          simpa [Addr.add] using this
        · exact hcell 1 (by omega)
        · exact hcell 2 (by omega)
        · exact hcell 3 (by omega)
    refine ⟨fun i => if h : i < len then (each i h).choose else 0, fun i => if h : i < len then (each i h).choose_spec.choose else 0, fun i => if h : i < len then (each i h).choose_spec.choose_spec.choose else false, fun i => if h : i < len then (each i h).choose_spec.choose_spec.choose_spec.choose else false, ⟨hl, fun hn => ?_⟩, hm⟩
    obtain ⟨b, off, spot⟩ := x
    obtain ⟨k0, m0, u0, v0, h0, _⟩ := each 0 hn
    have hs : spot = none := by simpa [Addr.add] using World.cell?_spot h0
    subst hs
    refine ⟨b, off, rfl, World.block_lt_of_cell? _ _ h0, fun i hi => ?_⟩
    have hsp := (each i hi).choose_spec.choose_spec.choose_spec.choose_spec
    have ea : (⟨b, off, none⟩ : Addr).add (i * 4) = ⟨b, off + i * 4, none⟩ := by unfold Addr.add; split <;> simp_all
    have eb : ∀ j, (⟨b, off + i * 4, none⟩ : Addr).add j = ⟨b, off + i * 4 + j, none⟩ := fun j => by unfold Addr.add; split <;> simp_all
    have e1 : (⟨b, off + i * 4 + 1, none⟩ : Addr) = ((⟨b, off, none⟩ : Addr).add (i * 4)).add 1 := by rw [ea, eb]
    have e2 : (⟨b, off + i * 4 + 2, none⟩ : Addr) = ((⟨b, off, none⟩ : Addr).add (i * 4)).add 2 := by rw [ea, eb]
    have e3 : (⟨b, off + i * 4 + 3, none⟩ : Addr) = ((⟨b, off, none⟩ : Addr).add (i * 4)).add 3 := by rw [ea, eb]
    simp only [dif_pos hi]
    exact ⟨by rw [← ea]; exact hsp.1, by rw [e1]; exact hsp.2.1, by rw [e2]; exact hsp.2.2.1, by rw [e3]; exact hsp.2.2.2⟩
end Go.Proofs.Ytikopeihkbpjhas

