/-
  Together: CheckImpl, DefIn, DefsIn, LaidEt
-/
import Derived.Test.YtjoimkfpenbkmabGreatDoorPackK29
import Derived.Test.YtjoimkfpenbkmabGreatDoorPackK19
import Derived.Deep.Strs
import Derived.ChangeSame
import Derived.Lib.SmallJoins
import Derived.Test.YtjoimkfpenbkmabGreatDoorPackK5
import Derived.Test.YtjoimkfpenbkmabGreatDoorRows
import Derived.LaidHandle
import Derived.LaidLaws
import Derived.Lib.LaidTab
import Derived.ChangeArms
/-
  The program's CheckDef comes to the plain one.
-/
namespace Go.Proofs.YtjoimkfpenbkmabGreatDoor
open Go.RowKit
set_option maxRecDepth 4000

/-- The library's own error type, as its variable holds it. -/
def ErrT (w : World) : Prop := w.cell? ⟨0, 0, none⟩ = some (.iface 196 (.agg #[hdl 150]))
theorem ErrT.lt {w : World} (h : ErrT w) : 0 < w.heap.size := World.block_lt_of_cell? _ _ h
theorem ErrT.below {w w' : World} (h : ErrT w) (hb : Below w.heap.size w w') : ErrT w' := (hb.cell (p := ⟨0, 0, none⟩) h.lt).trans h

set_option maxHeartbeats 4000000 in
theorem implCheck_any (v : Value) (D : PDef) (w : World) (h : DView w v D) (hf : DFine D) (hg : ErrT w) :
    Calls Tryz.prog 88 #[v] w fun e w' => e = .returned (.int .i64 (checkF D)) ∧ Below w.heap.size w w' := by
  have hv := h
  obtain ⟨ac, cc, ap, cp, ai, ci, rfl, -, -, -⟩ := h.is
  clear h
  have hb0 : Below w.heap.size w ((w.alloc (.cells #[.string D.name, .slice ac D.nc cc, .slice ap D.np cp, .slice ai D.ni ci] 60)).alloc (.cells #[.int .i64 0, .string ⟨#[]⟩] 147)) := ((Below.refl _ _).alloc (Nat.le_refl _) _).alloc (by simp) _
  have hW := wrongDef_any _ D _ (hv.below hb0) hf
  have c0 : ((w.alloc (.cells #[.string D.name, .slice ac D.nc cc, .slice ap D.np cp, .slice ai D.ni ci] 60)).alloc (.cells #[.int .i64 0, .string ⟨#[]⟩] 147)).cell? ⟨w.heap.size + 1, 0, none⟩ = some (.int .i64 0) := by simp
  have c1 : ((w.alloc (.cells #[.string D.name, .slice ac D.nc cc, .slice ap D.np cp, .slice ai D.ni ci] 60)).alloc (.cells #[.int .i64 0, .string ⟨#[]⟩] 147)).cell? ⟨w.heap.size + 1, 1, none⟩ = some (.string ⟨#[]⟩) := by simp [go_sem]
  have f0 : ((w.alloc (.cells #[.string D.name, .slice ac D.nc cc, .slice ap D.np cp, .slice ai D.ni ci] 60)).alloc (.cells #[.int .i64 0, .string ⟨#[]⟩] 147)).frozen? ⟨w.heap.size + 1, 0, none⟩ = false := by simp
  have f1 : ((w.alloc (.cells #[.string D.name, .slice ac D.nc cc, .slice ap D.np cp, .slice ai D.ni ci] 60)).alloc (.cells #[.int .i64 0, .string ⟨#[]⟩] 147)).frozen? ⟨w.heap.size + 1, 1, none⟩ = false := by simp [go_sem]
  have hsz : ((w.alloc (.cells #[.string D.name, .slice ac D.nc cc, .slice ap D.np cp, .slice ai D.ni ci] 60)).alloc (.cells #[.int .i64 0, .string ⟨#[]⟩] 147)).heap.size = w.heap.size + 1 + 1 := by simp
  have HG : Hid (ErrT w) := hg
  clear hv hf hg
  go_enter Tryz.func88, Tryz.ntmps88
  go_wp2_with fail
  refine hW.mono ?_
  rintro e w1 ⟨r, rfl, hr, hb1⟩
  rw [hsz] at hb1
  have hB1 : Below w.heap.size w w1 := hb0.trans (hb1.mono (by omega))
  have hg1 := HG.out.below hB1
  have hs1 := hb1.size
  rw [← hb1.cell (p := ⟨w.heap.size + 1, 0, none⟩) (by show w.heap.size + 1 < _; omega)] at c0
  rw [← hb1.cell (p := ⟨w.heap.size + 1, 1, none⟩) (by show w.heap.size + 1 < _; omega)] at c1
  rw [← hb1.frozen (p := ⟨w.heap.size + 1, 0, none⟩) (by show w.heap.size + 1 < _; omega)] at f0
  rw [← hb1.frozen (p := ⟨w.heap.size + 1, 1, none⟩) (by show w.heap.size + 1 < _; omega)] at f1
  rcases hr with ⟨hz, rfl⟩ | ⟨hz, s, rfl⟩
  · have hA := fun t => as_nil t w1
    have HZ : Hid (checkF D = 0) := hz
    have HB : Hid (Below w.heap.size w w1) := hB1
    clear hW hb0 hb1 hB1 hg1 hz hsz c0 c1 f0 f1
    go_wp2_with fail
    refine (hA _).mono ?_
    rintro e w2 ⟨rfl, rfl⟩
    clear hA
    go_wp2
    go_ret
    exact ⟨by rw [HZ.out]; rfl, HB.out⟩
  · have hA := as_hit (w.heap.size + 1) (checkF D) s _ _ w1 hg1 (by omega) c0 c1 f0 f1
    have HB : Hid (Below w.heap.size w w1) := hB1
    obtain ⟨z, hzz⟩ : ∃ z, Hid (checkF D = z) := ⟨_, rfl⟩
    rw [hzz.out] at hA ⊢
    clear hW hb0 hb1 hB1 hg1 hz hsz c0 c1 f0 f1
    go_wp2_with fail
    refine hA.mono ?_
    rintro e w2 ⟨rfl, c2, hb2⟩
    have HB2 : Hid (Below w.heap.size w w2) := HB.out.trans (hb2.mono (by omega))
    clear hA hb2 HB
    go_wp2
    go_ret
    exact ⟨by rw [hzz.out]; rfl, HB2.out⟩
end Go.Proofs.YtjoimkfpenbkmabGreatDoor

/-
  What the frame of a row hands over of a table that came in.
-/
namespace Go.Proofs.YtjoimkfpenbkmabGreatDoor
open Go.RowKit
set_option maxRecDepth 4000
open Go.Deep Go.ChangeShapes

/-- A slice that came in, whose elements are each read. -/
theorem sliceIn {H : Type} {enc : TypeId × Value → H} {W : World} {sp : Nat → Bool} {α : Type} [Inhabited α] {T e : TypeId} {c fuel : Nat} {cs : List Value} {x : DataW H × List MemPlace}
    (ht : Tryz.prog.underlying T = some (.slice e)) (hc : Tryz.prog.cellsOf e = c) (hc0 : 0 < c) (Q : Addr → α → Prop)
    (each : ∀ (fuel : Nat) (cs : List Value) (x : DataW H × List MemPlace) (a : Addr), cs.length = c → (∀ j, j < c → W.cell? (a.add j) = cs[j]?) → DataW.trod enc Tryz.prog W 0 sp true fuel e cs = some x → ∃ y, Q a y)
    (h : DataW.trod enc Tryz.prog W 0 sp true fuel T cs = some x) :
    ∃ (ao : Option Addr) (n cap : Nat) (f : Nat → α), cs = [.slice ao n cap] ∧ n ≤ cap ∧ cap ≤ maxLen ∧ (0 < n → ∃ b off, ao = some ⟨b, off, none⟩ ∧ b < W.heap.size ∧ ∀ i, i < n → Q ⟨b, off + i * c, none⟩ (f i)) := by
  rcases DataW.trod_slice ht h with ⟨hcs, _⟩ | ⟨a, l, cap, elems, rest, n, _, hcs, _, _, hl, hm, hlen, hel, _, _⟩
  · exact ⟨none, 0, 0, fun _ => default, hcs, Nat.le_refl _, Nat.zero_le _, fun h => absurd h (Nat.lt_irrefl _)⟩
  · have key : ∀ i, i < l → ∃ y, Q (a.add (i * c)) y ∧ W.cell? (a.add (i * c)) ≠ none := by
      intro i hi
      have h1 := hel i hi
      rw [hc] at h1
      have h2 : elems[i]? = some elems[i] := List.getElem?_eq_getElem (by omega)
      rw [h2] at h1
      obtain ⟨cs, hcs, htr⟩ := Option.bind_eq_some_iff.1 h1
      obtain ⟨_, hl3, hcell⟩ := World.cells?_some hcs
      obtain ⟨y, hy⟩ := each n cs _ _ hl3 (fun j hj => hcell j hj) htr
      refine ⟨y, hy, ?_⟩
      have := hcell 0 (by omega)
      intro hn
      rw [show (a.add (i * c)).add 0 = a.add (i * c) by unfold Addr.add; split <;> simp_all, hn, List.getElem?_eq_getElem (by omega)] at this
      cases this
    have pick : ∃ f : Nat → α, ∀ i, i < l → Q (a.add (i * c)) (f i) := ⟨fun i => if h : i < l then (key i h).choose else default, fun i hi => by simp only [dif_pos hi]; exact (key i hi).choose_spec.1⟩
    obtain ⟨f, hf⟩ := pick
    refine ⟨some a, l, cap, f, hcs, hl, hm, fun hn => ?_⟩
    obtain ⟨b, off, spot⟩ := a
    obtain ⟨y0, -, h0⟩ := key 0 hn
    obtain ⟨u, hu⟩ := Option.ne_none_iff_exists'.1 h0
    have hs : spot = none := by simpa [Addr.add] using World.cell?_spot hu
    subst hs
    have ea : ∀ j, (⟨b, off, none⟩ : Addr).add j = ⟨b, off + j, none⟩ := fun j => by unfold Addr.add; split <;> simp_all
    rw [ea] at hu
    refine ⟨b, off, rfl, World.block_lt_of_cell? _ _ hu, fun i hi => ?_⟩
    have := hf i hi
    rw [ea] at this
    exact this

instance : Inhabited PBy := ⟨⟨0, false⟩⟩
instance : Inhabited PCol := ⟨⟨⟨#[]⟩, 0, false⟩⟩
instance : Inhabited PIdx := ⟨⟨⟨#[]⟩, false, 0, fun _ => default⟩⟩

theorem addr_add (b off j : Nat) : (⟨b, off, none⟩ : Addr).add j = ⟨b, off + j, none⟩ := by unfold Addr.add; split <;> simp_all

theorem bysIn {H : Type} {enc : TypeId × Value → H} {W : World} {sp : Nat → Bool} {fuel : Nat} {cs : List Value} {x : DataW H × List MemPlace}
    (h : DataW.trod enc Tryz.prog W 0 sp true fuel 45 cs = some x) : ∃ a n cap f, cs = [.slice a n cap] ∧ BView W a n cap f ∧ n ≤ maxLen := by
  have c2 : Tryz.prog.cellsOf 121 = 2 := by kernel_rfl
  obtain ⟨a, n, cap, f, e, hl, hm, hv⟩ := sliceIn (α := PBy) Tryz.underlying45 c2 (by decide) (fun a y => W.cell? (a.add 0) = some (.int .i64 y.col) ∧ W.cell? (a.add 1) = some (.bool y.desc)) (by
    intro fuel cs x a hl hcell htr
    obtain ⟨y0, y1, m, _, _, t0, t1⟩ := trod_struct2 Tryz.underlying121 htr
    have o1 : Tryz.prog.cellsOf 3 = 1 := by kernel_rfl
    have o2 : Tryz.prog.cellsOf 4 = 1 := by kernel_rfl
    simp only [o1, o2] at t0 t1
    match cs, hl with
    | [c0, c1], _ =>
      simp only [List.drop_zero, List.drop_succ_cons, List.take_succ_cons, List.take_zero] at t0 t1
      obtain ⟨k, e0, _, _⟩ := DataW.trod_int Tryz.underlying3 t0
      obtain ⟨s, e1, _⟩ := DataW.trod_bool Tryz.underlying4 t1
      simp only [List.cons.injEq, and_true] at e0 e1
      subst e0 e1
      exact ⟨⟨k, s⟩, hcell 0 (by decide), hcell 1 (by decide)⟩) h
  refine ⟨a, n, cap, f, e, ⟨hl, fun hn => ?_⟩, Nat.le_trans hl hm⟩
  obtain ⟨b, off, ea, hlt, hc⟩ := hv hn
  refine ⟨b, off, ea, hlt, fun i hi => ?_⟩
  have := hc i hi
  simpa only [addr_add, Nat.add_zero] using this

theorem colsIn {H : Type} {enc : TypeId × Value → H} {W : World} {sp : Nat → Bool} {fuel : Nat} {cs : List Value} {x : DataW H × List MemPlace}
    (h : DataW.trod enc Tryz.prog W 0 sp true fuel 44 cs = some x) : ∃ a n cap f, cs = [.slice a n cap] ∧ CView W a n cap f ∧ n ≤ maxLen ∧ ∀ i, i < n → (f i).name.size ≤ maxLen := by
  have c2 : Tryz.prog.cellsOf 111 = 3 := by kernel_rfl
  obtain ⟨a, n, cap, f, e, hl, hm, hv⟩ := sliceIn (α := PCol) Tryz.underlying44 c2 (by decide) (fun a y => (W.cell? (a.add 0) = some (.string y.name) ∧ W.cell? (a.add 1) = some (.int .i64 y.type) ∧ W.cell? (a.add 2) = some (.bool y.null)) ∧ y.name.size ≤ maxLen) (by
    intro fuel cs x a hl hcell htr
    obtain ⟨y0, y1, y2, m, _, _, t0, t1, t2⟩ := trod_struct3 Tryz.underlying111 htr
    have o0 : Tryz.prog.cellsOf 9 = 1 := by kernel_rfl
    have o1 : Tryz.prog.cellsOf 3 = 1 := by kernel_rfl
    have o2 : Tryz.prog.cellsOf 4 = 1 := by kernel_rfl
    simp only [o0, o1, o2] at t0 t1 t2
    match cs, hl with
    | [c0, c1, c2], _ =>
      simp only [List.drop_zero, List.drop_succ_cons, List.take_succ_cons, List.take_zero] at t0 t1 t2
      obtain ⟨s, e0, _, hs⟩ := DataW.trod_string Tryz.underlying9 t0
      obtain ⟨k, e1, _, _⟩ := DataW.trod_int Tryz.underlying3 t1
      obtain ⟨z, e2, _⟩ := DataW.trod_bool Tryz.underlying4 t2
      simp only [List.cons.injEq, and_true] at e0 e1 e2
      subst e0 e1 e2
      exact ⟨⟨s, k, z⟩, ⟨hcell 0 (by decide), hcell 1 (by decide), hcell 2 (by decide)⟩, hs⟩) h
  refine ⟨a, n, cap, f, e, ⟨hl, fun hn => ?_⟩, Nat.le_trans hl hm, fun i hi => ?_⟩
  · obtain ⟨b, off, ea, hlt, hc⟩ := hv hn
    refine ⟨b, off, ea, hlt, fun i hi => ?_⟩
    have := (hc i hi).1
    simpa only [addr_add, Nat.add_zero] using this
  · obtain ⟨b, off, ea, hlt, hc⟩ := hv (by omega)
    exact (hc i hi).2

theorem idxsIn {H : Type} {enc : TypeId × Value → H} {W : World} {sp : Nat → Bool} {fuel : Nat} {cs : List Value} {x : DataW H × List MemPlace}
    (h : DataW.trod enc Tryz.prog W 0 sp true fuel 46 cs = some x) : ∃ a n cap f, cs = [.slice a n cap] ∧ IView W a n cap f ∧ n ≤ maxLen ∧ ∀ i, i < n → (f i).name.size ≤ maxLen ∧ (f i).n ≤ maxLen := by
  have c2 : Tryz.prog.cellsOf 114 = 3 := by kernel_rfl
  obtain ⟨a, n, cap, f, e, hl, hm, hv⟩ := sliceIn (α := PIdx) Tryz.underlying46 c2 (by decide) (fun a y => (W.cell? (a.add 0) = some (.string y.name) ∧ W.cell? (a.add 1) = some (.bool y.uniq) ∧ ∃ p c, W.cell? (a.add 2) = some (.slice p y.n c) ∧ BView W p y.n c y.part) ∧ y.name.size ≤ maxLen ∧ y.n ≤ maxLen) (by
    intro fuel cs x a hl hcell htr
    obtain ⟨y0, y1, y2, m, _, _, t0, t1, t2⟩ := trod_struct3 Tryz.underlying114 htr
    have o0 : Tryz.prog.cellsOf 9 = 1 := by kernel_rfl
    have o1 : Tryz.prog.cellsOf 4 = 1 := by kernel_rfl
    have o2 : Tryz.prog.cellsOf 45 = 1 := by kernel_rfl
    simp only [o0, o1, o2] at t0 t1 t2
    match cs, hl with
    | [c0, c1, c2], _ =>
      simp only [List.drop_zero, List.drop_succ_cons, List.take_succ_cons, List.take_zero] at t0 t1 t2
      obtain ⟨s, e0, _, hs⟩ := DataW.trod_string Tryz.underlying9 t0
      obtain ⟨z, e1, _⟩ := DataW.trod_bool Tryz.underlying4 t1
      obtain ⟨p, k, cp, g, e2, hV, hk⟩ := bysIn t2
      simp only [List.cons.injEq, and_true] at e0 e1 e2
      subst e0 e1 e2
      exact ⟨⟨s, z, k, g⟩, ⟨hcell 0 (by decide), hcell 1 (by decide), p, cp, hcell 2 (by decide), hV⟩, hs, hk⟩) h
  refine ⟨a, n, cap, f, e, ⟨hl, fun hn => ?_⟩, Nat.le_trans hl hm, fun i hi => ?_⟩
  · obtain ⟨b, off, ea, hlt, hc⟩ := hv hn
    refine ⟨b, off, ea, hlt, fun i hi => ?_⟩
    have := (hc i hi).1
    simpa only [addr_add, Nat.add_zero] using this
  · obtain ⟨b, off, ea, hlt, hc⟩ := hv (by omega)
    exact (hc i hi).2

/-- The four cells of a table that came in. -/
theorem defIn {H : Type} {enc : TypeId × Value → H} {W : World} {sp : Nat → Bool} {n0 n1 n2 n3 : Nat} {c0 c1 c2 c3 : Value} {y0 y1 y2 y3 : DataW H × List MemPlace}
    (h0 : DataW.trod enc Tryz.prog W 0 sp true n0 9 [c0] = some y0) (h1 : DataW.trod enc Tryz.prog W 0 sp true n1 44 [c1] = some y1)
    (h2 : DataW.trod enc Tryz.prog W 0 sp true n2 45 [c2] = some y2) (h3 : DataW.trod enc Tryz.prog W 0 sp true n3 46 [c3] = some y3) :
    ∃ D : PDef, DView W (.agg #[c0, c1, c2, c3]) D ∧ DLim D := by
  obtain ⟨s, e0, _, hs⟩ := DataW.trod_string Tryz.underlying9 h0
  obtain ⟨ac, nc, cc, fc, e1, v1, m1, z1⟩ := colsIn h1
  obtain ⟨ap, np, cp, fp, e2, v2, m2⟩ := bysIn h2
  obtain ⟨ai, ni, ci, fi, e3, v3, m3, z3⟩ := idxsIn h3
  simp only [List.cons.injEq, and_true] at e0 e1 e2 e3
  subst e0 e1 e2 e3
  exact ⟨⟨s, nc, fc, np, fp, ni, fi⟩, ⟨ac, cc, ap, cp, ai, ci, rfl, v1, v2, v3⟩, ⟨hs, m1, z1, m2, m3, z3⟩⟩
end Go.Proofs.YtjoimkfpenbkmabGreatDoor

/-
  What the frame of a row hands over of tables that came in.
-/
namespace Go.Proofs.YtjoimkfpenbkmabGreatDoor
open Go.RowKit
set_option maxRecDepth 4000
open Go.Deep Go.ChangeShapes Go.Joins

instance : Inhabited PDef := ⟨⟨⟨#[]⟩, 0, fun _ => default, 0, fun _ => default, 0, fun _ => default⟩⟩

theorem defsIn {H : Type} {enc : TypeId × Value → H} {W : World} {sp : Nat → Bool} {a : Option Addr} {len cap : Nat} {d : DataW H} {p : List MemPlace}
    (h : DataW.Trod enc Tryz.prog W 0 sp true 22 (.slice a len cap) d p) : ∃ f, LView W a len cap f ∧ len ≤ maxLen ∧ ∀ i, i < len → DLim (f i) := by
  obtain ⟨fuel, hf⟩ := h
  have c2 : Tryz.prog.cellsOf 48 = 4 := by kernel_rfl
  obtain ⟨a', n', cap', f, e, hl, hm, hv⟩ := sliceIn (α := PDef) Tryz.underlying22 c2 (by decide) (fun a y => ∃ x0 x1 x2 x3, (W.cell? (a.add 0) = some x0 ∧ W.cell? (a.add 1) = some x1 ∧ W.cell? (a.add 2) = some x2 ∧ W.cell? (a.add 3) = some x3) ∧ DView W (.agg #[x0, x1, x2, x3]) y ∧ DLim y) (by
    intro fuel cs x a hl hcell htr
    obtain ⟨y0, y1, y2, y3, m, _, _, t0, t1, t2, t3⟩ := trod_struct4 Tryz.underlying48 htr
    have o0 : Tryz.prog.cellsOf 9 = 1 := by kernel_rfl
    have o1 : Tryz.prog.cellsOf 44 = 1 := by kernel_rfl
    have o2 : Tryz.prog.cellsOf 45 = 1 := by kernel_rfl
    have o3 : Tryz.prog.cellsOf 46 = 1 := by kernel_rfl
    simp only [o0, o1, o2, o3] at t0 t1 t2 t3
    match cs, hl with
    | [c0, c1, c2, c3], _ =>
      simp only [List.drop_zero, List.drop_succ_cons, List.take_succ_cons, List.take_zero] at t0 t1 t2 t3
      obtain ⟨D, hD, hL⟩ := defIn t0 t1 t2 t3
      exact ⟨D, c0, c1, c2, c3, ⟨hcell 0 (by decide), hcell 1 (by decide), hcell 2 (by decide), hcell 3 (by decide)⟩, hD, hL⟩) hf
  have e' : [Value.slice a len cap] = [Value.slice a' n' cap'] := by simpa [Value.cells] using e
  cases e'
  refine ⟨f, ⟨hl, fun hn => ?_⟩, Nat.le_trans hl hm, fun i hi => ?_⟩
  · obtain ⟨b, off, ea, hlt, hc⟩ := hv hn
    refine ⟨b, off, ea, hlt, fun i hi => ?_⟩
    obtain ⟨x0, x1, x2, x3, ⟨h0, h1, h2, h3⟩, hD, -⟩ := hc i hi
    simp only [addr_add, Nat.add_zero] at h0 h1 h2 h3
    have hD' := hD
    obtain ⟨ac, cc, ap, cp, ai, ci, e, -, -, -⟩ := hD.is
    simp only [Value.agg.injEq, Array.mk.injEq, List.cons.injEq, and_true] at e
    obtain ⟨rfl, rfl, rfl, rfl⟩ := e
    exact ⟨_, _, _, h0, h1, h2, h3, hD'⟩
  · obtain ⟨b, off, ea, hlt, hc⟩ := hv (by omega)
    obtain ⟨_, _, _, _, _, _, hL⟩ := hc i hi
    exact hL
end Go.Proofs.YtjoimkfpenbkmabGreatDoor

/-
  What the laid variable holds: the library's error type.
-/
namespace Go.Proofs.YtjoimkfpenbkmabGreatDoor
open Go.RowKit
set_option maxRecDepth 4000

theorem et_named : Tryz.prog.globalNamed "errors.errorType" = some 0 := by kernel_rfl
theorem et_rtype : (Tryz.prog.cutTypes.find? (·.1 == "internal/reflectlite.rtype")).map (·.2) = some 196 := by kernel_rfl
theorem et_one : ((List.range 298).filter fun t => Tryz.prog.rowNamed t [101, 114, 114, 111, 114]) = [150] := by kernel_rfl
theorem et_size : Tryz.prog.types.size = 298 := by kernel_rfl
theorem errT_of {W : World} (h : handlesMet Tryz.prog [("errors.errorType", Rows.laid_errors_errorType)] W) : ErrT W := by
  obtain ⟨name, u, ty, e1, e2, e3, e4, e5⟩ := h _ (List.mem_singleton.2 rfl)
  have en : name = [101, 114, 114, 111, 114] := (Option.some.inj e1).symm
  subst en
  obtain rfl := Option.some.inj (et_rtype.symm.trans e2)
  have hm : ty ∈ (List.range 298).filter fun t => Tryz.prog.rowNamed t [101, 114, 114, 111, 114] := List.mem_filter.2 ⟨List.mem_range.2 (by rw [← et_size]; exact e3), e4⟩
  rw [et_one] at hm
  obtain rfl := List.mem_singleton.1 hm
  have hh : typeHandle Tryz.prog 150 = hdl 150 := by kernel_rfl
  rw [hh] at e5
  have := World.var?_cell et_named e5 0
  unfold ErrT
  simpa using this
end Go.Proofs.YtjoimkfpenbkmabGreatDoor

