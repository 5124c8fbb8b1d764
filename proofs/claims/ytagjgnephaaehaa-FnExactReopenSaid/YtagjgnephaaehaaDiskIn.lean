/-
  What the frame of a row hands over of a disk, and of faults, that came in.
-/
import Derived.Test.YtagjgnephaaehaaDiskSize
import Derived.Deep.Strs
import Derived.ChangeSame
import Derived.Lib.SmallJoins
namespace Go.Proofs.Ytagjgnephaaehaa
open Go.RowKit
set_option maxRecDepth 4000
open Go.Deep Go.ChangeShapes Go.WideShapes

/-- A slice that came in, whose elements are each read, as a list. -/
theorem sliceInL {H : Type} {enc : TypeId × Value → H} {W : World} {sp : Nat → Bool} {α : Type} [Inhabited α] {T e : TypeId} {c fuel : Nat} {cs : List Value} {x : DataW H × List MemPlace}
    (ht : Try.prog.underlying T = some (.slice e)) (hc : Try.prog.cellsOf e = c) (hc0 : 0 < c) (Q : Addr → α → Prop)
    (each : ∀ (fuel : Nat) (cs : List Value) (x : DataW H × List MemPlace) (a : Addr), cs.length = c → (∀ j, j < c → W.cell? (a.add j) = cs[j]?) → DataW.trod enc Try.prog W 0 sp true fuel e cs = some x → ∃ y, Q a y)
    (h : DataW.trod enc Try.prog W 0 sp true fuel T cs = some x) :
    ∃ (ao : Option Addr) (cap : Nat) (l : List α), cs = [.slice ao l.length cap] ∧ l.length ≤ cap ∧ cap ≤ maxLen ∧ (ao = none → cap = 0) ∧ (0 < l.length → ∃ b off, ao = some ⟨b, off, none⟩ ∧ b < W.heap.size ∧ ∀ i y, l[i]? = some y → Q ⟨b, off + i * c, none⟩ y) := by
  rcases DataW.trod_slice ht h with ⟨hcs, _⟩ | ⟨a, l, cap, elems, rest, n, _, hcs, _, _, hl, hm, hlen, hel, _, _⟩
  · exact ⟨none, 0, [], hcs, Nat.le_refl _, Nat.zero_le _, fun _ => rfl, fun h => absurd h (Nat.lt_irrefl _)⟩
  · have key : ∀ i, i < l → ∃ y, Q (a.add (i * c)) y ∧ W.cell? (a.add (i * c)) ≠ none := by
      intro i hi
      have h1 := hel i hi
      rw [hc] at h1
      have h2 : elems[i]? = some elems[i] := List.getElem?_eq_getElem (by omega)
      rw [h2] at h1
      obtain ⟨cs, hcs, htr⟩ := Option.bind_eq_some_iff.1 h1
      obtain ⟨_, hl3, hcell⟩ := World.cells?_some hcs
      obtain ⟨y, hy⟩ := each n cs _ _ hl3 (fun j hj => hcell j hj) htr
      refine ⟨y, hy, ?_⟩
      have := hcell 0 (by omega)
      intro hn
      rw [show (a.add (i * c)).add 0 = a.add (i * c) by unfold Addr.add; split <;> simp_all, hn, List.getElem?_eq_getElem (by omega)] at this
      cases this
    have pick : ∃ f : Nat → α, ∀ i, i < l → Q (a.add (i * c)) (f i) := ⟨fun i => if h : i < l then (key i h).choose else default, fun i hi => by simp only [dif_pos hi]; exact (key i hi).choose_spec.1⟩
    obtain ⟨f, hf⟩ := pick
    have ll : ((List.range l).map f).length = l := by simp
    refine ⟨some a, cap, (List.range l).map f, by rw [ll]; exact hcs, by rw [ll]; exact hl, hm, (fun e => by cases e), fun hn => ?_⟩
    rw [ll] at hn
    obtain ⟨b, off, spot⟩ := a
    obtain ⟨y0, -, h0⟩ := key 0 hn
    obtain ⟨u, hu⟩ := Option.ne_none_iff_exists'.1 h0
    have hs : spot = none := by simpa [Addr.add] using World.cell?_spot hu
    subst hs
    have ea : ∀ j, (⟨b, off, none⟩ : Addr).add j = ⟨b, off + j, none⟩ := fun j => by unfold Addr.add; split <;> simp_all
    rw [ea] at hu
    refine ⟨b, off, rfl, World.block_lt_of_cell? _ _ hu, fun i y hi => ?_⟩
    obtain ⟨hi', e⟩ := List.getElem?_eq_some_iff.1 hi
    rw [ll] at hi'
    have hq := hf i hi'
    rw [ea] at hq
    simp at e
    rw [← e]
    exact hq
theorem addrAdd (b off j : Nat) : (⟨b, off, none⟩ : Addr).add j = ⟨b, off + j, none⟩ := by unfold Addr.add; split <;> simp_all
/-- Bytes that came in, as a cell. -/
theorem bytesIn {H : Type} {enc : TypeId × Value → H} {W : World} {sp : Nat → Bool} {fuel : Nat} {cs : List Value} {x : DataW H × List MemPlace}
    (h : DataW.trod enc Try.prog W 0 sp true fuel 49 cs = some x) : ∃ (v : Value) (l : List Int), cs = [v] ∧ LV W v l ∧ l.length ≤ maxLen := by
  have c1 : Try.prog.cellsOf 5 = 1 := by kernel_rfl
  obtain ⟨a, cap, l, e, hl, hm, hn, hv⟩ := sliceInL (α := Int) Try.underlying49 c1 (by decide) (fun a y => W.cell? (a.add 0) = some (.int .u8 y) ∧ 0 ≤ y ∧ y ≤ 255) (by
    intro fuel cs x a hl hcell htr
    match cs, hl with
    | [c0], _ =>
      obtain ⟨k, e0, _, hk⟩ := DataW.trod_int Try.underlying5 htr
      simp only [List.cons.injEq, and_true] at e0
      subst e0
      have hw : 0 ≤ k ∧ k ≤ 255 := by
        have := range_u8 (zs := [k]) (by intro n hn; simp at hn; subst hn; exact hk) 0
        simpa using this
      exact ⟨k, hcell 0 (by decide), hw⟩) h
  refine ⟨_, l, e, ⟨a, cap, rfl, ⟨hl, fun i hi => ?_, fun hp => ?_⟩, hn⟩, Nat.le_trans hl hm⟩
  · obtain ⟨b, off, ea, hlt, hc⟩ := hv (by omega)
    have := (hc i l[i] (List.getElem?_eq_getElem hi)).2
    have e : bf l i = l[i] := by simp [bf, hi]
    rw [e]; exact this
  · obtain ⟨b, off, ea, hlt, hc⟩ := hv hp
    refine ⟨b, off, ea, hlt, fun i hi => ?_⟩
    have := (hc i l[i] (List.getElem?_eq_getElem hi)).1
    have e : bf l i = l[i] := by simp [bf, hi]
    rw [e]
    simpa only [addrAdd, Nat.add_zero, Nat.mul_one] using this
theorem secsIn {H : Type} {enc : TypeId × Value → H} {W : World} {sp : Nat → Bool} {fuel : Nat} {cs : List Value} {x : DataW H × List MemPlace}
    (h : DataW.trod enc Try.prog W 0 sp true fuel 22 cs = some x) : ∃ a cap l, cs = [.slice a l.length cap] ∧ SView W a cap l ∧ l.length ≤ maxLen ∧ ∀ i (h : i < l.length), (l[i]).length ≤ maxLen := by
  have c1 : Try.prog.cellsOf 49 = 1 := by kernel_rfl
  obtain ⟨a, cap, l, e, hl, hm, hn, hv⟩ := sliceInL (α := List Int) Try.underlying22 c1 (by decide) (fun a y => (∃ u, W.cell? (a.add 0) = some u ∧ LV W u y) ∧ y.length ≤ maxLen) (by
    intro fuel cs x a hl hcell htr
    obtain ⟨v, y, rfl, hy, hm⟩ := bytesIn htr
    exact ⟨y, ⟨v, hcell 0 (by decide), hy⟩, hm⟩) h
  refine ⟨a, cap, l, e, ⟨hl, hn, fun hp => ?_⟩, Nat.le_trans hl hm, fun i hi => ?_⟩
  · obtain ⟨b, off, ea, hlt, hc⟩ := hv hp
    refine ⟨b, off, ea, hlt, fun i y hi => ?_⟩
    obtain ⟨⟨u, hu, hy⟩, -⟩ := hc i y hi
    refine ⟨[u], ⟨u, rfl, hy⟩, fun j v hj => ?_⟩
    match j, hj with
    | 0, hj => cases hj; simpa only [addrAdd, Nat.add_zero] using hu
  · obtain ⟨b, off, ea, hlt, hc⟩ := hv (by omega)
    exact (hc i _ (List.getElem?_eq_getElem hi)).2
theorem writesIn {H : Type} {enc : TypeId × Value → H} {W : World} {sp : Nat → Bool} {fuel : Nat} {cs : List Value} {x : DataW H × List MemPlace}
    (h : DataW.trod enc Try.prog W 0 sp true fuel 23 cs = some x) : ∃ a cap l, cs = [.slice a l.length cap] ∧ WView W a cap l ∧ l.length ≤ maxLen ∧ ∀ i (h : i < l.length), (l[i]).2.length ≤ maxLen := by
  have c1 : Try.prog.cellsOf 59 = 2 := by kernel_rfl
  obtain ⟨a, cap, l, e, hl, hm, hn, hv⟩ := sliceInL (α := Int × List Int) Try.underlying23 c1 (by decide) (fun a y => (W.cell? (a.add 0) = some (.int .i64 y.1) ∧ ∃ u, W.cell? (a.add 1) = some u ∧ LV W u y.2) ∧ y.2.length ≤ maxLen) (by
    intro fuel cs x a hl hcell htr
    obtain ⟨y0, y1, m, _, _, t0, t1⟩ := trod_struct2 Try.underlying59 htr
    have o1 : Try.prog.cellsOf 3 = 1 := by kernel_rfl
    have o2 : Try.prog.cellsOf 49 = 1 := by kernel_rfl
    simp only [o1, o2] at t0 t1
    match cs, hl with
    | [c0, c1], _ =>
      simp only [List.drop_zero, List.drop_succ_cons, List.take_succ_cons, List.take_zero] at t0 t1
      obtain ⟨k, e0, _, _⟩ := DataW.trod_int Try.underlying3 t0
      obtain ⟨v, y, e1, hy, hm⟩ := bytesIn t1
      simp only [List.cons.injEq, and_true] at e0 e1
      subst e0 e1
      exact ⟨(k, y), ⟨hcell 0 (by decide), _, hcell 1 (by decide), hy⟩, hm⟩) h
  refine ⟨a, cap, l, e, ⟨hl, hn, fun hp => ?_⟩, Nat.le_trans hl hm, fun i hi => ?_⟩
  · obtain ⟨b, off, ea, hlt, hc⟩ := hv hp
    refine ⟨b, off, ea, hlt, fun i y hi => ?_⟩
    obtain ⟨⟨h0, u, hu, hy⟩, -⟩ := hc i y hi
    refine ⟨[.int .i64 y.1, u], ⟨u, rfl, hy⟩, fun j v hj => ?_⟩
    match j, hj with
    | 0, hj => cases hj; simpa only [addrAdd, Nat.add_zero] using h0
    | 1, hj => cases hj; simpa only [addrAdd, Nat.add_zero] using hu
  · obtain ⟨b, off, ea, hlt, hc⟩ := hv (by omega)
    exact (hc i _ (List.getElem?_eq_getElem hi)).2
instance : Inhabited PFault := ⟨⟨0, 0, 0⟩⟩
theorem faultsIn {H : Type} {enc : TypeId × Value → H} {W : World} {sp : Nat → Bool} {fuel : Nat} {cs : List Value} {x : DataW H × List MemPlace}
    (h : DataW.trod enc Try.prog W 0 sp true fuel 24 cs = some x) : ∃ a cap l, cs = [.slice a l.length cap] ∧ FView W a cap l ∧ l.length ≤ maxLen := by
  have c1 : Try.prog.cellsOf 65 = 3 := by kernel_rfl
  obtain ⟨a, cap, l, e, hl, hm, hn, hv⟩ := sliceInL (α := PFault) Try.underlying24 c1 (by decide) (fun a y => W.cell? (a.add 0) = some (.int .i64 y.pos) ∧ W.cell? (a.add 1) = some (.int .i64 y.keep) ∧ W.cell? (a.add 2) = some (.int .i64 y.cut)) (by
    intro fuel cs x a hl hcell htr
    obtain ⟨y0, y1, y2, m, _, _, t0, t1, t2⟩ := trod_struct3 Try.underlying65 htr
    have o1 : Try.prog.cellsOf 3 = 1 := by kernel_rfl
    simp only [o1] at t0 t1 t2
    match cs, hl with
    | [c0, c1, c2], _ =>
      simp only [List.drop_zero, List.drop_succ_cons, List.take_succ_cons, List.take_zero] at t0 t1 t2
      obtain ⟨k0, e0, _, _⟩ := DataW.trod_int Try.underlying3 t0
      obtain ⟨k1, e1, _, _⟩ := DataW.trod_int Try.underlying3 t1
      obtain ⟨k2, e2, _, _⟩ := DataW.trod_int Try.underlying3 t2
      simp only [List.cons.injEq, and_true] at e0 e1 e2
      subst e0 e1 e2
      exact ⟨⟨k0, k1, k2⟩, hcell 0 (by decide), hcell 1 (by decide), hcell 2 (by decide)⟩) h
  refine ⟨a, cap, l, e, ⟨hl, hn, fun hp => ?_⟩, Nat.le_trans hl hm⟩
  obtain ⟨b, off, ea, hlt, hc⟩ := hv hp
  refine ⟨b, off, ea, hlt, fun i y hi => ?_⟩
  obtain ⟨h0, h1, h2⟩ := hc i y hi
  refine ⟨_, rfl, fun j v hj => ?_⟩
  match j, hj with
  | 0, hj => cases hj; simpa only [addrAdd, Nat.add_zero] using h0
  | 1, hj => cases hj; simpa only [addrAdd, Nat.add_zero] using h1
  | 2, hj => cases hj; simpa only [addrAdd, Nat.add_zero] using h2
/-- The five cells of a disk that came in. -/
theorem diskIn {H : Type} {enc : TypeId × Value → H} {W : World} {sp : Nat → Bool} {n0 n1 n2 n3 n4 : Nat} {c0 c1 c2 c3 c4 : Value} {y0 y1 y2 y3 y4 : DataW H × List MemPlace}
    (h0 : DataW.trod enc Try.prog W 0 sp true n0 22 [c0] = some y0) (h1 : DataW.trod enc Try.prog W 0 sp true n1 23 [c1] = some y1)
    (h2 : DataW.trod enc Try.prog W 0 sp true n2 3 [c2] = some y2) (h3 : DataW.trod enc Try.prog W 0 sp true n3 24 [c3] = some y3) (h4 : DataW.trod enc Try.prog W 0 sp true n4 4 [c4] = some y4) :
    ∃ D : PDisk, KView W (.agg #[c0, c1, c2, c3, c4]) D ∧ KLim D := by
  obtain ⟨sa, sc, ls, e0, v0, m0, z0⟩ := secsIn h0
  obtain ⟨ca, cc, lc, e1, v1, m1, z1⟩ := writesIn h1
  obtain ⟨k, e2, _, _⟩ := DataW.trod_int Try.underlying3 h2
  obtain ⟨fa, fc, lf, e3, v3, m3⟩ := faultsIn h3
  obtain ⟨z, e4, _⟩ := DataW.trod_bool Try.underlying4 h4
  simp only [List.cons.injEq, and_true] at e0 e1 e2 e3 e4
  subst e0 e1 e2 e3 e4
  exact ⟨⟨ls, lc, k, lf, z⟩, ⟨sa, sc, ca, cc, fa, fc, rfl, v0, v1, v3⟩, ⟨m0, z0, m1, z1, m3⟩⟩
theorem array5 {α : Type} {cs : Array α} (h : cs.size = 5) : ∃ c0 c1 c2 c3 c4, cs = #[c0, c1, c2, c3, c4] := by
  obtain ⟨l⟩ := cs
  match l, h with
  | [c0, c1, c2, c3, c4], _ => exact ⟨c0, c1, c2, c3, c4, rfl⟩
/-- A struct of five fields of one cell each, opened. -/
theorem openFive {H : Type} {enc : TypeId × Value → H} {w : World} {base : Nat} {spare : Nat → Bool} {held : Bool} {r : Reach} {b0 : Nat} {t : TypeId} {f0 f1 f2 f3 f4 : Field} {v : Value} {d : DataW H} {p : List MemPlace} (hs : Try.prog.underlying t = some (.struct #[f0, f1, f2, f3, f4])) (hone : oneCellFields Try.prog #[f0, f1, f2, f3, f4] = true) (hC : Try.prog.cellsOf t = 5)
    (hv : Value.okWide Try.prog w r b0 t v) (h : DataW.Trod enc Try.prog w base spare held t v d p) :
    ∃ (v0 v1 v2 v3 v4 : Value) (y0 y1 y2 y3 y4 : DataW H × List MemPlace) (n : Nat), v = .agg #[v0, v1, v2, v3, v4] ∧ d = .agg [y0.1, y1.1, y2.1, y3.1, y4.1] ∧ p = y0.2 ++ (y1.2 ++ (y2.2 ++ (y3.2 ++ y4.2))) ∧
      DataW.trod enc Try.prog w base spare held n f0.type [v0] = some y0 ∧ DataW.trod enc Try.prog w base spare held n f1.type [v1] = some y1 ∧ DataW.trod enc Try.prog w base spare held n f2.type [v2] = some y2 ∧ DataW.trod enc Try.prog w base spare held n f3.type [v3] = some y3 ∧ DataW.trod enc Try.prog w base spare held n f4.type [v4] = some y4 := by
  obtain ⟨cs, rfl, hsz⟩ := okWide_struct hs hv
  obtain ⟨c0, c1, c2, c3, c4, rfl⟩ := array5 (hsz.trans hC)
  obtain ⟨fuel, hf⟩ := h
  obtain ⟨xs, n, _, hx, hl, hlen, hfs⟩ := DataW.trod_struct hs hf
  match xs, hlen, hx, hfs with
  | [y0, y1, y2, y3, y4], _, hx, hfs =>
    have h0 := hfs 0 f0 rfl
    have h1 := hfs 1 f1 rfl
    have h2 := hfs 2 f2 rfl
    have h3 := hfs 3 f3 rfl
    have h4 := hfs 4 f4 rfl
    obtain ⟨o0, k0⟩ := hone_of hone 0 f0 rfl
    obtain ⟨o1, k1⟩ := hone_of hone 1 f1 rfl
    obtain ⟨o2, k2⟩ := hone_of hone 2 f2 rfl
    obtain ⟨o3, k3⟩ := hone_of hone 3 f3 rfl
    obtain ⟨o4, k4⟩ := hone_of hone 4 f4 rfl
    simp only [Prod.mk.injEq] at hx
    exact ⟨c0, c1, c2, c3, c4, y0, y1, y2, y3, y4, n, rfl, by simpa using hx.1, by simpa using hx.2, by simpa [Value.cells, o0, k0] using h0, by simpa [Value.cells, o1, k1] using h1, by simpa [Value.cells, o2, k2] using h2, by simpa [Value.cells, o3, k3] using h3, by simpa [Value.cells, o4, k4] using h4⟩
end Go.Proofs.Ytagjgnephaaehaa
