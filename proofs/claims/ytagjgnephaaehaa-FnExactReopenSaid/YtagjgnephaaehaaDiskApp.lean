/-
  An append to a row of the call's own, of a slice that may be nil; variables of the model's copy.
-/
import Derived.Test.YtagjgnephaaehaaDiskGrow
import Derived.Laws.OwnMore
namespace Go.Proofs.Ytagjgnephaaehaa
open Go.RowKit
set_option maxRecDepth 4000

theorem wp_append_opt {w : World} {o : Oper} {a : Act} {K : Act → World → Prop} {Q : Exit → Act → World → Prop} (s x : Operand) (t : TypeId)
    (ho : o.op = .call { callee := .builtin .append, args := #[s, x], argTypes := #[t, t] })
    (base : Nat) (e : TypeId) (i : TypeInfo) (z : Value) (size bytes : Nat) (ht : Try.prog.underlying t = some (.slice e)) (hi : Try.prog.info? e = some i) (hz : i.zero = some z)
    (hsize : i.size = size) (hby : i.bytes = bytes) (hzs : z.cells.size = size) (hsz : 0 < size)
    (v : Value) (n : Nat) (xs : List Value) (hs : a.eval s = v) (hown : w.ownsRow base e size v n xs)
    (ao : Option Addr) (m c : Nat) (news : List Value) (hx : a.eval x = .slice ao m c) (hno : ao = none → m = 0 ∧ c = 0) (hl : news.length = m * size) (hnews : ∀ ad, ao = some ad → ∀ j u, news[j]? = some u → w.cell? (ad.add j) = some u) (h1 : ∀ u ∈ news, u.oneCell' = true)
    (h63 : n + m ≤ maxLen) (hbytes : (n + m) * bytes ≤ 140737488355328) (hbase : base ≤ w.heap.size)
    (h : ∀ v' w', w'.ownsRow base e size v' (n + m) (xs ++ news) → w.grownBy w' v.ownBlock → K (a.put o.dst v') w') : o.wp Try.prog a w K Q := by
  cases ao with
  | some ad => exact wp_append_own w s x t ho base e i z size bytes ht hi hz hsize hby hzs hsz v n xs hs hown ad m c news hx hl (hnews ad rfl) h1 h63 hbytes hbase (fun v' w' h2 h3 _ => h v' w' h2 h3)
  | none =>
    obtain ⟨rfl, rfl⟩ := hno rfl
    have hn : news = [] := List.eq_nil_of_length_eq_zero (by simpa using hl)
    subst hn
    have hrun := run_append_owned_none (P := Try.prog) (w := w) base t o.type e i size ht hi v n xs hown
    have hk := h v w (by simpa using hown) ⟨rfl, rfl, rfl, Nat.le_refl _, fun _ _ _ => rfl⟩
    unfold Oper.wp
    simp [execOp, ho, resolve, invoke, builtin, hs, hx, hrun, Result.andThen]
    exact hk

theorem wpList_append_opt {w : World} {ops : Array Oper} {rest : List Oper} {o : Oper} {a : Act} {Q : Exit → Act → World → Prop} (hgd : o.guard = none) (s x : Operand) (t : TypeId)
    (ho : o.op = .call { callee := .builtin .append, args := #[s, x], argTypes := #[t, t] })
    (base : Nat) (e : TypeId) (i : TypeInfo) (z : Value) (size bytes : Nat) (ht : Try.prog.underlying t = some (.slice e)) (hi : Try.prog.info? e = some i) (hz : i.zero = some z)
    (hsize : i.size = size) (hby : i.bytes = bytes) (hzs : z.cells.size = size) (hsz : 0 < size)
    (v : Value) (n : Nat) (xs : List Value) (hs : a.eval s = v) (hown : w.ownsRow base e size v n xs)
    (ao : Option Addr) (m c : Nat) (news : List Value) (hx : a.eval x = .slice ao m c) (hno : ao = none → m = 0 ∧ c = 0) (hl : news.length = m * size) (hnews : ∀ ad, ao = some ad → ∀ j u, news[j]? = some u → w.cell? (ad.add j) = some u) (h1 : ∀ u ∈ news, u.oneCell' = true)
    (h63 : n + m ≤ maxLen) (hbytes : (n + m) * bytes ≤ 140737488355328) (hbase : base ≤ w.heap.size)
    (h : ∀ v' w', w'.ownsRow base e size v' (n + m) (xs ++ news) → w.grownBy w' v.ownBlock → wpList Try.prog ops Q rest (a.put o.dst v') w') : wpList Try.prog ops Q (o :: rest) a w :=
  wpList_plain hgd fun _ hK => wp_append_opt s x t ho base e i z size bytes ht hi hz hsize hby hzs hsz v n xs hs hown ao m c news hx hno hl hnews h1 h63 hbytes hbase fun v' w' h2 h3 => hK _ _ (h v' w' h2 h3)

/-- Variables of disks: what came in, the answer, the new one, which lies somewhere. -/
structure TS (w W : World) (X : Nat) (xs zs ys : List Value) : Prop where
  below : Below w.heap.size w W
  a : VN W w.heap.size 31 xs
  r : VN W (w.heap.size + 1) 31 zs
  o : VN W X 31 ys
  ge : w.heap.size + 1 < X
theorem TS.on {w W W' : World} {X : Nat} {xs zs ys : List Value} (h : TS w W X xs zs ys) (hb : Below W.heap.size W W') : TS w W' X xs zs ys :=
  ⟨h.below.trans (hb.mono h.below.size), h.a.below hb, h.r.below hb, h.o.below hb, h.ge⟩
theorem TS.grow {w W W' : World} {X T : Nat} {xs zs ys : List Value} {row : Option Nat} (h : TS w W X xs zs ys) (hg : W.grownBy W' row) (hr : ∀ k, row = some k → w.heap.size ≤ k) (hk : KeepT (fun t => t = T) W W') (hT : 31 ≠ T) : TS w W' X xs zs ys :=
  ⟨h.below.grown hg h.below.size hr, h.a.block (hk _ _ _ _ h.a hT), h.r.block (hk _ _ _ _ h.r hT), h.o.block (hk _ _ _ _ h.o hT), h.ge⟩
theorem TS.set {w W : World} {X : Nat} {xs zs ys : List Value} (h : TS w W X xs zs ys) (i : Nat) (u : Value) : TS w (W.setCell ⟨X, i, none⟩ u) X xs zs (ys.set i u) :=
  have hge := h.ge
  ⟨h.below.setCell (p := ⟨X, i, none⟩) (by simp; omega) _, h.a.other (by omega), h.r.other (by omega), h.o.set i u, h.ge⟩
theorem TS.ret {w W : World} {X : Nat} {xs zs ys : List Value} (h : TS w W X xs zs ys) (i : Nat) (u : Value) : TS w (W.setCell ⟨w.heap.size + 1, i, none⟩ u) X xs (zs.set i u) ys :=
  have hge := h.ge
  ⟨h.below.setCell (p := ⟨w.heap.size + 1, i, none⟩) (by simp) _, h.a.other (by omega), h.r.set i u, h.o.other (by omega), h.ge⟩
theorem keep_vn {P : TypeId → Prop} {W : World} {X T i : Nat} {ys : List Value} {u : Value} (h : VN W X T ys) (hP : P T) : KeepT P W (W.setCell ⟨X, i, none⟩ u) := by
  intro b c t z hb ht
  refine Below.heap_setCell _ _ _ _ (fun e => ?_)
  have e' : b = X := e
  unfold VN at h
  rw [e', h] at hb
  cases hb
  exact ht hP
theorem TS.cells {w W : World} {X : Nat} {x0 x1 x2 x3 x4 : Value} {zs : List Value} {y0 y1 y2 y3 y4 : Value} (h : TS w W X [x0, x1, x2, x3, x4] zs [y0, y1, y2, y3, y4]) :
    (W.cell? ⟨w.heap.size, 0, none⟩ = some x0 ∧ W.cell? ⟨w.heap.size, 1, none⟩ = some x1 ∧ W.cell? ⟨w.heap.size, 2, none⟩ = some x2 ∧ W.cell? ⟨w.heap.size, 3, none⟩ = some x3 ∧ W.cell? ⟨w.heap.size, 4, none⟩ = some x4)
    ∧ (W.cell? ⟨X, 0, none⟩ = some y0 ∧ W.cell? ⟨X, 1, none⟩ = some y1 ∧ W.cell? ⟨X, 2, none⟩ = some y2 ∧ W.cell? ⟨X, 3, none⟩ = some y3 ∧ W.cell? ⟨X, 4, none⟩ = some y4)
    ∧ ∀ i, W.frozen? ⟨X, i, none⟩ = false :=
  ⟨⟨h.a.cell 0, h.a.cell 1, h.a.cell 2, h.a.cell 3, h.a.cell 4⟩, ⟨h.o.cell 0, h.o.cell 1, h.o.cell 2, h.o.cell 3, h.o.cell 4⟩, fun i => h.o.fz i⟩
theorem TS.rcells {w W : World} {X : Nat} {xs : List Value} {y0 y1 y2 y3 y4 : Value} {ys : List Value} (h : TS w W X xs [y0, y1, y2, y3, y4] ys) :
    (W.cell? ⟨w.heap.size + 1, 0, none⟩ = some y0 ∧ W.cell? ⟨w.heap.size + 1, 1, none⟩ = some y1 ∧ W.cell? ⟨w.heap.size + 1, 2, none⟩ = some y2 ∧ W.cell? ⟨w.heap.size + 1, 3, none⟩ = some y3 ∧ W.cell? ⟨w.heap.size + 1, 4, none⟩ = some y4)
    ∧ ∀ i, W.frozen? ⟨w.heap.size + 1, i, none⟩ = false :=
  ⟨⟨h.r.cell 0, h.r.cell 1, h.r.cell 2, h.r.cell 3, h.r.cell 4⟩, fun i => h.r.fz i⟩
/-- The cells of faults, and of bytes, that read. -/
theorem fview_news {W : World} {a : Option Addr} {cap : Nat} {l : List PFault} (h : FView W a cap l) : ∀ ad, a = some ad → ∀ j u, (fcells l)[j]? = some u → W.cell? (ad.add j) = some u := by
  intro ad ea j u hj
  subst ea
  have hlen : j < l.length * 3 := by rw [← fcells_len]; exact (List.getElem?_eq_some_iff.1 hj).1
  obtain ⟨b, off, e, hlt, hc⟩ := h.cells (by omega)
  cases e
  have ea : (⟨b, off, none⟩ : Addr).add j = ⟨b, off + j, none⟩ := by unfold Addr.add; split <;> simp_all
  rw [ea]
  have hq : j = j / 3 * 3 + j % 3 := by omega
  have hi3 : j / 3 < l.length := by omega
  obtain ⟨us, rfl, hus⟩ := hc (j / 3) l[j / 3] (List.getElem?_eq_getElem hi3)
  have h1 := fcells_at (l := l) (j / 3) (j % 3) (by omega)
  rw [← hq, hj, List.getElem?_eq_getElem hi3] at h1
  have h2 := hus (j % 3) u h1.symm
  have e3 : off + j / 3 * 3 + j % 3 = off + j := by omega
  rw [e3] at h2
  exact h2
theorem fcells_one (l : List PFault) : ∀ u ∈ fcells l, u.oneCell' = true := by
  intro u hu
  simp only [fcells, List.mem_flatMap] at hu
  obtain ⟨x, -, hx⟩ := hu
  simp [fEl] at hx
  rcases hx with rfl | rfl | rfl <;> rfl
theorem view_news {W : World} {a : Option Addr} {c : Nat} {l : List Int} (h : View W a l.length c (bf l)) : ∀ ad, a = some ad → ∀ j u, (bl l)[j]? = some u → W.cell? (ad.add j) = some u := by
  intro ad ea j u hj
  have := cells_of_any h ad ea j u
  rw [lof_bf] at this
  exact this hj
/-- Bytes put into a new row by an append: the row, by itself. -/
theorem ob_own_any {w : World} {B n : Nat} {v : Value} {l : List Int} (h : w.ownsRow B 5 1 v n (bl l)) (hn : n = l.length) (hb : ∀ x ∈ l, 0 ≤ x ∧ x ≤ 255) : OB w B v l := by
  subst hn
  obtain ⟨a, cap, rfl, h1, h2, h3⟩ := own_rl h
  refine ⟨a, cap, rfl, h1, h2, hb, ?_⟩
  rcases h3 with h3 | ⟨g, cur, rfl, hB, hg, hc⟩
  · left
    simpa [bl] using h3
  · refine .inr ⟨g, rfl, hB, cur, hg, ?_, fun i hi => hc i _ (by simp [bl, bf, hi])⟩
    rcases h.2 with ⟨e, _⟩ | ⟨g', cap', cur', e, _, hg', hnc, _, hcs, _⟩
    · cases e
    · cases e
      rw [hg] at hg'; cases hg'
      omega
end Go.Proofs.Ytagjgnephaaehaa
