/-
  Together: DiskGrow, DiskApp, DiskMS
-/
import Derived.Test.YtdhfbblameiloaaND8
import Derived.Laws.OwnMore
import Derived.Test.YtdhfbblameiloaaND4
/-
  Rows of a disk that grow: what an append turns, and what it leaves.
-/
namespace Go.Proofs.Ytdhfbblameiloaa
open Go.RowKit
set_option maxRecDepth 4000

theorem keep_grown {w w' : World} {base T c n : Nat} {v : Value} {xs : List Value} (h : w.ownsRow base T c v n xs) (hg : w.grownBy w' v.ownBlock) : KeepT (fun t => t = T) w w' := by
  intro b cur t z hb ht
  refine hg.block b (Array.getElem?_eq_some_iff.1 hb).1 (fun e => ?_)
  rcases h.2 with ⟨rfl, _⟩ | ⟨g, cap, cur', rfl, _, hg', _⟩
  · cases e
  · cases e
    rw [hg'] at hb
    cases hb
    exact ht rfl
theorem own_geK {W : World} {base T c N : Nat} {v : Value} {xs : List Value} (h : W.ownsRow base T c v N xs) : ∀ j, v.ownBlock = some j → base ≤ j := by
  intro j hj
  rcases h.2 with ⟨rfl, _⟩ | ⟨g, cap, cur, rfl, hb, _⟩
  · cases hj
  · cases hj; exact hb
theorem own_succK {W : World} {base T c k : Nat} {v : Value} {xs : List Value} (h : W.ownsRow base T c v (k + 1) xs) : ∃ g cap, v = .slice (some ⟨g, 0, none⟩) (k + 1) cap := by
  rcases h.2 with ⟨_, h0⟩ | ⟨g, cap, cur, e, _⟩
  · omega
  · exact ⟨g, cap, e⟩
theorem own_upK {W W' : World} {base T c N : Nat} {v : Value} {xs : List Value} (h : W.ownsRow base T c v N xs) (hu : Up base W W') : W'.ownsRow base T c v N xs := by
  refine ⟨h.1, ?_⟩
  rcases h.2 with h0 | ⟨g, cap, cur, e, hb, hg, hr⟩
  · exact .inl h0
  · exact .inr ⟨g, cap, cur, e, hb, (hu.2 g hb (Array.getElem?_eq_some_iff.1 hg).1).trans hg, hr⟩
theorem own_keepT {P : TypeId → Prop} {W W' : World} {base T c N : Nat} {v : Value} {xs : List Value} (h : W.ownsRow base T c v N xs) (hu : KeepT P W W') (hT : ¬ P T) : W'.ownsRow base T c v N xs := by
  refine ⟨h.1, ?_⟩
  rcases h.2 with h0 | ⟨g, cap, cur, e, hb, hg, hr⟩
  · exact .inl h0
  · exact .inr ⟨g, cap, cur, e, hb, (hu g _ _ _ hg hT).trans hg, hr⟩
theorem own_monoK {W : World} {base base' T c N : Nat} {v : Value} {xs : List Value} (h : W.ownsRow base T c v N xs) (hB : base' ≤ base) : W.ownsRow base' T c v N xs := by
  refine ⟨h.1, ?_⟩
  rcases h.2 with h0 | ⟨g, cap, cur, e, hb, hr⟩
  · exact .inl h0
  · exact .inr ⟨g, cap, cur, e, Nat.le_trans hB hb, hr⟩
theorem own_rl {W : World} {base T c N : Nat} {v : Value} {xs : List Value} (h : W.ownsRow base T c v N xs) : ∃ a cap, v = .slice a N cap ∧ N ≤ cap ∧ (a = none → cap = 0) ∧ RL T W base a xs := by
  rcases h.2 with ⟨rfl, rfl⟩ | ⟨g, cap, cur, rfl, hb, hg, hnc, _, _, ht⟩
  · refine ⟨none, 0, rfl, Nat.le_refl _, fun _ => rfl, .inl ?_⟩
    have := h.1
    rw [Nat.zero_mul] at this
    exact List.eq_nil_of_length_eq_zero this
  · refine ⟨_, cap, rfl, hnc, (fun e => by cases e), .inr ⟨g, cur, rfl, hb, hg, fun i u hi => ?_⟩⟩
    rw [← ht, List.getElem?_take] at hi
    split at hi
    · simpa using hi
    · cases hi
theorem own_nilK (W : World) (base T c : Nat) : W.ownsRow base T c (.slice none 0 0) 0 [] := ⟨by simp, .inl ⟨rfl, rfl⟩⟩
theorem own_emptyK (w : World) (T c : Nat) : (w.alloc (.cells #[] T)).ownsRow w.heap.size T c (.slice (some ⟨w.heap.size, 0, none⟩) 0 0) 0 [] := World.ownsRow_lit (base := w.heap.size) (e := T) (size := c) w #[] 0 (Nat.le_refl _) (Nat.zero_le _) (by simp)
/-- Bytes that were put into a new row. -/
theorem ob_of_own {w : World} {B g n c : Nat} {l : List Int} (h : w.ownsRow B 5 1 (.slice (some ⟨g, 0, none⟩) n c) n (bl l)) (hn : n = l.length) (hb : ∀ x ∈ l, 0 ≤ x ∧ x ≤ 255) : OB w B (.slice (some ⟨g, 0, none⟩) n c) l := by
  subst hn
  rcases h.2 with ⟨e, _⟩ | ⟨g', cap, cur, e, hB, hg, hnc, _, hcs, ht⟩
  · cases e
  · cases e
    refine ⟨_, c, rfl, hnc, (fun e => by cases e), hb, .inr ⟨g, rfl, hB, cur, hg, by omega, fun i hi => ?_⟩⟩
    have h1 : (bl l)[i]? = some (.int .u8 (bf l i)) := by simp [bl, bf, hi]
    rw [← ht, List.getElem?_take, if_pos (by omega)] at h1
    simpa using h1
theorem lv_bytes {w : World} {a : Option Addr} {c : Nat} {l : List Int} (h : View w a l.length c (bf l)) : ∀ x ∈ l, 0 ≤ x ∧ x ≤ 255 := by
  intro x hx
  obtain ⟨i, hi, rfl⟩ := List.getElem_of_mem hx
  have := h.byte i hi
  have e : bf l i = l[i] := by simp [bf, hi]
  rw [e] at this
  exact this

/-- The program's putBytes with nothing behind. -/
theorem putSec_any (a : Option Addr) (c : Nat) (l : List Int) (w : World) (hv : View w a l.length c (bf l)) (hn : a = none → c = 0) (hl : l.length ≤ 1048576) :
    Calls Try.prog 66 #[.slice a l.length c, .slice none 0 0] w fun e w' => e = .returned (.slice (some ⟨w.heap.size, 0, none⟩) l.length l.length) ∧ OB w' w.heap.size (.slice (some ⟨w.heap.size, 0, none⟩) l.length l.length) l ∧ Below w.heap.size w w' ∧ w.heap.size < w'.heap.size := by
  have h0 : View w none 0 0 (fun _ => 0) := ⟨Nat.le_refl _, fun i hi => absurd hi (Nat.not_lt_zero _), fun h => absurd h (Nat.lt_irrefl _)⟩
  refine (putBytes_opt a l.length c (bf l) none 0 0 (fun _ => 0) w hv (fun e => by have := hn e; have := hv.le; omega) h0 (fun _ => ⟨rfl, rfl⟩) (by omega)).mono ?_
  rintro e w' ⟨rfl, hO, hb⟩
  simp only [Nat.add_zero, lof_bf] at hO
  have e0 : lof 0 (fun _ => 0) = [] := rfl
  rw [e0, List.append_nil] at hO
  refine ⟨rfl, ob_of_own hO rfl (lv_bytes hv), hb, ?_⟩
  rcases hO.2 with ⟨e, _⟩ | ⟨g', cap, cur, e, hB, hg, _⟩
  · cases e
  · cases e; exact (Array.getElem?_eq_some_iff.1 hg).1

set_option maxHeartbeats 2000000 in
/-- slices.Clone of faults. -/
theorem cloneFaults_any (a : Option Addr) (cap : Nat) (l : List PFault) (w : World) (h : FView w a cap l) (hn : l.length ≤ 1048576) :
    Calls Try.prog 94 #[.slice a l.length cap] w fun e w' => ∃ fa fc, e = .returned (.slice fa l.length fc) ∧ l.length ≤ fc ∧ (fa = none → fc = 0) ∧ RL 79 w' w.heap.size fa (fcells l) ∧ Below w.heap.size w w' := by
  obtain ⟨i0, hi, hz0, hz1, hz2⟩ := infoFault
  cases a with
  | none =>
    have hc := h.nil rfl
    have hl0 : l.length = 0 := by have := h.le; omega
    have hl : l = [] := List.eq_nil_of_length_eq_zero hl0
    subst hl
    subst hc
    have he : ∀ W : World, (binOp .eql 30 (.slice none 0 0) (.slice none 0 0)).run Try.prog W = .ok (.bool true) W := by intro W; kernel_rfl
    go_enter Try.func94, Try.ntmps94
    go_wp2
    go_ret
    exact ⟨none, 0, rfl, Nat.le_refl _, fun _ => rfl, .inl rfl, Below.refl _ _⟩
  | some ad =>
    have hbE : Below w.heap.size w (w.alloc (.cells #[] 79)) := (Below.refl _ _).alloc (Nat.le_refl _) _
    have hO0 := own_emptyK w 79 3
    have hcl : ∀ j u, (fcells l)[j]? = some u → (w.alloc (.cells #[] 79)).cell? (ad.add j) = some u := by
      intro j u hj
      have hlen : j < l.length * 3 := by rw [← fcells_len]; exact (List.getElem?_eq_some_iff.1 hj).1
      obtain ⟨b, off, e, hlt, hc⟩ := h.cells (by omega)
      cases e
      have ea : (⟨b, off, none⟩ : Addr).add j = ⟨b, off + j, none⟩ := by unfold Addr.add; split <;> simp_all
      rw [ea, hbE.cell (p := ⟨b, off + j, none⟩) hlt]
      have hq : j = j / 3 * 3 + j % 3 := by omega
      have hi3 : j / 3 < l.length := by omega
      obtain ⟨us, rfl, hus⟩ := hc (j / 3) l[j / 3] (List.getElem?_eq_getElem hi3)
      have h1 := fcells_at (l := l) (j / 3) (j % 3) (by omega)
      rw [← hq, hj, List.getElem?_eq_getElem hi3] at h1
      have h2 := hus (j % 3) u h1.symm
      have e3 : off + j / 3 * 3 + j % 3 = off + j := by omega
      rw [e3] at h2
      exact h2
    have hone : ∀ u ∈ fcells l, u.oneCell' = true := by
      intro u hu
      simp only [fcells, List.mem_flatMap] at hu
      obtain ⟨x, -, hx⟩ := hu
      simp [fEl] at hx
      rcases hx with rfl | rfl | rfl <;> rfl
    clear h
    have he : ∀ W : World, (binOp .eql 30 (.slice (some ad) l.length cap) (.slice none 0 0)).run Try.prog W = .ok (.bool false) W := by intro W; kernel_rfl
    go_enter Try.func94, Try.ntmps94
    go_wp2_with (at_builtin; refine wpList_append_own _ rfl (.tmp 5) (.tmp 6) 30 rfl w.heap.size 79 i0 (.agg #[.int .i64 0, .int .i64 0, .int .i64 0]) 3 24 Try.underlying30 hi hz0 hz1 hz2 rfl (by decide) _ _ _ rfl hO0 ad l.length cap (fcells l) rfl (fcells_len l) hcl hone (by unfold maxLen; omega) (by omega) (by simp) ?_)
    intro v5 w2 hown5 hgr hnil
    obtain ⟨fa, fc, rfl, h1, h2, h3⟩ := own_rl hown5
    have HR : Hid (RL 79 w2 w.heap.size fa (fcells l) ∧ Below w.heap.size w w2) := ⟨h3, hbE.grown hgr (by simp) (own_geK hO0)⟩
    clear hown5 hgr hnil hO0 hcl hone hbE h3
    go_wp2
    go_ret
    exact ⟨fa, fc, rfl, h1, h2, HR.out.1, HR.out.2⟩
/-- Three variables of disks: what came in, the answer, the new one. -/
structure TC (w W : World) (xs zs ys : List Value) : Prop where
  below : Below w.heap.size w W
  size : w.heap.size + 3 ≤ W.heap.size
  a : VN W w.heap.size 32 xs
  r : VN W (w.heap.size + 1) 32 zs
  o : VN W (w.heap.size + 1 + 1) 32 ys
theorem tc_new (w : World) (xs zs ys : List Value) : TC w (((w.alloc (.cells ⟨xs⟩ 32)).alloc (.cells ⟨zs⟩ 32)).alloc (.cells ⟨ys⟩ 32)) xs zs ys := by
  have V0 := VN.new w 32 xs
  have V1 := VN.new (w.alloc (.cells ⟨xs⟩ 32)) 32 zs
  have V2 := VN.new ((w.alloc (.cells ⟨xs⟩ 32)).alloc (.cells ⟨zs⟩ 32)) 32 ys
  simp only [alloc_sizeK] at V1 V2
  refine ⟨(((Below.refl _ _).alloc (Nat.le_refl _) _).alloc (by simp) _).alloc (by simp; omega) _, by simp, (V0.below ((Below.refl _ _).alloc (Nat.le_refl _) _)).below ((Below.refl _ _).alloc (Nat.le_refl _) _), V1.below ((Below.refl _ _).alloc (Nat.le_refl _) _), V2⟩
theorem TC.under {w W W' : World} {xs zs ys : List Value} (h : TC w W xs zs ys) (hb : Below (w.heap.size + 3) W W') : TC w W' xs zs ys :=
  ⟨h.below.trans (hb.mono (by omega)), Nat.le_trans h.size hb.size, h.a.block (hb.block _ (by omega)), h.r.block (hb.block _ (by omega)), h.o.block (hb.block _ (by omega))⟩
theorem TC.on {w W W' : World} {xs zs ys : List Value} (h : TC w W xs zs ys) (hb : Below W.heap.size W W') : TC w W' xs zs ys := h.under (hb.mono h.size)
theorem TC.grow {w W W' : World} {xs zs ys : List Value} {row : Option Nat} (h : TC w W xs zs ys) (hg : W.grownBy W' row) (hr : ∀ k, row = some k → w.heap.size + 1 + 1 + 1 ≤ k) : TC w W' xs zs ys := h.under ((Below.refl _ _).grown hg h.size (fun k e => by have := hr k e; omega))
theorem TC.drew {w W : World} {xs zs ys : List Value} (h : TC w W xs zs ys) : TC w W.drew xs zs ys := h.on (Below.refl _ _).drew
theorem TC.set {w W : World} {xs zs ys : List Value} (h : TC w W xs zs ys) (i : Nat) (u : Value) : TC w (W.setCell ⟨w.heap.size + 1 + 1, i, none⟩ u) xs zs (ys.set i u) :=
  ⟨h.below.setCell (p := ⟨w.heap.size + 1 + 1, i, none⟩) (by simp; omega) _, by simpa using h.size, h.a.other (by omega), h.r.other (by omega), h.o.set i u⟩
theorem TC.ret {w W : World} {xs zs ys : List Value} (h : TC w W xs zs ys) (i : Nat) (u : Value) : TC w (W.setCell ⟨w.heap.size + 1, i, none⟩ u) xs (zs.set i u) ys :=
  ⟨h.below.setCell (p := ⟨w.heap.size + 1, i, none⟩) (by simp) _, by simpa using h.size, h.a.other (by omega), h.r.set i u, h.o.other (by omega)⟩
theorem TC.cells {w W : World} {x0 x1 x2 x3 x4 : Value} {zs : List Value} {y0 y1 y2 y3 y4 : Value} (h : TC w W [x0, x1, x2, x3, x4] zs [y0, y1, y2, y3, y4]) :
    (W.cell? ⟨w.heap.size, 0, none⟩ = some x0 ∧ W.cell? ⟨w.heap.size, 1, none⟩ = some x1 ∧ W.cell? ⟨w.heap.size, 2, none⟩ = some x2 ∧ W.cell? ⟨w.heap.size, 3, none⟩ = some x3 ∧ W.cell? ⟨w.heap.size, 4, none⟩ = some x4)
    ∧ (W.cell? ⟨w.heap.size + 1 + 1, 0, none⟩ = some y0 ∧ W.cell? ⟨w.heap.size + 1 + 1, 1, none⟩ = some y1 ∧ W.cell? ⟨w.heap.size + 1 + 1, 2, none⟩ = some y2 ∧ W.cell? ⟨w.heap.size + 1 + 1, 3, none⟩ = some y3 ∧ W.cell? ⟨w.heap.size + 1 + 1, 4, none⟩ = some y4)
    ∧ ∀ i, W.frozen? ⟨w.heap.size + 1 + 1, i, none⟩ = false :=
  ⟨⟨h.a.cell 0, h.a.cell 1, h.a.cell 2, h.a.cell 3, h.a.cell 4⟩, ⟨h.o.cell 0, h.o.cell 1, h.o.cell 2, h.o.cell 3, h.o.cell 4⟩, fun i => h.o.fz i⟩
theorem TC.rcells {w W : World} {xs : List Value} {y0 y1 y2 y3 y4 : Value} {ys : List Value} (h : TC w W xs [y0, y1, y2, y3, y4] ys) :
    (W.cell? ⟨w.heap.size + 1, 0, none⟩ = some y0 ∧ W.cell? ⟨w.heap.size + 1, 1, none⟩ = some y1 ∧ W.cell? ⟨w.heap.size + 1, 2, none⟩ = some y2 ∧ W.cell? ⟨w.heap.size + 1, 3, none⟩ = some y3 ∧ W.cell? ⟨w.heap.size + 1, 4, none⟩ = some y4)
    ∧ ∀ i, W.frozen? ⟨w.heap.size + 1, i, none⟩ = false :=
  ⟨⟨h.r.cell 0, h.r.cell 1, h.r.cell 2, h.r.cell 3, h.r.cell 4⟩, fun i => h.r.fz i⟩
end Go.Proofs.Ytdhfbblameiloaa

/-
  An append to a row of the call's own, of a slice that may be nil; variables of the model's copy.
-/
namespace Go.Proofs.Ytdhfbblameiloaa
open Go.RowKit
set_option maxRecDepth 4000

theorem wp_append_opt {w : World} {o : Oper} {a : Act} {K : Act → World → Prop} {Q : Exit → Act → World → Prop} (s x : Operand) (t : TypeId)
    (ho : o.op = .call { callee := .builtin .append, args := #[s, x], argTypes := #[t, t] })
    (base : Nat) (e : TypeId) (i : TypeInfo) (z : Value) (size bytes : Nat) (ht : Try.prog.underlying t = some (.slice e)) (hi : Try.prog.info? e = some i) (hz : i.zero = some z)
    (hsize : i.size = size) (hby : i.bytes = bytes) (hzs : z.cells.size = size) (hsz : 0 < size)
    (v : Value) (n : Nat) (xs : List Value) (hs : a.eval s = v) (hown : w.ownsRow base e size v n xs)
    (ao : Option Addr) (m c : Nat) (news : List Value) (hx : a.eval x = .slice ao m c) (hno : ao = none → m = 0 ∧ c = 0) (hl : news.length = m * size) (hnews : ∀ ad, ao = some ad → ∀ j u, news[j]? = some u → w.cell? (ad.add j) = some u) (h1 : ∀ u ∈ news, u.oneCell' = true)
    (h63 : n + m ≤ maxLen) (hbytes : (n + m) * bytes ≤ 140737488355328) (hbase : base ≤ w.heap.size)
    (h : ∀ v' w', w'.ownsRow base e size v' (n + m) (xs ++ news) → w.grownBy w' v.ownBlock → K (a.put o.dst v') w') : o.wp Try.prog a w K Q := by
  cases ao with
  | some ad => exact wp_append_own w s x t ho base e i z size bytes ht hi hz hsize hby hzs hsz v n xs hs hown ad m c news hx hl (hnews ad rfl) h1 h63 hbytes hbase (fun v' w' h2 h3 _ => h v' w' h2 h3)
  | none =>
    obtain ⟨rfl, rfl⟩ := hno rfl
    have hn : news = [] := List.eq_nil_of_length_eq_zero (by simpa using hl)
    subst hn
    have hrun := run_append_owned_none (P := Try.prog) (w := w) base t o.type e i size ht hi v n xs hown
    have hk := h v w (by simpa using hown) ⟨rfl, rfl, rfl, Nat.le_refl _, fun _ _ _ => rfl⟩
    unfold Oper.wp
    simp [execOp, ho, resolve, invoke, builtin, hs, hx, hrun, Result.andThen]
    exact hk

theorem wpList_append_opt {w : World} {ops : Array Oper} {rest : List Oper} {o : Oper} {a : Act} {Q : Exit → Act → World → Prop} (hgd : o.guard = none) (s x : Operand) (t : TypeId)
    (ho : o.op = .call { callee := .builtin .append, args := #[s, x], argTypes := #[t, t] })
    (base : Nat) (e : TypeId) (i : TypeInfo) (z : Value) (size bytes : Nat) (ht : Try.prog.underlying t = some (.slice e)) (hi : Try.prog.info? e = some i) (hz : i.zero = some z)
    (hsize : i.size = size) (hby : i.bytes = bytes) (hzs : z.cells.size = size) (hsz : 0 < size)
    (v : Value) (n : Nat) (xs : List Value) (hs : a.eval s = v) (hown : w.ownsRow base e size v n xs)
    (ao : Option Addr) (m c : Nat) (news : List Value) (hx : a.eval x = .slice ao m c) (hno : ao = none → m = 0 ∧ c = 0) (hl : news.length = m * size) (hnews : ∀ ad, ao = some ad → ∀ j u, news[j]? = some u → w.cell? (ad.add j) = some u) (h1 : ∀ u ∈ news, u.oneCell' = true)
    (h63 : n + m ≤ maxLen) (hbytes : (n + m) * bytes ≤ 140737488355328) (hbase : base ≤ w.heap.size)
    (h : ∀ v' w', w'.ownsRow base e size v' (n + m) (xs ++ news) → w.grownBy w' v.ownBlock → wpList Try.prog ops Q rest (a.put o.dst v') w') : wpList Try.prog ops Q (o :: rest) a w :=
  wpList_plain hgd fun _ hK => wp_append_opt s x t ho base e i z size bytes ht hi hz hsize hby hzs hsz v n xs hs hown ao m c news hx hno hl hnews h1 h63 hbytes hbase fun v' w' h2 h3 => hK _ _ (h v' w' h2 h3)

/-- Variables of disks: what came in, the answer, the new one, which lies somewhere. -/
structure TS (w W : World) (X : Nat) (xs zs ys : List Value) : Prop where
  below : Below w.heap.size w W
  a : VN W w.heap.size 32 xs
  r : VN W (w.heap.size + 1) 32 zs
  o : VN W X 32 ys
  ge : w.heap.size + 1 < X
theorem TS.on {w W W' : World} {X : Nat} {xs zs ys : List Value} (h : TS w W X xs zs ys) (hb : Below W.heap.size W W') : TS w W' X xs zs ys :=
  ⟨h.below.trans (hb.mono h.below.size), h.a.below hb, h.r.below hb, h.o.below hb, h.ge⟩
theorem TS.grow {w W W' : World} {X T : Nat} {xs zs ys : List Value} {row : Option Nat} (h : TS w W X xs zs ys) (hg : W.grownBy W' row) (hr : ∀ k, row = some k → w.heap.size ≤ k) (hk : KeepT (fun t => t = T) W W') (hT : 32 ≠ T) : TS w W' X xs zs ys :=
  ⟨h.below.grown hg h.below.size hr, h.a.block (hk _ _ _ _ h.a hT), h.r.block (hk _ _ _ _ h.r hT), h.o.block (hk _ _ _ _ h.o hT), h.ge⟩
theorem TS.set {w W : World} {X : Nat} {xs zs ys : List Value} (h : TS w W X xs zs ys) (i : Nat) (u : Value) : TS w (W.setCell ⟨X, i, none⟩ u) X xs zs (ys.set i u) :=
  have hge := h.ge
  ⟨h.below.setCell (p := ⟨X, i, none⟩) (by simp; omega) _, h.a.other (by omega), h.r.other (by omega), h.o.set i u, h.ge⟩
theorem TS.ret {w W : World} {X : Nat} {xs zs ys : List Value} (h : TS w W X xs zs ys) (i : Nat) (u : Value) : TS w (W.setCell ⟨w.heap.size + 1, i, none⟩ u) X xs (zs.set i u) ys :=
  have hge := h.ge
  ⟨h.below.setCell (p := ⟨w.heap.size + 1, i, none⟩) (by simp) _, h.a.other (by omega), h.r.set i u, h.o.other (by omega), h.ge⟩
theorem keep_vn {P : TypeId → Prop} {W : World} {X T i : Nat} {ys : List Value} {u : Value} (h : VN W X T ys) (hP : P T) : KeepT P W (W.setCell ⟨X, i, none⟩ u) := by
  intro b c t z hb ht
  refine Below.heap_setCell _ _ _ _ (fun e => ?_)
  have e' : b = X := e
  unfold VN at h
  rw [e', h] at hb
  cases hb
  exact ht hP
theorem TS.cells {w W : World} {X : Nat} {x0 x1 x2 x3 x4 : Value} {zs : List Value} {y0 y1 y2 y3 y4 : Value} (h : TS w W X [x0, x1, x2, x3, x4] zs [y0, y1, y2, y3, y4]) :
    (W.cell? ⟨w.heap.size, 0, none⟩ = some x0 ∧ W.cell? ⟨w.heap.size, 1, none⟩ = some x1 ∧ W.cell? ⟨w.heap.size, 2, none⟩ = some x2 ∧ W.cell? ⟨w.heap.size, 3, none⟩ = some x3 ∧ W.cell? ⟨w.heap.size, 4, none⟩ = some x4)
    ∧ (W.cell? ⟨X, 0, none⟩ = some y0 ∧ W.cell? ⟨X, 1, none⟩ = some y1 ∧ W.cell? ⟨X, 2, none⟩ = some y2 ∧ W.cell? ⟨X, 3, none⟩ = some y3 ∧ W.cell? ⟨X, 4, none⟩ = some y4)
    ∧ ∀ i, W.frozen? ⟨X, i, none⟩ = false :=
  ⟨⟨h.a.cell 0, h.a.cell 1, h.a.cell 2, h.a.cell 3, h.a.cell 4⟩, ⟨h.o.cell 0, h.o.cell 1, h.o.cell 2, h.o.cell 3, h.o.cell 4⟩, fun i => h.o.fz i⟩
theorem TS.rcells {w W : World} {X : Nat} {xs : List Value} {y0 y1 y2 y3 y4 : Value} {ys : List Value} (h : TS w W X xs [y0, y1, y2, y3, y4] ys) :
    (W.cell? ⟨w.heap.size + 1, 0, none⟩ = some y0 ∧ W.cell? ⟨w.heap.size + 1, 1, none⟩ = some y1 ∧ W.cell? ⟨w.heap.size + 1, 2, none⟩ = some y2 ∧ W.cell? ⟨w.heap.size + 1, 3, none⟩ = some y3 ∧ W.cell? ⟨w.heap.size + 1, 4, none⟩ = some y4)
    ∧ ∀ i, W.frozen? ⟨w.heap.size + 1, i, none⟩ = false :=
  ⟨⟨h.r.cell 0, h.r.cell 1, h.r.cell 2, h.r.cell 3, h.r.cell 4⟩, fun i => h.r.fz i⟩
/-- The cells of faults, and of bytes, that read. -/
theorem fview_news {W : World} {a : Option Addr} {cap : Nat} {l : List PFault} (h : FView W a cap l) : ∀ ad, a = some ad → ∀ j u, (fcells l)[j]? = some u → W.cell? (ad.add j) = some u := by
  intro ad ea j u hj
  subst ea
  have hlen : j < l.length * 3 := by rw [← fcells_len]; exact (List.getElem?_eq_some_iff.1 hj).1
  obtain ⟨b, off, e, hlt, hc⟩ := h.cells (by omega)
  cases e
  have ea : (⟨b, off, none⟩ : Addr).add j = ⟨b, off + j, none⟩ := by unfold Addr.add; split <;> simp_all
  rw [ea]
  have hq : j = j / 3 * 3 + j % 3 := by omega
  have hi3 : j / 3 < l.length := by omega
  obtain ⟨us, rfl, hus⟩ := hc (j / 3) l[j / 3] (List.getElem?_eq_getElem hi3)
  have h1 := fcells_at (l := l) (j / 3) (j % 3) (by omega)
  rw [← hq, hj, List.getElem?_eq_getElem hi3] at h1
  have h2 := hus (j % 3) u h1.symm
  have e3 : off + j / 3 * 3 + j % 3 = off + j := by omega
  rw [e3] at h2
  exact h2
theorem fcells_one (l : List PFault) : ∀ u ∈ fcells l, u.oneCell' = true := by
  intro u hu
  simp only [fcells, List.mem_flatMap] at hu
  obtain ⟨x, -, hx⟩ := hu
  simp [fEl] at hx
  rcases hx with rfl | rfl | rfl <;> rfl
theorem view_news {W : World} {a : Option Addr} {c : Nat} {l : List Int} (h : View W a l.length c (bf l)) : ∀ ad, a = some ad → ∀ j u, (bl l)[j]? = some u → W.cell? (ad.add j) = some u := by
  intro ad ea j u hj
  have := cells_of_any h ad ea j u
  rw [lof_bf] at this
  exact this hj
/-- Bytes put into a new row by an append: the row, by itself. -/
theorem ob_own_any {w : World} {B n : Nat} {v : Value} {l : List Int} (h : w.ownsRow B 5 1 v n (bl l)) (hn : n = l.length) (hb : ∀ x ∈ l, 0 ≤ x ∧ x ≤ 255) : OB w B v l := by
  subst hn
  obtain ⟨a, cap, rfl, h1, h2, h3⟩ := own_rl h
  refine ⟨a, cap, rfl, h1, h2, hb, ?_⟩
  rcases h3 with h3 | ⟨g, cur, rfl, hB, hg, hc⟩
  · left
    simpa [bl] using h3
  · refine .inr ⟨g, rfl, hB, cur, hg, ?_, fun i hi => hc i _ (by simp [bl, bf, hi])⟩
    rcases h.2 with ⟨e, _⟩ | ⟨g', cap', cur', e, _, hg', hnc, _, hcs, _⟩
    · cases e
    · cases e
      rw [hg] at hg'; cases hg'
      omega
end Go.Proofs.Ytdhfbblameiloaa

/-
  A disk in a variable of the model's, whose rows are the call's own.
-/
namespace Go.Proofs.Ytdhfbblameiloaa
open Go.RowKit
set_option maxRecDepth 4000

theorem OB.keepT {P : TypeId → Prop} {w w' : World} {B : Nat} {v : Value} {l : List Int} (h : OB w B v l) (ho : KeepT P w w') (hT : ¬ P 5) : OB w' B v l := by
  obtain ⟨a, c, e, h1, h2, h3, h4⟩ := h.is
  refine ⟨a, c, e, h1, h2, h3, ?_⟩
  rcases h4 with h4 | ⟨g, ea, hb, hr⟩
  · exact .inl h4
  · obtain ⟨cur, hc, hx⟩ := hr
    exact .inr ⟨g, ea, hb, cur, (ho g _ _ _ hc hT).trans hc, hx⟩
/-- The disk D in the variable X, whose sectors have S. -/
structure MS (w : World) (B X gs sc : Nat) (ca : Option Addr) (cc : Nat) (fa : Option Addr) (fc : Nat) (ss cs : List Value) (D : PDisk) (S : List (List Int)) : Prop where
  x : VN w X 32 [.slice (some ⟨gs, 0, none⟩) D.secs.length sc, .slice ca D.cache.length cc, .int .i64 D.ops, .slice fa D.faults.length fc, .bool D.down]
  secs : RL 27 w B (some ⟨gs, 0, none⟩) ss
  ns : ss.length = D.secs.length
  len : S.length = D.secs.length
  ob : ∀ (i : Nat) v l, ss[i]? = some v → S[i]? = some l → OB w B v l
  own : w.ownsRow B 51 2 (.slice ca D.cache.length cc) D.cache.length (wcells D.cache cs)
  nc : cs.length = D.cache.length
  cb : ∀ (i : Nat) v l, cs[i]? = some v → (D.cache.map (·.2))[i]? = some l → OB w B v l
  fown : w.ownsRow B 79 3 (.slice fa D.faults.length fc) D.faults.length (fcells D.faults)
/-- The faults' row. -/
theorem MS.faults {w : World} {B X gs sc : Nat} {ca : Option Addr} {cc : Nat} {fa : Option Addr} {fc : Nat} {ss cs : List Value} {D : PDisk} {S : List (List Int)} (h : MS w B X gs sc ca cc fa fc ss cs D S) : RL 79 w B fa (fcells D.faults) := by
  obtain ⟨a, c, e, -, -, h3⟩ := own_rl h.fown
  cases e
  exact h3
/-- The cache's row. -/
theorem MS.cache {w : World} {B X gs sc : Nat} {ca : Option Addr} {cc : Nat} {fa : Option Addr} {fc : Nat} {ss cs : List Value} {D : PDisk} {S : List (List Int)} (h : MS w B X gs sc ca cc fa fc ss cs D S) : RL 51 w B ca (wcells D.cache cs) := by
  obtain ⟨a, c, e, -, -, h3⟩ := own_rl h.own
  cases e
  exact h3
theorem MS.on {w w' : World} {B X gs sc : Nat} {ca : Option Addr} {cc : Nat} {fa : Option Addr} {fc : Nat} {ss cs : List Value} {D : PDisk} {S : List (List Int)} (h : MS w B X gs sc ca cc fa fc ss cs D S) (hb : Below w.heap.size w w') : MS w' B X gs sc ca cc fa fc ss cs D S :=
  ⟨h.x.below hb, h.secs.up (Up.ofBelow hb), h.ns, h.len, fun i v l h1 h2 => (h.ob i v l h1 h2).up (Up.ofBelow hb), own_upK h.own (Up.ofBelow hb), h.nc, fun i v l h1 h2 => (h.cb i v l h1 h2).up (Up.ofBelow hb), own_upK h.fown (Up.ofBelow hb)⟩
/-- A variable of another type turns. -/
theorem MS.other {w : World} {B X gs sc : Nat} {ca : Option Addr} {cc : Nat} {fa : Option Addr} {fc : Nat} {ss cs : List Value} {D : PDisk} {S : List (List Int)} {Y i : Nat} {u : Value} (h : MS w B X gs sc ca cc fa fc ss cs D S) (hY : w.heap.size ≤ Y) : MS (w.setCell ⟨Y, i, none⟩ u) B X gs sc ca cc fa fc ss cs D S :=
  h.on ((Below.refl _ _).setCell (p := ⟨Y, i, none⟩) hY u)
/-- A byte row comes into a sector. -/
theorem MS.put {w : World} {B X gs sc : Nat} {ca : Option Addr} {cc : Nat} {fa : Option Addr} {fc : Nat} {ss cs : List Value} {D : PDisk} {S : List (List Int)} (h : MS w B X gs sc ca cc fa fc ss cs D S) {m : Nat} (hm : m < D.secs.length) {v : Value} {l : List Int} (hv : OB w B v l) : MS (w.setCell ⟨gs, m, none⟩ v) B X gs sc ca cc fa fc (ss.set m v) cs D (S.set m l) := by
  have hk : KeepT (fun t => t = 27) w (w.setCell ⟨gs, m, none⟩ v) := KeepT.set h.secs (by rw [h.ns]; omega) rfl
  have hne : X ≠ gs := by
    rintro rfl
    obtain ⟨g, e, -, -, -⟩ := h.secs.cell (by rw [h.ns]; omega)
    rcases h.secs with h0 | ⟨g', cur, ea, -, hg, -⟩
    · have := h.ns; rw [h0] at this; simp at this; omega
    · cases ea
      have := h.x
      unfold VN at this
      rw [hg] at this
      cases this
  refine ⟨h.x.other hne, h.secs.set m v (by rw [h.ns]; exact hm), by simp [h.ns], by simp [h.len], fun i u x h1 h2 => ?_, own_keepT h.own hk (by decide), h.nc, fun i u x h1 h2 => (h.cb i u x h1 h2).keepT hk (by decide), own_keepT h.fown hk (by decide)⟩
  rw [List.getElem?_set] at h1 h2
  by_cases e : m = i
  · subst e
    rw [if_pos rfl, if_pos (by rw [h.ns]; exact hm)] at h1
    rw [if_pos rfl, if_pos (by rw [h.len]; exact hm)] at h2
    cases h1; cases h2
    exact hv.keepT hk (by decide)
  · rw [if_neg e] at h1 h2
    exact (h.ob i u x h1 h2).keepT hk (by decide)
/-- An owned disk that was put into a variable. -/
theorem MS.start {w : World} {B X gs sc : Nat} {ca : Option Addr} {cc : Nat} {fa : Option Addr} {fc : Nat} {ss cs : List Value} {D : PDisk} (h : KO w B (some ⟨gs, 0, none⟩) sc ca cc fa fc ss cs D) (hX : VN w X 32 [.slice (some ⟨gs, 0, none⟩) D.secs.length sc, .slice ca D.cache.length cc, .int .i64 D.ops, .slice fa D.faults.length fc, .bool D.down]) (hO : w.ownsRow B 51 2 (.slice ca D.cache.length cc) D.cache.length (wcells D.cache cs)) (hF : w.ownsRow B 79 3 (.slice fa D.faults.length fc) D.faults.length (fcells D.faults)) : MS w B X gs sc ca cc fa fc ss cs D D.secs :=
  ⟨hX, h.secs, h.ns, rfl, fun i v l h1 h2 => h.bytes.ob i v l (by rw [List.getElem?_append_left (List.getElem?_eq_some_iff.1 h1).1]; exact h1) (by rw [List.getElem?_append_left (List.getElem?_eq_some_iff.1 h2).1]; exact h2), hO, h.nc, fun i v l h1 h2 => h.bytes.ob (ss.length + i) v l (by rw [List.getElem?_append_right (by omega), Nat.add_sub_cancel_left]; exact h1) (by rw [h.ns, List.getElem?_append_right (by omega), Nat.add_sub_cancel_left]; exact h2), hF⟩
/-- The sectors and the faults read. -/
theorem MS.view {w : World} {B X gs sc : Nat} {ca : Option Addr} {cc : Nat} {fa : Option Addr} {fc : Nat} {ss cs : List Value} {D : PDisk} {S : List (List Int)} (h : MS w B X gs sc ca cc fa fc ss cs D S) (hs : D.secs.length ≤ sc) (hp : 0 < D.secs.length) : SView w (some ⟨gs, 0, none⟩) sc S := by
  refine ⟨by rw [h.len]; exact hs, (fun e => by cases e), fun hn => ?_⟩
  obtain ⟨g, ea, -, hlt, hc⟩ := h.secs.cell (by rw [h.ns]; omega)
  refine ⟨g, 0, ea, hlt, fun i x hi => ?_⟩
  have hi' : i < ss.length := by rw [h.ns, ← h.len]; exact (List.getElem?_eq_some_iff.1 hi).1
  have hv := List.getElem?_eq_getElem hi'
  refine ⟨[ss[i]], ⟨ss[i], rfl, (h.ob i _ x hv hi).lv⟩, fun j u hj => ?_⟩
  match j, hj with
  | 0, hj => cases hj; simpa using hc i _ hv
end Go.Proofs.Ytdhfbblameiloaa

