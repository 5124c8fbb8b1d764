/-
  Together: DiskGrow, DiskApp, ReadSecS, OwnZ, ReadLen, BestPlain, ReadBytes, TxKit, IterKit, IterOwn, BackI
-/
import Derived.Test.YtdjaiappaghfnaaTN7
import Derived.Test.YtdjaiappaghfnaaTN2
import Derived.Laws.OwnMore
import Derived.Test.YtdjaiappaghfnaaTN5
import Derived.Test.YtdjaiappaghfnaaTN4
import Derived.Test.YtdjaiappaghfnaaTN1
import Derived.RangeFuncNested
import Derived.RangeFuncBound
import Derived.RangeFuncCalls
import Derived.RangeFuncLeaves
import Derived.OwnWalkIn
import Derived.TacticsInMore
import Derived.LoopNIn
import Derived.LoopIn
import Derived.Shelf.RegionOpen
/-
  Rows of a disk that grow: what an append turns, and what it leaves.
-/
namespace Go.Proofs.Ytdjaiappaghfnaa
open Go.RowKit
set_option maxRecDepth 4000

theorem keep_grown {w w' : World} {base T c n : Nat} {v : Value} {xs : List Value} (h : w.ownsRow base T c v n xs) (hg : w.grownBy w' v.ownBlock) : KeepT (fun t => t = T) w w' := by
  intro b cur t z hb ht
  refine hg.block b (Array.getElem?_eq_some_iff.1 hb).1 (fun e => ?_)
  rcases h.2 with ⟨rfl, _⟩ | ⟨g, cap, cur', rfl, _, hg', _⟩
  · cases e
  · cases e
    rw [hg'] at hb
    cases hb
    exact ht rfl
theorem own_geK {W : World} {base T c N : Nat} {v : Value} {xs : List Value} (h : W.ownsRow base T c v N xs) : ∀ j, v.ownBlock = some j → base ≤ j := by
  intro j hj
  rcases h.2 with ⟨rfl, _⟩ | ⟨g, cap, cur, rfl, hb, _⟩
  · cases hj
  · cases hj; exact hb
theorem own_succK {W : World} {base T c k : Nat} {v : Value} {xs : List Value} (h : W.ownsRow base T c v (k + 1) xs) : ∃ g cap, v = .slice (some ⟨g, 0, none⟩) (k + 1) cap := by
  rcases h.2 with ⟨_, h0⟩ | ⟨g, cap, cur, e, _⟩
  · omega
  · exact ⟨g, cap, e⟩
theorem own_upK {W W' : World} {base T c N : Nat} {v : Value} {xs : List Value} (h : W.ownsRow base T c v N xs) (hu : Up base W W') : W'.ownsRow base T c v N xs := by
  refine ⟨h.1, ?_⟩
  rcases h.2 with h0 | ⟨g, cap, cur, e, hb, hg, hr⟩
  · exact .inl h0
  · exact .inr ⟨g, cap, cur, e, hb, (hu.2 g hb (Array.getElem?_eq_some_iff.1 hg).1).trans hg, hr⟩
theorem own_keepT {P : TypeId → Prop} {W W' : World} {base T c N : Nat} {v : Value} {xs : List Value} (h : W.ownsRow base T c v N xs) (hu : KeepT P W W') (hT : ¬ P T) : W'.ownsRow base T c v N xs := by
  refine ⟨h.1, ?_⟩
  rcases h.2 with h0 | ⟨g, cap, cur, e, hb, hg, hr⟩
  · exact .inl h0
  · exact .inr ⟨g, cap, cur, e, hb, (hu g _ _ _ hg hT).trans hg, hr⟩
theorem own_monoK {W : World} {base base' T c N : Nat} {v : Value} {xs : List Value} (h : W.ownsRow base T c v N xs) (hB : base' ≤ base) : W.ownsRow base' T c v N xs := by
  refine ⟨h.1, ?_⟩
  rcases h.2 with h0 | ⟨g, cap, cur, e, hb, hr⟩
  · exact .inl h0
  · exact .inr ⟨g, cap, cur, e, Nat.le_trans hB hb, hr⟩
theorem own_rl {W : World} {base T c N : Nat} {v : Value} {xs : List Value} (h : W.ownsRow base T c v N xs) : ∃ a cap, v = .slice a N cap ∧ N ≤ cap ∧ (a = none → cap = 0) ∧ RL T W base a xs := by
  rcases h.2 with ⟨rfl, rfl⟩ | ⟨g, cap, cur, rfl, hb, hg, hnc, _, _, ht⟩
  · refine ⟨none, 0, rfl, Nat.le_refl _, fun _ => rfl, .inl ?_⟩
    have := h.1
    rw [Nat.zero_mul] at this
    exact List.eq_nil_of_length_eq_zero this
  · refine ⟨_, cap, rfl, hnc, (fun e => by cases e), .inr ⟨g, cur, rfl, hb, hg, fun i u hi => ?_⟩⟩
    rw [← ht, List.getElem?_take] at hi
    split at hi
    · simpa using hi
    · cases hi
theorem own_nilK (W : World) (base T c : Nat) : W.ownsRow base T c (.slice none 0 0) 0 [] := ⟨by simp, .inl ⟨rfl, rfl⟩⟩
theorem own_emptyK (w : World) (T c : Nat) : (w.alloc (.cells #[] T)).ownsRow w.heap.size T c (.slice (some ⟨w.heap.size, 0, none⟩) 0 0) 0 [] := World.ownsRow_lit (base := w.heap.size) (e := T) (size := c) w #[] 0 (Nat.le_refl _) (Nat.zero_le _) (by simp)
/-- Bytes that were put into a new row. -/
theorem ob_of_own {w : World} {B g n c : Nat} {l : List Int} (h : w.ownsRow B 5 1 (.slice (some ⟨g, 0, none⟩) n c) n (bl l)) (hn : n = l.length) (hb : ∀ x ∈ l, 0 ≤ x ∧ x ≤ 255) : OB w B (.slice (some ⟨g, 0, none⟩) n c) l := by
  subst hn
  rcases h.2 with ⟨e, _⟩ | ⟨g', cap, cur, e, hB, hg, hnc, _, hcs, ht⟩
  · cases e
  · cases e
    refine ⟨_, c, rfl, hnc, (fun e => by cases e), hb, .inr ⟨g, rfl, hB, cur, hg, by omega, fun i hi => ?_⟩⟩
    have h1 : (bl l)[i]? = some (.int .u8 (bf l i)) := by simp [bl, bf, hi]
    rw [← ht, List.getElem?_take, if_pos (by omega)] at h1
    simpa using h1
theorem lv_bytes {w : World} {a : Option Addr} {c : Nat} {l : List Int} (h : View w a l.length c (bf l)) : ∀ x ∈ l, 0 ≤ x ∧ x ≤ 255 := by
  intro x hx
  obtain ⟨i, hi, rfl⟩ := List.getElem_of_mem hx
  have := h.byte i hi
  have e : bf l i = l[i] := by simp [bf, hi]
  rw [e] at this
  exact this

/-- The program's putBytes with nothing behind. -/
theorem putSec_any (a : Option Addr) (c : Nat) (l : List Int) (w : World) (hv : View w a l.length c (bf l)) (hn : a = none → c = 0) (hl : l.length ≤ 1048576) :
    Calls Try.prog 56 #[.slice a l.length c, .slice none 0 0] w fun e w' => e = .returned (.slice (some ⟨w.heap.size, 0, none⟩) l.length l.length) ∧ OB w' w.heap.size (.slice (some ⟨w.heap.size, 0, none⟩) l.length l.length) l ∧ Below w.heap.size w w' ∧ w.heap.size < w'.heap.size := by
  have h0 : View w none 0 0 (fun _ => 0) := ⟨Nat.le_refl _, fun i hi => absurd hi (Nat.not_lt_zero _), fun h => absurd h (Nat.lt_irrefl _)⟩
  refine (putBytes_opt a l.length c (bf l) none 0 0 (fun _ => 0) w hv (fun e => by have := hn e; have := hv.le; omega) h0 (fun _ => ⟨rfl, rfl⟩) (by omega)).mono ?_
  rintro e w' ⟨rfl, hO, hb⟩
  simp only [Nat.add_zero, lof_bf] at hO
  have e0 : lof 0 (fun _ => 0) = [] := rfl
  rw [e0, List.append_nil] at hO
  refine ⟨rfl, ob_of_own hO rfl (lv_bytes hv), hb, ?_⟩
  rcases hO.2 with ⟨e, _⟩ | ⟨g', cap, cur, e, hB, hg, _⟩
  · cases e
  · cases e; exact (Array.getElem?_eq_some_iff.1 hg).1

set_option maxHeartbeats 2000000 in
/-- slices.Clone of faults. -/
theorem cloneFaults_any (a : Option Addr) (cap : Nat) (l : List PFault) (w : World) (h : FView w a cap l) (hn : l.length ≤ 1048576) :
    Calls Try.prog 55 #[.slice a l.length cap] w fun e w' => ∃ fa fc, e = .returned (.slice fa l.length fc) ∧ l.length ≤ fc ∧ (fa = none → fc = 0) ∧ RL 70 w' w.heap.size fa (fcells l) ∧ Below w.heap.size w w' := by
  obtain ⟨i0, hi, hz0, hz1, hz2⟩ := infoFault
  cases a with
  | none =>
    have hc := h.nil rfl
    have hl0 : l.length = 0 := by have := h.le; omega
    have hl : l = [] := List.eq_nil_of_length_eq_zero hl0
    subst hl
    subst hc
    have he : ∀ W : World, (binOp .eql 29 (.slice none 0 0) (.slice none 0 0)).run Try.prog W = .ok (.bool true) W := by intro W; kernel_rfl
    go_enter Try.func55, Try.ntmps55
    go_wp2
    go_ret
    exact ⟨none, 0, rfl, Nat.le_refl _, fun _ => rfl, .inl rfl, Below.refl _ _⟩
  | some ad =>
    have hbE : Below w.heap.size w (w.alloc (.cells #[] 70)) := (Below.refl _ _).alloc (Nat.le_refl _) _
    have hO0 := own_emptyK w 70 3
    have hcl : ∀ j u, (fcells l)[j]? = some u → (w.alloc (.cells #[] 70)).cell? (ad.add j) = some u := by
      intro j u hj
      have hlen : j < l.length * 3 := by rw [← fcells_len]; exact (List.getElem?_eq_some_iff.1 hj).1
      obtain ⟨b, off, e, hlt, hc⟩ := h.cells (by omega)
      cases e
      have ea : (⟨b, off, none⟩ : Addr).add j = ⟨b, off + j, none⟩ := by unfold Addr.add; split <;> simp_all
      rw [ea, hbE.cell (p := ⟨b, off + j, none⟩) hlt]
      have hq : j = j / 3 * 3 + j % 3 := by omega
      have hi3 : j / 3 < l.length := by omega
      obtain ⟨us, rfl, hus⟩ := hc (j / 3) l[j / 3] (List.getElem?_eq_getElem hi3)
      have h1 := fcells_at (l := l) (j / 3) (j % 3) (by omega)
      rw [← hq, hj, List.getElem?_eq_getElem hi3] at h1
      have h2 := hus (j % 3) u h1.symm
      have e3 : off + j / 3 * 3 + j % 3 = off + j := by omega
      rw [e3] at h2
      exact h2
    have hone : ∀ u ∈ fcells l, u.oneCell' = true := by
      intro u hu
      simp only [fcells, List.mem_flatMap] at hu
      obtain ⟨x, -, hx⟩ := hu
      simp [fEl] at hx
      rcases hx with rfl | rfl | rfl <;> rfl
    clear h
    have he : ∀ W : World, (binOp .eql 29 (.slice (some ad) l.length cap) (.slice none 0 0)).run Try.prog W = .ok (.bool false) W := by intro W; kernel_rfl
    go_enter Try.func55, Try.ntmps55
    go_wp2_with (at_builtin; refine wpList_append_own _ rfl (.tmp 5) (.tmp 6) 29 rfl w.heap.size 70 i0 (.agg #[.int .i64 0, .int .i64 0, .int .i64 0]) 3 24 Try.underlying29 hi hz0 hz1 hz2 rfl (by decide) _ _ _ rfl hO0 ad l.length cap (fcells l) rfl (fcells_len l) hcl hone (by unfold maxLen; omega) (by omega) (by simp) ?_)
    intro v5 w2 hown5 hgr hnil
    obtain ⟨fa, fc, rfl, h1, h2, h3⟩ := own_rl hown5
    have HR : Hid (RL 70 w2 w.heap.size fa (fcells l) ∧ Below w.heap.size w w2) := ⟨h3, hbE.grown hgr (by simp) (own_geK hO0)⟩
    clear hown5 hgr hnil hO0 hcl hone hbE h3
    go_wp2
    go_ret
    exact ⟨fa, fc, rfl, h1, h2, HR.out.1, HR.out.2⟩
/-- Three variables of disks: what came in, the answer, the new one. -/
structure TC (w W : World) (xs zs ys : List Value) : Prop where
  below : Below w.heap.size w W
  size : w.heap.size + 3 ≤ W.heap.size
  a : VN W w.heap.size 31 xs
  r : VN W (w.heap.size + 1) 31 zs
  o : VN W (w.heap.size + 1 + 1) 31 ys
theorem tc_new (w : World) (xs zs ys : List Value) : TC w (((w.alloc (.cells ⟨xs⟩ 31)).alloc (.cells ⟨zs⟩ 31)).alloc (.cells ⟨ys⟩ 31)) xs zs ys := by
  have V0 := VN.new w 31 xs
  have V1 := VN.new (w.alloc (.cells ⟨xs⟩ 31)) 31 zs
  have V2 := VN.new ((w.alloc (.cells ⟨xs⟩ 31)).alloc (.cells ⟨zs⟩ 31)) 31 ys
  simp only [alloc_sizeK] at V1 V2
  refine ⟨(((Below.refl _ _).alloc (Nat.le_refl _) _).alloc (by simp) _).alloc (by simp; omega) _, by simp, (V0.below ((Below.refl _ _).alloc (Nat.le_refl _) _)).below ((Below.refl _ _).alloc (Nat.le_refl _) _), V1.below ((Below.refl _ _).alloc (Nat.le_refl _) _), V2⟩
theorem TC.under {w W W' : World} {xs zs ys : List Value} (h : TC w W xs zs ys) (hb : Below (w.heap.size + 3) W W') : TC w W' xs zs ys :=
  ⟨h.below.trans (hb.mono (by omega)), Nat.le_trans h.size hb.size, h.a.block (hb.block _ (by omega)), h.r.block (hb.block _ (by omega)), h.o.block (hb.block _ (by omega))⟩
theorem TC.on {w W W' : World} {xs zs ys : List Value} (h : TC w W xs zs ys) (hb : Below W.heap.size W W') : TC w W' xs zs ys := h.under (hb.mono h.size)
theorem TC.grow {w W W' : World} {xs zs ys : List Value} {row : Option Nat} (h : TC w W xs zs ys) (hg : W.grownBy W' row) (hr : ∀ k, row = some k → w.heap.size + 1 + 1 + 1 ≤ k) : TC w W' xs zs ys := h.under ((Below.refl _ _).grown hg h.size (fun k e => by have := hr k e; omega))
theorem TC.drew {w W : World} {xs zs ys : List Value} (h : TC w W xs zs ys) : TC w W.drew xs zs ys := h.on (Below.refl _ _).drew
theorem TC.set {w W : World} {xs zs ys : List Value} (h : TC w W xs zs ys) (i : Nat) (u : Value) : TC w (W.setCell ⟨w.heap.size + 1 + 1, i, none⟩ u) xs zs (ys.set i u) :=
  ⟨h.below.setCell (p := ⟨w.heap.size + 1 + 1, i, none⟩) (by simp; omega) _, by simpa using h.size, h.a.other (by omega), h.r.other (by omega), h.o.set i u⟩
theorem TC.ret {w W : World} {xs zs ys : List Value} (h : TC w W xs zs ys) (i : Nat) (u : Value) : TC w (W.setCell ⟨w.heap.size + 1, i, none⟩ u) xs (zs.set i u) ys :=
  ⟨h.below.setCell (p := ⟨w.heap.size + 1, i, none⟩) (by simp) _, by simpa using h.size, h.a.other (by omega), h.r.set i u, h.o.other (by omega)⟩
theorem TC.cells {w W : World} {x0 x1 x2 x3 x4 : Value} {zs : List Value} {y0 y1 y2 y3 y4 : Value} (h : TC w W [x0, x1, x2, x3, x4] zs [y0, y1, y2, y3, y4]) :
    (W.cell? ⟨w.heap.size, 0, none⟩ = some x0 ∧ W.cell? ⟨w.heap.size, 1, none⟩ = some x1 ∧ W.cell? ⟨w.heap.size, 2, none⟩ = some x2 ∧ W.cell? ⟨w.heap.size, 3, none⟩ = some x3 ∧ W.cell? ⟨w.heap.size, 4, none⟩ = some x4)
    ∧ (W.cell? ⟨w.heap.size + 1 + 1, 0, none⟩ = some y0 ∧ W.cell? ⟨w.heap.size + 1 + 1, 1, none⟩ = some y1 ∧ W.cell? ⟨w.heap.size + 1 + 1, 2, none⟩ = some y2 ∧ W.cell? ⟨w.heap.size + 1 + 1, 3, none⟩ = some y3 ∧ W.cell? ⟨w.heap.size + 1 + 1, 4, none⟩ = some y4)
    ∧ ∀ i, W.frozen? ⟨w.heap.size + 1 + 1, i, none⟩ = false :=
  ⟨⟨h.a.cell 0, h.a.cell 1, h.a.cell 2, h.a.cell 3, h.a.cell 4⟩, ⟨h.o.cell 0, h.o.cell 1, h.o.cell 2, h.o.cell 3, h.o.cell 4⟩, fun i => h.o.fz i⟩
theorem TC.rcells {w W : World} {xs : List Value} {y0 y1 y2 y3 y4 : Value} {ys : List Value} (h : TC w W xs [y0, y1, y2, y3, y4] ys) :
    (W.cell? ⟨w.heap.size + 1, 0, none⟩ = some y0 ∧ W.cell? ⟨w.heap.size + 1, 1, none⟩ = some y1 ∧ W.cell? ⟨w.heap.size + 1, 2, none⟩ = some y2 ∧ W.cell? ⟨w.heap.size + 1, 3, none⟩ = some y3 ∧ W.cell? ⟨w.heap.size + 1, 4, none⟩ = some y4)
    ∧ ∀ i, W.frozen? ⟨w.heap.size + 1, i, none⟩ = false :=
  ⟨⟨h.r.cell 0, h.r.cell 1, h.r.cell 2, h.r.cell 3, h.r.cell 4⟩, fun i => h.r.fz i⟩
end Go.Proofs.Ytdjaiappaghfnaa

/-
  An append to a row of the call's own, of a slice that may be nil; variables of the model's copy.
-/
namespace Go.Proofs.Ytdjaiappaghfnaa
open Go.RowKit
set_option maxRecDepth 4000

theorem wp_append_opt {w : World} {o : Oper} {a : Act} {K : Act → World → Prop} {Q : Exit → Act → World → Prop} (s x : Operand) (t : TypeId)
    (ho : o.op = .call { callee := .builtin .append, args := #[s, x], argTypes := #[t, t] })
    (base : Nat) (e : TypeId) (i : TypeInfo) (z : Value) (size bytes : Nat) (ht : Try.prog.underlying t = some (.slice e)) (hi : Try.prog.info? e = some i) (hz : i.zero = some z)
    (hsize : i.size = size) (hby : i.bytes = bytes) (hzs : z.cells.size = size) (hsz : 0 < size)
    (v : Value) (n : Nat) (xs : List Value) (hs : a.eval s = v) (hown : w.ownsRow base e size v n xs)
    (ao : Option Addr) (m c : Nat) (news : List Value) (hx : a.eval x = .slice ao m c) (hno : ao = none → m = 0 ∧ c = 0) (hl : news.length = m * size) (hnews : ∀ ad, ao = some ad → ∀ j u, news[j]? = some u → w.cell? (ad.add j) = some u) (h1 : ∀ u ∈ news, u.oneCell' = true)
    (h63 : n + m ≤ maxLen) (hbytes : (n + m) * bytes ≤ 140737488355328) (hbase : base ≤ w.heap.size)
    (h : ∀ v' w', w'.ownsRow base e size v' (n + m) (xs ++ news) → w.grownBy w' v.ownBlock → K (a.put o.dst v') w') : o.wp Try.prog a w K Q := by
  cases ao with
  | some ad => exact wp_append_own w s x t ho base e i z size bytes ht hi hz hsize hby hzs hsz v n xs hs hown ad m c news hx hl (hnews ad rfl) h1 h63 hbytes hbase (fun v' w' h2 h3 _ => h v' w' h2 h3)
  | none =>
    obtain ⟨rfl, rfl⟩ := hno rfl
    have hn : news = [] := List.eq_nil_of_length_eq_zero (by simpa using hl)
    subst hn
    have hrun := run_append_owned_none (P := Try.prog) (w := w) base t o.type e i size ht hi v n xs hown
    have hk := h v w (by simpa using hown) ⟨rfl, rfl, rfl, Nat.le_refl _, fun _ _ _ => rfl⟩
    unfold Oper.wp
    simp [execOp, ho, resolve, invoke, builtin, hs, hx, hrun, Result.andThen]
    exact hk

theorem wpList_append_opt {w : World} {ops : Array Oper} {rest : List Oper} {o : Oper} {a : Act} {Q : Exit → Act → World → Prop} (hgd : o.guard = none) (s x : Operand) (t : TypeId)
    (ho : o.op = .call { callee := .builtin .append, args := #[s, x], argTypes := #[t, t] })
    (base : Nat) (e : TypeId) (i : TypeInfo) (z : Value) (size bytes : Nat) (ht : Try.prog.underlying t = some (.slice e)) (hi : Try.prog.info? e = some i) (hz : i.zero = some z)
    (hsize : i.size = size) (hby : i.bytes = bytes) (hzs : z.cells.size = size) (hsz : 0 < size)
    (v : Value) (n : Nat) (xs : List Value) (hs : a.eval s = v) (hown : w.ownsRow base e size v n xs)
    (ao : Option Addr) (m c : Nat) (news : List Value) (hx : a.eval x = .slice ao m c) (hno : ao = none → m = 0 ∧ c = 0) (hl : news.length = m * size) (hnews : ∀ ad, ao = some ad → ∀ j u, news[j]? = some u → w.cell? (ad.add j) = some u) (h1 : ∀ u ∈ news, u.oneCell' = true)
    (h63 : n + m ≤ maxLen) (hbytes : (n + m) * bytes ≤ 140737488355328) (hbase : base ≤ w.heap.size)
    (h : ∀ v' w', w'.ownsRow base e size v' (n + m) (xs ++ news) → w.grownBy w' v.ownBlock → wpList Try.prog ops Q rest (a.put o.dst v') w') : wpList Try.prog ops Q (o :: rest) a w :=
  wpList_plain hgd fun _ hK => wp_append_opt s x t ho base e i z size bytes ht hi hz hsize hby hzs hsz v n xs hs hown ao m c news hx hno hl hnews h1 h63 hbytes hbase fun v' w' h2 h3 => hK _ _ (h v' w' h2 h3)

/-- Variables of disks: what came in, the answer, the new one, which lies somewhere. -/
structure TS (w W : World) (X : Nat) (xs zs ys : List Value) : Prop where
  below : Below w.heap.size w W
  a : VN W w.heap.size 31 xs
  r : VN W (w.heap.size + 1) 31 zs
  o : VN W X 31 ys
  ge : w.heap.size + 1 < X
theorem TS.on {w W W' : World} {X : Nat} {xs zs ys : List Value} (h : TS w W X xs zs ys) (hb : Below W.heap.size W W') : TS w W' X xs zs ys :=
  ⟨h.below.trans (hb.mono h.below.size), h.a.below hb, h.r.below hb, h.o.below hb, h.ge⟩
theorem TS.grow {w W W' : World} {X T : Nat} {xs zs ys : List Value} {row : Option Nat} (h : TS w W X xs zs ys) (hg : W.grownBy W' row) (hr : ∀ k, row = some k → w.heap.size ≤ k) (hk : KeepT (fun t => t = T) W W') (hT : 31 ≠ T) : TS w W' X xs zs ys :=
  ⟨h.below.grown hg h.below.size hr, h.a.block (hk _ _ _ _ h.a hT), h.r.block (hk _ _ _ _ h.r hT), h.o.block (hk _ _ _ _ h.o hT), h.ge⟩
theorem TS.set {w W : World} {X : Nat} {xs zs ys : List Value} (h : TS w W X xs zs ys) (i : Nat) (u : Value) : TS w (W.setCell ⟨X, i, none⟩ u) X xs zs (ys.set i u) :=
  have hge := h.ge
  ⟨h.below.setCell (p := ⟨X, i, none⟩) (by simp; omega) _, h.a.other (by omega), h.r.other (by omega), h.o.set i u, h.ge⟩
theorem TS.ret {w W : World} {X : Nat} {xs zs ys : List Value} (h : TS w W X xs zs ys) (i : Nat) (u : Value) : TS w (W.setCell ⟨w.heap.size + 1, i, none⟩ u) X xs (zs.set i u) ys :=
  have hge := h.ge
  ⟨h.below.setCell (p := ⟨w.heap.size + 1, i, none⟩) (by simp) _, h.a.other (by omega), h.r.set i u, h.o.other (by omega), h.ge⟩
theorem keep_vn {P : TypeId → Prop} {W : World} {X T i : Nat} {ys : List Value} {u : Value} (h : VN W X T ys) (hP : P T) : KeepT P W (W.setCell ⟨X, i, none⟩ u) := by
  intro b c t z hb ht
  refine Below.heap_setCell _ _ _ _ (fun e => ?_)
  have e' : b = X := e
  unfold VN at h
  rw [e', h] at hb
  cases hb
  exact ht hP
theorem TS.cells {w W : World} {X : Nat} {x0 x1 x2 x3 x4 : Value} {zs : List Value} {y0 y1 y2 y3 y4 : Value} (h : TS w W X [x0, x1, x2, x3, x4] zs [y0, y1, y2, y3, y4]) :
    (W.cell? ⟨w.heap.size, 0, none⟩ = some x0 ∧ W.cell? ⟨w.heap.size, 1, none⟩ = some x1 ∧ W.cell? ⟨w.heap.size, 2, none⟩ = some x2 ∧ W.cell? ⟨w.heap.size, 3, none⟩ = some x3 ∧ W.cell? ⟨w.heap.size, 4, none⟩ = some x4)
    ∧ (W.cell? ⟨X, 0, none⟩ = some y0 ∧ W.cell? ⟨X, 1, none⟩ = some y1 ∧ W.cell? ⟨X, 2, none⟩ = some y2 ∧ W.cell? ⟨X, 3, none⟩ = some y3 ∧ W.cell? ⟨X, 4, none⟩ = some y4)
    ∧ ∀ i, W.frozen? ⟨X, i, none⟩ = false :=
  ⟨⟨h.a.cell 0, h.a.cell 1, h.a.cell 2, h.a.cell 3, h.a.cell 4⟩, ⟨h.o.cell 0, h.o.cell 1, h.o.cell 2, h.o.cell 3, h.o.cell 4⟩, fun i => h.o.fz i⟩
theorem TS.rcells {w W : World} {X : Nat} {xs : List Value} {y0 y1 y2 y3 y4 : Value} {ys : List Value} (h : TS w W X xs [y0, y1, y2, y3, y4] ys) :
    (W.cell? ⟨w.heap.size + 1, 0, none⟩ = some y0 ∧ W.cell? ⟨w.heap.size + 1, 1, none⟩ = some y1 ∧ W.cell? ⟨w.heap.size + 1, 2, none⟩ = some y2 ∧ W.cell? ⟨w.heap.size + 1, 3, none⟩ = some y3 ∧ W.cell? ⟨w.heap.size + 1, 4, none⟩ = some y4)
    ∧ ∀ i, W.frozen? ⟨w.heap.size + 1, i, none⟩ = false :=
  ⟨⟨h.r.cell 0, h.r.cell 1, h.r.cell 2, h.r.cell 3, h.r.cell 4⟩, fun i => h.r.fz i⟩
/-- The cells of faults, and of bytes, that read. -/
theorem fview_news {W : World} {a : Option Addr} {cap : Nat} {l : List PFault} (h : FView W a cap l) : ∀ ad, a = some ad → ∀ j u, (fcells l)[j]? = some u → W.cell? (ad.add j) = some u := by
  intro ad ea j u hj
  subst ea
  have hlen : j < l.length * 3 := by rw [← fcells_len]; exact (List.getElem?_eq_some_iff.1 hj).1
  obtain ⟨b, off, e, hlt, hc⟩ := h.cells (by omega)
  cases e
  have ea : (⟨b, off, none⟩ : Addr).add j = ⟨b, off + j, none⟩ := by unfold Addr.add; split <;> simp_all
  rw [ea]
  have hq : j = j / 3 * 3 + j % 3 := by omega
  have hi3 : j / 3 < l.length := by omega
  obtain ⟨us, rfl, hus⟩ := hc (j / 3) l[j / 3] (List.getElem?_eq_getElem hi3)
  have h1 := fcells_at (l := l) (j / 3) (j % 3) (by omega)
  rw [← hq, hj, List.getElem?_eq_getElem hi3] at h1
  have h2 := hus (j % 3) u h1.symm
  have e3 : off + j / 3 * 3 + j % 3 = off + j := by omega
  rw [e3] at h2
  exact h2
theorem fcells_one (l : List PFault) : ∀ u ∈ fcells l, u.oneCell' = true := by
  intro u hu
  simp only [fcells, List.mem_flatMap] at hu
  obtain ⟨x, -, hx⟩ := hu
  simp [fEl] at hx
  rcases hx with rfl | rfl | rfl <;> rfl
theorem view_news {W : World} {a : Option Addr} {c : Nat} {l : List Int} (h : View W a l.length c (bf l)) : ∀ ad, a = some ad → ∀ j u, (bl l)[j]? = some u → W.cell? (ad.add j) = some u := by
  intro ad ea j u hj
  have := cells_of_any h ad ea j u
  rw [lof_bf] at this
  exact this hj
/-- Bytes put into a new row by an append: the row, by itself. -/
theorem ob_own_any {w : World} {B n : Nat} {v : Value} {l : List Int} (h : w.ownsRow B 5 1 v n (bl l)) (hn : n = l.length) (hb : ∀ x ∈ l, 0 ≤ x ∧ x ≤ 255) : OB w B v l := by
  subst hn
  obtain ⟨a, cap, rfl, h1, h2, h3⟩ := own_rl h
  refine ⟨a, cap, rfl, h1, h2, hb, ?_⟩
  rcases h3 with h3 | ⟨g, cur, rfl, hB, hg, hc⟩
  · left
    simpa [bl] using h3
  · refine .inr ⟨g, rfl, hB, cur, hg, ?_, fun i hi => hc i _ (by simp [bl, bf, hi])⟩
    rcases h.2 with ⟨e, _⟩ | ⟨g', cap', cur', e, _, hg', hnc, _, hcs, _⟩
    · cases e
    · cases e
      rw [hg] at hg'; cases hg'
      omega
end Go.Proofs.Ytdjaiappaghfnaa

/-
  The model's ReadSec.
-/
namespace Go.Proofs.Ytdjaiappaghfnaa
open Go.RowKit
set_option maxRecDepth 4000

/-- What ReadSec comes to. -/
def ReadTo (w : World) (D : PDisk) (n : Int) (e : Ending) (w' : World) : Prop := ∃ (v : Value) (ok : Bool), e = .returned (.tuple #[v, .bool ok]) ∧ (ok = true ↔ HasS D n) ∧ OB w' w.heap.size v (readB D n) ∧ Below w.heap.size w w'

set_option maxHeartbeats 8000000 in
theorem specReadSec_any (v : Value) (D : PDisk) (n : Int) (w : World) (h : KView w v D) (hf : KFine D) :
    Calls Try.prog 38 #[v, .int .i64 n] w (ReadTo w D n) := by
  obtain ⟨ib, hib, hb0, hb1, hb2⟩ := info_parts Try.info5
  obtain ⟨sa, sc, ca, cc, fa, fc, rfl, hs, hc, hfv⟩ := h.is
  clear h hfv
  have hns := hf.ns
  have hnc := hf.nc
  have HH : Hid (SView w sa sc D.secs ∧ WView w ca cc D.cache ∧ KFine D) := ⟨hs, hc, hf⟩
  clear hs hc hf
  have hB0 := box5_start w (.cells #[.slice sa D.secs.length sc, .slice ca D.cache.length cc, .int .i64 D.ops, .slice fa D.faults.length fc, .bool D.down] 31)
  have hs1 : IntKind.i64.wrap ((D.secs.length : Int) - 1) = (D.secs.length : Int) - 1 := by rw [IntKind.wrap_i64]; omega
  have hs2 : IntKind.i64.wrap ((D.cache.length : Int) - 1) = (D.cache.length : Int) - 1 := by rw [IntKind.wrap_i64]; omega
  by_cases hr : 0 ≤ n ∧ n < D.secs.length
  case neg =>
    have hV := fun W => l1In_no n 0 ((D.secs.length : Int) - 1) W (by omega)
    obtain ⟨hBw0, -⟩ := box5_below hB0
    go_enter Try.func38, Try.ntmps38
    go_wp2_with fail
    refine (hV _).mono ?_
    rintro e w1 ⟨rfl, rfl⟩
    clear hV
    go_wp2
    refine bodyPost_ret (v := .tuple #[.slice (some ⟨w.heap.size + 1, 0, none⟩) 0 0, .bool false]) (by simp [results, Try.results38, go_sem]) rfl ⟨_, false, rfl, by simpa [HasS] using hr, ?_, hBw0.alloc (by simp) _⟩
    rw [readB_none hr]
    exact ⟨_, 0, rfl, Nat.le_refl _, (fun e => by cases e), by simp, .inl rfl⟩
  have hV := fun W => l1In_yes n 0 ((D.secs.length : Int) - 1) W hr.1 (by omega)
  go_enter Try.func38, Try.ntmps38
  go_wp2_with fail
  refine (hV _).mono ?_
  rintro e w1 ⟨rfl, rfl⟩
  clear hV
  go_wp2
  go_loopg [6] D.cache.length (fun q i wr => ∃ k : Nat, k ≤ D.cache.length ∧ q = k ∧ i = .int .i64 ((k : Int) - 1) ∧ Below (w.heap.size + 1) (w.alloc (.cells #[.slice sa D.secs.length sc, .slice ca D.cache.length cc, .int .i64 D.ops, .slice fa D.faults.length fc, .bool D.down] 31)) wr ∧ Hid (lastW D.cache n D.cache.length = lastW D.cache n k))
  case atStart => exact ⟨D.cache.length, Nat.le_refl _, rfl, rfl, hB0, rfl⟩
  case round =>
    clear hB0
    obtain ⟨k, hk, hqk, rfl, hB5, HL⟩ := hrel
    obtain ⟨hB, -⟩ := box5_below hB5
    obtain ⟨y0, y1, y2, y3, y4⟩ := box5 hB5
    have hbE : Below w.heap.size w (wr.alloc (.cells #[] 5)) := hB.alloc hB.size _
    have hbE0 : Below wr.heap.size wr (wr.alloc (.cells #[] 5)) := (Below.refl _ _).alloc (Nat.le_refl _) _
    have hE := own_emptyK wr 5 1
    have hszE : wr.heap.size ≤ (wr.alloc (.cells #[] 5)).heap.size := hbE0.size
    by_cases hlt : 0 < k
    · obtain ⟨j, rfl⟩ : ∃ j, k = j + 1 := ⟨k - 1, by omega⟩
      have hjl : j < D.cache.length := by omega
      obtain ⟨b1, o1, a3, c3, esa, hb1', x0, x1, v0, vn⟩ := wview_at (wview_below HH.out.2.1 hB) hjl
      subst esa
      have hkz : (0 : Int) ≤ (j : Int) := by omega
      have hjz : (j : Int) < (D.cache.length : Int) := by omega
      have e1 : ((j + 1 : Nat) : Int) - 1 = (j : Int) := by omega
      rw [e1]
      have hw1 : IntKind.i64.wrap ((j : Int) - 1) = (j : Int) - 1 := by rw [IntKind.wrap_i64]; omega
      have hpl := HH.out.2.2.cache _ (List.getElem_mem hjl)
      by_cases hN : (D.cache[j]).1 = n
      · have HRB : Hid (readB D n = (D.cache[j]).2) := readB_hit hr (by rw [HL.out, lastW_hit hjl hN])
        rw [hN] at x0
        have v0' := v0.below hbE0
        have hnews := view_news v0'
        have hby := lv_bytes v0
        have hno : a3 = none → (D.cache[j]).2.length = 0 ∧ c3 = 0 := fun e => by have h1 := vn e; have h2 := v0.le; omega
        have hlen : (bl (D.cache[j]).2).length = (D.cache[j]).2.length * 1 := by rw [bl_len]; omega
        obtain ⟨p0, hp0⟩ := hidEx (D.cache[j]).2.length
        obtain ⟨pl, hpl'⟩ := hidEx (D.cache[j]).2
        have hp0v := hp0.out
        have hq : (n == n) = true := beq_self_eq_true _
        rw [hpl'.out] at hnews hby hlen HRB hp0v
        rw [hp0.out] at x1 hno hpl
        rw [hp0v] at hlen
        have hlb : w.heap.size < wr.heap.size := by have := hB5.size; simp at this; omega
        have y1' : (wr.alloc (.cells #[] 5)).cell? ⟨w.heap.size, 1, none⟩ = some (.slice (some ⟨b1, o1, none⟩) D.cache.length cc) := by rw [hbE0.cell (p := ⟨w.heap.size, 1, none⟩) hlb]; exact y1
        have x1' : (wr.alloc (.cells #[] 5)).cell? ⟨b1, o1 + j * 2 + 1, none⟩ = some (.slice a3 p0 c3) := by rw [hbE0.cell (p := ⟨b1, o1 + j * 2 + 1, none⟩) hb1']; exact x1
        clear v0 v0' HL
        go_wp2_with (at_builtin; refine wpList_append_opt rfl (.tmp 31) (.tmp 37) 63 rfl wr.heap.size 5 ib (.int .u8 0) 1 1 Try.underlying63 hib hb0 hb1 hb2 rfl (by decide) _ _ _ rfl hE a3 p0 c3 (bl pl) rfl hno hlen hnews (bl_one _) (by unfold maxLen; omega) (by omega) hszE ?_)
        intro v8 w8 hE8 hgr8
        try rw [Nat.zero_add, List.nil_append] at hE8
        have HO : Hid (OB w8 w.heap.size v8 pl ∧ Below w.heap.size w w8) := ⟨(ob_own_any hE8 hp0v.symm hby).mono hB.size, hbE.grown hgr8 hbE.size (fun k e => by have h1 := own_geK hE k e; have h2 := hB.size; omega)⟩
        clear hE8 hgr8 hE hnews
        go_wp2
        exact bodyPost_ret (v := .tuple #[v8, .bool true]) (by simp [results, Try.results38, go_sem]) rfl ⟨v8, true, rfl, by simpa [HasS] using hr, by rw [HRB.out]; exact HO.out.1, HO.out.2⟩
      · have HL2 : Hid (lastW D.cache n D.cache.length = lastW D.cache n j) := by
          show _ = _
          rw [HL.out, lastW_miss hjl hN]
        obtain ⟨p1, hp1⟩ := hidEx (D.cache[j]).1
        obtain ⟨p0, hp0⟩ := hidEx (D.cache[j]).2.length
        have hN' : ¬ p1 = n := by rw [← hp1.out]; exact hN
        have hq : (p1 == n) = false := beq_eq_false_iff_ne.2 hN'
        rw [hp1.out] at x0
        rw [hp0.out] at x1
        clear v0 HL hE hbE hbE0 hN hpl
        go_wp2
        go_roundg j
        case measure => omega
        case rel => exact ⟨j, by omega, rfl, by go_num, hB5, HL2⟩
    · obtain rfl : k = 0 := by omega
      have hkz : ¬ (0 : Int) ≤ ((0 : Nat) : Int) - 1 := by omega
      obtain ⟨m, hm⟩ : ∃ m : Nat, n = m := ⟨n.toNat, by omega⟩
      subst hm
      have hml : m < D.secs.length := by omega
      obtain ⟨b1, o1, a3, c3, esa, hb1', x0, v0, vn⟩ := sview_at (sview_below HH.out.1 hB) hml
      subst esa
      have hmz : (m : Int) < (D.secs.length : Int) := by omega
      have hpl := HH.out.2.2.sec _ (List.getElem_mem hml)
      have HRB : Hid (readB D (m : Int) = D.secs[m]) := readB_sec hr (by rw [HL.out]; rfl) hml
      have v0' := v0.below hbE0
      have hnews := view_news v0'
      have hby := lv_bytes v0
      have hno : a3 = none → (D.secs[m]).length = 0 ∧ c3 = 0 := fun e => by have h1 := vn e; have h2 := v0.le; omega
      have hlen : (bl D.secs[m]).length = (D.secs[m]).length * 1 := by rw [bl_len]; omega
      obtain ⟨p0, hp0⟩ := hidEx (D.secs[m]).length
      obtain ⟨pl, hpl'⟩ := hidEx D.secs[m]
      have hp0v := hp0.out
      rw [hpl'.out] at hnews hby hlen HRB hp0v
      rw [hp0.out] at x0 hno hpl
      rw [hp0v] at hlen
      have hlb : w.heap.size < wr.heap.size := by have := hB5.size; simp at this; omega
      have y0' : (wr.alloc (.cells #[] 5)).cell? ⟨w.heap.size, 0, none⟩ = some (.slice (some ⟨b1, o1, none⟩) D.secs.length sc) := by rw [hbE0.cell (p := ⟨w.heap.size, 0, none⟩) hlb]; exact y0
      have x0' : (wr.alloc (.cells #[] 5)).cell? ⟨b1, o1 + m, none⟩ = some (.slice a3 p0 c3) := by rw [hbE0.cell (p := ⟨b1, o1 + m, none⟩) hb1']; exact x0
      clear v0 v0' HL
      go_wp2_with (at_builtin; refine wpList_append_opt rfl (.tmp 39) (.tmp 44) 63 rfl wr.heap.size 5 ib (.int .u8 0) 1 1 Try.underlying63 hib hb0 hb1 hb2 rfl (by decide) _ _ _ rfl hE a3 p0 c3 (bl pl) rfl hno hlen hnews (bl_one _) (by unfold maxLen; omega) (by omega) hszE ?_)
      intro v8 w8 hE8 hgr8
      try rw [Nat.zero_add, List.nil_append] at hE8
      have HO : Hid (OB w8 w.heap.size v8 pl ∧ Below w.heap.size w w8) := ⟨(ob_own_any hE8 hp0v.symm hby).mono hB.size, hbE.grown hgr8 hbE.size (fun k e => by have h1 := own_geK hE k e; have h2 := hB.size; omega)⟩
      clear hE8 hgr8 hE hnews
      go_wp2
      exact bodyPost_ret (v := .tuple #[v8, .bool true]) (by simp [results, Try.results38, go_sem]) rfl ⟨v8, true, rfl, by simpa [HasS] using hr, by rw [HRB.out]; exact HO.out.1, HO.out.2⟩
end Go.Proofs.Ytdjaiappaghfnaa

/-
  Bytes of the call's own, whatever lies behind them.
-/
namespace Go.Proofs.Ytdjaiappaghfnaa
open Go.RowKit
set_option maxRecDepth 4000

/-- Bytes of the call's own. -/
structure OZ (w : World) (B : Nat) (v : Value) (l : List Int) : Prop where
  is : ∃ a c, v = .slice a l.length c ∧ l.length ≤ c ∧ (a = none → c = 0) ∧ (∀ x ∈ l, 0 ≤ x ∧ x ≤ 255) ∧ (l = [] ∨ ∃ g, a = some ⟨g, 0, none⟩ ∧ B ≤ g ∧ RowZ 5 w g l.length (bf l))
theorem OB.oz {w : World} {B : Nat} {v : Value} {l : List Int} (h : OB w B v l) : OZ w B v l := by
  obtain ⟨a, c, e, h1, h2, h3, h4⟩ := h.is
  refine ⟨a, c, e, h1, h2, h3, ?_⟩
  rcases h4 with h4 | ⟨g, ea, hb, hr⟩
  · exact .inl h4
  · exact .inr ⟨g, ea, hb, RowZ.ofRow hr⟩
theorem OZ.up {w w' : World} {B : Nat} {v : Value} {l : List Int} (h : OZ w B v l) (hu : Up B w w') : OZ w' B v l := by
  obtain ⟨a, c, e, h1, h2, h3, h4⟩ := h.is
  refine ⟨a, c, e, h1, h2, h3, ?_⟩
  rcases h4 with h4 | ⟨g, ea, hb, hr⟩
  · exact .inl h4
  · exact .inr ⟨g, ea, hb, hr.of_block (hu.2 g hb hr.lt)⟩
theorem OZ.mono {w : World} {B B' : Nat} {v : Value} {l : List Int} (h : OZ w B v l) (hB : B' ≤ B) : OZ w B' v l := by
  obtain ⟨a, c, e, h1, h2, h3, h4⟩ := h.is
  refine ⟨a, c, e, h1, h2, h3, ?_⟩
  rcases h4 with h4 | ⟨g, ea, hb, hr⟩
  · exact .inl h4
  · exact .inr ⟨g, ea, by omega, hr⟩
theorem bf_bytes {l : List Int} (h : ∀ x ∈ l, 0 ≤ x ∧ x ≤ 255) : ∀ i, i < l.length → 0 ≤ bf l i ∧ bf l i ≤ 255 := by
  intro i hi
  have : bf l i = l[i] := by simp [bf, hi]
  rw [this]
  exact h _ (List.getElem_mem hi)
theorem OZ.lv {w : World} {B : Nat} {v : Value} {l : List Int} (h : OZ w B v l) : LV w v l := by
  obtain ⟨a, c, e, h1, h2, h3, h4⟩ := h.is
  refine ⟨a, c, e, ⟨h1, bf_bytes h3, fun hn => ?_⟩, h2⟩
  rcases h4 with h4 | ⟨g, ea, hb, hr⟩
  · subst h4; simp at hn
  · exact ⟨g, 0, ea, hr.lt, fun i hi => by rw [Nat.zero_add]; exact hr.cell hi⟩
/-- What a call that answers bytes and a bool comes to. -/
def BTo (w : World) (l : List Int) (ok : Bool) (e : Ending) (w' : World) : Prop := ∃ v, e = .returned (.tuple #[v, .bool ok]) ∧ OZ w' w.heap.size v l ∧ Below w.heap.size w w'
end Go.Proofs.Ytdjaiappaghfnaa

/-
  What ReadSec comes to, as bytes and a bool; how many bytes.
-/
namespace Go.Proofs.Ytdjaiappaghfnaa
open Go.RowKit
set_option maxRecDepth 4000

def hasB (D : PDisk) (n : Int) : Bool := decide (0 ≤ n ∧ n < D.secs.length)
theorem hasB_iff (D : PDisk) (n : Int) : hasB D n = true ↔ HasS D n := by simp [hasB, HasS]
theorem ReadTo.bto {w w' : World} {D : PDisk} {n : Int} {e : Ending} (h : ReadTo w D n e w') : BTo w (readB D n) (hasB D n) e w' := by
  obtain ⟨v, ok, rfl, hok, hO, hb⟩ := h
  have : ok = hasB D n := by
    rw [Bool.eq_iff_iff, hok, hasB_iff]
  subst this
  exact ⟨v, rfl, hO.oz, hb⟩
theorem lastW_mem {l : List (Int × List Int)} {n : Int} : ∀ {k : Nat} {b : List Int}, lastW l n k = some b → ∃ x ∈ l, x.2 = b
  | 0, b, h => by cases h
  | k + 1, b, h => by
    rw [lastW] at h
    split at h
    · obtain ⟨x, hx, rfl⟩ := Option.map_eq_some_iff.1 h
      exact ⟨x, List.mem_of_getElem? hx, rfl⟩
    · exact lastW_mem h
theorem readB_len {D : PDisk} (hf : KFine D) (n : Int) : (readB D n).length ≤ 1048576 := by
  unfold readB
  split
  · rename_i hn
    cases hl : lastW D.cache n D.cache.length with
    | some b =>
      obtain ⟨x, hx, rfl⟩ := lastW_mem hl
      exact hf.cache x hx
    | none =>
      have hi : n.toNat < D.secs.length := by omega
      have e : (Option.none.getD (D.secs.getD n.toNat []) : List Int) = D.secs[n.toNat] := by simp [hi]
      rw [e]
      exact hf.sec _ (List.getElem_mem hi)
  · simp
end Go.Proofs.Ytdjaiappaghfnaa

/-
  The newer of two roots, plainly.
-/
namespace Go.Proofs.Ytdjaiappaghfnaa
open Go.RowKit
set_option maxRecDepth 4000

/-- The root that a sector has, if its Gen belongs there. -/
def rootP (D : PDisk) (n : Int) : Int × Int × Bool :=
  let r := getMe (readB D n).length (bf (readB D n))
  if r.2.2 = true ∧ r.1 % 2 = n then r else (0, 0, false)
/-- Of what was found and what is there now the newer one. -/
def newerP (b r : Int × Int × Bool) : Int × Int × Bool := if r.2.2 = true ∧ (b.2.2 = false ∨ b.1 < r.1) then r else b
def bestP (D : PDisk) : Nat → Int × Int × Bool
  | 0 => (0, 0, false)
  | k + 1 => newerP (bestP D k) (rootP D k)
theorem getMe_cases {n : Nat} {f : Nat → Int} (hf : ∀ i, i < n → 0 ≤ f i ∧ f i ≤ 255) : ((getMe n f).2.2 = true ∧ 0 ≤ (getMe n f).1 ∧ (getMe n f).1 ≤ 1000000 ∧ 0 ≤ (getMe n f).2.1 ∧ (getMe n f).2.1 ≤ 47) ∨ getMe n f = (0, 0, false) := by
  obtain ⟨⟨g, r, ok⟩, e⟩ : ∃ x, getMe n f = x := ⟨_, rfl⟩
  rw [e]
  cases ok with
  | false =>
    right
    have := getMe_none (n := n) (f := f) (by rw [e])
    rw [e] at this
    exact this
  | true =>
    left
    have := metaOk_iff.1 (getMe_read hf e).1
    dsimp only
    exact ⟨rfl, by omega, by omega, by omega, by omega⟩
/-- What is found is a root, or nothing. -/
def Sound (b : Int × Int × Bool) : Prop := (b.2.2 = true ∧ 0 ≤ b.1 ∧ b.1 ≤ 1000000 ∧ 0 ≤ b.2.1 ∧ b.2.1 ≤ 47) ∨ b = (0, 0, false)
theorem rootP_sound {D : PDisk} {n : Int} (hb : ∀ i, i < (readB D n).length → 0 ≤ bf (readB D n) i ∧ bf (readB D n) i ≤ 255) : Sound (rootP D n) := by
  unfold rootP
  dsimp only
  split
  · exact getMe_cases hb
  · exact .inr rfl
theorem newerP_sound {b r : Int × Int × Bool} (hb : Sound b) (hr : Sound r) : Sound (newerP b r) := by
  unfold newerP
  split
  · exact hr
  · exact hb
theorem bestP_sound {D : PDisk} (hb : ∀ n : Int, ∀ i, i < (readB D n).length → 0 ≤ bf (readB D n) i ∧ bf (readB D n) i ≤ 255) : ∀ k, Sound (bestP D k)
  | 0 => .inr rfl
  | k + 1 => newerP_sound (bestP_sound hb k) (rootP_sound (hb k))
theorem getMe_zero (f : Nat → Int) : getMe 0 f = (0, 0, false) := by
  have hp := getPg_bad (n := 0) (f := f) (by unfold sumGood; simp)
  unfold getMe
  simp [hp]
theorem rootP_none {D : PDisk} {n : Int} (h : hasB D n = false) : rootP D n = (0, 0, false) := by
  have : readB D n = [] := readB_none (fun hh => by unfold hasB at h; simp at h; exact absurd hh.1 (fun h0 => by have := hh.2; omega))
  unfold rootP
  rw [this]
  simp [getMe_zero]
end Go.Proofs.Ytdjaiappaghfnaa

/-
  What is read of a disk that reads are bytes.
-/
namespace Go.Proofs.Ytdjaiappaghfnaa
open Go.RowKit
set_option maxRecDepth 4000

theorem kview_bytes {w : World} {v : Value} {D : PDisk} (h : KView w v D) : (∀ x ∈ D.secs, ∀ i, i < x.length → 0 ≤ bf x i ∧ bf x i ≤ 255) ∧ (∀ x ∈ D.cache, ∀ i, i < x.2.length → 0 ≤ bf x.2 i ∧ bf x.2 i ≤ 255) := by
  obtain ⟨sa, sc, ca, cc, fa, fc, -, h1, h2, -⟩ := h.is
  refine ⟨fun x hx => ?_, fun x hx => ?_⟩
  · obtain ⟨i, hi, rfl⟩ := List.getElem_of_mem hx
    obtain ⟨_, _, _, _, -, -, -, hv, -⟩ := sview_at h1 hi
    exact hv.byte
  · obtain ⟨i, hi, rfl⟩ := List.getElem_of_mem hx
    obtain ⟨_, _, _, _, -, -, -, -, hv, -⟩ := wview_at h2 hi
    exact hv.byte
theorem lastW_memB {l : List (Int × List Int)} {n : Int} {b : List Int} : ∀ {k : Nat}, lastW l n k = some b → ∃ x ∈ l, x.2 = b
  | 0, h => by cases h
  | k + 1, h => by
    rw [lastW] at h
    split at h
    · cases hx : l[k]? with
      | none => rw [hx] at h; cases h
      | some x =>
        rw [hx] at h
        simp only [Option.map_some, Option.some.injEq] at h
        exact ⟨x, List.mem_of_getElem? hx, h⟩
    · exact lastW_memB h
theorem readB_bytes {w : World} {v : Value} {D : PDisk} (h : KView w v D) (n : Int) : ∀ i, i < (readB D n).length → 0 ≤ bf (readB D n) i ∧ bf (readB D n) i ≤ 255 := by
  obtain ⟨h1, h2⟩ := kview_bytes h
  by_cases hs : HasS D n
  · cases e : lastW D.cache n D.cache.length with
    | some b =>
      rw [readB_hit hs e]
      obtain ⟨x, hx, rfl⟩ := lastW_memB e
      exact h2 x hx
    | none =>
      have hi : n.toNat < D.secs.length := by have := hs.1; have := hs.2; omega
      rw [readB_sec hs e hi]
      exact h1 _ (List.getElem_mem hi)
  · rw [readB_none hs]
    intro i hi
    simp at hi
end Go.Proofs.Ytdjaiappaghfnaa

/-
  What is under way and has nothing new: its value, the nine cells of a variable of it.
-/
namespace Go.Proofs.Ytdjaiappaghfnaa
open Go.RowKit
set_option maxRecDepth 4000

/-- The disk that TxNew answers with. -/
def txD (D : PDisk) : PDisk := if (bestP D 2).2.2 = true then D else ⟨[], [], 0, [], false⟩
/-- A value of what is under way, of the disk's five cells. -/
def tval (D : PDisk) (sa : Option Addr) (sc : Nat) (ca : Option Addr) (cc : Nat) (fa : Option Addr) (fc : Nat) (g r q : Int) : Value :=
  .agg #[.slice sa D.secs.length sc, .slice ca D.cache.length cc, .int .i64 D.ops, .slice fa D.faults.length fc, .bool D.down, .int .i64 g, .int .i64 r, .int .i64 q, .slice none 0 0]
/-- The nine cells. -/
def tcs (D : PDisk) (sa : Option Addr) (sc : Nat) (ca : Option Addr) (cc : Nat) (fa : Option Addr) (fc : Nat) (g r q : Int) : List Value :=
  [.slice sa D.secs.length sc, .slice ca D.cache.length cc, .int .i64 D.ops, .slice fa D.faults.length fc, .bool D.down, .int .i64 g, .int .i64 r, .int .i64 q, .slice none 0 0]
/-- What TxNew comes to. -/
def TxTo (w : World) (D : PDisk) (e : Ending) (w' : World) : Prop :=
  ∃ sa sc ca cc fa fc ss cs, e = .returned (tval (txD D) sa sc ca cc fa fc (bestP D 2).1 (bestP D 2).2.1 (bestP D 2).2.1) ∧ KO w' w.heap.size sa sc ca cc fa fc ss cs (txD D) ∧ Below w.heap.size w w'
theorem txD_fine {D : PDisk} (h : KFine D) : KFine (txD D) := by
  unfold txD
  split
  · exact h
  · exact ⟨by simp, fun x hx => by simp at hx, by simp, fun x hx => by simp at hx, by simp⟩
theorem KO.zero (w : World) (B : Nat) : KO w B none 0 none 0 none 0 [] [] ⟨[], [], 0, [], false⟩ :=
  ⟨Nat.le_refl _, fun _ => rfl, Nat.le_refl _, fun _ => rfl, Nat.le_refl _, fun _ => rfl, rfl, rfl, .inl rfl, .inl rfl, .inl rfl, Bs.nil w B⟩
theorem KO.mono {w : World} {B B' : Nat} {sa : Option Addr} {sc : Nat} {ca : Option Addr} {cc : Nat} {fa : Option Addr} {fc : Nat} {ss cs : List Value} {D : PDisk} (h : KO w B sa sc ca cc fa fc ss cs D) (hB : B' ≤ B) : KO w B' sa sc ca cc fa fc ss cs D :=
  ⟨h.sle, h.snil, h.cle, h.cnil, h.fle, h.fnil, h.ns, h.nc, h.secs.mono hB, h.cache.mono hB, h.faults.mono hB, h.bytes.mono hB⟩

/-- Nine values laid into a variable. -/
def lay9 (W : World) (R : Nat) (v0 v1 v2 v3 v4 v5 v6 v7 v8 : Value) : World :=
  ((((((((W.setCell ⟨R, 0, none⟩ v0).setCell ⟨R, 1, none⟩ v1).setCell ⟨R, 2, none⟩ v2).setCell ⟨R, 3, none⟩ v3).setCell ⟨R, 4, none⟩ v4).setCell ⟨R, 5, none⟩ v5).setCell ⟨R, 6, none⟩ v6).setCell ⟨R, 7, none⟩ v7).setCell ⟨R, 8, none⟩ v8
theorem lay9_vn {W : World} {R : Nat} {T : TypeId} {z0 z1 z2 z3 z4 z5 z6 z7 z8 : Value} (v0 v1 v2 v3 v4 v5 v6 v7 v8 : Value) (h : VN W R T [z0, z1, z2, z3, z4, z5, z6, z7, z8]) : VN (lay9 W R v0 v1 v2 v3 v4 v5 v6 v7 v8) R T [v0, v1, v2, v3, v4, v5, v6, v7, v8] := by
  have := ((((((((h.set 0 v0).set 1 v1).set 2 v2).set 3 v3).set 4 v4).set 5 v5).set 6 v6).set 7 v7).set 8 v8
  unfold lay9
  simpa only [List.set] using this
theorem lay9_up {W : World} {R B : Nat} (v0 v1 v2 v3 v4 v5 v6 v7 v8 : Value) (h : R < B) : Up B W (lay9 W R v0 v1 v2 v3 v4 v5 v6 v7 v8) :=
  ((((((((Up.set h).trans (Up.set h)).trans (Up.set h)).trans (Up.set h)).trans (Up.set h)).trans (Up.set h)).trans (Up.set h)).trans (Up.set h)).trans (Up.set h)
theorem lay9_below {w W : World} {n R : Nat} (v0 v1 v2 v3 v4 v5 v6 v7 v8 : Value) (h : Below n w W) (hR : n ≤ R) : Below n w (lay9 W R v0 v1 v2 v3 v4 v5 v6 v7 v8) :=
  ((((((((h.setCell (p := ⟨R, 0, none⟩) hR _).setCell (p := ⟨R, 1, none⟩) hR _).setCell (p := ⟨R, 2, none⟩) hR _).setCell (p := ⟨R, 3, none⟩) hR _).setCell (p := ⟨R, 4, none⟩) hR _).setCell (p := ⟨R, 5, none⟩) hR _).setCell (p := ⟨R, 6, none⟩) hR _).setCell (p := ⟨R, 7, none⟩) hR _).setCell (p := ⟨R, 8, none⟩) hR _
theorem lay9_block {W : World} {R k : Nat} (v0 v1 v2 v3 v4 v5 v6 v7 v8 : Value) (h : k ≠ R) : (lay9 W R v0 v1 v2 v3 v4 v5 v6 v7 v8).heap[k]? = W.heap[k]? := by
  unfold lay9
  have hb : ∀ (w : World) (i : Nat) (u : Value), (w.setCell ⟨R, i, none⟩ u).heap[k]? = w.heap[k]? := fun w i u => Below.heap_setCell _ _ _ _ h
  simp only [hb]
theorem lay9_size (W : World) (R : Nat) (v0 v1 v2 v3 v4 v5 v6 v7 v8 : Value) : (lay9 W R v0 v1 v2 v3 v4 v5 v6 v7 v8).heap.size = W.heap.size := by unfold lay9; simp
end Go.Proofs.Ytdjaiappaghfnaa

/-
  What a round of a loop over an iterator keeps: all that lay at the start of the call, and the two boxes that the iterator holds.
-/
namespace Go.Proofs.Ytdjaiappaghfnaa
open Go.RowKit
set_option maxRecDepth 4000

/-- What a round that goes on keeps. -/
structure KpB (n₀ Bl Bv : Nat) (W W' : World) : Prop where
  below : Below n₀ W W'
  bl : W'.heap[Bl]? = W.heap[Bl]?
  bv : W'.heap[Bv]? = W.heap[Bv]?
theorem KpB.refl (n₀ Bl Bv : Nat) (W : World) : KpB n₀ Bl Bv W W := ⟨Below.refl _ _, rfl, rfl⟩
theorem KpB.trans {n₀ Bl Bv : Nat} {A B C : World} (h : KpB n₀ Bl Bv A B) (k : KpB n₀ Bl Bv B C) : KpB n₀ Bl Bv A C := ⟨h.below.trans k.below, k.bl.trans h.bl, k.bv.trans h.bv⟩
/-- Whatever leaves all that lay as it lay. -/
theorem KpB.ofBelow {n₀ Bl Bv : Nat} {W W' : World} (h : Below W.heap.size W W') (hn : n₀ ≤ W.heap.size) (hl : Bl < W.heap.size) (hv : Bv < W.heap.size) : KpB n₀ Bl Bv W W' := ⟨h.mono hn, h.block Bl hl, h.block Bv hv⟩
/-- A step that turns one block. -/
theorem KpB.ofGrown {n₀ Bl Bv : Nat} {W W' : World} {row : Option Nat} (hg : W.grownBy W' row) (hn : n₀ ≤ W.heap.size) (hl : Bl < W.heap.size) (hv : Bv < W.heap.size) (hr : ∀ k, row = some k → n₀ ≤ k ∧ k ≠ Bl ∧ k ≠ Bv) : KpB n₀ Bl Bv W W' :=
  ⟨⟨hg.os, hg.tape, hg.output, hg.size, fun k hk => hg.block k (by omega) (fun e => by have := (hr k e.symm).1; omega)⟩, hg.block Bl hl (fun e => (hr Bl e.symm).2.1 rfl), hg.block Bv hv (fun e => (hr Bv e.symm).2.2 rfl)⟩
theorem KpB.put {n₀ Bl Bv : Nat} {w : World} (hn : n₀ ≤ w.heap.size) (hl : Bl < w.heap.size) (hv : Bv < w.heap.size) (W : World) (l : Nat) (o o' : Obj) (hle : w.heap.size ≤ l) (h : W.heap[l]? = some o) (h1 : o.isCells = false) (h2 : o.isWalk = false) : KpB n₀ Bl Bv W (W.putObj l o') :=
  ⟨belowK_b hn W l o o' hle h h1 h2, World.putObj_heap_other (by omega), World.putObj_heap_other (by omega)⟩
theorem Boxed.kpl {n₀ Bl Bv : Nat} {W W' : World} {t : TypeId} {v : Value} (h : Boxed W Bl t v) (k : KpB n₀ Bl Bv W W') : Boxed W' Bl t v := k.bl.trans h
theorem Boxed.kpv {n₀ Bl Bv : Nat} {W W' : World} {t : TypeId} {v : Value} (h : Boxed W Bv t v) (k : KpB n₀ Bl Bv W W') : Boxed W' Bv t v := k.bv.trans h
theorem Boxed.below' {W W' : World} {B : Nat} {t : TypeId} {v : Value} (h : Boxed W B t v) (k : Below W.heap.size W W') : Boxed W' B t v := (k.block B h.lt).trans h
theorem grownBy_drew' (W : World) : W.grownBy W.drew none := ⟨rfl, rfl, rfl, Nat.le_refl _, fun _ _ _ => rfl⟩
theorem grownBy_below' {W W' : World} (h : Below W.heap.size W W') : W.grownBy W' none := ⟨h.os, h.tape, h.output, h.size, fun k hk _ => h.block k hk⟩
theorem AbidesFrom.step {β : Type} {B : Nat} {J : β → World → Prop} (h : AbidesFrom B J) {s : β} {W W' : World} (hs : J s W) (hg : W.grownBy W' none) : J s W' := h s W W' none hs hg (fun _ e => by cases e)
/-- 'KeepsFrom' of whatever leaves all that lay as it lay. -/
theorem KeepsFrom.ofBelow {B : Nat} {W W' : World} (h : Below W.heap.size W W') : KeepsFrom B W W' := ⟨h.size, fun k _ _ hk _ => (h.block k (Array.getElem?_eq_some_iff.1 hk).1).trans hk⟩
/-- 'KpB .. w₀ ·' abides what the loop itself turns. -/
theorem ownFrom_kpB {β : Type} {n₀ Bl Bv B' : Nat} {w₀ : World} (hn : n₀ ≤ B') (hl : Bl < B') (hv : Bv < B') (hB : B' ≤ w₀.heap.size) : OwnFrom B' (fun (_ : β) W => KpB n₀ Bl Bv w₀ W) :=
  fun _ X Y row hs hg hr => by
    have hs0 := hs.below.size
    refine ⟨hs.below.trans ⟨hg.os, hg.tape, hg.output, hg.size, fun k hk => hg.block k (by omega) (fun e => by have := (hr k e.symm).1; omega)⟩, ?_, ?_⟩
    · exact (hg.block Bl (by omega) (fun e => by have := (hr Bl e.symm).1; omega)).trans hs.bl
    · exact (hg.block Bv (by omega) (fun e => by have := (hr Bv e.symm).1; omega)).trans hs.bv

/-- The first j of the indices. -/
theorem fin_take {k j : Nat} (h : j < k) : (List.finRange k).take (j + 1) = (List.finRange k).take j ++ [⟨j, h⟩] := by
  rw [List.take_add_one, List.getElem?_eq_getElem (by simpa using h)]
  simp
theorem fin_len {k j : Nat} (h : j ≤ k) : ((List.finRange k).take j).length = j := by simp [h]
end Go.Proofs.Ytdjaiappaghfnaa

/-
  A box of a round, and what the loop itself turns.
-/
namespace Go.Proofs.Ytdjaiappaghfnaa
open Go.RowKit
set_option maxRecDepth 4000

theorem Boxed.ownK {W W' : World} {row : Option Nat} {B : Nat} {t : TypeId} {v : Value} (h : Boxed W B t v) (hg : W.grownBy W' row) (hr : ∀ r, row = some r → ∃ o : Obj, W.heap[r]? = some o ∧ o.isCells = false) : Boxed W' B t v := by
  obtain ⟨o, ho, hc⟩ := cells_of_cell h.cell
  exact (grownBy_keeps_cells hg hr ho hc).trans h
theorem Below.put' {n₀ : Nat} {w₀ W : World} {D : Nat} {o o' : Obj} (h : Below n₀ w₀ W) (hn : n₀ ≤ D) (hK : W.heap[D]? = some o) : Below n₀ w₀ (W.putObj D o') :=
  h.trans ((Below.refl n₀ W).grown (grownBy_putObj' W D o') (by have := (Array.getElem?_eq_some_iff.1 hK).1; omega) (fun k e => by cases e; omega))
end Go.Proofs.Ytdjaiappaghfnaa

/-
  slices.Backward of a row of writes.
-/
namespace Go.Proofs.Ytdjaiappaghfnaa
open Go.RowKit
set_option maxRecDepth 4000

attribute [local go_sem] Oper.semAt_some

/-- The write at place i from the end, as it is yielded. -/
abbrev encK (n : Nat) (fn : Nat → Int) (us : Nat → Value) (x : Nat) : Array Value := #[.int .i64 ((n - 1 - x : Nat) : Int), .agg #[.int .i64 (fn (n - 1 - x)), us (n - 1 - x)]]
/-- The cells of a row of writes. -/
def WCells (w : World) (a : Option Addr) (n : Nat) (fn : Nat → Int) (us : Nat → Value) : Prop := 0 < n → ∃ b off, a = some ⟨b, off, none⟩ ∧ b < w.heap.size ∧ ∀ i, i < n → w.cell? ⟨b, off + i * 2, none⟩ = some (.int .i64 (fn i)) ∧ w.cell? ⟨b, off + i * 2 + 1, none⟩ = some (us i) ∧ (us i).oneCell' = true
theorem WCells.below {w w' : World} {a : Option Addr} {n : Nat} {fn : Nat → Int} {us : Nat → Value} (h : WCells w a n fn us) (hb : Below w.heap.size w w') : WCells w' a n fn us := by
  intro hn
  obtain ⟨b, off, e, hlt, hc⟩ := h hn
  refine ⟨b, off, e, Nat.lt_of_lt_of_le hlt hb.size, fun i hi => ?_⟩
  obtain ⟨h1, h2, h3⟩ := hc i hi
  exact ⟨by rw [hb.cell (p := ⟨b, off + i * 2, none⟩) hlt]; exact h1, by rw [hb.cell (p := ⟨b, off + i * 2 + 1, none⟩) hlt]; exact h2, h3⟩
/-- A row of writes that reads, by functions of the index. -/
theorem wcells_of {w : World} {a : Option Addr} {cap : Nat} {l : List (Int × List Int)} (h : WView w a cap l) : ∃ us : Nat → Value, WCells w a l.length (fun i => (l.getD i (0, [])).1) us ∧ ∀ i (hi : i < l.length), LV w (us i) (l[i]).2 := by
  by_cases hn : 0 < l.length
  case neg => exact ⟨fun _ => undef, fun h => absurd h hn, fun i hi => absurd (Nat.lt_of_le_of_lt (Nat.zero_le _) hi) hn⟩
  obtain ⟨b, off, e, hlt, hc⟩ := h.cells hn
  have key : ∀ i (hi : i < l.length), ∃ u, w.cell? ⟨b, off + i * 2, none⟩ = some (.int .i64 (l[i]).1) ∧ w.cell? ⟨b, off + i * 2 + 1, none⟩ = some u ∧ LV w u (l[i]).2 := by
    intro i hi
    obtain ⟨us, ⟨u, rfl, hu⟩, h2⟩ := hc i l[i] (List.getElem?_eq_getElem hi)
    exact ⟨u, by simpa using h2 0 _ rfl, by simpa using h2 1 _ rfl, hu⟩
  refine ⟨fun i => (w.cell? ⟨b, off + i * 2 + 1, none⟩).getD undef, fun _ => ⟨b, off, e, hlt, fun i hi => ?_⟩, fun i hi => ?_⟩
  · obtain ⟨u, h1, h2, h3⟩ := key i hi
    refine ⟨by rw [h1]; simp [hi], by show _ = some ((w.cell? ⟨b, off + i * 2 + 1, none⟩).getD undef); rw [h2]; rfl, ?_⟩
    show ((w.cell? ⟨b, off + i * 2 + 1, none⟩).getD undef).oneCell' = true
    rw [h2]
    obtain ⟨a', c', rfl, -, -⟩ := h3.is
    rfl
  · obtain ⟨u, h1, h2, h3⟩ := key i hi
    show LV w ((w.cell? ⟨b, off + i * 2 + 1, none⟩).getD undef) _
    rw [h2]
    exact h3

set_option linter.unusedSimpArgs false in
set_option maxRecDepth 100000 in
set_option maxHeartbeats 4000000 in
theorem back1_in (NN : Nat) (hNN : 1 ≤ NN) (l B : Nat) (a : Option Addr) (n cap : Nat) (fn : Nat → Int) (us : Nat → Value) (w : World) (hp : WCells w a n fn us) (hn : n ≤ 281474976710656)
    (J Jx : List (Fin n) → World → Prop) (W : World)
    (hY : ∀ pre x W1, J pre W1 → pre.length < n → YieldAt Fence.wide (NN - 1) Try.prog l (encK n fn us x.1) W1 fun e W' =>
      (e = .returned (.bool true) ∧ J (pre ++ [x]) W' ∧ KpB w.heap.size B B W1 W') ∨ (e = .returned (.bool false) ∧ Jx (pre ++ [x]) W'))
    (hb : Below w.heap.size w W) (hl : Boxed W B 28 (.slice a n cap)) (h0 : J [] W) :
    CallsIn Fence.wide NN Try.prog 103 #[.func (.yield l) #[] #[], .pointer (some ⟨B, 0, none⟩)] W fun e W' => (∃ v, e = .returned v) ∧
      ((∃ xs, xs = List.finRange n ∧ J xs W') ∨ (∃ pre, pre <+: List.finRange n ∧ Jx pre W')) := by
  refine callsIn_of_wp Try.func103 rfl trivial ?_ rfl
  simp only [Try.ntmps103, List.size_toArray, List.length_cons, List.length_nil, Nat.reduceAdd, Nat.reduceSub, Array.replicate_succ, Array.replicate_zero, List.push_toArray, List.append_toArray, List.nil_append, List.cons_append]
  have cl := hl.cell
  have hw0 : IntKind.i64.wrap ((n : Int) - 1) = (n : Int) - 1 := by rw [IntKind.wrap_i64]; omega
  gi_wp2
  gi_loopw [3] (fun i wr => ∃ (j : Nat), j ≤ n ∧ i = .int .i64 ((n : Int) - 1 - j) ∧ J ((List.finRange n).take j) wr ∧ KpB w.heap.size B B W wr) (fun i _ => ((intOf i) + 1).toNat)
  case atStart => exact ⟨0, Nat.zero_le _, by simp, h0, KpB.refl _ _ _ _⟩
  case round =>
    obtain ⟨j, hj, rfl, hJs, hk⟩ := hrel
    by_cases hlt : j < n
    · have hbw : Below w.heap.size w wr := hb.trans hk.below
      obtain ⟨b1, o1, rfl, hb1, hd1⟩ := (hp.below hbw) (by omega)
      obtain ⟨x0, x1, xo⟩ := hd1 (n - 1 - j) (by omega)
      have cl' := (Boxed.kpl hl hk).cell
      have ei : (n : Int) - 1 - j = ((n - 1 - j : Nat) : Int) := by omega
      have hfl : ((List.finRange n).take j).length < n := by rw [fin_len hj]; exact hlt
      have HU : Hid ((List.finRange n).take (j + 1) = (List.finRange n).take j ++ [⟨j, hlt⟩]) := fin_take hlt
      obtain ⟨fn', tmps, assign, body, hy, hR⟩ := hY ((List.finRange n).take j) ⟨j, hlt⟩ wr hJs hfl
      dsimp only [encK] at hy
      have hw1 : IntKind.i64.wrap (((n - 1 - j : Nat) : Int) - 1) = ((n - 1 - j : Nat) : Int) - 1 := by rw [IntKind.wrap_i64]; omega
      have e2 : ((n - 1 - j : Nat) : Int) - 1 = (n : Int) - 1 - ((j + 1 : Nat) : Int) := by omega
      have hin : n - 1 - j < n := by omega
      rw [ei]
      obtain ⟨p, hpp⟩ : ∃ p, Hid (n - 1 - j = p) := ⟨_, rfl⟩
      rw [hpp.out] at x0 x1 xo hy hw1 e2 hin ⊢
      have HE2 : Hid ((p : Int) - 1 = (n : Int) - 1 - ((j + 1 : Nat) : Int)) := e2
      have hpz : (p : Int) < (n : Int) := by omega
      obtain ⟨z, hz⟩ : ∃ z, Hid (fn p = z) := ⟨_, rfl⟩
      obtain ⟨u, hu⟩ : ∃ u, Hid (us p = u) := ⟨_, rfl⟩
      rw [hz.out] at x0 hy
      rw [hu.out] at x1 xo hy
      clear hd1 cl hJs ei e2
      gi_wp2
      refine hR.mono ?_
      rintro e W3 (⟨rfl, hJ3, hk3⟩ | ⟨rfl, hJx3⟩)
      · clear hy hR x0 x1 cl'
        have hJ4 : Hid (J ((List.finRange n).take (j + 1)) W3) := by show J _ W3; rw [HU.out]; exact hJ3
        have HP : Hid (p + j + 1 = n) := by show _ = _; have := hpp.out; omega
        clear hJ3 hpp
        gi_wp2
        go_roundw
        case rel => exact ⟨j + 1, by omega, by rw [HE2.out], hJ4.out, hk.trans hk3⟩
        case measure => simp [intOf]; try omega
      · have hJ4 : Hid (Jx ((List.finRange n).take (j + 1)) W3) := by show Jx _ W3; rw [HU.out]; exact hJx3
        clear hy hR x0 x1 cl' hJx3
        gi_wp2
        refine bodyPost_ret (results_none rfl _ _ _) rfl ?_
        exact ⟨⟨_, rfl⟩, .inr ⟨_, List.take_prefix _ _, hJ4.out⟩⟩
    · obtain rfl : j = n := by omega
      have hJe : Hid (J (List.finRange j) wr) := by
        show J _ wr
        have e : (List.finRange j).take j = List.finRange j := List.take_of_length_le (by simp)
        rw [← e]; exact hJs
      have hz : ¬ (0 : Int) ≤ (j : Int) - 1 - j := by omega
      clear hJs
      gi_wp2
      go_end0
      first
        | exact ⟨⟨_, rfl⟩, .inl hJe.out⟩
        | exact ⟨⟨_, rfl⟩, .inl ⟨_, rfl, hJe.out⟩⟩

theorem back_stops (NN : Nat) (hNN : 1 ≤ NN) (B : Nat) (a : Option Addr) (n cap : Nat) (fn : Nat → Int) (us : Nat → Value) (w : World) (hp : WCells w a n fn us) (hn : n ≤ 281474976710656)
    (W0 : World) (hb : Below w.heap.size w W0) (hl : Boxed W0 B 28 (.slice a n cap)) :
    SeqStopsK Fence.wide NN Try.prog 103 #[.pointer (some ⟨B, 0, none⟩)] (fun x : Fin n => encK n fn us x.1) (KpB w.heap.size B B) (fun xs => xs = List.finRange n) (fun pre => pre <+: List.finRange n) n W0 :=
  fun l J Jx W hW _ _ hY h0 => back1_in NN hNN l B a n cap fn us w hp hn J Jx W hY (hb.trans (hW.mono hb.size)) (Boxed.below' hl hW) h0

set_option maxHeartbeats 1000000 in
/-- slices.Backward boxes its argument. -/
theorem backward_in (NN : Nat) (a : Option Addr) (n cap : Nat) (w : World) :
    CallsIn Fence.wide NN Try.prog 87 #[.slice a n cap] w fun e w' => e = .returned (.func (.func 103) #[] #[.pointer (some ⟨w.heap.size, 0, none⟩)]) ∧ w' = w.alloc (.cells #[.slice a n cap] 28) := by
  refine callsIn_of_wp Try.func87 rfl trivial ?_ rfl
  simp only [Try.ntmps87, List.size_toArray, List.length_cons, List.length_nil, Nat.reduceAdd, Nat.reduceSub, Array.replicate_succ, Array.replicate_zero, List.push_toArray, List.append_toArray, List.nil_append, List.cons_append]
  gi_wp2
  go_ret
  exact ⟨rfl, rfl⟩
end Go.Proofs.Ytdjaiappaghfnaa

