/-
  Rows of a disk that grow: what an append turns, and what it leaves.
-/
import Derived.Test.YtagjgnephaaehaaDiskMark4
import Derived.Test.YtagjgnephaaehaaPutBOpt
namespace Go.Proofs.Ytagjgnephaaehaa
open Go.RowKit
set_option maxRecDepth 4000

theorem keep_grown {w w' : World} {base T c n : Nat} {v : Value} {xs : List Value} (h : w.ownsRow base T c v n xs) (hg : w.grownBy w' v.ownBlock) : KeepT (fun t => t = T) w w' := by
  intro b cur t z hb ht
  refine hg.block b (Array.getElem?_eq_some_iff.1 hb).1 (fun e => ?_)
  rcases h.2 with ⟨rfl, _⟩ | ⟨g, cap, cur', rfl, _, hg', _⟩
  · cases e
  · cases e
    rw [hg'] at hb
    cases hb
    exact ht rfl
theorem own_geK {W : World} {base T c N : Nat} {v : Value} {xs : List Value} (h : W.ownsRow base T c v N xs) : ∀ j, v.ownBlock = some j → base ≤ j := by
  intro j hj
  rcases h.2 with ⟨rfl, _⟩ | ⟨g, cap, cur, rfl, hb, _⟩
  · cases hj
  · cases hj; exact hb
theorem own_succK {W : World} {base T c k : Nat} {v : Value} {xs : List Value} (h : W.ownsRow base T c v (k + 1) xs) : ∃ g cap, v = .slice (some ⟨g, 0, none⟩) (k + 1) cap := by
  rcases h.2 with ⟨_, h0⟩ | ⟨g, cap, cur, e, _⟩
  · omega
  · exact ⟨g, cap, e⟩
theorem own_upK {W W' : World} {base T c N : Nat} {v : Value} {xs : List Value} (h : W.ownsRow base T c v N xs) (hu : Up base W W') : W'.ownsRow base T c v N xs := by
  refine ⟨h.1, ?_⟩
  rcases h.2 with h0 | ⟨g, cap, cur, e, hb, hg, hr⟩
  · exact .inl h0
  · exact .inr ⟨g, cap, cur, e, hb, (hu.2 g hb (Array.getElem?_eq_some_iff.1 hg).1).trans hg, hr⟩
theorem own_keepT {P : TypeId → Prop} {W W' : World} {base T c N : Nat} {v : Value} {xs : List Value} (h : W.ownsRow base T c v N xs) (hu : KeepT P W W') (hT : ¬ P T) : W'.ownsRow base T c v N xs := by
  refine ⟨h.1, ?_⟩
  rcases h.2 with h0 | ⟨g, cap, cur, e, hb, hg, hr⟩
  · exact .inl h0
  · exact .inr ⟨g, cap, cur, e, hb, (hu g _ _ _ hg hT).trans hg, hr⟩
theorem own_monoK {W : World} {base base' T c N : Nat} {v : Value} {xs : List Value} (h : W.ownsRow base T c v N xs) (hB : base' ≤ base) : W.ownsRow base' T c v N xs := by
  refine ⟨h.1, ?_⟩
  rcases h.2 with h0 | ⟨g, cap, cur, e, hb, hr⟩
  · exact .inl h0
  · exact .inr ⟨g, cap, cur, e, Nat.le_trans hB hb, hr⟩
theorem own_rl {W : World} {base T c N : Nat} {v : Value} {xs : List Value} (h : W.ownsRow base T c v N xs) : ∃ a cap, v = .slice a N cap ∧ N ≤ cap ∧ (a = none → cap = 0) ∧ RL T W base a xs := by
  rcases h.2 with ⟨rfl, rfl⟩ | ⟨g, cap, cur, rfl, hb, hg, hnc, _, _, ht⟩
  · refine ⟨none, 0, rfl, Nat.le_refl _, fun _ => rfl, .inl ?_⟩
    have := h.1
    rw [Nat.zero_mul] at this
    exact List.eq_nil_of_length_eq_zero this
  · refine ⟨_, cap, rfl, hnc, (fun e => by cases e), .inr ⟨g, cur, rfl, hb, hg, fun i u hi => ?_⟩⟩
    rw [← ht, List.getElem?_take] at hi
    split at hi
    · simpa using hi
    · cases hi
theorem own_nilK (W : World) (base T c : Nat) : W.ownsRow base T c (.slice none 0 0) 0 [] := ⟨by simp, .inl ⟨rfl, rfl⟩⟩
theorem own_emptyK (w : World) (T c : Nat) : (w.alloc (.cells #[] T)).ownsRow w.heap.size T c (.slice (some ⟨w.heap.size, 0, none⟩) 0 0) 0 [] := World.ownsRow_lit (base := w.heap.size) (e := T) (size := c) w #[] 0 (Nat.le_refl _) (Nat.zero_le _) (by simp)
/-- Bytes that were put into a new row. -/
theorem ob_of_own {w : World} {B g n c : Nat} {l : List Int} (h : w.ownsRow B 5 1 (.slice (some ⟨g, 0, none⟩) n c) n (bl l)) (hn : n = l.length) (hb : ∀ x ∈ l, 0 ≤ x ∧ x ≤ 255) : OB w B (.slice (some ⟨g, 0, none⟩) n c) l := by
  subst hn
  rcases h.2 with ⟨e, _⟩ | ⟨g', cap, cur, e, hB, hg, hnc, _, hcs, ht⟩
  · cases e
  · cases e
    refine ⟨_, c, rfl, hnc, (fun e => by cases e), hb, .inr ⟨g, rfl, hB, cur, hg, by omega, fun i hi => ?_⟩⟩
    have h1 : (bl l)[i]? = some (.int .u8 (bf l i)) := by simp [bl, bf, hi]
    rw [← ht, List.getElem?_take, if_pos (by omega)] at h1
    simpa using h1
theorem lv_bytes {w : World} {a : Option Addr} {c : Nat} {l : List Int} (h : View w a l.length c (bf l)) : ∀ x ∈ l, 0 ≤ x ∧ x ≤ 255 := by
  intro x hx
  obtain ⟨i, hi, rfl⟩ := List.getElem_of_mem hx
  have := h.byte i hi
  have e : bf l i = l[i] := by simp [bf, hi]
  rw [e] at this
  exact this

/-- The program's putBytes with nothing behind. -/
theorem putSec_any (a : Option Addr) (c : Nat) (l : List Int) (w : World) (hv : View w a l.length c (bf l)) (hn : a = none → c = 0) (hl : l.length ≤ 1048576) :
    Calls Try.prog 46 #[.slice a l.length c, .slice none 0 0] w fun e w' => e = .returned (.slice (some ⟨w.heap.size, 0, none⟩) l.length l.length) ∧ OB w' w.heap.size (.slice (some ⟨w.heap.size, 0, none⟩) l.length l.length) l ∧ Below w.heap.size w w' ∧ w.heap.size < w'.heap.size := by
  have h0 : View w none 0 0 (fun _ => 0) := ⟨Nat.le_refl _, fun i hi => absurd hi (Nat.not_lt_zero _), fun h => absurd h (Nat.lt_irrefl _)⟩
  refine (putBytes_opt a l.length c (bf l) none 0 0 (fun _ => 0) w hv (fun e => by have := hn e; have := hv.le; omega) h0 (fun _ => ⟨rfl, rfl⟩) (by omega)).mono ?_
  rintro e w' ⟨rfl, hO, hb⟩
  simp only [Nat.add_zero, lof_bf] at hO
  have e0 : lof 0 (fun _ => 0) = [] := rfl
  rw [e0, List.append_nil] at hO
  refine ⟨rfl, ob_of_own hO rfl (lv_bytes hv), hb, ?_⟩
  rcases hO.2 with ⟨e, _⟩ | ⟨g', cap, cur, e, hB, hg, _⟩
  · cases e
  · cases e; exact (Array.getElem?_eq_some_iff.1 hg).1

set_option maxHeartbeats 2000000 in
/-- slices.Clone of faults. -/
theorem cloneFaults_any (a : Option Addr) (cap : Nat) (l : List PFault) (w : World) (h : FView w a cap l) (hn : l.length ≤ 1048576) :
    Calls Try.prog 45 #[.slice a l.length cap] w fun e w' => ∃ fa fc, e = .returned (.slice fa l.length fc) ∧ l.length ≤ fc ∧ (fa = none → fc = 0) ∧ RL 63 w' w.heap.size fa (fcells l) ∧ Below w.heap.size w w' := by
  obtain ⟨i0, hi, hz0, hz1, hz2⟩ := infoFault
  cases a with
  | none =>
    have hc := h.nil rfl
    have hl0 : l.length = 0 := by have := h.le; omega
    have hl : l = [] := List.eq_nil_of_length_eq_zero hl0
    subst hl
    subst hc
    have he : ∀ W : World, (binOp .eql 29 (.slice none 0 0) (.slice none 0 0)).run Try.prog W = .ok (.bool true) W := by intro W; kernel_rfl
    go_enter Try.func45, Try.ntmps45
    go_wp2
    go_ret
    exact ⟨none, 0, rfl, Nat.le_refl _, fun _ => rfl, .inl rfl, Below.refl _ _⟩
  | some ad =>
    have hbE : Below w.heap.size w (w.alloc (.cells #[] 63)) := (Below.refl _ _).alloc (Nat.le_refl _) _
    have hO0 := own_emptyK w 63 3
    have hcl : ∀ j u, (fcells l)[j]? = some u → (w.alloc (.cells #[] 63)).cell? (ad.add j) = some u := by
      intro j u hj
      have hlen : j < l.length * 3 := by rw [← fcells_len]; exact (List.getElem?_eq_some_iff.1 hj).1
      obtain ⟨b, off, e, hlt, hc⟩ := h.cells (by omega)
      cases e
      have ea : (⟨b, off, none⟩ : Addr).add j = ⟨b, off + j, none⟩ := by unfold Addr.add; split <;> simp_all
      rw [ea, hbE.cell (p := ⟨b, off + j, none⟩) hlt]
      have hq : j = j / 3 * 3 + j % 3 := by omega
      have hi3 : j / 3 < l.length := by omega
      obtain ⟨us, rfl, hus⟩ := hc (j / 3) l[j / 3] (List.getElem?_eq_getElem hi3)
      have h1 := fcells_at (l := l) (j / 3) (j % 3) (by omega)
      rw [← hq, hj, List.getElem?_eq_getElem hi3] at h1
      have h2 := hus (j % 3) u h1.symm
      have e3 : off + j / 3 * 3 + j % 3 = off + j := by omega
      rw [e3] at h2
      exact h2
    have hone : ∀ u ∈ fcells l, u.oneCell' = true := by
      intro u hu
      simp only [fcells, List.mem_flatMap] at hu
      obtain ⟨x, -, hx⟩ := hu
      simp [fEl] at hx
      rcases hx with rfl | rfl | rfl <;> rfl
    clear h
    have he : ∀ W : World, (binOp .eql 29 (.slice (some ad) l.length cap) (.slice none 0 0)).run Try.prog W = .ok (.bool false) W := by intro W; kernel_rfl
    go_enter Try.func45, Try.ntmps45
    go_wp2_with (at_builtin; refine wpList_append_own _ rfl (.tmp 5) (.tmp 6) 29 rfl w.heap.size 63 i0 (.agg #[.int .i64 0, .int .i64 0, .int .i64 0]) 3 24 Try.underlying29 hi hz0 hz1 hz2 rfl (by decide) _ _ _ rfl hO0 ad l.length cap (fcells l) rfl (fcells_len l) hcl hone (by unfold maxLen; omega) (by omega) (by simp) ?_)
    intro v5 w2 hown5 hgr hnil
    obtain ⟨fa, fc, rfl, h1, h2, h3⟩ := own_rl hown5
    have HR : Hid (RL 63 w2 w.heap.size fa (fcells l) ∧ Below w.heap.size w w2) := ⟨h3, hbE.grown hgr (by simp) (own_geK hO0)⟩
    clear hown5 hgr hnil hO0 hcl hone hbE h3
    go_wp2
    go_ret
    exact ⟨fa, fc, rfl, h1, h2, HR.out.1, HR.out.2⟩
/-- Three variables of disks: what came in, the answer, the new one. -/
structure TC (w W : World) (xs zs ys : List Value) : Prop where
  below : Below w.heap.size w W
  size : w.heap.size + 3 ≤ W.heap.size
  a : VN W w.heap.size 31 xs
  r : VN W (w.heap.size + 1) 31 zs
  o : VN W (w.heap.size + 1 + 1) 31 ys
theorem tc_new (w : World) (xs zs ys : List Value) : TC w (((w.alloc (.cells ⟨xs⟩ 31)).alloc (.cells ⟨zs⟩ 31)).alloc (.cells ⟨ys⟩ 31)) xs zs ys := by
  have V0 := VN.new w 31 xs
  have V1 := VN.new (w.alloc (.cells ⟨xs⟩ 31)) 31 zs
  have V2 := VN.new ((w.alloc (.cells ⟨xs⟩ 31)).alloc (.cells ⟨zs⟩ 31)) 31 ys
  simp only [alloc_sizeK] at V1 V2
  refine ⟨(((Below.refl _ _).alloc (Nat.le_refl _) _).alloc (by simp) _).alloc (by simp; omega) _, by simp, (V0.below ((Below.refl _ _).alloc (Nat.le_refl _) _)).below ((Below.refl _ _).alloc (Nat.le_refl _) _), V1.below ((Below.refl _ _).alloc (Nat.le_refl _) _), V2⟩
theorem TC.under {w W W' : World} {xs zs ys : List Value} (h : TC w W xs zs ys) (hb : Below (w.heap.size + 3) W W') : TC w W' xs zs ys :=
  ⟨h.below.trans (hb.mono (by omega)), Nat.le_trans h.size hb.size, h.a.block (hb.block _ (by omega)), h.r.block (hb.block _ (by omega)), h.o.block (hb.block _ (by omega))⟩
theorem TC.on {w W W' : World} {xs zs ys : List Value} (h : TC w W xs zs ys) (hb : Below W.heap.size W W') : TC w W' xs zs ys := h.under (hb.mono h.size)
theorem TC.grow {w W W' : World} {xs zs ys : List Value} {row : Option Nat} (h : TC w W xs zs ys) (hg : W.grownBy W' row) (hr : ∀ k, row = some k → w.heap.size + 1 + 1 + 1 ≤ k) : TC w W' xs zs ys := h.under ((Below.refl _ _).grown hg h.size (fun k e => by have := hr k e; omega))
theorem TC.drew {w W : World} {xs zs ys : List Value} (h : TC w W xs zs ys) : TC w W.drew xs zs ys := h.on (Below.refl _ _).drew
theorem TC.set {w W : World} {xs zs ys : List Value} (h : TC w W xs zs ys) (i : Nat) (u : Value) : TC w (W.setCell ⟨w.heap.size + 1 + 1, i, none⟩ u) xs zs (ys.set i u) :=
  ⟨h.below.setCell (p := ⟨w.heap.size + 1 + 1, i, none⟩) (by simp; omega) _, by simpa using h.size, h.a.other (by omega), h.r.other (by omega), h.o.set i u⟩
theorem TC.ret {w W : World} {xs zs ys : List Value} (h : TC w W xs zs ys) (i : Nat) (u : Value) : TC w (W.setCell ⟨w.heap.size + 1, i, none⟩ u) xs (zs.set i u) ys :=
  ⟨h.below.setCell (p := ⟨w.heap.size + 1, i, none⟩) (by simp) _, by simpa using h.size, h.a.other (by omega), h.r.set i u, h.o.other (by omega)⟩
theorem TC.cells {w W : World} {x0 x1 x2 x3 x4 : Value} {zs : List Value} {y0 y1 y2 y3 y4 : Value} (h : TC w W [x0, x1, x2, x3, x4] zs [y0, y1, y2, y3, y4]) :
    (W.cell? ⟨w.heap.size, 0, none⟩ = some x0 ∧ W.cell? ⟨w.heap.size, 1, none⟩ = some x1 ∧ W.cell? ⟨w.heap.size, 2, none⟩ = some x2 ∧ W.cell? ⟨w.heap.size, 3, none⟩ = some x3 ∧ W.cell? ⟨w.heap.size, 4, none⟩ = some x4)
    ∧ (W.cell? ⟨w.heap.size + 1 + 1, 0, none⟩ = some y0 ∧ W.cell? ⟨w.heap.size + 1 + 1, 1, none⟩ = some y1 ∧ W.cell? ⟨w.heap.size + 1 + 1, 2, none⟩ = some y2 ∧ W.cell? ⟨w.heap.size + 1 + 1, 3, none⟩ = some y3 ∧ W.cell? ⟨w.heap.size + 1 + 1, 4, none⟩ = some y4)
    ∧ ∀ i, W.frozen? ⟨w.heap.size + 1 + 1, i, none⟩ = false :=
  ⟨⟨h.a.cell 0, h.a.cell 1, h.a.cell 2, h.a.cell 3, h.a.cell 4⟩, ⟨h.o.cell 0, h.o.cell 1, h.o.cell 2, h.o.cell 3, h.o.cell 4⟩, fun i => h.o.fz i⟩
theorem TC.rcells {w W : World} {xs : List Value} {y0 y1 y2 y3 y4 : Value} {ys : List Value} (h : TC w W xs [y0, y1, y2, y3, y4] ys) :
    (W.cell? ⟨w.heap.size + 1, 0, none⟩ = some y0 ∧ W.cell? ⟨w.heap.size + 1, 1, none⟩ = some y1 ∧ W.cell? ⟨w.heap.size + 1, 2, none⟩ = some y2 ∧ W.cell? ⟨w.heap.size + 1, 3, none⟩ = some y3 ∧ W.cell? ⟨w.heap.size + 1, 4, none⟩ = some y4)
    ∧ ∀ i, W.frozen? ⟨w.heap.size + 1, i, none⟩ = false :=
  ⟨⟨h.r.cell 0, h.r.cell 1, h.r.cell 2, h.r.cell 3, h.r.cell 4⟩, fun i => h.r.fz i⟩
end Go.Proofs.Ytagjgnephaaehaa
