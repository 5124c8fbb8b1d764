/-
  NodeCopyS
-/
import Derived.Test.YtofghefenfdlpaaCh3
import Derived.Test.YtofghefenfdlpaaCh4
import Derived.Laws.OwnMore
/-
  The model's copy of a node.
-/
namespace Go.Proofs.Ytofghefenfdlpaa
open Go.RowKit
set_option maxRecDepth 4000

theorem wp_append_opt14 {w : World} {o : Oper} {a : Act} {K : Act → World → Prop} {Q : Exit → Act → World → Prop} (s x : Operand) (t : TypeId)
    (ho : o.op = .call { callee := .builtin .append, args := #[s, x], argTypes := #[t, t] })
    (base : Nat) (e : TypeId) (i : TypeInfo) (z : Value) (size bytes : Nat) (ht : Try.prog.underlying t = some (.slice e)) (hi : Try.prog.info? e = some i) (hz : i.zero = some z)
    (hsize : i.size = size) (hby : i.bytes = bytes) (hzs : z.cells.size = size) (hsz : 0 < size)
    (v : Value) (n : Nat) (xs : List Value) (hs : a.eval s = v) (hown : w.ownsRow base e size v n xs)
    (ao : Option Addr) (m c : Nat) (news : List Value) (hx : a.eval x = .slice ao m c) (hno : ao = none → m = 0 ∧ c = 0) (hl : news.length = m * size) (hnews : ∀ ad, ao = some ad → ∀ j u, news[j]? = some u → w.cell? (ad.add j) = some u) (h1 : ∀ u ∈ news, u.oneCell' = true)
    (h63 : n + m ≤ maxLen) (hbytes : (n + m) * bytes ≤ 140737488355328) (hbase : base ≤ w.heap.size)
    (h : ∀ v' w', w'.ownsRow base e size v' (n + m) (xs ++ news) → w.grownBy w' v.ownBlock → K (a.put o.dst v') w') : o.wp Try.prog a w K Q := by
  cases ao with
  | some ad => exact wp_append_own w s x t ho base e i z size bytes ht hi hz hsize hby hzs hsz v n xs hs hown ad m c news hx hl (hnews ad rfl) h1 h63 hbytes hbase (fun v' w' h2 h3 _ => h v' w' h2 h3)
  | none =>
    obtain ⟨rfl, rfl⟩ := hno rfl
    have hn : news = [] := List.eq_nil_of_length_eq_zero (by simpa using hl)
    subst hn
    have hrun := run_append_owned_none (P := Try.prog) (w := w) base t o.type e i size ht hi v n xs hown
    have hk := h v w (by simpa using hown) ⟨rfl, rfl, rfl, Nat.le_refl _, fun _ _ _ => rfl⟩
    unfold Oper.wp
    simp [execOp, ho, resolve, invoke, builtin, hs, hx, hrun, Result.andThen]
    exact hk
theorem own_empty {W : World} {g T : Nat} (h : W.heap[g]? = some (.cells #[] T (0, 0))) : W.ownsRow g T 1 (.slice (some ⟨g, 0, none⟩) 0 0) 0 [] :=
  ⟨rfl, .inr ⟨g, 0, #[], rfl, Nat.le_refl _, h, Nat.le_refl _, Nat.zero_le _, rfl, rfl⟩⟩
/-- What reads, while a row that was empty turns. -/
theorem OV.grownE {W W' : World} {a : Option Addr} {n c g T : Nat} {f : Nat → Value} {k m : Nat} (h : OV W a n c f) (hg : W.grownBy W' (Value.slice (some ⟨g, 0, none⟩) k m).ownBlock) (he : W.heap[g]? = some (.cells #[] T (0, 0))) : OV W' a n c f := by
  refine ⟨h.le, fun hn => ?_⟩
  obtain ⟨b, off, e, hlt, hc⟩ := h.cells hn
  have hne : b ≠ g := by
    rintro rfl
    have h0 := hc 0 hn
    simp [World.cell?, he] at h0
  refine ⟨b, off, e, Nat.lt_of_lt_of_le hlt hg.size, fun i hi => ?_⟩
  rw [World.cell?_of_block (w := W) (a := ⟨b, off + i, none⟩) (hg.block b hlt (fun e => hne (by simpa [Value.ownBlock] using e)))]
  exact hc i hi
theorem OV.belowQ {W W' : World} {a : Option Addr} {n c : Nat} {f : Nat → Value} {P : Prop} (h : OV W a n c f ∧ P) (hb : Below W.heap.size W W') : OV W' a n c f ∧ P := ⟨h.1.below hb, h.2⟩
/-- A slice that is copied. -/
structure Src (w : World) (a : Option Addr) (c n : Nat) (xs : List Value) : Prop where
  nil : a = none → n = 0 ∧ c = 0
  news : ∀ {W : World}, Below w.heap.size w W → ∀ ad, a = some ad → ∀ j u, xs[j]? = some u → W.cell? (ad.add j) = some u
  one : ∀ u ∈ xs, u.oneCell' = true
theorem Src.of {w : World} {a : Option Addr} {n c : Nat} {F : Nat → Value} {xs : List Value} (h : OV w a n c F) (hn : a = none → c = 0) (hx : ∀ j u, xs[j]? = some u → j < n ∧ u = F j) (h1 : ∀ u ∈ xs, u.oneCell' = true) : Src w a c n xs := by
  refine ⟨fun e => ⟨by have := h.le; have := hn e; omega, hn e⟩, fun {W} hb ad e j u hj => ?_, h1⟩
  obtain ⟨hjn, rfl⟩ := hx j u hj
  obtain ⟨b, off, e2, hlt, hc⟩ := (h.below hb).cells (by omega)
  rw [e] at e2
  cases e2
  have ea : (⟨b, off, none⟩ : Addr).add j = ⟨b, off + j, none⟩ := by unfold Addr.add; split <;> simp_all
  rw [ea]
  exact hc j hjn
/-- The variables of the copy. -/
structure TCp (w W : World) (x0 x1 x2 x3 : Value) : Prop where
  bel : Below w.heap.size w W
  a : V4 W w.heap.size 27 x0 x1 x2 x3
  r : V4 W (w.heap.size + 1) 27 (.bool false) (.slice none 0 0) (.slice none 0 0) (.slice none 0 0)
theorem TCp.cells {w W : World} {x0 x1 x2 x3 : Value} (h : TCp w W x0 x1 x2 x3) : W.cell? ⟨w.heap.size, 0, none⟩ = some x0 ∧ W.cell? ⟨w.heap.size, 1, none⟩ = some x1 ∧ W.cell? ⟨w.heap.size, 2, none⟩ = some x2 ∧ W.cell? ⟨w.heap.size, 3, none⟩ = some x3 := h.a.cells
theorem TCp.on {w W W' : World} {x0 x1 x2 x3 : Value} (h : TCp w W x0 x1 x2 x3) (hb : Below W.heap.size W W') : TCp w W' x0 x1 x2 x3 := ⟨h.bel.trans (hb.mono h.bel.size), h.a.below hb, h.r.below hb⟩
theorem TCp.grow {w W W' : World} {x0 x1 x2 x3 : Value} {row : Option Nat} (h : TCp w W x0 x1 x2 x3) (hg : W.grownBy W' row) (hr : ∀ j, row = some j → w.heap.size + 1 < j) : TCp w W' x0 x1 x2 x3 :=
  ⟨h.bel.grown hg h.bel.size (fun j e => by have := hr j e; omega), h.a.grownN hg (fun e => by have := hr _ e; omega), h.r.grownN hg (fun e => by have := hr _ e; omega)⟩

set_option maxHeartbeats 16000000 in
theorem l14Copy_any (L : NL) (kv vv dv : Value) (w : World) (hV : RV3 w kv vv dv L) (hSm : Small 100 L) :
    Calls Try.prog 46 #[.agg #[.bool L.leaf, kv, vv, dv]] w fun e w' => ∃ k2 v2 d2 : Value, e = .returned (.agg #[.bool L.leaf, k2, v2, d2]) ∧ RV3 w' k2 v2 d2 L ∧ Below w.heap.size w w' := by
  obtain ⟨i0, hi, hz0, hz1, hz2⟩ := infoTxt
  obtain ⟨j0, hj, hy0, hy1, hy2⟩ := infoNum
  obtain ⟨⟨ka, kc, ek, hk1, hk2⟩, ⟨va, vc, ev, hv1, hv2⟩, ⟨da, dc, ed, hd1, hd2⟩⟩ := hV
  subst ek ev ed
  have hnk := hSm.nk
  have hnv := hSm.nv
  have hnd := hSm.nd
  have HK : Hid (Src w ka kc L.ks.length (txc L.ks)) := Src.of hk1 hk2 (fun j u h => by
    obtain ⟨s, hs, rfl⟩ := Option.map_eq_some_iff.1 (by simpa [txc] using h : (L.ks[j]?).map Value.string = some u)
    have := (List.getElem?_eq_some_iff.1 hs).1
    exact ⟨this, by simp [NL.pn, List.getD, hs]⟩) (fun u hu => by simp only [txc, List.mem_map] at hu; obtain ⟨s, -, rfl⟩ := hu; rfl)
  have HV : Hid (Src w va vc L.vs.length (txc L.vs)) := Src.of hv1 hv2 (fun j u h => by
    obtain ⟨s, hs, rfl⟩ := Option.map_eq_some_iff.1 (by simpa [txc] using h : (L.vs[j]?).map Value.string = some u)
    have := (List.getElem?_eq_some_iff.1 hs).1
    exact ⟨this, by simp [NL.pn, List.getD, hs]⟩) (fun u hu => by simp only [txc, List.mem_map] at hu; obtain ⟨s, -, rfl⟩ := hu; rfl)
  have HD : Hid (Src w da dc L.ds.length (nuc L.ds)) := Src.of hd1 hd2 (fun j u h => by
    obtain ⟨s, hs, rfl⟩ := Option.map_eq_some_iff.1 (by simpa [nuc] using h : (L.ds[j]?).map (Value.int .i64) = some u)
    have := (List.getElem?_eq_some_iff.1 hs).1
    exact ⟨this, by simp [NL.pn, List.getD, hs]⟩) (fun u hu => by simp only [nuc, List.mem_map] at hu; obtain ⟨s, -, rfl⟩ := hu; rfl)
  clear hk1 hk2 hv1 hv2 hd1 hd2 hSm
  have hb1 : Below w.heap.size w (w.alloc (.cells #[.bool L.leaf, (.slice ka L.ks.length kc), (.slice va L.vs.length vc), (.slice da L.ds.length dc)] 27)) := (Below.refl _ _).alloc (Nat.le_refl _) _
  have hb2 : Below (w.alloc (.cells #[.bool L.leaf, (.slice ka L.ks.length kc), (.slice va L.vs.length vc), (.slice da L.ds.length dc)] 27)).heap.size (w.alloc (.cells #[.bool L.leaf, (.slice ka L.ks.length kc), (.slice va L.vs.length vc), (.slice da L.ds.length dc)] 27)) ((w.alloc (.cells #[.bool L.leaf, (.slice ka L.ks.length kc), (.slice va L.vs.length vc), (.slice da L.ds.length dc)] 27)).alloc (.cells #[.bool false, .slice none 0 0, .slice none 0 0, .slice none 0 0] 27)) := (Below.refl _ _).alloc (Nat.le_refl _) _
  have hA := (V4.new w 27 (.bool L.leaf) (.slice ka L.ks.length kc) (.slice va L.vs.length vc) (.slice da L.ds.length dc)).below hb2
  have hR := V4.new (w.alloc (.cells #[.bool L.leaf, (.slice ka L.ks.length kc), (.slice va L.vs.length vc), (.slice da L.ds.length dc)] 27)) 27 (.bool false) (.slice none 0 0) (.slice none 0 0) (.slice none 0 0)
  have hsz : (w.alloc (.cells #[.bool L.leaf, (.slice ka L.ks.length kc), (.slice va L.vs.length vc), (.slice da L.ds.length dc)] 27)).heap.size = w.heap.size + 1 := by simp
  rw [hsz] at hR
  have hT : TCp w ((w.alloc (.cells #[.bool L.leaf, (.slice ka L.ks.length kc), (.slice va L.vs.length vc), (.slice da L.ds.length dc)] 27)).alloc (.cells #[.bool false, .slice none 0 0, .slice none 0 0, .slice none 0 0] 27)) (.bool L.leaf) (.slice ka L.ks.length kc) (.slice va L.vs.length vc) (.slice da L.ds.length dc) := ⟨hb1.trans (hb2.mono hb1.size), hA, hR⟩
  clear hb1 hb2 hA hR hsz
  obtain ⟨W0, hW0⟩ : ∃ x, Hid ((w.alloc (.cells #[.bool L.leaf, (.slice ka L.ks.length kc), (.slice va L.vs.length vc), (.slice da L.ds.length dc)] 27)).alloc (.cells #[.bool false, .slice none 0 0, .slice none 0 0, .slice none 0 0] 27) = x) := ⟨_, rfl⟩
  rw [hW0.out] at hT
  go_enter Try.func46, Try.ntmps46
  go_wp2_with fail
  rw [hW0.out]
  clear hW0
  refine wp_region_held_drew (S := fun W => W.cell? ⟨w.heap.size, 0, none⟩ = some (.bool L.leaf) ∧ W.cell? ⟨w.heap.size, 1, none⟩ = some (.slice ka L.ks.length kc) ∧ W.cell? ⟨w.heap.size, 2, none⟩ = some (.slice va L.vs.length vc) ∧ W.cell? ⟨w.heap.size, 3, none⟩ = some (.slice da L.ds.length dc)) (by kernel_rfl) hT.cells (fun hHeld => ?_)
  replace hT := hT.on (Below.refl _ _).drew
  obtain ⟨wd, hwd⟩ : ∃ x, Hid (W0.drew = x) := ⟨_, rfl⟩
  rw [hwd.out] at hT hHeld ⊢
  clear hwd
  refine' wpAnyH_take (i := 0) (v := _) rfl (by kernel_rfl) (by kernel_rfl) (by kernel_rfl) (fun _ _ _ h => h) (Or.inl ⟨by kernel_rfl, ?hcp1⟩) (by assumption) ?rcp1
  case hcp1 => intro W hW; obtain ⟨c0, c1, c2, c3⟩ := hW; go_simp; all_goals with_reducible rfl
  change wpAnyH _ _ _ _ _ _ _ (Act.put _ (some 3) _) _
  simp only [Act.put, List.setIfInBounds_toArray, List.set_cons_zero, List.set_cons_succ]
  refine' wpAnyH_take (i := 1) (v := _) rfl (by kernel_rfl) (by kernel_rfl) (by kernel_rfl) (fun _ _ _ h => h) (Or.inl ⟨by kernel_rfl, ?hcp2⟩) (by assumption) ?rcp2
  case hcp2 => intro W hW; obtain ⟨c0, c1, c2, c3⟩ := hW; go_simp; all_goals with_reducible rfl
  change wpAnyH _ _ _ _ _ _ _ (Act.put _ (some 4) _) _
  simp only [Act.put, List.setIfInBounds_toArray, List.set_cons_zero, List.set_cons_succ]
  refine' wpAnyH_take (i := 3) (v := _) rfl (by kernel_rfl) (by kernel_rfl) (by kernel_rfl) (fun _ _ _ h => h) (Or.inl ⟨by kernel_rfl, ?hcp3⟩) (by assumption) ?rcp3
  case hcp3 => intro W hW; obtain ⟨c0, c1, c2, c3⟩ := hW; go_simp; all_goals with_reducible rfl
  change wpAnyH _ _ _ _ _ _ _ (Act.put _ (some 6) _) _
  simp only [Act.put, List.setIfInBounds_toArray, List.set_cons_zero, List.set_cons_succ]
  refine' wpAnyH_take (i := 4) (v := _) rfl (by kernel_rfl) (by kernel_rfl) (by kernel_rfl) (fun _ _ _ h => h) (Or.inl ⟨by kernel_rfl, ?hcp4⟩) (by assumption) ?rcp4
  case hcp4 => intro W hW; obtain ⟨c0, c1, c2, c3⟩ := hW; go_simp; all_goals with_reducible rfl
  change wpAnyH _ _ _ _ _ _ _ (Act.put _ (some 7) _) _
  simp only [Act.put, List.setIfInBounds_toArray, List.set_cons_zero, List.set_cons_succ]
  refine' wpAnyH_take (i := 7) (v := _) rfl (by kernel_rfl) (by kernel_rfl) (by kernel_rfl) (fun _ _ _ h => h) (Or.inl ⟨by kernel_rfl, ?hcp5⟩) (by assumption) ?rcp5
  case hcp5 => intro W hW; obtain ⟨c0, c1, c2, c3⟩ := hW; go_simp; all_goals with_reducible rfl
  change wpAnyH _ _ _ _ _ _ _ (Act.put _ (some 10) _) _
  simp only [Act.put, List.setIfInBounds_toArray, List.set_cons_zero, List.set_cons_succ]
  refine' wpAnyH_take (i := 8) (v := _) rfl (by kernel_rfl) (by kernel_rfl) (by kernel_rfl) (fun _ _ _ h => h) (Or.inl ⟨by kernel_rfl, ?hcp6⟩) (by assumption) ?rcp6
  case hcp6 => intro W hW; obtain ⟨c0, c1, c2, c3⟩ := hW; go_simp; all_goals with_reducible rfl
  change wpAnyH _ _ _ _ _ _ _ (Act.put _ (some 11) _) _
  simp only [Act.put, List.setIfInBounds_toArray, List.set_cons_zero, List.set_cons_succ]
  refine' wpAnyH_take (i := 11) (v := _) rfl (by kernel_rfl) (by kernel_rfl) (by kernel_rfl) (fun _ _ _ h => h) (Or.inl ⟨by kernel_rfl, ?hcp7⟩) (by assumption) ?rcp7
  case hcp7 => intro W hW; obtain ⟨c0, c1, c2, c3⟩ := hW; go_simp; all_goals with_reducible rfl
  change wpAnyH _ _ _ _ _ _ _ (Act.put _ (some 14) _) _
  simp only [Act.put, List.setIfInBounds_toArray, List.set_cons_zero, List.set_cons_succ]
  refine' wpAnyH_take (i := 12) (v := _) rfl (by kernel_rfl) (by kernel_rfl) (by kernel_rfl) (fun _ _ _ h => h) (Or.inl ⟨by kernel_rfl, ?hcp8⟩) (by assumption) ?rcp8
  case hcp8 => intro W hW; obtain ⟨c0, c1, c2, c3⟩ := hW; go_simp; all_goals with_reducible rfl
  change wpAnyH _ _ _ _ _ _ _ (Act.put _ (some 15) _) _
  simp only [Act.put, List.setIfInBounds_toArray, List.set_cons_zero, List.set_cons_succ]
  refine wpAnyH_ready (rs := [2, 6, 10]) (by kernel_rfl) (by simp) ?_
  refine AllReadyH.cons rfl (fun KK hK => ?_) (AllReadyH.cons rfl (fun KK hK => ?_) (AllReadyH.cons rfl (fun KK hK => ?_) AllReadyH.nil))
  ·
    go_simp
    have hb : Below wd.heap.size wd (wd.alloc (.cells #[] 9)) := (Below.refl _ _).alloc (Nat.le_refl _) _
    have hEk : (wd.alloc (.cells #[] 9)).heap[wd.heap.size]? = some (.cells #[] 9 (0, 0)) := by show (wd.heap.push _)[wd.heap.size]? = _; simp
    have hgek : w.heap.size + 1 < wd.heap.size := hT.r.lt
    replace hT := hT.on hb
    clear hb
    refine hK.out _ _ hT.cells (fun hHeld => ?_)
    clear hK KK
    try simp only [Act.put, List.setIfInBounds_toArray, List.set_cons_zero, List.set_cons_succ]
    obtain ⟨wq1, hwq1⟩ : ∃ x, Hid ((wd.alloc (.cells #[] 9)) = x) := ⟨_, rfl⟩
    obtain ⟨gqk, hgqk⟩ : ∃ x, Hid (wd.heap.size = x) := ⟨_, rfl⟩
    rw [hwq1.out, hgqk.out] at hEk
    rw [hgqk.out] at hgek
    rw [hwq1.out] at hT hHeld ⊢
    try rw [hgqk.out]
    refine wpAnyH_ready (rs := [5, 6, 10]) (by kernel_rfl) (by simp) ?_
    refine AllReadyH.cons rfl (fun KK hK => ?_) (AllReadyH.cons rfl (fun KK hK => ?_) (AllReadyH.cons rfl (fun KK hK => ?_) AllReadyH.nil))
    ·
      rw [if_pos (by kernel_rfl)]
      have hLit : wq1.ownsRow gqk 9 1 (.slice (some ⟨gqk, 0, none⟩) 0 0) 0 [] := own_empty hEk
      refine wp_append_opt14 (.tmp 5) (.tmp 7) 24 rfl gqk 9 i0 (.string ⟨#[]⟩) 1 16 Try.underlying24 hi hz0 hz1 hz2 rfl (by decide) (.slice (some ⟨gqk, 0, none⟩) 0 0) 0 [] rfl hLit ka (L.ks.length) kc (txc L.ks) rfl (fun e => (HK.out.nil e)) (by simp [txc]) (HK.out.news (hT.bel)) (HK.out.one) (by unfold maxLen; omega) (by omega) (Nat.le_of_lt (Array.getElem?_eq_some_iff.1 hEk).1) ?_
      intro v6 wq2 hOa hgra
      simp only [Nat.zero_add, List.nil_append] at hOa
      replace hT := hT.grow hgra (fun j e => by simp only [Value.ownBlock, Option.some.injEq] at e; omega)
      obtain ⟨qka, qkc, eq, hOk⟩ := own_tx hOa
      subst eq
      clear hLit hOa hgra hEk
      refine hK.out _ _ hT.cells (fun hHeld => ?_)
      clear hK KK
      change wpAnyH _ _ _ _ _ _ _ (Act.put _ (some 8) _) _
      try simp only [Act.put, List.setIfInBounds_toArray, List.set_cons_zero, List.set_cons_succ]
      refine wpAnyH_ready (rs := [6, 10]) (by kernel_rfl) (by simp) ?_
      refine AllReadyH.cons rfl (fun KK hK => ?_) (AllReadyH.cons rfl (fun KK hK => ?_) AllReadyH.nil)
      ·
        go_simp
        have hb : Below wq2.heap.size wq2 (wq2.alloc (.cells #[] 9)) := (Below.refl _ _).alloc (Nat.le_refl _) _
        have hEv : (wq2.alloc (.cells #[] 9)).heap[wq2.heap.size]? = some (.cells #[] 9 (0, 0)) := by show (wq2.heap.push _)[wq2.heap.size]? = _; simp
        have hgev : w.heap.size + 1 < wq2.heap.size := hT.r.lt
        replace hOk := OV.belowQ hOk hb
        replace hT := hT.on hb
        clear hb
        refine hK.out _ _ hT.cells (fun hHeld => ?_)
        clear hK KK
        try simp only [Act.put, List.setIfInBounds_toArray, List.set_cons_zero, List.set_cons_succ]
        obtain ⟨wq3, hwq3⟩ : ∃ x, Hid ((wq2.alloc (.cells #[] 9)) = x) := ⟨_, rfl⟩
        obtain ⟨gqv, hgqv⟩ : ∃ x, Hid (wq2.heap.size = x) := ⟨_, rfl⟩
        rw [hwq3.out, hgqv.out] at hEv
        rw [hgqv.out] at hgev
        rw [hwq3.out] at hT hHeld hOk ⊢
        try rw [hgqv.out]
        refine wpAnyH_ready (rs := [9, 10]) (by kernel_rfl) (by simp) ?_
        refine AllReadyH.cons rfl (fun KK hK => ?_) (AllReadyH.cons rfl (fun KK hK => ?_) AllReadyH.nil)
        ·
          rw [if_pos (by kernel_rfl)]
          have hLit : wq3.ownsRow gqv 9 1 (.slice (some ⟨gqv, 0, none⟩) 0 0) 0 [] := own_empty hEv
          refine wp_append_opt14 (.tmp 9) (.tmp 11) 24 rfl gqv 9 i0 (.string ⟨#[]⟩) 1 16 Try.underlying24 hi hz0 hz1 hz2 rfl (by decide) (.slice (some ⟨gqv, 0, none⟩) 0 0) 0 [] rfl hLit va (L.vs.length) vc (txc L.vs) rfl (fun e => (HV.out.nil e)) (by simp [txc]) (HV.out.news (hT.bel)) (HV.out.one) (by unfold maxLen; omega) (by omega) (Nat.le_of_lt (Array.getElem?_eq_some_iff.1 hEv).1) ?_
          intro v6 wq4 hOa hgra
          simp only [Nat.zero_add, List.nil_append] at hOa
          replace hOk := And.intro (hOk.1.grownE hgra hEv) hOk.2
          replace hT := hT.grow hgra (fun j e => by simp only [Value.ownBlock, Option.some.injEq] at e; omega)
          obtain ⟨qva, qvc, eq, hOv⟩ := own_tx hOa
          subst eq
          clear hLit hOa hgra hEv
          refine hK.out _ _ hT.cells (fun hHeld => ?_)
          clear hK KK
          change wpAnyH _ _ _ _ _ _ _ (Act.put _ (some 12) _) _
          try simp only [Act.put, List.setIfInBounds_toArray, List.set_cons_zero, List.set_cons_succ]
          refine wpAnyH_ready (rs := [10]) (by kernel_rfl) (by simp) ?_
          refine AllReadyH.cons rfl (fun KK hK => ?_) AllReadyH.nil
          go_simp
          have hb : Below wq4.heap.size wq4 (wq4.alloc (.cells #[] 3)) := (Below.refl _ _).alloc (Nat.le_refl _) _
          have hEd : (wq4.alloc (.cells #[] 3)).heap[wq4.heap.size]? = some (.cells #[] 3 (0, 0)) := by show (wq4.heap.push _)[wq4.heap.size]? = _; simp
          have hged : w.heap.size + 1 < wq4.heap.size := hT.r.lt
          replace hOk := OV.belowQ hOk hb
          replace hOv := OV.belowQ hOv hb
          replace hT := hT.on hb
          clear hb
          refine hK.out _ _ hT.cells (fun hHeld => ?_)
          clear hK KK
          try simp only [Act.put, List.setIfInBounds_toArray, List.set_cons_zero, List.set_cons_succ]
          obtain ⟨wq5, hwq5⟩ : ∃ x, Hid ((wq4.alloc (.cells #[] 3)) = x) := ⟨_, rfl⟩
          obtain ⟨gqd, hgqd⟩ : ∃ x, Hid (wq4.heap.size = x) := ⟨_, rfl⟩
          rw [hwq5.out, hgqd.out] at hEd
          rw [hgqd.out] at hged
          rw [hwq5.out] at hT hHeld hOk hOv ⊢
          try rw [hgqd.out]
          refine wpAnyH_ready (rs := [13]) (by kernel_rfl) (by simp) ?_
          refine AllReadyH.cons rfl (fun KK hK => ?_) AllReadyH.nil
          rw [if_pos (by kernel_rfl)]
          have hLit : wq5.ownsRow gqd 3 1 (.slice (some ⟨gqd, 0, none⟩) 0 0) 0 [] := own_empty hEd
          refine wp_append_opt14 (.tmp 13) (.tmp 15) 25 rfl gqd 3 j0 (.int .i64 0) 1 8 Try.underlying25 hj hy0 hy1 hy2 rfl (by decide) (.slice (some ⟨gqd, 0, none⟩) 0 0) 0 [] rfl hLit da (L.ds.length) dc (nuc L.ds) rfl (fun e => (HD.out.nil e)) (by simp [nuc]) (HD.out.news (hT.bel)) (HD.out.one) (by unfold maxLen; omega) (by omega) (Nat.le_of_lt (Array.getElem?_eq_some_iff.1 hEd).1) ?_
          intro v6 wq6 hOa hgra
          simp only [Nat.zero_add, List.nil_append] at hOa
          replace hOk := And.intro (hOk.1.grownE hgra hEd) hOk.2
          replace hOv := And.intro (hOv.1.grownE hgra hEd) hOv.2
          replace hT := hT.grow hgra (fun j e => by simp only [Value.ownBlock, Option.some.injEq] at e; omega)
          obtain ⟨qda, qdc, eq, hOd⟩ := own_nu hOa
          subst eq
          clear hLit hOa hgra hEd
          refine hK.out _ _ hT.cells (fun hHeld => ?_)
          clear hK KK
          change wpAnyH _ _ _ _ _ _ _ (Act.put _ (some 16) _) _
          try simp only [Act.put, List.setIfInBounds_toArray, List.set_cons_zero, List.set_cons_succ]
          refine' wpAnyH_take (i := 14) (v := _) rfl (by kernel_rfl) (by kernel_rfl) (by kernel_rfl) (fun _ _ _ h => h) (Or.inl ⟨by kernel_rfl, ?hcp9⟩) (by assumption) ?rcp9
          case hcp9 => intro W hW; obtain ⟨c0, c1, c2, c3⟩ := hW; go_simp; all_goals with_reducible rfl
          change wpAnyH _ _ _ _ _ _ _ (Act.put _ (some 17) _) _
          simp only [Act.put, List.setIfInBounds_toArray, List.set_cons_zero, List.set_cons_succ]
          refine wpAnyH_ready (rs := [15]) (by kernel_rfl) (by simp) ?_
          refine AllReadyH.cons rfl (fun KK hK => ?_) AllReadyH.nil
          obtain ⟨y0, y1, y2, y3⟩ := hT.r.cells
          obtain ⟨f0, f1, f2, f3⟩ := hT.r.fz
          have hr1 := hT.r.set0 (.bool L.leaf)
          have hr2 := hr1.set1 (.slice qka L.ks.length qkc)
          have hr3 := hr2.set2 (.slice qva L.vs.length qvc)
          have hr4 := hr3.set3 (.slice qda L.ds.length qdc)
          have hV : RV3 wq6 (.slice qka L.ks.length qkc) (.slice qva L.vs.length qvc) (.slice qda L.ds.length qdc) L := ⟨⟨_, _, rfl, hOk⟩, ⟨_, _, rfl, hOv⟩, ⟨_, _, rfl, hOd⟩⟩
          have hV4 := (((hV.setN (i := 0) (u := .bool L.leaf) hT.r cell4_no).setN (i := 1) (u := (.slice qka L.ks.length qkc)) hr1 cell4_no).setN (i := 2) (u := (.slice qva L.vs.length qvc)) hr2 cell4_no).setN (i := 3) (u := (.slice qda L.ds.length qdc)) hr3 cell4_no
          have hB4 := (((hT.bel.setCell (p := ⟨w.heap.size + 1, 0, none⟩) (by simp) (.bool L.leaf)).setCell (p := ⟨w.heap.size + 1, 1, none⟩) (by simp) (.slice qka L.ks.length qkc)).setCell (p := ⟨w.heap.size + 1, 2, none⟩) (by simp) (.slice qva L.vs.length qvc)).setCell (p := ⟨w.heap.size + 1, 3, none⟩) (by simp) (.slice qda L.ds.length qdc)
          have ha4 := (((hT.a.other (C := w.heap.size + 1) (i := 0) (u := .bool L.leaf) (by omega)).other (C := w.heap.size + 1) (i := 1) (u := (.slice qka L.ks.length qkc)) (by omega)).other (C := w.heap.size + 1) (i := 2) (u := (.slice qva L.vs.length qvc)) (by omega)).other (C := w.heap.size + 1) (i := 3) (u := (.slice qda L.ds.length qdc)) (by omega)
          go_simp
          have HE : Hid (RV3 _ (.slice qka L.ks.length qkc) (.slice qva L.vs.length qvc) (.slice qda L.ds.length qdc) L ∧ Below w.heap.size w _) := ⟨hV4, hB4⟩
          obtain ⟨m0, m1, m2, m3⟩ := hr4.cells
          have hcs := ha4.cells
          clear y0 y1 y2 y3 f0 f1 f2 f3 hr1 hr2 hr3 hr4 hV hV4 hB4 ha4 hT hOk hOv hOd
          refine hK.out _ _ hcs (fun hHeld => ?_)
          clear hK KK
          try simp only [Act.put, List.setIfInBounds_toArray, List.set_cons_zero, List.set_cons_succ]
          refine wpAnyH_done (by kernel_rfl) ?_ _
          clear hHeld
          go_wp2
          refine bodyPost_ret (v := .agg #[.bool L.leaf, .slice qka L.ks.length qkc, .slice qva L.vs.length qvc, .slice qda L.ds.length qdc]) (by simp [results, Try.results46, go_sem, m0, m1, m2, m3]) rfl ⟨_, _, _, rfl, HE.out⟩
        ·
          go_simp
          have hb : Below wq3.heap.size wq3 (wq3.alloc (.cells #[] 3)) := (Below.refl _ _).alloc (Nat.le_refl _) _
          have hEd : (wq3.alloc (.cells #[] 3)).heap[wq3.heap.size]? = some (.cells #[] 3 (0, 0)) := by show (wq3.heap.push _)[wq3.heap.size]? = _; simp
          have hged : w.heap.size + 1 < wq3.heap.size := hT.r.lt
          have hnvd : gqv ≠ wq3.heap.size := fun e => by have := (Array.getElem?_eq_some_iff.1 hEv).1; omega
          replace hEv := (hb.block _ (Array.getElem?_eq_some_iff.1 hEv).1).trans hEv
          replace hOk := OV.belowQ hOk hb
          replace hT := hT.on hb
          clear hb
          refine hK.out _ _ hT.cells (fun hHeld => ?_)
          clear hK KK
          try simp only [Act.put, List.setIfInBounds_toArray, List.set_cons_zero, List.set_cons_succ]
          obtain ⟨wq7, hwq7⟩ : ∃ x, Hid ((wq3.alloc (.cells #[] 3)) = x) := ⟨_, rfl⟩
          obtain ⟨gqd, hgqd⟩ : ∃ x, Hid (wq3.heap.size = x) := ⟨_, rfl⟩
          rw [hwq7.out, hgqd.out] at hEd
          rw [hgqd.out] at hged
          rw [hgqd.out] at hnvd
          rw [hwq7.out] at hT hHeld hEv hOk ⊢
          try rw [hgqd.out]
          refine wpAnyH_ready (rs := [9]) (by kernel_rfl) (by simp) ?_
          refine AllReadyH.cons rfl (fun KK hK => ?_) AllReadyH.nil
          rw [if_pos (by kernel_rfl)]
          have hLit : wq7.ownsRow gqv 9 1 (.slice (some ⟨gqv, 0, none⟩) 0 0) 0 [] := own_empty hEv
          refine wp_append_opt14 (.tmp 9) (.tmp 11) 24 rfl gqv 9 i0 (.string ⟨#[]⟩) 1 16 Try.underlying24 hi hz0 hz1 hz2 rfl (by decide) (.slice (some ⟨gqv, 0, none⟩) 0 0) 0 [] rfl hLit va (L.vs.length) vc (txc L.vs) rfl (fun e => (HV.out.nil e)) (by simp [txc]) (HV.out.news (hT.bel)) (HV.out.one) (by unfold maxLen; omega) (by omega) (Nat.le_of_lt (Array.getElem?_eq_some_iff.1 hEv).1) ?_
          intro v6 wq8 hOa hgra
          simp only [Nat.zero_add, List.nil_append] at hOa
          replace hEd := (hgra.block gqd (Array.getElem?_eq_some_iff.1 hEd).1 (fun e => hnvd.symm (by simpa [Value.ownBlock] using e))).trans hEd
          replace hOk := And.intro (hOk.1.grownE hgra hEv) hOk.2
          replace hT := hT.grow hgra (fun j e => by simp only [Value.ownBlock, Option.some.injEq] at e; omega)
          obtain ⟨qva, qvc, eq, hOv⟩ := own_tx hOa
          subst eq
          clear hLit hOa hgra hEv
          refine hK.out _ _ hT.cells (fun hHeld => ?_)
          clear hK KK
          change wpAnyH _ _ _ _ _ _ _ (Act.put _ (some 12) _) _
          try simp only [Act.put, List.setIfInBounds_toArray, List.set_cons_zero, List.set_cons_succ]
          refine wpAnyH_ready (rs := [13]) (by kernel_rfl) (by simp) ?_
          refine AllReadyH.cons rfl (fun KK hK => ?_) AllReadyH.nil
          rw [if_pos (by kernel_rfl)]
          have hLit : wq8.ownsRow gqd 3 1 (.slice (some ⟨gqd, 0, none⟩) 0 0) 0 [] := own_empty hEd
          refine wp_append_opt14 (.tmp 13) (.tmp 15) 25 rfl gqd 3 j0 (.int .i64 0) 1 8 Try.underlying25 hj hy0 hy1 hy2 rfl (by decide) (.slice (some ⟨gqd, 0, none⟩) 0 0) 0 [] rfl hLit da (L.ds.length) dc (nuc L.ds) rfl (fun e => (HD.out.nil e)) (by simp [nuc]) (HD.out.news (hT.bel)) (HD.out.one) (by unfold maxLen; omega) (by omega) (Nat.le_of_lt (Array.getElem?_eq_some_iff.1 hEd).1) ?_
          intro v6 wq9 hOa hgra
          simp only [Nat.zero_add, List.nil_append] at hOa
          replace hOk := And.intro (hOk.1.grownE hgra hEd) hOk.2
          replace hOv := And.intro (hOv.1.grownE hgra hEd) hOv.2
          replace hT := hT.grow hgra (fun j e => by simp only [Value.ownBlock, Option.some.injEq] at e; omega)
          obtain ⟨qda, qdc, eq, hOd⟩ := own_nu hOa
          subst eq
          clear hLit hOa hgra hEd
          refine hK.out _ _ hT.cells (fun hHeld => ?_)
          clear hK KK
          change wpAnyH _ _ _ _ _ _ _ (Act.put _ (some 16) _) _
          try simp only [Act.put, List.setIfInBounds_toArray, List.set_cons_zero, List.set_cons_succ]
          refine' wpAnyH_take (i := 14) (v := _) rfl (by kernel_rfl) (by kernel_rfl) (by kernel_rfl) (fun _ _ _ h => h) (Or.inl ⟨by kernel_rfl, ?hcp10⟩) (by assumption) ?rcp10
          case hcp10 => intro W hW; obtain ⟨c0, c1, c2, c3⟩ := hW; go_simp; all_goals with_reducible rfl
          change wpAnyH _ _ _ _ _ _ _ (Act.put _ (some 17) _) _
          simp only [Act.put, List.setIfInBounds_toArray, List.set_cons_zero, List.set_cons_succ]
          refine wpAnyH_ready (rs := [15]) (by kernel_rfl) (by simp) ?_
          refine AllReadyH.cons rfl (fun KK hK => ?_) AllReadyH.nil
          obtain ⟨y0, y1, y2, y3⟩ := hT.r.cells
          obtain ⟨f0, f1, f2, f3⟩ := hT.r.fz
          have hr1 := hT.r.set0 (.bool L.leaf)
          have hr2 := hr1.set1 (.slice qka L.ks.length qkc)
          have hr3 := hr2.set2 (.slice qva L.vs.length qvc)
          have hr4 := hr3.set3 (.slice qda L.ds.length qdc)
          have hV : RV3 wq9 (.slice qka L.ks.length qkc) (.slice qva L.vs.length qvc) (.slice qda L.ds.length qdc) L := ⟨⟨_, _, rfl, hOk⟩, ⟨_, _, rfl, hOv⟩, ⟨_, _, rfl, hOd⟩⟩
          have hV4 := (((hV.setN (i := 0) (u := .bool L.leaf) hT.r cell4_no).setN (i := 1) (u := (.slice qka L.ks.length qkc)) hr1 cell4_no).setN (i := 2) (u := (.slice qva L.vs.length qvc)) hr2 cell4_no).setN (i := 3) (u := (.slice qda L.ds.length qdc)) hr3 cell4_no
          have hB4 := (((hT.bel.setCell (p := ⟨w.heap.size + 1, 0, none⟩) (by simp) (.bool L.leaf)).setCell (p := ⟨w.heap.size + 1, 1, none⟩) (by simp) (.slice qka L.ks.length qkc)).setCell (p := ⟨w.heap.size + 1, 2, none⟩) (by simp) (.slice qva L.vs.length qvc)).setCell (p := ⟨w.heap.size + 1, 3, none⟩) (by simp) (.slice qda L.ds.length qdc)
          have ha4 := (((hT.a.other (C := w.heap.size + 1) (i := 0) (u := .bool L.leaf) (by omega)).other (C := w.heap.size + 1) (i := 1) (u := (.slice qka L.ks.length qkc)) (by omega)).other (C := w.heap.size + 1) (i := 2) (u := (.slice qva L.vs.length qvc)) (by omega)).other (C := w.heap.size + 1) (i := 3) (u := (.slice qda L.ds.length qdc)) (by omega)
          go_simp
          have HE : Hid (RV3 _ (.slice qka L.ks.length qkc) (.slice qva L.vs.length qvc) (.slice qda L.ds.length qdc) L ∧ Below w.heap.size w _) := ⟨hV4, hB4⟩
          obtain ⟨m0, m1, m2, m3⟩ := hr4.cells
          have hcs := ha4.cells
          clear y0 y1 y2 y3 f0 f1 f2 f3 hr1 hr2 hr3 hr4 hV hV4 hB4 ha4 hT hOk hOv hOd
          refine hK.out _ _ hcs (fun hHeld => ?_)
          clear hK KK
          try simp only [Act.put, List.setIfInBounds_toArray, List.set_cons_zero, List.set_cons_succ]
          refine wpAnyH_done (by kernel_rfl) ?_ _
          clear hHeld
          go_wp2
          refine bodyPost_ret (v := .agg #[.bool L.leaf, .slice qka L.ks.length qkc, .slice qva L.vs.length qvc, .slice qda L.ds.length qdc]) (by simp [results, Try.results46, go_sem, m0, m1, m2, m3]) rfl ⟨_, _, _, rfl, HE.out⟩
      ·
        go_simp
        have hb : Below wq2.heap.size wq2 (wq2.alloc (.cells #[] 3)) := (Below.refl _ _).alloc (Nat.le_refl _) _
        have hEd : (wq2.alloc (.cells #[] 3)).heap[wq2.heap.size]? = some (.cells #[] 3 (0, 0)) := by show (wq2.heap.push _)[wq2.heap.size]? = _; simp
        have hged : w.heap.size + 1 < wq2.heap.size := hT.r.lt
        replace hOk := OV.belowQ hOk hb
        replace hT := hT.on hb
        clear hb
        refine hK.out _ _ hT.cells (fun hHeld => ?_)
        clear hK KK
        try simp only [Act.put, List.setIfInBounds_toArray, List.set_cons_zero, List.set_cons_succ]
        obtain ⟨wq10, hwq10⟩ : ∃ x, Hid ((wq2.alloc (.cells #[] 3)) = x) := ⟨_, rfl⟩
        obtain ⟨gqd, hgqd⟩ : ∃ x, Hid (wq2.heap.size = x) := ⟨_, rfl⟩
        rw [hwq10.out, hgqd.out] at hEd
        rw [hgqd.out] at hged
        rw [hwq10.out] at hT hHeld hOk ⊢
        try rw [hgqd.out]
        refine wpAnyH_ready (rs := [6]) (by kernel_rfl) (by simp) ?_
        refine AllReadyH.cons rfl (fun KK hK => ?_) AllReadyH.nil
        go_simp
        have hb : Below wq10.heap.size wq10 (wq10.alloc (.cells #[] 9)) := (Below.refl _ _).alloc (Nat.le_refl _) _
        have hEv : (wq10.alloc (.cells #[] 9)).heap[wq10.heap.size]? = some (.cells #[] 9 (0, 0)) := by show (wq10.heap.push _)[wq10.heap.size]? = _; simp
        have hgev : w.heap.size + 1 < wq10.heap.size := hT.r.lt
        have hndv : gqd ≠ wq10.heap.size := fun e => by have := (Array.getElem?_eq_some_iff.1 hEd).1; omega
        replace hEd := (hb.block _ (Array.getElem?_eq_some_iff.1 hEd).1).trans hEd
        replace hOk := OV.belowQ hOk hb
        replace hT := hT.on hb
        clear hb
        refine hK.out _ _ hT.cells (fun hHeld => ?_)
        clear hK KK
        try simp only [Act.put, List.setIfInBounds_toArray, List.set_cons_zero, List.set_cons_succ]
        obtain ⟨wq11, hwq11⟩ : ∃ x, Hid ((wq10.alloc (.cells #[] 9)) = x) := ⟨_, rfl⟩
        obtain ⟨gqv, hgqv⟩ : ∃ x, Hid (wq10.heap.size = x) := ⟨_, rfl⟩
        rw [hwq11.out, hgqv.out] at hEv
        rw [hgqv.out] at hgev
        rw [hgqv.out] at hndv
        rw [hwq11.out] at hT hHeld hEd hOk ⊢
        try rw [hgqv.out]
        refine wpAnyH_ready (rs := [9]) (by kernel_rfl) (by simp) ?_
        refine AllReadyH.cons rfl (fun KK hK => ?_) AllReadyH.nil
        rw [if_pos (by kernel_rfl)]
        have hLit : wq11.ownsRow gqv 9 1 (.slice (some ⟨gqv, 0, none⟩) 0 0) 0 [] := own_empty hEv
        refine wp_append_opt14 (.tmp 9) (.tmp 11) 24 rfl gqv 9 i0 (.string ⟨#[]⟩) 1 16 Try.underlying24 hi hz0 hz1 hz2 rfl (by decide) (.slice (some ⟨gqv, 0, none⟩) 0 0) 0 [] rfl hLit va (L.vs.length) vc (txc L.vs) rfl (fun e => (HV.out.nil e)) (by simp [txc]) (HV.out.news (hT.bel)) (HV.out.one) (by unfold maxLen; omega) (by omega) (Nat.le_of_lt (Array.getElem?_eq_some_iff.1 hEv).1) ?_
        intro v6 wq12 hOa hgra
        simp only [Nat.zero_add, List.nil_append] at hOa
        replace hEd := (hgra.block gqd (Array.getElem?_eq_some_iff.1 hEd).1 (fun e => hndv (by simpa [Value.ownBlock] using e))).trans hEd
        replace hOk := And.intro (hOk.1.grownE hgra hEv) hOk.2
        replace hT := hT.grow hgra (fun j e => by simp only [Value.ownBlock, Option.some.injEq] at e; omega)
        obtain ⟨qva, qvc, eq, hOv⟩ := own_tx hOa
        subst eq
        clear hLit hOa hgra hEv
        refine hK.out _ _ hT.cells (fun hHeld => ?_)
        clear hK KK
        change wpAnyH _ _ _ _ _ _ _ (Act.put _ (some 12) _) _
        try simp only [Act.put, List.setIfInBounds_toArray, List.set_cons_zero, List.set_cons_succ]
        refine wpAnyH_ready (rs := [13]) (by kernel_rfl) (by simp) ?_
        refine AllReadyH.cons rfl (fun KK hK => ?_) AllReadyH.nil
        rw [if_pos (by kernel_rfl)]
        have hLit : wq12.ownsRow gqd 3 1 (.slice (some ⟨gqd, 0, none⟩) 0 0) 0 [] := own_empty hEd
        refine wp_append_opt14 (.tmp 13) (.tmp 15) 25 rfl gqd 3 j0 (.int .i64 0) 1 8 Try.underlying25 hj hy0 hy1 hy2 rfl (by decide) (.slice (some ⟨gqd, 0, none⟩) 0 0) 0 [] rfl hLit da (L.ds.length) dc (nuc L.ds) rfl (fun e => (HD.out.nil e)) (by simp [nuc]) (HD.out.news (hT.bel)) (HD.out.one) (by unfold maxLen; omega) (by omega) (Nat.le_of_lt (Array.getElem?_eq_some_iff.1 hEd).1) ?_
        intro v6 wq13 hOa hgra
        simp only [Nat.zero_add, List.nil_append] at hOa
        replace hOk := And.intro (hOk.1.grownE hgra hEd) hOk.2
        replace hOv := And.intro (hOv.1.grownE hgra hEd) hOv.2
        replace hT := hT.grow hgra (fun j e => by simp only [Value.ownBlock, Option.some.injEq] at e; omega)
        obtain ⟨qda, qdc, eq, hOd⟩ := own_nu hOa
        subst eq
        clear hLit hOa hgra hEd
        refine hK.out _ _ hT.cells (fun hHeld => ?_)
        clear hK KK
        change wpAnyH _ _ _ _ _ _ _ (Act.put _ (some 16) _) _
        try simp only [Act.put, List.setIfInBounds_toArray, List.set_cons_zero, List.set_cons_succ]
        refine' wpAnyH_take (i := 14) (v := _) rfl (by kernel_rfl) (by kernel_rfl) (by kernel_rfl) (fun _ _ _ h => h) (Or.inl ⟨by kernel_rfl, ?hcp11⟩) (by assumption) ?rcp11
        case hcp11 => intro W hW; obtain ⟨c0, c1, c2, c3⟩ := hW; go_simp; all_goals with_reducible rfl
        change wpAnyH _ _ _ _ _ _ _ (Act.put _ (some 17) _) _
        simp only [Act.put, List.setIfInBounds_toArray, List.set_cons_zero, List.set_cons_succ]
        refine wpAnyH_ready (rs := [15]) (by kernel_rfl) (by simp) ?_
        refine AllReadyH.cons rfl (fun KK hK => ?_) AllReadyH.nil
        obtain ⟨y0, y1, y2, y3⟩ := hT.r.cells
        obtain ⟨f0, f1, f2, f3⟩ := hT.r.fz
        have hr1 := hT.r.set0 (.bool L.leaf)
        have hr2 := hr1.set1 (.slice qka L.ks.length qkc)
        have hr3 := hr2.set2 (.slice qva L.vs.length qvc)
        have hr4 := hr3.set3 (.slice qda L.ds.length qdc)
        have hV : RV3 wq13 (.slice qka L.ks.length qkc) (.slice qva L.vs.length qvc) (.slice qda L.ds.length qdc) L := ⟨⟨_, _, rfl, hOk⟩, ⟨_, _, rfl, hOv⟩, ⟨_, _, rfl, hOd⟩⟩
        have hV4 := (((hV.setN (i := 0) (u := .bool L.leaf) hT.r cell4_no).setN (i := 1) (u := (.slice qka L.ks.length qkc)) hr1 cell4_no).setN (i := 2) (u := (.slice qva L.vs.length qvc)) hr2 cell4_no).setN (i := 3) (u := (.slice qda L.ds.length qdc)) hr3 cell4_no
        have hB4 := (((hT.bel.setCell (p := ⟨w.heap.size + 1, 0, none⟩) (by simp) (.bool L.leaf)).setCell (p := ⟨w.heap.size + 1, 1, none⟩) (by simp) (.slice qka L.ks.length qkc)).setCell (p := ⟨w.heap.size + 1, 2, none⟩) (by simp) (.slice qva L.vs.length qvc)).setCell (p := ⟨w.heap.size + 1, 3, none⟩) (by simp) (.slice qda L.ds.length qdc)
        have ha4 := (((hT.a.other (C := w.heap.size + 1) (i := 0) (u := .bool L.leaf) (by omega)).other (C := w.heap.size + 1) (i := 1) (u := (.slice qka L.ks.length qkc)) (by omega)).other (C := w.heap.size + 1) (i := 2) (u := (.slice qva L.vs.length qvc)) (by omega)).other (C := w.heap.size + 1) (i := 3) (u := (.slice qda L.ds.length qdc)) (by omega)
        go_simp
        have HE : Hid (RV3 _ (.slice qka L.ks.length qkc) (.slice qva L.vs.length qvc) (.slice qda L.ds.length qdc) L ∧ Below w.heap.size w _) := ⟨hV4, hB4⟩
        obtain ⟨m0, m1, m2, m3⟩ := hr4.cells
        have hcs := ha4.cells
        clear y0 y1 y2 y3 f0 f1 f2 f3 hr1 hr2 hr3 hr4 hV hV4 hB4 ha4 hT hOk hOv hOd
        refine hK.out _ _ hcs (fun hHeld => ?_)
        clear hK KK
        try simp only [Act.put, List.setIfInBounds_toArray, List.set_cons_zero, List.set_cons_succ]
        refine wpAnyH_done (by kernel_rfl) ?_ _
        clear hHeld
        go_wp2
        refine bodyPost_ret (v := .agg #[.bool L.leaf, .slice qka L.ks.length qkc, .slice qva L.vs.length qvc, .slice qda L.ds.length qdc]) (by simp [results, Try.results46, go_sem, m0, m1, m2, m3]) rfl ⟨_, _, _, rfl, HE.out⟩
    ·
      go_simp
      have hb : Below wq1.heap.size wq1 (wq1.alloc (.cells #[] 9)) := (Below.refl _ _).alloc (Nat.le_refl _) _
      have hEv : (wq1.alloc (.cells #[] 9)).heap[wq1.heap.size]? = some (.cells #[] 9 (0, 0)) := by show (wq1.heap.push _)[wq1.heap.size]? = _; simp
      have hgev : w.heap.size + 1 < wq1.heap.size := hT.r.lt
      have hnkv : gqk ≠ wq1.heap.size := fun e => by have := (Array.getElem?_eq_some_iff.1 hEk).1; omega
      replace hEk := (hb.block _ (Array.getElem?_eq_some_iff.1 hEk).1).trans hEk
      replace hT := hT.on hb
      clear hb
      refine hK.out _ _ hT.cells (fun hHeld => ?_)
      clear hK KK
      try simp only [Act.put, List.setIfInBounds_toArray, List.set_cons_zero, List.set_cons_succ]
      obtain ⟨wq14, hwq14⟩ : ∃ x, Hid ((wq1.alloc (.cells #[] 9)) = x) := ⟨_, rfl⟩
      obtain ⟨gqv, hgqv⟩ : ∃ x, Hid (wq1.heap.size = x) := ⟨_, rfl⟩
      rw [hwq14.out, hgqv.out] at hEv
      rw [hgqv.out] at hgev
      rw [hgqv.out] at hnkv
      rw [hwq14.out] at hT hHeld hEk ⊢
      try rw [hgqv.out]
      refine wpAnyH_ready (rs := [5, 10]) (by kernel_rfl) (by simp) ?_
      refine AllReadyH.cons rfl (fun KK hK => ?_) (AllReadyH.cons rfl (fun KK hK => ?_) AllReadyH.nil)
      ·
        rw [if_pos (by kernel_rfl)]
        have hLit : wq14.ownsRow gqk 9 1 (.slice (some ⟨gqk, 0, none⟩) 0 0) 0 [] := own_empty hEk
        refine wp_append_opt14 (.tmp 5) (.tmp 7) 24 rfl gqk 9 i0 (.string ⟨#[]⟩) 1 16 Try.underlying24 hi hz0 hz1 hz2 rfl (by decide) (.slice (some ⟨gqk, 0, none⟩) 0 0) 0 [] rfl hLit ka (L.ks.length) kc (txc L.ks) rfl (fun e => (HK.out.nil e)) (by simp [txc]) (HK.out.news (hT.bel)) (HK.out.one) (by unfold maxLen; omega) (by omega) (Nat.le_of_lt (Array.getElem?_eq_some_iff.1 hEk).1) ?_
        intro v6 wq15 hOa hgra
        simp only [Nat.zero_add, List.nil_append] at hOa
        replace hEv := (hgra.block gqv (Array.getElem?_eq_some_iff.1 hEv).1 (fun e => hnkv.symm (by simpa [Value.ownBlock] using e))).trans hEv
        replace hT := hT.grow hgra (fun j e => by simp only [Value.ownBlock, Option.some.injEq] at e; omega)
        obtain ⟨qka, qkc, eq, hOk⟩ := own_tx hOa
        subst eq
        clear hLit hOa hgra hEk
        refine hK.out _ _ hT.cells (fun hHeld => ?_)
        clear hK KK
        change wpAnyH _ _ _ _ _ _ _ (Act.put _ (some 8) _) _
        try simp only [Act.put, List.setIfInBounds_toArray, List.set_cons_zero, List.set_cons_succ]
        refine wpAnyH_ready (rs := [9, 10]) (by kernel_rfl) (by simp) ?_
        refine AllReadyH.cons rfl (fun KK hK => ?_) (AllReadyH.cons rfl (fun KK hK => ?_) AllReadyH.nil)
        ·
          rw [if_pos (by kernel_rfl)]
          have hLit : wq15.ownsRow gqv 9 1 (.slice (some ⟨gqv, 0, none⟩) 0 0) 0 [] := own_empty hEv
          refine wp_append_opt14 (.tmp 9) (.tmp 11) 24 rfl gqv 9 i0 (.string ⟨#[]⟩) 1 16 Try.underlying24 hi hz0 hz1 hz2 rfl (by decide) (.slice (some ⟨gqv, 0, none⟩) 0 0) 0 [] rfl hLit va (L.vs.length) vc (txc L.vs) rfl (fun e => (HV.out.nil e)) (by simp [txc]) (HV.out.news (hT.bel)) (HV.out.one) (by unfold maxLen; omega) (by omega) (Nat.le_of_lt (Array.getElem?_eq_some_iff.1 hEv).1) ?_
          intro v6 wq16 hOa hgra
          simp only [Nat.zero_add, List.nil_append] at hOa
          replace hOk := And.intro (hOk.1.grownE hgra hEv) hOk.2
          replace hT := hT.grow hgra (fun j e => by simp only [Value.ownBlock, Option.some.injEq] at e; omega)
          obtain ⟨qva, qvc, eq, hOv⟩ := own_tx hOa
          subst eq
          clear hLit hOa hgra hEv
          refine hK.out _ _ hT.cells (fun hHeld => ?_)
          clear hK KK
          change wpAnyH _ _ _ _ _ _ _ (Act.put _ (some 12) _) _
          try simp only [Act.put, List.setIfInBounds_toArray, List.set_cons_zero, List.set_cons_succ]
          refine wpAnyH_ready (rs := [10]) (by kernel_rfl) (by simp) ?_
          refine AllReadyH.cons rfl (fun KK hK => ?_) AllReadyH.nil
          go_simp
          have hb : Below wq16.heap.size wq16 (wq16.alloc (.cells #[] 3)) := (Below.refl _ _).alloc (Nat.le_refl _) _
          have hEd : (wq16.alloc (.cells #[] 3)).heap[wq16.heap.size]? = some (.cells #[] 3 (0, 0)) := by show (wq16.heap.push _)[wq16.heap.size]? = _; simp
          have hged : w.heap.size + 1 < wq16.heap.size := hT.r.lt
          replace hOk := OV.belowQ hOk hb
          replace hOv := OV.belowQ hOv hb
          replace hT := hT.on hb
          clear hb
          refine hK.out _ _ hT.cells (fun hHeld => ?_)
          clear hK KK
          try simp only [Act.put, List.setIfInBounds_toArray, List.set_cons_zero, List.set_cons_succ]
          obtain ⟨wq17, hwq17⟩ : ∃ x, Hid ((wq16.alloc (.cells #[] 3)) = x) := ⟨_, rfl⟩
          obtain ⟨gqd, hgqd⟩ : ∃ x, Hid (wq16.heap.size = x) := ⟨_, rfl⟩
          rw [hwq17.out, hgqd.out] at hEd
          rw [hgqd.out] at hged
          rw [hwq17.out] at hT hHeld hOk hOv ⊢
          try rw [hgqd.out]
          refine wpAnyH_ready (rs := [13]) (by kernel_rfl) (by simp) ?_
          refine AllReadyH.cons rfl (fun KK hK => ?_) AllReadyH.nil
          rw [if_pos (by kernel_rfl)]
          have hLit : wq17.ownsRow gqd 3 1 (.slice (some ⟨gqd, 0, none⟩) 0 0) 0 [] := own_empty hEd
          refine wp_append_opt14 (.tmp 13) (.tmp 15) 25 rfl gqd 3 j0 (.int .i64 0) 1 8 Try.underlying25 hj hy0 hy1 hy2 rfl (by decide) (.slice (some ⟨gqd, 0, none⟩) 0 0) 0 [] rfl hLit da (L.ds.length) dc (nuc L.ds) rfl (fun e => (HD.out.nil e)) (by simp [nuc]) (HD.out.news (hT.bel)) (HD.out.one) (by unfold maxLen; omega) (by omega) (Nat.le_of_lt (Array.getElem?_eq_some_iff.1 hEd).1) ?_
          intro v6 wq18 hOa hgra
          simp only [Nat.zero_add, List.nil_append] at hOa
          replace hOk := And.intro (hOk.1.grownE hgra hEd) hOk.2
          replace hOv := And.intro (hOv.1.grownE hgra hEd) hOv.2
          replace hT := hT.grow hgra (fun j e => by simp only [Value.ownBlock, Option.some.injEq] at e; omega)
          obtain ⟨qda, qdc, eq, hOd⟩ := own_nu hOa
          subst eq
          clear hLit hOa hgra hEd
          refine hK.out _ _ hT.cells (fun hHeld => ?_)
          clear hK KK
          change wpAnyH _ _ _ _ _ _ _ (Act.put _ (some 16) _) _
          try simp only [Act.put, List.setIfInBounds_toArray, List.set_cons_zero, List.set_cons_succ]
          refine' wpAnyH_take (i := 14) (v := _) rfl (by kernel_rfl) (by kernel_rfl) (by kernel_rfl) (fun _ _ _ h => h) (Or.inl ⟨by kernel_rfl, ?hcp12⟩) (by assumption) ?rcp12
          case hcp12 => intro W hW; obtain ⟨c0, c1, c2, c3⟩ := hW; go_simp; all_goals with_reducible rfl
          change wpAnyH _ _ _ _ _ _ _ (Act.put _ (some 17) _) _
          simp only [Act.put, List.setIfInBounds_toArray, List.set_cons_zero, List.set_cons_succ]
          refine wpAnyH_ready (rs := [15]) (by kernel_rfl) (by simp) ?_
          refine AllReadyH.cons rfl (fun KK hK => ?_) AllReadyH.nil
          obtain ⟨y0, y1, y2, y3⟩ := hT.r.cells
          obtain ⟨f0, f1, f2, f3⟩ := hT.r.fz
          have hr1 := hT.r.set0 (.bool L.leaf)
          have hr2 := hr1.set1 (.slice qka L.ks.length qkc)
          have hr3 := hr2.set2 (.slice qva L.vs.length qvc)
          have hr4 := hr3.set3 (.slice qda L.ds.length qdc)
          have hV : RV3 wq18 (.slice qka L.ks.length qkc) (.slice qva L.vs.length qvc) (.slice qda L.ds.length qdc) L := ⟨⟨_, _, rfl, hOk⟩, ⟨_, _, rfl, hOv⟩, ⟨_, _, rfl, hOd⟩⟩
          have hV4 := (((hV.setN (i := 0) (u := .bool L.leaf) hT.r cell4_no).setN (i := 1) (u := (.slice qka L.ks.length qkc)) hr1 cell4_no).setN (i := 2) (u := (.slice qva L.vs.length qvc)) hr2 cell4_no).setN (i := 3) (u := (.slice qda L.ds.length qdc)) hr3 cell4_no
          have hB4 := (((hT.bel.setCell (p := ⟨w.heap.size + 1, 0, none⟩) (by simp) (.bool L.leaf)).setCell (p := ⟨w.heap.size + 1, 1, none⟩) (by simp) (.slice qka L.ks.length qkc)).setCell (p := ⟨w.heap.size + 1, 2, none⟩) (by simp) (.slice qva L.vs.length qvc)).setCell (p := ⟨w.heap.size + 1, 3, none⟩) (by simp) (.slice qda L.ds.length qdc)
          have ha4 := (((hT.a.other (C := w.heap.size + 1) (i := 0) (u := .bool L.leaf) (by omega)).other (C := w.heap.size + 1) (i := 1) (u := (.slice qka L.ks.length qkc)) (by omega)).other (C := w.heap.size + 1) (i := 2) (u := (.slice qva L.vs.length qvc)) (by omega)).other (C := w.heap.size + 1) (i := 3) (u := (.slice qda L.ds.length qdc)) (by omega)
          go_simp
          have HE : Hid (RV3 _ (.slice qka L.ks.length qkc) (.slice qva L.vs.length qvc) (.slice qda L.ds.length qdc) L ∧ Below w.heap.size w _) := ⟨hV4, hB4⟩
          obtain ⟨m0, m1, m2, m3⟩ := hr4.cells
          have hcs := ha4.cells
          clear y0 y1 y2 y3 f0 f1 f2 f3 hr1 hr2 hr3 hr4 hV hV4 hB4 ha4 hT hOk hOv hOd
          refine hK.out _ _ hcs (fun hHeld => ?_)
          clear hK KK
          try simp only [Act.put, List.setIfInBounds_toArray, List.set_cons_zero, List.set_cons_succ]
          refine wpAnyH_done (by kernel_rfl) ?_ _
          clear hHeld
          go_wp2
          refine bodyPost_ret (v := .agg #[.bool L.leaf, .slice qka L.ks.length qkc, .slice qva L.vs.length qvc, .slice qda L.ds.length qdc]) (by simp [results, Try.results46, go_sem, m0, m1, m2, m3]) rfl ⟨_, _, _, rfl, HE.out⟩
        ·
          go_simp
          have hb : Below wq15.heap.size wq15 (wq15.alloc (.cells #[] 3)) := (Below.refl _ _).alloc (Nat.le_refl _) _
          have hEd : (wq15.alloc (.cells #[] 3)).heap[wq15.heap.size]? = some (.cells #[] 3 (0, 0)) := by show (wq15.heap.push _)[wq15.heap.size]? = _; simp
          have hged : w.heap.size + 1 < wq15.heap.size := hT.r.lt
          have hnvd : gqv ≠ wq15.heap.size := fun e => by have := (Array.getElem?_eq_some_iff.1 hEv).1; omega
          replace hEv := (hb.block _ (Array.getElem?_eq_some_iff.1 hEv).1).trans hEv
          replace hOk := OV.belowQ hOk hb
          replace hT := hT.on hb
          clear hb
          refine hK.out _ _ hT.cells (fun hHeld => ?_)
          clear hK KK
          try simp only [Act.put, List.setIfInBounds_toArray, List.set_cons_zero, List.set_cons_succ]
          obtain ⟨wq19, hwq19⟩ : ∃ x, Hid ((wq15.alloc (.cells #[] 3)) = x) := ⟨_, rfl⟩
          obtain ⟨gqd, hgqd⟩ : ∃ x, Hid (wq15.heap.size = x) := ⟨_, rfl⟩
          rw [hwq19.out, hgqd.out] at hEd
          rw [hgqd.out] at hged
          rw [hgqd.out] at hnvd
          rw [hwq19.out] at hT hHeld hEv hOk ⊢
          try rw [hgqd.out]
          refine wpAnyH_ready (rs := [9]) (by kernel_rfl) (by simp) ?_
          refine AllReadyH.cons rfl (fun KK hK => ?_) AllReadyH.nil
          rw [if_pos (by kernel_rfl)]
          have hLit : wq19.ownsRow gqv 9 1 (.slice (some ⟨gqv, 0, none⟩) 0 0) 0 [] := own_empty hEv
          refine wp_append_opt14 (.tmp 9) (.tmp 11) 24 rfl gqv 9 i0 (.string ⟨#[]⟩) 1 16 Try.underlying24 hi hz0 hz1 hz2 rfl (by decide) (.slice (some ⟨gqv, 0, none⟩) 0 0) 0 [] rfl hLit va (L.vs.length) vc (txc L.vs) rfl (fun e => (HV.out.nil e)) (by simp [txc]) (HV.out.news (hT.bel)) (HV.out.one) (by unfold maxLen; omega) (by omega) (Nat.le_of_lt (Array.getElem?_eq_some_iff.1 hEv).1) ?_
          intro v6 wq20 hOa hgra
          simp only [Nat.zero_add, List.nil_append] at hOa
          replace hEd := (hgra.block gqd (Array.getElem?_eq_some_iff.1 hEd).1 (fun e => hnvd.symm (by simpa [Value.ownBlock] using e))).trans hEd
          replace hOk := And.intro (hOk.1.grownE hgra hEv) hOk.2
          replace hT := hT.grow hgra (fun j e => by simp only [Value.ownBlock, Option.some.injEq] at e; omega)
          obtain ⟨qva, qvc, eq, hOv⟩ := own_tx hOa
          subst eq
          clear hLit hOa hgra hEv
          refine hK.out _ _ hT.cells (fun hHeld => ?_)
          clear hK KK
          change wpAnyH _ _ _ _ _ _ _ (Act.put _ (some 12) _) _
          try simp only [Act.put, List.setIfInBounds_toArray, List.set_cons_zero, List.set_cons_succ]
          refine wpAnyH_ready (rs := [13]) (by kernel_rfl) (by simp) ?_
          refine AllReadyH.cons rfl (fun KK hK => ?_) AllReadyH.nil
          rw [if_pos (by kernel_rfl)]
          have hLit : wq20.ownsRow gqd 3 1 (.slice (some ⟨gqd, 0, none⟩) 0 0) 0 [] := own_empty hEd
          refine wp_append_opt14 (.tmp 13) (.tmp 15) 25 rfl gqd 3 j0 (.int .i64 0) 1 8 Try.underlying25 hj hy0 hy1 hy2 rfl (by decide) (.slice (some ⟨gqd, 0, none⟩) 0 0) 0 [] rfl hLit da (L.ds.length) dc (nuc L.ds) rfl (fun e => (HD.out.nil e)) (by simp [nuc]) (HD.out.news (hT.bel)) (HD.out.one) (by unfold maxLen; omega) (by omega) (Nat.le_of_lt (Array.getElem?_eq_some_iff.1 hEd).1) ?_
          intro v6 wq21 hOa hgra
          simp only [Nat.zero_add, List.nil_append] at hOa
          replace hOk := And.intro (hOk.1.grownE hgra hEd) hOk.2
          replace hOv := And.intro (hOv.1.grownE hgra hEd) hOv.2
          replace hT := hT.grow hgra (fun j e => by simp only [Value.ownBlock, Option.some.injEq] at e; omega)
          obtain ⟨qda, qdc, eq, hOd⟩ := own_nu hOa
          subst eq
          clear hLit hOa hgra hEd
          refine hK.out _ _ hT.cells (fun hHeld => ?_)
          clear hK KK
          change wpAnyH _ _ _ _ _ _ _ (Act.put _ (some 16) _) _
          try simp only [Act.put, List.setIfInBounds_toArray, List.set_cons_zero, List.set_cons_succ]
          refine' wpAnyH_take (i := 14) (v := _) rfl (by kernel_rfl) (by kernel_rfl) (by kernel_rfl) (fun _ _ _ h => h) (Or.inl ⟨by kernel_rfl, ?hcp13⟩) (by assumption) ?rcp13
          case hcp13 => intro W hW; obtain ⟨c0, c1, c2, c3⟩ := hW; go_simp; all_goals with_reducible rfl
          change wpAnyH _ _ _ _ _ _ _ (Act.put _ (some 17) _) _
          simp only [Act.put, List.setIfInBounds_toArray, List.set_cons_zero, List.set_cons_succ]
          refine wpAnyH_ready (rs := [15]) (by kernel_rfl) (by simp) ?_
          refine AllReadyH.cons rfl (fun KK hK => ?_) AllReadyH.nil
          obtain ⟨y0, y1, y2, y3⟩ := hT.r.cells
          obtain ⟨f0, f1, f2, f3⟩ := hT.r.fz
          have hr1 := hT.r.set0 (.bool L.leaf)
          have hr2 := hr1.set1 (.slice qka L.ks.length qkc)
          have hr3 := hr2.set2 (.slice qva L.vs.length qvc)
          have hr4 := hr3.set3 (.slice qda L.ds.length qdc)
          have hV : RV3 wq21 (.slice qka L.ks.length qkc) (.slice qva L.vs.length qvc) (.slice qda L.ds.length qdc) L := ⟨⟨_, _, rfl, hOk⟩, ⟨_, _, rfl, hOv⟩, ⟨_, _, rfl, hOd⟩⟩
          have hV4 := (((hV.setN (i := 0) (u := .bool L.leaf) hT.r cell4_no).setN (i := 1) (u := (.slice qka L.ks.length qkc)) hr1 cell4_no).setN (i := 2) (u := (.slice qva L.vs.length qvc)) hr2 cell4_no).setN (i := 3) (u := (.slice qda L.ds.length qdc)) hr3 cell4_no
          have hB4 := (((hT.bel.setCell (p := ⟨w.heap.size + 1, 0, none⟩) (by simp) (.bool L.leaf)).setCell (p := ⟨w.heap.size + 1, 1, none⟩) (by simp) (.slice qka L.ks.length qkc)).setCell (p := ⟨w.heap.size + 1, 2, none⟩) (by simp) (.slice qva L.vs.length qvc)).setCell (p := ⟨w.heap.size + 1, 3, none⟩) (by simp) (.slice qda L.ds.length qdc)
          have ha4 := (((hT.a.other (C := w.heap.size + 1) (i := 0) (u := .bool L.leaf) (by omega)).other (C := w.heap.size + 1) (i := 1) (u := (.slice qka L.ks.length qkc)) (by omega)).other (C := w.heap.size + 1) (i := 2) (u := (.slice qva L.vs.length qvc)) (by omega)).other (C := w.heap.size + 1) (i := 3) (u := (.slice qda L.ds.length qdc)) (by omega)
          go_simp
          have HE : Hid (RV3 _ (.slice qka L.ks.length qkc) (.slice qva L.vs.length qvc) (.slice qda L.ds.length qdc) L ∧ Below w.heap.size w _) := ⟨hV4, hB4⟩
          obtain ⟨m0, m1, m2, m3⟩ := hr4.cells
          have hcs := ha4.cells
          clear y0 y1 y2 y3 f0 f1 f2 f3 hr1 hr2 hr3 hr4 hV hV4 hB4 ha4 hT hOk hOv hOd
          refine hK.out _ _ hcs (fun hHeld => ?_)
          clear hK KK
          try simp only [Act.put, List.setIfInBounds_toArray, List.set_cons_zero, List.set_cons_succ]
          refine wpAnyH_done (by kernel_rfl) ?_ _
          clear hHeld
          go_wp2
          refine bodyPost_ret (v := .agg #[.bool L.leaf, .slice qka L.ks.length qkc, .slice qva L.vs.length qvc, .slice qda L.ds.length qdc]) (by simp [results, Try.results46, go_sem, m0, m1, m2, m3]) rfl ⟨_, _, _, rfl, HE.out⟩
      ·
        go_simp
        have hb : Below wq14.heap.size wq14 (wq14.alloc (.cells #[] 3)) := (Below.refl _ _).alloc (Nat.le_refl _) _
        have hEd : (wq14.alloc (.cells #[] 3)).heap[wq14.heap.size]? = some (.cells #[] 3 (0, 0)) := by show (wq14.heap.push _)[wq14.heap.size]? = _; simp
        have hged : w.heap.size + 1 < wq14.heap.size := hT.r.lt
        have hnkd : gqk ≠ wq14.heap.size := fun e => by have := (Array.getElem?_eq_some_iff.1 hEk).1; omega
        have hnvd : gqv ≠ wq14.heap.size := fun e => by have := (Array.getElem?_eq_some_iff.1 hEv).1; omega
        replace hEk := (hb.block _ (Array.getElem?_eq_some_iff.1 hEk).1).trans hEk
        replace hEv := (hb.block _ (Array.getElem?_eq_some_iff.1 hEv).1).trans hEv
        replace hT := hT.on hb
        clear hb
        refine hK.out _ _ hT.cells (fun hHeld => ?_)
        clear hK KK
        try simp only [Act.put, List.setIfInBounds_toArray, List.set_cons_zero, List.set_cons_succ]
        obtain ⟨wq22, hwq22⟩ : ∃ x, Hid ((wq14.alloc (.cells #[] 3)) = x) := ⟨_, rfl⟩
        obtain ⟨gqd, hgqd⟩ : ∃ x, Hid (wq14.heap.size = x) := ⟨_, rfl⟩
        rw [hwq22.out, hgqd.out] at hEd
        rw [hgqd.out] at hged
        rw [hgqd.out] at hnkd
        rw [hgqd.out] at hnvd
        rw [hwq22.out] at hT hHeld hEk hEv ⊢
        try rw [hgqd.out]
        refine wpAnyH_ready (rs := [5]) (by kernel_rfl) (by simp) ?_
        refine AllReadyH.cons rfl (fun KK hK => ?_) AllReadyH.nil
        rw [if_pos (by kernel_rfl)]
        have hLit : wq22.ownsRow gqk 9 1 (.slice (some ⟨gqk, 0, none⟩) 0 0) 0 [] := own_empty hEk
        refine wp_append_opt14 (.tmp 5) (.tmp 7) 24 rfl gqk 9 i0 (.string ⟨#[]⟩) 1 16 Try.underlying24 hi hz0 hz1 hz2 rfl (by decide) (.slice (some ⟨gqk, 0, none⟩) 0 0) 0 [] rfl hLit ka (L.ks.length) kc (txc L.ks) rfl (fun e => (HK.out.nil e)) (by simp [txc]) (HK.out.news (hT.bel)) (HK.out.one) (by unfold maxLen; omega) (by omega) (Nat.le_of_lt (Array.getElem?_eq_some_iff.1 hEk).1) ?_
        intro v6 wq23 hOa hgra
        simp only [Nat.zero_add, List.nil_append] at hOa
        replace hEv := (hgra.block gqv (Array.getElem?_eq_some_iff.1 hEv).1 (fun e => hnkv.symm (by simpa [Value.ownBlock] using e))).trans hEv
        replace hEd := (hgra.block gqd (Array.getElem?_eq_some_iff.1 hEd).1 (fun e => hnkd.symm (by simpa [Value.ownBlock] using e))).trans hEd
        replace hT := hT.grow hgra (fun j e => by simp only [Value.ownBlock, Option.some.injEq] at e; omega)
        obtain ⟨qka, qkc, eq, hOk⟩ := own_tx hOa
        subst eq
        clear hLit hOa hgra hEk
        refine hK.out _ _ hT.cells (fun hHeld => ?_)
        clear hK KK
        change wpAnyH _ _ _ _ _ _ _ (Act.put _ (some 8) _) _
        try simp only [Act.put, List.setIfInBounds_toArray, List.set_cons_zero, List.set_cons_succ]
        refine wpAnyH_ready (rs := [9]) (by kernel_rfl) (by simp) ?_
        refine AllReadyH.cons rfl (fun KK hK => ?_) AllReadyH.nil
        rw [if_pos (by kernel_rfl)]
        have hLit : wq23.ownsRow gqv 9 1 (.slice (some ⟨gqv, 0, none⟩) 0 0) 0 [] := own_empty hEv
        refine wp_append_opt14 (.tmp 9) (.tmp 11) 24 rfl gqv 9 i0 (.string ⟨#[]⟩) 1 16 Try.underlying24 hi hz0 hz1 hz2 rfl (by decide) (.slice (some ⟨gqv, 0, none⟩) 0 0) 0 [] rfl hLit va (L.vs.length) vc (txc L.vs) rfl (fun e => (HV.out.nil e)) (by simp [txc]) (HV.out.news (hT.bel)) (HV.out.one) (by unfold maxLen; omega) (by omega) (Nat.le_of_lt (Array.getElem?_eq_some_iff.1 hEv).1) ?_
        intro v6 wq24 hOa hgra
        simp only [Nat.zero_add, List.nil_append] at hOa
        replace hEd := (hgra.block gqd (Array.getElem?_eq_some_iff.1 hEd).1 (fun e => hnvd.symm (by simpa [Value.ownBlock] using e))).trans hEd
        replace hOk := And.intro (hOk.1.grownE hgra hEv) hOk.2
        replace hT := hT.grow hgra (fun j e => by simp only [Value.ownBlock, Option.some.injEq] at e; omega)
        obtain ⟨qva, qvc, eq, hOv⟩ := own_tx hOa
        subst eq
        clear hLit hOa hgra hEv
        refine hK.out _ _ hT.cells (fun hHeld => ?_)
        clear hK KK
        change wpAnyH _ _ _ _ _ _ _ (Act.put _ (some 12) _) _
        try simp only [Act.put, List.setIfInBounds_toArray, List.set_cons_zero, List.set_cons_succ]
        refine wpAnyH_ready (rs := [13]) (by kernel_rfl) (by simp) ?_
        refine AllReadyH.cons rfl (fun KK hK => ?_) AllReadyH.nil
        rw [if_pos (by kernel_rfl)]
        have hLit : wq24.ownsRow gqd 3 1 (.slice (some ⟨gqd, 0, none⟩) 0 0) 0 [] := own_empty hEd
        refine wp_append_opt14 (.tmp 13) (.tmp 15) 25 rfl gqd 3 j0 (.int .i64 0) 1 8 Try.underlying25 hj hy0 hy1 hy2 rfl (by decide) (.slice (some ⟨gqd, 0, none⟩) 0 0) 0 [] rfl hLit da (L.ds.length) dc (nuc L.ds) rfl (fun e => (HD.out.nil e)) (by simp [nuc]) (HD.out.news (hT.bel)) (HD.out.one) (by unfold maxLen; omega) (by omega) (Nat.le_of_lt (Array.getElem?_eq_some_iff.1 hEd).1) ?_
        intro v6 wq25 hOa hgra
        simp only [Nat.zero_add, List.nil_append] at hOa
        replace hOk := And.intro (hOk.1.grownE hgra hEd) hOk.2
        replace hOv := And.intro (hOv.1.grownE hgra hEd) hOv.2
        replace hT := hT.grow hgra (fun j e => by simp only [Value.ownBlock, Option.some.injEq] at e; omega)
        obtain ⟨qda, qdc, eq, hOd⟩ := own_nu hOa
        subst eq
        clear hLit hOa hgra hEd
        refine hK.out _ _ hT.cells (fun hHeld => ?_)
        clear hK KK
        change wpAnyH _ _ _ _ _ _ _ (Act.put _ (some 16) _) _
        try simp only [Act.put, List.setIfInBounds_toArray, List.set_cons_zero, List.set_cons_succ]
        refine' wpAnyH_take (i := 14) (v := _) rfl (by kernel_rfl) (by kernel_rfl) (by kernel_rfl) (fun _ _ _ h => h) (Or.inl ⟨by kernel_rfl, ?hcp14⟩) (by assumption) ?rcp14
        case hcp14 => intro W hW; obtain ⟨c0, c1, c2, c3⟩ := hW; go_simp; all_goals with_reducible rfl
        change wpAnyH _ _ _ _ _ _ _ (Act.put _ (some 17) _) _
        simp only [Act.put, List.setIfInBounds_toArray, List.set_cons_zero, List.set_cons_succ]
        refine wpAnyH_ready (rs := [15]) (by kernel_rfl) (by simp) ?_
        refine AllReadyH.cons rfl (fun KK hK => ?_) AllReadyH.nil
        obtain ⟨y0, y1, y2, y3⟩ := hT.r.cells
        obtain ⟨f0, f1, f2, f3⟩ := hT.r.fz
        have hr1 := hT.r.set0 (.bool L.leaf)
        have hr2 := hr1.set1 (.slice qka L.ks.length qkc)
        have hr3 := hr2.set2 (.slice qva L.vs.length qvc)
        have hr4 := hr3.set3 (.slice qda L.ds.length qdc)
        have hV : RV3 wq25 (.slice qka L.ks.length qkc) (.slice qva L.vs.length qvc) (.slice qda L.ds.length qdc) L := ⟨⟨_, _, rfl, hOk⟩, ⟨_, _, rfl, hOv⟩, ⟨_, _, rfl, hOd⟩⟩
        have hV4 := (((hV.setN (i := 0) (u := .bool L.leaf) hT.r cell4_no).setN (i := 1) (u := (.slice qka L.ks.length qkc)) hr1 cell4_no).setN (i := 2) (u := (.slice qva L.vs.length qvc)) hr2 cell4_no).setN (i := 3) (u := (.slice qda L.ds.length qdc)) hr3 cell4_no
        have hB4 := (((hT.bel.setCell (p := ⟨w.heap.size + 1, 0, none⟩) (by simp) (.bool L.leaf)).setCell (p := ⟨w.heap.size + 1, 1, none⟩) (by simp) (.slice qka L.ks.length qkc)).setCell (p := ⟨w.heap.size + 1, 2, none⟩) (by simp) (.slice qva L.vs.length qvc)).setCell (p := ⟨w.heap.size + 1, 3, none⟩) (by simp) (.slice qda L.ds.length qdc)
        have ha4 := (((hT.a.other (C := w.heap.size + 1) (i := 0) (u := .bool L.leaf) (by omega)).other (C := w.heap.size + 1) (i := 1) (u := (.slice qka L.ks.length qkc)) (by omega)).other (C := w.heap.size + 1) (i := 2) (u := (.slice qva L.vs.length qvc)) (by omega)).other (C := w.heap.size + 1) (i := 3) (u := (.slice qda L.ds.length qdc)) (by omega)
        go_simp
        have HE : Hid (RV3 _ (.slice qka L.ks.length qkc) (.slice qva L.vs.length qvc) (.slice qda L.ds.length qdc) L ∧ Below w.heap.size w _) := ⟨hV4, hB4⟩
        obtain ⟨m0, m1, m2, m3⟩ := hr4.cells
        have hcs := ha4.cells
        clear y0 y1 y2 y3 f0 f1 f2 f3 hr1 hr2 hr3 hr4 hV hV4 hB4 ha4 hT hOk hOv hOd
        refine hK.out _ _ hcs (fun hHeld => ?_)
        clear hK KK
        try simp only [Act.put, List.setIfInBounds_toArray, List.set_cons_zero, List.set_cons_succ]
        refine wpAnyH_done (by kernel_rfl) ?_ _
        clear hHeld
        go_wp2
        refine bodyPost_ret (v := .agg #[.bool L.leaf, .slice qka L.ks.length qkc, .slice qva L.vs.length qvc, .slice qda L.ds.length qdc]) (by simp [results, Try.results46, go_sem, m0, m1, m2, m3]) rfl ⟨_, _, _, rfl, HE.out⟩
    ·
      go_simp
      have hb : Below wq1.heap.size wq1 (wq1.alloc (.cells #[] 3)) := (Below.refl _ _).alloc (Nat.le_refl _) _
      have hEd : (wq1.alloc (.cells #[] 3)).heap[wq1.heap.size]? = some (.cells #[] 3 (0, 0)) := by show (wq1.heap.push _)[wq1.heap.size]? = _; simp
      have hged : w.heap.size + 1 < wq1.heap.size := hT.r.lt
      have hnkd : gqk ≠ wq1.heap.size := fun e => by have := (Array.getElem?_eq_some_iff.1 hEk).1; omega
      replace hEk := (hb.block _ (Array.getElem?_eq_some_iff.1 hEk).1).trans hEk
      replace hT := hT.on hb
      clear hb
      refine hK.out _ _ hT.cells (fun hHeld => ?_)
      clear hK KK
      try simp only [Act.put, List.setIfInBounds_toArray, List.set_cons_zero, List.set_cons_succ]
      obtain ⟨wq26, hwq26⟩ : ∃ x, Hid ((wq1.alloc (.cells #[] 3)) = x) := ⟨_, rfl⟩
      obtain ⟨gqd, hgqd⟩ : ∃ x, Hid (wq1.heap.size = x) := ⟨_, rfl⟩
      rw [hwq26.out, hgqd.out] at hEd
      rw [hgqd.out] at hged
      rw [hgqd.out] at hnkd
      rw [hwq26.out] at hT hHeld hEk ⊢
      try rw [hgqd.out]
      refine wpAnyH_ready (rs := [5, 6]) (by kernel_rfl) (by simp) ?_
      refine AllReadyH.cons rfl (fun KK hK => ?_) (AllReadyH.cons rfl (fun KK hK => ?_) AllReadyH.nil)
      ·
        rw [if_pos (by kernel_rfl)]
        have hLit : wq26.ownsRow gqk 9 1 (.slice (some ⟨gqk, 0, none⟩) 0 0) 0 [] := own_empty hEk
        refine wp_append_opt14 (.tmp 5) (.tmp 7) 24 rfl gqk 9 i0 (.string ⟨#[]⟩) 1 16 Try.underlying24 hi hz0 hz1 hz2 rfl (by decide) (.slice (some ⟨gqk, 0, none⟩) 0 0) 0 [] rfl hLit ka (L.ks.length) kc (txc L.ks) rfl (fun e => (HK.out.nil e)) (by simp [txc]) (HK.out.news (hT.bel)) (HK.out.one) (by unfold maxLen; omega) (by omega) (Nat.le_of_lt (Array.getElem?_eq_some_iff.1 hEk).1) ?_
        intro v6 wq27 hOa hgra
        simp only [Nat.zero_add, List.nil_append] at hOa
        replace hEd := (hgra.block gqd (Array.getElem?_eq_some_iff.1 hEd).1 (fun e => hnkd.symm (by simpa [Value.ownBlock] using e))).trans hEd
        replace hT := hT.grow hgra (fun j e => by simp only [Value.ownBlock, Option.some.injEq] at e; omega)
        obtain ⟨qka, qkc, eq, hOk⟩ := own_tx hOa
        subst eq
        clear hLit hOa hgra hEk
        refine hK.out _ _ hT.cells (fun hHeld => ?_)
        clear hK KK
        change wpAnyH _ _ _ _ _ _ _ (Act.put _ (some 8) _) _
        try simp only [Act.put, List.setIfInBounds_toArray, List.set_cons_zero, List.set_cons_succ]
        refine wpAnyH_ready (rs := [6]) (by kernel_rfl) (by simp) ?_
        refine AllReadyH.cons rfl (fun KK hK => ?_) AllReadyH.nil
        go_simp
        have hb : Below wq27.heap.size wq27 (wq27.alloc (.cells #[] 9)) := (Below.refl _ _).alloc (Nat.le_refl _) _
        have hEv : (wq27.alloc (.cells #[] 9)).heap[wq27.heap.size]? = some (.cells #[] 9 (0, 0)) := by show (wq27.heap.push _)[wq27.heap.size]? = _; simp
        have hgev : w.heap.size + 1 < wq27.heap.size := hT.r.lt
        have hndv : gqd ≠ wq27.heap.size := fun e => by have := (Array.getElem?_eq_some_iff.1 hEd).1; omega
        replace hEd := (hb.block _ (Array.getElem?_eq_some_iff.1 hEd).1).trans hEd
        replace hOk := OV.belowQ hOk hb
        replace hT := hT.on hb
        clear hb
        refine hK.out _ _ hT.cells (fun hHeld => ?_)
        clear hK KK
        try simp only [Act.put, List.setIfInBounds_toArray, List.set_cons_zero, List.set_cons_succ]
        obtain ⟨wq28, hwq28⟩ : ∃ x, Hid ((wq27.alloc (.cells #[] 9)) = x) := ⟨_, rfl⟩
        obtain ⟨gqv, hgqv⟩ : ∃ x, Hid (wq27.heap.size = x) := ⟨_, rfl⟩
        rw [hwq28.out, hgqv.out] at hEv
        rw [hgqv.out] at hgev
        rw [hgqv.out] at hndv
        rw [hwq28.out] at hT hHeld hEd hOk ⊢
        try rw [hgqv.out]
        refine wpAnyH_ready (rs := [9]) (by kernel_rfl) (by simp) ?_
        refine AllReadyH.cons rfl (fun KK hK => ?_) AllReadyH.nil
        rw [if_pos (by kernel_rfl)]
        have hLit : wq28.ownsRow gqv 9 1 (.slice (some ⟨gqv, 0, none⟩) 0 0) 0 [] := own_empty hEv
        refine wp_append_opt14 (.tmp 9) (.tmp 11) 24 rfl gqv 9 i0 (.string ⟨#[]⟩) 1 16 Try.underlying24 hi hz0 hz1 hz2 rfl (by decide) (.slice (some ⟨gqv, 0, none⟩) 0 0) 0 [] rfl hLit va (L.vs.length) vc (txc L.vs) rfl (fun e => (HV.out.nil e)) (by simp [txc]) (HV.out.news (hT.bel)) (HV.out.one) (by unfold maxLen; omega) (by omega) (Nat.le_of_lt (Array.getElem?_eq_some_iff.1 hEv).1) ?_
        intro v6 wq29 hOa hgra
        simp only [Nat.zero_add, List.nil_append] at hOa
        replace hEd := (hgra.block gqd (Array.getElem?_eq_some_iff.1 hEd).1 (fun e => hndv (by simpa [Value.ownBlock] using e))).trans hEd
        replace hOk := And.intro (hOk.1.grownE hgra hEv) hOk.2
        replace hT := hT.grow hgra (fun j e => by simp only [Value.ownBlock, Option.some.injEq] at e; omega)
        obtain ⟨qva, qvc, eq, hOv⟩ := own_tx hOa
        subst eq
        clear hLit hOa hgra hEv
        refine hK.out _ _ hT.cells (fun hHeld => ?_)
        clear hK KK
        change wpAnyH _ _ _ _ _ _ _ (Act.put _ (some 12) _) _
        try simp only [Act.put, List.setIfInBounds_toArray, List.set_cons_zero, List.set_cons_succ]
        refine wpAnyH_ready (rs := [13]) (by kernel_rfl) (by simp) ?_
        refine AllReadyH.cons rfl (fun KK hK => ?_) AllReadyH.nil
        rw [if_pos (by kernel_rfl)]
        have hLit : wq29.ownsRow gqd 3 1 (.slice (some ⟨gqd, 0, none⟩) 0 0) 0 [] := own_empty hEd
        refine wp_append_opt14 (.tmp 13) (.tmp 15) 25 rfl gqd 3 j0 (.int .i64 0) 1 8 Try.underlying25 hj hy0 hy1 hy2 rfl (by decide) (.slice (some ⟨gqd, 0, none⟩) 0 0) 0 [] rfl hLit da (L.ds.length) dc (nuc L.ds) rfl (fun e => (HD.out.nil e)) (by simp [nuc]) (HD.out.news (hT.bel)) (HD.out.one) (by unfold maxLen; omega) (by omega) (Nat.le_of_lt (Array.getElem?_eq_some_iff.1 hEd).1) ?_
        intro v6 wq30 hOa hgra
        simp only [Nat.zero_add, List.nil_append] at hOa
        replace hOk := And.intro (hOk.1.grownE hgra hEd) hOk.2
        replace hOv := And.intro (hOv.1.grownE hgra hEd) hOv.2
        replace hT := hT.grow hgra (fun j e => by simp only [Value.ownBlock, Option.some.injEq] at e; omega)
        obtain ⟨qda, qdc, eq, hOd⟩ := own_nu hOa
        subst eq
        clear hLit hOa hgra hEd
        refine hK.out _ _ hT.cells (fun hHeld => ?_)
        clear hK KK
        change wpAnyH _ _ _ _ _ _ _ (Act.put _ (some 16) _) _
        try simp only [Act.put, List.setIfInBounds_toArray, List.set_cons_zero, List.set_cons_succ]
        refine' wpAnyH_take (i := 14) (v := _) rfl (by kernel_rfl) (by kernel_rfl) (by kernel_rfl) (fun _ _ _ h => h) (Or.inl ⟨by kernel_rfl, ?hcp15⟩) (by assumption) ?rcp15
        case hcp15 => intro W hW; obtain ⟨c0, c1, c2, c3⟩ := hW; go_simp; all_goals with_reducible rfl
        change wpAnyH _ _ _ _ _ _ _ (Act.put _ (some 17) _) _
        simp only [Act.put, List.setIfInBounds_toArray, List.set_cons_zero, List.set_cons_succ]
        refine wpAnyH_ready (rs := [15]) (by kernel_rfl) (by simp) ?_
        refine AllReadyH.cons rfl (fun KK hK => ?_) AllReadyH.nil
        obtain ⟨y0, y1, y2, y3⟩ := hT.r.cells
        obtain ⟨f0, f1, f2, f3⟩ := hT.r.fz
        have hr1 := hT.r.set0 (.bool L.leaf)
        have hr2 := hr1.set1 (.slice qka L.ks.length qkc)
        have hr3 := hr2.set2 (.slice qva L.vs.length qvc)
        have hr4 := hr3.set3 (.slice qda L.ds.length qdc)
        have hV : RV3 wq30 (.slice qka L.ks.length qkc) (.slice qva L.vs.length qvc) (.slice qda L.ds.length qdc) L := ⟨⟨_, _, rfl, hOk⟩, ⟨_, _, rfl, hOv⟩, ⟨_, _, rfl, hOd⟩⟩
        have hV4 := (((hV.setN (i := 0) (u := .bool L.leaf) hT.r cell4_no).setN (i := 1) (u := (.slice qka L.ks.length qkc)) hr1 cell4_no).setN (i := 2) (u := (.slice qva L.vs.length qvc)) hr2 cell4_no).setN (i := 3) (u := (.slice qda L.ds.length qdc)) hr3 cell4_no
        have hB4 := (((hT.bel.setCell (p := ⟨w.heap.size + 1, 0, none⟩) (by simp) (.bool L.leaf)).setCell (p := ⟨w.heap.size + 1, 1, none⟩) (by simp) (.slice qka L.ks.length qkc)).setCell (p := ⟨w.heap.size + 1, 2, none⟩) (by simp) (.slice qva L.vs.length qvc)).setCell (p := ⟨w.heap.size + 1, 3, none⟩) (by simp) (.slice qda L.ds.length qdc)
        have ha4 := (((hT.a.other (C := w.heap.size + 1) (i := 0) (u := .bool L.leaf) (by omega)).other (C := w.heap.size + 1) (i := 1) (u := (.slice qka L.ks.length qkc)) (by omega)).other (C := w.heap.size + 1) (i := 2) (u := (.slice qva L.vs.length qvc)) (by omega)).other (C := w.heap.size + 1) (i := 3) (u := (.slice qda L.ds.length qdc)) (by omega)
        go_simp
        have HE : Hid (RV3 _ (.slice qka L.ks.length qkc) (.slice qva L.vs.length qvc) (.slice qda L.ds.length qdc) L ∧ Below w.heap.size w _) := ⟨hV4, hB4⟩
        obtain ⟨m0, m1, m2, m3⟩ := hr4.cells
        have hcs := ha4.cells
        clear y0 y1 y2 y3 f0 f1 f2 f3 hr1 hr2 hr3 hr4 hV hV4 hB4 ha4 hT hOk hOv hOd
        refine hK.out _ _ hcs (fun hHeld => ?_)
        clear hK KK
        try simp only [Act.put, List.setIfInBounds_toArray, List.set_cons_zero, List.set_cons_succ]
        refine wpAnyH_done (by kernel_rfl) ?_ _
        clear hHeld
        go_wp2
        refine bodyPost_ret (v := .agg #[.bool L.leaf, .slice qka L.ks.length qkc, .slice qva L.vs.length qvc, .slice qda L.ds.length qdc]) (by simp [results, Try.results46, go_sem, m0, m1, m2, m3]) rfl ⟨_, _, _, rfl, HE.out⟩
      ·
        go_simp
        have hb : Below wq26.heap.size wq26 (wq26.alloc (.cells #[] 9)) := (Below.refl _ _).alloc (Nat.le_refl _) _
        have hEv : (wq26.alloc (.cells #[] 9)).heap[wq26.heap.size]? = some (.cells #[] 9 (0, 0)) := by show (wq26.heap.push _)[wq26.heap.size]? = _; simp
        have hgev : w.heap.size + 1 < wq26.heap.size := hT.r.lt
        have hnkv : gqk ≠ wq26.heap.size := fun e => by have := (Array.getElem?_eq_some_iff.1 hEk).1; omega
        have hndv : gqd ≠ wq26.heap.size := fun e => by have := (Array.getElem?_eq_some_iff.1 hEd).1; omega
        replace hEk := (hb.block _ (Array.getElem?_eq_some_iff.1 hEk).1).trans hEk
        replace hEd := (hb.block _ (Array.getElem?_eq_some_iff.1 hEd).1).trans hEd
        replace hT := hT.on hb
        clear hb
        refine hK.out _ _ hT.cells (fun hHeld => ?_)
        clear hK KK
        try simp only [Act.put, List.setIfInBounds_toArray, List.set_cons_zero, List.set_cons_succ]
        obtain ⟨wq31, hwq31⟩ : ∃ x, Hid ((wq26.alloc (.cells #[] 9)) = x) := ⟨_, rfl⟩
        obtain ⟨gqv, hgqv⟩ : ∃ x, Hid (wq26.heap.size = x) := ⟨_, rfl⟩
        rw [hwq31.out, hgqv.out] at hEv
        rw [hgqv.out] at hgev
        rw [hgqv.out] at hnkv
        rw [hgqv.out] at hndv
        rw [hwq31.out] at hT hHeld hEk hEd ⊢
        try rw [hgqv.out]
        refine wpAnyH_ready (rs := [5]) (by kernel_rfl) (by simp) ?_
        refine AllReadyH.cons rfl (fun KK hK => ?_) AllReadyH.nil
        rw [if_pos (by kernel_rfl)]
        have hLit : wq31.ownsRow gqk 9 1 (.slice (some ⟨gqk, 0, none⟩) 0 0) 0 [] := own_empty hEk
        refine wp_append_opt14 (.tmp 5) (.tmp 7) 24 rfl gqk 9 i0 (.string ⟨#[]⟩) 1 16 Try.underlying24 hi hz0 hz1 hz2 rfl (by decide) (.slice (some ⟨gqk, 0, none⟩) 0 0) 0 [] rfl hLit ka (L.ks.length) kc (txc L.ks) rfl (fun e => (HK.out.nil e)) (by simp [txc]) (HK.out.news (hT.bel)) (HK.out.one) (by unfold maxLen; omega) (by omega) (Nat.le_of_lt (Array.getElem?_eq_some_iff.1 hEk).1) ?_
        intro v6 wq32 hOa hgra
        simp only [Nat.zero_add, List.nil_append] at hOa
        replace hEd := (hgra.block gqd (Array.getElem?_eq_some_iff.1 hEd).1 (fun e => hnkd.symm (by simpa [Value.ownBlock] using e))).trans hEd
        replace hEv := (hgra.block gqv (Array.getElem?_eq_some_iff.1 hEv).1 (fun e => hnkv.symm (by simpa [Value.ownBlock] using e))).trans hEv
        replace hT := hT.grow hgra (fun j e => by simp only [Value.ownBlock, Option.some.injEq] at e; omega)
        obtain ⟨qka, qkc, eq, hOk⟩ := own_tx hOa
        subst eq
        clear hLit hOa hgra hEk
        refine hK.out _ _ hT.cells (fun hHeld => ?_)
        clear hK KK
        change wpAnyH _ _ _ _ _ _ _ (Act.put _ (some 8) _) _
        try simp only [Act.put, List.setIfInBounds_toArray, List.set_cons_zero, List.set_cons_succ]
        refine wpAnyH_ready (rs := [9]) (by kernel_rfl) (by simp) ?_
        refine AllReadyH.cons rfl (fun KK hK => ?_) AllReadyH.nil
        rw [if_pos (by kernel_rfl)]
        have hLit : wq32.ownsRow gqv 9 1 (.slice (some ⟨gqv, 0, none⟩) 0 0) 0 [] := own_empty hEv
        refine wp_append_opt14 (.tmp 9) (.tmp 11) 24 rfl gqv 9 i0 (.string ⟨#[]⟩) 1 16 Try.underlying24 hi hz0 hz1 hz2 rfl (by decide) (.slice (some ⟨gqv, 0, none⟩) 0 0) 0 [] rfl hLit va (L.vs.length) vc (txc L.vs) rfl (fun e => (HV.out.nil e)) (by simp [txc]) (HV.out.news (hT.bel)) (HV.out.one) (by unfold maxLen; omega) (by omega) (Nat.le_of_lt (Array.getElem?_eq_some_iff.1 hEv).1) ?_
        intro v6 wq33 hOa hgra
        simp only [Nat.zero_add, List.nil_append] at hOa
        replace hEd := (hgra.block gqd (Array.getElem?_eq_some_iff.1 hEd).1 (fun e => hndv (by simpa [Value.ownBlock] using e))).trans hEd
        replace hOk := And.intro (hOk.1.grownE hgra hEv) hOk.2
        replace hT := hT.grow hgra (fun j e => by simp only [Value.ownBlock, Option.some.injEq] at e; omega)
        obtain ⟨qva, qvc, eq, hOv⟩ := own_tx hOa
        subst eq
        clear hLit hOa hgra hEv
        refine hK.out _ _ hT.cells (fun hHeld => ?_)
        clear hK KK
        change wpAnyH _ _ _ _ _ _ _ (Act.put _ (some 12) _) _
        try simp only [Act.put, List.setIfInBounds_toArray, List.set_cons_zero, List.set_cons_succ]
        refine wpAnyH_ready (rs := [13]) (by kernel_rfl) (by simp) ?_
        refine AllReadyH.cons rfl (fun KK hK => ?_) AllReadyH.nil
        rw [if_pos (by kernel_rfl)]
        have hLit : wq33.ownsRow gqd 3 1 (.slice (some ⟨gqd, 0, none⟩) 0 0) 0 [] := own_empty hEd
        refine wp_append_opt14 (.tmp 13) (.tmp 15) 25 rfl gqd 3 j0 (.int .i64 0) 1 8 Try.underlying25 hj hy0 hy1 hy2 rfl (by decide) (.slice (some ⟨gqd, 0, none⟩) 0 0) 0 [] rfl hLit da (L.ds.length) dc (nuc L.ds) rfl (fun e => (HD.out.nil e)) (by simp [nuc]) (HD.out.news (hT.bel)) (HD.out.one) (by unfold maxLen; omega) (by omega) (Nat.le_of_lt (Array.getElem?_eq_some_iff.1 hEd).1) ?_
        intro v6 wq34 hOa hgra
        simp only [Nat.zero_add, List.nil_append] at hOa
        replace hOk := And.intro (hOk.1.grownE hgra hEd) hOk.2
        replace hOv := And.intro (hOv.1.grownE hgra hEd) hOv.2
        replace hT := hT.grow hgra (fun j e => by simp only [Value.ownBlock, Option.some.injEq] at e; omega)
        obtain ⟨qda, qdc, eq, hOd⟩ := own_nu hOa
        subst eq
        clear hLit hOa hgra hEd
        refine hK.out _ _ hT.cells (fun hHeld => ?_)
        clear hK KK
        change wpAnyH _ _ _ _ _ _ _ (Act.put _ (some 16) _) _
        try simp only [Act.put, List.setIfInBounds_toArray, List.set_cons_zero, List.set_cons_succ]
        refine' wpAnyH_take (i := 14) (v := _) rfl (by kernel_rfl) (by kernel_rfl) (by kernel_rfl) (fun _ _ _ h => h) (Or.inl ⟨by kernel_rfl, ?hcp16⟩) (by assumption) ?rcp16
        case hcp16 => intro W hW; obtain ⟨c0, c1, c2, c3⟩ := hW; go_simp; all_goals with_reducible rfl
        change wpAnyH _ _ _ _ _ _ _ (Act.put _ (some 17) _) _
        simp only [Act.put, List.setIfInBounds_toArray, List.set_cons_zero, List.set_cons_succ]
        refine wpAnyH_ready (rs := [15]) (by kernel_rfl) (by simp) ?_
        refine AllReadyH.cons rfl (fun KK hK => ?_) AllReadyH.nil
        obtain ⟨y0, y1, y2, y3⟩ := hT.r.cells
        obtain ⟨f0, f1, f2, f3⟩ := hT.r.fz
        have hr1 := hT.r.set0 (.bool L.leaf)
        have hr2 := hr1.set1 (.slice qka L.ks.length qkc)
        have hr3 := hr2.set2 (.slice qva L.vs.length qvc)
        have hr4 := hr3.set3 (.slice qda L.ds.length qdc)
        have hV : RV3 wq34 (.slice qka L.ks.length qkc) (.slice qva L.vs.length qvc) (.slice qda L.ds.length qdc) L := ⟨⟨_, _, rfl, hOk⟩, ⟨_, _, rfl, hOv⟩, ⟨_, _, rfl, hOd⟩⟩
        have hV4 := (((hV.setN (i := 0) (u := .bool L.leaf) hT.r cell4_no).setN (i := 1) (u := (.slice qka L.ks.length qkc)) hr1 cell4_no).setN (i := 2) (u := (.slice qva L.vs.length qvc)) hr2 cell4_no).setN (i := 3) (u := (.slice qda L.ds.length qdc)) hr3 cell4_no
        have hB4 := (((hT.bel.setCell (p := ⟨w.heap.size + 1, 0, none⟩) (by simp) (.bool L.leaf)).setCell (p := ⟨w.heap.size + 1, 1, none⟩) (by simp) (.slice qka L.ks.length qkc)).setCell (p := ⟨w.heap.size + 1, 2, none⟩) (by simp) (.slice qva L.vs.length qvc)).setCell (p := ⟨w.heap.size + 1, 3, none⟩) (by simp) (.slice qda L.ds.length qdc)
        have ha4 := (((hT.a.other (C := w.heap.size + 1) (i := 0) (u := .bool L.leaf) (by omega)).other (C := w.heap.size + 1) (i := 1) (u := (.slice qka L.ks.length qkc)) (by omega)).other (C := w.heap.size + 1) (i := 2) (u := (.slice qva L.vs.length qvc)) (by omega)).other (C := w.heap.size + 1) (i := 3) (u := (.slice qda L.ds.length qdc)) (by omega)
        go_simp
        have HE : Hid (RV3 _ (.slice qka L.ks.length qkc) (.slice qva L.vs.length qvc) (.slice qda L.ds.length qdc) L ∧ Below w.heap.size w _) := ⟨hV4, hB4⟩
        obtain ⟨m0, m1, m2, m3⟩ := hr4.cells
        have hcs := ha4.cells
        clear y0 y1 y2 y3 f0 f1 f2 f3 hr1 hr2 hr3 hr4 hV hV4 hB4 ha4 hT hOk hOv hOd
        refine hK.out _ _ hcs (fun hHeld => ?_)
        clear hK KK
        try simp only [Act.put, List.setIfInBounds_toArray, List.set_cons_zero, List.set_cons_succ]
        refine wpAnyH_done (by kernel_rfl) ?_ _
        clear hHeld
        go_wp2
        refine bodyPost_ret (v := .agg #[.bool L.leaf, .slice qka L.ks.length qkc, .slice qva L.vs.length qvc, .slice qda L.ds.length qdc]) (by simp [results, Try.results46, go_sem, m0, m1, m2, m3]) rfl ⟨_, _, _, rfl, HE.out⟩
  ·
    go_simp
    have hb : Below wd.heap.size wd (wd.alloc (.cells #[] 9)) := (Below.refl _ _).alloc (Nat.le_refl _) _
    have hEv : (wd.alloc (.cells #[] 9)).heap[wd.heap.size]? = some (.cells #[] 9 (0, 0)) := by show (wd.heap.push _)[wd.heap.size]? = _; simp
    have hgev : w.heap.size + 1 < wd.heap.size := hT.r.lt
    replace hT := hT.on hb
    clear hb
    refine hK.out _ _ hT.cells (fun hHeld => ?_)
    clear hK KK
    try simp only [Act.put, List.setIfInBounds_toArray, List.set_cons_zero, List.set_cons_succ]
    obtain ⟨wq35, hwq35⟩ : ∃ x, Hid ((wd.alloc (.cells #[] 9)) = x) := ⟨_, rfl⟩
    obtain ⟨gqv, hgqv⟩ : ∃ x, Hid (wd.heap.size = x) := ⟨_, rfl⟩
    rw [hwq35.out, hgqv.out] at hEv
    rw [hgqv.out] at hgev
    rw [hwq35.out] at hT hHeld ⊢
    try rw [hgqv.out]
    refine wpAnyH_ready (rs := [2, 10]) (by kernel_rfl) (by simp) ?_
    refine AllReadyH.cons rfl (fun KK hK => ?_) (AllReadyH.cons rfl (fun KK hK => ?_) AllReadyH.nil)
    ·
      go_simp
      have hb : Below wq35.heap.size wq35 (wq35.alloc (.cells #[] 9)) := (Below.refl _ _).alloc (Nat.le_refl _) _
      have hEk : (wq35.alloc (.cells #[] 9)).heap[wq35.heap.size]? = some (.cells #[] 9 (0, 0)) := by show (wq35.heap.push _)[wq35.heap.size]? = _; simp
      have hgek : w.heap.size + 1 < wq35.heap.size := hT.r.lt
      have hnvk : gqv ≠ wq35.heap.size := fun e => by have := (Array.getElem?_eq_some_iff.1 hEv).1; omega
      replace hEv := (hb.block _ (Array.getElem?_eq_some_iff.1 hEv).1).trans hEv
      replace hT := hT.on hb
      clear hb
      refine hK.out _ _ hT.cells (fun hHeld => ?_)
      clear hK KK
      try simp only [Act.put, List.setIfInBounds_toArray, List.set_cons_zero, List.set_cons_succ]
      obtain ⟨wq36, hwq36⟩ : ∃ x, Hid ((wq35.alloc (.cells #[] 9)) = x) := ⟨_, rfl⟩
      obtain ⟨gqk, hgqk⟩ : ∃ x, Hid (wq35.heap.size = x) := ⟨_, rfl⟩
      rw [hwq36.out, hgqk.out] at hEk
      rw [hgqk.out] at hgek
      rw [hgqk.out] at hnvk
      rw [hwq36.out] at hT hHeld hEv ⊢
      try rw [hgqk.out]
      refine wpAnyH_ready (rs := [5, 10]) (by kernel_rfl) (by simp) ?_
      refine AllReadyH.cons rfl (fun KK hK => ?_) (AllReadyH.cons rfl (fun KK hK => ?_) AllReadyH.nil)
      ·
        rw [if_pos (by kernel_rfl)]
        have hLit : wq36.ownsRow gqk 9 1 (.slice (some ⟨gqk, 0, none⟩) 0 0) 0 [] := own_empty hEk
        refine wp_append_opt14 (.tmp 5) (.tmp 7) 24 rfl gqk 9 i0 (.string ⟨#[]⟩) 1 16 Try.underlying24 hi hz0 hz1 hz2 rfl (by decide) (.slice (some ⟨gqk, 0, none⟩) 0 0) 0 [] rfl hLit ka (L.ks.length) kc (txc L.ks) rfl (fun e => (HK.out.nil e)) (by simp [txc]) (HK.out.news (hT.bel)) (HK.out.one) (by unfold maxLen; omega) (by omega) (Nat.le_of_lt (Array.getElem?_eq_some_iff.1 hEk).1) ?_
        intro v6 wq37 hOa hgra
        simp only [Nat.zero_add, List.nil_append] at hOa
        replace hEv := (hgra.block gqv (Array.getElem?_eq_some_iff.1 hEv).1 (fun e => hnvk (by simpa [Value.ownBlock] using e))).trans hEv
        replace hT := hT.grow hgra (fun j e => by simp only [Value.ownBlock, Option.some.injEq] at e; omega)
        obtain ⟨qka, qkc, eq, hOk⟩ := own_tx hOa
        subst eq
        clear hLit hOa hgra hEk
        refine hK.out _ _ hT.cells (fun hHeld => ?_)
        clear hK KK
        change wpAnyH _ _ _ _ _ _ _ (Act.put _ (some 8) _) _
        try simp only [Act.put, List.setIfInBounds_toArray, List.set_cons_zero, List.set_cons_succ]
        refine wpAnyH_ready (rs := [9, 10]) (by kernel_rfl) (by simp) ?_
        refine AllReadyH.cons rfl (fun KK hK => ?_) (AllReadyH.cons rfl (fun KK hK => ?_) AllReadyH.nil)
        ·
          rw [if_pos (by kernel_rfl)]
          have hLit : wq37.ownsRow gqv 9 1 (.slice (some ⟨gqv, 0, none⟩) 0 0) 0 [] := own_empty hEv
          refine wp_append_opt14 (.tmp 9) (.tmp 11) 24 rfl gqv 9 i0 (.string ⟨#[]⟩) 1 16 Try.underlying24 hi hz0 hz1 hz2 rfl (by decide) (.slice (some ⟨gqv, 0, none⟩) 0 0) 0 [] rfl hLit va (L.vs.length) vc (txc L.vs) rfl (fun e => (HV.out.nil e)) (by simp [txc]) (HV.out.news (hT.bel)) (HV.out.one) (by unfold maxLen; omega) (by omega) (Nat.le_of_lt (Array.getElem?_eq_some_iff.1 hEv).1) ?_
          intro v6 wq38 hOa hgra
          simp only [Nat.zero_add, List.nil_append] at hOa
          replace hOk := And.intro (hOk.1.grownE hgra hEv) hOk.2
          replace hT := hT.grow hgra (fun j e => by simp only [Value.ownBlock, Option.some.injEq] at e; omega)
          obtain ⟨qva, qvc, eq, hOv⟩ := own_tx hOa
          subst eq
          clear hLit hOa hgra hEv
          refine hK.out _ _ hT.cells (fun hHeld => ?_)
          clear hK KK
          change wpAnyH _ _ _ _ _ _ _ (Act.put _ (some 12) _) _
          try simp only [Act.put, List.setIfInBounds_toArray, List.set_cons_zero, List.set_cons_succ]
          refine wpAnyH_ready (rs := [10]) (by kernel_rfl) (by simp) ?_
          refine AllReadyH.cons rfl (fun KK hK => ?_) AllReadyH.nil
          go_simp
          have hb : Below wq38.heap.size wq38 (wq38.alloc (.cells #[] 3)) := (Below.refl _ _).alloc (Nat.le_refl _) _
          have hEd : (wq38.alloc (.cells #[] 3)).heap[wq38.heap.size]? = some (.cells #[] 3 (0, 0)) := by show (wq38.heap.push _)[wq38.heap.size]? = _; simp
          have hged : w.heap.size + 1 < wq38.heap.size := hT.r.lt
          replace hOk := OV.belowQ hOk hb
          replace hOv := OV.belowQ hOv hb
          replace hT := hT.on hb
          clear hb
          refine hK.out _ _ hT.cells (fun hHeld => ?_)
          clear hK KK
          try simp only [Act.put, List.setIfInBounds_toArray, List.set_cons_zero, List.set_cons_succ]
          obtain ⟨wq39, hwq39⟩ : ∃ x, Hid ((wq38.alloc (.cells #[] 3)) = x) := ⟨_, rfl⟩
          obtain ⟨gqd, hgqd⟩ : ∃ x, Hid (wq38.heap.size = x) := ⟨_, rfl⟩
          rw [hwq39.out, hgqd.out] at hEd
          rw [hgqd.out] at hged
          rw [hwq39.out] at hT hHeld hOk hOv ⊢
          try rw [hgqd.out]
          refine wpAnyH_ready (rs := [13]) (by kernel_rfl) (by simp) ?_
          refine AllReadyH.cons rfl (fun KK hK => ?_) AllReadyH.nil
          rw [if_pos (by kernel_rfl)]
          have hLit : wq39.ownsRow gqd 3 1 (.slice (some ⟨gqd, 0, none⟩) 0 0) 0 [] := own_empty hEd
          refine wp_append_opt14 (.tmp 13) (.tmp 15) 25 rfl gqd 3 j0 (.int .i64 0) 1 8 Try.underlying25 hj hy0 hy1 hy2 rfl (by decide) (.slice (some ⟨gqd, 0, none⟩) 0 0) 0 [] rfl hLit da (L.ds.length) dc (nuc L.ds) rfl (fun e => (HD.out.nil e)) (by simp [nuc]) (HD.out.news (hT.bel)) (HD.out.one) (by unfold maxLen; omega) (by omega) (Nat.le_of_lt (Array.getElem?_eq_some_iff.1 hEd).1) ?_
          intro v6 wq40 hOa hgra
          simp only [Nat.zero_add, List.nil_append] at hOa
          replace hOk := And.intro (hOk.1.grownE hgra hEd) hOk.2
          replace hOv := And.intro (hOv.1.grownE hgra hEd) hOv.2
          replace hT := hT.grow hgra (fun j e => by simp only [Value.ownBlock, Option.some.injEq] at e; omega)
          obtain ⟨qda, qdc, eq, hOd⟩ := own_nu hOa
          subst eq
          clear hLit hOa hgra hEd
          refine hK.out _ _ hT.cells (fun hHeld => ?_)
          clear hK KK
          change wpAnyH _ _ _ _ _ _ _ (Act.put _ (some 16) _) _
          try simp only [Act.put, List.setIfInBounds_toArray, List.set_cons_zero, List.set_cons_succ]
          refine' wpAnyH_take (i := 14) (v := _) rfl (by kernel_rfl) (by kernel_rfl) (by kernel_rfl) (fun _ _ _ h => h) (Or.inl ⟨by kernel_rfl, ?hcp17⟩) (by assumption) ?rcp17
          case hcp17 => intro W hW; obtain ⟨c0, c1, c2, c3⟩ := hW; go_simp; all_goals with_reducible rfl
          change wpAnyH _ _ _ _ _ _ _ (Act.put _ (some 17) _) _
          simp only [Act.put, List.setIfInBounds_toArray, List.set_cons_zero, List.set_cons_succ]
          refine wpAnyH_ready (rs := [15]) (by kernel_rfl) (by simp) ?_
          refine AllReadyH.cons rfl (fun KK hK => ?_) AllReadyH.nil
          obtain ⟨y0, y1, y2, y3⟩ := hT.r.cells
          obtain ⟨f0, f1, f2, f3⟩ := hT.r.fz
          have hr1 := hT.r.set0 (.bool L.leaf)
          have hr2 := hr1.set1 (.slice qka L.ks.length qkc)
          have hr3 := hr2.set2 (.slice qva L.vs.length qvc)
          have hr4 := hr3.set3 (.slice qda L.ds.length qdc)
          have hV : RV3 wq40 (.slice qka L.ks.length qkc) (.slice qva L.vs.length qvc) (.slice qda L.ds.length qdc) L := ⟨⟨_, _, rfl, hOk⟩, ⟨_, _, rfl, hOv⟩, ⟨_, _, rfl, hOd⟩⟩
          have hV4 := (((hV.setN (i := 0) (u := .bool L.leaf) hT.r cell4_no).setN (i := 1) (u := (.slice qka L.ks.length qkc)) hr1 cell4_no).setN (i := 2) (u := (.slice qva L.vs.length qvc)) hr2 cell4_no).setN (i := 3) (u := (.slice qda L.ds.length qdc)) hr3 cell4_no
          have hB4 := (((hT.bel.setCell (p := ⟨w.heap.size + 1, 0, none⟩) (by simp) (.bool L.leaf)).setCell (p := ⟨w.heap.size + 1, 1, none⟩) (by simp) (.slice qka L.ks.length qkc)).setCell (p := ⟨w.heap.size + 1, 2, none⟩) (by simp) (.slice qva L.vs.length qvc)).setCell (p := ⟨w.heap.size + 1, 3, none⟩) (by simp) (.slice qda L.ds.length qdc)
          have ha4 := (((hT.a.other (C := w.heap.size + 1) (i := 0) (u := .bool L.leaf) (by omega)).other (C := w.heap.size + 1) (i := 1) (u := (.slice qka L.ks.length qkc)) (by omega)).other (C := w.heap.size + 1) (i := 2) (u := (.slice qva L.vs.length qvc)) (by omega)).other (C := w.heap.size + 1) (i := 3) (u := (.slice qda L.ds.length qdc)) (by omega)
          go_simp
          have HE : Hid (RV3 _ (.slice qka L.ks.length qkc) (.slice qva L.vs.length qvc) (.slice qda L.ds.length qdc) L ∧ Below w.heap.size w _) := ⟨hV4, hB4⟩
          obtain ⟨m0, m1, m2, m3⟩ := hr4.cells
          have hcs := ha4.cells
          clear y0 y1 y2 y3 f0 f1 f2 f3 hr1 hr2 hr3 hr4 hV hV4 hB4 ha4 hT hOk hOv hOd
          refine hK.out _ _ hcs (fun hHeld => ?_)
          clear hK KK
          try simp only [Act.put, List.setIfInBounds_toArray, List.set_cons_zero, List.set_cons_succ]
          refine wpAnyH_done (by kernel_rfl) ?_ _
          clear hHeld
          go_wp2
          refine bodyPost_ret (v := .agg #[.bool L.leaf, .slice qka L.ks.length qkc, .slice qva L.vs.length qvc, .slice qda L.ds.length qdc]) (by simp [results, Try.results46, go_sem, m0, m1, m2, m3]) rfl ⟨_, _, _, rfl, HE.out⟩
        ·
          go_simp
          have hb : Below wq37.heap.size wq37 (wq37.alloc (.cells #[] 3)) := (Below.refl _ _).alloc (Nat.le_refl _) _
          have hEd : (wq37.alloc (.cells #[] 3)).heap[wq37.heap.size]? = some (.cells #[] 3 (0, 0)) := by show (wq37.heap.push _)[wq37.heap.size]? = _; simp
          have hged : w.heap.size + 1 < wq37.heap.size := hT.r.lt
          have hnvd : gqv ≠ wq37.heap.size := fun e => by have := (Array.getElem?_eq_some_iff.1 hEv).1; omega
          replace hEv := (hb.block _ (Array.getElem?_eq_some_iff.1 hEv).1).trans hEv
          replace hOk := OV.belowQ hOk hb
          replace hT := hT.on hb
          clear hb
          refine hK.out _ _ hT.cells (fun hHeld => ?_)
          clear hK KK
          try simp only [Act.put, List.setIfInBounds_toArray, List.set_cons_zero, List.set_cons_succ]
          obtain ⟨wq41, hwq41⟩ : ∃ x, Hid ((wq37.alloc (.cells #[] 3)) = x) := ⟨_, rfl⟩
          obtain ⟨gqd, hgqd⟩ : ∃ x, Hid (wq37.heap.size = x) := ⟨_, rfl⟩
          rw [hwq41.out, hgqd.out] at hEd
          rw [hgqd.out] at hged
          rw [hgqd.out] at hnvd
          rw [hwq41.out] at hT hHeld hEv hOk ⊢
          try rw [hgqd.out]
          refine wpAnyH_ready (rs := [9]) (by kernel_rfl) (by simp) ?_
          refine AllReadyH.cons rfl (fun KK hK => ?_) AllReadyH.nil
          rw [if_pos (by kernel_rfl)]
          have hLit : wq41.ownsRow gqv 9 1 (.slice (some ⟨gqv, 0, none⟩) 0 0) 0 [] := own_empty hEv
          refine wp_append_opt14 (.tmp 9) (.tmp 11) 24 rfl gqv 9 i0 (.string ⟨#[]⟩) 1 16 Try.underlying24 hi hz0 hz1 hz2 rfl (by decide) (.slice (some ⟨gqv, 0, none⟩) 0 0) 0 [] rfl hLit va (L.vs.length) vc (txc L.vs) rfl (fun e => (HV.out.nil e)) (by simp [txc]) (HV.out.news (hT.bel)) (HV.out.one) (by unfold maxLen; omega) (by omega) (Nat.le_of_lt (Array.getElem?_eq_some_iff.1 hEv).1) ?_
          intro v6 wq42 hOa hgra
          simp only [Nat.zero_add, List.nil_append] at hOa
          replace hEd := (hgra.block gqd (Array.getElem?_eq_some_iff.1 hEd).1 (fun e => hnvd.symm (by simpa [Value.ownBlock] using e))).trans hEd
          replace hOk := And.intro (hOk.1.grownE hgra hEv) hOk.2
          replace hT := hT.grow hgra (fun j e => by simp only [Value.ownBlock, Option.some.injEq] at e; omega)
          obtain ⟨qva, qvc, eq, hOv⟩ := own_tx hOa
          subst eq
          clear hLit hOa hgra hEv
          refine hK.out _ _ hT.cells (fun hHeld => ?_)
          clear hK KK
          change wpAnyH _ _ _ _ _ _ _ (Act.put _ (some 12) _) _
          try simp only [Act.put, List.setIfInBounds_toArray, List.set_cons_zero, List.set_cons_succ]
          refine wpAnyH_ready (rs := [13]) (by kernel_rfl) (by simp) ?_
          refine AllReadyH.cons rfl (fun KK hK => ?_) AllReadyH.nil
          rw [if_pos (by kernel_rfl)]
          have hLit : wq42.ownsRow gqd 3 1 (.slice (some ⟨gqd, 0, none⟩) 0 0) 0 [] := own_empty hEd
          refine wp_append_opt14 (.tmp 13) (.tmp 15) 25 rfl gqd 3 j0 (.int .i64 0) 1 8 Try.underlying25 hj hy0 hy1 hy2 rfl (by decide) (.slice (some ⟨gqd, 0, none⟩) 0 0) 0 [] rfl hLit da (L.ds.length) dc (nuc L.ds) rfl (fun e => (HD.out.nil e)) (by simp [nuc]) (HD.out.news (hT.bel)) (HD.out.one) (by unfold maxLen; omega) (by omega) (Nat.le_of_lt (Array.getElem?_eq_some_iff.1 hEd).1) ?_
          intro v6 wq43 hOa hgra
          simp only [Nat.zero_add, List.nil_append] at hOa
          replace hOk := And.intro (hOk.1.grownE hgra hEd) hOk.2
          replace hOv := And.intro (hOv.1.grownE hgra hEd) hOv.2
          replace hT := hT.grow hgra (fun j e => by simp only [Value.ownBlock, Option.some.injEq] at e; omega)
          obtain ⟨qda, qdc, eq, hOd⟩ := own_nu hOa
          subst eq
          clear hLit hOa hgra hEd
          refine hK.out _ _ hT.cells (fun hHeld => ?_)
          clear hK KK
          change wpAnyH _ _ _ _ _ _ _ (Act.put _ (some 16) _) _
          try simp only [Act.put, List.setIfInBounds_toArray, List.set_cons_zero, List.set_cons_succ]
          refine' wpAnyH_take (i := 14) (v := _) rfl (by kernel_rfl) (by kernel_rfl) (by kernel_rfl) (fun _ _ _ h => h) (Or.inl ⟨by kernel_rfl, ?hcp18⟩) (by assumption) ?rcp18
          case hcp18 => intro W hW; obtain ⟨c0, c1, c2, c3⟩ := hW; go_simp; all_goals with_reducible rfl
          change wpAnyH _ _ _ _ _ _ _ (Act.put _ (some 17) _) _
          simp only [Act.put, List.setIfInBounds_toArray, List.set_cons_zero, List.set_cons_succ]
          refine wpAnyH_ready (rs := [15]) (by kernel_rfl) (by simp) ?_
          refine AllReadyH.cons rfl (fun KK hK => ?_) AllReadyH.nil
          obtain ⟨y0, y1, y2, y3⟩ := hT.r.cells
          obtain ⟨f0, f1, f2, f3⟩ := hT.r.fz
          have hr1 := hT.r.set0 (.bool L.leaf)
          have hr2 := hr1.set1 (.slice qka L.ks.length qkc)
          have hr3 := hr2.set2 (.slice qva L.vs.length qvc)
          have hr4 := hr3.set3 (.slice qda L.ds.length qdc)
          have hV : RV3 wq43 (.slice qka L.ks.length qkc) (.slice qva L.vs.length qvc) (.slice qda L.ds.length qdc) L := ⟨⟨_, _, rfl, hOk⟩, ⟨_, _, rfl, hOv⟩, ⟨_, _, rfl, hOd⟩⟩
          have hV4 := (((hV.setN (i := 0) (u := .bool L.leaf) hT.r cell4_no).setN (i := 1) (u := (.slice qka L.ks.length qkc)) hr1 cell4_no).setN (i := 2) (u := (.slice qva L.vs.length qvc)) hr2 cell4_no).setN (i := 3) (u := (.slice qda L.ds.length qdc)) hr3 cell4_no
          have hB4 := (((hT.bel.setCell (p := ⟨w.heap.size + 1, 0, none⟩) (by simp) (.bool L.leaf)).setCell (p := ⟨w.heap.size + 1, 1, none⟩) (by simp) (.slice qka L.ks.length qkc)).setCell (p := ⟨w.heap.size + 1, 2, none⟩) (by simp) (.slice qva L.vs.length qvc)).setCell (p := ⟨w.heap.size + 1, 3, none⟩) (by simp) (.slice qda L.ds.length qdc)
          have ha4 := (((hT.a.other (C := w.heap.size + 1) (i := 0) (u := .bool L.leaf) (by omega)).other (C := w.heap.size + 1) (i := 1) (u := (.slice qka L.ks.length qkc)) (by omega)).other (C := w.heap.size + 1) (i := 2) (u := (.slice qva L.vs.length qvc)) (by omega)).other (C := w.heap.size + 1) (i := 3) (u := (.slice qda L.ds.length qdc)) (by omega)
          go_simp
          have HE : Hid (RV3 _ (.slice qka L.ks.length qkc) (.slice qva L.vs.length qvc) (.slice qda L.ds.length qdc) L ∧ Below w.heap.size w _) := ⟨hV4, hB4⟩
          obtain ⟨m0, m1, m2, m3⟩ := hr4.cells
          have hcs := ha4.cells
          clear y0 y1 y2 y3 f0 f1 f2 f3 hr1 hr2 hr3 hr4 hV hV4 hB4 ha4 hT hOk hOv hOd
          refine hK.out _ _ hcs (fun hHeld => ?_)
          clear hK KK
          try simp only [Act.put, List.setIfInBounds_toArray, List.set_cons_zero, List.set_cons_succ]
          refine wpAnyH_done (by kernel_rfl) ?_ _
          clear hHeld
          go_wp2
          refine bodyPost_ret (v := .agg #[.bool L.leaf, .slice qka L.ks.length qkc, .slice qva L.vs.length qvc, .slice qda L.ds.length qdc]) (by simp [results, Try.results46, go_sem, m0, m1, m2, m3]) rfl ⟨_, _, _, rfl, HE.out⟩
      ·
        go_simp
        have hb : Below wq36.heap.size wq36 (wq36.alloc (.cells #[] 3)) := (Below.refl _ _).alloc (Nat.le_refl _) _
        have hEd : (wq36.alloc (.cells #[] 3)).heap[wq36.heap.size]? = some (.cells #[] 3 (0, 0)) := by show (wq36.heap.push _)[wq36.heap.size]? = _; simp
        have hged : w.heap.size + 1 < wq36.heap.size := hT.r.lt
        have hnvd : gqv ≠ wq36.heap.size := fun e => by have := (Array.getElem?_eq_some_iff.1 hEv).1; omega
        have hnkd : gqk ≠ wq36.heap.size := fun e => by have := (Array.getElem?_eq_some_iff.1 hEk).1; omega
        replace hEv := (hb.block _ (Array.getElem?_eq_some_iff.1 hEv).1).trans hEv
        replace hEk := (hb.block _ (Array.getElem?_eq_some_iff.1 hEk).1).trans hEk
        replace hT := hT.on hb
        clear hb
        refine hK.out _ _ hT.cells (fun hHeld => ?_)
        clear hK KK
        try simp only [Act.put, List.setIfInBounds_toArray, List.set_cons_zero, List.set_cons_succ]
        obtain ⟨wq44, hwq44⟩ : ∃ x, Hid ((wq36.alloc (.cells #[] 3)) = x) := ⟨_, rfl⟩
        obtain ⟨gqd, hgqd⟩ : ∃ x, Hid (wq36.heap.size = x) := ⟨_, rfl⟩
        rw [hwq44.out, hgqd.out] at hEd
        rw [hgqd.out] at hged
        rw [hgqd.out] at hnvd
        rw [hgqd.out] at hnkd
        rw [hwq44.out] at hT hHeld hEv hEk ⊢
        try rw [hgqd.out]
        refine wpAnyH_ready (rs := [5]) (by kernel_rfl) (by simp) ?_
        refine AllReadyH.cons rfl (fun KK hK => ?_) AllReadyH.nil
        rw [if_pos (by kernel_rfl)]
        have hLit : wq44.ownsRow gqk 9 1 (.slice (some ⟨gqk, 0, none⟩) 0 0) 0 [] := own_empty hEk
        refine wp_append_opt14 (.tmp 5) (.tmp 7) 24 rfl gqk 9 i0 (.string ⟨#[]⟩) 1 16 Try.underlying24 hi hz0 hz1 hz2 rfl (by decide) (.slice (some ⟨gqk, 0, none⟩) 0 0) 0 [] rfl hLit ka (L.ks.length) kc (txc L.ks) rfl (fun e => (HK.out.nil e)) (by simp [txc]) (HK.out.news (hT.bel)) (HK.out.one) (by unfold maxLen; omega) (by omega) (Nat.le_of_lt (Array.getElem?_eq_some_iff.1 hEk).1) ?_
        intro v6 wq45 hOa hgra
        simp only [Nat.zero_add, List.nil_append] at hOa
        replace hEv := (hgra.block gqv (Array.getElem?_eq_some_iff.1 hEv).1 (fun e => hnvk (by simpa [Value.ownBlock] using e))).trans hEv
        replace hEd := (hgra.block gqd (Array.getElem?_eq_some_iff.1 hEd).1 (fun e => hnkd.symm (by simpa [Value.ownBlock] using e))).trans hEd
        replace hT := hT.grow hgra (fun j e => by simp only [Value.ownBlock, Option.some.injEq] at e; omega)
        obtain ⟨qka, qkc, eq, hOk⟩ := own_tx hOa
        subst eq
        clear hLit hOa hgra hEk
        refine hK.out _ _ hT.cells (fun hHeld => ?_)
        clear hK KK
        change wpAnyH _ _ _ _ _ _ _ (Act.put _ (some 8) _) _
        try simp only [Act.put, List.setIfInBounds_toArray, List.set_cons_zero, List.set_cons_succ]
        refine wpAnyH_ready (rs := [9]) (by kernel_rfl) (by simp) ?_
        refine AllReadyH.cons rfl (fun KK hK => ?_) AllReadyH.nil
        rw [if_pos (by kernel_rfl)]
        have hLit : wq45.ownsRow gqv 9 1 (.slice (some ⟨gqv, 0, none⟩) 0 0) 0 [] := own_empty hEv
        refine wp_append_opt14 (.tmp 9) (.tmp 11) 24 rfl gqv 9 i0 (.string ⟨#[]⟩) 1 16 Try.underlying24 hi hz0 hz1 hz2 rfl (by decide) (.slice (some ⟨gqv, 0, none⟩) 0 0) 0 [] rfl hLit va (L.vs.length) vc (txc L.vs) rfl (fun e => (HV.out.nil e)) (by simp [txc]) (HV.out.news (hT.bel)) (HV.out.one) (by unfold maxLen; omega) (by omega) (Nat.le_of_lt (Array.getElem?_eq_some_iff.1 hEv).1) ?_
        intro v6 wq46 hOa hgra
        simp only [Nat.zero_add, List.nil_append] at hOa
        replace hEd := (hgra.block gqd (Array.getElem?_eq_some_iff.1 hEd).1 (fun e => hnvd.symm (by simpa [Value.ownBlock] using e))).trans hEd
        replace hOk := And.intro (hOk.1.grownE hgra hEv) hOk.2
        replace hT := hT.grow hgra (fun j e => by simp only [Value.ownBlock, Option.some.injEq] at e; omega)
        obtain ⟨qva, qvc, eq, hOv⟩ := own_tx hOa
        subst eq
        clear hLit hOa hgra hEv
        refine hK.out _ _ hT.cells (fun hHeld => ?_)
        clear hK KK
        change wpAnyH _ _ _ _ _ _ _ (Act.put _ (some 12) _) _
        try simp only [Act.put, List.setIfInBounds_toArray, List.set_cons_zero, List.set_cons_succ]
        refine wpAnyH_ready (rs := [13]) (by kernel_rfl) (by simp) ?_
        refine AllReadyH.cons rfl (fun KK hK => ?_) AllReadyH.nil
        rw [if_pos (by kernel_rfl)]
        have hLit : wq46.ownsRow gqd 3 1 (.slice (some ⟨gqd, 0, none⟩) 0 0) 0 [] := own_empty hEd
        refine wp_append_opt14 (.tmp 13) (.tmp 15) 25 rfl gqd 3 j0 (.int .i64 0) 1 8 Try.underlying25 hj hy0 hy1 hy2 rfl (by decide) (.slice (some ⟨gqd, 0, none⟩) 0 0) 0 [] rfl hLit da (L.ds.length) dc (nuc L.ds) rfl (fun e => (HD.out.nil e)) (by simp [nuc]) (HD.out.news (hT.bel)) (HD.out.one) (by unfold maxLen; omega) (by omega) (Nat.le_of_lt (Array.getElem?_eq_some_iff.1 hEd).1) ?_
        intro v6 wq47 hOa hgra
        simp only [Nat.zero_add, List.nil_append] at hOa
        replace hOk := And.intro (hOk.1.grownE hgra hEd) hOk.2
        replace hOv := And.intro (hOv.1.grownE hgra hEd) hOv.2
        replace hT := hT.grow hgra (fun j e => by simp only [Value.ownBlock, Option.some.injEq] at e; omega)
        obtain ⟨qda, qdc, eq, hOd⟩ := own_nu hOa
        subst eq
        clear hLit hOa hgra hEd
        refine hK.out _ _ hT.cells (fun hHeld => ?_)
        clear hK KK
        change wpAnyH _ _ _ _ _ _ _ (Act.put _ (some 16) _) _
        try simp only [Act.put, List.setIfInBounds_toArray, List.set_cons_zero, List.set_cons_succ]
        refine' wpAnyH_take (i := 14) (v := _) rfl (by kernel_rfl) (by kernel_rfl) (by kernel_rfl) (fun _ _ _ h => h) (Or.inl ⟨by kernel_rfl, ?hcp19⟩) (by assumption) ?rcp19
        case hcp19 => intro W hW; obtain ⟨c0, c1, c2, c3⟩ := hW; go_simp; all_goals with_reducible rfl
        change wpAnyH _ _ _ _ _ _ _ (Act.put _ (some 17) _) _
        simp only [Act.put, List.setIfInBounds_toArray, List.set_cons_zero, List.set_cons_succ]
        refine wpAnyH_ready (rs := [15]) (by kernel_rfl) (by simp) ?_
        refine AllReadyH.cons rfl (fun KK hK => ?_) AllReadyH.nil
        obtain ⟨y0, y1, y2, y3⟩ := hT.r.cells
        obtain ⟨f0, f1, f2, f3⟩ := hT.r.fz
        have hr1 := hT.r.set0 (.bool L.leaf)
        have hr2 := hr1.set1 (.slice qka L.ks.length qkc)
        have hr3 := hr2.set2 (.slice qva L.vs.length qvc)
        have hr4 := hr3.set3 (.slice qda L.ds.length qdc)
        have hV : RV3 wq47 (.slice qka L.ks.length qkc) (.slice qva L.vs.length qvc) (.slice qda L.ds.length qdc) L := ⟨⟨_, _, rfl, hOk⟩, ⟨_, _, rfl, hOv⟩, ⟨_, _, rfl, hOd⟩⟩
        have hV4 := (((hV.setN (i := 0) (u := .bool L.leaf) hT.r cell4_no).setN (i := 1) (u := (.slice qka L.ks.length qkc)) hr1 cell4_no).setN (i := 2) (u := (.slice qva L.vs.length qvc)) hr2 cell4_no).setN (i := 3) (u := (.slice qda L.ds.length qdc)) hr3 cell4_no
        have hB4 := (((hT.bel.setCell (p := ⟨w.heap.size + 1, 0, none⟩) (by simp) (.bool L.leaf)).setCell (p := ⟨w.heap.size + 1, 1, none⟩) (by simp) (.slice qka L.ks.length qkc)).setCell (p := ⟨w.heap.size + 1, 2, none⟩) (by simp) (.slice qva L.vs.length qvc)).setCell (p := ⟨w.heap.size + 1, 3, none⟩) (by simp) (.slice qda L.ds.length qdc)
        have ha4 := (((hT.a.other (C := w.heap.size + 1) (i := 0) (u := .bool L.leaf) (by omega)).other (C := w.heap.size + 1) (i := 1) (u := (.slice qka L.ks.length qkc)) (by omega)).other (C := w.heap.size + 1) (i := 2) (u := (.slice qva L.vs.length qvc)) (by omega)).other (C := w.heap.size + 1) (i := 3) (u := (.slice qda L.ds.length qdc)) (by omega)
        go_simp
        have HE : Hid (RV3 _ (.slice qka L.ks.length qkc) (.slice qva L.vs.length qvc) (.slice qda L.ds.length qdc) L ∧ Below w.heap.size w _) := ⟨hV4, hB4⟩
        obtain ⟨m0, m1, m2, m3⟩ := hr4.cells
        have hcs := ha4.cells
        clear y0 y1 y2 y3 f0 f1 f2 f3 hr1 hr2 hr3 hr4 hV hV4 hB4 ha4 hT hOk hOv hOd
        refine hK.out _ _ hcs (fun hHeld => ?_)
        clear hK KK
        try simp only [Act.put, List.setIfInBounds_toArray, List.set_cons_zero, List.set_cons_succ]
        refine wpAnyH_done (by kernel_rfl) ?_ _
        clear hHeld
        go_wp2
        refine bodyPost_ret (v := .agg #[.bool L.leaf, .slice qka L.ks.length qkc, .slice qva L.vs.length qvc, .slice qda L.ds.length qdc]) (by simp [results, Try.results46, go_sem, m0, m1, m2, m3]) rfl ⟨_, _, _, rfl, HE.out⟩
    ·
      go_simp
      have hb : Below wq35.heap.size wq35 (wq35.alloc (.cells #[] 3)) := (Below.refl _ _).alloc (Nat.le_refl _) _
      have hEd : (wq35.alloc (.cells #[] 3)).heap[wq35.heap.size]? = some (.cells #[] 3 (0, 0)) := by show (wq35.heap.push _)[wq35.heap.size]? = _; simp
      have hged : w.heap.size + 1 < wq35.heap.size := hT.r.lt
      have hnvd : gqv ≠ wq35.heap.size := fun e => by have := (Array.getElem?_eq_some_iff.1 hEv).1; omega
      replace hEv := (hb.block _ (Array.getElem?_eq_some_iff.1 hEv).1).trans hEv
      replace hT := hT.on hb
      clear hb
      refine hK.out _ _ hT.cells (fun hHeld => ?_)
      clear hK KK
      try simp only [Act.put, List.setIfInBounds_toArray, List.set_cons_zero, List.set_cons_succ]
      obtain ⟨wq48, hwq48⟩ : ∃ x, Hid ((wq35.alloc (.cells #[] 3)) = x) := ⟨_, rfl⟩
      obtain ⟨gqd, hgqd⟩ : ∃ x, Hid (wq35.heap.size = x) := ⟨_, rfl⟩
      rw [hwq48.out, hgqd.out] at hEd
      rw [hgqd.out] at hged
      rw [hgqd.out] at hnvd
      rw [hwq48.out] at hT hHeld hEv ⊢
      try rw [hgqd.out]
      refine wpAnyH_ready (rs := [2]) (by kernel_rfl) (by simp) ?_
      refine AllReadyH.cons rfl (fun KK hK => ?_) AllReadyH.nil
      go_simp
      have hb : Below wq48.heap.size wq48 (wq48.alloc (.cells #[] 9)) := (Below.refl _ _).alloc (Nat.le_refl _) _
      have hEk : (wq48.alloc (.cells #[] 9)).heap[wq48.heap.size]? = some (.cells #[] 9 (0, 0)) := by show (wq48.heap.push _)[wq48.heap.size]? = _; simp
      have hgek : w.heap.size + 1 < wq48.heap.size := hT.r.lt
      have hnvk : gqv ≠ wq48.heap.size := fun e => by have := (Array.getElem?_eq_some_iff.1 hEv).1; omega
      have hndk : gqd ≠ wq48.heap.size := fun e => by have := (Array.getElem?_eq_some_iff.1 hEd).1; omega
      replace hEv := (hb.block _ (Array.getElem?_eq_some_iff.1 hEv).1).trans hEv
      replace hEd := (hb.block _ (Array.getElem?_eq_some_iff.1 hEd).1).trans hEd
      replace hT := hT.on hb
      clear hb
      refine hK.out _ _ hT.cells (fun hHeld => ?_)
      clear hK KK
      try simp only [Act.put, List.setIfInBounds_toArray, List.set_cons_zero, List.set_cons_succ]
      obtain ⟨wq49, hwq49⟩ : ∃ x, Hid ((wq48.alloc (.cells #[] 9)) = x) := ⟨_, rfl⟩
      obtain ⟨gqk, hgqk⟩ : ∃ x, Hid (wq48.heap.size = x) := ⟨_, rfl⟩
      rw [hwq49.out, hgqk.out] at hEk
      rw [hgqk.out] at hgek
      rw [hgqk.out] at hnvk
      rw [hgqk.out] at hndk
      rw [hwq49.out] at hT hHeld hEv hEd ⊢
      try rw [hgqk.out]
      refine wpAnyH_ready (rs := [5]) (by kernel_rfl) (by simp) ?_
      refine AllReadyH.cons rfl (fun KK hK => ?_) AllReadyH.nil
      rw [if_pos (by kernel_rfl)]
      have hLit : wq49.ownsRow gqk 9 1 (.slice (some ⟨gqk, 0, none⟩) 0 0) 0 [] := own_empty hEk
      refine wp_append_opt14 (.tmp 5) (.tmp 7) 24 rfl gqk 9 i0 (.string ⟨#[]⟩) 1 16 Try.underlying24 hi hz0 hz1 hz2 rfl (by decide) (.slice (some ⟨gqk, 0, none⟩) 0 0) 0 [] rfl hLit ka (L.ks.length) kc (txc L.ks) rfl (fun e => (HK.out.nil e)) (by simp [txc]) (HK.out.news (hT.bel)) (HK.out.one) (by unfold maxLen; omega) (by omega) (Nat.le_of_lt (Array.getElem?_eq_some_iff.1 hEk).1) ?_
      intro v6 wq50 hOa hgra
      simp only [Nat.zero_add, List.nil_append] at hOa
      replace hEv := (hgra.block gqv (Array.getElem?_eq_some_iff.1 hEv).1 (fun e => hnvk (by simpa [Value.ownBlock] using e))).trans hEv
      replace hEd := (hgra.block gqd (Array.getElem?_eq_some_iff.1 hEd).1 (fun e => hndk (by simpa [Value.ownBlock] using e))).trans hEd
      replace hT := hT.grow hgra (fun j e => by simp only [Value.ownBlock, Option.some.injEq] at e; omega)
      obtain ⟨qka, qkc, eq, hOk⟩ := own_tx hOa
      subst eq
      clear hLit hOa hgra hEk
      refine hK.out _ _ hT.cells (fun hHeld => ?_)
      clear hK KK
      change wpAnyH _ _ _ _ _ _ _ (Act.put _ (some 8) _) _
      try simp only [Act.put, List.setIfInBounds_toArray, List.set_cons_zero, List.set_cons_succ]
      refine wpAnyH_ready (rs := [9]) (by kernel_rfl) (by simp) ?_
      refine AllReadyH.cons rfl (fun KK hK => ?_) AllReadyH.nil
      rw [if_pos (by kernel_rfl)]
      have hLit : wq50.ownsRow gqv 9 1 (.slice (some ⟨gqv, 0, none⟩) 0 0) 0 [] := own_empty hEv
      refine wp_append_opt14 (.tmp 9) (.tmp 11) 24 rfl gqv 9 i0 (.string ⟨#[]⟩) 1 16 Try.underlying24 hi hz0 hz1 hz2 rfl (by decide) (.slice (some ⟨gqv, 0, none⟩) 0 0) 0 [] rfl hLit va (L.vs.length) vc (txc L.vs) rfl (fun e => (HV.out.nil e)) (by simp [txc]) (HV.out.news (hT.bel)) (HV.out.one) (by unfold maxLen; omega) (by omega) (Nat.le_of_lt (Array.getElem?_eq_some_iff.1 hEv).1) ?_
      intro v6 wq51 hOa hgra
      simp only [Nat.zero_add, List.nil_append] at hOa
      replace hEd := (hgra.block gqd (Array.getElem?_eq_some_iff.1 hEd).1 (fun e => hnvd.symm (by simpa [Value.ownBlock] using e))).trans hEd
      replace hOk := And.intro (hOk.1.grownE hgra hEv) hOk.2
      replace hT := hT.grow hgra (fun j e => by simp only [Value.ownBlock, Option.some.injEq] at e; omega)
      obtain ⟨qva, qvc, eq, hOv⟩ := own_tx hOa
      subst eq
      clear hLit hOa hgra hEv
      refine hK.out _ _ hT.cells (fun hHeld => ?_)
      clear hK KK
      change wpAnyH _ _ _ _ _ _ _ (Act.put _ (some 12) _) _
      try simp only [Act.put, List.setIfInBounds_toArray, List.set_cons_zero, List.set_cons_succ]
      refine wpAnyH_ready (rs := [13]) (by kernel_rfl) (by simp) ?_
      refine AllReadyH.cons rfl (fun KK hK => ?_) AllReadyH.nil
      rw [if_pos (by kernel_rfl)]
      have hLit : wq51.ownsRow gqd 3 1 (.slice (some ⟨gqd, 0, none⟩) 0 0) 0 [] := own_empty hEd
      refine wp_append_opt14 (.tmp 13) (.tmp 15) 25 rfl gqd 3 j0 (.int .i64 0) 1 8 Try.underlying25 hj hy0 hy1 hy2 rfl (by decide) (.slice (some ⟨gqd, 0, none⟩) 0 0) 0 [] rfl hLit da (L.ds.length) dc (nuc L.ds) rfl (fun e => (HD.out.nil e)) (by simp [nuc]) (HD.out.news (hT.bel)) (HD.out.one) (by unfold maxLen; omega) (by omega) (Nat.le_of_lt (Array.getElem?_eq_some_iff.1 hEd).1) ?_
      intro v6 wq52 hOa hgra
      simp only [Nat.zero_add, List.nil_append] at hOa
      replace hOk := And.intro (hOk.1.grownE hgra hEd) hOk.2
      replace hOv := And.intro (hOv.1.grownE hgra hEd) hOv.2
      replace hT := hT.grow hgra (fun j e => by simp only [Value.ownBlock, Option.some.injEq] at e; omega)
      obtain ⟨qda, qdc, eq, hOd⟩ := own_nu hOa
      subst eq
      clear hLit hOa hgra hEd
      refine hK.out _ _ hT.cells (fun hHeld => ?_)
      clear hK KK
      change wpAnyH _ _ _ _ _ _ _ (Act.put _ (some 16) _) _
      try simp only [Act.put, List.setIfInBounds_toArray, List.set_cons_zero, List.set_cons_succ]
      refine' wpAnyH_take (i := 14) (v := _) rfl (by kernel_rfl) (by kernel_rfl) (by kernel_rfl) (fun _ _ _ h => h) (Or.inl ⟨by kernel_rfl, ?hcp20⟩) (by assumption) ?rcp20
      case hcp20 => intro W hW; obtain ⟨c0, c1, c2, c3⟩ := hW; go_simp; all_goals with_reducible rfl
      change wpAnyH _ _ _ _ _ _ _ (Act.put _ (some 17) _) _
      simp only [Act.put, List.setIfInBounds_toArray, List.set_cons_zero, List.set_cons_succ]
      refine wpAnyH_ready (rs := [15]) (by kernel_rfl) (by simp) ?_
      refine AllReadyH.cons rfl (fun KK hK => ?_) AllReadyH.nil
      obtain ⟨y0, y1, y2, y3⟩ := hT.r.cells
      obtain ⟨f0, f1, f2, f3⟩ := hT.r.fz
      have hr1 := hT.r.set0 (.bool L.leaf)
      have hr2 := hr1.set1 (.slice qka L.ks.length qkc)
      have hr3 := hr2.set2 (.slice qva L.vs.length qvc)
      have hr4 := hr3.set3 (.slice qda L.ds.length qdc)
      have hV : RV3 wq52 (.slice qka L.ks.length qkc) (.slice qva L.vs.length qvc) (.slice qda L.ds.length qdc) L := ⟨⟨_, _, rfl, hOk⟩, ⟨_, _, rfl, hOv⟩, ⟨_, _, rfl, hOd⟩⟩
      have hV4 := (((hV.setN (i := 0) (u := .bool L.leaf) hT.r cell4_no).setN (i := 1) (u := (.slice qka L.ks.length qkc)) hr1 cell4_no).setN (i := 2) (u := (.slice qva L.vs.length qvc)) hr2 cell4_no).setN (i := 3) (u := (.slice qda L.ds.length qdc)) hr3 cell4_no
      have hB4 := (((hT.bel.setCell (p := ⟨w.heap.size + 1, 0, none⟩) (by simp) (.bool L.leaf)).setCell (p := ⟨w.heap.size + 1, 1, none⟩) (by simp) (.slice qka L.ks.length qkc)).setCell (p := ⟨w.heap.size + 1, 2, none⟩) (by simp) (.slice qva L.vs.length qvc)).setCell (p := ⟨w.heap.size + 1, 3, none⟩) (by simp) (.slice qda L.ds.length qdc)
      have ha4 := (((hT.a.other (C := w.heap.size + 1) (i := 0) (u := .bool L.leaf) (by omega)).other (C := w.heap.size + 1) (i := 1) (u := (.slice qka L.ks.length qkc)) (by omega)).other (C := w.heap.size + 1) (i := 2) (u := (.slice qva L.vs.length qvc)) (by omega)).other (C := w.heap.size + 1) (i := 3) (u := (.slice qda L.ds.length qdc)) (by omega)
      go_simp
      have HE : Hid (RV3 _ (.slice qka L.ks.length qkc) (.slice qva L.vs.length qvc) (.slice qda L.ds.length qdc) L ∧ Below w.heap.size w _) := ⟨hV4, hB4⟩
      obtain ⟨m0, m1, m2, m3⟩ := hr4.cells
      have hcs := ha4.cells
      clear y0 y1 y2 y3 f0 f1 f2 f3 hr1 hr2 hr3 hr4 hV hV4 hB4 ha4 hT hOk hOv hOd
      refine hK.out _ _ hcs (fun hHeld => ?_)
      clear hK KK
      try simp only [Act.put, List.setIfInBounds_toArray, List.set_cons_zero, List.set_cons_succ]
      refine wpAnyH_done (by kernel_rfl) ?_ _
      clear hHeld
      go_wp2
      refine bodyPost_ret (v := .agg #[.bool L.leaf, .slice qka L.ks.length qkc, .slice qva L.vs.length qvc, .slice qda L.ds.length qdc]) (by simp [results, Try.results46, go_sem, m0, m1, m2, m3]) rfl ⟨_, _, _, rfl, HE.out⟩
  ·
    go_simp
    have hb : Below wd.heap.size wd (wd.alloc (.cells #[] 3)) := (Below.refl _ _).alloc (Nat.le_refl _) _
    have hEd : (wd.alloc (.cells #[] 3)).heap[wd.heap.size]? = some (.cells #[] 3 (0, 0)) := by show (wd.heap.push _)[wd.heap.size]? = _; simp
    have hged : w.heap.size + 1 < wd.heap.size := hT.r.lt
    replace hT := hT.on hb
    clear hb
    refine hK.out _ _ hT.cells (fun hHeld => ?_)
    clear hK KK
    try simp only [Act.put, List.setIfInBounds_toArray, List.set_cons_zero, List.set_cons_succ]
    obtain ⟨wq53, hwq53⟩ : ∃ x, Hid ((wd.alloc (.cells #[] 3)) = x) := ⟨_, rfl⟩
    obtain ⟨gqd, hgqd⟩ : ∃ x, Hid (wd.heap.size = x) := ⟨_, rfl⟩
    rw [hwq53.out, hgqd.out] at hEd
    rw [hgqd.out] at hged
    rw [hwq53.out] at hT hHeld ⊢
    try rw [hgqd.out]
    refine wpAnyH_ready (rs := [2, 6]) (by kernel_rfl) (by simp) ?_
    refine AllReadyH.cons rfl (fun KK hK => ?_) (AllReadyH.cons rfl (fun KK hK => ?_) AllReadyH.nil)
    ·
      go_simp
      have hb : Below wq53.heap.size wq53 (wq53.alloc (.cells #[] 9)) := (Below.refl _ _).alloc (Nat.le_refl _) _
      have hEk : (wq53.alloc (.cells #[] 9)).heap[wq53.heap.size]? = some (.cells #[] 9 (0, 0)) := by show (wq53.heap.push _)[wq53.heap.size]? = _; simp
      have hgek : w.heap.size + 1 < wq53.heap.size := hT.r.lt
      have hndk : gqd ≠ wq53.heap.size := fun e => by have := (Array.getElem?_eq_some_iff.1 hEd).1; omega
      replace hEd := (hb.block _ (Array.getElem?_eq_some_iff.1 hEd).1).trans hEd
      replace hT := hT.on hb
      clear hb
      refine hK.out _ _ hT.cells (fun hHeld => ?_)
      clear hK KK
      try simp only [Act.put, List.setIfInBounds_toArray, List.set_cons_zero, List.set_cons_succ]
      obtain ⟨wq54, hwq54⟩ : ∃ x, Hid ((wq53.alloc (.cells #[] 9)) = x) := ⟨_, rfl⟩
      obtain ⟨gqk, hgqk⟩ : ∃ x, Hid (wq53.heap.size = x) := ⟨_, rfl⟩
      rw [hwq54.out, hgqk.out] at hEk
      rw [hgqk.out] at hgek
      rw [hgqk.out] at hndk
      rw [hwq54.out] at hT hHeld hEd ⊢
      try rw [hgqk.out]
      refine wpAnyH_ready (rs := [5, 6]) (by kernel_rfl) (by simp) ?_
      refine AllReadyH.cons rfl (fun KK hK => ?_) (AllReadyH.cons rfl (fun KK hK => ?_) AllReadyH.nil)
      ·
        rw [if_pos (by kernel_rfl)]
        have hLit : wq54.ownsRow gqk 9 1 (.slice (some ⟨gqk, 0, none⟩) 0 0) 0 [] := own_empty hEk
        refine wp_append_opt14 (.tmp 5) (.tmp 7) 24 rfl gqk 9 i0 (.string ⟨#[]⟩) 1 16 Try.underlying24 hi hz0 hz1 hz2 rfl (by decide) (.slice (some ⟨gqk, 0, none⟩) 0 0) 0 [] rfl hLit ka (L.ks.length) kc (txc L.ks) rfl (fun e => (HK.out.nil e)) (by simp [txc]) (HK.out.news (hT.bel)) (HK.out.one) (by unfold maxLen; omega) (by omega) (Nat.le_of_lt (Array.getElem?_eq_some_iff.1 hEk).1) ?_
        intro v6 wq55 hOa hgra
        simp only [Nat.zero_add, List.nil_append] at hOa
        replace hEd := (hgra.block gqd (Array.getElem?_eq_some_iff.1 hEd).1 (fun e => hndk (by simpa [Value.ownBlock] using e))).trans hEd
        replace hT := hT.grow hgra (fun j e => by simp only [Value.ownBlock, Option.some.injEq] at e; omega)
        obtain ⟨qka, qkc, eq, hOk⟩ := own_tx hOa
        subst eq
        clear hLit hOa hgra hEk
        refine hK.out _ _ hT.cells (fun hHeld => ?_)
        clear hK KK
        change wpAnyH _ _ _ _ _ _ _ (Act.put _ (some 8) _) _
        try simp only [Act.put, List.setIfInBounds_toArray, List.set_cons_zero, List.set_cons_succ]
        refine wpAnyH_ready (rs := [6]) (by kernel_rfl) (by simp) ?_
        refine AllReadyH.cons rfl (fun KK hK => ?_) AllReadyH.nil
        go_simp
        have hb : Below wq55.heap.size wq55 (wq55.alloc (.cells #[] 9)) := (Below.refl _ _).alloc (Nat.le_refl _) _
        have hEv : (wq55.alloc (.cells #[] 9)).heap[wq55.heap.size]? = some (.cells #[] 9 (0, 0)) := by show (wq55.heap.push _)[wq55.heap.size]? = _; simp
        have hgev : w.heap.size + 1 < wq55.heap.size := hT.r.lt
        have hndv : gqd ≠ wq55.heap.size := fun e => by have := (Array.getElem?_eq_some_iff.1 hEd).1; omega
        replace hEd := (hb.block _ (Array.getElem?_eq_some_iff.1 hEd).1).trans hEd
        replace hOk := OV.belowQ hOk hb
        replace hT := hT.on hb
        clear hb
        refine hK.out _ _ hT.cells (fun hHeld => ?_)
        clear hK KK
        try simp only [Act.put, List.setIfInBounds_toArray, List.set_cons_zero, List.set_cons_succ]
        obtain ⟨wq56, hwq56⟩ : ∃ x, Hid ((wq55.alloc (.cells #[] 9)) = x) := ⟨_, rfl⟩
        obtain ⟨gqv, hgqv⟩ : ∃ x, Hid (wq55.heap.size = x) := ⟨_, rfl⟩
        rw [hwq56.out, hgqv.out] at hEv
        rw [hgqv.out] at hgev
        rw [hgqv.out] at hndv
        rw [hwq56.out] at hT hHeld hEd hOk ⊢
        try rw [hgqv.out]
        refine wpAnyH_ready (rs := [9]) (by kernel_rfl) (by simp) ?_
        refine AllReadyH.cons rfl (fun KK hK => ?_) AllReadyH.nil
        rw [if_pos (by kernel_rfl)]
        have hLit : wq56.ownsRow gqv 9 1 (.slice (some ⟨gqv, 0, none⟩) 0 0) 0 [] := own_empty hEv
        refine wp_append_opt14 (.tmp 9) (.tmp 11) 24 rfl gqv 9 i0 (.string ⟨#[]⟩) 1 16 Try.underlying24 hi hz0 hz1 hz2 rfl (by decide) (.slice (some ⟨gqv, 0, none⟩) 0 0) 0 [] rfl hLit va (L.vs.length) vc (txc L.vs) rfl (fun e => (HV.out.nil e)) (by simp [txc]) (HV.out.news (hT.bel)) (HV.out.one) (by unfold maxLen; omega) (by omega) (Nat.le_of_lt (Array.getElem?_eq_some_iff.1 hEv).1) ?_
        intro v6 wq57 hOa hgra
        simp only [Nat.zero_add, List.nil_append] at hOa
        replace hEd := (hgra.block gqd (Array.getElem?_eq_some_iff.1 hEd).1 (fun e => hndv (by simpa [Value.ownBlock] using e))).trans hEd
        replace hOk := And.intro (hOk.1.grownE hgra hEv) hOk.2
        replace hT := hT.grow hgra (fun j e => by simp only [Value.ownBlock, Option.some.injEq] at e; omega)
        obtain ⟨qva, qvc, eq, hOv⟩ := own_tx hOa
        subst eq
        clear hLit hOa hgra hEv
        refine hK.out _ _ hT.cells (fun hHeld => ?_)
        clear hK KK
        change wpAnyH _ _ _ _ _ _ _ (Act.put _ (some 12) _) _
        try simp only [Act.put, List.setIfInBounds_toArray, List.set_cons_zero, List.set_cons_succ]
        refine wpAnyH_ready (rs := [13]) (by kernel_rfl) (by simp) ?_
        refine AllReadyH.cons rfl (fun KK hK => ?_) AllReadyH.nil
        rw [if_pos (by kernel_rfl)]
        have hLit : wq57.ownsRow gqd 3 1 (.slice (some ⟨gqd, 0, none⟩) 0 0) 0 [] := own_empty hEd
        refine wp_append_opt14 (.tmp 13) (.tmp 15) 25 rfl gqd 3 j0 (.int .i64 0) 1 8 Try.underlying25 hj hy0 hy1 hy2 rfl (by decide) (.slice (some ⟨gqd, 0, none⟩) 0 0) 0 [] rfl hLit da (L.ds.length) dc (nuc L.ds) rfl (fun e => (HD.out.nil e)) (by simp [nuc]) (HD.out.news (hT.bel)) (HD.out.one) (by unfold maxLen; omega) (by omega) (Nat.le_of_lt (Array.getElem?_eq_some_iff.1 hEd).1) ?_
        intro v6 wq58 hOa hgra
        simp only [Nat.zero_add, List.nil_append] at hOa
        replace hOk := And.intro (hOk.1.grownE hgra hEd) hOk.2
        replace hOv := And.intro (hOv.1.grownE hgra hEd) hOv.2
        replace hT := hT.grow hgra (fun j e => by simp only [Value.ownBlock, Option.some.injEq] at e; omega)
        obtain ⟨qda, qdc, eq, hOd⟩ := own_nu hOa
        subst eq
        clear hLit hOa hgra hEd
        refine hK.out _ _ hT.cells (fun hHeld => ?_)
        clear hK KK
        change wpAnyH _ _ _ _ _ _ _ (Act.put _ (some 16) _) _
        try simp only [Act.put, List.setIfInBounds_toArray, List.set_cons_zero, List.set_cons_succ]
        refine' wpAnyH_take (i := 14) (v := _) rfl (by kernel_rfl) (by kernel_rfl) (by kernel_rfl) (fun _ _ _ h => h) (Or.inl ⟨by kernel_rfl, ?hcp21⟩) (by assumption) ?rcp21
        case hcp21 => intro W hW; obtain ⟨c0, c1, c2, c3⟩ := hW; go_simp; all_goals with_reducible rfl
        change wpAnyH _ _ _ _ _ _ _ (Act.put _ (some 17) _) _
        simp only [Act.put, List.setIfInBounds_toArray, List.set_cons_zero, List.set_cons_succ]
        refine wpAnyH_ready (rs := [15]) (by kernel_rfl) (by simp) ?_
        refine AllReadyH.cons rfl (fun KK hK => ?_) AllReadyH.nil
        obtain ⟨y0, y1, y2, y3⟩ := hT.r.cells
        obtain ⟨f0, f1, f2, f3⟩ := hT.r.fz
        have hr1 := hT.r.set0 (.bool L.leaf)
        have hr2 := hr1.set1 (.slice qka L.ks.length qkc)
        have hr3 := hr2.set2 (.slice qva L.vs.length qvc)
        have hr4 := hr3.set3 (.slice qda L.ds.length qdc)
        have hV : RV3 wq58 (.slice qka L.ks.length qkc) (.slice qva L.vs.length qvc) (.slice qda L.ds.length qdc) L := ⟨⟨_, _, rfl, hOk⟩, ⟨_, _, rfl, hOv⟩, ⟨_, _, rfl, hOd⟩⟩
        have hV4 := (((hV.setN (i := 0) (u := .bool L.leaf) hT.r cell4_no).setN (i := 1) (u := (.slice qka L.ks.length qkc)) hr1 cell4_no).setN (i := 2) (u := (.slice qva L.vs.length qvc)) hr2 cell4_no).setN (i := 3) (u := (.slice qda L.ds.length qdc)) hr3 cell4_no
        have hB4 := (((hT.bel.setCell (p := ⟨w.heap.size + 1, 0, none⟩) (by simp) (.bool L.leaf)).setCell (p := ⟨w.heap.size + 1, 1, none⟩) (by simp) (.slice qka L.ks.length qkc)).setCell (p := ⟨w.heap.size + 1, 2, none⟩) (by simp) (.slice qva L.vs.length qvc)).setCell (p := ⟨w.heap.size + 1, 3, none⟩) (by simp) (.slice qda L.ds.length qdc)
        have ha4 := (((hT.a.other (C := w.heap.size + 1) (i := 0) (u := .bool L.leaf) (by omega)).other (C := w.heap.size + 1) (i := 1) (u := (.slice qka L.ks.length qkc)) (by omega)).other (C := w.heap.size + 1) (i := 2) (u := (.slice qva L.vs.length qvc)) (by omega)).other (C := w.heap.size + 1) (i := 3) (u := (.slice qda L.ds.length qdc)) (by omega)
        go_simp
        have HE : Hid (RV3 _ (.slice qka L.ks.length qkc) (.slice qva L.vs.length qvc) (.slice qda L.ds.length qdc) L ∧ Below w.heap.size w _) := ⟨hV4, hB4⟩
        obtain ⟨m0, m1, m2, m3⟩ := hr4.cells
        have hcs := ha4.cells
        clear y0 y1 y2 y3 f0 f1 f2 f3 hr1 hr2 hr3 hr4 hV hV4 hB4 ha4 hT hOk hOv hOd
        refine hK.out _ _ hcs (fun hHeld => ?_)
        clear hK KK
        try simp only [Act.put, List.setIfInBounds_toArray, List.set_cons_zero, List.set_cons_succ]
        refine wpAnyH_done (by kernel_rfl) ?_ _
        clear hHeld
        go_wp2
        refine bodyPost_ret (v := .agg #[.bool L.leaf, .slice qka L.ks.length qkc, .slice qva L.vs.length qvc, .slice qda L.ds.length qdc]) (by simp [results, Try.results46, go_sem, m0, m1, m2, m3]) rfl ⟨_, _, _, rfl, HE.out⟩
      ·
        go_simp
        have hb : Below wq54.heap.size wq54 (wq54.alloc (.cells #[] 9)) := (Below.refl _ _).alloc (Nat.le_refl _) _
        have hEv : (wq54.alloc (.cells #[] 9)).heap[wq54.heap.size]? = some (.cells #[] 9 (0, 0)) := by show (wq54.heap.push _)[wq54.heap.size]? = _; simp
        have hgev : w.heap.size + 1 < wq54.heap.size := hT.r.lt
        have hndv : gqd ≠ wq54.heap.size := fun e => by have := (Array.getElem?_eq_some_iff.1 hEd).1; omega
        have hnkv : gqk ≠ wq54.heap.size := fun e => by have := (Array.getElem?_eq_some_iff.1 hEk).1; omega
        replace hEd := (hb.block _ (Array.getElem?_eq_some_iff.1 hEd).1).trans hEd
        replace hEk := (hb.block _ (Array.getElem?_eq_some_iff.1 hEk).1).trans hEk
        replace hT := hT.on hb
        clear hb
        refine hK.out _ _ hT.cells (fun hHeld => ?_)
        clear hK KK
        try simp only [Act.put, List.setIfInBounds_toArray, List.set_cons_zero, List.set_cons_succ]
        obtain ⟨wq59, hwq59⟩ : ∃ x, Hid ((wq54.alloc (.cells #[] 9)) = x) := ⟨_, rfl⟩
        obtain ⟨gqv, hgqv⟩ : ∃ x, Hid (wq54.heap.size = x) := ⟨_, rfl⟩
        rw [hwq59.out, hgqv.out] at hEv
        rw [hgqv.out] at hgev
        rw [hgqv.out] at hndv
        rw [hgqv.out] at hnkv
        rw [hwq59.out] at hT hHeld hEd hEk ⊢
        try rw [hgqv.out]
        refine wpAnyH_ready (rs := [5]) (by kernel_rfl) (by simp) ?_
        refine AllReadyH.cons rfl (fun KK hK => ?_) AllReadyH.nil
        rw [if_pos (by kernel_rfl)]
        have hLit : wq59.ownsRow gqk 9 1 (.slice (some ⟨gqk, 0, none⟩) 0 0) 0 [] := own_empty hEk
        refine wp_append_opt14 (.tmp 5) (.tmp 7) 24 rfl gqk 9 i0 (.string ⟨#[]⟩) 1 16 Try.underlying24 hi hz0 hz1 hz2 rfl (by decide) (.slice (some ⟨gqk, 0, none⟩) 0 0) 0 [] rfl hLit ka (L.ks.length) kc (txc L.ks) rfl (fun e => (HK.out.nil e)) (by simp [txc]) (HK.out.news (hT.bel)) (HK.out.one) (by unfold maxLen; omega) (by omega) (Nat.le_of_lt (Array.getElem?_eq_some_iff.1 hEk).1) ?_
        intro v6 wq60 hOa hgra
        simp only [Nat.zero_add, List.nil_append] at hOa
        replace hEd := (hgra.block gqd (Array.getElem?_eq_some_iff.1 hEd).1 (fun e => hndk (by simpa [Value.ownBlock] using e))).trans hEd
        replace hEv := (hgra.block gqv (Array.getElem?_eq_some_iff.1 hEv).1 (fun e => hnkv.symm (by simpa [Value.ownBlock] using e))).trans hEv
        replace hT := hT.grow hgra (fun j e => by simp only [Value.ownBlock, Option.some.injEq] at e; omega)
        obtain ⟨qka, qkc, eq, hOk⟩ := own_tx hOa
        subst eq
        clear hLit hOa hgra hEk
        refine hK.out _ _ hT.cells (fun hHeld => ?_)
        clear hK KK
        change wpAnyH _ _ _ _ _ _ _ (Act.put _ (some 8) _) _
        try simp only [Act.put, List.setIfInBounds_toArray, List.set_cons_zero, List.set_cons_succ]
        refine wpAnyH_ready (rs := [9]) (by kernel_rfl) (by simp) ?_
        refine AllReadyH.cons rfl (fun KK hK => ?_) AllReadyH.nil
        rw [if_pos (by kernel_rfl)]
        have hLit : wq60.ownsRow gqv 9 1 (.slice (some ⟨gqv, 0, none⟩) 0 0) 0 [] := own_empty hEv
        refine wp_append_opt14 (.tmp 9) (.tmp 11) 24 rfl gqv 9 i0 (.string ⟨#[]⟩) 1 16 Try.underlying24 hi hz0 hz1 hz2 rfl (by decide) (.slice (some ⟨gqv, 0, none⟩) 0 0) 0 [] rfl hLit va (L.vs.length) vc (txc L.vs) rfl (fun e => (HV.out.nil e)) (by simp [txc]) (HV.out.news (hT.bel)) (HV.out.one) (by unfold maxLen; omega) (by omega) (Nat.le_of_lt (Array.getElem?_eq_some_iff.1 hEv).1) ?_
        intro v6 wq61 hOa hgra
        simp only [Nat.zero_add, List.nil_append] at hOa
        replace hEd := (hgra.block gqd (Array.getElem?_eq_some_iff.1 hEd).1 (fun e => hndv (by simpa [Value.ownBlock] using e))).trans hEd
        replace hOk := And.intro (hOk.1.grownE hgra hEv) hOk.2
        replace hT := hT.grow hgra (fun j e => by simp only [Value.ownBlock, Option.some.injEq] at e; omega)
        obtain ⟨qva, qvc, eq, hOv⟩ := own_tx hOa
        subst eq
        clear hLit hOa hgra hEv
        refine hK.out _ _ hT.cells (fun hHeld => ?_)
        clear hK KK
        change wpAnyH _ _ _ _ _ _ _ (Act.put _ (some 12) _) _
        try simp only [Act.put, List.setIfInBounds_toArray, List.set_cons_zero, List.set_cons_succ]
        refine wpAnyH_ready (rs := [13]) (by kernel_rfl) (by simp) ?_
        refine AllReadyH.cons rfl (fun KK hK => ?_) AllReadyH.nil
        rw [if_pos (by kernel_rfl)]
        have hLit : wq61.ownsRow gqd 3 1 (.slice (some ⟨gqd, 0, none⟩) 0 0) 0 [] := own_empty hEd
        refine wp_append_opt14 (.tmp 13) (.tmp 15) 25 rfl gqd 3 j0 (.int .i64 0) 1 8 Try.underlying25 hj hy0 hy1 hy2 rfl (by decide) (.slice (some ⟨gqd, 0, none⟩) 0 0) 0 [] rfl hLit da (L.ds.length) dc (nuc L.ds) rfl (fun e => (HD.out.nil e)) (by simp [nuc]) (HD.out.news (hT.bel)) (HD.out.one) (by unfold maxLen; omega) (by omega) (Nat.le_of_lt (Array.getElem?_eq_some_iff.1 hEd).1) ?_
        intro v6 wq62 hOa hgra
        simp only [Nat.zero_add, List.nil_append] at hOa
        replace hOk := And.intro (hOk.1.grownE hgra hEd) hOk.2
        replace hOv := And.intro (hOv.1.grownE hgra hEd) hOv.2
        replace hT := hT.grow hgra (fun j e => by simp only [Value.ownBlock, Option.some.injEq] at e; omega)
        obtain ⟨qda, qdc, eq, hOd⟩ := own_nu hOa
        subst eq
        clear hLit hOa hgra hEd
        refine hK.out _ _ hT.cells (fun hHeld => ?_)
        clear hK KK
        change wpAnyH _ _ _ _ _ _ _ (Act.put _ (some 16) _) _
        try simp only [Act.put, List.setIfInBounds_toArray, List.set_cons_zero, List.set_cons_succ]
        refine' wpAnyH_take (i := 14) (v := _) rfl (by kernel_rfl) (by kernel_rfl) (by kernel_rfl) (fun _ _ _ h => h) (Or.inl ⟨by kernel_rfl, ?hcp22⟩) (by assumption) ?rcp22
        case hcp22 => intro W hW; obtain ⟨c0, c1, c2, c3⟩ := hW; go_simp; all_goals with_reducible rfl
        change wpAnyH _ _ _ _ _ _ _ (Act.put _ (some 17) _) _
        simp only [Act.put, List.setIfInBounds_toArray, List.set_cons_zero, List.set_cons_succ]
        refine wpAnyH_ready (rs := [15]) (by kernel_rfl) (by simp) ?_
        refine AllReadyH.cons rfl (fun KK hK => ?_) AllReadyH.nil
        obtain ⟨y0, y1, y2, y3⟩ := hT.r.cells
        obtain ⟨f0, f1, f2, f3⟩ := hT.r.fz
        have hr1 := hT.r.set0 (.bool L.leaf)
        have hr2 := hr1.set1 (.slice qka L.ks.length qkc)
        have hr3 := hr2.set2 (.slice qva L.vs.length qvc)
        have hr4 := hr3.set3 (.slice qda L.ds.length qdc)
        have hV : RV3 wq62 (.slice qka L.ks.length qkc) (.slice qva L.vs.length qvc) (.slice qda L.ds.length qdc) L := ⟨⟨_, _, rfl, hOk⟩, ⟨_, _, rfl, hOv⟩, ⟨_, _, rfl, hOd⟩⟩
        have hV4 := (((hV.setN (i := 0) (u := .bool L.leaf) hT.r cell4_no).setN (i := 1) (u := (.slice qka L.ks.length qkc)) hr1 cell4_no).setN (i := 2) (u := (.slice qva L.vs.length qvc)) hr2 cell4_no).setN (i := 3) (u := (.slice qda L.ds.length qdc)) hr3 cell4_no
        have hB4 := (((hT.bel.setCell (p := ⟨w.heap.size + 1, 0, none⟩) (by simp) (.bool L.leaf)).setCell (p := ⟨w.heap.size + 1, 1, none⟩) (by simp) (.slice qka L.ks.length qkc)).setCell (p := ⟨w.heap.size + 1, 2, none⟩) (by simp) (.slice qva L.vs.length qvc)).setCell (p := ⟨w.heap.size + 1, 3, none⟩) (by simp) (.slice qda L.ds.length qdc)
        have ha4 := (((hT.a.other (C := w.heap.size + 1) (i := 0) (u := .bool L.leaf) (by omega)).other (C := w.heap.size + 1) (i := 1) (u := (.slice qka L.ks.length qkc)) (by omega)).other (C := w.heap.size + 1) (i := 2) (u := (.slice qva L.vs.length qvc)) (by omega)).other (C := w.heap.size + 1) (i := 3) (u := (.slice qda L.ds.length qdc)) (by omega)
        go_simp
        have HE : Hid (RV3 _ (.slice qka L.ks.length qkc) (.slice qva L.vs.length qvc) (.slice qda L.ds.length qdc) L ∧ Below w.heap.size w _) := ⟨hV4, hB4⟩
        obtain ⟨m0, m1, m2, m3⟩ := hr4.cells
        have hcs := ha4.cells
        clear y0 y1 y2 y3 f0 f1 f2 f3 hr1 hr2 hr3 hr4 hV hV4 hB4 ha4 hT hOk hOv hOd
        refine hK.out _ _ hcs (fun hHeld => ?_)
        clear hK KK
        try simp only [Act.put, List.setIfInBounds_toArray, List.set_cons_zero, List.set_cons_succ]
        refine wpAnyH_done (by kernel_rfl) ?_ _
        clear hHeld
        go_wp2
        refine bodyPost_ret (v := .agg #[.bool L.leaf, .slice qka L.ks.length qkc, .slice qva L.vs.length qvc, .slice qda L.ds.length qdc]) (by simp [results, Try.results46, go_sem, m0, m1, m2, m3]) rfl ⟨_, _, _, rfl, HE.out⟩
    ·
      go_simp
      have hb : Below wq53.heap.size wq53 (wq53.alloc (.cells #[] 9)) := (Below.refl _ _).alloc (Nat.le_refl _) _
      have hEv : (wq53.alloc (.cells #[] 9)).heap[wq53.heap.size]? = some (.cells #[] 9 (0, 0)) := by show (wq53.heap.push _)[wq53.heap.size]? = _; simp
      have hgev : w.heap.size + 1 < wq53.heap.size := hT.r.lt
      have hndv : gqd ≠ wq53.heap.size := fun e => by have := (Array.getElem?_eq_some_iff.1 hEd).1; omega
      replace hEd := (hb.block _ (Array.getElem?_eq_some_iff.1 hEd).1).trans hEd
      replace hT := hT.on hb
      clear hb
      refine hK.out _ _ hT.cells (fun hHeld => ?_)
      clear hK KK
      try simp only [Act.put, List.setIfInBounds_toArray, List.set_cons_zero, List.set_cons_succ]
      obtain ⟨wq63, hwq63⟩ : ∃ x, Hid ((wq53.alloc (.cells #[] 9)) = x) := ⟨_, rfl⟩
      obtain ⟨gqv, hgqv⟩ : ∃ x, Hid (wq53.heap.size = x) := ⟨_, rfl⟩
      rw [hwq63.out, hgqv.out] at hEv
      rw [hgqv.out] at hgev
      rw [hgqv.out] at hndv
      rw [hwq63.out] at hT hHeld hEd ⊢
      try rw [hgqv.out]
      refine wpAnyH_ready (rs := [2]) (by kernel_rfl) (by simp) ?_
      refine AllReadyH.cons rfl (fun KK hK => ?_) AllReadyH.nil
      go_simp
      have hb : Below wq63.heap.size wq63 (wq63.alloc (.cells #[] 9)) := (Below.refl _ _).alloc (Nat.le_refl _) _
      have hEk : (wq63.alloc (.cells #[] 9)).heap[wq63.heap.size]? = some (.cells #[] 9 (0, 0)) := by show (wq63.heap.push _)[wq63.heap.size]? = _; simp
      have hgek : w.heap.size + 1 < wq63.heap.size := hT.r.lt
      have hndk : gqd ≠ wq63.heap.size := fun e => by have := (Array.getElem?_eq_some_iff.1 hEd).1; omega
      have hnvk : gqv ≠ wq63.heap.size := fun e => by have := (Array.getElem?_eq_some_iff.1 hEv).1; omega
      replace hEd := (hb.block _ (Array.getElem?_eq_some_iff.1 hEd).1).trans hEd
      replace hEv := (hb.block _ (Array.getElem?_eq_some_iff.1 hEv).1).trans hEv
      replace hT := hT.on hb
      clear hb
      refine hK.out _ _ hT.cells (fun hHeld => ?_)
      clear hK KK
      try simp only [Act.put, List.setIfInBounds_toArray, List.set_cons_zero, List.set_cons_succ]
      obtain ⟨wq64, hwq64⟩ : ∃ x, Hid ((wq63.alloc (.cells #[] 9)) = x) := ⟨_, rfl⟩
      obtain ⟨gqk, hgqk⟩ : ∃ x, Hid (wq63.heap.size = x) := ⟨_, rfl⟩
      rw [hwq64.out, hgqk.out] at hEk
      rw [hgqk.out] at hgek
      rw [hgqk.out] at hndk
      rw [hgqk.out] at hnvk
      rw [hwq64.out] at hT hHeld hEd hEv ⊢
      try rw [hgqk.out]
      refine wpAnyH_ready (rs := [5]) (by kernel_rfl) (by simp) ?_
      refine AllReadyH.cons rfl (fun KK hK => ?_) AllReadyH.nil
      rw [if_pos (by kernel_rfl)]
      have hLit : wq64.ownsRow gqk 9 1 (.slice (some ⟨gqk, 0, none⟩) 0 0) 0 [] := own_empty hEk
      refine wp_append_opt14 (.tmp 5) (.tmp 7) 24 rfl gqk 9 i0 (.string ⟨#[]⟩) 1 16 Try.underlying24 hi hz0 hz1 hz2 rfl (by decide) (.slice (some ⟨gqk, 0, none⟩) 0 0) 0 [] rfl hLit ka (L.ks.length) kc (txc L.ks) rfl (fun e => (HK.out.nil e)) (by simp [txc]) (HK.out.news (hT.bel)) (HK.out.one) (by unfold maxLen; omega) (by omega) (Nat.le_of_lt (Array.getElem?_eq_some_iff.1 hEk).1) ?_
      intro v6 wq65 hOa hgra
      simp only [Nat.zero_add, List.nil_append] at hOa
      replace hEd := (hgra.block gqd (Array.getElem?_eq_some_iff.1 hEd).1 (fun e => hndk (by simpa [Value.ownBlock] using e))).trans hEd
      replace hEv := (hgra.block gqv (Array.getElem?_eq_some_iff.1 hEv).1 (fun e => hnvk (by simpa [Value.ownBlock] using e))).trans hEv
      replace hT := hT.grow hgra (fun j e => by simp only [Value.ownBlock, Option.some.injEq] at e; omega)
      obtain ⟨qka, qkc, eq, hOk⟩ := own_tx hOa
      subst eq
      clear hLit hOa hgra hEk
      refine hK.out _ _ hT.cells (fun hHeld => ?_)
      clear hK KK
      change wpAnyH _ _ _ _ _ _ _ (Act.put _ (some 8) _) _
      try simp only [Act.put, List.setIfInBounds_toArray, List.set_cons_zero, List.set_cons_succ]
      refine wpAnyH_ready (rs := [9]) (by kernel_rfl) (by simp) ?_
      refine AllReadyH.cons rfl (fun KK hK => ?_) AllReadyH.nil
      rw [if_pos (by kernel_rfl)]
      have hLit : wq65.ownsRow gqv 9 1 (.slice (some ⟨gqv, 0, none⟩) 0 0) 0 [] := own_empty hEv
      refine wp_append_opt14 (.tmp 9) (.tmp 11) 24 rfl gqv 9 i0 (.string ⟨#[]⟩) 1 16 Try.underlying24 hi hz0 hz1 hz2 rfl (by decide) (.slice (some ⟨gqv, 0, none⟩) 0 0) 0 [] rfl hLit va (L.vs.length) vc (txc L.vs) rfl (fun e => (HV.out.nil e)) (by simp [txc]) (HV.out.news (hT.bel)) (HV.out.one) (by unfold maxLen; omega) (by omega) (Nat.le_of_lt (Array.getElem?_eq_some_iff.1 hEv).1) ?_
      intro v6 wq66 hOa hgra
      simp only [Nat.zero_add, List.nil_append] at hOa
      replace hEd := (hgra.block gqd (Array.getElem?_eq_some_iff.1 hEd).1 (fun e => hndv (by simpa [Value.ownBlock] using e))).trans hEd
      replace hOk := And.intro (hOk.1.grownE hgra hEv) hOk.2
      replace hT := hT.grow hgra (fun j e => by simp only [Value.ownBlock, Option.some.injEq] at e; omega)
      obtain ⟨qva, qvc, eq, hOv⟩ := own_tx hOa
      subst eq
      clear hLit hOa hgra hEv
      refine hK.out _ _ hT.cells (fun hHeld => ?_)
      clear hK KK
      change wpAnyH _ _ _ _ _ _ _ (Act.put _ (some 12) _) _
      try simp only [Act.put, List.setIfInBounds_toArray, List.set_cons_zero, List.set_cons_succ]
      refine wpAnyH_ready (rs := [13]) (by kernel_rfl) (by simp) ?_
      refine AllReadyH.cons rfl (fun KK hK => ?_) AllReadyH.nil
      rw [if_pos (by kernel_rfl)]
      have hLit : wq66.ownsRow gqd 3 1 (.slice (some ⟨gqd, 0, none⟩) 0 0) 0 [] := own_empty hEd
      refine wp_append_opt14 (.tmp 13) (.tmp 15) 25 rfl gqd 3 j0 (.int .i64 0) 1 8 Try.underlying25 hj hy0 hy1 hy2 rfl (by decide) (.slice (some ⟨gqd, 0, none⟩) 0 0) 0 [] rfl hLit da (L.ds.length) dc (nuc L.ds) rfl (fun e => (HD.out.nil e)) (by simp [nuc]) (HD.out.news (hT.bel)) (HD.out.one) (by unfold maxLen; omega) (by omega) (Nat.le_of_lt (Array.getElem?_eq_some_iff.1 hEd).1) ?_
      intro v6 wq67 hOa hgra
      simp only [Nat.zero_add, List.nil_append] at hOa
      replace hOk := And.intro (hOk.1.grownE hgra hEd) hOk.2
      replace hOv := And.intro (hOv.1.grownE hgra hEd) hOv.2
      replace hT := hT.grow hgra (fun j e => by simp only [Value.ownBlock, Option.some.injEq] at e; omega)
      obtain ⟨qda, qdc, eq, hOd⟩ := own_nu hOa
      subst eq
      clear hLit hOa hgra hEd
      refine hK.out _ _ hT.cells (fun hHeld => ?_)
      clear hK KK
      change wpAnyH _ _ _ _ _ _ _ (Act.put _ (some 16) _) _
      try simp only [Act.put, List.setIfInBounds_toArray, List.set_cons_zero, List.set_cons_succ]
      refine' wpAnyH_take (i := 14) (v := _) rfl (by kernel_rfl) (by kernel_rfl) (by kernel_rfl) (fun _ _ _ h => h) (Or.inl ⟨by kernel_rfl, ?hcp23⟩) (by assumption) ?rcp23
      case hcp23 => intro W hW; obtain ⟨c0, c1, c2, c3⟩ := hW; go_simp; all_goals with_reducible rfl
      change wpAnyH _ _ _ _ _ _ _ (Act.put _ (some 17) _) _
      simp only [Act.put, List.setIfInBounds_toArray, List.set_cons_zero, List.set_cons_succ]
      refine wpAnyH_ready (rs := [15]) (by kernel_rfl) (by simp) ?_
      refine AllReadyH.cons rfl (fun KK hK => ?_) AllReadyH.nil
      obtain ⟨y0, y1, y2, y3⟩ := hT.r.cells
      obtain ⟨f0, f1, f2, f3⟩ := hT.r.fz
      have hr1 := hT.r.set0 (.bool L.leaf)
      have hr2 := hr1.set1 (.slice qka L.ks.length qkc)
      have hr3 := hr2.set2 (.slice qva L.vs.length qvc)
      have hr4 := hr3.set3 (.slice qda L.ds.length qdc)
      have hV : RV3 wq67 (.slice qka L.ks.length qkc) (.slice qva L.vs.length qvc) (.slice qda L.ds.length qdc) L := ⟨⟨_, _, rfl, hOk⟩, ⟨_, _, rfl, hOv⟩, ⟨_, _, rfl, hOd⟩⟩
      have hV4 := (((hV.setN (i := 0) (u := .bool L.leaf) hT.r cell4_no).setN (i := 1) (u := (.slice qka L.ks.length qkc)) hr1 cell4_no).setN (i := 2) (u := (.slice qva L.vs.length qvc)) hr2 cell4_no).setN (i := 3) (u := (.slice qda L.ds.length qdc)) hr3 cell4_no
      have hB4 := (((hT.bel.setCell (p := ⟨w.heap.size + 1, 0, none⟩) (by simp) (.bool L.leaf)).setCell (p := ⟨w.heap.size + 1, 1, none⟩) (by simp) (.slice qka L.ks.length qkc)).setCell (p := ⟨w.heap.size + 1, 2, none⟩) (by simp) (.slice qva L.vs.length qvc)).setCell (p := ⟨w.heap.size + 1, 3, none⟩) (by simp) (.slice qda L.ds.length qdc)
      have ha4 := (((hT.a.other (C := w.heap.size + 1) (i := 0) (u := .bool L.leaf) (by omega)).other (C := w.heap.size + 1) (i := 1) (u := (.slice qka L.ks.length qkc)) (by omega)).other (C := w.heap.size + 1) (i := 2) (u := (.slice qva L.vs.length qvc)) (by omega)).other (C := w.heap.size + 1) (i := 3) (u := (.slice qda L.ds.length qdc)) (by omega)
      go_simp
      have HE : Hid (RV3 _ (.slice qka L.ks.length qkc) (.slice qva L.vs.length qvc) (.slice qda L.ds.length qdc) L ∧ Below w.heap.size w _) := ⟨hV4, hB4⟩
      obtain ⟨m0, m1, m2, m3⟩ := hr4.cells
      have hcs := ha4.cells
      clear y0 y1 y2 y3 f0 f1 f2 f3 hr1 hr2 hr3 hr4 hV hV4 hB4 ha4 hT hOk hOv hOd
      refine hK.out _ _ hcs (fun hHeld => ?_)
      clear hK KK
      try simp only [Act.put, List.setIfInBounds_toArray, List.set_cons_zero, List.set_cons_succ]
      refine wpAnyH_done (by kernel_rfl) ?_ _
      clear hHeld
      go_wp2
      refine bodyPost_ret (v := .agg #[.bool L.leaf, .slice qka L.ks.length qkc, .slice qva L.vs.length qvc, .slice qda L.ds.length qdc]) (by simp [results, Try.results46, go_sem, m0, m1, m2, m3]) rfl ⟨_, _, _, rfl, HE.out⟩
end Go.Proofs.Ytofghefenfdlpaa

