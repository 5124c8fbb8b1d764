/-
  Together: DrawNodes14, NodeChild, NodeRisePlain, TextPlain, NodeBytes, PutSpec, PutTextSpec
-/
import Derived.Test.YtofghefenfdlpaaCh5
import Derived.Test.YtofghefenfdlpaaCh6
import Derived.Test.YtofghefenfdlpaaCh7
import Derived.Deep.RegionHeld3
import Derived.Test.YtofghefenfdlpaaCh1
import Derived.Deep.LoopGhost
import Derived.Lib.AppendStr
import Derived.Test.YtofghefenfdlpaaProg
import Derived.WalkSpells
/-
  What is drawn for ChildOf and SameNode.
-/
namespace Go.Proofs.Ytofghefenfdlpaa
open Go.RowKit
set_option maxRecDepth 4000

/-- A node of a drawn kind reads. -/
structure DN (W : World) (v : Value) (L : NL) : Prop where
  is : ∃ kv vv dv, v = .agg #[.bool L.leaf, kv, vv, dv] ∧ RV3 W kv vv dv L
theorem DN.view {W : World} {v : Value} {L : NL} (h : DN W v L) : NdView W v L.pn := by
  obtain ⟨kv, vv, dv, e, hR⟩ := h.is
  subst e
  exact hR.view
theorem DN.below {W W' : World} {v : Value} {L : NL} (h : DN W v L) (hb : Below W.heap.size W W') : DN W' v L := by
  obtain ⟨kv, vv, dv, e, hR⟩ := h.is
  exact ⟨kv, vv, dv, e, hR.below hb⟩
theorem but_below {g B : Nat} {w w1 w2 : World} (h : Below B w w1) (hb : But g w1 w2) (hg : B ≤ g) (hs : B ≤ w1.heap.size) : Below B w w2 := h.trans (hb.below hg hs)

set_option maxHeartbeats 4000000 in
theorem drawChildOf_any (ao : Option Addr) (n cap : Nat) (f : Nat → Int) (w : World) (hn : n ≤ 1048576) (hv : View w ao n cap f) :
    Calls Try.prog 17 #[.slice ao n cap] w fun e w' => ∃ (L : NL) (v : Value) (s : ByteArray), e = .returned (.tuple #[v, .string s]) ∧ DN w' v L ∧ Small 100 L ∧ s.size ≤ 100 ∧ Below w.heap.size w w' := by
  have hbA : Below w.heap.size w (w.alloc (.cells #[.bool false, .slice none 0 0, .slice none 0 0, .slice none 0 0] 27)) := (Below.refl _ _).alloc (Nat.le_refl _) _
  have hRR := V4.new w 27 (.bool false) (.slice none 0 0) (.slice none 0 0) (.slice none 0 0)
  have hsz : w.heap.size < (w.alloc (.cells #[.bool false, .slice none 0 0, .slice none 0 0, .slice none 0 0] 27)).heap.size := by simp
  have hN := l1New_any ao n cap f _ hn (hv.below hbA)
  clear hv
  go_enter Try.func17, Try.ntmps17
  go_wp2_with fail
  obtain ⟨WA, hWA⟩ : ∃ x, Hid (w.alloc (.cells #[.bool false, .slice none 0 0, .slice none 0 0, .slice none 0 0] 27) = x) := ⟨_, rfl⟩
  rw [hWA.out] at hRR hN hbA hsz ⊢
  refine hN.mono ?_
  rintro e w1 ⟨rfl, hC1, hb1⟩
  obtain ⟨g, hg⟩ : ∃ x, Hid (WA.heap.size = x) := ⟨_, rfl⟩
  rw [hg.out] at hC1 ⊢
  have hgw : w.heap.size < g := by have := hg.out; omega
  replace hRR := hRR.below hb1
  have hB := hbA.trans (hb1.mono hbA.size)
  have hs1 : w.heap.size ≤ w1.heap.size := hB.size
  clear hN hb1 hbA hg hWA
  have hA := l14Any_any g ao n cap f w1 hn hC1
  go_wp2_with fail
  refine hA.mono ?_
  rintro e w2 ⟨L, kv, vv, dv, rfl, hV3, hSm, hCN, hG⟩
  replace hRR := hRR.butN hCN.but (by omega)
  replace hB := but_below hB hCN.but (by omega) hs1
  obtain ⟨⟨ka, kc, ek, -⟩, ⟨va, vc, ev, -⟩, ⟨da, dc, ed, -⟩⟩ := id hV3
  subst ek ev ed
  clear hA
  have hK := l14Key_any g ao n cap f w2 hn hCN.cur
  go_wp2_with fail
  refine hK.mono ?_
  rintro e w3 ⟨s, rfl, hs, hC3⟩
  replace hRR := hRR.butN hC3.but (by omega)
  replace hB := but_below hB hC3.but (by omega) hB.size
  replace hV3 := hV3.but hG hC3.but hCN.lt
  clear hK hC3 hG hCN hC1
  obtain ⟨r0, r1, r2, r3⟩ := hRR.cells
  obtain ⟨z0, z1, z2, z3⟩ := hRR.fz
  have hRF := (((hRR.set0 (.bool L.leaf)).set1 (.slice ka L.ks.length kc)).set2 (.slice va L.vs.length vc)).set3 (.slice da L.ds.length dc)
  obtain ⟨m0, m1, m2, m3⟩ := hRF.cells
  have hr1 := hV3.setN (i := 0) (u := .bool L.leaf) hRR cell4_no
  have hr2 := hr1.setN (i := 1) (u := .slice ka L.ks.length kc) (hRR.set0 (.bool L.leaf)) cell4_no
  have hr3 := hr2.setN (i := 2) (u := .slice va L.vs.length vc) ((hRR.set0 (.bool L.leaf)).set1 (.slice ka L.ks.length kc)) cell4_no
  have hr4 := hr3.setN (i := 3) (u := .slice da L.ds.length dc) (((hRR.set0 (.bool L.leaf)).set1 (.slice ka L.ks.length kc)).set2 (.slice va L.vs.length vc)) cell4_no
  have hb4 := (((hB.setCell (p := ⟨w.heap.size, 0, none⟩) (Nat.le_refl _) (.bool L.leaf)).setCell (p := ⟨w.heap.size, 1, none⟩) (Nat.le_refl _) (.slice ka L.ks.length kc)).setCell (p := ⟨w.heap.size, 2, none⟩) (Nat.le_refl _) (.slice va L.vs.length vc)).setCell (p := ⟨w.heap.size, 3, none⟩) (Nat.le_refl _) (.slice da L.ds.length dc)
  have HE : Hid (RV3 _ (.slice ka L.ks.length kc) (.slice va L.vs.length vc) (.slice da L.ds.length dc) L ∧ Below w.heap.size w _) := ⟨hr4, hb4⟩
  clear hRR hRF hr1 hr2 hr3 hr4 hb4 hV3 hB
  go_wp2
  refine bodyPost_ret (v := .tuple #[.agg #[.bool L.leaf, .slice ka L.ks.length kc, .slice va L.vs.length vc, .slice da L.ds.length dc], .string s]) (by simp [results, Try.results17, go_sem, m0, m1, m2, m3]) rfl ⟨L, _, s, rfl, ⟨_, _, _, rfl, HE.out.1⟩, hSm, hs, HE.out.2⟩

set_option maxHeartbeats 8000000 in
theorem drawSameNode_any (ao : Option Addr) (n cap : Nat) (f : Nat → Int) (w : World) (hn : n ≤ 1048576) (hv : View w ao n cap f) :
    Calls Try.prog 19 #[.slice ao n cap] w fun e w' => ∃ (L L2 : NL) (v v2 : Value), e = .returned (.tuple #[v, v2]) ∧ DN w' v L ∧ DN w' v2 L2 ∧ Small 100 L ∧ Small 100 L2 ∧ Below w.heap.size w w' := by
  have hbA : Below w.heap.size w (w.alloc (.cells #[.bool false, .slice none 0 0, .slice none 0 0, .slice none 0 0] 27)) := (Below.refl _ _).alloc (Nat.le_refl _) _
  have hbA2 : Below (w.alloc (.cells #[.bool false, .slice none 0 0, .slice none 0 0, .slice none 0 0] 27)).heap.size (w.alloc (.cells #[.bool false, .slice none 0 0, .slice none 0 0, .slice none 0 0] 27)) ((w.alloc (.cells #[.bool false, .slice none 0 0, .slice none 0 0, .slice none 0 0] 27)).alloc (.cells #[.bool false, .slice none 0 0, .slice none 0 0, .slice none 0 0] 27)) := (Below.refl _ _).alloc (Nat.le_refl _) _
  have hR0 := (V4.new w 27 (.bool false) (.slice none 0 0) (.slice none 0 0) (.slice none 0 0)).below hbA2
  have hR1 := V4.new (w.alloc (.cells #[.bool false, .slice none 0 0, .slice none 0 0, .slice none 0 0] 27)) 27 (.bool false) (.slice none 0 0) (.slice none 0 0) (.slice none 0 0)
  have hsz0 : (w.alloc (.cells #[.bool false, .slice none 0 0, .slice none 0 0, .slice none 0 0] 27)).heap.size = w.heap.size + 1 := by simp
  rw [hsz0] at hR1
  have hB := hbA.trans (hbA2.mono hbA.size)
  have hsz : w.heap.size + 1 < ((w.alloc (.cells #[.bool false, .slice none 0 0, .slice none 0 0, .slice none 0 0] 27)).alloc (.cells #[.bool false, .slice none 0 0, .slice none 0 0, .slice none 0 0] 27)).heap.size := by simp
  have hN := l1New_any ao n cap f _ hn (hv.below hB)
  clear hv hbA hbA2 hsz0
  go_enter Try.func19, Try.ntmps19
  go_wp2_with fail
  obtain ⟨WA, hWA⟩ : ∃ x, Hid ((w.alloc (.cells #[.bool false, .slice none 0 0, .slice none 0 0, .slice none 0 0] 27)).alloc (.cells #[.bool false, .slice none 0 0, .slice none 0 0, .slice none 0 0] 27) = x) := ⟨_, rfl⟩
  rw [hWA.out] at hR0 hR1 hN hB hsz ⊢
  refine hN.mono ?_
  rintro e w1 ⟨rfl, hC1, hb1⟩
  obtain ⟨g, hg⟩ : ∃ x, Hid (WA.heap.size = x) := ⟨_, rfl⟩
  rw [hg.out] at hC1 ⊢
  have hgw : w.heap.size + 1 < g := by have := hg.out; omega
  replace hR0 := hR0.below hb1
  replace hR1 := hR1.below hb1
  replace hB := hB.trans (hb1.mono hB.size)
  clear hN hb1 hg hWA
  have hA := l14Any_any g ao n cap f w1 hn hC1
  go_wp2_with fail
  refine hA.mono ?_
  rintro e w2 ⟨L, kv, vv, dv, rfl, hV3, hSm, hCN, hG⟩
  have hgl := hCN.lt
  replace hR0 := hR0.butN hCN.but (by omega)
  replace hR1 := hR1.butN hCN.but (by omega)
  replace hB := but_below hB hCN.but (by omega) hB.size
  have hsz2 : g < w2.heap.size := Nat.lt_of_lt_of_le hgl hCN.size
  obtain ⟨⟨ka, kc, ek, -⟩, ⟨va, vc, ev, -⟩, ⟨da, dc, ed, -⟩⟩ := id hV3
  subst ek ev ed
  clear hA hC1
  have hbX : Below w2.heap.size w2 (w2.alloc (.cells #[.bool L.leaf, (.slice ka L.ks.length kc), (.slice va L.vs.length vc), (.slice da L.ds.length dc)] 27)) := (Below.refl _ _).alloc (Nat.le_refl _) _
  have hX := V4.new w2 27 (.bool L.leaf) (.slice ka L.ks.length kc) (.slice va L.vs.length vc) (.slice da L.ds.length dc)
  replace hR0 := hR0.below hbX
  replace hR1 := hR1.below hbX
  replace hV3 := hV3.below hbX
  replace hCN := hCN.below hbX
  replace hB := hB.trans (hbX.mono hB.size)
  obtain ⟨X, hXe⟩ : ∃ x, Hid (w2.heap.size = x) := ⟨_, rfl⟩
  rw [hXe.out] at hX hsz2
  clear hbX
  go_wp2_with fail
  obtain ⟨W2, hW2⟩ : ∃ x, Hid (w2.alloc (.cells #[.bool L.leaf, (.slice ka L.ks.length kc), (.slice va L.vs.length vc), (.slice da L.ds.length dc)] 27) = x) := ⟨_, rfl⟩
  rw [hW2.out] at hX hR0 hR1 hV3 hCN hB ⊢
  rw [hXe.out]
  clear hW2 hXe
  refine (l1Once_any g ao n cap f 2 W2 hn (by omega) (by omega) hCN.cur).mono ?_
  rintro e w3 ⟨b, rfl, hC3, hO3⟩
  have hb3 := But.ofOnly hO3
  replace hX := hX.butN hb3 (by omega)
  replace hR0 := hR0.butN hb3 (by omega)
  replace hR1 := hR1.butN hb3 (by omega)
  replace hV3 := hV3.but hG hb3 hgl
  replace hB := but_below hB hb3 (by omega) hB.size
  replace hCN := hCN.next hC3 hb3
  clear hC3 hO3 hb3
  cases b with
  | true =>
    go_wp2_with fail
    as_aux_lemma =>
      refine wp_region_held_drew (S := fun W => W.cell? ⟨X, 0, none⟩ = some (.bool L.leaf) ∧ W.cell? ⟨X, 1, none⟩ = some (.slice ka L.ks.length kc) ∧ W.cell? ⟨X, 2, none⟩ = some (.slice va L.vs.length vc) ∧ W.cell? ⟨X, 3, none⟩ = some (.slice da L.ds.length dc)) (by kernel_rfl) hX.cells (fun hHeld => ?_)
      have hbd : Below w3.heap.size w3 w3.drew := (Below.refl _ _).drew
      replace hX := hX.below hbd
      replace hR0 := hR0.below hbd
      replace hR1 := hR1.below hbd
      replace hV3 := hV3.below hbd
      replace hCN := hCN.below hbd
      replace hB := hB.trans (hbd.mono hB.size)
      clear hbd
      obtain ⟨wd, hwd⟩ : ∃ x, Hid (w3.drew = x) := ⟨_, rfl⟩
      rw [hwd.out] at hX hR0 hR1 hV3 hCN hB hHeld ⊢
      clear hwd
      refine' wpAnyH_take (i := 0) (v := _) rfl (by kernel_rfl) (by kernel_rfl) (by kernel_rfl) (fun _ _ _ h => h) (Or.inl ⟨by kernel_rfl, ?hsa1⟩) (by assumption) ?rsa1
      case hsa1 => intro W hW; obtain ⟨c0, c1, c2, c3⟩ := hW; go_simp; all_goals with_reducible rfl
      change wpAnyH _ _ _ _ _ _ _ (Act.put _ (some 12) _) _
      simp only [Act.put, List.setIfInBounds_toArray, List.set_cons_zero, List.set_cons_succ]
      refine' wpAnyH_take (i := 1) (v := _) rfl (by kernel_rfl) (by kernel_rfl) (by kernel_rfl) (fun _ _ _ h => h) (Or.inl ⟨by kernel_rfl, ?hsa2⟩) (by assumption) ?rsa2
      case hsa2 => intro W hW; obtain ⟨c0, c1, c2, c3⟩ := hW; go_simp; all_goals with_reducible rfl
      change wpAnyH _ _ _ _ _ _ _ (Act.put _ (some 13) _) _
      simp only [Act.put, List.setIfInBounds_toArray, List.set_cons_zero, List.set_cons_succ]
      refine wpAnyH_ready (rs := [2]) (by kernel_rfl) (by simp) ?_
      refine AllReadyH.cons rfl (fun KK hK => ?_) AllReadyH.nil
      go_simp
      refine (l14Copy_any L _ _ _ wd hV3 hSm).mono ?_
      rintro e w5 ⟨k2, v2, d2, rfl, hV5, hb5⟩
      replace hX := hX.below hb5
      replace hR0 := hR0.below hb5
      replace hR1 := hR1.below hb5
      replace hV3 := hV3.below hb5
      replace hB := hB.trans (hb5.mono hB.size)
      have hS5 := hSm
      clear hb5
      obtain ⟨⟨ka2, kc2, ek, -⟩, ⟨va2, vc2, ev, -⟩, ⟨da2, dc2, ed, -⟩⟩ := id hV5
      subst ek ev ed
      go_wp2_with fail
      refine hK.out _ _ hX.cells (fun hHeld => ?_)
      clear hK KK
      try simp only [Act.put, List.setIfInBounds_toArray, List.set_cons_zero, List.set_cons_succ]
      refine wpAnyH_ready (rs := [3]) (by kernel_rfl) (by simp) ?_
      refine AllReadyH.cons rfl (fun KK hK => ?_) AllReadyH.nil
      obtain ⟨y0, y1, y2, y3⟩ := hR0.cells
      obtain ⟨f0, f1, f2, f3⟩ := hR0.fz
      have s1 := hR0.set0 (.bool L.leaf)
      have s2 := s1.set1 (.slice ka L.ks.length kc)
      have s3 := s2.set2 (.slice va L.vs.length vc)
      have s4 := s3.set3 (.slice da L.ds.length dc)
      replace hV3 := (((hV3.setN (i := 0) (u := (.bool L.leaf)) hR0 cell4_no).setN (i := 1) (u := (.slice ka L.ks.length kc)) s1 cell4_no).setN (i := 2) (u := (.slice va L.vs.length vc)) s2 cell4_no).setN (i := 3) (u := (.slice da L.ds.length dc)) s3 cell4_no
      replace hV5 := (((hV5.setN (i := 0) (u := (.bool L.leaf)) hR0 cell4_no).setN (i := 1) (u := (.slice ka L.ks.length kc)) s1 cell4_no).setN (i := 2) (u := (.slice va L.vs.length vc)) s2 cell4_no).setN (i := 3) (u := (.slice da L.ds.length dc)) s3 cell4_no
      replace hX := (((hX.other (C := w.heap.size) (i := 0) (u := (.bool L.leaf)) (by omega)).other (C := w.heap.size) (i := 1) (u := (.slice ka L.ks.length kc)) (by omega)).other (C := w.heap.size) (i := 2) (u := (.slice va L.vs.length vc)) (by omega)).other (C := w.heap.size) (i := 3) (u := (.slice da L.ds.length dc)) (by omega)
      replace hR1 := (((hR1.other (C := w.heap.size) (i := 0) (u := (.bool L.leaf)) (by omega)).other (C := w.heap.size) (i := 1) (u := (.slice ka L.ks.length kc)) (by omega)).other (C := w.heap.size) (i := 2) (u := (.slice va L.vs.length vc)) (by omega)).other (C := w.heap.size) (i := 3) (u := (.slice da L.ds.length dc)) (by omega)
      replace hB := (((hB.setCell (p := ⟨w.heap.size, 0, none⟩) (by simp) (.bool L.leaf)).setCell (p := ⟨w.heap.size, 1, none⟩) (by simp) (.slice ka L.ks.length kc)).setCell (p := ⟨w.heap.size, 2, none⟩) (by simp) (.slice va L.vs.length vc)).setCell (p := ⟨w.heap.size, 3, none⟩) (by simp) (.slice da L.ds.length dc)
      go_simp
      clear y0 y1 y2 y3 f0 f1 f2 f3 s1 s2 s3 hR0
      have hR0 := s4
      clear s4
      refine hK.out _ _ hX.cells (fun hHeld => ?_)
      clear hK KK
      try simp only [Act.put, List.setIfInBounds_toArray, List.set_cons_zero, List.set_cons_succ]
      obtain ⟨ws0, hws0⟩ : ∃ x, Hid (((((w5.setCell ⟨w.heap.size, 0, none⟩ (.bool L.leaf)).setCell ⟨w.heap.size, 1, none⟩ (.slice ka L.ks.length kc)).setCell ⟨w.heap.size, 2, none⟩ (.slice va L.vs.length vc)).setCell ⟨w.heap.size, 3, none⟩ (.slice da L.ds.length dc)) = x) := ⟨_, rfl⟩
      rw [hws0.out] at hX hR0 hR1 hV3 hV5 hB hHeld ⊢
      clear hws0
      refine wpAnyH_ready (rs := [4]) (by kernel_rfl) (by simp) ?_
      refine AllReadyH.cons rfl (fun KK hK => ?_) AllReadyH.nil
      obtain ⟨y0, y1, y2, y3⟩ := hR1.cells
      obtain ⟨f0, f1, f2, f3⟩ := hR1.fz
      have s1 := hR1.set0 (.bool L.leaf)
      have s2 := s1.set1 (.slice ka2 L.ks.length kc2)
      have s3 := s2.set2 (.slice va2 L.vs.length vc2)
      have s4 := s3.set3 (.slice da2 L.ds.length dc2)
      replace hV3 := (((hV3.setN (i := 0) (u := (.bool L.leaf)) hR1 cell4_no).setN (i := 1) (u := (.slice ka2 L.ks.length kc2)) s1 cell4_no).setN (i := 2) (u := (.slice va2 L.vs.length vc2)) s2 cell4_no).setN (i := 3) (u := (.slice da2 L.ds.length dc2)) s3 cell4_no
      replace hV5 := (((hV5.setN (i := 0) (u := (.bool L.leaf)) hR1 cell4_no).setN (i := 1) (u := (.slice ka2 L.ks.length kc2)) s1 cell4_no).setN (i := 2) (u := (.slice va2 L.vs.length vc2)) s2 cell4_no).setN (i := 3) (u := (.slice da2 L.ds.length dc2)) s3 cell4_no
      replace hX := (((hX.other (C := w.heap.size + 1) (i := 0) (u := (.bool L.leaf)) (by omega)).other (C := w.heap.size + 1) (i := 1) (u := (.slice ka2 L.ks.length kc2)) (by omega)).other (C := w.heap.size + 1) (i := 2) (u := (.slice va2 L.vs.length vc2)) (by omega)).other (C := w.heap.size + 1) (i := 3) (u := (.slice da2 L.ds.length dc2)) (by omega)
      replace hR0 := (((hR0.other (C := w.heap.size + 1) (i := 0) (u := (.bool L.leaf)) (by omega)).other (C := w.heap.size + 1) (i := 1) (u := (.slice ka2 L.ks.length kc2)) (by omega)).other (C := w.heap.size + 1) (i := 2) (u := (.slice va2 L.vs.length vc2)) (by omega)).other (C := w.heap.size + 1) (i := 3) (u := (.slice da2 L.ds.length dc2)) (by omega)
      replace hB := (((hB.setCell (p := ⟨w.heap.size + 1, 0, none⟩) (by simp) (.bool L.leaf)).setCell (p := ⟨w.heap.size + 1, 1, none⟩) (by simp) (.slice ka2 L.ks.length kc2)).setCell (p := ⟨w.heap.size + 1, 2, none⟩) (by simp) (.slice va2 L.vs.length vc2)).setCell (p := ⟨w.heap.size + 1, 3, none⟩) (by simp) (.slice da2 L.ds.length dc2)
      go_simp
      clear y0 y1 y2 y3 f0 f1 f2 f3 s1 s2 s3 hR1
      have hR1 := s4
      clear s4
      refine hK.out _ _ hX.cells (fun hHeld => ?_)
      clear hK KK
      try simp only [Act.put, List.setIfInBounds_toArray, List.set_cons_zero, List.set_cons_succ]
      obtain ⟨ws1, hws1⟩ : ∃ x, Hid (((((ws0.setCell ⟨w.heap.size + 1, 0, none⟩ (.bool L.leaf)).setCell ⟨w.heap.size + 1, 1, none⟩ (.slice ka2 L.ks.length kc2)).setCell ⟨w.heap.size + 1, 2, none⟩ (.slice va2 L.vs.length vc2)).setCell ⟨w.heap.size + 1, 3, none⟩ (.slice da2 L.ds.length dc2)) = x) := ⟨_, rfl⟩
      rw [hws1.out] at hX hR0 hR1 hV3 hV5 hB hHeld ⊢
      clear hws1
      refine wpAnyH_done (by kernel_rfl) ?_ _
      clear hHeld
      obtain ⟨a0, a1, a2, a3⟩ := hR0.cells
      obtain ⟨m0, m1, m2, m3⟩ := hR1.cells
      have HE : Hid (RV3 _ (.slice ka L.ks.length kc) (.slice va L.vs.length vc) (.slice da L.ds.length dc) L ∧ RV3 _ (.slice ka2 L.ks.length kc2) (.slice va2 L.vs.length vc2) (.slice da2 L.ds.length dc2) L ∧ Small 100 L ∧ Below w.heap.size w _) := ⟨hV3, hV5, hS5, hB⟩
      clear hX hR0 hR1 hV3 hV5 hB
      go_wp2
      refine bodyPost_ret (v := .tuple #[.agg #[.bool L.leaf, (.slice ka L.ks.length kc), (.slice va L.vs.length vc), (.slice da L.ds.length dc)], .agg #[.bool L.leaf, (.slice ka2 L.ks.length kc2), (.slice va2 L.vs.length vc2), (.slice da2 L.ds.length dc2)]]) (by simp [results, Try.results19, go_sem, a0, a1, a2, a3, m0, m1, m2, m3]) rfl ⟨L, L, _, _, rfl, ⟨_, _, _, rfl, HE.out.1⟩, ⟨_, _, _, rfl, HE.out.2.1⟩, hSm, HE.out.2.2.1, HE.out.2.2.2⟩
  | false =>
    go_wp2_with fail
    as_aux_lemma =>
      refine wp_region_held_drew (S := fun W => W.cell? ⟨X, 0, none⟩ = some (.bool L.leaf) ∧ W.cell? ⟨X, 1, none⟩ = some (.slice ka L.ks.length kc) ∧ W.cell? ⟨X, 2, none⟩ = some (.slice va L.vs.length vc) ∧ W.cell? ⟨X, 3, none⟩ = some (.slice da L.ds.length dc)) (by kernel_rfl) hX.cells (fun hHeld => ?_)
      have hbd : Below w3.heap.size w3 w3.drew := (Below.refl _ _).drew
      replace hX := hX.below hbd
      replace hR0 := hR0.below hbd
      replace hR1 := hR1.below hbd
      replace hV3 := hV3.below hbd
      replace hCN := hCN.below hbd
      replace hB := hB.trans (hbd.mono hB.size)
      clear hbd
      obtain ⟨wd, hwd⟩ : ∃ x, Hid (w3.drew = x) := ⟨_, rfl⟩
      rw [hwd.out] at hX hR0 hR1 hV3 hCN hB hHeld ⊢
      clear hwd
      refine' wpAnyH_take (i := 0) (v := _) rfl (by kernel_rfl) (by kernel_rfl) (by kernel_rfl) (fun _ _ _ h => h) (Or.inl ⟨by kernel_rfl, ?hsb1⟩) (by assumption) ?rsb1
      case hsb1 => intro W hW; obtain ⟨c0, c1, c2, c3⟩ := hW; go_simp; all_goals with_reducible rfl
      change wpAnyH _ _ _ _ _ _ _ (Act.put _ (some 15) _) _
      simp only [Act.put, List.setIfInBounds_toArray, List.set_cons_zero, List.set_cons_succ]
      refine' wpAnyH_take (i := 1) (v := _) rfl (by kernel_rfl) (by kernel_rfl) (by kernel_rfl) (fun _ _ _ h => h) (Or.inl ⟨by kernel_rfl, ?hsb2⟩) (by assumption) ?rsb2
      case hsb2 => intro W hW; obtain ⟨c0, c1, c2, c3⟩ := hW; go_simp; all_goals with_reducible rfl
      change wpAnyH _ _ _ _ _ _ _ (Act.put _ (some 16) _) _
      simp only [Act.put, List.setIfInBounds_toArray, List.set_cons_zero, List.set_cons_succ]
      refine wpAnyH_ready (rs := [2]) (by kernel_rfl) (by simp) ?_
      refine AllReadyH.cons rfl (fun KK hK => ?_) AllReadyH.nil
      go_simp
      refine (l14Any_any g ao n cap f wd hn hCN.cur).mono ?_
      rintro e w5 ⟨L2, k2, v2, d2, rfl, hV5, hS5, hC5, -⟩
      replace hX := hX.butN hC5.but (by omega)
      replace hR0 := hR0.butN hC5.but (by omega)
      replace hR1 := hR1.butN hC5.but (by omega)
      replace hV3 := hV3.but hG hC5.but hCN.lt
      replace hB := but_below hB hC5.but (by omega) hB.size
      clear hC5 hCN
      obtain ⟨⟨ka2, kc2, ek, -⟩, ⟨va2, vc2, ev, -⟩, ⟨da2, dc2, ed, -⟩⟩ := id hV5
      subst ek ev ed
      go_wp2_with fail
      refine hK.out _ _ hX.cells (fun hHeld => ?_)
      clear hK KK
      try simp only [Act.put, List.setIfInBounds_toArray, List.set_cons_zero, List.set_cons_succ]
      refine wpAnyH_ready (rs := [3]) (by kernel_rfl) (by simp) ?_
      refine AllReadyH.cons rfl (fun KK hK => ?_) AllReadyH.nil
      obtain ⟨y0, y1, y2, y3⟩ := hR0.cells
      obtain ⟨f0, f1, f2, f3⟩ := hR0.fz
      have s1 := hR0.set0 (.bool L.leaf)
      have s2 := s1.set1 (.slice ka L.ks.length kc)
      have s3 := s2.set2 (.slice va L.vs.length vc)
      have s4 := s3.set3 (.slice da L.ds.length dc)
      replace hV3 := (((hV3.setN (i := 0) (u := (.bool L.leaf)) hR0 cell4_no).setN (i := 1) (u := (.slice ka L.ks.length kc)) s1 cell4_no).setN (i := 2) (u := (.slice va L.vs.length vc)) s2 cell4_no).setN (i := 3) (u := (.slice da L.ds.length dc)) s3 cell4_no
      replace hV5 := (((hV5.setN (i := 0) (u := (.bool L.leaf)) hR0 cell4_no).setN (i := 1) (u := (.slice ka L.ks.length kc)) s1 cell4_no).setN (i := 2) (u := (.slice va L.vs.length vc)) s2 cell4_no).setN (i := 3) (u := (.slice da L.ds.length dc)) s3 cell4_no
      replace hX := (((hX.other (C := w.heap.size) (i := 0) (u := (.bool L.leaf)) (by omega)).other (C := w.heap.size) (i := 1) (u := (.slice ka L.ks.length kc)) (by omega)).other (C := w.heap.size) (i := 2) (u := (.slice va L.vs.length vc)) (by omega)).other (C := w.heap.size) (i := 3) (u := (.slice da L.ds.length dc)) (by omega)
      replace hR1 := (((hR1.other (C := w.heap.size) (i := 0) (u := (.bool L.leaf)) (by omega)).other (C := w.heap.size) (i := 1) (u := (.slice ka L.ks.length kc)) (by omega)).other (C := w.heap.size) (i := 2) (u := (.slice va L.vs.length vc)) (by omega)).other (C := w.heap.size) (i := 3) (u := (.slice da L.ds.length dc)) (by omega)
      replace hB := (((hB.setCell (p := ⟨w.heap.size, 0, none⟩) (by simp) (.bool L.leaf)).setCell (p := ⟨w.heap.size, 1, none⟩) (by simp) (.slice ka L.ks.length kc)).setCell (p := ⟨w.heap.size, 2, none⟩) (by simp) (.slice va L.vs.length vc)).setCell (p := ⟨w.heap.size, 3, none⟩) (by simp) (.slice da L.ds.length dc)
      go_simp
      clear y0 y1 y2 y3 f0 f1 f2 f3 s1 s2 s3 hR0
      have hR0 := s4
      clear s4
      refine hK.out _ _ hX.cells (fun hHeld => ?_)
      clear hK KK
      try simp only [Act.put, List.setIfInBounds_toArray, List.set_cons_zero, List.set_cons_succ]
      obtain ⟨ws0, hws0⟩ : ∃ x, Hid (((((w5.setCell ⟨w.heap.size, 0, none⟩ (.bool L.leaf)).setCell ⟨w.heap.size, 1, none⟩ (.slice ka L.ks.length kc)).setCell ⟨w.heap.size, 2, none⟩ (.slice va L.vs.length vc)).setCell ⟨w.heap.size, 3, none⟩ (.slice da L.ds.length dc)) = x) := ⟨_, rfl⟩
      rw [hws0.out] at hX hR0 hR1 hV3 hV5 hB hHeld ⊢
      clear hws0
      refine wpAnyH_ready (rs := [4]) (by kernel_rfl) (by simp) ?_
      refine AllReadyH.cons rfl (fun KK hK => ?_) AllReadyH.nil
      obtain ⟨y0, y1, y2, y3⟩ := hR1.cells
      obtain ⟨f0, f1, f2, f3⟩ := hR1.fz
      have s1 := hR1.set0 (.bool L2.leaf)
      have s2 := s1.set1 (.slice ka2 L2.ks.length kc2)
      have s3 := s2.set2 (.slice va2 L2.vs.length vc2)
      have s4 := s3.set3 (.slice da2 L2.ds.length dc2)
      replace hV3 := (((hV3.setN (i := 0) (u := (.bool L2.leaf)) hR1 cell4_no).setN (i := 1) (u := (.slice ka2 L2.ks.length kc2)) s1 cell4_no).setN (i := 2) (u := (.slice va2 L2.vs.length vc2)) s2 cell4_no).setN (i := 3) (u := (.slice da2 L2.ds.length dc2)) s3 cell4_no
      replace hV5 := (((hV5.setN (i := 0) (u := (.bool L2.leaf)) hR1 cell4_no).setN (i := 1) (u := (.slice ka2 L2.ks.length kc2)) s1 cell4_no).setN (i := 2) (u := (.slice va2 L2.vs.length vc2)) s2 cell4_no).setN (i := 3) (u := (.slice da2 L2.ds.length dc2)) s3 cell4_no
      replace hX := (((hX.other (C := w.heap.size + 1) (i := 0) (u := (.bool L2.leaf)) (by omega)).other (C := w.heap.size + 1) (i := 1) (u := (.slice ka2 L2.ks.length kc2)) (by omega)).other (C := w.heap.size + 1) (i := 2) (u := (.slice va2 L2.vs.length vc2)) (by omega)).other (C := w.heap.size + 1) (i := 3) (u := (.slice da2 L2.ds.length dc2)) (by omega)
      replace hR0 := (((hR0.other (C := w.heap.size + 1) (i := 0) (u := (.bool L2.leaf)) (by omega)).other (C := w.heap.size + 1) (i := 1) (u := (.slice ka2 L2.ks.length kc2)) (by omega)).other (C := w.heap.size + 1) (i := 2) (u := (.slice va2 L2.vs.length vc2)) (by omega)).other (C := w.heap.size + 1) (i := 3) (u := (.slice da2 L2.ds.length dc2)) (by omega)
      replace hB := (((hB.setCell (p := ⟨w.heap.size + 1, 0, none⟩) (by simp) (.bool L2.leaf)).setCell (p := ⟨w.heap.size + 1, 1, none⟩) (by simp) (.slice ka2 L2.ks.length kc2)).setCell (p := ⟨w.heap.size + 1, 2, none⟩) (by simp) (.slice va2 L2.vs.length vc2)).setCell (p := ⟨w.heap.size + 1, 3, none⟩) (by simp) (.slice da2 L2.ds.length dc2)
      go_simp
      clear y0 y1 y2 y3 f0 f1 f2 f3 s1 s2 s3 hR1
      have hR1 := s4
      clear s4
      refine hK.out _ _ hX.cells (fun hHeld => ?_)
      clear hK KK
      try simp only [Act.put, List.setIfInBounds_toArray, List.set_cons_zero, List.set_cons_succ]
      obtain ⟨ws1, hws1⟩ : ∃ x, Hid (((((ws0.setCell ⟨w.heap.size + 1, 0, none⟩ (.bool L2.leaf)).setCell ⟨w.heap.size + 1, 1, none⟩ (.slice ka2 L2.ks.length kc2)).setCell ⟨w.heap.size + 1, 2, none⟩ (.slice va2 L2.vs.length vc2)).setCell ⟨w.heap.size + 1, 3, none⟩ (.slice da2 L2.ds.length dc2)) = x) := ⟨_, rfl⟩
      rw [hws1.out] at hX hR0 hR1 hV3 hV5 hB hHeld ⊢
      clear hws1
      refine wpAnyH_done (by kernel_rfl) ?_ _
      clear hHeld
      obtain ⟨a0, a1, a2, a3⟩ := hR0.cells
      obtain ⟨m0, m1, m2, m3⟩ := hR1.cells
      have HE : Hid (RV3 _ (.slice ka L.ks.length kc) (.slice va L.vs.length vc) (.slice da L.ds.length dc) L ∧ RV3 _ (.slice ka2 L2.ks.length kc2) (.slice va2 L2.vs.length vc2) (.slice da2 L2.ds.length dc2) L2 ∧ Small 100 L2 ∧ Below w.heap.size w _) := ⟨hV3, hV5, hS5, hB⟩
      clear hX hR0 hR1 hV3 hV5 hB
      go_wp2
      refine bodyPost_ret (v := .tuple #[.agg #[.bool L.leaf, (.slice ka L.ks.length kc), (.slice va L.vs.length vc), (.slice da L.ds.length dc)], .agg #[.bool L2.leaf, (.slice ka2 L2.ks.length kc2), (.slice va2 L2.vs.length vc2), (.slice da2 L2.ds.length dc2)]]) (by simp [results, Try.results19, go_sem, a0, a1, a2, a3, m0, m1, m2, m3]) rfl ⟨L, L2, _, _, rfl, ⟨_, _, _, rfl, HE.out.1⟩, ⟨_, _, _, rfl, HE.out.2.1⟩, hSm, HE.out.2.2.1, HE.out.2.2.2⟩
end Go.Proofs.Ytofghefenfdlpaa

/-
  How many keys of a node are no greater than a key: the model's and the program's.
-/
namespace Go.Proofs.Ytofghefenfdlpaa
open Go.RowKit
set_option maxRecDepth 4000

/-- A text that is no greater than another. -/
def leT (a b : ByteArray) : Bool := Op.bytesLess a.toList b.toList || a.toList == b.toList
/-- How many of the first k are no greater. -/
def cntLe (f : Nat → ByteArray) (s : ByteArray) : Nat → Nat
  | 0 => 0
  | k + 1 => cntLe f s k + (if leT (f k) s then 1 else 0)
theorem cntLe_le (f : Nat → ByteArray) (s : ByteArray) : ∀ k, cntLe f s k ≤ k
  | 0 => Nat.le_refl _
  | k + 1 => by have := cntLe_le f s k; simp only [cntLe]; split <;> omega
theorem leq_str (a b : ByteArray) (w : World) : (binOp .leq 9 (.string a) (.string b)).run Try.prog w = .ok (.bool (leT a b)) w := by
  simp [go_sem, binOp, Op.stringOp, leT]

set_option maxHeartbeats 2000000 in
theorem specChild_any (v : Value) (D : PNode) (s : ByteArray) (w : World) (h : NdView w v D) (hf : NFine D) :
    Calls Try.prog 20 #[v, .string s] w fun e w' => e = .returned (.int .i64 (cntLe D.key s D.nk)) ∧ Below w.heap.size w w' := by
  obtain ⟨ac, cc, ap, cp, ai, ci, rfl, hc, -, -⟩ := h.is
  have hnk := hf.nk
  clear h hf
  have hB0 := nbox_start w (.cells #[.bool D.leaf, .slice ac D.nk cc, .slice ap D.nv cp, .slice ai D.nd ci] 27)
  go_enter Try.func20, Try.ntmps20
  go_wp2
  go_loopg [5, 6] D.nk (fun q c i wr => ∃ k : Nat, k ≤ D.nk ∧ q = D.nk - k ∧ c = .int .i64 (cntLe D.key s k) ∧ i = .int .i64 k ∧ Below (w.heap.size + 1) (w.alloc (.cells #[.bool D.leaf, .slice ac D.nk cc, .slice ap D.nv cp, .slice ai D.nd ci] 27)) wr)
  case atStart => exact ⟨0, Nat.zero_le _, rfl, rfl, rfl, hB0⟩
  case round =>
    clear hB0
    obtain ⟨k, hk, rfl, rfl, rfl, hB⟩ := hrel
    obtain ⟨x0, x1, x2, x3⟩ := nbox4 hB
    have hBw := (nbox_below hB).1
    by_cases hlt : k < D.nk
    · obtain ⟨b1, o1, rfl, hb1, y0⟩ := txv_at (hc.below hBw) hlt
      have hkz : (k : Int) < (D.nk : Int) := by omega
      have hle := cntLe_le D.key s k
      have HS : Hid ((cntLe D.key s (k + 1) : Int) = cntLe D.key s k + (if leT (D.key k) s then 1 else 0)) := by
        show _ = _
        simp only [cntLe]; split <;> simp
      have hL := fun W => leq_str (D.key k) s W
      obtain ⟨p0, hp0⟩ : ∃ x, Hid (D.key k = x) := ⟨_, rfl⟩
      obtain ⟨n0, hn0⟩ : ∃ x, Hid (cntLe D.key s k = x) := ⟨_, rfl⟩
      simp only [hp0.out] at hL
      rw [hp0.out] at y0
      rw [hp0.out, hn0.out] at HS
      rw [hn0.out] at hle ⊢
      have HB : Hid (Below (w.heap.size + 1) (w.alloc (.cells #[.bool D.leaf, .slice (some ⟨b1, o1, none⟩) D.nk cc, .slice ap D.nv cp, .slice ai D.nd ci] 27)) wr) := hB
      clear hB hBw hc
      cases hb : leT p0 s
      · rw [hb] at HS
        simp only [hb] at hL
        go_wp2
        go_roundg (D.nk - (k + 1))
        case measure => omega
        case rel => exact ⟨k + 1, by omega, rfl, by rw [HS.out]; simp, by go_num, HB.out⟩
      · rw [hb] at HS
        simp only [hb] at hL
        go_wp2
        go_roundg (D.nk - (k + 1))
        case measure => omega
        case rel => exact ⟨k + 1, by omega, rfl, by rw [HS.out]; go_num, by go_num, HB.out⟩
    · obtain rfl : k = D.nk := by omega
      have hkz : ¬ (D.nk : Int) < (D.nk : Int) := by omega
      clear hc hB
      go_wp2
      go_ret
      exact ⟨rfl, hBw⟩

set_option maxHeartbeats 2000000 in
theorem implChild_any (v : Value) (D : PNode) (s : ByteArray) (w : World) (h : NdView w v D) (hf : NFine D) :
    Calls Try.prog 18 #[v, .string s] w fun e w' => e = .returned (.int .i64 (cntLe D.key s D.nk)) ∧ Below w.heap.size w w' := by
  obtain ⟨ac, cc, ap, cp, ai, ci, rfl, hc, -, -⟩ := h.is
  have hnk := hf.nk
  clear h hf
  have hB0 := nbox_start w (.cells #[.bool D.leaf, .slice ac D.nk cc, .slice ap D.nv cp, .slice ai D.nd ci] 27)
  go_enter Try.func18, Try.ntmps18
  go_wp2
  go_loopg [5, 11] D.nk (fun q c i wr => ∃ k : Nat, k ≤ D.nk ∧ q = D.nk - k ∧ c = .int .i64 (cntLe D.key s k) ∧ i = .int .i64 k ∧ Below (w.heap.size + 1) (w.alloc (.cells #[.bool D.leaf, .slice ac D.nk cc, .slice ap D.nv cp, .slice ai D.nd ci] 27)) wr)
  case atStart => exact ⟨0, Nat.zero_le _, rfl, rfl, rfl, hB0⟩
  case round =>
    clear hB0
    obtain ⟨k, hk, rfl, rfl, rfl, hB⟩ := hrel
    have hBw := (nbox_below hB).1
    by_cases hlt : k < D.nk
    · obtain ⟨b1, o1, rfl, hb1, y0⟩ := txv_at (hc.below hBw) hlt
      have hkz : (k : Int) < (D.nk : Int) := by omega
      have hle := cntLe_le D.key s k
      have HS : Hid ((cntLe D.key s (k + 1) : Int) = cntLe D.key s k + (if leT (D.key k) s then 1 else 0)) := by
        show _ = _
        simp only [cntLe]; split <;> simp
      have hL := fun W => leq_str (D.key k) s W
      obtain ⟨p0, hp0⟩ : ∃ x, Hid (D.key k = x) := ⟨_, rfl⟩
      obtain ⟨n0, hn0⟩ : ∃ x, Hid (cntLe D.key s k = x) := ⟨_, rfl⟩
      simp only [hp0.out] at hL
      rw [hp0.out] at y0
      rw [hp0.out, hn0.out] at HS
      rw [hn0.out] at hle ⊢
      have HB : Hid (Below (w.heap.size + 1) (w.alloc (.cells #[.bool D.leaf, .slice (some ⟨b1, o1, none⟩) D.nk cc, .slice ap D.nv cp, .slice ai D.nd ci] 27)) wr) := hB
      clear hB hBw hc
      cases hb : leT p0 s
      · rw [hb] at HS
        simp only [hb] at hL
        go_wp2
        go_roundg (D.nk - (k + 1))
        case measure => omega
        case rel => exact ⟨k + 1, by omega, rfl, by rw [HS.out]; simp, by go_num, HB.out⟩
      · rw [hb] at HS
        simp only [hb] at hL
        go_wp2
        go_roundg (D.nk - (k + 1))
        case measure => omega
        case rel => exact ⟨k + 1, by omega, rfl, by rw [HS.out]; go_num, by go_num, HB.out⟩
    · obtain rfl : k = D.nk := by omega
      have hkz : ¬ (D.nk : Int) < (D.nk : Int) := by omega
      clear hc hB
      go_wp2
      go_ret
      exact ⟨rfl, hBw⟩
end Go.Proofs.Ytofghefenfdlpaa

/-
  Keys that ascend, and how many of them are no greater, plainly.
-/
namespace Go.Proofs.Ytofghefenfdlpaa
open Go.RowKit
set_option maxRecDepth 4000

theorem bln_irr : ∀ l : List UInt8, Op.bytesLess l l = false
  | [] => rfl
  | x :: xs => by simp [Op.bytesLess, bln_irr xs]
theorem bln_tri : ∀ a b : List UInt8, a ≠ b → Op.bytesLess a b = !Op.bytesLess b a
  | [], [], h => absurd rfl h
  | [], _ :: _, _ => by simp [Op.bytesLess]
  | _ :: _, [], _ => by simp [Op.bytesLess]
  | x :: xs, y :: ys, h => by
    by_cases e : x = y
    · subst e
      have hne : xs ≠ ys := fun e => h (by rw [e])
      simp [Op.bytesLess, bln_tri xs ys hne]
    · have e1 : (x == y) = false := by simpa using e
      have e2 : (y == x) = false := by simpa using fun e3 => e e3.symm
      simp only [Op.bytesLess, e1, e2, Bool.false_and, Bool.or_false]
      have hn : x.toNat ≠ y.toNat := fun e3 => e (UInt8.toNat_inj.1 e3)
      by_cases hl : x < y
      · have : ¬ y < x := by simp only [UInt8.lt_iff_toNat_lt] at hl ⊢; omega
        simp [hl, this]
      · have : y < x := by simp only [UInt8.lt_iff_toNat_lt] at hl ⊢; omega
        simp [hl, this]
theorem bln_trans : ∀ {a b c : List UInt8}, Op.bytesLess a b = true → Op.bytesLess b c = true → Op.bytesLess a c = true
  | [], _, [], h, k => by
    rename_i b
    cases b with
    | nil => simp [Op.bytesLess] at h
    | cons y ys => simp [Op.bytesLess] at k
  | [], _, _ :: _, _, _ => by simp [Op.bytesLess]
  | _ :: _, [], _, h, _ => by simp [Op.bytesLess] at h
  | _ :: _, _ :: _, [], _, k => by simp [Op.bytesLess] at k
  | x :: xs, y :: ys, z :: zs, h, k => by
    simp only [Op.bytesLess, Bool.or_eq_true, decide_eq_true_eq, Bool.and_eq_true, beq_iff_eq, UInt8.lt_iff_toNat_lt] at h k ⊢
    rcases h with h | ⟨rfl, h⟩
    · rcases k with k | ⟨rfl, k⟩
      · left; omega
      · left; exact h
    · rcases k with k | ⟨rfl, k⟩
      · left; exact k
      · right; exact ⟨rfl, bln_trans h k⟩
/-- One text is behind or at the other. -/
def geT (a b : ByteArray) : Bool := !Op.bytesLess a.toList b.toList
theorem geq_str (a b : ByteArray) (w : World) : (binOp .geq 9 (.string a) (.string b)).run Try.prog w = .ok (.bool (geT a b)) w := by
  simp [go_sem, binOp, Op.stringOp, geT]
def ltT (a b : ByteArray) : Bool := Op.bytesLess a.toList b.toList
theorem lss_str (a b : ByteArray) (w : World) : (binOp .lss 9 (.string a) (.string b)).run Try.prog w = .ok (.bool (ltT a b)) w := by
  simp [go_sem, binOp, Op.stringOp, ltT]
/-- The first k ascend. -/
def Rises (f : Nat → ByteArray) (k : Nat) : Prop := ∀ i, i + 1 < k → ltT (f i) (f (i + 1)) = true
theorem rises_lt {f : Nat → ByteArray} {n : Nat} (h : Rises f n) : ∀ (j i : Nat), i < j → j < n → ltT (f i) (f j) = true
  | j + 1, i, hij, hj => by
    by_cases e : i = j
    · subst e; exact h i hj
    · exact bln_trans (rises_lt h j i (by omega) (by omega)) (h j hj)
theorem le_lt {a b s : ByteArray} (h : ltT a b = true) (k : leT b s = true) : leT a s = true := by
  unfold leT at k ⊢
  rw [Bool.or_eq_true] at k ⊢
  rcases k with k | k
  · exact .inl (bln_trans h k)
  · rw [beq_iff_eq] at k
    left; rw [← k]; exact h
theorem not_le {a s : ByteArray} (h : leT a s = false) : ltT s a = true := by
  unfold leT at h
  rw [Bool.or_eq_false_iff] at h
  have hne : a.toList ≠ s.toList := fun e => by rw [e] at h; simp at h
  have := bln_tri _ _ hne
  rw [h.1] at this
  unfold ltT
  cases hx : Op.bytesLess s.toList a.toList with
  | true => rfl
  | false => rw [hx] at this; cases this
/-- Of keys that ascend those that are no greater stand first. -/
theorem cnt_first {f : Nat → ByteArray} {n : Nat} (h : Rises f n) (s : ByteArray) : ∀ m, m ≤ n → ∀ i, i < m → (leT (f i) s = true ↔ i < cntLe f s m)
  | 0, _, i, hi => absurd hi (Nat.not_lt_zero _)
  | m + 1, hm, i, hi => by
    have ih := cnt_first h s m (by omega)
    have hc := cntLe_le f s m
    simp only [cntLe]
    cases hl : leT (f m) s with
    | true =>
      have hall : ∀ j, j < m → leT (f j) s = true := fun j hj => le_lt (rises_lt h m j hj (by omega)) hl
      have hcm : cntLe f s m = m := by
        rcases Nat.eq_zero_or_pos m with rfl | hp
        · rfl
        · have := (ih (m - 1) (by omega)).1 (hall _ (by omega)); omega
      rw [hcm, if_pos rfl]
      by_cases e : i < m
      · simp only [hall i e, true_iff]; omega
      · obtain rfl : i = m := by omega
        simp only [hl, true_iff]; omega
    | false =>
      simp only [Bool.false_eq_true, if_false, Nat.add_zero]
      by_cases e : i < m
      · exact ih i e
      · obtain rfl : i = m := by omega
        rw [hl]
        constructor
        · intro h; cases h
        · intro h; omega
end Go.Proofs.Ytofghefenfdlpaa

/-
  A text's bytes as numbers; what is put of a text.
-/
namespace Go.Proofs.Ytofghefenfdlpaa
open Go.RowKit
set_option maxRecDepth 4000

/-- A text's bytes as numbers. -/
def sl (s : ByteArray) : List Int := s.data.toList.map (fun b => (b.toNat : Int))
theorem sl_len (s : ByteArray) : (sl s).length = s.size := by unfold sl; rw [List.length_map, Array.length_toList]; rfl
theorem sl_byte (s : ByteArray) : ∀ y ∈ sl s, 0 ≤ y ∧ y ≤ 255 := by
  intro y hy
  simp only [sl, List.mem_map] at hy
  obtain ⟨b, _, rfl⟩ := hy
  have := b.toNat_lt
  omega
theorem sl_cells (s : ByteArray) : Lib.strCells s = bl (sl s) := by simp [Lib.strCells, bl, sl]

/-- What is put: the bytes, the count's groups, the text. -/
def textL (n : Nat) (f : Nat → Int) (s : ByteArray) : List Int := lof n f ++ groups (clampN s.size) ++ sl s
theorem textL_len (n : Nat) (f : Nat → Int) (s : ByteArray) : (textL n f s).length = n + (groups (clampN s.size)).length + s.size := by
  unfold textL; rw [List.length_append, List.length_append, lof_len, sl_len]

end Go.Proofs.Ytofghefenfdlpaa

/-
  The bytes of a node, plainly; rows of bytes that an answer owns, by a list.
-/
namespace Go.Proofs.Ytofghefenfdlpaa
open Go.RowKit
set_option maxRecDepth 4000

/-- The groups of the first k numbers, one behind the other. -/
def numL (g : Nat → Int) : Nat → List Int
  | 0 => []
  | k + 1 => numL g k ++ groups (clampN (g k))
/-- One text: its count, its bytes. -/
def oneT (s : ByteArray) : List Int := groups (clampN s.size) ++ sl s
/-- The first k texts, one behind the other. -/
def textsL (f : Nat → ByteArray) : Nat → List Int
  | 0 => []
  | k + 1 => textsL f k ++ oneT (f k)
def headL (D : PNode) : List Int := groups (clampN (if D.leaf then 1 else 0)) ++ groups (clampN D.nk)
/-- The bytes of a node, right or not. -/
def bytesN (D : PNode) : List Int := headL D ++ textsL D.key D.nk ++ (if D.leaf then textsL D.val D.nv else numL D.kid D.nd)
/-- How many they are. -/
def sizeN (D : PNode) : Int := (bytesN D).length
theorem numL_len (g : Nat → Int) : ∀ k, (numL g k).length ≤ 3 * k
  | 0 => by simp [numL]
  | k + 1 => by have := numL_len g k; have := (groups_len (clampN (g k))).2; simp only [numL, List.length_append]; omega
theorem numL_byte (g : Nat → Int) : ∀ k, ∀ y ∈ numL g k, 0 ≤ y ∧ y ≤ 255
  | 0 => by simp [numL]
  | k + 1 => by
    intro y hy
    rw [numL, List.mem_append] at hy
    rcases hy with hy | hy
    · exact numL_byte g k y hy
    · exact groups_byte _ (clampN_bd _).1 (clampN_bd _).2 y hy
theorem oneT_len (s : ByteArray) : (oneT s).length = (groups (clampN s.size)).length + s.size := by rw [oneT, List.length_append, sl_len]
theorem oneT_byte (s : ByteArray) : ∀ y ∈ oneT s, 0 ≤ y ∧ y ≤ 255 := by
  intro y hy
  rw [oneT, List.mem_append] at hy
  rcases hy with hy | hy
  · exact groups_byte _ (clampN_bd _).1 (clampN_bd _).2 y hy
  · exact sl_byte s y hy
theorem textsL_len {f : Nat → ByteArray} {n : Nat} (h : ∀ i, i < n → (f i).size ≤ 1048576) : ∀ k, k ≤ n → (textsL f k).length ≤ 1048579 * k
  | 0, _ => by simp [textsL]
  | k + 1, hk => by
    have := textsL_len h k (by omega)
    have := (groups_len (clampN (f k).size)).2
    have := h k (by omega)
    simp only [textsL, List.length_append, oneT_len]; omega
theorem textsL_byte (f : Nat → ByteArray) : ∀ k, ∀ y ∈ textsL f k, 0 ≤ y ∧ y ≤ 255
  | 0 => by simp [textsL]
  | k + 1 => by
    intro y hy
    rw [textsL, List.mem_append] at hy
    rcases hy with hy | hy
    · exact textsL_byte f k y hy
    · exact oneT_byte _ y hy
theorem headL_len (D : PNode) : (headL D).length ≤ 6 := by
  have := (groups_len (clampN (if D.leaf then 1 else 0))).2
  have := (groups_len (clampN D.nk)).2
  simp only [headL, List.length_append]; omega
theorem headL_byte (D : PNode) : ∀ y ∈ headL D, 0 ≤ y ∧ y ≤ 255 := by
  intro y hy
  rw [headL, List.mem_append] at hy
  rcases hy with hy | hy <;> exact groups_byte _ (clampN_bd _).1 (clampN_bd _).2 y hy

/-- Bytes of the call's own, by a list. -/
def BR (w : World) (B : Nat) (v : Value) (L : List Int) : Prop :=
  ∃ g c, v = .slice (some ⟨g, 0, none⟩) L.length c ∧ B ≤ g ∧ L.length ≤ c ∧ Row 5 w g L.length (fun i => L.getD i 0)
theorem BR.below {w w' : World} {B : Nat} {v : Value} {L : List Int} (h : BR w B v L) (hb : Below w.heap.size w w') : BR w' B v L := by
  obtain ⟨g, c, e, hB, hc, hr⟩ := h
  exact ⟨g, c, e, hB, hc, hr.belowAll hb⟩
theorem BR.mono {w : World} {B B' : Nat} {v : Value} {L : List Int} (h : BR w B v L) (hB : B' ≤ B) : BR w B' v L := by
  obtain ⟨g, c, e, h1, hc, hr⟩ := h
  exact ⟨g, c, e, Nat.le_trans hB h1, hc, hr⟩
theorem getD_byte {L : List Int} (h : ∀ y ∈ L, 0 ≤ y ∧ y ≤ 255) : ∀ i, i < L.length → 0 ≤ L.getD i 0 ∧ L.getD i 0 ≤ 255 := fun i hi => by
  have := h _ (List.getElem_mem hi)
  simpa [hi] using this
theorem BR.view {w : World} {B : Nat} {v : Value} {L : List Int} (h : BR w B v L) (hy : ∀ y ∈ L, 0 ≤ y ∧ y ≤ 255) : ∃ g c, v = .slice (some ⟨g, 0, none⟩) L.length c ∧ View w (some ⟨g, 0, none⟩) L.length c (fun i => L.getD i 0) := by
  obtain ⟨g, c, e, -, hc, hr⟩ := h
  exact ⟨g, c, e, hr.view hc (getD_byte hy)⟩
end Go.Proofs.Ytofghefenfdlpaa

/-
  The model's PutU: what was there, and behind it the number's groups, in memory of its own.
-/
namespace Go.Proofs.Ytofghefenfdlpaa
open Go.RowKit
set_option maxRecDepth 4000

set_option maxHeartbeats 1000000 in
theorem putU_spec (b off n cap : Nat) (f : Nat → Int) (x : Int) (w : World) (hv : View w (some ⟨b, off, none⟩) n cap f) (hn : n ≤ 70368744177664) (hx0 : -9223372036854775808 ≤ x) (hx1 : x ≤ 9223372036854775807) :
    Calls Try.prog 64 #[.slice (some ⟨b, off, none⟩) n cap, .int .i64 x] w fun e w' => ∃ v, e = .returned v ∧ w'.ownsRow w.heap.size 5 1 v (n + (groups (clampN x)).length) (bl (lof n f ++ groups (clampN x))) ∧ Below w.heap.size w w' := by
  obtain ⟨i0, hi, hz0, hz1, hz2⟩ := info_parts Try.info5
  have hown0 := World.ownsRow_lit (base := w.heap.size) (e := 5) (size := 1) w #[] 0 (Nat.le_refl _) (Nat.zero_le _) rfl
  have hb0 : Below w.heap.size w (w.alloc (.cells #[] 5)) := (Below.refl _ _).alloc (Nat.le_refl _) _
  have hcl := cells_of_view (hv.below hb0)
  have hsz : (w.alloc (.cells #[] 5)).heap.size = w.heap.size + 1 := by simp
  go_enter Try.func64, Try.ntmps64
  go_wp2_with (at_builtin; go_must (refine wpList_append_own _ rfl (.tmp 6) (.tmp 7) 22 rfl w.heap.size 5 i0 (.int .u8 0) 1 1 Try.underlying22 hi hz0 hz1 hz2 rfl (by decide) (.slice (some ⟨w.heap.size, 0, none⟩) 0 0) 0 [] rfl hown0 ⟨b, off, none⟩ n cap (bl (lof n f)) rfl (by rw [bl_len, lof_len]; omega) hcl (bl_one _) (by unfold maxLen; omega) (by omega) (by rw [hsz]; omega) ?_); intro v1 w1 hown1 hgr1 _)
  all_goals
    have hb1 : Below w.heap.size w w1 := hb0.grown hgr1 (by simp) (fun k hk => by simp only [Value.ownBlock, Option.some.injEq] at hk; omega)
    clear hown0 hcl hsz hgr1 hb0 hv
    simp only [Nat.zero_add, List.nil_append] at hown1
    go_loopg [1, 5] (clampN x).toNat (fun g s v wr => ∃ (y : Int) (ys : List Int), s = .int .i64 y ∧ 0 ≤ y ∧ y ≤ 1000000 ∧ g = y.toNat ∧ groups (clampN x) = ys ++ groups y ∧ wr.ownsRow w.heap.size 5 1 v (n + ys.length) (bl (lof n f ++ ys)) ∧ Below w.heap.size w wr)
    case atStart => exact ⟨clampN x, [], congrArg (Value.int .i64) (by unfold clampN; split <;> (try split) <;> omega), (clampN_bd x).1, (clampN_bd x).2, rfl, rfl, by rw [List.append_nil]; exact hown1, hb1⟩
    case round =>
      obtain ⟨y, ys, rfl, hy0, hy1, rfl, hgr, hown, hB⟩ := hrel
      clear hown1 hb1
      have HG : Hid (groups (clampN x) = ys ++ groups y) := hgr
      have hlen : n + ys.length ≤ n + 3 := by have := groups_len (clampN x); rw [hgr] at this; simp at this; have := groups_len y; omega
      clear hgr
      have hA : ∀ z : Int, bits .and .i64 z 127 = z % 128 := i64_and127
      have hq : bits .or .i64 (y % 128) 128 = y % 128 + 128 := i64_or_add 7 _ _ (by omega) (by show _ < (128 : Int); omega) (by omega) (by decide) (by omega) (by decide)
      by_cases hlt : y < 128
      · go_wp2_with (at_builtin; go_must (refine wpList_append_own _ rfl (.tmp 24) (.tmp 27) 22 rfl w.heap.size 5 i0 (.int .u8 0) 1 1 Try.underlying22 hi hz0 hz1 hz2 rfl (by decide) u5 _ _ rfl (hown.alloc _) ⟨wr.heap.size, 0, none⟩ 1 1 [.int .u8 y] rfl rfl (cellNew _ _ _) (bl_one [y]) (by unfold maxLen; omega) (by omega) (by have := hB.size; simp; omega) ?_); intro v2 w2 hown2 hgr2 _)
        go_ret
        refine ⟨v2, rfl, ?_, ?_⟩
        · rw [HG.out, groups_last y hlt, List.length_append, ← List.append_assoc, bl_append]
          rw [Nat.add_assoc] at hown2
          exact hown2
        · exact (hB.alloc hB.size _).grown hgr2 (by have := hB.size; simp; omega) (fun k hk => (hown.lt k hk).1)
      · have hS : y / 128 < y := by omega
        have hG2 : Hid (groups (clampN x) = (ys ++ [y % 128 + 128]) ++ groups (y / 128)) := by
          have := HG.out
          rw [groups_step y (by omega) hy1] at this
          rw [List.append_assoc]; exact this
        go_wp2_with (at_builtin; go_must (refine wpList_append_own _ rfl (.tmp 15) (.tmp 20) 22 rfl w.heap.size 5 i0 (.int .u8 0) 1 1 Try.underlying22 hi hz0 hz1 hz2 rfl (by decide) u5 _ _ rfl (hown.alloc _) ⟨wr.heap.size, 0, none⟩ 1 1 [.int .u8 (y % 128 + 128)] rfl rfl (cellNew _ _ _) (bl_one [y % 128 + 128]) (by unfold maxLen; omega) (by omega) (by have := hB.size; simp; omega) ?_); intro v2 w2 hown2 hgr2 _)
        have hB2 : Below w.heap.size w w2 := (hB.alloc hB.size _).grown hgr2 (by have := hB.size; simp; omega) (fun k hk => (hown.lt k hk).1)
        have hO2 : w2.ownsRow w.heap.size 5 1 v2 (n + (ys ++ [y % 128 + 128]).length) (bl (lof n f ++ (ys ++ [y % 128 + 128]))) := by
          rw [List.length_append, ← List.append_assoc, bl_append]
          rw [Nat.add_assoc] at hown2
          exact hown2
        clear hgr2 hown hown2 hB
        go_wp2
        go_roundg ((y / 128).toNat)
        case measure => omega
        case rel => exact ⟨y / 128, ys ++ [y % 128 + 128], rfl, by omega, by omega, rfl, hG2.out, hO2, hB2⟩
end Go.Proofs.Ytofghefenfdlpaa

/-
  The model's PutText: what was there, the number of the text's bytes, and these, in memory of its own.
-/
namespace Go.Proofs.Ytofghefenfdlpaa
open Go.RowKit
set_option maxRecDepth 4000

set_option maxHeartbeats 1000000 in
theorem putText_spec (b off n cap : Nat) (f : Nat → Int) (s : ByteArray) (w : World) (hv : View w (some ⟨b, off, none⟩) n cap f) (hn : n ≤ 35184372088832) (hs : s.size ≤ 35184372088832) :
    Calls Try.prog 65 #[.slice (some ⟨b, off, none⟩) n cap, .string s] w fun e w' => ∃ g c, e = .returned (.slice (some ⟨g, 0, none⟩) (n + (groups (clampN s.size)).length + s.size) c) ∧ w.heap.size ≤ g ∧ n + (groups (clampN s.size)).length + s.size ≤ c ∧ Row 5 w' g (n + (groups (clampN s.size)).length + s.size) (fun i => (textL n f s).getD i 0) ∧ Below w.heap.size w w' := by
  obtain ⟨i0, hi, hz0, hz1, hz2⟩ := info_parts Try.info5
  have hgl := (groups_len (clampN s.size)).2
  have hg1 := (groups_len (clampN s.size)).1
  obtain ⟨gs, hgs⟩ : ∃ gs, Hid (groups (clampN s.size) = gs) := ⟨_, rfl⟩
  rw [hgs.out] at hgl hg1
  go_enter Try.func65, Try.ntmps65
  go_wp2_with fail
  refine (putU_spec b off n cap f (s.size : Int) w hv (by omega) (by omega) (by omega)).mono ?_
  rintro e w1 ⟨v, rfl, hown, hb1⟩
  rw [hgs.out] at hown
  go_wp2_with (at_builtin; go_must (refine Lib.wpList_append_own_string _ rfl (.tmp 8) (.tmp 9) 22 9 rfl w.heap.size 5 i0 Try.underlying22 Try.underlying9 hi hz0 hz1 hz2 v _ _ rfl hown s rfl (by unfold maxLen; omega) (by omega) hb1.size ?_); intro v2 w2 hown2 hgr2 _)
  have hb2 : Below w.heap.size w w2 := hb1.grown hgr2 hb1.size (fun k hk => (hown.lt k hk).1)
  go_ret
  rw [sl_cells, ← bl_append] at hown2
  obtain ⟨g, c, hv2, hg, hgc, hrow⟩ := row_of_own hown2 (by omega)
  unfold textL
  rw [hgs.out, hv2]
  exact ⟨g, c, rfl, hg, hgc, hrow, hb2⟩

end Go.Proofs.Ytofghefenfdlpaa

