/-
  The model's l12Copy.
-/
import Derived.Test.YtagjgnephaaehaaDiskApp
import Derived.Test.YtagjgnephaaehaaDiskOwnC
import Derived.Deep.LoopGhost
import Derived.Deep.RegionHeld3
namespace Go.Proofs.Ytagjgnephaaehaa
open Go.RowKit
set_option maxRecDepth 4000

/-- Rows that lie below what grows. -/
theorem Bs.grownNew {w w' : World} {B g0 : Nat} {vs : List Value} {ls : List (List Int)} {row : Option Nat} (h : Bs w B vs ls) (hn : ∀ v, v ∈ vs → ∀ g, v.ownBlock = some g → g < g0) (hg : w.grownBy w' row) (hr : ∀ k, row = some k → g0 ≤ k) : Bs w' B vs ls := by
  refine ⟨h.len, fun q v l h1 h2 => ?_, fun v hv q hq => ?_, h.apt⟩
  · obtain ⟨a, c, rfl, k1, k2, k3, k4⟩ := (h.ob q v l h1 h2).is
    refine ⟨a, c, rfl, k1, k2, k3, ?_⟩
    rcases k4 with k4 | ⟨g1, rfl, hb, hrw⟩
    · exact .inl k4
    · refine .inr ⟨g1, rfl, hb, hrw.of_block (hg.block g1 hrw.lt (fun e => ?_))⟩
      have h3 := hr g1 e.symm
      have h4 := hn _ (List.mem_of_getElem? h1) g1 rfl
      omega
  · have := h.lt v hv q hq
    exact ⟨this.1, Nat.lt_of_lt_of_le this.2 hg.size⟩
theorem own_lt {W : World} {base T c N : Nat} {v : Value} {xs : List Value} (h : W.ownsRow base T c v N xs) : ∀ g, v.ownBlock = some g → g < W.heap.size := by
  intro g hg
  rcases h.2 with ⟨rfl, _⟩ | ⟨g', cap, cur, rfl, _, hg', _⟩
  · cases hg
  · cases hg; exact (Array.getElem?_eq_some_iff.1 hg').1
/-- k sectors are copied. -/
def E1 (w : World) (D : PDisk) (sa : Option Addr) (sc : Nat) (ca : Option Addr) (cc : Nat) (fa : Option Addr) (fc : Nat) (ga : Option Addr) (gc : Nat) (X : Nat) (k : Nat) (W : World) : Prop :=
  ∃ (v : Value) (ss : List Value), TS w W X [.slice sa D.secs.length sc, .slice ca D.cache.length cc, .int .i64 D.ops, .slice fa D.faults.length fc, .bool D.down] [.slice none 0 0, .slice none 0 0, .int .i64 0, .slice none 0 0, .bool false] [v, .slice none 0 0, .int .i64 D.ops, .slice ga D.faults.length gc, .bool D.down] ∧ W.ownsRow w.heap.size 49 1 v k ss ∧ Bs W w.heap.size ss (D.secs.take k) ∧ W.ownsRow w.heap.size 63 3 (.slice ga D.faults.length gc) D.faults.length (fcells D.faults)
/-- .. and k writes. -/
def E2 (w : World) (D : PDisk) (sa : Option Addr) (sc : Nat) (ca : Option Addr) (cc : Nat) (fa : Option Addr) (fc : Nat) (ga : Option Addr) (gc : Nat) (X : Nat) (vs : Value) (ss : List Value) (k : Nat) (W : World) : Prop :=
  ∃ (v : Value) (cs : List Value), cs.length = k ∧ TS w W X [.slice sa D.secs.length sc, .slice ca D.cache.length cc, .int .i64 D.ops, .slice fa D.faults.length fc, .bool D.down] [.slice none 0 0, .slice none 0 0, .int .i64 0, .slice none 0 0, .bool false] [vs, v, .int .i64 D.ops, .slice ga D.faults.length gc, .bool D.down] ∧ W.ownsRow w.heap.size 49 1 vs D.secs.length ss ∧ W.ownsRow w.heap.size 52 2 v k (wcells (D.cache.take k) cs) ∧ Bs W w.heap.size (ss ++ cs) (D.secs ++ (D.cache.take k).map (·.2)) ∧ W.ownsRow w.heap.size 63 3 (.slice ga D.faults.length gc) D.faults.length (fcells D.faults)

set_option maxHeartbeats 16000000 in
theorem l12Copy_own (v : Value) (D : PDisk) (w : World) (h : KView w v D) (hf : KFine D) :
    Calls Try.prog 20 #[v] w fun e w' => ∃ v', e = .returned v' ∧ KOC w' w.heap.size v' D ∧ Below w.heap.size w w' := by
  obtain ⟨i0, hi, hz0, hz1, hz2⟩ := infoFault
  obtain ⟨sa, sc, ca, cc, fa, fc, rfl, hs, hc, hfv⟩ := h.is
  clear h
  have hns := hf.ns
  have hnc := hf.nc
  have hnf := hf.nf
  have hA0 := VN.new w 31 [.slice sa D.secs.length sc, .slice ca D.cache.length cc, .int .i64 D.ops, .slice fa D.faults.length fc, .bool D.down]
  have hR := VN.new (w.alloc (.cells #[.slice sa D.secs.length sc, .slice ca D.cache.length cc, .int .i64 D.ops, .slice fa D.faults.length fc, .bool D.down] 31)) 31 [.slice none 0 0, .slice none 0 0, .int .i64 0, .slice none 0 0, .bool false]
  rw [alloc_sizeK] at hR
  have hbel : Below w.heap.size w ((w.alloc (.cells #[.slice sa D.secs.length sc, .slice ca D.cache.length cc, .int .i64 D.ops, .slice fa D.faults.length fc, .bool D.down] 31)).alloc (.cells #[.slice none 0 0, .slice none 0 0, .int .i64 0, .slice none 0 0, .bool false] 31)) := ((Below.refl _ _).alloc (Nat.le_refl _) _).alloc (by simp) _
  have hA := hA0.below ((Below.refl _ _).alloc (Nat.le_refl _) (.cells #[.slice none 0 0, .slice none 0 0, .int .i64 0, .slice none 0 0, .bool false] 31))
  have HFV : Hid (FView w fa fc D.faults) := hfv
  have HH : Hid (SView w sa sc D.secs ∧ WView w ca cc D.cache ∧ KFine D) := ⟨hs, hc, hf⟩
  clear hs hc hfv hf hA0
  go_enter Try.func20, Try.ntmps20
  go_wp2_with fail
  rename_i K1 hK1
  have HREST : ∀ (X : Nat) (ga : Option Addr) (gc : Nat) (t6 t7 t8 t9 t10 t11 t12 t13 t14 : Value) (W : World), E1 w D sa sc ca cc fa fc ga gc X 0 W → D.faults.length ≤ gc → (ga = none → gc = 0) → K1 { tmps := #[.agg #[.slice sa D.secs.length sc, .slice ca D.cache.length cc, .int .i64 D.ops, .slice fa D.faults.length fc, .bool D.down], .pointer (some ⟨w.heap.size, 0, none⟩), .pointer (some ⟨w.heap.size + 1, 0, none⟩), .pointer (some ⟨X, 0, none⟩), undef, undef, t6, t7, t8, t9, t10, t11, t12, t13, t14, undef, undef, undef, undef, undef, undef, undef, undef, undef, undef, undef, undef, undef, undef, undef, undef, undef, undef, undef, undef, undef, undef, undef, undef, undef, undef, undef, undef, undef, undef, undef, undef, undef, undef, undef, undef, undef, undef, undef, undef, undef, undef, undef, undef, undef, undef, undef], defers := [] } W := by
    intro X ga gc t6 t7 t8 t9 t10 t11 t12 t13 t14 W hE0 hgl hgn
    clear hA hR hbel hi hz0 hz1 hz2
    apply hK1
    clear hK1
    go_wp2
    go_loopg [4] D.secs.length (fun q i wr => ∃ k : Nat, k ≤ D.secs.length ∧ q = D.secs.length - k ∧ i = .int .i64 k ∧ E1 w D sa sc ca cc fa fc ga gc X k wr)
    case atStart => exact ⟨0, Nat.zero_le _, rfl, rfl, hE0⟩
    case round =>
      clear hE0
      obtain ⟨k, hk, rfl, rfl, vS, ss, hT, hO, hBs, hF⟩ := hrel
      obtain ⟨⟨x0, x1, x2, x3, x4⟩, -, -⟩ := hT.cells
      by_cases hlt : k < D.secs.length
      · obtain ⟨i0, hi, hz0, hz1, hz2⟩ := infoSec
        obtain ⟨ib, hib, hb0, hb1, hb2⟩ := info_parts Try.info5
        obtain ⟨b1, o1, a3, c3, esa, hb1', z0, v0, vn⟩ := sview_at (sview_below HH.out.1 hT.below) hlt
        subst esa
        have hkz : (k : Int) < (D.secs.length : Int) := by omega
        have hpl := HH.out.2.2.sec _ (List.getElem_mem hlt)
        obtain ⟨pl, HPL⟩ := hidEx D.secs[k]
        rw [HPL.out] at z0 v0 hpl
        obtain ⟨p0, HP0⟩ := hidEx pl.length
        have hp0l : p0 ≤ 1048576 := by rw [← HP0.out]; exact hpl
        have HBY : Hid (∀ x ∈ pl, 0 ≤ x ∧ x ≤ 255) := lv_bytes v0
        have HC : Hid (∀ W, Below w.heap.size w W → W.cell? ⟨b1, o1 + k, none⟩ = some (.slice a3 p0 c3)) := by
          intro W hW
          obtain ⟨b2, o2, a4, c4, e2, -, y0, -, -⟩ := sview_at (sview_below HH.out.1 hW) hlt
          cases e2
          have hlow : b1 < w.heap.size := by
            obtain ⟨b5, o5, e5, hlt5, -⟩ := HH.out.1.cells (by omega)
            cases e5; exact hlt5
          rw [hW.cell (p := ⟨b1, o1 + k, none⟩) hlow, ← hT.below.cell (p := ⟨b1, o1 + k, none⟩) hlow, z0, HP0.out]
        have HV : Hid (∀ W, Below w.heap.size w W → View W a3 p0 c3 (bf pl)) := by
          intro W hW
          have hlow : b1 < w.heap.size := by
            obtain ⟨b5, o5, e5, hlt5, -⟩ := HH.out.1.cells (by omega)
            cases e5; exact hlt5
          obtain ⟨b2, o2, a4, c4, e2, -, y0, v2, -⟩ := sview_at (sview_below HH.out.1 hW) hlt
          cases e2
          have e9 := HC.out W hW
          rw [HPL.out] at y0 v2
          rw [y0] at e9
          simp only [Option.some.injEq, Value.slice.injEq] at e9
          obtain ⟨rfl, e3, rfl⟩ := e9
          rw [← e3]; exact v2
        rw [HP0.out] at z0
        clear v0 hpl
        go_wp2_with fail
        as_aux_lemma =>
          refine wp_region_held_drew (S := fun W => W.cell? ⟨w.heap.size, 0, none⟩ = some (.slice (some ⟨b1, o1, none⟩) D.secs.length sc) ∧ W.cell? ⟨b1, o1 + k, none⟩ = some (.slice a3 p0 c3)) (by kernel_rfl) ⟨x0, z0⟩ (fun hHeld => ?_)
          have hbd : Below wr.heap.size wr wr.drew := (Below.refl _ _).drew
          replace hT := hT.on hbd
          replace hO := own_upK hO (Up.ofBelow hbd)
          replace hBs := hBs.up (Up.ofBelow hbd)
          replace hF := own_upK hF (Up.ofBelow hbd)
          clear hbd x0 x1 x2 x3 x4 z0
          obtain ⟨wd, hwd⟩ := hidEx wr.drew
          rw [hwd.out] at hT hO hBs hF hHeld ⊢
          refine' wpAnyH_take (i := 0) (v := _) rfl (by kernel_rfl) (by kernel_rfl) (by kernel_rfl) (fun _ _ _ h => h) (Or.inl ⟨by kernel_rfl, ?hlb1⟩) (by assumption) ?rlb1
          case hlb1 => intro W hW; obtain ⟨d0, d1⟩ := hW; go_simp; all_goals with_reducible rfl
          change wpAnyH _ _ _ _ _ _ _ (Act.put _ (some 22) _) _
          simp only [Act.put, List.setIfInBounds_toArray, List.set_cons_zero, List.set_cons_succ]
          refine' wpAnyH_take (i := 3) (v := _) rfl (by kernel_rfl) (by kernel_rfl) (by kernel_rfl) (fun _ _ _ h => h) (Or.inl ⟨by kernel_rfl, ?hlb2⟩) (by assumption) ?rlb2
          case hlb2 => intro W hW; obtain ⟨d0, d1⟩ := hW; go_simp; all_goals with_reducible rfl
          change wpAnyH _ _ _ _ _ _ _ (Act.put _ (some 25) _) _
          simp only [Act.put, List.setIfInBounds_toArray, List.set_cons_zero, List.set_cons_succ]
          refine' wpAnyH_take (i := 4) (v := _) rfl (by kernel_rfl) (by kernel_rfl) (by kernel_rfl) (fun _ _ _ h => h) (Or.inl ⟨by kernel_rfl, ?hlb3⟩) (by assumption) ?rlb3
          case hlb3 => intro W hW; obtain ⟨d0, d1⟩ := hW; go_simp; all_goals with_reducible rfl
          change wpAnyH _ _ _ _ _ _ _ (Act.put _ (some 26) _) _
          simp only [Act.put, List.setIfInBounds_toArray, List.set_cons_zero, List.set_cons_succ]
          refine' wpAnyH_take (i := 5) (v := _) rfl (by kernel_rfl) (by kernel_rfl) (by kernel_rfl) (fun _ _ _ h => h) (Or.inl ⟨by kernel_rfl, ?hlb4⟩) (by assumption) ?rlb4
          case hlb4 => intro W hW; obtain ⟨d0, d1⟩ := hW; go_simp; all_goals with_reducible rfl
          change wpAnyH _ _ _ _ _ _ _ (Act.put _ (some 27) _) _
          simp only [Act.put, List.setIfInBounds_toArray, List.set_cons_zero, List.set_cons_succ]
          refine' wpAnyH_take (i := 6) (v := _) rfl (by kernel_rfl) (by kernel_rfl) (by kernel_rfl) (fun _ _ _ h => h) (Or.inl ⟨by kernel_rfl, ?hlb5⟩) (by assumption) ?rlb5
          case hlb5 => intro W hW; obtain ⟨d0, d1⟩ := hW; go_simp; all_goals with_reducible rfl
          change wpAnyH _ _ _ _ _ _ _ (Act.put _ (some 28) _) _
          simp only [Act.put, List.setIfInBounds_toArray, List.set_cons_zero, List.set_cons_succ]
          refine' wpAnyH_take (i := 7) (v := _) rfl (by kernel_rfl) (by kernel_rfl) (by kernel_rfl) (fun _ _ _ h => h) (Or.inl ⟨by kernel_rfl, ?hlb6⟩) (by assumption) ?rlb6
          case hlb6 => intro W hW; obtain ⟨d0, d1⟩ := hW; go_simp; all_goals with_reducible rfl
          change wpAnyH _ _ _ _ _ _ _ (Act.put _ (some 29) _) _
          simp only [Act.put, List.setIfInBounds_toArray, List.set_cons_zero, List.set_cons_succ]
          refine wpAnyH_ready (rs := [1, 2]) (by kernel_rfl) (by simp) ?_
          refine AllReadyH.cons rfl (fun KK hK => ?_) (AllReadyH.cons rfl (fun KK hK => ?_) AllReadyH.nil)
          ·
            obtain ⟨⟨d0, d1, d2, d3, d4⟩, ⟨e0, e1, e2, e3, e4⟩, -⟩ := hT.cells
            go_simp
            clear d0 d1 d2 d3 d4 e0 e1 e2 e3 e4
            refine hK.out _ _ ⟨hT.a.cell 0, HC.out _ hT.below⟩ (fun hHeld => ?_)
            clear hK KK
            try simp only [Act.put, List.setIfInBounds_toArray, List.set_cons_zero, List.set_cons_succ]
            refine wpAnyH_ready (rs := [2]) (by kernel_rfl) (by simp) ?_
            refine AllReadyH.cons rfl (fun KK hK => ?_) AllReadyH.nil
            go_simp
            have hbA : Below wd.heap.size wd (wd.alloc (.cells #[] 5)) := (Below.refl _ _).alloc (Nat.le_refl _) _
            have hE := own_emptyK wd 5 1
            have hnew : ∀ v, v ∈ ss → ∀ g, v.ownBlock = some g → g < wd.heap.size := fun v hv g hg => (hBs.lt v hv g hg).2
            have hgE := hT.below.size
            obtain ⟨g0, hg0⟩ := hidEx wd.heap.size
            rw [hg0.out] at hE hnew hgE ⊢
            replace hO := own_upK hO (Up.ofBelow hbA)
            replace hT := hT.on hbA
            replace hBs := hBs.up (Up.ofBelow hbA)
            replace hF := own_upK hF (Up.ofBelow hbA)
            have hszE : g0 ≤ (wd.alloc (.cells #[] 5)).heap.size := by rw [← hg0.out]; exact hbA.size
            clear hbA
            refine hK.out _ _ ⟨hT.a.cell 0, HC.out _ hT.below⟩ (fun hHeld => ?_)
            clear hK KK
            try simp only [Act.put, List.setIfInBounds_toArray, List.set_cons_zero, List.set_cons_succ]
            obtain ⟨q1, hq1⟩ := hidEx (wd.alloc (.cells #[] 5))
            rw [hq1.out] at hT hE hBs hF hszE hO hHeld ⊢
            refine wpAnyH_ready (rs := [8]) (by kernel_rfl) (by simp) ?_
            refine AllReadyH.cons rfl (fun KK hK => ?_) AllReadyH.nil
            rw [if_pos (by kernel_rfl)]
            have hvw := HV.out _ hT.below
            refine wp_append_opt (.tmp 24) (.tmp 29) 49 rfl g0 5 ib (.int .u8 0) 1 1 Try.underlying49 hib hb0 hb1 hb2 rfl (by decide) _ _ _ rfl hE a3 p0 c3 (bl pl) rfl (fun e => by have h1 := vn e; have h2 := hvw.le; omega) (by rw [bl_len, HP0.out]; omega) (view_news (by rw [HP0.out]; exact hvw)) (bl_one _) (by unfold maxLen; omega) (by omega) hszE ?_
            intro v8 w8 hE8 hgr8
            have hk8 := keep_grown hE hgr8
            rw [Nat.zero_add, List.nil_append] at hE8
            have hge8 := own_geK hE8
            obtain ⟨a8, c8, rfl, h81, h82, -⟩ := own_rl hE8
            replace hT := hT.grow hgr8 (fun k e => by have := own_geK hE k e; omega) hk8 (by decide)
            replace hO := own_keepT hO hk8 (by decide)
            replace hF := own_keepT hF hk8 (by decide)
            replace hBs := (hBs.grownNew hnew hgr8 (own_geK hE)).push ((ob_own_any hE8 HP0.out.symm HBY.out).mono hgE) (fun g e => ⟨⟨Nat.le_trans hgE (hge8 g e), own_lt hE8 g e⟩, fun u hu e2 => by have h8 := hnew u hu g e2; have h9 := hge8 g e; omega⟩)
            clear hE hgr8 hk8 hnew hge8 hE8 hvw h81 h82 hszE
            refine hK.out _ _ ⟨hT.a.cell 0, HC.out _ hT.below⟩ (fun hHeld => ?_)
            clear hK KK
            change wpAnyH _ _ _ _ _ _ _ (Act.put _ (some 30) _) _
            try simp only [Act.put, List.setIfInBounds_toArray, List.set_cons_zero, List.set_cons_succ]
            refine wpAnyH_ready (rs := [9]) (by kernel_rfl) (by simp) ?_
            refine AllReadyH.cons rfl (fun KK hK => ?_) AllReadyH.nil
            go_simp
            have hbA : Below w8.heap.size w8 (w8.alloc (.cells #[.slice a8 p0 c8] 49)) := (Below.refl _ _).alloc (Nat.le_refl _) _
            have hcl : ∀ j u, [Value.slice a8 p0 c8][j]? = some u → (w8.alloc (.cells #[.slice a8 p0 c8] 49)).cell? ((⟨w8.heap.size, 0, none⟩ : Addr).add j) = some u := by
              have ea : ∀ j, (⟨w8.heap.size, 0, none⟩ : Addr).add j = ⟨w8.heap.size, 0 + j, none⟩ := fun j => by unfold Addr.add; split <;> simp_all
              intro j u hj
              match j, hj with
              | 0, hj => cases hj; rw [ea]; simp
            obtain ⟨g9, hg9⟩ := hidEx w8.heap.size
            rw [hg9.out] at hcl ⊢
            replace hO := own_upK hO (Up.ofBelow hbA)
            replace hT := hT.on hbA
            replace hBs := hBs.up (Up.ofBelow hbA)
            replace hF := own_upK hF (Up.ofBelow hbA)
            clear hbA
            refine hK.out _ _ ⟨hT.a.cell 0, HC.out _ hT.below⟩ (fun hHeld => ?_)
            clear hK KK
            try simp only [Act.put, List.setIfInBounds_toArray, List.set_cons_zero, List.set_cons_succ]
            obtain ⟨q2, hq2⟩ := hidEx (w8.alloc (.cells #[.slice a8 p0 c8] 49))
            rw [hq2.out] at hT hBs hF hcl hO hHeld ⊢
            refine wpAnyH_ready (rs := [10]) (by kernel_rfl) (by simp) ?_
            refine AllReadyH.cons rfl (fun KK hK => ?_) AllReadyH.nil
            rw [if_pos (by kernel_rfl)]
            refine wp_append_own _ (.tmp 23) (.tmp 31) 22 rfl w.heap.size 49 i0 (.slice none 0 0) 1 24 Try.underlying22 hi hz0 hz1 hz2 rfl (by decide) _ _ _ rfl hO ⟨g9, 0, none⟩ 1 1 [.slice a8 p0 c8] rfl rfl hcl (by intro u hu; simp at hu; subst hu; rfl) (by unfold maxLen; omega) (by omega) hT.below.size ?_
            intro v6 w6 hO6 hgr6 hnil6
            have hK6 := keep_grown hO hgr6
            replace hT := hT.grow hgr6 (own_geK hO) hK6 (by decide)
            replace hBs := hBs.keepT hK6 hgr6.size (by decide)
            replace hF := own_keepT hF hK6 (by decide)
            obtain ⟨b6, c6, rfl⟩ := own_succK hO6
            clear hO hgr6 hnil6 hcl hK6
            refine hK.out _ _ ⟨hT.a.cell 0, HC.out _ hT.below⟩ (fun hHeld => ?_)
            clear hK KK
            change wpAnyH _ _ _ _ _ _ _ (Act.put _ (some 32) _) _
            try simp only [Act.put, List.setIfInBounds_toArray, List.set_cons_zero, List.set_cons_succ]
            refine' wpAnyH_take (i := 11) (v := _) rfl (by kernel_rfl) (by kernel_rfl) (by kernel_rfl) (fun _ _ _ h => h) (Or.inl ⟨by kernel_rfl, ?hlb7⟩) (by assumption) ?rlb7
            case hlb7 => intro W hW; obtain ⟨d0, d1⟩ := hW; go_simp; all_goals with_reducible rfl
            change wpAnyH _ _ _ _ _ _ _ (Act.put _ (some 33) _) _
            simp only [Act.put, List.setIfInBounds_toArray, List.set_cons_zero, List.set_cons_succ]
            refine wpAnyH_ready (rs := [12]) (by kernel_rfl) (by simp) ?_
            refine AllReadyH.cons rfl (fun KK hK => ?_) AllReadyH.nil
            obtain ⟨⟨d0, d1, d2, d3, d4⟩, ⟨e0, e1, e2, e3, e4⟩, q⟩ := hT.cells
            have q0 := q 0
            go_simp
            clear d0 d1 d2 d3 d4 e0 e1 e2 e3 e4 q q0
            have hkS := keep_vn (P := fun t => t = 31) (i := 0) (u := .slice (some ⟨b6, 0, none⟩) (k + 1) c6) hT.o rfl
            replace hO6 := own_keepT hO6 hkS (by decide)
            replace hBs := hBs.keepT hkS (by simp) (by decide)
            replace hF := own_keepT hF hkS (by decide)
            replace hT := hT.set 0 (.slice (some ⟨b6, 0, none⟩) (k + 1) c6)
            simp only [List.set] at hT
            clear hkS
            refine hK.out _ _ ⟨hT.a.cell 0, HC.out _ hT.below⟩ (fun hHeld => ?_)
            clear hK KK
            try simp only [Act.put, List.setIfInBounds_toArray, List.set_cons_zero, List.set_cons_succ]
            refine wpAnyH_done (by kernel_rfl) ?_ _
            have HR : Hid (E1 w D _ sc ca cc fa fc ga gc X (k + 1) _) := ⟨_, _, hT, hO6, by rw [take_one hlt, HPL.out]; exact hBs, hF⟩
            clear hT hO6 hBs hF hHeld
            go_wp2
            go_roundg (D.secs.length - (k + 1))
            case measure => omega
            case rel => exact ⟨k + 1, by omega, rfl, by go_num, HR.out⟩
          ·
            go_simp
            have hbA : Below wd.heap.size wd (wd.alloc (.cells #[] 5)) := (Below.refl _ _).alloc (Nat.le_refl _) _
            have hE := own_emptyK wd 5 1
            have hnew : ∀ v, v ∈ ss → ∀ g, v.ownBlock = some g → g < wd.heap.size := fun v hv g hg => (hBs.lt v hv g hg).2
            have hgE := hT.below.size
            obtain ⟨g0, hg0⟩ := hidEx wd.heap.size
            rw [hg0.out] at hE hnew hgE ⊢
            replace hO := own_upK hO (Up.ofBelow hbA)
            replace hT := hT.on hbA
            replace hBs := hBs.up (Up.ofBelow hbA)
            replace hF := own_upK hF (Up.ofBelow hbA)
            have hszE : g0 ≤ (wd.alloc (.cells #[] 5)).heap.size := by rw [← hg0.out]; exact hbA.size
            clear hbA
            refine hK.out _ _ ⟨hT.a.cell 0, HC.out _ hT.below⟩ (fun hHeld => ?_)
            clear hK KK
            try simp only [Act.put, List.setIfInBounds_toArray, List.set_cons_zero, List.set_cons_succ]
            obtain ⟨q1, hq1⟩ := hidEx (wd.alloc (.cells #[] 5))
            rw [hq1.out] at hT hE hBs hF hszE hO hHeld ⊢
            refine wpAnyH_ready (rs := [1, 8]) (by kernel_rfl) (by simp) ?_
            refine AllReadyH.cons rfl (fun KK hK => ?_) (AllReadyH.cons rfl (fun KK hK => ?_) AllReadyH.nil)
            ·
              obtain ⟨⟨d0, d1, d2, d3, d4⟩, ⟨e0, e1, e2, e3, e4⟩, -⟩ := hT.cells
              go_simp
              clear d0 d1 d2 d3 d4 e0 e1 e2 e3 e4
              refine hK.out _ _ ⟨hT.a.cell 0, HC.out _ hT.below⟩ (fun hHeld => ?_)
              clear hK KK
              try simp only [Act.put, List.setIfInBounds_toArray, List.set_cons_zero, List.set_cons_succ]
              refine wpAnyH_ready (rs := [8]) (by kernel_rfl) (by simp) ?_
              refine AllReadyH.cons rfl (fun KK hK => ?_) AllReadyH.nil
              rw [if_pos (by kernel_rfl)]
              have hvw := HV.out _ hT.below
              refine wp_append_opt (.tmp 24) (.tmp 29) 49 rfl g0 5 ib (.int .u8 0) 1 1 Try.underlying49 hib hb0 hb1 hb2 rfl (by decide) _ _ _ rfl hE a3 p0 c3 (bl pl) rfl (fun e => by have h1 := vn e; have h2 := hvw.le; omega) (by rw [bl_len, HP0.out]; omega) (view_news (by rw [HP0.out]; exact hvw)) (bl_one _) (by unfold maxLen; omega) (by omega) hszE ?_
              intro v8 w8 hE8 hgr8
              have hk8 := keep_grown hE hgr8
              rw [Nat.zero_add, List.nil_append] at hE8
              have hge8 := own_geK hE8
              obtain ⟨a8, c8, rfl, h81, h82, -⟩ := own_rl hE8
              replace hT := hT.grow hgr8 (fun k e => by have := own_geK hE k e; omega) hk8 (by decide)
              replace hO := own_keepT hO hk8 (by decide)
              replace hF := own_keepT hF hk8 (by decide)
              replace hBs := (hBs.grownNew hnew hgr8 (own_geK hE)).push ((ob_own_any hE8 HP0.out.symm HBY.out).mono hgE) (fun g e => ⟨⟨Nat.le_trans hgE (hge8 g e), own_lt hE8 g e⟩, fun u hu e2 => by have h8 := hnew u hu g e2; have h9 := hge8 g e; omega⟩)
              clear hE hgr8 hk8 hnew hge8 hE8 hvw h81 h82 hszE
              refine hK.out _ _ ⟨hT.a.cell 0, HC.out _ hT.below⟩ (fun hHeld => ?_)
              clear hK KK
              change wpAnyH _ _ _ _ _ _ _ (Act.put _ (some 30) _) _
              try simp only [Act.put, List.setIfInBounds_toArray, List.set_cons_zero, List.set_cons_succ]
              refine wpAnyH_ready (rs := [9]) (by kernel_rfl) (by simp) ?_
              refine AllReadyH.cons rfl (fun KK hK => ?_) AllReadyH.nil
              go_simp
              have hbA : Below w8.heap.size w8 (w8.alloc (.cells #[.slice a8 p0 c8] 49)) := (Below.refl _ _).alloc (Nat.le_refl _) _
              have hcl : ∀ j u, [Value.slice a8 p0 c8][j]? = some u → (w8.alloc (.cells #[.slice a8 p0 c8] 49)).cell? ((⟨w8.heap.size, 0, none⟩ : Addr).add j) = some u := by
                have ea : ∀ j, (⟨w8.heap.size, 0, none⟩ : Addr).add j = ⟨w8.heap.size, 0 + j, none⟩ := fun j => by unfold Addr.add; split <;> simp_all
                intro j u hj
                match j, hj with
                | 0, hj => cases hj; rw [ea]; simp
              obtain ⟨g9, hg9⟩ := hidEx w8.heap.size
              rw [hg9.out] at hcl ⊢
              replace hO := own_upK hO (Up.ofBelow hbA)
              replace hT := hT.on hbA
              replace hBs := hBs.up (Up.ofBelow hbA)
              replace hF := own_upK hF (Up.ofBelow hbA)
              clear hbA
              refine hK.out _ _ ⟨hT.a.cell 0, HC.out _ hT.below⟩ (fun hHeld => ?_)
              clear hK KK
              try simp only [Act.put, List.setIfInBounds_toArray, List.set_cons_zero, List.set_cons_succ]
              obtain ⟨q2, hq2⟩ := hidEx (w8.alloc (.cells #[.slice a8 p0 c8] 49))
              rw [hq2.out] at hT hBs hF hcl hO hHeld ⊢
              refine wpAnyH_ready (rs := [10]) (by kernel_rfl) (by simp) ?_
              refine AllReadyH.cons rfl (fun KK hK => ?_) AllReadyH.nil
              rw [if_pos (by kernel_rfl)]
              refine wp_append_own _ (.tmp 23) (.tmp 31) 22 rfl w.heap.size 49 i0 (.slice none 0 0) 1 24 Try.underlying22 hi hz0 hz1 hz2 rfl (by decide) _ _ _ rfl hO ⟨g9, 0, none⟩ 1 1 [.slice a8 p0 c8] rfl rfl hcl (by intro u hu; simp at hu; subst hu; rfl) (by unfold maxLen; omega) (by omega) hT.below.size ?_
              intro v6 w6 hO6 hgr6 hnil6
              have hK6 := keep_grown hO hgr6
              replace hT := hT.grow hgr6 (own_geK hO) hK6 (by decide)
              replace hBs := hBs.keepT hK6 hgr6.size (by decide)
              replace hF := own_keepT hF hK6 (by decide)
              obtain ⟨b6, c6, rfl⟩ := own_succK hO6
              clear hO hgr6 hnil6 hcl hK6
              refine hK.out _ _ ⟨hT.a.cell 0, HC.out _ hT.below⟩ (fun hHeld => ?_)
              clear hK KK
              change wpAnyH _ _ _ _ _ _ _ (Act.put _ (some 32) _) _
              try simp only [Act.put, List.setIfInBounds_toArray, List.set_cons_zero, List.set_cons_succ]
              refine' wpAnyH_take (i := 11) (v := _) rfl (by kernel_rfl) (by kernel_rfl) (by kernel_rfl) (fun _ _ _ h => h) (Or.inl ⟨by kernel_rfl, ?hlb8⟩) (by assumption) ?rlb8
              case hlb8 => intro W hW; obtain ⟨d0, d1⟩ := hW; go_simp; all_goals with_reducible rfl
              change wpAnyH _ _ _ _ _ _ _ (Act.put _ (some 33) _) _
              simp only [Act.put, List.setIfInBounds_toArray, List.set_cons_zero, List.set_cons_succ]
              refine wpAnyH_ready (rs := [12]) (by kernel_rfl) (by simp) ?_
              refine AllReadyH.cons rfl (fun KK hK => ?_) AllReadyH.nil
              obtain ⟨⟨d0, d1, d2, d3, d4⟩, ⟨e0, e1, e2, e3, e4⟩, q⟩ := hT.cells
              have q0 := q 0
              go_simp
              clear d0 d1 d2 d3 d4 e0 e1 e2 e3 e4 q q0
              have hkS := keep_vn (P := fun t => t = 31) (i := 0) (u := .slice (some ⟨b6, 0, none⟩) (k + 1) c6) hT.o rfl
              replace hO6 := own_keepT hO6 hkS (by decide)
              replace hBs := hBs.keepT hkS (by simp) (by decide)
              replace hF := own_keepT hF hkS (by decide)
              replace hT := hT.set 0 (.slice (some ⟨b6, 0, none⟩) (k + 1) c6)
              simp only [List.set] at hT
              clear hkS
              refine hK.out _ _ ⟨hT.a.cell 0, HC.out _ hT.below⟩ (fun hHeld => ?_)
              clear hK KK
              try simp only [Act.put, List.setIfInBounds_toArray, List.set_cons_zero, List.set_cons_succ]
              refine wpAnyH_done (by kernel_rfl) ?_ _
              have HR : Hid (E1 w D _ sc ca cc fa fc ga gc X (k + 1) _) := ⟨_, _, hT, hO6, by rw [take_one hlt, HPL.out]; exact hBs, hF⟩
              clear hT hO6 hBs hF hHeld
              go_wp2
              go_roundg (D.secs.length - (k + 1))
              case measure => omega
              case rel => exact ⟨k + 1, by omega, rfl, by go_num, HR.out⟩
            ·
              rw [if_pos (by kernel_rfl)]
              have hvw := HV.out _ hT.below
              refine wp_append_opt (.tmp 24) (.tmp 29) 49 rfl g0 5 ib (.int .u8 0) 1 1 Try.underlying49 hib hb0 hb1 hb2 rfl (by decide) _ _ _ rfl hE a3 p0 c3 (bl pl) rfl (fun e => by have h1 := vn e; have h2 := hvw.le; omega) (by rw [bl_len, HP0.out]; omega) (view_news (by rw [HP0.out]; exact hvw)) (bl_one _) (by unfold maxLen; omega) (by omega) hszE ?_
              intro v8 w8 hE8 hgr8
              have hk8 := keep_grown hE hgr8
              rw [Nat.zero_add, List.nil_append] at hE8
              have hge8 := own_geK hE8
              obtain ⟨a8, c8, rfl, h81, h82, -⟩ := own_rl hE8
              replace hT := hT.grow hgr8 (fun k e => by have := own_geK hE k e; omega) hk8 (by decide)
              replace hO := own_keepT hO hk8 (by decide)
              replace hF := own_keepT hF hk8 (by decide)
              replace hBs := (hBs.grownNew hnew hgr8 (own_geK hE)).push ((ob_own_any hE8 HP0.out.symm HBY.out).mono hgE) (fun g e => ⟨⟨Nat.le_trans hgE (hge8 g e), own_lt hE8 g e⟩, fun u hu e2 => by have h8 := hnew u hu g e2; have h9 := hge8 g e; omega⟩)
              clear hE hgr8 hk8 hnew hge8 hE8 hvw h81 h82 hszE
              refine hK.out _ _ ⟨hT.a.cell 0, HC.out _ hT.below⟩ (fun hHeld => ?_)
              clear hK KK
              change wpAnyH _ _ _ _ _ _ _ (Act.put _ (some 30) _) _
              try simp only [Act.put, List.setIfInBounds_toArray, List.set_cons_zero, List.set_cons_succ]
              refine wpAnyH_ready (rs := [1, 9]) (by kernel_rfl) (by simp) ?_
              refine AllReadyH.cons rfl (fun KK hK => ?_) (AllReadyH.cons rfl (fun KK hK => ?_) AllReadyH.nil)
              ·
                obtain ⟨⟨d0, d1, d2, d3, d4⟩, ⟨e0, e1, e2, e3, e4⟩, -⟩ := hT.cells
                go_simp
                clear d0 d1 d2 d3 d4 e0 e1 e2 e3 e4
                refine hK.out _ _ ⟨hT.a.cell 0, HC.out _ hT.below⟩ (fun hHeld => ?_)
                clear hK KK
                try simp only [Act.put, List.setIfInBounds_toArray, List.set_cons_zero, List.set_cons_succ]
                refine wpAnyH_ready (rs := [9]) (by kernel_rfl) (by simp) ?_
                refine AllReadyH.cons rfl (fun KK hK => ?_) AllReadyH.nil
                go_simp
                have hbA : Below w8.heap.size w8 (w8.alloc (.cells #[.slice a8 p0 c8] 49)) := (Below.refl _ _).alloc (Nat.le_refl _) _
                have hcl : ∀ j u, [Value.slice a8 p0 c8][j]? = some u → (w8.alloc (.cells #[.slice a8 p0 c8] 49)).cell? ((⟨w8.heap.size, 0, none⟩ : Addr).add j) = some u := by
                  have ea : ∀ j, (⟨w8.heap.size, 0, none⟩ : Addr).add j = ⟨w8.heap.size, 0 + j, none⟩ := fun j => by unfold Addr.add; split <;> simp_all
                  intro j u hj
                  match j, hj with
                  | 0, hj => cases hj; rw [ea]; simp
                obtain ⟨g9, hg9⟩ := hidEx w8.heap.size
                rw [hg9.out] at hcl ⊢
                replace hO := own_upK hO (Up.ofBelow hbA)
                replace hT := hT.on hbA
                replace hBs := hBs.up (Up.ofBelow hbA)
                replace hF := own_upK hF (Up.ofBelow hbA)
                clear hbA
                refine hK.out _ _ ⟨hT.a.cell 0, HC.out _ hT.below⟩ (fun hHeld => ?_)
                clear hK KK
                try simp only [Act.put, List.setIfInBounds_toArray, List.set_cons_zero, List.set_cons_succ]
                obtain ⟨q2, hq2⟩ := hidEx (w8.alloc (.cells #[.slice a8 p0 c8] 49))
                rw [hq2.out] at hT hBs hF hcl hO hHeld ⊢
                refine wpAnyH_ready (rs := [10]) (by kernel_rfl) (by simp) ?_
                refine AllReadyH.cons rfl (fun KK hK => ?_) AllReadyH.nil
                rw [if_pos (by kernel_rfl)]
                refine wp_append_own _ (.tmp 23) (.tmp 31) 22 rfl w.heap.size 49 i0 (.slice none 0 0) 1 24 Try.underlying22 hi hz0 hz1 hz2 rfl (by decide) _ _ _ rfl hO ⟨g9, 0, none⟩ 1 1 [.slice a8 p0 c8] rfl rfl hcl (by intro u hu; simp at hu; subst hu; rfl) (by unfold maxLen; omega) (by omega) hT.below.size ?_
                intro v6 w6 hO6 hgr6 hnil6
                have hK6 := keep_grown hO hgr6
                replace hT := hT.grow hgr6 (own_geK hO) hK6 (by decide)
                replace hBs := hBs.keepT hK6 hgr6.size (by decide)
                replace hF := own_keepT hF hK6 (by decide)
                obtain ⟨b6, c6, rfl⟩ := own_succK hO6
                clear hO hgr6 hnil6 hcl hK6
                refine hK.out _ _ ⟨hT.a.cell 0, HC.out _ hT.below⟩ (fun hHeld => ?_)
                clear hK KK
                change wpAnyH _ _ _ _ _ _ _ (Act.put _ (some 32) _) _
                try simp only [Act.put, List.setIfInBounds_toArray, List.set_cons_zero, List.set_cons_succ]
                refine' wpAnyH_take (i := 11) (v := _) rfl (by kernel_rfl) (by kernel_rfl) (by kernel_rfl) (fun _ _ _ h => h) (Or.inl ⟨by kernel_rfl, ?hlb9⟩) (by assumption) ?rlb9
                case hlb9 => intro W hW; obtain ⟨d0, d1⟩ := hW; go_simp; all_goals with_reducible rfl
                change wpAnyH _ _ _ _ _ _ _ (Act.put _ (some 33) _) _
                simp only [Act.put, List.setIfInBounds_toArray, List.set_cons_zero, List.set_cons_succ]
                refine wpAnyH_ready (rs := [12]) (by kernel_rfl) (by simp) ?_
                refine AllReadyH.cons rfl (fun KK hK => ?_) AllReadyH.nil
                obtain ⟨⟨d0, d1, d2, d3, d4⟩, ⟨e0, e1, e2, e3, e4⟩, q⟩ := hT.cells
                have q0 := q 0
                go_simp
                clear d0 d1 d2 d3 d4 e0 e1 e2 e3 e4 q q0
                have hkS := keep_vn (P := fun t => t = 31) (i := 0) (u := .slice (some ⟨b6, 0, none⟩) (k + 1) c6) hT.o rfl
                replace hO6 := own_keepT hO6 hkS (by decide)
                replace hBs := hBs.keepT hkS (by simp) (by decide)
                replace hF := own_keepT hF hkS (by decide)
                replace hT := hT.set 0 (.slice (some ⟨b6, 0, none⟩) (k + 1) c6)
                simp only [List.set] at hT
                clear hkS
                refine hK.out _ _ ⟨hT.a.cell 0, HC.out _ hT.below⟩ (fun hHeld => ?_)
                clear hK KK
                try simp only [Act.put, List.setIfInBounds_toArray, List.set_cons_zero, List.set_cons_succ]
                refine wpAnyH_done (by kernel_rfl) ?_ _
                have HR : Hid (E1 w D _ sc ca cc fa fc ga gc X (k + 1) _) := ⟨_, _, hT, hO6, by rw [take_one hlt, HPL.out]; exact hBs, hF⟩
                clear hT hO6 hBs hF hHeld
                go_wp2
                go_roundg (D.secs.length - (k + 1))
                case measure => omega
                case rel => exact ⟨k + 1, by omega, rfl, by go_num, HR.out⟩
              ·
                go_simp
                have hbA : Below w8.heap.size w8 (w8.alloc (.cells #[.slice a8 p0 c8] 49)) := (Below.refl _ _).alloc (Nat.le_refl _) _
                have hcl : ∀ j u, [Value.slice a8 p0 c8][j]? = some u → (w8.alloc (.cells #[.slice a8 p0 c8] 49)).cell? ((⟨w8.heap.size, 0, none⟩ : Addr).add j) = some u := by
                  have ea : ∀ j, (⟨w8.heap.size, 0, none⟩ : Addr).add j = ⟨w8.heap.size, 0 + j, none⟩ := fun j => by unfold Addr.add; split <;> simp_all
                  intro j u hj
                  match j, hj with
                  | 0, hj => cases hj; rw [ea]; simp
                obtain ⟨g9, hg9⟩ := hidEx w8.heap.size
                rw [hg9.out] at hcl ⊢
                replace hO := own_upK hO (Up.ofBelow hbA)
                replace hT := hT.on hbA
                replace hBs := hBs.up (Up.ofBelow hbA)
                replace hF := own_upK hF (Up.ofBelow hbA)
                clear hbA
                refine hK.out _ _ ⟨hT.a.cell 0, HC.out _ hT.below⟩ (fun hHeld => ?_)
                clear hK KK
                try simp only [Act.put, List.setIfInBounds_toArray, List.set_cons_zero, List.set_cons_succ]
                obtain ⟨q2, hq2⟩ := hidEx (w8.alloc (.cells #[.slice a8 p0 c8] 49))
                rw [hq2.out] at hT hBs hF hcl hO hHeld ⊢
                refine wpAnyH_ready (rs := [1]) (by kernel_rfl) (by simp) ?_
                refine AllReadyH.cons rfl (fun KK hK => ?_) AllReadyH.nil
                obtain ⟨⟨d0, d1, d2, d3, d4⟩, ⟨e0, e1, e2, e3, e4⟩, -⟩ := hT.cells
                go_simp
                clear d0 d1 d2 d3 d4 e0 e1 e2 e3 e4
                refine hK.out _ _ ⟨hT.a.cell 0, HC.out _ hT.below⟩ (fun hHeld => ?_)
                clear hK KK
                try simp only [Act.put, List.setIfInBounds_toArray, List.set_cons_zero, List.set_cons_succ]
                refine wpAnyH_ready (rs := [10]) (by kernel_rfl) (by simp) ?_
                refine AllReadyH.cons rfl (fun KK hK => ?_) AllReadyH.nil
                rw [if_pos (by kernel_rfl)]
                refine wp_append_own _ (.tmp 23) (.tmp 31) 22 rfl w.heap.size 49 i0 (.slice none 0 0) 1 24 Try.underlying22 hi hz0 hz1 hz2 rfl (by decide) _ _ _ rfl hO ⟨g9, 0, none⟩ 1 1 [.slice a8 p0 c8] rfl rfl hcl (by intro u hu; simp at hu; subst hu; rfl) (by unfold maxLen; omega) (by omega) hT.below.size ?_
                intro v6 w6 hO6 hgr6 hnil6
                have hK6 := keep_grown hO hgr6
                replace hT := hT.grow hgr6 (own_geK hO) hK6 (by decide)
                replace hBs := hBs.keepT hK6 hgr6.size (by decide)
                replace hF := own_keepT hF hK6 (by decide)
                obtain ⟨b6, c6, rfl⟩ := own_succK hO6
                clear hO hgr6 hnil6 hcl hK6
                refine hK.out _ _ ⟨hT.a.cell 0, HC.out _ hT.below⟩ (fun hHeld => ?_)
                clear hK KK
                change wpAnyH _ _ _ _ _ _ _ (Act.put _ (some 32) _) _
                try simp only [Act.put, List.setIfInBounds_toArray, List.set_cons_zero, List.set_cons_succ]
                refine' wpAnyH_take (i := 11) (v := _) rfl (by kernel_rfl) (by kernel_rfl) (by kernel_rfl) (fun _ _ _ h => h) (Or.inl ⟨by kernel_rfl, ?hlb10⟩) (by assumption) ?rlb10
                case hlb10 => intro W hW; obtain ⟨d0, d1⟩ := hW; go_simp; all_goals with_reducible rfl
                change wpAnyH _ _ _ _ _ _ _ (Act.put _ (some 33) _) _
                simp only [Act.put, List.setIfInBounds_toArray, List.set_cons_zero, List.set_cons_succ]
                refine wpAnyH_ready (rs := [12]) (by kernel_rfl) (by simp) ?_
                refine AllReadyH.cons rfl (fun KK hK => ?_) AllReadyH.nil
                obtain ⟨⟨d0, d1, d2, d3, d4⟩, ⟨e0, e1, e2, e3, e4⟩, q⟩ := hT.cells
                have q0 := q 0
                go_simp
                clear d0 d1 d2 d3 d4 e0 e1 e2 e3 e4 q q0
                have hkS := keep_vn (P := fun t => t = 31) (i := 0) (u := .slice (some ⟨b6, 0, none⟩) (k + 1) c6) hT.o rfl
                replace hO6 := own_keepT hO6 hkS (by decide)
                replace hBs := hBs.keepT hkS (by simp) (by decide)
                replace hF := own_keepT hF hkS (by decide)
                replace hT := hT.set 0 (.slice (some ⟨b6, 0, none⟩) (k + 1) c6)
                simp only [List.set] at hT
                clear hkS
                refine hK.out _ _ ⟨hT.a.cell 0, HC.out _ hT.below⟩ (fun hHeld => ?_)
                clear hK KK
                try simp only [Act.put, List.setIfInBounds_toArray, List.set_cons_zero, List.set_cons_succ]
                refine wpAnyH_done (by kernel_rfl) ?_ _
                have HR : Hid (E1 w D _ sc ca cc fa fc ga gc X (k + 1) _) := ⟨_, _, hT, hO6, by rw [take_one hlt, HPL.out]; exact hBs, hF⟩
                clear hT hO6 hBs hF hHeld
                go_wp2
                go_roundg (D.secs.length - (k + 1))
                case measure => omega
                case rel => exact ⟨k + 1, by omega, rfl, by go_num, HR.out⟩
      · obtain rfl : k = D.secs.length := by omega
        have hkz : ¬ (D.secs.length : Int) < (D.secs.length : Int) := by omega
        rw [List.take_length] at hBs
        have HC0 : Hid (E2 w D sa sc ca cc fa fc ga gc X vS ss 0 wr) := ⟨_, [], rfl, hT, hO, by simpa [wcells] using own_nilK _ _ _ _, by simpa using hBs, hF⟩
        clear hT hO hBs hF
        go_wp2
        clear x0 x1 x2 x3 x4
        go_loopg [5] D.cache.length (fun q i wr => ∃ k : Nat, k ≤ D.cache.length ∧ q = D.cache.length - k ∧ i = .int .i64 k ∧ E2 w D sa sc ca cc fa fc ga gc X vS ss k wr)
        case atStart => exact ⟨0, Nat.zero_le _, rfl, rfl, HC0.out⟩
        case round =>
          clear HC0
          obtain ⟨k, hk, rfl, rfl, vC, cs, hcsl, hT, hOS, hO, hBs, hF⟩ := hrel
          obtain ⟨⟨x0, x1, x2, x3, x4⟩, -, -⟩ := hT.cells
          by_cases hlt : k < D.cache.length
          · obtain ⟨i0, hi, hz0, hz1, hz2⟩ := infoWrite
            obtain ⟨ib, hib, hb0, hb1, hb2⟩ := info_parts Try.info5
            obtain ⟨b1, o1, a3, c3, esa, hb1', zn, z0, v0, vn⟩ := wview_at (wview_below HH.out.2.1 hT.below) hlt
            subst esa
            have hkz : (k : Int) < (D.cache.length : Int) := by omega
            have hpl := HH.out.2.2.cache _ (List.getElem_mem hlt)
            obtain ⟨pl, HPL⟩ := hidEx (D.cache[k]).2
            obtain ⟨p1, HP1⟩ := hidEx (D.cache[k]).1
            rw [HPL.out] at z0 v0 hpl
            rw [HP1.out] at zn
            obtain ⟨p0, HP0⟩ := hidEx pl.length
            have hp0l : p0 ≤ 1048576 := by rw [← HP0.out]; exact hpl
            have HBY : Hid (∀ x ∈ pl, 0 ≤ x ∧ x ≤ 255) := lv_bytes v0
            have hlow : b1 < w.heap.size := by
              obtain ⟨b5, o5, e5, hlt5, -⟩ := HH.out.2.1.cells (by omega)
              cases e5; exact hlt5
            have HC : Hid (∀ W, Below w.heap.size w W → W.cell? ⟨b1, o1 + k * 2, none⟩ = some (.int .i64 p1) ∧ W.cell? ⟨b1, o1 + k * 2 + 1, none⟩ = some (.slice a3 p0 c3)) := by
              intro W hW
              rw [hW.cell (p := ⟨b1, o1 + k * 2 + 1, none⟩) hlow, ← hT.below.cell (p := ⟨b1, o1 + k * 2 + 1, none⟩) hlow, z0, hW.cell (p := ⟨b1, o1 + k * 2, none⟩) hlow, ← hT.below.cell (p := ⟨b1, o1 + k * 2, none⟩) hlow, zn, HP0.out]
              exact ⟨rfl, rfl⟩
            have HV : Hid (∀ W, Below w.heap.size w W → View W a3 p0 c3 (bf pl)) := by
              intro W hW
              obtain ⟨b2, o2, a4, c4, e2, -, -, y0, v2, -⟩ := wview_at (wview_below HH.out.2.1 hW) hlt
              cases e2
              have e9 := (HC.out W hW).2
              rw [HPL.out] at y0 v2
              rw [y0] at e9
              simp only [Option.some.injEq, Value.slice.injEq] at e9
              obtain ⟨rfl, e3, rfl⟩ := e9
              rw [← e3]; exact v2
            rw [HP0.out] at z0
            clear v0 hpl
            go_wp2_with fail
            as_aux_lemma =>
              refine wp_region_held_drew (S := fun W => W.cell? ⟨w.heap.size, 1, none⟩ = some (.slice (some ⟨b1, o1, none⟩) D.cache.length cc) ∧ W.cell? ⟨b1, o1 + k * 2, none⟩ = some (.int .i64 p1) ∧ W.cell? ⟨b1, o1 + k * 2 + 1, none⟩ = some (.slice a3 p0 c3)) (by kernel_rfl) ⟨x1, zn, z0⟩ (fun hHeld => ?_)
              have hbd : Below wr.heap.size wr wr.drew := (Below.refl _ _).drew
              replace hT := hT.on hbd
              replace hO := own_upK hO (Up.ofBelow hbd)
              replace hOS := own_upK hOS (Up.ofBelow hbd)
              replace hBs := hBs.up (Up.ofBelow hbd)
              replace hF := own_upK hF (Up.ofBelow hbd)
              clear hbd x0 x1 x2 x3 x4 z0 zn
              obtain ⟨wd, hwd⟩ := hidEx wr.drew
              rw [hwd.out] at hT hO hOS hBs hF hHeld ⊢
              refine' wpAnyH_take (i := 0) (v := _) rfl (by kernel_rfl) (by kernel_rfl) (by kernel_rfl) (fun _ _ _ h => h) (Or.inl ⟨by kernel_rfl, ?hlc1⟩) (by assumption) ?rlc1
              case hlc1 => intro W hW; obtain ⟨d0, d1, d2⟩ := hW; go_simp; all_goals with_reducible rfl
              change wpAnyH _ _ _ _ _ _ _ (Act.put _ (some 41) _) _
              simp only [Act.put, List.setIfInBounds_toArray, List.set_cons_zero, List.set_cons_succ]
              refine' wpAnyH_take (i := 2) (v := _) rfl (by kernel_rfl) (by kernel_rfl) (by kernel_rfl) (fun _ _ _ h => h) (Or.inl ⟨by kernel_rfl, ?hlc2⟩) (by assumption) ?rlc2
              case hlc2 => intro W hW; obtain ⟨d0, d1, d2⟩ := hW; go_simp; all_goals with_reducible rfl
              change wpAnyH _ _ _ _ _ _ _ (Act.put _ (some 43) _) _
              simp only [Act.put, List.setIfInBounds_toArray, List.set_cons_zero, List.set_cons_succ]
              refine' wpAnyH_take (i := 3) (v := _) rfl (by kernel_rfl) (by kernel_rfl) (by kernel_rfl) (fun _ _ _ h => h) (Or.inl ⟨by kernel_rfl, ?hlc3⟩) (by assumption) ?rlc3
              case hlc3 => intro W hW; obtain ⟨d0, d1, d2⟩ := hW; go_simp; all_goals with_reducible rfl
              change wpAnyH _ _ _ _ _ _ _ (Act.put _ (some 44) _) _
              simp only [Act.put, List.setIfInBounds_toArray, List.set_cons_zero, List.set_cons_succ]
              refine' wpAnyH_take (i := 4) (v := _) rfl (by kernel_rfl) (by kernel_rfl) (by kernel_rfl) (fun _ _ _ h => h) (Or.inl ⟨by kernel_rfl, ?hlc4⟩) (by assumption) ?rlc4
              case hlc4 => intro W hW; obtain ⟨d0, d1, d2⟩ := hW; go_simp; all_goals with_reducible rfl
              change wpAnyH _ _ _ _ _ _ _ (Act.put _ (some 45) _) _
              simp only [Act.put, List.setIfInBounds_toArray, List.set_cons_zero, List.set_cons_succ]
              refine' wpAnyH_take (i := 5) (v := _) rfl (by kernel_rfl) (by kernel_rfl) (by kernel_rfl) (fun _ _ _ h => h) (Or.inl ⟨by kernel_rfl, ?hlc5⟩) (by assumption) ?rlc5
              case hlc5 => intro W hW; obtain ⟨d0, d1, d2⟩ := hW; go_simp; all_goals with_reducible rfl
              change wpAnyH _ _ _ _ _ _ _ (Act.put _ (some 46) _) _
              simp only [Act.put, List.setIfInBounds_toArray, List.set_cons_zero, List.set_cons_succ]
              refine' wpAnyH_take (i := 6) (v := _) rfl (by kernel_rfl) (by kernel_rfl) (by kernel_rfl) (fun _ _ _ h => h) (Or.inl ⟨by kernel_rfl, ?hlc6⟩) (by assumption) ?rlc6
              case hlc6 => intro W hW; obtain ⟨d0, d1, d2⟩ := hW; go_simp; all_goals with_reducible rfl
              change wpAnyH _ _ _ _ _ _ _ (Act.put _ (some 47) _) _
              simp only [Act.put, List.setIfInBounds_toArray, List.set_cons_zero, List.set_cons_succ]
              refine' wpAnyH_take (i := 7) (v := _) rfl (by kernel_rfl) (by kernel_rfl) (by kernel_rfl) (fun _ _ _ h => h) (Or.inl ⟨by kernel_rfl, ?hlc7⟩) (by assumption) ?rlc7
              case hlc7 => intro W hW; obtain ⟨d0, d1, d2⟩ := hW; go_simp; all_goals with_reducible rfl
              change wpAnyH _ _ _ _ _ _ _ (Act.put _ (some 48) _) _
              simp only [Act.put, List.setIfInBounds_toArray, List.set_cons_zero, List.set_cons_succ]
              refine' wpAnyH_take (i := 9) (v := _) rfl (by kernel_rfl) (by kernel_rfl) (by kernel_rfl) (fun _ _ _ h => h) (Or.inl ⟨by kernel_rfl, ?hlc8⟩) (by assumption) ?rlc8
              case hlc8 => intro W hW; obtain ⟨d0, d1, d2⟩ := hW; go_simp; all_goals with_reducible rfl
              change wpAnyH _ _ _ _ _ _ _ (Act.put _ (some 50) _) _
              simp only [Act.put, List.setIfInBounds_toArray, List.set_cons_zero, List.set_cons_succ]
              refine' wpAnyH_take (i := 10) (v := _) rfl (by kernel_rfl) (by kernel_rfl) (by kernel_rfl) (fun _ _ _ h => h) (Or.inl ⟨by kernel_rfl, ?hlc9⟩) (by assumption) ?rlc9
              case hlc9 => intro W hW; obtain ⟨d0, d1, d2⟩ := hW; go_simp; all_goals with_reducible rfl
              change wpAnyH _ _ _ _ _ _ _ (Act.put _ (some 51) _) _
              simp only [Act.put, List.setIfInBounds_toArray, List.set_cons_zero, List.set_cons_succ]
              refine' wpAnyH_take (i := 11) (v := _) rfl (by kernel_rfl) (by kernel_rfl) (by kernel_rfl) (fun _ _ _ h => h) (Or.inl ⟨by kernel_rfl, ?hlc10⟩) (by assumption) ?rlc10
              case hlc10 => intro W hW; obtain ⟨d0, d1, d2⟩ := hW; go_simp; all_goals with_reducible rfl
              change wpAnyH _ _ _ _ _ _ _ (Act.put _ (some 52) _) _
              simp only [Act.put, List.setIfInBounds_toArray, List.set_cons_zero, List.set_cons_succ]
              refine' wpAnyH_take (i := 12) (v := _) rfl (by kernel_rfl) (by kernel_rfl) (by kernel_rfl) (fun _ _ _ h => h) (Or.inl ⟨by kernel_rfl, ?hlc11⟩) (by assumption) ?rlc11
              case hlc11 => intro W hW; obtain ⟨d0, d1, d2⟩ := hW; go_simp; all_goals with_reducible rfl
              change wpAnyH _ _ _ _ _ _ _ (Act.put _ (some 53) _) _
              simp only [Act.put, List.setIfInBounds_toArray, List.set_cons_zero, List.set_cons_succ]
              refine' wpAnyH_take (i := 13) (v := _) rfl (by kernel_rfl) (by kernel_rfl) (by kernel_rfl) (fun _ _ _ h => h) (Or.inl ⟨by kernel_rfl, ?hlc12⟩) (by assumption) ?rlc12
              case hlc12 => intro W hW; obtain ⟨d0, d1, d2⟩ := hW; go_simp; all_goals with_reducible rfl
              change wpAnyH _ _ _ _ _ _ _ (Act.put _ (some 54) _) _
              simp only [Act.put, List.setIfInBounds_toArray, List.set_cons_zero, List.set_cons_succ]
              refine' wpAnyH_take (i := 14) (v := _) rfl (by kernel_rfl) (by kernel_rfl) (by kernel_rfl) (fun _ _ _ h => h) (Or.inl ⟨by kernel_rfl, ?hlc13⟩) (by assumption) ?rlc13
              case hlc13 => intro W hW; obtain ⟨d0, d1, d2⟩ := hW; go_simp; all_goals with_reducible rfl
              change wpAnyH _ _ _ _ _ _ _ (Act.put _ (some 55) _) _
              simp only [Act.put, List.setIfInBounds_toArray, List.set_cons_zero, List.set_cons_succ]
              refine wpAnyH_ready (rs := [1, 8]) (by kernel_rfl) (by simp) ?_
              refine AllReadyH.cons rfl (fun KK hK => ?_) (AllReadyH.cons rfl (fun KK hK => ?_) AllReadyH.nil)
              ·
                obtain ⟨⟨d0, d1, d2, d3, d4⟩, ⟨e0, e1, e2, e3, e4⟩, -⟩ := hT.cells
                go_simp
                clear d0 d1 d2 d3 d4 e0 e1 e2 e3 e4
                refine hK.out _ _ ⟨hT.a.cell 1, (HC.out _ hT.below).1, (HC.out _ hT.below).2⟩ (fun hHeld => ?_)
                clear hK KK
                try simp only [Act.put, List.setIfInBounds_toArray, List.set_cons_zero, List.set_cons_succ]
                refine wpAnyH_ready (rs := [8]) (by kernel_rfl) (by simp) ?_
                refine AllReadyH.cons rfl (fun KK hK => ?_) AllReadyH.nil
                go_simp
                have hbA : Below wd.heap.size wd (wd.alloc (.cells #[] 5)) := (Below.refl _ _).alloc (Nat.le_refl _) _
                have hE := own_emptyK wd 5 1
                have hnew : ∀ v, v ∈ ss ++ cs → ∀ g, v.ownBlock = some g → g < wd.heap.size := fun v hv g hg => (hBs.lt v hv g hg).2
                have hgE := hT.below.size
                obtain ⟨g0, hg0⟩ := hidEx wd.heap.size
                rw [hg0.out] at hE hnew hgE ⊢
                replace hO := own_upK hO (Up.ofBelow hbA)
                replace hOS := own_upK hOS (Up.ofBelow hbA)
                replace hT := hT.on hbA
                replace hBs := hBs.up (Up.ofBelow hbA)
                replace hF := own_upK hF (Up.ofBelow hbA)
                have hszE : g0 ≤ (wd.alloc (.cells #[] 5)).heap.size := by rw [← hg0.out]; exact hbA.size
                clear hbA
                refine hK.out _ _ ⟨hT.a.cell 1, (HC.out _ hT.below).1, (HC.out _ hT.below).2⟩ (fun hHeld => ?_)
                clear hK KK
                try simp only [Act.put, List.setIfInBounds_toArray, List.set_cons_zero, List.set_cons_succ]
                obtain ⟨q1, hq1⟩ := hidEx (wd.alloc (.cells #[] 5))
                rw [hq1.out] at hT hE hBs hF hszE hO hOS hHeld ⊢
                refine wpAnyH_ready (rs := [15]) (by kernel_rfl) (by simp) ?_
                refine AllReadyH.cons rfl (fun KK hK => ?_) AllReadyH.nil
                rw [if_pos (by kernel_rfl)]
                have hvw := HV.out _ hT.below
                refine wp_append_opt (.tmp 49) (.tmp 55) 49 rfl g0 5 ib (.int .u8 0) 1 1 Try.underlying49 hib hb0 hb1 hb2 rfl (by decide) _ _ _ rfl hE a3 p0 c3 (bl pl) rfl (fun e => by have h1 := vn e; have h2 := hvw.le; omega) (by rw [bl_len, HP0.out]; omega) (view_news (by rw [HP0.out]; exact hvw)) (bl_one _) (by unfold maxLen; omega) (by omega) hszE ?_
                intro v8 w8 hE8 hgr8
                have hk8 := keep_grown hE hgr8
                rw [Nat.zero_add, List.nil_append] at hE8
                have hge8 := own_geK hE8
                obtain ⟨a8, c8, rfl, h81, h82, -⟩ := own_rl hE8
                replace hT := hT.grow hgr8 (fun k e => by have := own_geK hE k e; omega) hk8 (by decide)
                replace hO := own_keepT hO hk8 (by decide)
                replace hOS := own_keepT hOS hk8 (by decide)
                replace hF := own_keepT hF hk8 (by decide)
                replace hBs := (hBs.grownNew hnew hgr8 (own_geK hE)).push ((ob_own_any hE8 HP0.out.symm HBY.out).mono hgE) (fun g e => ⟨⟨Nat.le_trans hgE (hge8 g e), own_lt hE8 g e⟩, fun u hu e2 => by have h8 := hnew u hu g e2; have h9 := hge8 g e; omega⟩)
                clear hE hgr8 hk8 hnew hge8 hE8 hvw h81 h82 hszE
                refine hK.out _ _ ⟨hT.a.cell 1, (HC.out _ hT.below).1, (HC.out _ hT.below).2⟩ (fun hHeld => ?_)
                clear hK KK
                change wpAnyH _ _ _ _ _ _ _ (Act.put _ (some 56) _) _
                try simp only [Act.put, List.setIfInBounds_toArray, List.set_cons_zero, List.set_cons_succ]
                refine' wpAnyH_take (i := 16) (v := _) rfl (by kernel_rfl) (by kernel_rfl) (by kernel_rfl) (fun _ _ _ h => h) (Or.inl ⟨by kernel_rfl, ?hlc14⟩) (by assumption) ?rlc14
                case hlc14 => intro W hW; obtain ⟨d0, d1, d2⟩ := hW; go_simp; all_goals with_reducible rfl
                change wpAnyH _ _ _ _ _ _ _ (Act.put _ (some 57) _) _
                simp only [Act.put, List.setIfInBounds_toArray, List.set_cons_zero, List.set_cons_succ]
                refine wpAnyH_ready (rs := [17]) (by kernel_rfl) (by simp) ?_
                refine AllReadyH.cons rfl (fun KK hK => ?_) AllReadyH.nil
                go_simp
                have hbA : Below w8.heap.size w8 (w8.alloc (.cells #[.int .i64 p1, .slice a8 p0 c8] 52)) := (Below.refl _ _).alloc (Nat.le_refl _) _
                have hcl : ∀ j u, [Value.int .i64 p1, .slice a8 p0 c8][j]? = some u → (w8.alloc (.cells #[.int .i64 p1, .slice a8 p0 c8] 52)).cell? ((⟨w8.heap.size, 0, none⟩ : Addr).add j) = some u := by
                  have ea : ∀ j, (⟨w8.heap.size, 0, none⟩ : Addr).add j = ⟨w8.heap.size, 0 + j, none⟩ := fun j => by unfold Addr.add; split <;> simp_all
                  intro j u hj
                  match j, hj with
                  | 0, hj => cases hj; rw [ea]; simp
                  | 1, hj => cases hj; rw [ea]; simp [go_sem]
                obtain ⟨g9, hg9⟩ := hidEx w8.heap.size
                rw [hg9.out] at hcl ⊢
                replace hO := own_upK hO (Up.ofBelow hbA)
                replace hOS := own_upK hOS (Up.ofBelow hbA)
                replace hT := hT.on hbA
                replace hBs := hBs.up (Up.ofBelow hbA)
                replace hF := own_upK hF (Up.ofBelow hbA)
                clear hbA
                refine hK.out _ _ ⟨hT.a.cell 1, (HC.out _ hT.below).1, (HC.out _ hT.below).2⟩ (fun hHeld => ?_)
                clear hK KK
                try simp only [Act.put, List.setIfInBounds_toArray, List.set_cons_zero, List.set_cons_succ]
                obtain ⟨q2, hq2⟩ := hidEx (w8.alloc (.cells #[.int .i64 p1, .slice a8 p0 c8] 52))
                rw [hq2.out] at hT hBs hF hcl hO hOS hHeld ⊢
                refine wpAnyH_ready (rs := [18]) (by kernel_rfl) (by simp) ?_
                refine AllReadyH.cons rfl (fun KK hK => ?_) AllReadyH.nil
                rw [if_pos (by kernel_rfl)]
                refine wp_append_own _ (.tmp 42) (.tmp 58) 28 rfl w.heap.size 52 i0 (.agg #[.int .i64 0, .slice none 0 0]) 2 32 Try.underlying28 hi hz0 hz1 hz2 rfl (by decide) _ _ _ rfl hO ⟨g9, 0, none⟩ 1 1 [.int .i64 p1, .slice a8 p0 c8] rfl rfl hcl (by intro u hu; simp at hu; rcases hu with rfl | rfl <;> rfl) (by unfold maxLen; omega) (by omega) hT.below.size ?_
                intro v6 w6 hO6 hgr6 hnil6
                have hK6 := keep_grown hO hgr6
                replace hT := hT.grow hgr6 (own_geK hO) hK6 (by decide)
                replace hOS := own_keepT hOS hK6 (by decide)
                replace hBs := hBs.keepT hK6 hgr6.size (by decide)
                replace hF := own_keepT hF hK6 (by decide)
                obtain ⟨b6, c6, rfl⟩ := own_succK hO6
                clear hO hgr6 hnil6 hcl hK6
                refine hK.out _ _ ⟨hT.a.cell 1, (HC.out _ hT.below).1, (HC.out _ hT.below).2⟩ (fun hHeld => ?_)
                clear hK KK
                change wpAnyH _ _ _ _ _ _ _ (Act.put _ (some 59) _) _
                try simp only [Act.put, List.setIfInBounds_toArray, List.set_cons_zero, List.set_cons_succ]
                refine' wpAnyH_take (i := 19) (v := _) rfl (by kernel_rfl) (by kernel_rfl) (by kernel_rfl) (fun _ _ _ h => h) (Or.inl ⟨by kernel_rfl, ?hlc15⟩) (by assumption) ?rlc15
                case hlc15 => intro W hW; obtain ⟨d0, d1, d2⟩ := hW; go_simp; all_goals with_reducible rfl
                change wpAnyH _ _ _ _ _ _ _ (Act.put _ (some 60) _) _
                simp only [Act.put, List.setIfInBounds_toArray, List.set_cons_zero, List.set_cons_succ]
                refine wpAnyH_ready (rs := [20]) (by kernel_rfl) (by simp) ?_
                refine AllReadyH.cons rfl (fun KK hK => ?_) AllReadyH.nil
                obtain ⟨⟨d0, d1, d2, d3, d4⟩, ⟨e0, e1, e2, e3, e4⟩, q⟩ := hT.cells
                have q0 := q 1
                go_simp
                clear d0 d1 d2 d3 d4 e0 e1 e2 e3 e4 q q0
                have hkS := keep_vn (P := fun t => t = 31) (i := 1) (u := .slice (some ⟨b6, 0, none⟩) (k + 1) c6) hT.o rfl
                replace hO6 := own_keepT hO6 hkS (by decide)
                replace hOS := own_keepT hOS hkS (by decide)
                replace hBs := hBs.keepT hkS (by simp) (by decide)
                replace hF := own_keepT hF hkS (by decide)
                replace hT := hT.set 1 (.slice (some ⟨b6, 0, none⟩) (k + 1) c6)
                simp only [List.set] at hT
                clear hkS
                refine hK.out _ _ ⟨hT.a.cell 1, (HC.out _ hT.below).1, (HC.out _ hT.below).2⟩ (fun hHeld => ?_)
                clear hK KK
                try simp only [Act.put, List.setIfInBounds_toArray, List.set_cons_zero, List.set_cons_succ]
                refine wpAnyH_done (by kernel_rfl) ?_ _
                have HR : Hid (E2 w D sa sc _ cc fa fc ga gc X vS ss (k + 1) _) := ⟨_, cs ++ [.slice a8 p0 c8], by simp [hcsl], hT, hOS, by rw [take_one hlt, wcells_push (by rw [hcsl]; simp; omega), HP1.out]; exact hO6, by rw [take_one hlt, List.map_append, ← List.append_assoc, ← List.append_assoc, List.map_singleton, HPL.out]; exact hBs, hF⟩
                clear hT hO6 hBs hF hHeld hOS
                go_wp2
                go_roundg (D.cache.length - (k + 1))
                case measure => omega
                case rel => exact ⟨k + 1, by omega, rfl, by go_num, HR.out⟩
              ·
                go_simp
                have hbA : Below wd.heap.size wd (wd.alloc (.cells #[] 5)) := (Below.refl _ _).alloc (Nat.le_refl _) _
                have hE := own_emptyK wd 5 1
                have hnew : ∀ v, v ∈ ss ++ cs → ∀ g, v.ownBlock = some g → g < wd.heap.size := fun v hv g hg => (hBs.lt v hv g hg).2
                have hgE := hT.below.size
                obtain ⟨g0, hg0⟩ := hidEx wd.heap.size
                rw [hg0.out] at hE hnew hgE ⊢
                replace hO := own_upK hO (Up.ofBelow hbA)
                replace hOS := own_upK hOS (Up.ofBelow hbA)
                replace hT := hT.on hbA
                replace hBs := hBs.up (Up.ofBelow hbA)
                replace hF := own_upK hF (Up.ofBelow hbA)
                have hszE : g0 ≤ (wd.alloc (.cells #[] 5)).heap.size := by rw [← hg0.out]; exact hbA.size
                clear hbA
                refine hK.out _ _ ⟨hT.a.cell 1, (HC.out _ hT.below).1, (HC.out _ hT.below).2⟩ (fun hHeld => ?_)
                clear hK KK
                try simp only [Act.put, List.setIfInBounds_toArray, List.set_cons_zero, List.set_cons_succ]
                obtain ⟨q1, hq1⟩ := hidEx (wd.alloc (.cells #[] 5))
                rw [hq1.out] at hT hE hBs hF hszE hO hOS hHeld ⊢
                refine wpAnyH_ready (rs := [1, 15]) (by kernel_rfl) (by simp) ?_
                refine AllReadyH.cons rfl (fun KK hK => ?_) (AllReadyH.cons rfl (fun KK hK => ?_) AllReadyH.nil)
                ·
                  obtain ⟨⟨d0, d1, d2, d3, d4⟩, ⟨e0, e1, e2, e3, e4⟩, -⟩ := hT.cells
                  go_simp
                  clear d0 d1 d2 d3 d4 e0 e1 e2 e3 e4
                  refine hK.out _ _ ⟨hT.a.cell 1, (HC.out _ hT.below).1, (HC.out _ hT.below).2⟩ (fun hHeld => ?_)
                  clear hK KK
                  try simp only [Act.put, List.setIfInBounds_toArray, List.set_cons_zero, List.set_cons_succ]
                  refine wpAnyH_ready (rs := [15]) (by kernel_rfl) (by simp) ?_
                  refine AllReadyH.cons rfl (fun KK hK => ?_) AllReadyH.nil
                  rw [if_pos (by kernel_rfl)]
                  have hvw := HV.out _ hT.below
                  refine wp_append_opt (.tmp 49) (.tmp 55) 49 rfl g0 5 ib (.int .u8 0) 1 1 Try.underlying49 hib hb0 hb1 hb2 rfl (by decide) _ _ _ rfl hE a3 p0 c3 (bl pl) rfl (fun e => by have h1 := vn e; have h2 := hvw.le; omega) (by rw [bl_len, HP0.out]; omega) (view_news (by rw [HP0.out]; exact hvw)) (bl_one _) (by unfold maxLen; omega) (by omega) hszE ?_
                  intro v8 w8 hE8 hgr8
                  have hk8 := keep_grown hE hgr8
                  rw [Nat.zero_add, List.nil_append] at hE8
                  have hge8 := own_geK hE8
                  obtain ⟨a8, c8, rfl, h81, h82, -⟩ := own_rl hE8
                  replace hT := hT.grow hgr8 (fun k e => by have := own_geK hE k e; omega) hk8 (by decide)
                  replace hO := own_keepT hO hk8 (by decide)
                  replace hOS := own_keepT hOS hk8 (by decide)
                  replace hF := own_keepT hF hk8 (by decide)
                  replace hBs := (hBs.grownNew hnew hgr8 (own_geK hE)).push ((ob_own_any hE8 HP0.out.symm HBY.out).mono hgE) (fun g e => ⟨⟨Nat.le_trans hgE (hge8 g e), own_lt hE8 g e⟩, fun u hu e2 => by have h8 := hnew u hu g e2; have h9 := hge8 g e; omega⟩)
                  clear hE hgr8 hk8 hnew hge8 hE8 hvw h81 h82 hszE
                  refine hK.out _ _ ⟨hT.a.cell 1, (HC.out _ hT.below).1, (HC.out _ hT.below).2⟩ (fun hHeld => ?_)
                  clear hK KK
                  change wpAnyH _ _ _ _ _ _ _ (Act.put _ (some 56) _) _
                  try simp only [Act.put, List.setIfInBounds_toArray, List.set_cons_zero, List.set_cons_succ]
                  refine' wpAnyH_take (i := 16) (v := _) rfl (by kernel_rfl) (by kernel_rfl) (by kernel_rfl) (fun _ _ _ h => h) (Or.inl ⟨by kernel_rfl, ?hlc16⟩) (by assumption) ?rlc16
                  case hlc16 => intro W hW; obtain ⟨d0, d1, d2⟩ := hW; go_simp; all_goals with_reducible rfl
                  change wpAnyH _ _ _ _ _ _ _ (Act.put _ (some 57) _) _
                  simp only [Act.put, List.setIfInBounds_toArray, List.set_cons_zero, List.set_cons_succ]
                  refine wpAnyH_ready (rs := [17]) (by kernel_rfl) (by simp) ?_
                  refine AllReadyH.cons rfl (fun KK hK => ?_) AllReadyH.nil
                  go_simp
                  have hbA : Below w8.heap.size w8 (w8.alloc (.cells #[.int .i64 p1, .slice a8 p0 c8] 52)) := (Below.refl _ _).alloc (Nat.le_refl _) _
                  have hcl : ∀ j u, [Value.int .i64 p1, .slice a8 p0 c8][j]? = some u → (w8.alloc (.cells #[.int .i64 p1, .slice a8 p0 c8] 52)).cell? ((⟨w8.heap.size, 0, none⟩ : Addr).add j) = some u := by
                    have ea : ∀ j, (⟨w8.heap.size, 0, none⟩ : Addr).add j = ⟨w8.heap.size, 0 + j, none⟩ := fun j => by unfold Addr.add; split <;> simp_all
                    intro j u hj
                    match j, hj with
                    | 0, hj => cases hj; rw [ea]; simp
                    | 1, hj => cases hj; rw [ea]; simp [go_sem]
                  obtain ⟨g9, hg9⟩ := hidEx w8.heap.size
                  rw [hg9.out] at hcl ⊢
                  replace hO := own_upK hO (Up.ofBelow hbA)
                  replace hOS := own_upK hOS (Up.ofBelow hbA)
                  replace hT := hT.on hbA
                  replace hBs := hBs.up (Up.ofBelow hbA)
                  replace hF := own_upK hF (Up.ofBelow hbA)
                  clear hbA
                  refine hK.out _ _ ⟨hT.a.cell 1, (HC.out _ hT.below).1, (HC.out _ hT.below).2⟩ (fun hHeld => ?_)
                  clear hK KK
                  try simp only [Act.put, List.setIfInBounds_toArray, List.set_cons_zero, List.set_cons_succ]
                  obtain ⟨q2, hq2⟩ := hidEx (w8.alloc (.cells #[.int .i64 p1, .slice a8 p0 c8] 52))
                  rw [hq2.out] at hT hBs hF hcl hO hOS hHeld ⊢
                  refine wpAnyH_ready (rs := [18]) (by kernel_rfl) (by simp) ?_
                  refine AllReadyH.cons rfl (fun KK hK => ?_) AllReadyH.nil
                  rw [if_pos (by kernel_rfl)]
                  refine wp_append_own _ (.tmp 42) (.tmp 58) 28 rfl w.heap.size 52 i0 (.agg #[.int .i64 0, .slice none 0 0]) 2 32 Try.underlying28 hi hz0 hz1 hz2 rfl (by decide) _ _ _ rfl hO ⟨g9, 0, none⟩ 1 1 [.int .i64 p1, .slice a8 p0 c8] rfl rfl hcl (by intro u hu; simp at hu; rcases hu with rfl | rfl <;> rfl) (by unfold maxLen; omega) (by omega) hT.below.size ?_
                  intro v6 w6 hO6 hgr6 hnil6
                  have hK6 := keep_grown hO hgr6
                  replace hT := hT.grow hgr6 (own_geK hO) hK6 (by decide)
                  replace hOS := own_keepT hOS hK6 (by decide)
                  replace hBs := hBs.keepT hK6 hgr6.size (by decide)
                  replace hF := own_keepT hF hK6 (by decide)
                  obtain ⟨b6, c6, rfl⟩ := own_succK hO6
                  clear hO hgr6 hnil6 hcl hK6
                  refine hK.out _ _ ⟨hT.a.cell 1, (HC.out _ hT.below).1, (HC.out _ hT.below).2⟩ (fun hHeld => ?_)
                  clear hK KK
                  change wpAnyH _ _ _ _ _ _ _ (Act.put _ (some 59) _) _
                  try simp only [Act.put, List.setIfInBounds_toArray, List.set_cons_zero, List.set_cons_succ]
                  refine' wpAnyH_take (i := 19) (v := _) rfl (by kernel_rfl) (by kernel_rfl) (by kernel_rfl) (fun _ _ _ h => h) (Or.inl ⟨by kernel_rfl, ?hlc17⟩) (by assumption) ?rlc17
                  case hlc17 => intro W hW; obtain ⟨d0, d1, d2⟩ := hW; go_simp; all_goals with_reducible rfl
                  change wpAnyH _ _ _ _ _ _ _ (Act.put _ (some 60) _) _
                  simp only [Act.put, List.setIfInBounds_toArray, List.set_cons_zero, List.set_cons_succ]
                  refine wpAnyH_ready (rs := [20]) (by kernel_rfl) (by simp) ?_
                  refine AllReadyH.cons rfl (fun KK hK => ?_) AllReadyH.nil
                  obtain ⟨⟨d0, d1, d2, d3, d4⟩, ⟨e0, e1, e2, e3, e4⟩, q⟩ := hT.cells
                  have q0 := q 1
                  go_simp
                  clear d0 d1 d2 d3 d4 e0 e1 e2 e3 e4 q q0
                  have hkS := keep_vn (P := fun t => t = 31) (i := 1) (u := .slice (some ⟨b6, 0, none⟩) (k + 1) c6) hT.o rfl
                  replace hO6 := own_keepT hO6 hkS (by decide)
                  replace hOS := own_keepT hOS hkS (by decide)
                  replace hBs := hBs.keepT hkS (by simp) (by decide)
                  replace hF := own_keepT hF hkS (by decide)
                  replace hT := hT.set 1 (.slice (some ⟨b6, 0, none⟩) (k + 1) c6)
                  simp only [List.set] at hT
                  clear hkS
                  refine hK.out _ _ ⟨hT.a.cell 1, (HC.out _ hT.below).1, (HC.out _ hT.below).2⟩ (fun hHeld => ?_)
                  clear hK KK
                  try simp only [Act.put, List.setIfInBounds_toArray, List.set_cons_zero, List.set_cons_succ]
                  refine wpAnyH_done (by kernel_rfl) ?_ _
                  have HR : Hid (E2 w D sa sc _ cc fa fc ga gc X vS ss (k + 1) _) := ⟨_, cs ++ [.slice a8 p0 c8], by simp [hcsl], hT, hOS, by rw [take_one hlt, wcells_push (by rw [hcsl]; simp; omega), HP1.out]; exact hO6, by rw [take_one hlt, List.map_append, ← List.append_assoc, ← List.append_assoc, List.map_singleton, HPL.out]; exact hBs, hF⟩
                  clear hT hO6 hBs hF hHeld hOS
                  go_wp2
                  go_roundg (D.cache.length - (k + 1))
                  case measure => omega
                  case rel => exact ⟨k + 1, by omega, rfl, by go_num, HR.out⟩
                ·
                  rw [if_pos (by kernel_rfl)]
                  have hvw := HV.out _ hT.below
                  refine wp_append_opt (.tmp 49) (.tmp 55) 49 rfl g0 5 ib (.int .u8 0) 1 1 Try.underlying49 hib hb0 hb1 hb2 rfl (by decide) _ _ _ rfl hE a3 p0 c3 (bl pl) rfl (fun e => by have h1 := vn e; have h2 := hvw.le; omega) (by rw [bl_len, HP0.out]; omega) (view_news (by rw [HP0.out]; exact hvw)) (bl_one _) (by unfold maxLen; omega) (by omega) hszE ?_
                  intro v8 w8 hE8 hgr8
                  have hk8 := keep_grown hE hgr8
                  rw [Nat.zero_add, List.nil_append] at hE8
                  have hge8 := own_geK hE8
                  obtain ⟨a8, c8, rfl, h81, h82, -⟩ := own_rl hE8
                  replace hT := hT.grow hgr8 (fun k e => by have := own_geK hE k e; omega) hk8 (by decide)
                  replace hO := own_keepT hO hk8 (by decide)
                  replace hOS := own_keepT hOS hk8 (by decide)
                  replace hF := own_keepT hF hk8 (by decide)
                  replace hBs := (hBs.grownNew hnew hgr8 (own_geK hE)).push ((ob_own_any hE8 HP0.out.symm HBY.out).mono hgE) (fun g e => ⟨⟨Nat.le_trans hgE (hge8 g e), own_lt hE8 g e⟩, fun u hu e2 => by have h8 := hnew u hu g e2; have h9 := hge8 g e; omega⟩)
                  clear hE hgr8 hk8 hnew hge8 hE8 hvw h81 h82 hszE
                  refine hK.out _ _ ⟨hT.a.cell 1, (HC.out _ hT.below).1, (HC.out _ hT.below).2⟩ (fun hHeld => ?_)
                  clear hK KK
                  change wpAnyH _ _ _ _ _ _ _ (Act.put _ (some 56) _) _
                  try simp only [Act.put, List.setIfInBounds_toArray, List.set_cons_zero, List.set_cons_succ]
                  refine' wpAnyH_take (i := 16) (v := _) rfl (by kernel_rfl) (by kernel_rfl) (by kernel_rfl) (fun _ _ _ h => h) (Or.inl ⟨by kernel_rfl, ?hlc18⟩) (by assumption) ?rlc18
                  case hlc18 => intro W hW; obtain ⟨d0, d1, d2⟩ := hW; go_simp; all_goals with_reducible rfl
                  change wpAnyH _ _ _ _ _ _ _ (Act.put _ (some 57) _) _
                  simp only [Act.put, List.setIfInBounds_toArray, List.set_cons_zero, List.set_cons_succ]
                  refine wpAnyH_ready (rs := [1, 17]) (by kernel_rfl) (by simp) ?_
                  refine AllReadyH.cons rfl (fun KK hK => ?_) (AllReadyH.cons rfl (fun KK hK => ?_) AllReadyH.nil)
                  ·
                    obtain ⟨⟨d0, d1, d2, d3, d4⟩, ⟨e0, e1, e2, e3, e4⟩, -⟩ := hT.cells
                    go_simp
                    clear d0 d1 d2 d3 d4 e0 e1 e2 e3 e4
                    refine hK.out _ _ ⟨hT.a.cell 1, (HC.out _ hT.below).1, (HC.out _ hT.below).2⟩ (fun hHeld => ?_)
                    clear hK KK
                    try simp only [Act.put, List.setIfInBounds_toArray, List.set_cons_zero, List.set_cons_succ]
                    refine wpAnyH_ready (rs := [17]) (by kernel_rfl) (by simp) ?_
                    refine AllReadyH.cons rfl (fun KK hK => ?_) AllReadyH.nil
                    go_simp
                    have hbA : Below w8.heap.size w8 (w8.alloc (.cells #[.int .i64 p1, .slice a8 p0 c8] 52)) := (Below.refl _ _).alloc (Nat.le_refl _) _
                    have hcl : ∀ j u, [Value.int .i64 p1, .slice a8 p0 c8][j]? = some u → (w8.alloc (.cells #[.int .i64 p1, .slice a8 p0 c8] 52)).cell? ((⟨w8.heap.size, 0, none⟩ : Addr).add j) = some u := by
                      have ea : ∀ j, (⟨w8.heap.size, 0, none⟩ : Addr).add j = ⟨w8.heap.size, 0 + j, none⟩ := fun j => by unfold Addr.add; split <;> simp_all
                      intro j u hj
                      match j, hj with
                      | 0, hj => cases hj; rw [ea]; simp
                      | 1, hj => cases hj; rw [ea]; simp [go_sem]
                    obtain ⟨g9, hg9⟩ := hidEx w8.heap.size
                    rw [hg9.out] at hcl ⊢
                    replace hO := own_upK hO (Up.ofBelow hbA)
                    replace hOS := own_upK hOS (Up.ofBelow hbA)
                    replace hT := hT.on hbA
                    replace hBs := hBs.up (Up.ofBelow hbA)
                    replace hF := own_upK hF (Up.ofBelow hbA)
                    clear hbA
                    refine hK.out _ _ ⟨hT.a.cell 1, (HC.out _ hT.below).1, (HC.out _ hT.below).2⟩ (fun hHeld => ?_)
                    clear hK KK
                    try simp only [Act.put, List.setIfInBounds_toArray, List.set_cons_zero, List.set_cons_succ]
                    obtain ⟨q2, hq2⟩ := hidEx (w8.alloc (.cells #[.int .i64 p1, .slice a8 p0 c8] 52))
                    rw [hq2.out] at hT hBs hF hcl hO hOS hHeld ⊢
                    refine wpAnyH_ready (rs := [18]) (by kernel_rfl) (by simp) ?_
                    refine AllReadyH.cons rfl (fun KK hK => ?_) AllReadyH.nil
                    rw [if_pos (by kernel_rfl)]
                    refine wp_append_own _ (.tmp 42) (.tmp 58) 28 rfl w.heap.size 52 i0 (.agg #[.int .i64 0, .slice none 0 0]) 2 32 Try.underlying28 hi hz0 hz1 hz2 rfl (by decide) _ _ _ rfl hO ⟨g9, 0, none⟩ 1 1 [.int .i64 p1, .slice a8 p0 c8] rfl rfl hcl (by intro u hu; simp at hu; rcases hu with rfl | rfl <;> rfl) (by unfold maxLen; omega) (by omega) hT.below.size ?_
                    intro v6 w6 hO6 hgr6 hnil6
                    have hK6 := keep_grown hO hgr6
                    replace hT := hT.grow hgr6 (own_geK hO) hK6 (by decide)
                    replace hOS := own_keepT hOS hK6 (by decide)
                    replace hBs := hBs.keepT hK6 hgr6.size (by decide)
                    replace hF := own_keepT hF hK6 (by decide)
                    obtain ⟨b6, c6, rfl⟩ := own_succK hO6
                    clear hO hgr6 hnil6 hcl hK6
                    refine hK.out _ _ ⟨hT.a.cell 1, (HC.out _ hT.below).1, (HC.out _ hT.below).2⟩ (fun hHeld => ?_)
                    clear hK KK
                    change wpAnyH _ _ _ _ _ _ _ (Act.put _ (some 59) _) _
                    try simp only [Act.put, List.setIfInBounds_toArray, List.set_cons_zero, List.set_cons_succ]
                    refine' wpAnyH_take (i := 19) (v := _) rfl (by kernel_rfl) (by kernel_rfl) (by kernel_rfl) (fun _ _ _ h => h) (Or.inl ⟨by kernel_rfl, ?hlc19⟩) (by assumption) ?rlc19
                    case hlc19 => intro W hW; obtain ⟨d0, d1, d2⟩ := hW; go_simp; all_goals with_reducible rfl
                    change wpAnyH _ _ _ _ _ _ _ (Act.put _ (some 60) _) _
                    simp only [Act.put, List.setIfInBounds_toArray, List.set_cons_zero, List.set_cons_succ]
                    refine wpAnyH_ready (rs := [20]) (by kernel_rfl) (by simp) ?_
                    refine AllReadyH.cons rfl (fun KK hK => ?_) AllReadyH.nil
                    obtain ⟨⟨d0, d1, d2, d3, d4⟩, ⟨e0, e1, e2, e3, e4⟩, q⟩ := hT.cells
                    have q0 := q 1
                    go_simp
                    clear d0 d1 d2 d3 d4 e0 e1 e2 e3 e4 q q0
                    have hkS := keep_vn (P := fun t => t = 31) (i := 1) (u := .slice (some ⟨b6, 0, none⟩) (k + 1) c6) hT.o rfl
                    replace hO6 := own_keepT hO6 hkS (by decide)
                    replace hOS := own_keepT hOS hkS (by decide)
                    replace hBs := hBs.keepT hkS (by simp) (by decide)
                    replace hF := own_keepT hF hkS (by decide)
                    replace hT := hT.set 1 (.slice (some ⟨b6, 0, none⟩) (k + 1) c6)
                    simp only [List.set] at hT
                    clear hkS
                    refine hK.out _ _ ⟨hT.a.cell 1, (HC.out _ hT.below).1, (HC.out _ hT.below).2⟩ (fun hHeld => ?_)
                    clear hK KK
                    try simp only [Act.put, List.setIfInBounds_toArray, List.set_cons_zero, List.set_cons_succ]
                    refine wpAnyH_done (by kernel_rfl) ?_ _
                    have HR : Hid (E2 w D sa sc _ cc fa fc ga gc X vS ss (k + 1) _) := ⟨_, cs ++ [.slice a8 p0 c8], by simp [hcsl], hT, hOS, by rw [take_one hlt, wcells_push (by rw [hcsl]; simp; omega), HP1.out]; exact hO6, by rw [take_one hlt, List.map_append, ← List.append_assoc, ← List.append_assoc, List.map_singleton, HPL.out]; exact hBs, hF⟩
                    clear hT hO6 hBs hF hHeld hOS
                    go_wp2
                    go_roundg (D.cache.length - (k + 1))
                    case measure => omega
                    case rel => exact ⟨k + 1, by omega, rfl, by go_num, HR.out⟩
                  ·
                    go_simp
                    have hbA : Below w8.heap.size w8 (w8.alloc (.cells #[.int .i64 p1, .slice a8 p0 c8] 52)) := (Below.refl _ _).alloc (Nat.le_refl _) _
                    have hcl : ∀ j u, [Value.int .i64 p1, .slice a8 p0 c8][j]? = some u → (w8.alloc (.cells #[.int .i64 p1, .slice a8 p0 c8] 52)).cell? ((⟨w8.heap.size, 0, none⟩ : Addr).add j) = some u := by
                      have ea : ∀ j, (⟨w8.heap.size, 0, none⟩ : Addr).add j = ⟨w8.heap.size, 0 + j, none⟩ := fun j => by unfold Addr.add; split <;> simp_all
                      intro j u hj
                      match j, hj with
                      | 0, hj => cases hj; rw [ea]; simp
                      | 1, hj => cases hj; rw [ea]; simp [go_sem]
                    obtain ⟨g9, hg9⟩ := hidEx w8.heap.size
                    rw [hg9.out] at hcl ⊢
                    replace hO := own_upK hO (Up.ofBelow hbA)
                    replace hOS := own_upK hOS (Up.ofBelow hbA)
                    replace hT := hT.on hbA
                    replace hBs := hBs.up (Up.ofBelow hbA)
                    replace hF := own_upK hF (Up.ofBelow hbA)
                    clear hbA
                    refine hK.out _ _ ⟨hT.a.cell 1, (HC.out _ hT.below).1, (HC.out _ hT.below).2⟩ (fun hHeld => ?_)
                    clear hK KK
                    try simp only [Act.put, List.setIfInBounds_toArray, List.set_cons_zero, List.set_cons_succ]
                    obtain ⟨q2, hq2⟩ := hidEx (w8.alloc (.cells #[.int .i64 p1, .slice a8 p0 c8] 52))
                    rw [hq2.out] at hT hBs hF hcl hO hOS hHeld ⊢
                    refine wpAnyH_ready (rs := [1]) (by kernel_rfl) (by simp) ?_
                    refine AllReadyH.cons rfl (fun KK hK => ?_) AllReadyH.nil
                    obtain ⟨⟨d0, d1, d2, d3, d4⟩, ⟨e0, e1, e2, e3, e4⟩, -⟩ := hT.cells
                    go_simp
                    clear d0 d1 d2 d3 d4 e0 e1 e2 e3 e4
                    refine hK.out _ _ ⟨hT.a.cell 1, (HC.out _ hT.below).1, (HC.out _ hT.below).2⟩ (fun hHeld => ?_)
                    clear hK KK
                    try simp only [Act.put, List.setIfInBounds_toArray, List.set_cons_zero, List.set_cons_succ]
                    refine wpAnyH_ready (rs := [18]) (by kernel_rfl) (by simp) ?_
                    refine AllReadyH.cons rfl (fun KK hK => ?_) AllReadyH.nil
                    rw [if_pos (by kernel_rfl)]
                    refine wp_append_own _ (.tmp 42) (.tmp 58) 28 rfl w.heap.size 52 i0 (.agg #[.int .i64 0, .slice none 0 0]) 2 32 Try.underlying28 hi hz0 hz1 hz2 rfl (by decide) _ _ _ rfl hO ⟨g9, 0, none⟩ 1 1 [.int .i64 p1, .slice a8 p0 c8] rfl rfl hcl (by intro u hu; simp at hu; rcases hu with rfl | rfl <;> rfl) (by unfold maxLen; omega) (by omega) hT.below.size ?_
                    intro v6 w6 hO6 hgr6 hnil6
                    have hK6 := keep_grown hO hgr6
                    replace hT := hT.grow hgr6 (own_geK hO) hK6 (by decide)
                    replace hOS := own_keepT hOS hK6 (by decide)
                    replace hBs := hBs.keepT hK6 hgr6.size (by decide)
                    replace hF := own_keepT hF hK6 (by decide)
                    obtain ⟨b6, c6, rfl⟩ := own_succK hO6
                    clear hO hgr6 hnil6 hcl hK6
                    refine hK.out _ _ ⟨hT.a.cell 1, (HC.out _ hT.below).1, (HC.out _ hT.below).2⟩ (fun hHeld => ?_)
                    clear hK KK
                    change wpAnyH _ _ _ _ _ _ _ (Act.put _ (some 59) _) _
                    try simp only [Act.put, List.setIfInBounds_toArray, List.set_cons_zero, List.set_cons_succ]
                    refine' wpAnyH_take (i := 19) (v := _) rfl (by kernel_rfl) (by kernel_rfl) (by kernel_rfl) (fun _ _ _ h => h) (Or.inl ⟨by kernel_rfl, ?hlc20⟩) (by assumption) ?rlc20
                    case hlc20 => intro W hW; obtain ⟨d0, d1, d2⟩ := hW; go_simp; all_goals with_reducible rfl
                    change wpAnyH _ _ _ _ _ _ _ (Act.put _ (some 60) _) _
                    simp only [Act.put, List.setIfInBounds_toArray, List.set_cons_zero, List.set_cons_succ]
                    refine wpAnyH_ready (rs := [20]) (by kernel_rfl) (by simp) ?_
                    refine AllReadyH.cons rfl (fun KK hK => ?_) AllReadyH.nil
                    obtain ⟨⟨d0, d1, d2, d3, d4⟩, ⟨e0, e1, e2, e3, e4⟩, q⟩ := hT.cells
                    have q0 := q 1
                    go_simp
                    clear d0 d1 d2 d3 d4 e0 e1 e2 e3 e4 q q0
                    have hkS := keep_vn (P := fun t => t = 31) (i := 1) (u := .slice (some ⟨b6, 0, none⟩) (k + 1) c6) hT.o rfl
                    replace hO6 := own_keepT hO6 hkS (by decide)
                    replace hOS := own_keepT hOS hkS (by decide)
                    replace hBs := hBs.keepT hkS (by simp) (by decide)
                    replace hF := own_keepT hF hkS (by decide)
                    replace hT := hT.set 1 (.slice (some ⟨b6, 0, none⟩) (k + 1) c6)
                    simp only [List.set] at hT
                    clear hkS
                    refine hK.out _ _ ⟨hT.a.cell 1, (HC.out _ hT.below).1, (HC.out _ hT.below).2⟩ (fun hHeld => ?_)
                    clear hK KK
                    try simp only [Act.put, List.setIfInBounds_toArray, List.set_cons_zero, List.set_cons_succ]
                    refine wpAnyH_done (by kernel_rfl) ?_ _
                    have HR : Hid (E2 w D sa sc _ cc fa fc ga gc X vS ss (k + 1) _) := ⟨_, cs ++ [.slice a8 p0 c8], by simp [hcsl], hT, hOS, by rw [take_one hlt, wcells_push (by rw [hcsl]; simp; omega), HP1.out]; exact hO6, by rw [take_one hlt, List.map_append, ← List.append_assoc, ← List.append_assoc, List.map_singleton, HPL.out]; exact hBs, hF⟩
                    clear hT hO6 hBs hF hHeld hOS
                    go_wp2
                    go_roundg (D.cache.length - (k + 1))
                    case measure => omega
                    case rel => exact ⟨k + 1, by omega, rfl, by go_num, HR.out⟩
          · obtain rfl : k = D.cache.length := by omega
            have hkz : ¬ (D.cache.length : Int) < (D.cache.length : Int) := by omega
            rw [List.take_length] at hBs hO
            obtain ⟨ta, tc, rfl, t1, t2, RS⟩ := own_rl hOS
            obtain ⟨da, dc, rfl, d1, d2, RC⟩ := own_rl hO
            obtain ⟨-, ⟨k0, k1, k2, k3, k4⟩, -⟩ := hT.cells
            obtain ⟨⟨l0, l1, l2, l3, l4⟩, qr⟩ := hT.rcells
            have r0 := qr 0
            have r1 := qr 1
            have r2 := qr 2
            have r3 := qr 3
            have r4 := qr 4
            have hssl : ss.length = D.secs.length := by have := hOS.1; omega
            have T9 := ((((hT.ret 0 (.slice ta D.secs.length tc)).ret 1 (.slice da D.cache.length dc)).ret 2 (.int .i64 D.ops)).ret 3 (.slice ga D.faults.length gc)).ret 4 (.bool D.down)
            simp only [List.set] at T9
            obtain ⟨⟨m0, m1, m2, m3, m4⟩, -⟩ := T9.rcells
            have KB : KeepT (fun t => t = 31) wr (((((wr.setCell ⟨w.heap.size + 1, 0, none⟩ (.slice ta D.secs.length tc)).setCell ⟨w.heap.size + 1, 1, none⟩ (.slice da D.cache.length dc)).setCell ⟨w.heap.size + 1, 2, none⟩ (.int .i64 D.ops)).setCell ⟨w.heap.size + 1, 3, none⟩ (.slice ga D.faults.length gc)).setCell ⟨w.heap.size + 1, 4, none⟩ (.bool D.down)) := (KeepT.trans (KeepT.trans (KeepT.trans (KeepT.trans (keep_vn (P := fun t => t = 31) (i := 0) (u := .slice ta D.secs.length tc) hT.r rfl) (keep_vn (P := fun t => t = 31) (i := 1) (u := .slice da D.cache.length dc) (hT.ret 0 (.slice ta D.secs.length tc)).r rfl)) (keep_vn (P := fun t => t = 31) (i := 2) (u := .int .i64 D.ops) ((hT.ret 0 (.slice ta D.secs.length tc)).ret 1 (.slice da D.cache.length dc)).r rfl)) (keep_vn (P := fun t => t = 31) (i := 3) (u := .slice ga D.faults.length gc) (((hT.ret 0 (.slice ta D.secs.length tc)).ret 1 (.slice da D.cache.length dc)).ret 2 (.int .i64 D.ops)).r rfl)) (keep_vn (P := fun t => t = 31) (i := 4) (u := .bool D.down) ((((hT.ret 0 (.slice ta D.secs.length tc)).ret 1 (.slice da D.cache.length dc)).ret 2 (.int .i64 D.ops)).ret 3 (.slice ga D.faults.length gc)).r rfl))
            have hsz9 : wr.heap.size ≤ (((((wr.setCell ⟨w.heap.size + 1, 0, none⟩ (.slice ta D.secs.length tc)).setCell ⟨w.heap.size + 1, 1, none⟩ (.slice da D.cache.length dc)).setCell ⟨w.heap.size + 1, 2, none⟩ (.int .i64 D.ops)).setCell ⟨w.heap.size + 1, 3, none⟩ (.slice ga D.faults.length gc)).setCell ⟨w.heap.size + 1, 4, none⟩ (.bool D.down)).heap.size := by simp
            have HR : Hid (KOC (((((wr.setCell ⟨w.heap.size + 1, 0, none⟩ (.slice ta D.secs.length tc)).setCell ⟨w.heap.size + 1, 1, none⟩ (.slice da D.cache.length dc)).setCell ⟨w.heap.size + 1, 2, none⟩ (.int .i64 D.ops)).setCell ⟨w.heap.size + 1, 3, none⟩ (.slice ga D.faults.length gc)).setCell ⟨w.heap.size + 1, 4, none⟩ (.bool D.down)) w.heap.size (dval D ta tc da dc ga gc) D ∧ Below w.heap.size w (((((wr.setCell ⟨w.heap.size + 1, 0, none⟩ (.slice ta D.secs.length tc)).setCell ⟨w.heap.size + 1, 1, none⟩ (.slice da D.cache.length dc)).setCell ⟨w.heap.size + 1, 2, none⟩ (.int .i64 D.ops)).setCell ⟨w.heap.size + 1, 3, none⟩ (.slice ga D.faults.length gc)).setCell ⟨w.heap.size + 1, 4, none⟩ (.bool D.down))) :=
              ⟨⟨_, _, _, _, _, _, ss, cs, rfl, ⟨t1, t2, d1, d2, hgl, hgn, hssl, hcsl, RS.keepT KB (by decide), RC.keepT KB (by decide), own_rlF (own_keepT hF KB (by decide)), hBs.keepT KB hsz9 (by decide)⟩, own_keepT hO KB (by decide), own_keepT hF KB (by decide)⟩, T9.below⟩
            clear T9 hT hOS hO hBs hF RS RC KB HH qr
            go_wp2
            refine bodyPost_ret (v := dval D ta tc da dc ga gc) (by simp [results, Try.results20, go_sem, m0, m1, m2, m3, m4, dval]) rfl ⟨_, rfl, HR.out.1, HR.out.2⟩
  clear hK1
  as_aux_lemma =>
    refine wp_region_held_drew (S := fun W => W.cell? ⟨w.heap.size, 0, none⟩ = some (.slice sa D.secs.length sc) ∧ W.cell? ⟨w.heap.size, 1, none⟩ = some (.slice ca D.cache.length cc) ∧ W.cell? ⟨w.heap.size, 2, none⟩ = some (.int .i64 D.ops) ∧ W.cell? ⟨w.heap.size, 3, none⟩ = some (.slice fa D.faults.length fc) ∧ W.cell? ⟨w.heap.size, 4, none⟩ = some (.bool D.down)) (by kernel_rfl) ⟨hA.cell 0, hA.cell 1, hA.cell 2, hA.cell 3, hA.cell 4⟩ (fun hHeld => ?_)
    have hbd : Below _ _ ((w.alloc (.cells #[.slice sa D.secs.length sc, .slice ca D.cache.length cc, .int .i64 D.ops, .slice fa D.faults.length fc, .bool D.down] 31)).alloc (.cells #[.slice none 0 0, .slice none 0 0, .int .i64 0, .slice none 0 0, .bool false] 31)).drew := (Below.refl ((w.alloc (.cells #[.slice sa D.secs.length sc, .slice ca D.cache.length cc, .int .i64 D.ops, .slice fa D.faults.length fc, .bool D.down] 31)).alloc (.cells #[.slice none 0 0, .slice none 0 0, .int .i64 0, .slice none 0 0, .bool false] 31)).heap.size ((w.alloc (.cells #[.slice sa D.secs.length sc, .slice ca D.cache.length cc, .int .i64 D.ops, .slice fa D.faults.length fc, .bool D.down] 31)).alloc (.cells #[.slice none 0 0, .slice none 0 0, .int .i64 0, .slice none 0 0, .bool false] 31))).drew
    replace hA := hA.below hbd
    replace hR := hR.below hbd
    replace hbel := hbel.drew
    clear hbd
    obtain ⟨wd, hwd⟩ := hidEx ((w.alloc (.cells #[.slice sa D.secs.length sc, .slice ca D.cache.length cc, .int .i64 D.ops, .slice fa D.faults.length fc, .bool D.down] 31)).alloc (.cells #[.slice none 0 0, .slice none 0 0, .int .i64 0, .slice none 0 0, .bool false] 31)).drew
    rw [hwd.out] at hA hR hbel hHeld ⊢
    refine' wpAnyH_take (i := 0) (v := _) rfl (by kernel_rfl) (by kernel_rfl) (by kernel_rfl) (fun _ _ _ h => h) (Or.inl ⟨by kernel_rfl, ?hla1⟩) (by assumption) ?rla1
    case hla1 => intro W hW; obtain ⟨c0, c1, c2, c3, c4⟩ := hW; go_simp; all_goals with_reducible rfl
    change wpAnyH _ _ _ _ _ _ _ (Act.put _ (some 6) _) _
    simp only [Act.put, List.setIfInBounds_toArray, List.set_cons_zero, List.set_cons_succ]
    refine' wpAnyH_take (i := 1) (v := _) rfl (by kernel_rfl) (by kernel_rfl) (by kernel_rfl) (fun _ _ _ h => h) (Or.inl ⟨by kernel_rfl, ?hla2⟩) (by assumption) ?rla2
    case hla2 => intro W hW; obtain ⟨c0, c1, c2, c3, c4⟩ := hW; go_simp; all_goals with_reducible rfl
    change wpAnyH _ _ _ _ _ _ _ (Act.put _ (some 7) _) _
    simp only [Act.put, List.setIfInBounds_toArray, List.set_cons_zero, List.set_cons_succ]
    refine' wpAnyH_take (i := 3) (v := _) rfl (by kernel_rfl) (by kernel_rfl) (by kernel_rfl) (fun _ _ _ h => h) (Or.inl ⟨by kernel_rfl, ?hla3⟩) (by assumption) ?rla3
    case hla3 => intro W hW; obtain ⟨c0, c1, c2, c3, c4⟩ := hW; go_simp; all_goals with_reducible rfl
    change wpAnyH _ _ _ _ _ _ _ (Act.put _ (some 9) _) _
    simp only [Act.put, List.setIfInBounds_toArray, List.set_cons_zero, List.set_cons_succ]
    refine' wpAnyH_take (i := 4) (v := _) rfl (by kernel_rfl) (by kernel_rfl) (by kernel_rfl) (fun _ _ _ h => h) (Or.inl ⟨by kernel_rfl, ?hla4⟩) (by assumption) ?rla4
    case hla4 => intro W hW; obtain ⟨c0, c1, c2, c3, c4⟩ := hW; go_simp; all_goals with_reducible rfl
    change wpAnyH _ _ _ _ _ _ _ (Act.put _ (some 10) _) _
    simp only [Act.put, List.setIfInBounds_toArray, List.set_cons_zero, List.set_cons_succ]
    refine' wpAnyH_take (i := 6) (v := _) rfl (by kernel_rfl) (by kernel_rfl) (by kernel_rfl) (fun _ _ _ h => h) (Or.inl ⟨by kernel_rfl, ?hla5⟩) (by assumption) ?rla5
    case hla5 => intro W hW; obtain ⟨c0, c1, c2, c3, c4⟩ := hW; go_simp; all_goals with_reducible rfl
    change wpAnyH _ _ _ _ _ _ _ (Act.put _ (some 12) _) _
    simp only [Act.put, List.setIfInBounds_toArray, List.set_cons_zero, List.set_cons_succ]
    refine' wpAnyH_take (i := 7) (v := _) rfl (by kernel_rfl) (by kernel_rfl) (by kernel_rfl) (fun _ _ _ h => h) (Or.inl ⟨by kernel_rfl, ?hla6⟩) (by assumption) ?rla6
    case hla6 => intro W hW; obtain ⟨c0, c1, c2, c3, c4⟩ := hW; go_simp; all_goals with_reducible rfl
    change wpAnyH _ _ _ _ _ _ _ (Act.put _ (some 13) _) _
    simp only [Act.put, List.setIfInBounds_toArray, List.set_cons_zero, List.set_cons_succ]
    refine wpAnyH_ready (rs := [2, 9]) (by kernel_rfl) (by simp) ?_
    refine AllReadyH.cons rfl (fun KK hK => ?_) (AllReadyH.cons rfl (fun KK hK => ?_) AllReadyH.nil)
    ·
      go_simp
      have hbA : Below wd.heap.size wd (wd.alloc (.cells #[] 63)) := (Below.refl _ _).alloc (Nat.le_refl _) _
      have hO := own_monoK (own_emptyK wd 63 3) hbel.size
      obtain ⟨f0, hf0⟩ := hidEx wd.heap.size
      rw [hf0.out] at hO ⊢
      replace hA := hA.below hbA
      replace hR := hR.below hbA
      replace hbel := hbel.trans (hbA.mono hbel.size)
      clear hbA
      refine hK.out _ _ ⟨hA.cell 0, hA.cell 1, hA.cell 2, hA.cell 3, hA.cell 4⟩ (fun hHeld => ?_)
      clear hK KK
      try simp only [Act.put, List.setIfInBounds_toArray, List.set_cons_zero, List.set_cons_succ]
      obtain ⟨q1, hq1⟩ := hidEx (wd.alloc (.cells #[] 63))
      rw [hq1.out] at hA hR hbel hO hHeld ⊢
      refine wpAnyH_ready (rs := [5, 9]) (by kernel_rfl) (by simp) ?_
      refine AllReadyH.cons rfl (fun KK hK => ?_) (AllReadyH.cons rfl (fun KK hK => ?_) AllReadyH.nil)
      ·
        rw [if_pos (by kernel_rfl)]
        refine wp_append_opt (.tmp 8) (.tmp 10) 29 rfl w.heap.size 63 i0 (.agg #[.int .i64 0, .int .i64 0, .int .i64 0]) 3 24 Try.underlying29 hi hz0 hz1 hz2 rfl (by decide) _ _ _ rfl hO fa D.faults.length fc (fcells D.faults) rfl (fun e => by have h1 := HFV.out.nil e; have h2 := HFV.out.le; omega) (fcells_len _) (fview_news (fview_below HFV.out hbel)) (fcells_one _) (by unfold maxLen; omega) (by omega) hbel.size ?_
        intro v5 w5 hO5 hgr5
        have hk5 := keep_grown hO hgr5
        replace hA := hA.block (hk5 _ _ _ _ hA (by decide))
        replace hR := hR.block (hk5 _ _ _ _ hR (by decide))
        replace hbel := hbel.grown hgr5 hbel.size (own_geK hO)
        rw [Nat.zero_add, List.nil_append] at hO5
        obtain ⟨ga, gc, rfl, hg1, hg2, -⟩ := own_rl hO5
        have hF5 := hO5
        clear hO hO5 hgr5 hk5
        refine hK.out _ _ ⟨hA.cell 0, hA.cell 1, hA.cell 2, hA.cell 3, hA.cell 4⟩ (fun hHeld => ?_)
        clear hK KK
        change wpAnyH _ _ _ _ _ _ _ (Act.put _ (some 11) _) _
        try simp only [Act.put, List.setIfInBounds_toArray, List.set_cons_zero, List.set_cons_succ]
        refine' wpAnyH_take (i := 8) (v := _) rfl (by kernel_rfl) (by kernel_rfl) (by kernel_rfl) (fun _ _ _ h => h) (Or.inl ⟨by kernel_rfl, ?hla7⟩) (by assumption) ?rla7
        case hla7 => intro W hW; obtain ⟨c0, c1, c2, c3, c4⟩ := hW; go_simp; all_goals with_reducible rfl
        change wpAnyH _ _ _ _ _ _ _ (Act.put _ (some 14) _) _
        simp only [Act.put, List.setIfInBounds_toArray, List.set_cons_zero, List.set_cons_succ]
        refine wpAnyH_ready (rs := [9]) (by kernel_rfl) (by simp) ?_
        refine AllReadyH.cons rfl (fun KK hK => ?_) AllReadyH.nil
        go_simp
        have hbA : Below w5.heap.size w5 (w5.alloc (.cells #[.slice none 0 0, .slice none 0 0, .int .i64 0, .slice none 0 0, .bool false] 31)) := (Below.refl _ _).alloc (Nat.le_refl _) _
        have hX := VN.new w5 31 [.slice none 0 0, .slice none 0 0, .int .i64 0, .slice none 0 0, .bool false]
        have hXge : w.heap.size + 1 < w5.heap.size := hR.lt
        obtain ⟨X, hXe⟩ := hidEx w5.heap.size
        rw [hXe.out] at hX hXge ⊢
        replace hA := hA.below hbA
        replace hR := hR.below hbA
        replace hbel := hbel.trans (hbA.mono hbel.size)
        replace hF5 := own_upK hF5 (Up.ofBelow hbA)
        clear hbA
        refine hK.out _ _ ⟨hA.cell 0, hA.cell 1, hA.cell 2, hA.cell 3, hA.cell 4⟩ (fun hHeld => ?_)
        clear hK KK
        try simp only [Act.put, List.setIfInBounds_toArray, List.set_cons_zero, List.set_cons_succ]
        replace hX : VN (w5.alloc (.cells #[.slice none 0 0, .slice none 0 0, .int .i64 0, .slice none 0 0, .bool false] 31)) X 31 [.slice none 0 0, .slice none 0 0, .int .i64 0, .slice none 0 0, .bool false] := hX
        obtain ⟨q2, hq2⟩ := hidEx (w5.alloc (.cells #[.slice none 0 0, .slice none 0 0, .int .i64 0, .slice none 0 0, .bool false] 31))
        rw [hq2.out] at hA hR hX hbel hF5 hHeld ⊢
        refine wpAnyH_ready (rs := [10]) (by kernel_rfl) (by simp) ?_
        refine AllReadyH.cons rfl (fun KK hK => ?_) AllReadyH.nil
        have hT : TS w q2 X [.slice sa D.secs.length sc, .slice ca D.cache.length cc, .int .i64 D.ops, .slice fa D.faults.length fc, .bool D.down] [.slice none 0 0, .slice none 0 0, .int .i64 0, .slice none 0 0, .bool false] [.slice none 0 0, .slice none 0 0, .int .i64 0, .slice none 0 0, .bool false] := ⟨hbel, hA, hR, hX, hXge⟩
        obtain ⟨-, ⟨e0, e1, e2, e3, e4⟩, q⟩ := hT.cells
        have z0 := q 0
        have z1 := q 1
        have z2 := q 2
        have z3 := q 3
        have z4 := q 4
        go_simp
        clear e0 e1 e2 e3 e4 q z0 z1 z2 z3 z4 hbel hA hR hX
        have hF7 := own_keepT hF5 (KeepT.trans (KeepT.trans (KeepT.trans (KeepT.trans (keep_vn (P := fun t => t = 31) (i := 0) (u := .slice none 0 0) hT.o rfl) (keep_vn (P := fun t => t = 31) (i := 1) (u := .slice none 0 0) (hT.set 0 (.slice none 0 0)).o rfl)) (keep_vn (P := fun t => t = 31) (i := 2) (u := .int .i64 D.ops) ((hT.set 0 (.slice none 0 0)).set 1 (.slice none 0 0)).o rfl)) (keep_vn (P := fun t => t = 31) (i := 3) (u := .slice ga D.faults.length gc) (((hT.set 0 (.slice none 0 0)).set 1 (.slice none 0 0)).set 2 (.int .i64 D.ops)).o rfl)) (keep_vn (P := fun t => t = 31) (i := 4) (u := .bool D.down) ((((hT.set 0 (.slice none 0 0)).set 1 (.slice none 0 0)).set 2 (.int .i64 D.ops)).set 3 (.slice ga D.faults.length gc)).o rfl)) (by decide)
        have hT7 := (((((hT.set 0 (.slice none 0 0)).set 1 (.slice none 0 0)).set 2 (.int .i64 D.ops)).set 3 (.slice ga D.faults.length gc)).set 4 (.bool D.down))
        simp only [List.set] at hT7
        clear hT hF5
        refine hK.out _ _ ⟨hT7.a.cell 0, hT7.a.cell 1, hT7.a.cell 2, hT7.a.cell 3, hT7.a.cell 4⟩ (fun hHeld => ?_)
        clear hK KK
        try simp only [Act.put, List.setIfInBounds_toArray, List.set_cons_zero, List.set_cons_succ]
        refine wpAnyH_done (by kernel_rfl) ?_ _
        exact HREST _ _ _ _ _ _ _ _ _ _ _ _ _ ⟨_, [], hT7, own_nilK _ _ _ _, by rw [List.take_zero]; exact Bs.nil _ _, hF7⟩ hg1 hg2
      ·
        go_simp
        have hbA : Below q1.heap.size q1 (q1.alloc (.cells #[.slice none 0 0, .slice none 0 0, .int .i64 0, .slice none 0 0, .bool false] 31)) := (Below.refl _ _).alloc (Nat.le_refl _) _
        have hX := VN.new q1 31 [.slice none 0 0, .slice none 0 0, .int .i64 0, .slice none 0 0, .bool false]
        have hXge : w.heap.size + 1 < q1.heap.size := hR.lt
        obtain ⟨X, hXe⟩ := hidEx q1.heap.size
        rw [hXe.out] at hX hXge ⊢
        replace hA := hA.below hbA
        replace hR := hR.below hbA
        replace hbel := hbel.trans (hbA.mono hbel.size)
        replace hO := own_upK hO (Up.ofBelow hbA)
        clear hbA
        refine hK.out _ _ ⟨hA.cell 0, hA.cell 1, hA.cell 2, hA.cell 3, hA.cell 4⟩ (fun hHeld => ?_)
        clear hK KK
        try simp only [Act.put, List.setIfInBounds_toArray, List.set_cons_zero, List.set_cons_succ]
        replace hX : VN (q1.alloc (.cells #[.slice none 0 0, .slice none 0 0, .int .i64 0, .slice none 0 0, .bool false] 31)) X 31 [.slice none 0 0, .slice none 0 0, .int .i64 0, .slice none 0 0, .bool false] := hX
        obtain ⟨q2, hq2⟩ := hidEx (q1.alloc (.cells #[.slice none 0 0, .slice none 0 0, .int .i64 0, .slice none 0 0, .bool false] 31))
        rw [hq2.out] at hA hR hX hbel hO hHeld ⊢
        refine wpAnyH_ready (rs := [5]) (by kernel_rfl) (by simp) ?_
        refine AllReadyH.cons rfl (fun KK hK => ?_) AllReadyH.nil
        rw [if_pos (by kernel_rfl)]
        refine wp_append_opt (.tmp 8) (.tmp 10) 29 rfl w.heap.size 63 i0 (.agg #[.int .i64 0, .int .i64 0, .int .i64 0]) 3 24 Try.underlying29 hi hz0 hz1 hz2 rfl (by decide) _ _ _ rfl hO fa D.faults.length fc (fcells D.faults) rfl (fun e => by have h1 := HFV.out.nil e; have h2 := HFV.out.le; omega) (fcells_len _) (fview_news (fview_below HFV.out hbel)) (fcells_one _) (by unfold maxLen; omega) (by omega) hbel.size ?_
        intro v5 w5 hO5 hgr5
        have hk5 := keep_grown hO hgr5
        replace hA := hA.block (hk5 _ _ _ _ hA (by decide))
        replace hR := hR.block (hk5 _ _ _ _ hR (by decide))
        replace hX := hX.block (hk5 _ _ _ _ hX (by decide))
        replace hbel := hbel.grown hgr5 hbel.size (own_geK hO)
        rw [Nat.zero_add, List.nil_append] at hO5
        obtain ⟨ga, gc, rfl, hg1, hg2, -⟩ := own_rl hO5
        have hF5 := hO5
        clear hO hO5 hgr5 hk5
        refine hK.out _ _ ⟨hA.cell 0, hA.cell 1, hA.cell 2, hA.cell 3, hA.cell 4⟩ (fun hHeld => ?_)
        clear hK KK
        change wpAnyH _ _ _ _ _ _ _ (Act.put _ (some 11) _) _
        try simp only [Act.put, List.setIfInBounds_toArray, List.set_cons_zero, List.set_cons_succ]
        refine' wpAnyH_take (i := 8) (v := _) rfl (by kernel_rfl) (by kernel_rfl) (by kernel_rfl) (fun _ _ _ h => h) (Or.inl ⟨by kernel_rfl, ?hla8⟩) (by assumption) ?rla8
        case hla8 => intro W hW; obtain ⟨c0, c1, c2, c3, c4⟩ := hW; go_simp; all_goals with_reducible rfl
        change wpAnyH _ _ _ _ _ _ _ (Act.put _ (some 14) _) _
        simp only [Act.put, List.setIfInBounds_toArray, List.set_cons_zero, List.set_cons_succ]
        refine wpAnyH_ready (rs := [10]) (by kernel_rfl) (by simp) ?_
        refine AllReadyH.cons rfl (fun KK hK => ?_) AllReadyH.nil
        have hT : TS w w5 X [.slice sa D.secs.length sc, .slice ca D.cache.length cc, .int .i64 D.ops, .slice fa D.faults.length fc, .bool D.down] [.slice none 0 0, .slice none 0 0, .int .i64 0, .slice none 0 0, .bool false] [.slice none 0 0, .slice none 0 0, .int .i64 0, .slice none 0 0, .bool false] := ⟨hbel, hA, hR, hX, hXge⟩
        obtain ⟨-, ⟨e0, e1, e2, e3, e4⟩, q⟩ := hT.cells
        have z0 := q 0
        have z1 := q 1
        have z2 := q 2
        have z3 := q 3
        have z4 := q 4
        go_simp
        clear e0 e1 e2 e3 e4 q z0 z1 z2 z3 z4 hbel hA hR hX
        have hF7 := own_keepT hF5 (KeepT.trans (KeepT.trans (KeepT.trans (KeepT.trans (keep_vn (P := fun t => t = 31) (i := 0) (u := .slice none 0 0) hT.o rfl) (keep_vn (P := fun t => t = 31) (i := 1) (u := .slice none 0 0) (hT.set 0 (.slice none 0 0)).o rfl)) (keep_vn (P := fun t => t = 31) (i := 2) (u := .int .i64 D.ops) ((hT.set 0 (.slice none 0 0)).set 1 (.slice none 0 0)).o rfl)) (keep_vn (P := fun t => t = 31) (i := 3) (u := .slice ga D.faults.length gc) (((hT.set 0 (.slice none 0 0)).set 1 (.slice none 0 0)).set 2 (.int .i64 D.ops)).o rfl)) (keep_vn (P := fun t => t = 31) (i := 4) (u := .bool D.down) ((((hT.set 0 (.slice none 0 0)).set 1 (.slice none 0 0)).set 2 (.int .i64 D.ops)).set 3 (.slice ga D.faults.length gc)).o rfl)) (by decide)
        have hT7 := (((((hT.set 0 (.slice none 0 0)).set 1 (.slice none 0 0)).set 2 (.int .i64 D.ops)).set 3 (.slice ga D.faults.length gc)).set 4 (.bool D.down))
        simp only [List.set] at hT7
        clear hT hF5
        refine hK.out _ _ ⟨hT7.a.cell 0, hT7.a.cell 1, hT7.a.cell 2, hT7.a.cell 3, hT7.a.cell 4⟩ (fun hHeld => ?_)
        clear hK KK
        try simp only [Act.put, List.setIfInBounds_toArray, List.set_cons_zero, List.set_cons_succ]
        refine wpAnyH_done (by kernel_rfl) ?_ _
        exact HREST _ _ _ _ _ _ _ _ _ _ _ _ _ ⟨_, [], hT7, own_nilK _ _ _ _, by rw [List.take_zero]; exact Bs.nil _ _, hF7⟩ hg1 hg2
    ·
      go_simp
      have hbA : Below wd.heap.size wd (wd.alloc (.cells #[.slice none 0 0, .slice none 0 0, .int .i64 0, .slice none 0 0, .bool false] 31)) := (Below.refl _ _).alloc (Nat.le_refl _) _
      have hX := VN.new wd 31 [.slice none 0 0, .slice none 0 0, .int .i64 0, .slice none 0 0, .bool false]
      have hXge : w.heap.size + 1 < wd.heap.size := hR.lt
      obtain ⟨X, hXe⟩ := hidEx wd.heap.size
      rw [hXe.out] at hX hXge ⊢
      replace hA := hA.below hbA
      replace hR := hR.below hbA
      replace hbel := hbel.trans (hbA.mono hbel.size)
      clear hbA
      refine hK.out _ _ ⟨hA.cell 0, hA.cell 1, hA.cell 2, hA.cell 3, hA.cell 4⟩ (fun hHeld => ?_)
      clear hK KK
      try simp only [Act.put, List.setIfInBounds_toArray, List.set_cons_zero, List.set_cons_succ]
      replace hX : VN (wd.alloc (.cells #[.slice none 0 0, .slice none 0 0, .int .i64 0, .slice none 0 0, .bool false] 31)) X 31 [.slice none 0 0, .slice none 0 0, .int .i64 0, .slice none 0 0, .bool false] := hX
      obtain ⟨q1, hq1⟩ := hidEx (wd.alloc (.cells #[.slice none 0 0, .slice none 0 0, .int .i64 0, .slice none 0 0, .bool false] 31))
      rw [hq1.out] at hA hR hX hbel hHeld ⊢
      refine wpAnyH_ready (rs := [2]) (by kernel_rfl) (by simp) ?_
      refine AllReadyH.cons rfl (fun KK hK => ?_) AllReadyH.nil
      go_simp
      have hbA : Below q1.heap.size q1 (q1.alloc (.cells #[] 63)) := (Below.refl _ _).alloc (Nat.le_refl _) _
      have hO := own_monoK (own_emptyK q1 63 3) hbel.size
      obtain ⟨f0, hf0⟩ := hidEx q1.heap.size
      rw [hf0.out] at hO ⊢
      replace hA := hA.below hbA
      replace hR := hR.below hbA
      replace hX := hX.below hbA
      replace hbel := hbel.trans (hbA.mono hbel.size)
      clear hbA
      refine hK.out _ _ ⟨hA.cell 0, hA.cell 1, hA.cell 2, hA.cell 3, hA.cell 4⟩ (fun hHeld => ?_)
      clear hK KK
      try simp only [Act.put, List.setIfInBounds_toArray, List.set_cons_zero, List.set_cons_succ]
      obtain ⟨q2, hq2⟩ := hidEx (q1.alloc (.cells #[] 63))
      rw [hq2.out] at hA hR hX hbel hO hHeld ⊢
      refine wpAnyH_ready (rs := [5]) (by kernel_rfl) (by simp) ?_
      refine AllReadyH.cons rfl (fun KK hK => ?_) AllReadyH.nil
      rw [if_pos (by kernel_rfl)]
      refine wp_append_opt (.tmp 8) (.tmp 10) 29 rfl w.heap.size 63 i0 (.agg #[.int .i64 0, .int .i64 0, .int .i64 0]) 3 24 Try.underlying29 hi hz0 hz1 hz2 rfl (by decide) _ _ _ rfl hO fa D.faults.length fc (fcells D.faults) rfl (fun e => by have h1 := HFV.out.nil e; have h2 := HFV.out.le; omega) (fcells_len _) (fview_news (fview_below HFV.out hbel)) (fcells_one _) (by unfold maxLen; omega) (by omega) hbel.size ?_
      intro v5 w5 hO5 hgr5
      have hk5 := keep_grown hO hgr5
      replace hA := hA.block (hk5 _ _ _ _ hA (by decide))
      replace hR := hR.block (hk5 _ _ _ _ hR (by decide))
      replace hX := hX.block (hk5 _ _ _ _ hX (by decide))
      replace hbel := hbel.grown hgr5 hbel.size (own_geK hO)
      rw [Nat.zero_add, List.nil_append] at hO5
      obtain ⟨ga, gc, rfl, hg1, hg2, -⟩ := own_rl hO5
      have hF5 := hO5
      clear hO hO5 hgr5 hk5
      refine hK.out _ _ ⟨hA.cell 0, hA.cell 1, hA.cell 2, hA.cell 3, hA.cell 4⟩ (fun hHeld => ?_)
      clear hK KK
      change wpAnyH _ _ _ _ _ _ _ (Act.put _ (some 11) _) _
      try simp only [Act.put, List.setIfInBounds_toArray, List.set_cons_zero, List.set_cons_succ]
      refine' wpAnyH_take (i := 8) (v := _) rfl (by kernel_rfl) (by kernel_rfl) (by kernel_rfl) (fun _ _ _ h => h) (Or.inl ⟨by kernel_rfl, ?hla9⟩) (by assumption) ?rla9
      case hla9 => intro W hW; obtain ⟨c0, c1, c2, c3, c4⟩ := hW; go_simp; all_goals with_reducible rfl
      change wpAnyH _ _ _ _ _ _ _ (Act.put _ (some 14) _) _
      simp only [Act.put, List.setIfInBounds_toArray, List.set_cons_zero, List.set_cons_succ]
      refine wpAnyH_ready (rs := [10]) (by kernel_rfl) (by simp) ?_
      refine AllReadyH.cons rfl (fun KK hK => ?_) AllReadyH.nil
      have hT : TS w w5 X [.slice sa D.secs.length sc, .slice ca D.cache.length cc, .int .i64 D.ops, .slice fa D.faults.length fc, .bool D.down] [.slice none 0 0, .slice none 0 0, .int .i64 0, .slice none 0 0, .bool false] [.slice none 0 0, .slice none 0 0, .int .i64 0, .slice none 0 0, .bool false] := ⟨hbel, hA, hR, hX, hXge⟩
      obtain ⟨-, ⟨e0, e1, e2, e3, e4⟩, q⟩ := hT.cells
      have z0 := q 0
      have z1 := q 1
      have z2 := q 2
      have z3 := q 3
      have z4 := q 4
      go_simp
      clear e0 e1 e2 e3 e4 q z0 z1 z2 z3 z4 hbel hA hR hX
      have hF7 := own_keepT hF5 (KeepT.trans (KeepT.trans (KeepT.trans (KeepT.trans (keep_vn (P := fun t => t = 31) (i := 0) (u := .slice none 0 0) hT.o rfl) (keep_vn (P := fun t => t = 31) (i := 1) (u := .slice none 0 0) (hT.set 0 (.slice none 0 0)).o rfl)) (keep_vn (P := fun t => t = 31) (i := 2) (u := .int .i64 D.ops) ((hT.set 0 (.slice none 0 0)).set 1 (.slice none 0 0)).o rfl)) (keep_vn (P := fun t => t = 31) (i := 3) (u := .slice ga D.faults.length gc) (((hT.set 0 (.slice none 0 0)).set 1 (.slice none 0 0)).set 2 (.int .i64 D.ops)).o rfl)) (keep_vn (P := fun t => t = 31) (i := 4) (u := .bool D.down) ((((hT.set 0 (.slice none 0 0)).set 1 (.slice none 0 0)).set 2 (.int .i64 D.ops)).set 3 (.slice ga D.faults.length gc)).o rfl)) (by decide)
      have hT7 := (((((hT.set 0 (.slice none 0 0)).set 1 (.slice none 0 0)).set 2 (.int .i64 D.ops)).set 3 (.slice ga D.faults.length gc)).set 4 (.bool D.down))
      simp only [List.set] at hT7
      clear hT hF5
      refine hK.out _ _ ⟨hT7.a.cell 0, hT7.a.cell 1, hT7.a.cell 2, hT7.a.cell 3, hT7.a.cell 4⟩ (fun hHeld => ?_)
      clear hK KK
      try simp only [Act.put, List.setIfInBounds_toArray, List.set_cons_zero, List.set_cons_succ]
      refine wpAnyH_done (by kernel_rfl) ?_ _
      exact HREST _ _ _ _ _ _ _ _ _ _ _ _ _ ⟨_, [], hT7, own_nilK _ _ _ _, by rw [List.take_zero]; exact Bs.nil _ _, hF7⟩ hg1 hg2
theorem l12Copy_any (v : Value) (D : PDisk) (w : World) (h : KView w v D) (hf : KFine D) :
    Calls Try.prog 20 #[v] w fun e w' => ∃ v', e = .returned v' ∧ KOwn w' w.heap.size v' D ∧ Below w.heap.size w w' :=
  (l12Copy_own v D w h hf).mono (fun _ _ ⟨v', e, h1, h2⟩ => ⟨v', e, h1.own, h2⟩)
end Go.Proofs.Ytagjgnephaaehaa
