/-
  The program's copyDisk.
-/
import Derived.Test.YtagjgnephaaehaaDiskGrow
import Derived.Test.YtagjgnephaaehaaOwnW
import Derived.Deep.LoopGhost
import Derived.Deep.RegionHeld3
namespace Go.Proofs.Ytagjgnephaaehaa
open Go.RowKit
set_option maxRecDepth 4000

/-- k sectors are copied. -/
def C1 (w : World) (D : PDisk) (sa : Option Addr) (sc : Nat) (ca : Option Addr) (cc : Nat) (fa : Option Addr) (fc : Nat) (ga : Option Addr) (gc : Nat) (k : Nat) (W : World) : Prop :=
  ∃ (v : Value) (ss : List Value), TC w W [.slice sa D.secs.length sc, .slice ca D.cache.length cc, .int .i64 D.ops, .slice fa D.faults.length fc, .bool D.down] [.slice none 0 0, .slice none 0 0, .int .i64 0, .slice none 0 0, .bool false] [v, .slice none 0 0, .int .i64 D.ops, .slice ga D.faults.length gc, .bool D.down] ∧ W.ownsRow (w.heap.size + 1 + 1 + 1) 49 1 v k ss ∧ Bs W (w.heap.size + 1 + 1 + 1) ss (D.secs.take k) ∧ RL 63 W (w.heap.size + 1 + 1 + 1) ga (fcells D.faults)
/-- .. and k writes. -/
def C2 (w : World) (D : PDisk) (sa : Option Addr) (sc : Nat) (ca : Option Addr) (cc : Nat) (fa : Option Addr) (fc : Nat) (ga : Option Addr) (gc : Nat) (vs : Value) (ss : List Value) (k : Nat) (W : World) : Prop :=
  ∃ (v : Value) (cs : List Value), cs.length = k ∧ TC w W [.slice sa D.secs.length sc, .slice ca D.cache.length cc, .int .i64 D.ops, .slice fa D.faults.length fc, .bool D.down] [.slice none 0 0, .slice none 0 0, .int .i64 0, .slice none 0 0, .bool false] [vs, v, .int .i64 D.ops, .slice ga D.faults.length gc, .bool D.down] ∧ W.ownsRow (w.heap.size + 1 + 1 + 1) 49 1 vs D.secs.length ss ∧ W.ownsRow (w.heap.size + 1 + 1 + 1) 52 2 v k (wcells (D.cache.take k) cs) ∧ Bs W (w.heap.size + 1 + 1 + 1) (ss ++ cs) (D.secs ++ (D.cache.take k).map (·.2)) ∧ RL 63 W (w.heap.size + 1 + 1 + 1) ga (fcells D.faults)

set_option maxHeartbeats 8000000 in
theorem copyDisk_own (v : Value) (D : PDisk) (w : World) (h : KView w v D) (hf : KFine D) :
    Calls Try.prog 24 #[v] w fun e w' => ∃ v', e = .returned v' ∧ KOW w' w.heap.size v' D ∧ Below w.heap.size w w' := by
  obtain ⟨sa, sc, ca, cc, fa, fc, rfl, hs, hc, hfv⟩ := h.is
  clear h
  have hns := hf.ns
  have hnc := hf.nc
  have T0 := tc_new w [.slice sa D.secs.length sc, .slice ca D.cache.length cc, .int .i64 D.ops, .slice fa D.faults.length fc, .bool D.down] [.slice none 0 0, .slice none 0 0, .int .i64 0, .slice none 0 0, .bool false] [.slice sa D.secs.length sc, .slice ca D.cache.length cc, .int .i64 D.ops, .slice fa D.faults.length fc, .bool D.down]
  obtain ⟨W0, hW0⟩ := hidEx (((w.alloc (.cells #[.slice sa D.secs.length sc, .slice ca D.cache.length cc, .int .i64 D.ops, .slice fa D.faults.length fc, .bool D.down] 31)).alloc (.cells #[.slice none 0 0, .slice none 0 0, .int .i64 0, .slice none 0 0, .bool false] 31)).alloc (.cells #[.slice sa D.secs.length sc, .slice ca D.cache.length cc, .int .i64 D.ops, .slice fa D.faults.length fc, .bool D.down] 31))
  rw [hW0.out] at T0
  have hz : W0.heap.size = w.heap.size + 1 + 1 + 1 := by rw [← hW0.out]; simp
  have hS := cloneFaults_any fa fc D.faults W0 (fview_below hfv T0.below) hf.nf
  obtain ⟨⟨x0, x1, x2, x3, x4⟩, ⟨y0, y1, y2, y3, y4⟩, q⟩ := T0.cells
  have HH : Hid (SView w sa sc D.secs ∧ WView w ca cc D.cache ∧ KFine D) := ⟨hs, hc, hf⟩
  clear hs hc hfv hf
  go_enter Try.func24, Try.ntmps24
  go_wp2_with (rw [hW0.out])
  refine hS.mono ?_
  rintro e W1 ⟨ga, gc, rfl, hgl, hgn, F1, hb1⟩
  rw [hz] at F1
  have T1 := T0.on hb1
  clear T0 hS hb1 x0 x1 x2 x3 x4 y0 y1 y2 y3 y4 q
  obtain ⟨⟨x0, x1, x2, x3, x4⟩, ⟨y0, y1, y2, y3, y4⟩, q⟩ := T1.cells
  have q0 := q 0
  have q1 := q 1
  have q3 := q 3
  have T2 := ((T1.set 0 (.slice none 0 0)).set 1 (.slice none 0 0)).set 3 (.slice ga D.faults.length gc)
  simp only [List.set] at T2
  have F2 := F1.up (((Up.set (C := w.heap.size + 1 + 1) (i := 0) (u := .slice none 0 0) (by omega)).trans (Up.set (C := w.heap.size + 1 + 1) (i := 1) (u := .slice none 0 0) (by omega))).trans (Up.set (C := w.heap.size + 1 + 1) (i := 3) (u := .slice ga D.faults.length gc) (by omega)))
  obtain ⟨W2, hW2⟩ := hidEx (((W1.setCell ⟨w.heap.size + 1 + 1, 0, none⟩ (.slice none 0 0)).setCell ⟨w.heap.size + 1 + 1, 1, none⟩ (.slice none 0 0)).setCell ⟨w.heap.size + 1 + 1, 3, none⟩ (.slice ga D.faults.length gc))
  rw [hW2.out] at T2 F2
  obtain ⟨⟨u0, u1, u2, u3, u4⟩, -, -⟩ := T2.cells
  have HC0 : Hid (C1 w D sa sc ca cc fa fc ga gc 0 W2) := ⟨_, [], T2, own_nilK _ _ _ _, by rw [List.take_zero]; exact Bs.nil _ _, F2⟩
  clear T1 T2 F1 F2 q
  go_wp2_with (rw [hW2.out])
  clear u0 u1 u2 u3 u4 x0 x1 x2 x3 x4 y0 y1 y2 y3 y4 q0 q1 q3
  go_loopg [18] D.secs.length (fun q i wr => ∃ k : Nat, k ≤ D.secs.length ∧ q = D.secs.length - k ∧ i = .int .i64 k ∧ C1 w D sa sc ca cc fa fc ga gc k wr)
  case atStart => exact ⟨0, Nat.zero_le _, rfl, rfl, HC0.out⟩
  case round =>
    clear HC0 hW2
    obtain ⟨k, hk, rfl, rfl, vS, ss, hT, hO, hBs, hF⟩ := hrel
    by_cases hlt : k < D.secs.length
    · obtain ⟨i0, hi, hz0, hz1, hz2⟩ := infoSec
      obtain ⟨b1, o1, a', c', rfl, hb1, z0, v0, vn⟩ := sview_at (sview_below HH.out.1 hT.below) hlt
      have hkz : (k : Int) < (D.secs.length : Int) := by omega
      have hV := fun W (hb : Below wr.heap.size wr W) => putSec_any a' c' D.secs[k] W (v0.below hb) vn (HH.out.2.2.sec _ (List.getElem_mem hlt))
      clear v0
      obtain ⟨p0, hp0⟩ := hidEx (D.secs[k]).length
      rw [hp0.out] at z0
      simp only [hp0.out] at hV
      go_wp2_with fail
      refine wp_region_held_drew (S := fun _ => True) (by kernel_rfl) trivial (fun hHeld => ?_)
      have hbd : Below wr.heap.size wr wr.drew := (Below.refl _ _).drew
      replace hT := hT.drew
      replace hO := own_upK hO (Up.ofBelow hbd)
      replace hBs := hBs.up (Up.ofBelow hbd)
      replace hF := hF.up (Up.ofBelow hbd)
      obtain ⟨wd, hwd⟩ := hidEx wr.drew
      rw [hwd.out] at hT hO hBs hF hbd ⊢
      refine' wpAnyH_take (i := 0) (v := _) rfl (by kernel_rfl) (by kernel_rfl) (by kernel_rfl) (fun _ _ _ h => h) (Or.inl ⟨by kernel_rfl, ?hca1⟩) (by assumption) ?rca1
      case hca1 => intro W hW; go_simp; all_goals with_reducible rfl
      change wpAnyH _ _ _ _ _ _ _ (Act.put _ (some 22) _) _
      simp only [Act.put, List.setIfInBounds_toArray, List.set_cons_zero, List.set_cons_succ]
      refine' wpAnyH_take (i := 2) (v := _) rfl (by kernel_rfl) (by kernel_rfl) (by kernel_rfl) (fun _ _ _ h => h) (Or.inl ⟨by kernel_rfl, ?hca2⟩) (by assumption) ?rca2
      case hca2 => intro W hW; go_simp; all_goals with_reducible rfl
      change wpAnyH _ _ _ _ _ _ _ (Act.put _ (some 24) _) _
      simp only [Act.put, List.setIfInBounds_toArray, List.set_cons_zero, List.set_cons_succ]
      refine wpAnyH_ready (rs := [1, 3]) (by kernel_rfl) (by simp) ?_
      refine AllReadyH.cons rfl (fun KK hK => ?_) (AllReadyH.cons rfl (fun KK hK => ?_) AllReadyH.nil)
      ·
        obtain ⟨⟨c0, c1, c2, c3, c4⟩, ⟨e0, e1, e2, e3, e4⟩, -⟩ := hT.cells
        go_simp
        clear c0 c1 c2 c3 c4 e0 e1 e2 e3 e4
        refine hK.out _ _ trivial (fun hHeld => ?_)
        clear hK KK
        try simp only [Act.put, List.setIfInBounds_toArray, List.set_cons_zero, List.set_cons_succ]
        refine wpAnyH_ready (rs := [3]) (by kernel_rfl) (by simp) ?_
        refine AllReadyH.cons rfl (fun KK hK => ?_) AllReadyH.nil
        go_simp
        refine (hV _ hbd).mono ?_
        rintro e w5 ⟨rfl, hOB, hB5, hs5⟩
        have hup : Up (w.heap.size + 1 + 1 + 1) wd w5 := Up.ofBelow hB5
        replace hO := own_upK hO hup
        have hsz6 := hT.size
        replace hT := hT.on hB5
        obtain ⟨g0, hg0⟩ := hidEx wd.heap.size
        have hnew := hBs.newer (g := wd.heap.size) (Nat.le_refl _)
        rw [hg0.out] at hOB hs5 hsz6 hnew ⊢
        replace hBs := (hBs.up hup).push (hOB.mono (by omega)) (fun g e => by cases e; exact ⟨⟨by omega, hs5⟩, hnew⟩)
        replace hF := hF.up hup
        clear hB5 hV hup hOB hnew
        go_wp2_with fail
        refine hK.out _ _ trivial (fun hHeld => ?_)
        clear hK KK
        try simp only [Act.put, List.setIfInBounds_toArray, List.set_cons_zero, List.set_cons_succ]
        refine wpAnyH_ready (rs := [4]) (by kernel_rfl) (by simp) ?_
        refine AllReadyH.cons rfl (fun KK hK => ?_) AllReadyH.nil
        go_simp
        have hbA : Below w5.heap.size w5 (w5.alloc (.cells #[.slice (some ⟨g0, 0, none⟩) p0 p0] 49)) := (Below.refl _ _).alloc (Nat.le_refl _) _
        have hcl : ∀ j u, [Value.slice (some ⟨g0, 0, none⟩) p0 p0][j]? = some u → (w5.alloc (.cells #[.slice (some ⟨g0, 0, none⟩) p0 p0] 49)).cell? ((⟨w5.heap.size, 0, none⟩ : Addr).add j) = some u := by
          have ea : ∀ j, (⟨w5.heap.size, 0, none⟩ : Addr).add j = ⟨w5.heap.size, 0 + j, none⟩ := fun j => by unfold Addr.add; split <;> simp_all
          intro j u hj
          match j, hj with
          | 0, hj => cases hj; rw [ea]; simp
        replace hO := own_upK hO (Up.ofBelow hbA)
        replace hT := hT.on hbA
        replace hBs := hBs.up (Up.ofBelow hbA)
        replace hF := hF.up (Up.ofBelow hbA)
        have hsz := hT.size
        refine hK.out _ _ trivial (fun hHeld => ?_)
        clear hK KK
        try simp only [Act.put, List.setIfInBounds_toArray, List.set_cons_zero, List.set_cons_succ]
        refine wpAnyH_ready (rs := [5]) (by kernel_rfl) (by simp) ?_
        refine AllReadyH.cons rfl (fun KK hK => ?_) AllReadyH.nil
        rw [if_pos (by kernel_rfl)]
        refine wp_append_own _ (.tmp 23) (.tmp 26) 22 rfl (w.heap.size + 1 + 1 + 1) 49 i0 (.slice none 0 0) 1 24 Try.underlying22 hi hz0 hz1 hz2 rfl (by decide) _ _ _ rfl hO ⟨w5.heap.size, 0, none⟩ 1 1 [.slice (some ⟨g0, 0, none⟩) p0 p0] rfl rfl hcl (by intro u hu; simp at hu; subst hu; rfl) (by unfold maxLen; omega) (by omega) (by omega) ?_
        intro v6 w6 hO6 hgr6 hnil6
        have hK6 := keep_grown hO hgr6
        replace hT := hT.grow hgr6 (own_geK hO)
        replace hBs := hBs.keepT hK6 hgr6.size (by decide)
        replace hF := hF.keepT hK6 (by decide)
        obtain ⟨b6, c6, rfl⟩ := own_succK hO6
        clear hO hgr6 hnil6 hcl hbA hK6
        refine hK.out _ _ trivial (fun hHeld => ?_)
        clear hK KK
        change wpAnyH _ _ _ _ _ _ _ (Act.put _ (some 27) _) _
        try simp only [Act.put, List.setIfInBounds_toArray, List.set_cons_zero, List.set_cons_succ]
        refine' wpAnyH_take (i := 6) (v := _) rfl (by kernel_rfl) (by kernel_rfl) (by kernel_rfl) (fun _ _ _ h => h) (Or.inl ⟨by kernel_rfl, ?hca3⟩) (by assumption) ?rca3
        case hca3 => intro W hW; go_simp; all_goals with_reducible rfl
        change wpAnyH _ _ _ _ _ _ _ (Act.put _ (some 28) _) _
        simp only [Act.put, List.setIfInBounds_toArray, List.set_cons_zero, List.set_cons_succ]
        refine wpAnyH_ready (rs := [7]) (by kernel_rfl) (by simp) ?_
        refine AllReadyH.cons rfl (fun KK hK => ?_) AllReadyH.nil
        obtain ⟨⟨c0, c1, c2, c3, c4⟩, ⟨e0, e1, e2, e3, e4⟩, q⟩ := hT.cells
        have q0 := q 0
        go_simp
        clear c0 c1 c2 c3 c4 e0 e1 e2 e3 e4 q q0
        have hupS : Up (w.heap.size + 1 + 1 + 1) w6 (w6.setCell ⟨w.heap.size + 1 + 1, 0, none⟩ (.slice (some ⟨b6, 0, none⟩) (k + 1) c6)) := Up.set (by omega)
        replace hO6 := own_upK hO6 hupS
        replace hBs := hBs.up hupS
        replace hF := hF.up hupS
        have hT7 := hT.set 0 (.slice (some ⟨b6, 0, none⟩) (k + 1) c6)
        simp only [List.set] at hT7
        clear hT hupS
        refine hK.out _ _ trivial (fun hHeld => ?_)
        clear hK KK
        try simp only [Act.put, List.setIfInBounds_toArray, List.set_cons_zero, List.set_cons_succ]
        refine wpAnyH_done (by kernel_rfl) ?_ _
        have HR : Hid (C1 w D _ sc ca cc fa fc ga gc (k + 1) (w6.setCell ⟨w.heap.size + 1 + 1, 0, none⟩ (.slice (some ⟨b6, 0, none⟩) (k + 1) c6))) := ⟨_, _, hT7, hO6, by rw [take_one hlt]; exact hBs, hF⟩
        clear hT7 hO6 hBs hF hHeld
        go_wp2
        go_roundg (D.secs.length - (k + 1))
        case measure => omega
        case rel => exact ⟨k + 1, by omega, rfl, by go_num, HR.out⟩
      ·
        go_simp
        refine (hV _ hbd).mono ?_
        rintro e w5 ⟨rfl, hOB, hB5, hs5⟩
        have hup : Up (w.heap.size + 1 + 1 + 1) wd w5 := Up.ofBelow hB5
        replace hO := own_upK hO hup
        have hsz6 := hT.size
        replace hT := hT.on hB5
        obtain ⟨g0, hg0⟩ := hidEx wd.heap.size
        have hnew := hBs.newer (g := wd.heap.size) (Nat.le_refl _)
        rw [hg0.out] at hOB hs5 hsz6 hnew ⊢
        replace hBs := (hBs.up hup).push (hOB.mono (by omega)) (fun g e => by cases e; exact ⟨⟨by omega, hs5⟩, hnew⟩)
        replace hF := hF.up hup
        clear hB5 hV hup hOB hnew
        go_wp2_with fail
        refine hK.out _ _ trivial (fun hHeld => ?_)
        clear hK KK
        try simp only [Act.put, List.setIfInBounds_toArray, List.set_cons_zero, List.set_cons_succ]
        refine wpAnyH_ready (rs := [1, 4]) (by kernel_rfl) (by simp) ?_
        refine AllReadyH.cons rfl (fun KK hK => ?_) (AllReadyH.cons rfl (fun KK hK => ?_) AllReadyH.nil)
        ·
          obtain ⟨⟨c0, c1, c2, c3, c4⟩, ⟨e0, e1, e2, e3, e4⟩, -⟩ := hT.cells
          go_simp
          clear c0 c1 c2 c3 c4 e0 e1 e2 e3 e4
          refine hK.out _ _ trivial (fun hHeld => ?_)
          clear hK KK
          try simp only [Act.put, List.setIfInBounds_toArray, List.set_cons_zero, List.set_cons_succ]
          refine wpAnyH_ready (rs := [4]) (by kernel_rfl) (by simp) ?_
          refine AllReadyH.cons rfl (fun KK hK => ?_) AllReadyH.nil
          go_simp
          have hbA : Below w5.heap.size w5 (w5.alloc (.cells #[.slice (some ⟨g0, 0, none⟩) p0 p0] 49)) := (Below.refl _ _).alloc (Nat.le_refl _) _
          have hcl : ∀ j u, [Value.slice (some ⟨g0, 0, none⟩) p0 p0][j]? = some u → (w5.alloc (.cells #[.slice (some ⟨g0, 0, none⟩) p0 p0] 49)).cell? ((⟨w5.heap.size, 0, none⟩ : Addr).add j) = some u := by
            have ea : ∀ j, (⟨w5.heap.size, 0, none⟩ : Addr).add j = ⟨w5.heap.size, 0 + j, none⟩ := fun j => by unfold Addr.add; split <;> simp_all
            intro j u hj
            match j, hj with
            | 0, hj => cases hj; rw [ea]; simp
          replace hO := own_upK hO (Up.ofBelow hbA)
          replace hT := hT.on hbA
          replace hBs := hBs.up (Up.ofBelow hbA)
          replace hF := hF.up (Up.ofBelow hbA)
          have hsz := hT.size
          refine hK.out _ _ trivial (fun hHeld => ?_)
          clear hK KK
          try simp only [Act.put, List.setIfInBounds_toArray, List.set_cons_zero, List.set_cons_succ]
          refine wpAnyH_ready (rs := [5]) (by kernel_rfl) (by simp) ?_
          refine AllReadyH.cons rfl (fun KK hK => ?_) AllReadyH.nil
          rw [if_pos (by kernel_rfl)]
          refine wp_append_own _ (.tmp 23) (.tmp 26) 22 rfl (w.heap.size + 1 + 1 + 1) 49 i0 (.slice none 0 0) 1 24 Try.underlying22 hi hz0 hz1 hz2 rfl (by decide) _ _ _ rfl hO ⟨w5.heap.size, 0, none⟩ 1 1 [.slice (some ⟨g0, 0, none⟩) p0 p0] rfl rfl hcl (by intro u hu; simp at hu; subst hu; rfl) (by unfold maxLen; omega) (by omega) (by omega) ?_
          intro v6 w6 hO6 hgr6 hnil6
          have hK6 := keep_grown hO hgr6
          replace hT := hT.grow hgr6 (own_geK hO)
          replace hBs := hBs.keepT hK6 hgr6.size (by decide)
          replace hF := hF.keepT hK6 (by decide)
          obtain ⟨b6, c6, rfl⟩ := own_succK hO6
          clear hO hgr6 hnil6 hcl hbA hK6
          refine hK.out _ _ trivial (fun hHeld => ?_)
          clear hK KK
          change wpAnyH _ _ _ _ _ _ _ (Act.put _ (some 27) _) _
          try simp only [Act.put, List.setIfInBounds_toArray, List.set_cons_zero, List.set_cons_succ]
          refine' wpAnyH_take (i := 6) (v := _) rfl (by kernel_rfl) (by kernel_rfl) (by kernel_rfl) (fun _ _ _ h => h) (Or.inl ⟨by kernel_rfl, ?hca4⟩) (by assumption) ?rca4
          case hca4 => intro W hW; go_simp; all_goals with_reducible rfl
          change wpAnyH _ _ _ _ _ _ _ (Act.put _ (some 28) _) _
          simp only [Act.put, List.setIfInBounds_toArray, List.set_cons_zero, List.set_cons_succ]
          refine wpAnyH_ready (rs := [7]) (by kernel_rfl) (by simp) ?_
          refine AllReadyH.cons rfl (fun KK hK => ?_) AllReadyH.nil
          obtain ⟨⟨c0, c1, c2, c3, c4⟩, ⟨e0, e1, e2, e3, e4⟩, q⟩ := hT.cells
          have q0 := q 0
          go_simp
          clear c0 c1 c2 c3 c4 e0 e1 e2 e3 e4 q q0
          have hupS : Up (w.heap.size + 1 + 1 + 1) w6 (w6.setCell ⟨w.heap.size + 1 + 1, 0, none⟩ (.slice (some ⟨b6, 0, none⟩) (k + 1) c6)) := Up.set (by omega)
          replace hO6 := own_upK hO6 hupS
          replace hBs := hBs.up hupS
          replace hF := hF.up hupS
          have hT7 := hT.set 0 (.slice (some ⟨b6, 0, none⟩) (k + 1) c6)
          simp only [List.set] at hT7
          clear hT hupS
          refine hK.out _ _ trivial (fun hHeld => ?_)
          clear hK KK
          try simp only [Act.put, List.setIfInBounds_toArray, List.set_cons_zero, List.set_cons_succ]
          refine wpAnyH_done (by kernel_rfl) ?_ _
          have HR : Hid (C1 w D _ sc ca cc fa fc ga gc (k + 1) (w6.setCell ⟨w.heap.size + 1 + 1, 0, none⟩ (.slice (some ⟨b6, 0, none⟩) (k + 1) c6))) := ⟨_, _, hT7, hO6, by rw [take_one hlt]; exact hBs, hF⟩
          clear hT7 hO6 hBs hF hHeld
          go_wp2
          go_roundg (D.secs.length - (k + 1))
          case measure => omega
          case rel => exact ⟨k + 1, by omega, rfl, by go_num, HR.out⟩
        ·
          go_simp
          have hbA : Below w5.heap.size w5 (w5.alloc (.cells #[.slice (some ⟨g0, 0, none⟩) p0 p0] 49)) := (Below.refl _ _).alloc (Nat.le_refl _) _
          have hcl : ∀ j u, [Value.slice (some ⟨g0, 0, none⟩) p0 p0][j]? = some u → (w5.alloc (.cells #[.slice (some ⟨g0, 0, none⟩) p0 p0] 49)).cell? ((⟨w5.heap.size, 0, none⟩ : Addr).add j) = some u := by
            have ea : ∀ j, (⟨w5.heap.size, 0, none⟩ : Addr).add j = ⟨w5.heap.size, 0 + j, none⟩ := fun j => by unfold Addr.add; split <;> simp_all
            intro j u hj
            match j, hj with
            | 0, hj => cases hj; rw [ea]; simp
          replace hO := own_upK hO (Up.ofBelow hbA)
          replace hT := hT.on hbA
          replace hBs := hBs.up (Up.ofBelow hbA)
          replace hF := hF.up (Up.ofBelow hbA)
          have hsz := hT.size
          refine hK.out _ _ trivial (fun hHeld => ?_)
          clear hK KK
          try simp only [Act.put, List.setIfInBounds_toArray, List.set_cons_zero, List.set_cons_succ]
          refine wpAnyH_ready (rs := [1]) (by kernel_rfl) (by simp) ?_
          refine AllReadyH.cons rfl (fun KK hK => ?_) AllReadyH.nil
          obtain ⟨⟨c0, c1, c2, c3, c4⟩, ⟨e0, e1, e2, e3, e4⟩, -⟩ := hT.cells
          go_simp
          clear c0 c1 c2 c3 c4 e0 e1 e2 e3 e4
          refine hK.out _ _ trivial (fun hHeld => ?_)
          clear hK KK
          try simp only [Act.put, List.setIfInBounds_toArray, List.set_cons_zero, List.set_cons_succ]
          refine wpAnyH_ready (rs := [5]) (by kernel_rfl) (by simp) ?_
          refine AllReadyH.cons rfl (fun KK hK => ?_) AllReadyH.nil
          rw [if_pos (by kernel_rfl)]
          refine wp_append_own _ (.tmp 23) (.tmp 26) 22 rfl (w.heap.size + 1 + 1 + 1) 49 i0 (.slice none 0 0) 1 24 Try.underlying22 hi hz0 hz1 hz2 rfl (by decide) _ _ _ rfl hO ⟨w5.heap.size, 0, none⟩ 1 1 [.slice (some ⟨g0, 0, none⟩) p0 p0] rfl rfl hcl (by intro u hu; simp at hu; subst hu; rfl) (by unfold maxLen; omega) (by omega) (by omega) ?_
          intro v6 w6 hO6 hgr6 hnil6
          have hK6 := keep_grown hO hgr6
          replace hT := hT.grow hgr6 (own_geK hO)
          replace hBs := hBs.keepT hK6 hgr6.size (by decide)
          replace hF := hF.keepT hK6 (by decide)
          obtain ⟨b6, c6, rfl⟩ := own_succK hO6
          clear hO hgr6 hnil6 hcl hbA hK6
          refine hK.out _ _ trivial (fun hHeld => ?_)
          clear hK KK
          change wpAnyH _ _ _ _ _ _ _ (Act.put _ (some 27) _) _
          try simp only [Act.put, List.setIfInBounds_toArray, List.set_cons_zero, List.set_cons_succ]
          refine' wpAnyH_take (i := 6) (v := _) rfl (by kernel_rfl) (by kernel_rfl) (by kernel_rfl) (fun _ _ _ h => h) (Or.inl ⟨by kernel_rfl, ?hca5⟩) (by assumption) ?rca5
          case hca5 => intro W hW; go_simp; all_goals with_reducible rfl
          change wpAnyH _ _ _ _ _ _ _ (Act.put _ (some 28) _) _
          simp only [Act.put, List.setIfInBounds_toArray, List.set_cons_zero, List.set_cons_succ]
          refine wpAnyH_ready (rs := [7]) (by kernel_rfl) (by simp) ?_
          refine AllReadyH.cons rfl (fun KK hK => ?_) AllReadyH.nil
          obtain ⟨⟨c0, c1, c2, c3, c4⟩, ⟨e0, e1, e2, e3, e4⟩, q⟩ := hT.cells
          have q0 := q 0
          go_simp
          clear c0 c1 c2 c3 c4 e0 e1 e2 e3 e4 q q0
          have hupS : Up (w.heap.size + 1 + 1 + 1) w6 (w6.setCell ⟨w.heap.size + 1 + 1, 0, none⟩ (.slice (some ⟨b6, 0, none⟩) (k + 1) c6)) := Up.set (by omega)
          replace hO6 := own_upK hO6 hupS
          replace hBs := hBs.up hupS
          replace hF := hF.up hupS
          have hT7 := hT.set 0 (.slice (some ⟨b6, 0, none⟩) (k + 1) c6)
          simp only [List.set] at hT7
          clear hT hupS
          refine hK.out _ _ trivial (fun hHeld => ?_)
          clear hK KK
          try simp only [Act.put, List.setIfInBounds_toArray, List.set_cons_zero, List.set_cons_succ]
          refine wpAnyH_done (by kernel_rfl) ?_ _
          have HR : Hid (C1 w D _ sc ca cc fa fc ga gc (k + 1) (w6.setCell ⟨w.heap.size + 1 + 1, 0, none⟩ (.slice (some ⟨b6, 0, none⟩) (k + 1) c6))) := ⟨_, _, hT7, hO6, by rw [take_one hlt]; exact hBs, hF⟩
          clear hT7 hO6 hBs hF hHeld
          go_wp2
          go_roundg (D.secs.length - (k + 1))
          case measure => omega
          case rel => exact ⟨k + 1, by omega, rfl, by go_num, HR.out⟩
    · obtain rfl : k = D.secs.length := by omega
      have hkz : ¬ (D.secs.length : Int) < (D.secs.length : Int) := by omega
      rw [List.take_length] at hBs
      obtain ⟨⟨x0, x1, x2, x3, x4⟩, -, -⟩ := hT.cells
      have HC0 : Hid (C2 w D sa sc ca cc fa fc ga gc vS ss 0 wr) := ⟨_, [], rfl, hT, hO, by simpa [wcells] using own_nilK _ _ _ _, by simpa using hBs, hF⟩
      clear hT hO hBs hF
      go_wp2
      clear x0 x1 x2 x3 x4
      go_loopg [33] D.cache.length (fun q i wr => ∃ k : Nat, k ≤ D.cache.length ∧ q = D.cache.length - k ∧ i = .int .i64 k ∧ C2 w D sa sc ca cc fa fc ga gc vS ss k wr)
      case atStart => exact ⟨0, Nat.zero_le _, rfl, rfl, HC0.out⟩
      case round =>
        clear HC0
        obtain ⟨k, hk, rfl, rfl, vC, cs, hcsl, hT, hOS, hO, hBs, hF⟩ := hrel
        by_cases hlt : k < D.cache.length
        · obtain ⟨i0, hi, hz0, hz1, hz2⟩ := infoWrite
          obtain ⟨b1, o1, a', c', rfl, hb1, z0, z1, v0, vn⟩ := wview_at (wview_below HH.out.2.1 hT.below) hlt
          have hkz : (k : Int) < (D.cache.length : Int) := by omega
          have hV := fun W (hb : Below wr.heap.size wr W) => putSec_any a' c' (D.cache[k]).2 W (v0.below hb) vn (HH.out.2.2.cache _ (List.getElem_mem hlt))
          clear v0
          obtain ⟨p0, hp0⟩ := hidEx (D.cache[k]).2.length
          obtain ⟨p1, HP1⟩ := hidEx (D.cache[k]).1
          rw [hp0.out] at z1
          rw [HP1.out] at z0
          simp only [hp0.out] at hV
          have hXn := VN.new wr 52 [.int .i64 p1, .slice a' p0 c']
          have hbd : Below wr.heap.size wr (wr.alloc (.cells #[.int .i64 p1, .slice a' p0 c'] 52)).drew := ((Below.refl _ _).alloc (Nat.le_refl _) _).drew
          have hX : VN (wr.alloc (.cells #[.int .i64 p1, .slice a' p0 c'] 52)).drew wr.heap.size 52 [.int .i64 p1, .slice a' p0 c'] := hXn.block rfl
          have HXb : Hid (∀ j, vC.ownBlock = some j → j < wr.heap.size) := by
            intro j hj
            rcases hO.2 with ⟨rfl, _⟩ | ⟨g, cap, cur, rfl, _, hg, _⟩
            · cases hj
            · cases hj; exact (Array.getElem?_eq_some_iff.1 hg).1
          have HXc : Hid (w.heap.size + 1 + 1 < wr.heap.size) := by
            show _ < _
            have := hT.size; omega
          clear hXn
          go_wp2_with fail
          refine wp_region_held_drew (S := fun W => W.cell? ⟨wr.heap.size, 0, none⟩ = some (.int .i64 p1) ∧ W.cell? ⟨wr.heap.size, 1, none⟩ = some (.slice a' p0 c')) (by kernel_rfl) ⟨hX.cell 0, hX.cell 1⟩ (fun hHeld => ?_)
          replace hT := hT.on hbd
          replace hO := own_upK hO (Up.ofBelow hbd)
          replace hOS := own_upK hOS (Up.ofBelow hbd)
          replace hBs := hBs.up (Up.ofBelow hbd)
          replace hF := hF.up (Up.ofBelow hbd)
          obtain ⟨wd, hwd⟩ := hidEx (wr.alloc (.cells #[.int .i64 p1, .slice a' p0 c'] 52)).drew
          rw [hwd.out] at hT hO hOS hBs hF hbd hX hHeld ⊢
          refine' wpAnyH_take (i := 0) (v := _) rfl (by kernel_rfl) (by kernel_rfl) (by kernel_rfl) (fun _ _ _ h => h) (Or.inl ⟨by kernel_rfl, ?hcb1⟩) (by assumption) ?rcb1
          case hcb1 => intro W hW; obtain ⟨c0, c1⟩ := hW; go_simp; all_goals with_reducible rfl
          change wpAnyH _ _ _ _ _ _ _ (Act.put _ (some 37) _) _
          simp only [Act.put, List.setIfInBounds_toArray, List.set_cons_zero, List.set_cons_succ]
          refine' wpAnyH_take (i := 2) (v := _) rfl (by kernel_rfl) (by kernel_rfl) (by kernel_rfl) (fun _ _ _ h => h) (Or.inl ⟨by kernel_rfl, ?hcb2⟩) (by assumption) ?rcb2
          case hcb2 => intro W hW; obtain ⟨c0, c1⟩ := hW; go_simp; all_goals with_reducible rfl
          change wpAnyH _ _ _ _ _ _ _ (Act.put _ (some 39) _) _
          simp only [Act.put, List.setIfInBounds_toArray, List.set_cons_zero, List.set_cons_succ]
          refine' wpAnyH_take (i := 3) (v := _) rfl (by kernel_rfl) (by kernel_rfl) (by kernel_rfl) (fun _ _ _ h => h) (Or.inl ⟨by kernel_rfl, ?hcb3⟩) (by assumption) ?rcb3
          case hcb3 => intro W hW; obtain ⟨c0, c1⟩ := hW; go_simp; all_goals with_reducible rfl
          change wpAnyH _ _ _ _ _ _ _ (Act.put _ (some 40) _) _
          simp only [Act.put, List.setIfInBounds_toArray, List.set_cons_zero, List.set_cons_succ]
          refine' wpAnyH_take (i := 4) (v := _) rfl (by kernel_rfl) (by kernel_rfl) (by kernel_rfl) (fun _ _ _ h => h) (Or.inl ⟨by kernel_rfl, ?hcb4⟩) (by assumption) ?rcb4
          case hcb4 => intro W hW; obtain ⟨c0, c1⟩ := hW; go_simp; all_goals with_reducible rfl
          change wpAnyH _ _ _ _ _ _ _ (Act.put _ (some 41) _) _
          simp only [Act.put, List.setIfInBounds_toArray, List.set_cons_zero, List.set_cons_succ]
          refine' wpAnyH_take (i := 5) (v := _) rfl (by kernel_rfl) (by kernel_rfl) (by kernel_rfl) (fun _ _ _ h => h) (Or.inl ⟨by kernel_rfl, ?hcb5⟩) (by assumption) ?rcb5
          case hcb5 => intro W hW; obtain ⟨c0, c1⟩ := hW; go_simp; all_goals with_reducible rfl
          change wpAnyH _ _ _ _ _ _ _ (Act.put _ (some 42) _) _
          simp only [Act.put, List.setIfInBounds_toArray, List.set_cons_zero, List.set_cons_succ]
          refine wpAnyH_ready (rs := [1, 6]) (by kernel_rfl) (by simp) ?_
          refine AllReadyH.cons rfl (fun KK hK => ?_) (AllReadyH.cons rfl (fun KK hK => ?_) AllReadyH.nil)
          ·
            obtain ⟨⟨c0, c1, c2, c3, c4⟩, ⟨e0, e1, e2, e3, e4⟩, -⟩ := hT.cells
            go_simp
            clear c0 c1 c2 c3 c4 e0 e1 e2 e3 e4
            refine hK.out _ _ ⟨hX.cell 0, hX.cell 1⟩ (fun hHeld => ?_)
            clear hK KK
            try simp only [Act.put, List.setIfInBounds_toArray, List.set_cons_zero, List.set_cons_succ]
            refine wpAnyH_ready (rs := [6]) (by kernel_rfl) (by simp) ?_
            refine AllReadyH.cons rfl (fun KK hK => ?_) AllReadyH.nil
            go_simp
            refine (hV _ hbd).mono ?_
            rintro e w5 ⟨rfl, hOB, hB5, hs5⟩
            have hup : Up (w.heap.size + 1 + 1 + 1) wd w5 := Up.ofBelow hB5
            replace hO := own_upK hO hup
            replace hOS := own_upK hOS hup
            have hsz6 := hT.size
            replace hT := hT.on hB5
            replace hX := hX.below hB5
            obtain ⟨g0, hg0⟩ := hidEx wd.heap.size
            have hnew := hBs.newer (g := wd.heap.size) (Nat.le_refl _)
            rw [hg0.out] at hOB hs5 hsz6 hnew ⊢
            replace hBs := (hBs.up hup).push (hOB.mono (by omega)) (fun g e => by cases e; exact ⟨⟨by omega, hs5⟩, hnew⟩)
            replace hF := hF.up hup
            clear hB5 hV hup hOB hnew
            go_wp2_with fail
            refine hK.out _ _ ⟨hX.cell 0, hX.cell 1⟩ (fun hHeld => ?_)
            clear hK KK
            try simp only [Act.put, List.setIfInBounds_toArray, List.set_cons_zero, List.set_cons_succ]
            refine' wpAnyH_take (i := 7) (v := _) rfl (by kernel_rfl) (by kernel_rfl) (by kernel_rfl) (fun _ _ _ h => h) (Or.inl ⟨by kernel_rfl, ?hcb6⟩) (by assumption) ?rcb6
            case hcb6 => intro W hW; obtain ⟨c0, c1⟩ := hW; go_simp; all_goals with_reducible rfl
            change wpAnyH _ _ _ _ _ _ _ (Act.put _ (some 44) _) _
            simp only [Act.put, List.setIfInBounds_toArray, List.set_cons_zero, List.set_cons_succ]
            refine wpAnyH_ready (rs := [8]) (by kernel_rfl) (by simp) ?_
            refine AllReadyH.cons rfl (fun KK hK => ?_) AllReadyH.nil
            go_simp
            have hbA : Below w5.heap.size w5 (w5.alloc (.cells #[.int .i64 p1, .slice (some ⟨g0, 0, none⟩) p0 p0] 52)) := (Below.refl _ _).alloc (Nat.le_refl _) _
            have hcl : ∀ j u, [Value.int .i64 p1, .slice (some ⟨g0, 0, none⟩) p0 p0][j]? = some u → (w5.alloc (.cells #[.int .i64 p1, .slice (some ⟨g0, 0, none⟩) p0 p0] 52)).cell? ((⟨w5.heap.size, 0, none⟩ : Addr).add j) = some u := by
              have ea : ∀ j, (⟨w5.heap.size, 0, none⟩ : Addr).add j = ⟨w5.heap.size, 0 + j, none⟩ := fun j => by unfold Addr.add; split <;> simp_all
              intro j u hj
              match j, hj with
              | 0, hj => cases hj; rw [ea]; simp
              | 1, hj => cases hj; rw [ea]; simp [go_sem]
            replace hO := own_upK hO (Up.ofBelow hbA)
            replace hOS := own_upK hOS (Up.ofBelow hbA)
            replace hT := hT.on hbA
            replace hX := hX.below hbA
            replace hBs := hBs.up (Up.ofBelow hbA)
            replace hF := hF.up (Up.ofBelow hbA)
            have hsz := hT.size
            refine hK.out _ _ ⟨hX.cell 0, hX.cell 1⟩ (fun hHeld => ?_)
            clear hK KK
            try simp only [Act.put, List.setIfInBounds_toArray, List.set_cons_zero, List.set_cons_succ]
            refine wpAnyH_ready (rs := [9]) (by kernel_rfl) (by simp) ?_
            refine AllReadyH.cons rfl (fun KK hK => ?_) AllReadyH.nil
            rw [if_pos (by kernel_rfl)]
            refine wp_append_own _ (.tmp 38) (.tmp 45) 28 rfl (w.heap.size + 1 + 1 + 1) 52 i0 (.agg #[.int .i64 0, .slice none 0 0]) 2 32 Try.underlying28 hi hz0 hz1 hz2 rfl (by decide) _ _ _ rfl hO ⟨w5.heap.size, 0, none⟩ 1 1 [.int .i64 p1, .slice (some ⟨g0, 0, none⟩) p0 p0] rfl rfl hcl (by intro u hu; simp at hu; rcases hu with rfl | rfl <;> rfl) (by unfold maxLen; omega) (by omega) (by omega) ?_
            intro v6 w6 hO6 hgr6 hnil6
            have hK6 := keep_grown hO hgr6
            replace hT := hT.grow hgr6 (own_geK hO)
            replace hOS := own_keepT hOS hK6 (by decide)
            replace hX := hX.block (hgr6.block _ hX.lt (fun e => by have h8 := own_geK hO _ e.symm; have h9 := HXb.out _ e.symm; omega))
            replace hBs := hBs.keepT hK6 hgr6.size (by decide)
            replace hF := hF.keepT hK6 (by decide)
            obtain ⟨b6, c6, rfl⟩ := own_succK hO6
            clear hO hgr6 hnil6 hcl hbA hK6
            refine hK.out _ _ ⟨hX.cell 0, hX.cell 1⟩ (fun hHeld => ?_)
            clear hK KK
            change wpAnyH _ _ _ _ _ _ _ (Act.put _ (some 46) _) _
            try simp only [Act.put, List.setIfInBounds_toArray, List.set_cons_zero, List.set_cons_succ]
            refine' wpAnyH_take (i := 10) (v := _) rfl (by kernel_rfl) (by kernel_rfl) (by kernel_rfl) (fun _ _ _ h => h) (Or.inl ⟨by kernel_rfl, ?hcb7⟩) (by assumption) ?rcb7
            case hcb7 => intro W hW; obtain ⟨c0, c1⟩ := hW; go_simp; all_goals with_reducible rfl
            change wpAnyH _ _ _ _ _ _ _ (Act.put _ (some 47) _) _
            simp only [Act.put, List.setIfInBounds_toArray, List.set_cons_zero, List.set_cons_succ]
            refine wpAnyH_ready (rs := [11]) (by kernel_rfl) (by simp) ?_
            refine AllReadyH.cons rfl (fun KK hK => ?_) AllReadyH.nil
            obtain ⟨⟨c0, c1, c2, c3, c4⟩, ⟨e0, e1, e2, e3, e4⟩, q⟩ := hT.cells
            have q0 := q 1
            go_simp
            clear c0 c1 c2 c3 c4 e0 e1 e2 e3 e4 q q0
            have hupS : Up (w.heap.size + 1 + 1 + 1) w6 (w6.setCell ⟨w.heap.size + 1 + 1, 1, none⟩ (.slice (some ⟨b6, 0, none⟩) (k + 1) c6)) := Up.set (by omega)
            replace hO6 := own_upK hO6 hupS
            replace hOS := own_upK hOS hupS
            replace hX := hX.other (C := w.heap.size + 1 + 1) (i := 1) (u := .slice (some ⟨b6, 0, none⟩) (k + 1) c6) (by have := HXc.out; omega)
            replace hBs := hBs.up hupS
            replace hF := hF.up hupS
            have hT7 := hT.set 1 (.slice (some ⟨b6, 0, none⟩) (k + 1) c6)
            simp only [List.set] at hT7
            clear hT hupS
            refine hK.out _ _ ⟨hX.cell 0, hX.cell 1⟩ (fun hHeld => ?_)
            clear hK KK
            try simp only [Act.put, List.setIfInBounds_toArray, List.set_cons_zero, List.set_cons_succ]
            refine wpAnyH_done (by kernel_rfl) ?_ _
            have HR : Hid (C2 w D sa sc _ cc fa fc ga gc vS ss (k + 1) (w6.setCell ⟨w.heap.size + 1 + 1, 1, none⟩ (.slice (some ⟨b6, 0, none⟩) (k + 1) c6))) := ⟨_, cs ++ [.slice (some ⟨g0, 0, none⟩) p0 p0], by simp [hcsl], hT7, hOS, by rw [take_one hlt, wcells_push (by rw [hcsl]; simp; omega), HP1.out]; exact hO6, by rw [take_one hlt, List.map_append, ← List.append_assoc, ← List.append_assoc]; exact hBs, hF⟩
            clear hT7 hO6 hBs hF hHeld hOS hX
            go_wp2
            go_roundg (D.cache.length - (k + 1))
            case measure => omega
            case rel => exact ⟨k + 1, by omega, rfl, by go_num, HR.out⟩
          ·
            go_simp
            refine (hV _ hbd).mono ?_
            rintro e w5 ⟨rfl, hOB, hB5, hs5⟩
            have hup : Up (w.heap.size + 1 + 1 + 1) wd w5 := Up.ofBelow hB5
            replace hO := own_upK hO hup
            replace hOS := own_upK hOS hup
            have hsz6 := hT.size
            replace hT := hT.on hB5
            replace hX := hX.below hB5
            obtain ⟨g0, hg0⟩ := hidEx wd.heap.size
            have hnew := hBs.newer (g := wd.heap.size) (Nat.le_refl _)
            rw [hg0.out] at hOB hs5 hsz6 hnew ⊢
            replace hBs := (hBs.up hup).push (hOB.mono (by omega)) (fun g e => by cases e; exact ⟨⟨by omega, hs5⟩, hnew⟩)
            replace hF := hF.up hup
            clear hB5 hV hup hOB hnew
            go_wp2_with fail
            refine hK.out _ _ ⟨hX.cell 0, hX.cell 1⟩ (fun hHeld => ?_)
            clear hK KK
            try simp only [Act.put, List.setIfInBounds_toArray, List.set_cons_zero, List.set_cons_succ]
            refine' wpAnyH_take (i := 7) (v := _) rfl (by kernel_rfl) (by kernel_rfl) (by kernel_rfl) (fun _ _ _ h => h) (Or.inl ⟨by kernel_rfl, ?hcb8⟩) (by assumption) ?rcb8
            case hcb8 => intro W hW; obtain ⟨c0, c1⟩ := hW; go_simp; all_goals with_reducible rfl
            change wpAnyH _ _ _ _ _ _ _ (Act.put _ (some 44) _) _
            simp only [Act.put, List.setIfInBounds_toArray, List.set_cons_zero, List.set_cons_succ]
            refine wpAnyH_ready (rs := [1, 8]) (by kernel_rfl) (by simp) ?_
            refine AllReadyH.cons rfl (fun KK hK => ?_) (AllReadyH.cons rfl (fun KK hK => ?_) AllReadyH.nil)
            ·
              obtain ⟨⟨c0, c1, c2, c3, c4⟩, ⟨e0, e1, e2, e3, e4⟩, -⟩ := hT.cells
              go_simp
              clear c0 c1 c2 c3 c4 e0 e1 e2 e3 e4
              refine hK.out _ _ ⟨hX.cell 0, hX.cell 1⟩ (fun hHeld => ?_)
              clear hK KK
              try simp only [Act.put, List.setIfInBounds_toArray, List.set_cons_zero, List.set_cons_succ]
              refine wpAnyH_ready (rs := [8]) (by kernel_rfl) (by simp) ?_
              refine AllReadyH.cons rfl (fun KK hK => ?_) AllReadyH.nil
              go_simp
              have hbA : Below w5.heap.size w5 (w5.alloc (.cells #[.int .i64 p1, .slice (some ⟨g0, 0, none⟩) p0 p0] 52)) := (Below.refl _ _).alloc (Nat.le_refl _) _
              have hcl : ∀ j u, [Value.int .i64 p1, .slice (some ⟨g0, 0, none⟩) p0 p0][j]? = some u → (w5.alloc (.cells #[.int .i64 p1, .slice (some ⟨g0, 0, none⟩) p0 p0] 52)).cell? ((⟨w5.heap.size, 0, none⟩ : Addr).add j) = some u := by
                have ea : ∀ j, (⟨w5.heap.size, 0, none⟩ : Addr).add j = ⟨w5.heap.size, 0 + j, none⟩ := fun j => by unfold Addr.add; split <;> simp_all
                intro j u hj
                match j, hj with
                | 0, hj => cases hj; rw [ea]; simp
                | 1, hj => cases hj; rw [ea]; simp [go_sem]
              replace hO := own_upK hO (Up.ofBelow hbA)
              replace hOS := own_upK hOS (Up.ofBelow hbA)
              replace hT := hT.on hbA
              replace hX := hX.below hbA
              replace hBs := hBs.up (Up.ofBelow hbA)
              replace hF := hF.up (Up.ofBelow hbA)
              have hsz := hT.size
              refine hK.out _ _ ⟨hX.cell 0, hX.cell 1⟩ (fun hHeld => ?_)
              clear hK KK
              try simp only [Act.put, List.setIfInBounds_toArray, List.set_cons_zero, List.set_cons_succ]
              refine wpAnyH_ready (rs := [9]) (by kernel_rfl) (by simp) ?_
              refine AllReadyH.cons rfl (fun KK hK => ?_) AllReadyH.nil
              rw [if_pos (by kernel_rfl)]
              refine wp_append_own _ (.tmp 38) (.tmp 45) 28 rfl (w.heap.size + 1 + 1 + 1) 52 i0 (.agg #[.int .i64 0, .slice none 0 0]) 2 32 Try.underlying28 hi hz0 hz1 hz2 rfl (by decide) _ _ _ rfl hO ⟨w5.heap.size, 0, none⟩ 1 1 [.int .i64 p1, .slice (some ⟨g0, 0, none⟩) p0 p0] rfl rfl hcl (by intro u hu; simp at hu; rcases hu with rfl | rfl <;> rfl) (by unfold maxLen; omega) (by omega) (by omega) ?_
              intro v6 w6 hO6 hgr6 hnil6
              have hK6 := keep_grown hO hgr6
              replace hT := hT.grow hgr6 (own_geK hO)
              replace hOS := own_keepT hOS hK6 (by decide)
              replace hX := hX.block (hgr6.block _ hX.lt (fun e => by have h8 := own_geK hO _ e.symm; have h9 := HXb.out _ e.symm; omega))
              replace hBs := hBs.keepT hK6 hgr6.size (by decide)
              replace hF := hF.keepT hK6 (by decide)
              obtain ⟨b6, c6, rfl⟩ := own_succK hO6
              clear hO hgr6 hnil6 hcl hbA hK6
              refine hK.out _ _ ⟨hX.cell 0, hX.cell 1⟩ (fun hHeld => ?_)
              clear hK KK
              change wpAnyH _ _ _ _ _ _ _ (Act.put _ (some 46) _) _
              try simp only [Act.put, List.setIfInBounds_toArray, List.set_cons_zero, List.set_cons_succ]
              refine' wpAnyH_take (i := 10) (v := _) rfl (by kernel_rfl) (by kernel_rfl) (by kernel_rfl) (fun _ _ _ h => h) (Or.inl ⟨by kernel_rfl, ?hcb9⟩) (by assumption) ?rcb9
              case hcb9 => intro W hW; obtain ⟨c0, c1⟩ := hW; go_simp; all_goals with_reducible rfl
              change wpAnyH _ _ _ _ _ _ _ (Act.put _ (some 47) _) _
              simp only [Act.put, List.setIfInBounds_toArray, List.set_cons_zero, List.set_cons_succ]
              refine wpAnyH_ready (rs := [11]) (by kernel_rfl) (by simp) ?_
              refine AllReadyH.cons rfl (fun KK hK => ?_) AllReadyH.nil
              obtain ⟨⟨c0, c1, c2, c3, c4⟩, ⟨e0, e1, e2, e3, e4⟩, q⟩ := hT.cells
              have q0 := q 1
              go_simp
              clear c0 c1 c2 c3 c4 e0 e1 e2 e3 e4 q q0
              have hupS : Up (w.heap.size + 1 + 1 + 1) w6 (w6.setCell ⟨w.heap.size + 1 + 1, 1, none⟩ (.slice (some ⟨b6, 0, none⟩) (k + 1) c6)) := Up.set (by omega)
              replace hO6 := own_upK hO6 hupS
              replace hOS := own_upK hOS hupS
              replace hX := hX.other (C := w.heap.size + 1 + 1) (i := 1) (u := .slice (some ⟨b6, 0, none⟩) (k + 1) c6) (by have := HXc.out; omega)
              replace hBs := hBs.up hupS
              replace hF := hF.up hupS
              have hT7 := hT.set 1 (.slice (some ⟨b6, 0, none⟩) (k + 1) c6)
              simp only [List.set] at hT7
              clear hT hupS
              refine hK.out _ _ ⟨hX.cell 0, hX.cell 1⟩ (fun hHeld => ?_)
              clear hK KK
              try simp only [Act.put, List.setIfInBounds_toArray, List.set_cons_zero, List.set_cons_succ]
              refine wpAnyH_done (by kernel_rfl) ?_ _
              have HR : Hid (C2 w D sa sc _ cc fa fc ga gc vS ss (k + 1) (w6.setCell ⟨w.heap.size + 1 + 1, 1, none⟩ (.slice (some ⟨b6, 0, none⟩) (k + 1) c6))) := ⟨_, cs ++ [.slice (some ⟨g0, 0, none⟩) p0 p0], by simp [hcsl], hT7, hOS, by rw [take_one hlt, wcells_push (by rw [hcsl]; simp; omega), HP1.out]; exact hO6, by rw [take_one hlt, List.map_append, ← List.append_assoc, ← List.append_assoc]; exact hBs, hF⟩
              clear hT7 hO6 hBs hF hHeld hOS hX
              go_wp2
              go_roundg (D.cache.length - (k + 1))
              case measure => omega
              case rel => exact ⟨k + 1, by omega, rfl, by go_num, HR.out⟩
            ·
              go_simp
              have hbA : Below w5.heap.size w5 (w5.alloc (.cells #[.int .i64 p1, .slice (some ⟨g0, 0, none⟩) p0 p0] 52)) := (Below.refl _ _).alloc (Nat.le_refl _) _
              have hcl : ∀ j u, [Value.int .i64 p1, .slice (some ⟨g0, 0, none⟩) p0 p0][j]? = some u → (w5.alloc (.cells #[.int .i64 p1, .slice (some ⟨g0, 0, none⟩) p0 p0] 52)).cell? ((⟨w5.heap.size, 0, none⟩ : Addr).add j) = some u := by
                have ea : ∀ j, (⟨w5.heap.size, 0, none⟩ : Addr).add j = ⟨w5.heap.size, 0 + j, none⟩ := fun j => by unfold Addr.add; split <;> simp_all
                intro j u hj
                match j, hj with
                | 0, hj => cases hj; rw [ea]; simp
                | 1, hj => cases hj; rw [ea]; simp [go_sem]
              replace hO := own_upK hO (Up.ofBelow hbA)
              replace hOS := own_upK hOS (Up.ofBelow hbA)
              replace hT := hT.on hbA
              replace hX := hX.below hbA
              replace hBs := hBs.up (Up.ofBelow hbA)
              replace hF := hF.up (Up.ofBelow hbA)
              have hsz := hT.size
              refine hK.out _ _ ⟨hX.cell 0, hX.cell 1⟩ (fun hHeld => ?_)
              clear hK KK
              try simp only [Act.put, List.setIfInBounds_toArray, List.set_cons_zero, List.set_cons_succ]
              refine wpAnyH_ready (rs := [1]) (by kernel_rfl) (by simp) ?_
              refine AllReadyH.cons rfl (fun KK hK => ?_) AllReadyH.nil
              obtain ⟨⟨c0, c1, c2, c3, c4⟩, ⟨e0, e1, e2, e3, e4⟩, -⟩ := hT.cells
              go_simp
              clear c0 c1 c2 c3 c4 e0 e1 e2 e3 e4
              refine hK.out _ _ ⟨hX.cell 0, hX.cell 1⟩ (fun hHeld => ?_)
              clear hK KK
              try simp only [Act.put, List.setIfInBounds_toArray, List.set_cons_zero, List.set_cons_succ]
              refine wpAnyH_ready (rs := [9]) (by kernel_rfl) (by simp) ?_
              refine AllReadyH.cons rfl (fun KK hK => ?_) AllReadyH.nil
              rw [if_pos (by kernel_rfl)]
              refine wp_append_own _ (.tmp 38) (.tmp 45) 28 rfl (w.heap.size + 1 + 1 + 1) 52 i0 (.agg #[.int .i64 0, .slice none 0 0]) 2 32 Try.underlying28 hi hz0 hz1 hz2 rfl (by decide) _ _ _ rfl hO ⟨w5.heap.size, 0, none⟩ 1 1 [.int .i64 p1, .slice (some ⟨g0, 0, none⟩) p0 p0] rfl rfl hcl (by intro u hu; simp at hu; rcases hu with rfl | rfl <;> rfl) (by unfold maxLen; omega) (by omega) (by omega) ?_
              intro v6 w6 hO6 hgr6 hnil6
              have hK6 := keep_grown hO hgr6
              replace hT := hT.grow hgr6 (own_geK hO)
              replace hOS := own_keepT hOS hK6 (by decide)
              replace hX := hX.block (hgr6.block _ hX.lt (fun e => by have h8 := own_geK hO _ e.symm; have h9 := HXb.out _ e.symm; omega))
              replace hBs := hBs.keepT hK6 hgr6.size (by decide)
              replace hF := hF.keepT hK6 (by decide)
              obtain ⟨b6, c6, rfl⟩ := own_succK hO6
              clear hO hgr6 hnil6 hcl hbA hK6
              refine hK.out _ _ ⟨hX.cell 0, hX.cell 1⟩ (fun hHeld => ?_)
              clear hK KK
              change wpAnyH _ _ _ _ _ _ _ (Act.put _ (some 46) _) _
              try simp only [Act.put, List.setIfInBounds_toArray, List.set_cons_zero, List.set_cons_succ]
              refine' wpAnyH_take (i := 10) (v := _) rfl (by kernel_rfl) (by kernel_rfl) (by kernel_rfl) (fun _ _ _ h => h) (Or.inl ⟨by kernel_rfl, ?hcb10⟩) (by assumption) ?rcb10
              case hcb10 => intro W hW; obtain ⟨c0, c1⟩ := hW; go_simp; all_goals with_reducible rfl
              change wpAnyH _ _ _ _ _ _ _ (Act.put _ (some 47) _) _
              simp only [Act.put, List.setIfInBounds_toArray, List.set_cons_zero, List.set_cons_succ]
              refine wpAnyH_ready (rs := [11]) (by kernel_rfl) (by simp) ?_
              refine AllReadyH.cons rfl (fun KK hK => ?_) AllReadyH.nil
              obtain ⟨⟨c0, c1, c2, c3, c4⟩, ⟨e0, e1, e2, e3, e4⟩, q⟩ := hT.cells
              have q0 := q 1
              go_simp
              clear c0 c1 c2 c3 c4 e0 e1 e2 e3 e4 q q0
              have hupS : Up (w.heap.size + 1 + 1 + 1) w6 (w6.setCell ⟨w.heap.size + 1 + 1, 1, none⟩ (.slice (some ⟨b6, 0, none⟩) (k + 1) c6)) := Up.set (by omega)
              replace hO6 := own_upK hO6 hupS
              replace hOS := own_upK hOS hupS
              replace hX := hX.other (C := w.heap.size + 1 + 1) (i := 1) (u := .slice (some ⟨b6, 0, none⟩) (k + 1) c6) (by have := HXc.out; omega)
              replace hBs := hBs.up hupS
              replace hF := hF.up hupS
              have hT7 := hT.set 1 (.slice (some ⟨b6, 0, none⟩) (k + 1) c6)
              simp only [List.set] at hT7
              clear hT hupS
              refine hK.out _ _ ⟨hX.cell 0, hX.cell 1⟩ (fun hHeld => ?_)
              clear hK KK
              try simp only [Act.put, List.setIfInBounds_toArray, List.set_cons_zero, List.set_cons_succ]
              refine wpAnyH_done (by kernel_rfl) ?_ _
              have HR : Hid (C2 w D sa sc _ cc fa fc ga gc vS ss (k + 1) (w6.setCell ⟨w.heap.size + 1 + 1, 1, none⟩ (.slice (some ⟨b6, 0, none⟩) (k + 1) c6))) := ⟨_, cs ++ [.slice (some ⟨g0, 0, none⟩) p0 p0], by simp [hcsl], hT7, hOS, by rw [take_one hlt, wcells_push (by rw [hcsl]; simp; omega), HP1.out]; exact hO6, by rw [take_one hlt, List.map_append, ← List.append_assoc, ← List.append_assoc]; exact hBs, hF⟩
              clear hT7 hO6 hBs hF hHeld hOS hX
              go_wp2
              go_roundg (D.cache.length - (k + 1))
              case measure => omega
              case rel => exact ⟨k + 1, by omega, rfl, by go_num, HR.out⟩
        · obtain rfl : k = D.cache.length := by omega
          have hkz : ¬ (D.cache.length : Int) < (D.cache.length : Int) := by omega
          rw [List.take_length] at hBs hO
          obtain ⟨ta, tc, rfl, t1, t2, RS⟩ := own_rl hOS
          obtain ⟨da, dc, rfl, d1, d2, RC⟩ := own_rl hO
          obtain ⟨-, ⟨k0, k1, k2, k3, k4⟩, -⟩ := hT.cells
          obtain ⟨⟨l0, l1, l2, l3, l4⟩, qr⟩ := hT.rcells
          have r0 := qr 0
          have r1 := qr 1
          have r2 := qr 2
          have r3 := qr 3
          have r4 := qr 4
          have hssl : ss.length = D.secs.length := by have := hOS.1; omega
          have T9 := ((((hT.ret 0 (.slice ta D.secs.length tc)).ret 1 (.slice da D.cache.length dc)).ret 2 (.int .i64 D.ops)).ret 3 (.slice ga D.faults.length gc)).ret 4 (.bool D.down)
          simp only [List.set] at T9
          obtain ⟨⟨m0, m1, m2, m3, m4⟩, -⟩ := T9.rcells
          have UB : Up (w.heap.size + 1 + 1 + 1) wr (((((wr.setCell ⟨w.heap.size + 1, 0, none⟩ (.slice ta D.secs.length tc)).setCell ⟨w.heap.size + 1, 1, none⟩ (.slice da D.cache.length dc)).setCell ⟨w.heap.size + 1, 2, none⟩ (.int .i64 D.ops)).setCell ⟨w.heap.size + 1, 3, none⟩ (.slice ga D.faults.length gc)).setCell ⟨w.heap.size + 1, 4, none⟩ (.bool D.down)) := (((Up.set (by omega)).trans (Up.set (by omega))).trans ((Up.set (by omega)).trans (Up.set (by omega)))).trans (Up.set (by omega))
          have HR : Hid (KOW (((((wr.setCell ⟨w.heap.size + 1, 0, none⟩ (.slice ta D.secs.length tc)).setCell ⟨w.heap.size + 1, 1, none⟩ (.slice da D.cache.length dc)).setCell ⟨w.heap.size + 1, 2, none⟩ (.int .i64 D.ops)).setCell ⟨w.heap.size + 1, 3, none⟩ (.slice ga D.faults.length gc)).setCell ⟨w.heap.size + 1, 4, none⟩ (.bool D.down)) w.heap.size (dval D ta tc da dc ga gc) D ∧ Below w.heap.size w (((((wr.setCell ⟨w.heap.size + 1, 0, none⟩ (.slice ta D.secs.length tc)).setCell ⟨w.heap.size + 1, 1, none⟩ (.slice da D.cache.length dc)).setCell ⟨w.heap.size + 1, 2, none⟩ (.int .i64 D.ops)).setCell ⟨w.heap.size + 1, 3, none⟩ (.slice ga D.faults.length gc)).setCell ⟨w.heap.size + 1, 4, none⟩ (.bool D.down))) := by
            refine ⟨⟨_, _, _, _, _, _, ss, cs, rfl, ⟨t1, t2, d1, d2, hgl, hgn, hssl, hcsl, (RS.up UB).mono (by omega), (RC.up UB).mono (by omega), (hF.up UB).mono (by omega), (hBs.up UB).mono (by omega)⟩, own_monoK (own_upK hO UB) (by omega)⟩, T9.below⟩
          clear T9 hT hOS hO hBs hF RS RC UB HH qr
          go_wp2
          refine bodyPost_ret (v := dval D ta tc da dc ga gc) (by simp [results, Try.results24, go_sem, m0, m1, m2, m3, m4, dval]) rfl ⟨_, rfl, HR.out.1, HR.out.2⟩
theorem copyDisk_any (v : Value) (D : PDisk) (w : World) (h : KView w v D) (hf : KFine D) :
    Calls Try.prog 24 #[v] w fun e w' => ∃ v', e = .returned v' ∧ KOwn w' w.heap.size v' D ∧ Below w.heap.size w w' :=
  (copyDisk_own v D w h hf).mono (fun _ _ ⟨v', e, h1, h2⟩ => ⟨v', e, h1.own, h2⟩)
end Go.Proofs.Ytagjgnephaaehaa
