/-
  LoseS
-/
import Derived.Test.YtdhfbblameiloaaUP3
import Derived.Deep.LoopGhost
import Derived.Deep.RegionHeld3
import Derived.Deep.CutBlock
import Derived.Deep.DeepCutAuto
/-
  The model's l12Lose.
-/
namespace Go.Proofs.Ytdhfbblameiloaa
open Go.RowKit
set_option maxRecDepth 4000

set_option maxHeartbeats 8000000 in
theorem l12Lose_any (B X gs sc : Nat) (ca : Option Addr) (cc : Nat) (fa : Option Addr) (fc : Nat) (ss cs : List Value) (D : PDisk) (p q : Int) (r : Nat) (w : World) (h : MS w B X gs sc ca cc fa fc ss cs D D.secs) (hp0 : 0 < D.secs.length) (hN : ∀ i (h : i < D.cache.length), 0 ≤ (D.cache[i]).1 ∧ (D.cache[i]).1 < D.secs.length) (hcl : D.cache.length ≤ 1048576) (hcb : ∀ x, x ∈ D.cache → x.2.length ≤ 1048576) (hq0 : 0 ≤ q) (hq1 : q ≤ 1048575) (hr : r ≤ 256) (hBw : B ≤ w.heap.size) (hBX : B ≤ X) :
    Calls Try.prog 117 #[.pointer (some ⟨X, 0, none⟩), .agg #[.int .i64 p, .int .i64 q, .int .i64 (r : Int)]] w fun e w' => e = .returned (.tuple #[]) ∧ (∃ ga ss', MS w' B X gs sc ga 0 fa fc ss' [] (loseD D ⟨p, q, r⟩) (loseD D ⟨p, q, r⟩).secs) ∧ Below B w w' := by
  obtain ⟨ib, hib, hb0, hb1, hb2⟩ := info_parts Try.info5
  have hbF : Below w.heap.size w (w.alloc (.cells #[.int .i64 p, .int .i64 q, .int .i64 (r : Int)] 79)) := (Below.refl _ _).alloc (Nat.le_refl _) _
  have hF := VN.new w 79 [.int .i64 p, .int .i64 q, .int .i64 (r : Int)]
  have hM := h.on hbF
  have hB : Below B w (w.alloc (.cells #[.int .i64 p, .int .i64 q, .int .i64 (r : Int)] 79)) := hbF.mono hBw
  clear h
  have HN : Hid (∀ i (h : i < D.cache.length), 0 ≤ (D.cache[i]).1 ∧ (D.cache[i]).1 < D.secs.length) := hN
  have HCB : Hid (∀ x, x ∈ D.cache → x.2.length ≤ 1048576) := hcb
  clear hN hcb
  obtain ⟨W1, hW1⟩ := hidEx (w.alloc (.cells #[.int .i64 p, .int .i64 q, .int .i64 (r : Int)] 79))
  rw [hW1.out] at hF hM hB
  have hszW : w.heap.size < W1.heap.size := hF.lt
  have y1 : W1.cell? ⟨X, 1, none⟩ = some (.slice ca D.cache.length cc) := hM.x.cell 1
  have f1 : W1.cell? ⟨w.heap.size, 1, none⟩ = some (.int .i64 q) := hF.cell 1
  clear hbF
  obtain ⟨N20, hN20⟩ : ∃ N20, Hid (N20 = min D.cache.length 20) := ⟨_, rfl⟩
  have hNa : N20 ≤ D.cache.length := by rw [hN20.out]; omega
  have hNb : N20 ≤ 20 := by rw [hN20.out]; omega
  have hNc : N20 = D.cache.length ∨ N20 = 20 := by rw [hN20.out]; omega
  go_enter Try.func117, Try.ntmps117
  go_upto_block 0 with (rw [hW1.out])
  go_cut [4] (fun v wx => W1 = wx ∧ ∃ last : Int, v = .int .i64 last ∧ Hid (LastIs q N20 last))
  case first =>
    go_wp2_with fail
    go_loopg [4, 5] N20 (fun g v i wr => W1 = wr ∧ ∃ k : Nat, k ≤ N20 ∧ g = N20 - k ∧ i = .int .i64 k ∧ ∃ last : Int, v = .int .i64 last ∧ Hid (LastIs q k last))
    case atStart => exact ⟨rfl, 0, Nat.zero_le _, rfl, rfl, -1, rfl, LastIs.zero q⟩
    case round =>
      obtain ⟨rfl, k, hk, rfl, rfl, last, rfl, HLA⟩ := hrel
      by_cases hlt : k < N20
      · have hz1 : (k : Int) < (D.cache.length : Int) := by omega
        have hz2 : (k : Int) < 20 := by omega
        have hbit := bit_and hq0 hq1 k
        have hk64 : (k : Int) ≤ 64 := by omega
        by_cases hb1 : q / 2 ^ k % 2 = 1
        · rw [hb1] at hbit
          have HL2 : Hid (LastIs q (k + 1) (k : Int)) := LastIs.yes (decide_eq_true hb1)
          go_wp2
          go_roundg (N20 - (k + 1))
          case measure => omega
          case rel => exact ⟨rfl, k + 1, by omega, rfl, by go_num, (k : Int), rfl, HL2⟩
        · have hb9 : q / 2 ^ k % 2 = 0 := by omega
          rw [hb9] at hbit
          have HL2 : Hid (LastIs q (k + 1) last) := HLA.out.no (decide_eq_false hb1)
          go_wp2
          go_roundg (N20 - (k + 1))
          case measure => omega
          case rel => exact ⟨rfl, k + 1, by omega, rfl, by go_num, last, rfl, HL2⟩
      have hkN : k = N20 := by omega
      subst hkN
      have hend : ¬ (k : Int) < (D.cache.length : Int) ∨ ((k : Int) < (D.cache.length : Int) ∧ ¬ (k : Int) < 20) := by omega
      rcases hend with hz1 | ⟨hz1, hz2⟩
      all_goals
        go_wp2
        go_meet
        exact ⟨rfl, last, rfl, HLA⟩
  case rest =>
    obtain ⟨rfl, last, rfl, HLA⟩ := hcut
    have HLO := lost_all (cut := r) (l := D.cache) hq0 hq1 hN20.out HLA.out
    obtain ⟨M2, mm, hlast, hM2, HCUT, hmm⟩ : ∃ M2 mm : Nat, last = (M2 : Int) - 1 ∧ M2 ≤ N20 ∧ Hid (cutLast (cutW r) (keptG q D.cache D.cache.length) = lostL q r mm D.cache M2) ∧ (0 < M2 → mm = M2 - 1) := by
      rcases HLO with ⟨e, h⟩ | ⟨m, e, hm, h⟩
      · exact ⟨0, 0, by omega, Nat.zero_le _, h, fun h => absurd h (Nat.lt_irrefl _)⟩
      · exact ⟨m + 1, m, by omega, hm, h, fun _ => by omega⟩
    have HLAST : Hid (last = (M2 : Int) - 1) := hlast
    clear HLO HLA hlast y1 f1
    go_wp2
    go_loopg [6] M2 (fun g i wr => ∃ k : Nat, k ≤ M2 ∧ g = M2 - k ∧ i = .int .i64 k ∧ ∃ s1, MS wr B X gs sc ca cc fa fc s1 cs D (settleL D.secs (lostL q r mm D.cache k)) ∧ VN wr w.heap.size 79 [.int .i64 p, .int .i64 q, .int .i64 (r : Int)] ∧ Below B w wr)
    case atStart => exact ⟨0, Nat.zero_le _, rfl, rfl, ss, hM, hF, hB⟩
    case round =>
      clear hM hF hB
      obtain ⟨k, hk, rfl, rfl, s1, hM, hF, hB⟩ := hrel
      have hsz := hB.size
      by_cases hlt : k < M2
      · have hkz : (k : Int) ≤ last := by rw [HLAST.out]; omega
        have hkc : k < D.cache.length := by omega
        have hkcz : (k : Int) < (D.cache.length : Int) := by omega
        obtain ⟨gl, el, -, hgl, hcl'⟩ := hM.cache.cell (by rw [wcells_len hM.nc]; omega)
        subst el
        have hv := List.getElem?_eq_getElem (l := cs) (i := k) (by rw [hM.nc]; omega)
        obtain ⟨w0, w1⟩ := wcells_get (List.getElem?_eq_getElem hkc) hv
        have x0 := hcl' _ _ w0
        have x1 := hcl' _ _ w1
        have hOB := hM.cb k _ (D.cache[k]).2 hv (by simp [hkc])
        obtain ⟨ua, uc, eu, -, hun, -, -⟩ := hOB.is
        have hV0 : View wr ua (D.cache[k]).2.length uc (bf (D.cache[k]).2) := by
          obtain ⟨a9, c9, e9, h9, -⟩ := hOB.lv.is
          rw [eu] at e9
          cases e9
          exact h9
        rw [eu] at x1
        obtain ⟨hN0, hN1⟩ := HN.out k hkc
        obtain ⟨mi, hmi⟩ : ∃ m : Nat, (D.cache[k]).1 = m := ⟨(D.cache[k]).1.toNat, by omega⟩
        have hmn : mi < D.secs.length := by omega
        have hmz : (mi : Int) < (D.secs.length : Int) := by omega
        rw [hmi] at x0
        have hlen := HCB.out _ (List.getElem_mem hkc)
        have z1 : wr.cell? ⟨X, 1, none⟩ = some (.slice (some ⟨gl, 0, none⟩) D.cache.length cc) := hM.x.cell 1
        have HY : Hid (D.cache[k] = ((mi : Int), (D.cache[k]).2)) := Prod.ext hmi rfl
        obtain ⟨bs, hbs⟩ := hidEx (D.cache[k]).2
        rw [hbs.out] at x1 hV0 hlen HY
        obtain ⟨bn, hbn⟩ := hidEx bs.length
        rw [hbn.out] at x1 hlen
        have hbA : Below wr.heap.size wr (wr.alloc (.cells #[.int .i64 (mi : Int), .slice ua bn uc] 51)) := (Below.refl _ _).alloc (Nat.le_refl _) _
        have hb70 := VN.new wr 51 [.int .i64 (mi : Int), .slice ua bn uc]
        have hMA := hM.on hbA
        have hFA := hF.below hbA
        have hBA := hB.trans (hbA.mono (by omega))
        have hVA := hV0.below hbA
        have hbit := bit_and hq0 hq1 k
        have hk64 : (k : Int) ≤ 64 := by omega
        have HW : Hid (MS wr B X gs sc (some ⟨gl, 0, none⟩) cc fa fc s1 cs D (settleL D.secs (lostL q r mm D.cache k)) ∧ VN wr w.heap.size 79 [.int .i64 p, .int .i64 q, .int .i64 (r : Int)] ∧ Below B w wr ∧ View wr ua bs.length uc (bf bs)) := ⟨hM, hF, hB, hV0⟩
        clear hcl' w0 w1 hv hOB hV0 hM hF hB eu hmi hN0 hN1
        obtain ⟨WA, hWA⟩ := hidEx (wr.alloc (.cells #[.int .i64 (mi : Int), .slice ua bn uc] 51))
        rw [hWA.out] at hb70 hMA hFA hBA hVA hbA
        have fa1 : WA.cell? ⟨w.heap.size, 1, none⟩ = some (.int .i64 q) := hFA.cell 1
        have fa2 : WA.cell? ⟨w.heap.size, 2, none⟩ = some (.int .i64 (r : Int)) := hFA.cell 2
        have v0 : WA.cell? ⟨wr.heap.size, 0, none⟩ = some (.int .i64 (mi : Int)) := hb70.cell 0
        have v1 : WA.cell? ⟨wr.heap.size, 1, none⟩ = some (.slice ua bn uc) := hb70.cell 1
        have vz1 := hb70.fz 1
        by_cases hbt : q / 2 ^ k % 2 = 1
        · rw [hbt] at hbit
          have hbO : bitOf q k = true := decide_eq_true hbt
          have hY0 : wr.heap.size < WA.heap.size := hb70.lt
          by_cases hcut : k = M2 - 1 ∧ r < bn
          · have hkm : mm = k := by rw [hmm (by omega)]; exact hcut.1.symm
            have hke' : last = (k : Int) := by rw [HLAST.out]; omega
            subst hke'
            have hrz : (r : Int) < (bn : Int) := by omega
            have hruc : (r : Int) ≤ (uc : Int) := by have := hVA.le; have := hbn.out; omega
            obtain ⟨pl, hpl⟩ := hidEx (bs.take r)
            have HNX : Hid (settleL D.secs (lostL q r mm D.cache (k + 1)) = (settleL D.secs (lostL q r mm D.cache k)).set mi pl) := by
              show _ = _
              rw [lostL_yes hbO hkc, settle_snoc, if_pos hkm.symm, HY.out]
              simp [cutW, hpl.out]
            have HPN : Hid (pl.length = r) := by show _ = _; rw [← hpl.out, List.length_take, hbn.out]; omega
            have hb2W : Below wr.heap.size wr (WA.setCell ⟨wr.heap.size, 1, none⟩ (.slice ua r uc)) := hbA.setCell (p := ⟨wr.heap.size, 1, none⟩) (Nat.le_refl _) _
            have hV : View (WA.setCell ⟨wr.heap.size, 1, none⟩ (.slice ua r uc)) ua r uc (bf pl) := by
              have h9 := (HW.out.2.2.2.below hb2W).take (m := r) (by rw [hbn.out]; omega)
              refine h9.congr (fun i hi => ?_)
              rw [← hpl.out]
              unfold bf
              rw [List.getD_eq_getElem?_getD, List.getD_eq_getElem?_getD, List.getElem?_take, if_pos hi]
            have hM := HW.out.1.on hb2W
            have hF := HW.out.2.1.below hb2W
            have hB := HW.out.2.2.1.trans (hb2W.mono (by omega))
            have hb7 := hb70.set 1 (.slice ua r uc)
            simp only [List.set] at hb7
            have hsz2 : B ≤ (WA.setCell ⟨wr.heap.size, 1, none⟩ (.slice ua r uc)).heap.size := by have := hb2W.size; omega
            have hunl : r ≤ 1048576 := by omega
            obtain ⟨W2, hW2⟩ := hidEx (WA.setCell ⟨wr.heap.size, 1, none⟩ (.slice ua r uc))
            rw [hW2.out] at hV hM hF hB hb7 hsz2
            have HCU : Hid (k = M2 - 1 ∧ r < bn) := hcut
            clear hMA hFA hBA hVA hb2W HW hcut hkm
            go_wp2_with (first | rw [hWA.out] | rw [hW2.out])
            as_aux_lemma =>
              refine wp_region_held_drew (S := fun W => W.cell? ⟨X, 0, none⟩ = some (.slice (some ⟨gs, 0, none⟩) D.secs.length sc) ∧ W.cell? ⟨wr.heap.size, 0, none⟩ = some (.int .i64 (mi : Int)) ∧ W.cell? ⟨wr.heap.size, 1, none⟩ = some (.slice ua r uc)) (by kernel_rfl) ⟨hM.x.cell 0, hb7.cell 0, hb7.cell 1⟩ (fun hHeld => ?_)
              have hbd : Below W2.heap.size W2 W2.drew := (Below.refl _ _).drew
              have hBd : B ≤ W2.drew.heap.size := hsz2
              have hVd : View W2.drew ua r uc (bf pl) := hV.below hbd
              replace hM := hM.on hbd
              replace hb7 := hb7.below hbd
              replace hF := hF.below hbd
              replace hB := hB.trans (hbd.mono hsz2)
              clear hbd hV
              obtain ⟨wd, hwd⟩ := hidEx W2.drew
              rw [hwd.out] at hM hb7 hF hB hBd hVd hHeld ⊢
              refine' wpAnyH_take (i := 0) (v := _) rfl (by kernel_rfl) (by kernel_rfl) (by kernel_rfl) (fun _ _ _ h => h) (Or.inl ⟨by kernel_rfl, ?hla1⟩) (by assumption) ?rla1
              case hla1 => intro W hW; obtain ⟨c0, c1, c2⟩ := hW; go_simp; all_goals with_reducible rfl
              change wpAnyH _ _ _ _ _ _ _ (Act.put _ (some 65) _) _
              simp only [Act.put, List.setIfInBounds_toArray, List.set_cons_zero, List.set_cons_succ]
              refine' wpAnyH_take (i := 1) (v := _) rfl (by kernel_rfl) (by kernel_rfl) (by kernel_rfl) (fun _ _ _ h => h) (Or.inl ⟨by kernel_rfl, ?hla2⟩) (by assumption) ?rla2
              case hla2 => intro W hW; obtain ⟨c0, c1, c2⟩ := hW; go_simp; all_goals with_reducible rfl
              change wpAnyH _ _ _ _ _ _ _ (Act.put _ (some 66) _) _
              simp only [Act.put, List.setIfInBounds_toArray, List.set_cons_zero, List.set_cons_succ]
              refine' wpAnyH_take (i := 2) (v := _) rfl (by kernel_rfl) (by kernel_rfl) (by kernel_rfl) (fun _ _ _ h => h) (Or.inl ⟨by kernel_rfl, ?hla3⟩) (by assumption) ?rla3
              case hla3 => intro W hW; obtain ⟨c0, c1, c2⟩ := hW; go_simp; all_goals with_reducible rfl
              change wpAnyH _ _ _ _ _ _ _ (Act.put _ (some 67) _) _
              simp only [Act.put, List.setIfInBounds_toArray, List.set_cons_zero, List.set_cons_succ]
              refine' wpAnyH_take (i := 3) (v := _) rfl (by kernel_rfl) (by kernel_rfl) (by kernel_rfl) (fun _ _ _ h => h) (Or.inl ⟨by kernel_rfl, ?hla4⟩) (by assumption) ?rla4
              case hla4 => intro W hW; obtain ⟨c0, c1, c2⟩ := hW; go_simp; all_goals with_reducible rfl
              change wpAnyH _ _ _ _ _ _ _ (Act.put _ (some 68) _) _
              simp only [Act.put, List.setIfInBounds_toArray, List.set_cons_zero, List.set_cons_succ]
              refine' wpAnyH_take (i := 4) (v := _) rfl (by kernel_rfl) (by kernel_rfl) (by kernel_rfl) (fun _ _ _ h => h) (Or.inl ⟨by kernel_rfl, ?hla5⟩) (by assumption) ?rla5
              case hla5 => intro W hW; obtain ⟨c0, c1, c2⟩ := hW; go_simp; all_goals with_reducible rfl
              change wpAnyH _ _ _ _ _ _ _ (Act.put _ (some 69) _) _
              simp only [Act.put, List.setIfInBounds_toArray, List.set_cons_zero, List.set_cons_succ]
              refine' wpAnyH_take (i := 5) (v := _) rfl (by kernel_rfl) (by kernel_rfl) (by kernel_rfl) (fun _ _ _ h => h) (Or.inl ⟨by kernel_rfl, ?hla6⟩) (by assumption) ?rla6
              case hla6 => intro W hW; obtain ⟨c0, c1, c2⟩ := hW; go_simp; all_goals with_reducible rfl
              change wpAnyH _ _ _ _ _ _ _ (Act.put _ (some 70) _) _
              simp only [Act.put, List.setIfInBounds_toArray, List.set_cons_zero, List.set_cons_succ]
              refine' wpAnyH_take (i := 7) (v := _) rfl (by kernel_rfl) (by kernel_rfl) (by kernel_rfl) (fun _ _ _ h => h) (Or.inl ⟨by kernel_rfl, ?hla7⟩) (by assumption) ?rla7
              case hla7 => intro W hW; obtain ⟨c0, c1, c2⟩ := hW; go_simp; all_goals with_reducible rfl
              change wpAnyH _ _ _ _ _ _ _ (Act.put _ (some 72) _) _
              simp only [Act.put, List.setIfInBounds_toArray, List.set_cons_zero, List.set_cons_succ]
              refine' wpAnyH_take (i := 8) (v := _) rfl (by kernel_rfl) (by kernel_rfl) (by kernel_rfl) (fun _ _ _ h => h) (Or.inl ⟨by kernel_rfl, ?hla8⟩) (by assumption) ?rla8
              case hla8 => intro W hW; obtain ⟨c0, c1, c2⟩ := hW; go_simp; all_goals with_reducible rfl
              change wpAnyH _ _ _ _ _ _ _ (Act.put _ (some 73) _) _
              simp only [Act.put, List.setIfInBounds_toArray, List.set_cons_zero, List.set_cons_succ]
              refine wpAnyH_ready (rs := [6]) (by kernel_rfl) (by simp) ?_
              refine AllReadyH.cons rfl (fun KK hK => ?_) AllReadyH.nil
              go_simp
              have hbA : Below wd.heap.size wd (wd.alloc (.cells #[] 5)) := (Below.refl _ _).alloc (Nat.le_refl _) _
              have hE := own_emptyK wd 5 1
              have hMe := hM.on hbA
              have hbe := hb7.below hbA
              refine hK.out _ _ ⟨hMe.x.cell 0, hbe.cell 0, hbe.cell 1⟩ (fun hHeld => ?_)
              clear hK KK
              try simp only [Act.put, List.setIfInBounds_toArray, List.set_cons_zero, List.set_cons_succ]
              refine wpAnyH_ready (rs := [9]) (by kernel_rfl) (by simp) ?_
              refine AllReadyH.cons rfl (fun KK hK => ?_) AllReadyH.nil
              rw [if_pos (by kernel_rfl)]
              have hvw : View (wd.alloc (.cells #[] 5)) ua r uc (bf pl) := hVd.below hbA
              refine wp_append_opt (.tmp 71) (.tmp 73) 27 rfl wd.heap.size 5 ib (.int .u8 0) 1 1 Try.underlying27 hib hb0 hb1 hb2 rfl (by decide) _ _ _ rfl hE ua r uc (bl pl) rfl (fun e => by have h1 := hun e; have h2 := hvw.le; omega) (by rw [bl_len, HPN.out]; omega) (view_news (by rw [HPN.out]; exact hvw)) (bl_one _) (by unfold maxLen; omega) (by omega) hbA.size ?_
              intro v8 w8 hE8 hgr8
              rw [Nat.zero_add, List.nil_append] at hE8
              have hb8 : Below wd.heap.size wd w8 := hbA.grown hgr8 hbA.size (fun k e => own_geK hE k e)
              have hO8 : OB w8 B v8 pl := (ob_own_any hE8 HPN.out.symm (lv_bytes (by rw [HPN.out]; exact hvw))).mono (by omega)
              have h18 : ∃ a8 c8, v8 = .slice a8 r c8 := by obtain ⟨a8, c8, e8, -⟩ := own_rl hE8; exact ⟨a8, c8, e8⟩
              obtain ⟨a8, c8, rfl⟩ := h18
              have hM8 := hM.on hb8
              have hb78 := hb7.below hb8
              have hF8 := hF.below hb8
              have hB8 := hB.trans (hb8.mono hBd)
              clear hE hgr8 hE8 hvw hbA hMe hbe hM hb7 hF hB hb8
              refine hK.out _ _ ⟨hM8.x.cell 0, hb78.cell 0, hb78.cell 1⟩ (fun hHeld => ?_)
              clear hK KK
              change wpAnyH _ _ _ _ _ _ _ (Act.put _ (some 74) _) _
              try simp only [Act.put, List.setIfInBounds_toArray, List.set_cons_zero, List.set_cons_succ]
              refine' wpAnyH_take (i := 10) (v := _) rfl (by kernel_rfl) (by kernel_rfl) (by kernel_rfl) (fun _ _ _ h => h) (Or.inl ⟨by kernel_rfl, ?hla9⟩) (by assumption) ?rla9
              case hla9 => intro W hW; obtain ⟨c0, c1, c2⟩ := hW; go_simp; all_goals with_reducible rfl
              change wpAnyH _ _ _ _ _ _ _ (Act.put _ (some 75) _) _
              simp only [Act.put, List.setIfInBounds_toArray, List.set_cons_zero, List.set_cons_succ]
              refine wpAnyH_ready (rs := [11]) (by kernel_rfl) (by simp) ?_
              refine AllReadyH.cons rfl (fun KK hK => ?_) AllReadyH.nil
              have hz := hM8.secs.cellFz (by rw [hM8.ns]; omega) mi
              obtain ⟨g9, e9, hg9, -, hc9⟩ := hM8.secs.cell (by rw [hM8.ns]; omega)
              cases e9
              have hcm := hc9 mi _ (List.getElem?_eq_getElem (by rw [hM8.ns]; omega))
              go_simp
              have hM9 := hM8.put hmn hO8
              have hk9 : KeepT (fun t => t = 27) w8 (w8.setCell ⟨gs, mi, none⟩ (.slice a8 r c8)) := KeepT.set hM8.secs (by rw [hM8.ns]; omega) rfl
              have hb79 : VN (w8.setCell ⟨gs, mi, none⟩ (.slice a8 r c8)) wr.heap.size 51 [.int .i64 (mi : Int), .slice ua r uc] := hb78.block (hk9 _ _ _ _ hb78 (by decide))
              have hF9 : VN (w8.setCell ⟨gs, mi, none⟩ (.slice a8 r c8)) w.heap.size 79 [.int .i64 p, .int .i64 q, .int .i64 (r : Int)] := hF8.block (hk9 _ _ _ _ hF8 (by decide))
              have hB9 : Below B w (w8.setCell ⟨gs, mi, none⟩ (.slice a8 r c8)) := hB8.setCell (p := ⟨gs, mi, none⟩) hg9 _
              have hs9 : (w8.setCell ⟨gs, mi, none⟩ (.slice a8 r c8)).heap.size = w8.heap.size := by simp
              clear hz hc9 hcm hM8 hk9 hb78 hF8 hB8
              refine hK.out _ _ ⟨hM9.x.cell 0, hb79.cell 0, hb79.cell 1⟩ (fun hHeld => ?_)
              clear hK KK
              try simp only [Act.put, List.setIfInBounds_toArray, List.set_cons_zero, List.set_cons_succ]
              refine wpAnyH_done (by kernel_rfl) ?_ _
              have HR : Hid (∃ s9, MS (w8.setCell ⟨gs, mi, none⟩ (.slice a8 r c8)) B X gs sc (some ⟨gl, 0, none⟩) cc fa fc s9 cs D (settleL D.secs (lostL q r mm D.cache (k + 1)))) := ⟨_, by rw [HNX.out]; exact hM9⟩
              have HF9 : Hid (VN (w8.setCell ⟨gs, mi, none⟩ (.slice a8 r c8)) w.heap.size 79 [.int .i64 p, .int .i64 q, .int .i64 (r : Int)] ∧ Below B w (w8.setCell ⟨gs, mi, none⟩ (.slice a8 r c8))) := ⟨hF9, hB9⟩
              clear hM9 hF9 hB9 hb79 hO8 hs9 hHeld
              go_wp2
              go_roundg (M2 - (k + 1))
              case measure => omega
              case rel =>
                obtain ⟨s9, hs9⟩ := HR.out
                exact ⟨k + 1, by omega, rfl, by go_num, s9, hs9, HF9.out.1, HF9.out.2⟩
          · have HCU : Hid (¬ (k = M2 - 1 ∧ r < bn)) := hcut
            have HNX : Hid (settleL D.secs (lostL q r mm D.cache (k + 1)) = (settleL D.secs (lostL q r mm D.cache k)).set mi bs) := by
              show _ = _
              rw [lostL_yes hbO hkc, settle_snoc, HY.out]
              by_cases e : k = mm
              · have hrb : bn ≤ r := by have h9 := hmm (by omega); omega
                rw [if_pos e]
                simp only [cutW, Int.toNat_natCast]
                rw [List.take_of_length_le (by rw [hbn.out]; exact hrb)]
              · rw [if_neg e]
                simp
            have HPN : Hid (bs.length = bn) := hbn
            have hV : View WA ua bn uc (bf bs) := by rw [← hbn.out]; exact hVA
            have hM := hMA
            have hF := hFA
            have hB := hBA
            have hb7 := hb70
            have hsz2 : B ≤ WA.heap.size := by omega
            clear hMA hFA hBA hVA HW hcut
            by_cases hke1 : last = (k : Int)
            · have hrz : ¬ (r : Int) < (bn : Int) := fun h => HCU.out ⟨by have := HLAST.out; omega, by omega⟩
              subst hke1
              go_wp2_with (rw [hWA.out])
              as_aux_lemma =>
                refine wp_region_held_drew (S := fun W => W.cell? ⟨X, 0, none⟩ = some (.slice (some ⟨gs, 0, none⟩) D.secs.length sc) ∧ W.cell? ⟨wr.heap.size, 0, none⟩ = some (.int .i64 (mi : Int)) ∧ W.cell? ⟨wr.heap.size, 1, none⟩ = some (.slice ua bn uc)) (by kernel_rfl) ⟨hM.x.cell 0, hb7.cell 0, hb7.cell 1⟩ (fun hHeld => ?_)
                have hbd : Below WA.heap.size WA WA.drew := (Below.refl _ _).drew
                have hBd : B ≤ WA.drew.heap.size := hsz2
                have hVd : View WA.drew ua bn uc (bf bs) := hV.below hbd
                replace hM := hM.on hbd
                replace hb7 := hb7.below hbd
                replace hF := hF.below hbd
                replace hB := hB.trans (hbd.mono hsz2)
                clear hbd hV
                obtain ⟨wd, hwd⟩ := hidEx WA.drew
                rw [hwd.out] at hM hb7 hF hB hBd hVd hHeld ⊢
                refine' wpAnyH_take (i := 0) (v := _) rfl (by kernel_rfl) (by kernel_rfl) (by kernel_rfl) (fun _ _ _ h => h) (Or.inl ⟨by kernel_rfl, ?hlb1⟩) (by assumption) ?rlb1
                case hlb1 => intro W hW; obtain ⟨c0, c1, c2⟩ := hW; go_simp; all_goals with_reducible rfl
                change wpAnyH _ _ _ _ _ _ _ (Act.put _ (some 65) _) _
                simp only [Act.put, List.setIfInBounds_toArray, List.set_cons_zero, List.set_cons_succ]
                refine' wpAnyH_take (i := 1) (v := _) rfl (by kernel_rfl) (by kernel_rfl) (by kernel_rfl) (fun _ _ _ h => h) (Or.inl ⟨by kernel_rfl, ?hlb2⟩) (by assumption) ?rlb2
                case hlb2 => intro W hW; obtain ⟨c0, c1, c2⟩ := hW; go_simp; all_goals with_reducible rfl
                change wpAnyH _ _ _ _ _ _ _ (Act.put _ (some 66) _) _
                simp only [Act.put, List.setIfInBounds_toArray, List.set_cons_zero, List.set_cons_succ]
                refine' wpAnyH_take (i := 2) (v := _) rfl (by kernel_rfl) (by kernel_rfl) (by kernel_rfl) (fun _ _ _ h => h) (Or.inl ⟨by kernel_rfl, ?hlb3⟩) (by assumption) ?rlb3
                case hlb3 => intro W hW; obtain ⟨c0, c1, c2⟩ := hW; go_simp; all_goals with_reducible rfl
                change wpAnyH _ _ _ _ _ _ _ (Act.put _ (some 67) _) _
                simp only [Act.put, List.setIfInBounds_toArray, List.set_cons_zero, List.set_cons_succ]
                refine' wpAnyH_take (i := 3) (v := _) rfl (by kernel_rfl) (by kernel_rfl) (by kernel_rfl) (fun _ _ _ h => h) (Or.inl ⟨by kernel_rfl, ?hlb4⟩) (by assumption) ?rlb4
                case hlb4 => intro W hW; obtain ⟨c0, c1, c2⟩ := hW; go_simp; all_goals with_reducible rfl
                change wpAnyH _ _ _ _ _ _ _ (Act.put _ (some 68) _) _
                simp only [Act.put, List.setIfInBounds_toArray, List.set_cons_zero, List.set_cons_succ]
                refine' wpAnyH_take (i := 4) (v := _) rfl (by kernel_rfl) (by kernel_rfl) (by kernel_rfl) (fun _ _ _ h => h) (Or.inl ⟨by kernel_rfl, ?hlb5⟩) (by assumption) ?rlb5
                case hlb5 => intro W hW; obtain ⟨c0, c1, c2⟩ := hW; go_simp; all_goals with_reducible rfl
                change wpAnyH _ _ _ _ _ _ _ (Act.put _ (some 69) _) _
                simp only [Act.put, List.setIfInBounds_toArray, List.set_cons_zero, List.set_cons_succ]
                refine' wpAnyH_take (i := 5) (v := _) rfl (by kernel_rfl) (by kernel_rfl) (by kernel_rfl) (fun _ _ _ h => h) (Or.inl ⟨by kernel_rfl, ?hlb6⟩) (by assumption) ?rlb6
                case hlb6 => intro W hW; obtain ⟨c0, c1, c2⟩ := hW; go_simp; all_goals with_reducible rfl
                change wpAnyH _ _ _ _ _ _ _ (Act.put _ (some 70) _) _
                simp only [Act.put, List.setIfInBounds_toArray, List.set_cons_zero, List.set_cons_succ]
                refine' wpAnyH_take (i := 7) (v := _) rfl (by kernel_rfl) (by kernel_rfl) (by kernel_rfl) (fun _ _ _ h => h) (Or.inl ⟨by kernel_rfl, ?hlb7⟩) (by assumption) ?rlb7
                case hlb7 => intro W hW; obtain ⟨c0, c1, c2⟩ := hW; go_simp; all_goals with_reducible rfl
                change wpAnyH _ _ _ _ _ _ _ (Act.put _ (some 72) _) _
                simp only [Act.put, List.setIfInBounds_toArray, List.set_cons_zero, List.set_cons_succ]
                refine' wpAnyH_take (i := 8) (v := _) rfl (by kernel_rfl) (by kernel_rfl) (by kernel_rfl) (fun _ _ _ h => h) (Or.inl ⟨by kernel_rfl, ?hlb8⟩) (by assumption) ?rlb8
                case hlb8 => intro W hW; obtain ⟨c0, c1, c2⟩ := hW; go_simp; all_goals with_reducible rfl
                change wpAnyH _ _ _ _ _ _ _ (Act.put _ (some 73) _) _
                simp only [Act.put, List.setIfInBounds_toArray, List.set_cons_zero, List.set_cons_succ]
                refine wpAnyH_ready (rs := [6]) (by kernel_rfl) (by simp) ?_
                refine AllReadyH.cons rfl (fun KK hK => ?_) AllReadyH.nil
                go_simp
                have hbA : Below wd.heap.size wd (wd.alloc (.cells #[] 5)) := (Below.refl _ _).alloc (Nat.le_refl _) _
                have hE := own_emptyK wd 5 1
                have hMe := hM.on hbA
                have hbe := hb7.below hbA
                refine hK.out _ _ ⟨hMe.x.cell 0, hbe.cell 0, hbe.cell 1⟩ (fun hHeld => ?_)
                clear hK KK
                try simp only [Act.put, List.setIfInBounds_toArray, List.set_cons_zero, List.set_cons_succ]
                refine wpAnyH_ready (rs := [9]) (by kernel_rfl) (by simp) ?_
                refine AllReadyH.cons rfl (fun KK hK => ?_) AllReadyH.nil
                rw [if_pos (by kernel_rfl)]
                have hvw : View (wd.alloc (.cells #[] 5)) ua bn uc (bf bs) := hVd.below hbA
                refine wp_append_opt (.tmp 71) (.tmp 73) 27 rfl wd.heap.size 5 ib (.int .u8 0) 1 1 Try.underlying27 hib hb0 hb1 hb2 rfl (by decide) _ _ _ rfl hE ua bn uc (bl bs) rfl (fun e => by have h1 := hun e; have h2 := hvw.le; omega) (by rw [bl_len, HPN.out]; omega) (view_news (by rw [HPN.out]; exact hvw)) (bl_one _) (by unfold maxLen; omega) (by omega) hbA.size ?_
                intro v8 w8 hE8 hgr8
                rw [Nat.zero_add, List.nil_append] at hE8
                have hb8 : Below wd.heap.size wd w8 := hbA.grown hgr8 hbA.size (fun k e => own_geK hE k e)
                have hO8 : OB w8 B v8 bs := (ob_own_any hE8 HPN.out.symm (lv_bytes (by rw [HPN.out]; exact hvw))).mono (by omega)
                have h18 : ∃ a8 c8, v8 = .slice a8 bn c8 := by obtain ⟨a8, c8, e8, -⟩ := own_rl hE8; exact ⟨a8, c8, e8⟩
                obtain ⟨a8, c8, rfl⟩ := h18
                have hM8 := hM.on hb8
                have hb78 := hb7.below hb8
                have hF8 := hF.below hb8
                have hB8 := hB.trans (hb8.mono hBd)
                clear hE hgr8 hE8 hvw hbA hMe hbe hM hb7 hF hB hb8
                refine hK.out _ _ ⟨hM8.x.cell 0, hb78.cell 0, hb78.cell 1⟩ (fun hHeld => ?_)
                clear hK KK
                change wpAnyH _ _ _ _ _ _ _ (Act.put _ (some 74) _) _
                try simp only [Act.put, List.setIfInBounds_toArray, List.set_cons_zero, List.set_cons_succ]
                refine' wpAnyH_take (i := 10) (v := _) rfl (by kernel_rfl) (by kernel_rfl) (by kernel_rfl) (fun _ _ _ h => h) (Or.inl ⟨by kernel_rfl, ?hlb9⟩) (by assumption) ?rlb9
                case hlb9 => intro W hW; obtain ⟨c0, c1, c2⟩ := hW; go_simp; all_goals with_reducible rfl
                change wpAnyH _ _ _ _ _ _ _ (Act.put _ (some 75) _) _
                simp only [Act.put, List.setIfInBounds_toArray, List.set_cons_zero, List.set_cons_succ]
                refine wpAnyH_ready (rs := [11]) (by kernel_rfl) (by simp) ?_
                refine AllReadyH.cons rfl (fun KK hK => ?_) AllReadyH.nil
                have hz := hM8.secs.cellFz (by rw [hM8.ns]; omega) mi
                obtain ⟨g9, e9, hg9, -, hc9⟩ := hM8.secs.cell (by rw [hM8.ns]; omega)
                cases e9
                have hcm := hc9 mi _ (List.getElem?_eq_getElem (by rw [hM8.ns]; omega))
                go_simp
                have hM9 := hM8.put hmn hO8
                have hk9 : KeepT (fun t => t = 27) w8 (w8.setCell ⟨gs, mi, none⟩ (.slice a8 bn c8)) := KeepT.set hM8.secs (by rw [hM8.ns]; omega) rfl
                have hb79 : VN (w8.setCell ⟨gs, mi, none⟩ (.slice a8 bn c8)) wr.heap.size 51 [.int .i64 (mi : Int), .slice ua bn uc] := hb78.block (hk9 _ _ _ _ hb78 (by decide))
                have hF9 : VN (w8.setCell ⟨gs, mi, none⟩ (.slice a8 bn c8)) w.heap.size 79 [.int .i64 p, .int .i64 q, .int .i64 (r : Int)] := hF8.block (hk9 _ _ _ _ hF8 (by decide))
                have hB9 : Below B w (w8.setCell ⟨gs, mi, none⟩ (.slice a8 bn c8)) := hB8.setCell (p := ⟨gs, mi, none⟩) hg9 _
                have hs9 : (w8.setCell ⟨gs, mi, none⟩ (.slice a8 bn c8)).heap.size = w8.heap.size := by simp
                clear hz hc9 hcm hM8 hk9 hb78 hF8 hB8
                refine hK.out _ _ ⟨hM9.x.cell 0, hb79.cell 0, hb79.cell 1⟩ (fun hHeld => ?_)
                clear hK KK
                try simp only [Act.put, List.setIfInBounds_toArray, List.set_cons_zero, List.set_cons_succ]
                refine wpAnyH_done (by kernel_rfl) ?_ _
                have HR : Hid (∃ s9, MS (w8.setCell ⟨gs, mi, none⟩ (.slice a8 bn c8)) B X gs sc (some ⟨gl, 0, none⟩) cc fa fc s9 cs D (settleL D.secs (lostL q r mm D.cache (k + 1)))) := ⟨_, by rw [HNX.out]; exact hM9⟩
                have HF9 : Hid (VN (w8.setCell ⟨gs, mi, none⟩ (.slice a8 bn c8)) w.heap.size 79 [.int .i64 p, .int .i64 q, .int .i64 (r : Int)] ∧ Below B w (w8.setCell ⟨gs, mi, none⟩ (.slice a8 bn c8))) := ⟨hF9, hB9⟩
                clear hM9 hF9 hB9 hb79 hO8 hs9 hHeld
                go_wp2
                go_roundg (M2 - (k + 1))
                case measure => omega
                case rel =>
                  obtain ⟨s9, hs9⟩ := HR.out
                  exact ⟨k + 1, by omega, rfl, by go_num, s9, hs9, HF9.out.1, HF9.out.2⟩
            · have hke2 : ((k : Int) == last) = false := beq_eq_false_iff_ne.2 (fun h => hke1 h.symm)
              go_wp2_with (rw [hWA.out])
              as_aux_lemma =>
                refine wp_region_held_drew (S := fun W => W.cell? ⟨X, 0, none⟩ = some (.slice (some ⟨gs, 0, none⟩) D.secs.length sc) ∧ W.cell? ⟨wr.heap.size, 0, none⟩ = some (.int .i64 (mi : Int)) ∧ W.cell? ⟨wr.heap.size, 1, none⟩ = some (.slice ua bn uc)) (by kernel_rfl) ⟨hM.x.cell 0, hb7.cell 0, hb7.cell 1⟩ (fun hHeld => ?_)
                have hbd : Below WA.heap.size WA WA.drew := (Below.refl _ _).drew
                have hBd : B ≤ WA.drew.heap.size := hsz2
                have hVd : View WA.drew ua bn uc (bf bs) := hV.below hbd
                replace hM := hM.on hbd
                replace hb7 := hb7.below hbd
                replace hF := hF.below hbd
                replace hB := hB.trans (hbd.mono hsz2)
                clear hbd hV
                obtain ⟨wd, hwd⟩ := hidEx WA.drew
                rw [hwd.out] at hM hb7 hF hB hBd hVd hHeld ⊢
                refine' wpAnyH_take (i := 0) (v := _) rfl (by kernel_rfl) (by kernel_rfl) (by kernel_rfl) (fun _ _ _ h => h) (Or.inl ⟨by kernel_rfl, ?hlc1⟩) (by assumption) ?rlc1
                case hlc1 => intro W hW; obtain ⟨c0, c1, c2⟩ := hW; go_simp; all_goals with_reducible rfl
                change wpAnyH _ _ _ _ _ _ _ (Act.put _ (some 65) _) _
                simp only [Act.put, List.setIfInBounds_toArray, List.set_cons_zero, List.set_cons_succ]
                refine' wpAnyH_take (i := 1) (v := _) rfl (by kernel_rfl) (by kernel_rfl) (by kernel_rfl) (fun _ _ _ h => h) (Or.inl ⟨by kernel_rfl, ?hlc2⟩) (by assumption) ?rlc2
                case hlc2 => intro W hW; obtain ⟨c0, c1, c2⟩ := hW; go_simp; all_goals with_reducible rfl
                change wpAnyH _ _ _ _ _ _ _ (Act.put _ (some 66) _) _
                simp only [Act.put, List.setIfInBounds_toArray, List.set_cons_zero, List.set_cons_succ]
                refine' wpAnyH_take (i := 2) (v := _) rfl (by kernel_rfl) (by kernel_rfl) (by kernel_rfl) (fun _ _ _ h => h) (Or.inl ⟨by kernel_rfl, ?hlc3⟩) (by assumption) ?rlc3
                case hlc3 => intro W hW; obtain ⟨c0, c1, c2⟩ := hW; go_simp; all_goals with_reducible rfl
                change wpAnyH _ _ _ _ _ _ _ (Act.put _ (some 67) _) _
                simp only [Act.put, List.setIfInBounds_toArray, List.set_cons_zero, List.set_cons_succ]
                refine' wpAnyH_take (i := 3) (v := _) rfl (by kernel_rfl) (by kernel_rfl) (by kernel_rfl) (fun _ _ _ h => h) (Or.inl ⟨by kernel_rfl, ?hlc4⟩) (by assumption) ?rlc4
                case hlc4 => intro W hW; obtain ⟨c0, c1, c2⟩ := hW; go_simp; all_goals with_reducible rfl
                change wpAnyH _ _ _ _ _ _ _ (Act.put _ (some 68) _) _
                simp only [Act.put, List.setIfInBounds_toArray, List.set_cons_zero, List.set_cons_succ]
                refine' wpAnyH_take (i := 4) (v := _) rfl (by kernel_rfl) (by kernel_rfl) (by kernel_rfl) (fun _ _ _ h => h) (Or.inl ⟨by kernel_rfl, ?hlc5⟩) (by assumption) ?rlc5
                case hlc5 => intro W hW; obtain ⟨c0, c1, c2⟩ := hW; go_simp; all_goals with_reducible rfl
                change wpAnyH _ _ _ _ _ _ _ (Act.put _ (some 69) _) _
                simp only [Act.put, List.setIfInBounds_toArray, List.set_cons_zero, List.set_cons_succ]
                refine' wpAnyH_take (i := 5) (v := _) rfl (by kernel_rfl) (by kernel_rfl) (by kernel_rfl) (fun _ _ _ h => h) (Or.inl ⟨by kernel_rfl, ?hlc6⟩) (by assumption) ?rlc6
                case hlc6 => intro W hW; obtain ⟨c0, c1, c2⟩ := hW; go_simp; all_goals with_reducible rfl
                change wpAnyH _ _ _ _ _ _ _ (Act.put _ (some 70) _) _
                simp only [Act.put, List.setIfInBounds_toArray, List.set_cons_zero, List.set_cons_succ]
                refine' wpAnyH_take (i := 7) (v := _) rfl (by kernel_rfl) (by kernel_rfl) (by kernel_rfl) (fun _ _ _ h => h) (Or.inl ⟨by kernel_rfl, ?hlc7⟩) (by assumption) ?rlc7
                case hlc7 => intro W hW; obtain ⟨c0, c1, c2⟩ := hW; go_simp; all_goals with_reducible rfl
                change wpAnyH _ _ _ _ _ _ _ (Act.put _ (some 72) _) _
                simp only [Act.put, List.setIfInBounds_toArray, List.set_cons_zero, List.set_cons_succ]
                refine' wpAnyH_take (i := 8) (v := _) rfl (by kernel_rfl) (by kernel_rfl) (by kernel_rfl) (fun _ _ _ h => h) (Or.inl ⟨by kernel_rfl, ?hlc8⟩) (by assumption) ?rlc8
                case hlc8 => intro W hW; obtain ⟨c0, c1, c2⟩ := hW; go_simp; all_goals with_reducible rfl
                change wpAnyH _ _ _ _ _ _ _ (Act.put _ (some 73) _) _
                simp only [Act.put, List.setIfInBounds_toArray, List.set_cons_zero, List.set_cons_succ]
                refine wpAnyH_ready (rs := [6]) (by kernel_rfl) (by simp) ?_
                refine AllReadyH.cons rfl (fun KK hK => ?_) AllReadyH.nil
                go_simp
                have hbA : Below wd.heap.size wd (wd.alloc (.cells #[] 5)) := (Below.refl _ _).alloc (Nat.le_refl _) _
                have hE := own_emptyK wd 5 1
                have hMe := hM.on hbA
                have hbe := hb7.below hbA
                refine hK.out _ _ ⟨hMe.x.cell 0, hbe.cell 0, hbe.cell 1⟩ (fun hHeld => ?_)
                clear hK KK
                try simp only [Act.put, List.setIfInBounds_toArray, List.set_cons_zero, List.set_cons_succ]
                refine wpAnyH_ready (rs := [9]) (by kernel_rfl) (by simp) ?_
                refine AllReadyH.cons rfl (fun KK hK => ?_) AllReadyH.nil
                rw [if_pos (by kernel_rfl)]
                have hvw : View (wd.alloc (.cells #[] 5)) ua bn uc (bf bs) := hVd.below hbA
                refine wp_append_opt (.tmp 71) (.tmp 73) 27 rfl wd.heap.size 5 ib (.int .u8 0) 1 1 Try.underlying27 hib hb0 hb1 hb2 rfl (by decide) _ _ _ rfl hE ua bn uc (bl bs) rfl (fun e => by have h1 := hun e; have h2 := hvw.le; omega) (by rw [bl_len, HPN.out]; omega) (view_news (by rw [HPN.out]; exact hvw)) (bl_one _) (by unfold maxLen; omega) (by omega) hbA.size ?_
                intro v8 w8 hE8 hgr8
                rw [Nat.zero_add, List.nil_append] at hE8
                have hb8 : Below wd.heap.size wd w8 := hbA.grown hgr8 hbA.size (fun k e => own_geK hE k e)
                have hO8 : OB w8 B v8 bs := (ob_own_any hE8 HPN.out.symm (lv_bytes (by rw [HPN.out]; exact hvw))).mono (by omega)
                have h18 : ∃ a8 c8, v8 = .slice a8 bn c8 := by obtain ⟨a8, c8, e8, -⟩ := own_rl hE8; exact ⟨a8, c8, e8⟩
                obtain ⟨a8, c8, rfl⟩ := h18
                have hM8 := hM.on hb8
                have hb78 := hb7.below hb8
                have hF8 := hF.below hb8
                have hB8 := hB.trans (hb8.mono hBd)
                clear hE hgr8 hE8 hvw hbA hMe hbe hM hb7 hF hB hb8
                refine hK.out _ _ ⟨hM8.x.cell 0, hb78.cell 0, hb78.cell 1⟩ (fun hHeld => ?_)
                clear hK KK
                change wpAnyH _ _ _ _ _ _ _ (Act.put _ (some 74) _) _
                try simp only [Act.put, List.setIfInBounds_toArray, List.set_cons_zero, List.set_cons_succ]
                refine' wpAnyH_take (i := 10) (v := _) rfl (by kernel_rfl) (by kernel_rfl) (by kernel_rfl) (fun _ _ _ h => h) (Or.inl ⟨by kernel_rfl, ?hlc9⟩) (by assumption) ?rlc9
                case hlc9 => intro W hW; obtain ⟨c0, c1, c2⟩ := hW; go_simp; all_goals with_reducible rfl
                change wpAnyH _ _ _ _ _ _ _ (Act.put _ (some 75) _) _
                simp only [Act.put, List.setIfInBounds_toArray, List.set_cons_zero, List.set_cons_succ]
                refine wpAnyH_ready (rs := [11]) (by kernel_rfl) (by simp) ?_
                refine AllReadyH.cons rfl (fun KK hK => ?_) AllReadyH.nil
                have hz := hM8.secs.cellFz (by rw [hM8.ns]; omega) mi
                obtain ⟨g9, e9, hg9, -, hc9⟩ := hM8.secs.cell (by rw [hM8.ns]; omega)
                cases e9
                have hcm := hc9 mi _ (List.getElem?_eq_getElem (by rw [hM8.ns]; omega))
                go_simp
                have hM9 := hM8.put hmn hO8
                have hk9 : KeepT (fun t => t = 27) w8 (w8.setCell ⟨gs, mi, none⟩ (.slice a8 bn c8)) := KeepT.set hM8.secs (by rw [hM8.ns]; omega) rfl
                have hb79 : VN (w8.setCell ⟨gs, mi, none⟩ (.slice a8 bn c8)) wr.heap.size 51 [.int .i64 (mi : Int), .slice ua bn uc] := hb78.block (hk9 _ _ _ _ hb78 (by decide))
                have hF9 : VN (w8.setCell ⟨gs, mi, none⟩ (.slice a8 bn c8)) w.heap.size 79 [.int .i64 p, .int .i64 q, .int .i64 (r : Int)] := hF8.block (hk9 _ _ _ _ hF8 (by decide))
                have hB9 : Below B w (w8.setCell ⟨gs, mi, none⟩ (.slice a8 bn c8)) := hB8.setCell (p := ⟨gs, mi, none⟩) hg9 _
                have hs9 : (w8.setCell ⟨gs, mi, none⟩ (.slice a8 bn c8)).heap.size = w8.heap.size := by simp
                clear hz hc9 hcm hM8 hk9 hb78 hF8 hB8
                refine hK.out _ _ ⟨hM9.x.cell 0, hb79.cell 0, hb79.cell 1⟩ (fun hHeld => ?_)
                clear hK KK
                try simp only [Act.put, List.setIfInBounds_toArray, List.set_cons_zero, List.set_cons_succ]
                refine wpAnyH_done (by kernel_rfl) ?_ _
                have HR : Hid (∃ s9, MS (w8.setCell ⟨gs, mi, none⟩ (.slice a8 bn c8)) B X gs sc (some ⟨gl, 0, none⟩) cc fa fc s9 cs D (settleL D.secs (lostL q r mm D.cache (k + 1)))) := ⟨_, by rw [HNX.out]; exact hM9⟩
                have HF9 : Hid (VN (w8.setCell ⟨gs, mi, none⟩ (.slice a8 bn c8)) w.heap.size 79 [.int .i64 p, .int .i64 q, .int .i64 (r : Int)] ∧ Below B w (w8.setCell ⟨gs, mi, none⟩ (.slice a8 bn c8))) := ⟨hF9, hB9⟩
                clear hM9 hF9 hB9 hb79 hO8 hs9 hHeld
                go_wp2
                go_roundg (M2 - (k + 1))
                case measure => omega
                case rel =>
                  obtain ⟨s9, hs9⟩ := HR.out
                  exact ⟨k + 1, by omega, rfl, by go_num, s9, hs9, HF9.out.1, HF9.out.2⟩
        · have hb9 : q / 2 ^ k % 2 = 0 := by omega
          rw [hb9] at hbit
          have HR : Hid (MS WA B X gs sc (some ⟨gl, 0, none⟩) cc fa fc s1 cs D (settleL D.secs (lostL q r mm D.cache (k + 1))) ∧ VN WA w.heap.size 79 [.int .i64 p, .int .i64 q, .int .i64 (r : Int)] ∧ Below B w WA) := ⟨by rw [lostL_no (decide_eq_false hbt)]; exact hMA, hFA, hBA⟩
          clear hMA hFA hBA hVA hb70
          go_wp2_with (rw [hWA.out])
          go_roundg (M2 - (k + 1))
          case measure => omega
          case rel => exact ⟨k + 1, by omega, rfl, by go_num, s1, HR.out.1, HR.out.2.1, HR.out.2.2⟩
      · have hkM : k = M2 := by omega
        subst hkM
        have hkz : ¬ (k : Int) ≤ last := by rw [HLAST.out]; omega
        have hx1 : wr.cell? ⟨X, 1, none⟩ = some (.slice ca D.cache.length cc) := hM.x.cell 1
        have hbW : Below wr.heap.size wr (wr.alloc (.cells #[] 51)) := (Below.refl _ _).alloc (Nat.le_refl _) _
        have hMW := hM.on hbW
        have hBW := hB.trans (hbW.mono (by omega))
        have x1' : (wr.alloc (.cells #[] 51)).cell? ⟨X, 1, none⟩ = some (.slice ca D.cache.length cc) := hMW.x.cell 1
        have z1' := hMW.x.fz 1
        have hX2 := hMW.x.set 1 (.slice (some ⟨wr.heap.size, 0, none⟩) 0 0)
        simp only [List.set] at hX2
        have x4' : ((wr.alloc (.cells #[] 51)).setCell ⟨X, 1, none⟩ (.slice (some ⟨wr.heap.size, 0, none⟩) 0 0)).cell? ⟨X, 4, none⟩ = some (.bool D.down) := hX2.cell 4
        have z4' := hX2.fz 4
        have hX3 := hX2.set 4 (.bool true)
        simp only [List.set] at hX3
        have hk1 := keep_vn (P := fun t => t = 32) (i := 1) (u := .slice (some ⟨wr.heap.size, 0, none⟩) 0 0) hMW.x rfl
        have hk2 := keep_vn (P := fun t => t = 32) (i := 4) (u := .bool true) hX2 rfl
        have hkk := hk1.trans hk2
        have hBZ : Below B w (((wr.alloc (.cells #[] 51)).setCell ⟨X, 1, none⟩ (.slice (some ⟨wr.heap.size, 0, none⟩) 0 0)).setCell ⟨X, 4, none⟩ (.bool true)) := (hBW.setCell (p := ⟨X, 1, none⟩) hBX _).setCell (p := ⟨X, 4, none⟩) hBX _
        have hlS : (loseD D ⟨p, q, r⟩).secs = settleL D.secs (lostL q r mm D.cache k) := by
          rw [← HCUT.out]
          rfl
        have HR : Hid ((∃ ga ss', MS (((wr.alloc (.cells #[] 51)).setCell ⟨X, 1, none⟩ (.slice (some ⟨wr.heap.size, 0, none⟩) 0 0)).setCell ⟨X, 4, none⟩ (.bool true)) B X gs sc ga 0 fa fc ss' [] (loseD D ⟨p, q, r⟩) (loseD D ⟨p, q, r⟩).secs) ∧ Below B w (((wr.alloc (.cells #[] 51)).setCell ⟨X, 1, none⟩ (.slice (some ⟨wr.heap.size, 0, none⟩) 0 0)).setCell ⟨X, 4, none⟩ (.bool true))) := by
          refine ⟨⟨some ⟨wr.heap.size, 0, none⟩, s1, ?_, hMW.secs.keepT hkk (by decide), ?_, rfl, fun i v l h1 h2 => ?_, own_keepT (World.ownsRow_lit (base := B) (e := 51) (size := 2) wr #[] 0 (by have := hB.size; omega) (Nat.zero_le _) rfl) hkk (by decide), rfl, fun i v l h1 h2 => by simp at h1, own_keepT hMW.fown hkk (by decide)⟩, hBZ⟩
          · have e : (loseD D ⟨p, q, r⟩).secs.length = D.secs.length := by rw [hlS]; exact settleL_len _ _
            rw [e]
            exact hX3
          · rw [hlS, settleL_len]; exact hMW.ns
          · rw [hlS] at h2
            exact (hMW.ob i v l h1 h2).keepT hkk (by decide)
        clear hM hF hB hMW hBW hX2 hX3 hk1 hk2 hkk hBZ hlS
        go_wp2
        go_end0
        exact ⟨rfl, HR.out.1, HR.out.2⟩
end Go.Proofs.Ytdhfbblameiloaa

