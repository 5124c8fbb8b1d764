/-
  PowerI
-/
import Derived.Test.YtdhfbblameiloaaND17
import Derived.Test.YtdhfbblameiloaaND3
/-
  The program's powerOff.
-/
namespace Go.Proofs.Ytdhfbblameiloaa
open Go.RowKit
set_option maxRecDepth 4000

/-- A slice that is cut. -/
def cutVal (c : Nat) : Value → Value
  | .slice a n _ => .slice a (min c n) (min c n)
  | v => v
theorem SettleTo.fin {w wr w2 : World} {B X gs ns sc : Nat} {ca : Option Addr} {o f b : Value} {rows : List Value} (h : SettleTo wr B X gs ns sc ca o f b rows w2) (hB : Below w.heap.size w wr) : SettleTo w B X gs ns sc ca o f (.bool true) rows (w2.setCell ⟨X, 4, none⟩ (.bool true)) := by
  have h4 := h.x.set 4 (.bool true)
  simp only [List.set] at h4
  refine ⟨h4, h.secs.keepT (keep_vn (P := fun t => t = 32) h.x rfl) (by decide), ?_, ⟨h.io.1.trans hB.os, h.io.2.1.trans hB.tape, h.io.2.2.trans hB.output⟩, fun k hk h1 h2 h3 => ?_, fun k hk h2 h1 => ((Below.heap_setCell _ _ _ _ (show k ≠ X from h1)).trans (h.low k (Nat.lt_of_lt_of_le hk hB.size) h2 h1)).trans (hB.block k hk)⟩
  · have g1 := h.size
    have g2 := hB.size
    simp; omega
  · have e1 := hB.block k hk
    exact ((Below.heap_setCell _ _ _ _ (show k ≠ X from h1)).trans (h.keep k (Nat.lt_of_lt_of_le hk hB.size) h1 h2 (fun c z e => h3 c z (by rw [← e1]; exact e)))).trans e1
set_option maxHeartbeats 8000000 in
theorem powerOff_any (X B gs ns sc : Nat) (p q : Int) (r : Nat) (ca : Option Addr) (cc : Nat) (o f b : Value) (L : List (Int × List Int)) (ss cs : List Value) (w : World) (hX : VN w X 32 [.slice (some ⟨gs, 0, none⟩) ns sc, .slice ca L.length cc, o, f, b]) (hS : RL 27 w B (some ⟨gs, 0, none⟩) ss) (hss : ss.length = ns) (hns : 0 < ns) (hnsl : ns ≤ 1048576) (hC : RL 51 w B ca (wcells L cs)) (hcs : cs.length = L.length) (hnil : ca = none → L.length = 0) (hu : ∀ (i : Nat) v, cs[i]? = some v → ∃ a n c, v = .slice a n c ∧ n ≤ c ∧ n ≤ 256 ∧ (a = none → c = 0)) (hN : ∀ x, x ∈ L → 0 ≤ x.1 ∧ x.1 < ns) (hp0 : 0 ≤ q) (hp1 : q ≤ 1048575) (hn : L.length ≤ 60) (hr : r ≤ 256) (hBw : B ≤ w.heap.size) :
    Calls Try.prog 67 #[.pointer (some ⟨X, 0, none⟩), .agg #[.int .i64 p, .int .i64 q, .int .i64 r]] w fun e w' => e = .returned (.tuple #[]) ∧ SettleTo w B X gs ns sc ca o f (.bool true) (settleL ss (((keptG q L L.length).map (·.1)).zip (cutLast (cutVal r) (keptG q cs L.length)))) w' := by
  have hXlt := hX.lt
  have hbA : Below w.heap.size w ((w.alloc (.cells #[.int .i64 p, .int .i64 q, .int .i64 r] 79)).alloc (.cells #[] 51)) := ((Below.refl _ _).alloc (Nat.le_refl _) _).alloc (by simp) _
  have F0 := (VN.new w 79 [.int .i64 p, .int .i64 q, .int .i64 r]).below ((Below.refl _ _).alloc (Nat.le_refl _) (.cells #[] 51))
  have O0 := own_monoK (base' := w.heap.size) (own_emptyK (w.alloc (.cells #[.int .i64 p, .int .i64 q, .int .i64 r] 79)) 51 2) (by simp)
  rw [alloc_sizeK] at O0
  have x1 : ((w.alloc (.cells #[.int .i64 p, .int .i64 q, .int .i64 r] 79)).alloc (.cells #[] 51)).cell? ⟨X, 1, none⟩ = some (.slice ca L.length cc) := (hX.below hbA).cell 1
  have HC : Hid (RL 51 w B ca (wcells L cs) ∧ VN w X 32 [.slice (some ⟨gs, 0, none⟩) ns sc, .slice ca L.length cc, o, f, b] ∧ RL 27 w B (some ⟨gs, 0, none⟩) ss) := ⟨hC, hX, hS⟩
  have HU : Hid (∀ (i : Nat) v, cs[i]? = some v → ∃ a n c, v = .slice a n c ∧ n ≤ c ∧ n ≤ 256 ∧ (a = none → c = 0)) := hu
  have HNN : Hid (∀ x, x ∈ L → 0 ≤ x.1 ∧ x.1 < ns) := hN
  clear hX hC hu hS hN
  go_enter Try.func67, Try.ntmps67
  go_wp2
  go_loopg [15, 4] L.length (fun u i v wr => ∃ k : Nat, k ≤ L.length ∧ u = L.length - k ∧ i = .int .i64 k ∧ Below w.heap.size w wr ∧ VN wr w.heap.size 79 [.int .i64 p, .int .i64 q, .int .i64 r] ∧ wr.ownsRow w.heap.size 51 2 v (keptG q L k).length (wcells (keptG q L k) (keptG q cs k)))
  case atStart => exact ⟨0, Nat.zero_le _, rfl, rfl, hbA, F0, by simpa [keptG, wcells] using O0⟩
  case round =>
    clear hbA F0 O0 x1
    obtain ⟨k, hk, rfl, rfl, hB, hF, hO⟩ := hrel
    obtain ⟨i0, hi, hz0, hz1, hz2⟩ := infoWrite
    have hkl := keptG_len q L k
    by_cases hlt : k < L.length
    · have hkz : (k : Int) < (L.length : Int) := by omega
      have hk64 : (k : Int) ≤ 64 := by omega
      obtain ⟨gl, el, -, hgl, hcl⟩ := HC.out.1.cell (by rw [wcells_len hcs]; omega)
      subst el
      have hv := List.getElem?_eq_getElem (l := cs) (i := k) (by omega)
      obtain ⟨w0, w1⟩ := wcells_get (List.getElem?_eq_getElem hlt) hv
      obtain ⟨ua, un, uc, eu, -⟩ := HU.out k _ hv
      have x0 : wr.cell? ⟨gl, k * 2, none⟩ = some (.int .i64 (L[k]).1) := by rw [hB.cell (p := ⟨gl, k * 2, none⟩) hgl]; exact hcl _ _ w0
      have x1 : wr.cell? ⟨gl, k * 2 + 1, none⟩ = some (.slice ua un uc) := by rw [hB.cell (p := ⟨gl, k * 2 + 1, none⟩) hgl, hcl _ _ w1, eu]
      obtain ⟨n0, hn0⟩ := hidEx (L[k]).1
      rw [hn0.out] at x0
      have hbB : Below wr.heap.size wr (wr.alloc (.cells #[.int .i64 n0, .slice ua un uc] 51)) := (Below.refl _ _).alloc (Nat.le_refl _) _
      have y1 : (wr.alloc (.cells #[.int .i64 n0, .slice ua un uc] 51)).cell? ⟨w.heap.size, 1, none⟩ = some (.int .i64 q) := (hF.below hbB).cell 1
      have hbit := bit_and hp0 hp1 k
      have hsz := hB.size
      clear hcl w0 w1 hv
      by_cases hb1 : q / 2 ^ k % 2 = 1
      · rw [hb1] at hbit
        have hbO : bitOf q k = true := decide_eq_true hb1
        have HNX : Hid ((keptG q L (k + 1)).length = (keptG q L k).length + 1 ∧ wcells (keptG q L (k + 1)) (keptG q cs (k + 1)) = wcells (keptG q L k) (keptG q cs k) ++ [.int .i64 n0, .slice ua un uc]) := by
          have hck : k < cs.length := by omega
          rw [keptG_yes hbO hlt, keptG_yes hbO hck, wcells_push (keptG_len_eq hcs k), hn0.out, eu]
          exact ⟨by simp, rfl⟩
        have hbC : Below wr.heap.size wr ((wr.alloc (.cells #[.int .i64 n0, .slice ua un uc] 51)).alloc (.cells #[.int .i64 n0, .slice ua un uc] 51)) := hbB.alloc (by simp) _
        have hO2 := own_upK hO (Up.ofBelow hbC)
        have hF2 := hF.below hbC
        have hB2 := hB.trans (hbC.mono hsz)
        have hcl : ∀ j u, [Value.int .i64 n0, .slice ua un uc][j]? = some u → ((wr.alloc (.cells #[.int .i64 n0, .slice ua un uc] 51)).alloc (.cells #[.int .i64 n0, .slice ua un uc] 51)).cell? ((⟨wr.heap.size + 1, 0, none⟩ : Addr).add j) = some u := by
          have ea : ∀ j, (⟨wr.heap.size + 1, 0, none⟩ : Addr).add j = ⟨wr.heap.size + 1, 0 + j, none⟩ := fun j => by unfold Addr.add; split <;> simp_all
          intro j u hj
          match j, hj with
          | 0, hj => cases hj; rw [ea]; simp
          | 1, hj => cases hj; rw [ea]; simp [go_sem]
        obtain ⟨nk, hnk⟩ := hidEx (keptG q L k).length
        rw [hnk.out] at hO2 HNX hkl
        have hszC : w.heap.size ≤ ((wr.alloc (.cells #[.int .i64 n0, .slice ua un uc] 51)).alloc (.cells #[.int .i64 n0, .slice ua un uc] 51)).heap.size := hB2.size
        clear hO hF hB hbB hbC
        go_wp2_with (at_builtin; refine wpList_append_own _ rfl (.tmp 26) (.tmp 28) 29 rfl w.heap.size 51 i0 (.agg #[.int .i64 0, .slice none 0 0]) 2 32 Try.underlying29 hi hz0 hz1 hz2 rfl (by decide) _ _ _ rfl hO2 ⟨wr.heap.size + 1, 0, none⟩ 1 1 [.int .i64 n0, .slice ua un uc] rfl rfl hcl (by intro u hu; simp at hu; rcases hu with rfl | rfl <;> rfl) (by unfold maxLen; omega) (by omega) hszC ?_)
        intro v6 w6 hO6 hgr6 hnil6
        have hK6 := keep_grown hO2 hgr6
        have HR : Hid (Below w.heap.size w w6 ∧ VN w6 w.heap.size 79 [.int .i64 p, .int .i64 q, .int .i64 r] ∧ w6.ownsRow w.heap.size 51 2 v6 (keptG q L (k + 1)).length (wcells (keptG q L (k + 1)) (keptG q cs (k + 1)))) := ⟨hB2.grown hgr6 hszC (own_geK hO2), hF2.block (hK6 _ _ _ _ hF2 (by decide)), by rw [HNX.out.1, HNX.out.2]; exact hO6⟩
        clear hO2 hO6 hgr6 hnil6 hK6 hcl hF2 hB2
        go_wp2
        go_roundg (L.length - (k + 1))
        case measure => omega
        case rel => exact ⟨k + 1, by omega, rfl, by go_num, HR.out.1, HR.out.2.1, HR.out.2.2⟩
      · have hbO : bitOf q k = false := decide_eq_false hb1
        have hb0 : q / 2 ^ k % 2 = 0 := by omega
        rw [hb0] at hbit
        have hO2 := own_upK hO (Up.ofBelow hbB)
        have hF2 := hF.below hbB
        have hB2 := hB.trans (hbB.mono hsz)
        rw [← keptG_no (l := L) hbO, ← keptG_no (l := cs) hbO] at hO2
        clear hO hF hB hbB hb1 hb0
        go_wp2
        go_roundg (L.length - (k + 1))
        case measure => omega
        case rel => exact ⟨k + 1, by omega, rfl, by go_num, hB2, hF2, hO2⟩
    · obtain rfl : k = L.length := by omega
      have hkz : ¬ (L.length : Int) < (L.length : Int) := by omega
      obtain ⟨Lk, hLk⟩ := hidEx (keptG q L L.length)
      obtain ⟨uk, huk⟩ := hidEx (keptG q cs L.length)
      have hlen : uk.length = Lk.length := by rw [← hLk.out, ← huk.out]; exact keptG_len_eq hcs _
      have HMEM : Hid (∀ x, x ∈ Lk → x ∈ L) := by
        intro x hx
        rw [← hLk.out] at hx
        exact keptG_mem hx
      have HMU : Hid (∀ v, v ∈ uk → ∃ a n c, v = .slice a n c ∧ n ≤ c ∧ n ≤ 256 ∧ (a = none → c = 0)) := by
        intro v hv
        rw [← huk.out] at hv
        obtain ⟨i, hi', rfl⟩ := List.getElem_of_mem (keptG_mem hv)
        exact HU.out i _ (List.getElem?_eq_getElem hi')
      rw [hLk.out, huk.out] at hO
      rw [hLk.out] at hkl
      obtain ⟨la, lc, rfl, hl1, hl2, hRL⟩ := own_rl hO
      have hX1 := HC.out.2.1.below hB
      have hS1 := HC.out.2.2.up (Up.ofBelow hB)
      have hC1 := HC.out.1.up (Up.ofBelow hB)
      have hL1 := hRL.mono hBw
      rcases List.eq_nil_or_concat Lk with rfl | ⟨L0, x, rfl⟩
      · obtain rfl : uk = [] := List.eq_nil_of_length_eq_zero hlen
        have hV := settle_any B X gs ns sc ca L.length cc o f b ss [] (wcells L cs) la lc [] wr hX1 hS1 hss hns (.inl rfl) rfl hC1 (wcells_len hcs) hnil (fun i v h => by simp at h) (fun i h => by simp at h) (by simp) (by omega) hnsl
        have HE : Hid (settleL ss (((keptG q L L.length).map (·.1)).zip (cutLast (cutVal r) (keptG q cs L.length))) = settleL ss ((([] : List (Int × List Int)).map (·.1)).zip [])) := by
          show _ = _
          rw [hLk.out, huk.out]
          rfl
        clear hO hL1 hRL hC1 hS1
        go_wp2_with fail
        refine hV.mono ?_
        rintro e w2 ⟨rfl, hT⟩
        have x4 : w2.cell? ⟨X, 4, none⟩ = some b := hT.x.cell 4
        have q4 := hT.x.fz 4
        have HR : Hid (SettleTo w B X gs ns sc ca o f (.bool true) (settleL ss (((keptG q L L.length).map (·.1)).zip (cutLast (cutVal r) (keptG q cs L.length)))) (w2.setCell ⟨X, 4, none⟩ (.bool true))) := by
          show SettleTo _ _ _ _ _ _ _ _ _ _ _ _
          rw [HE.out]
          exact hT.fin hB
        clear hT hV hX1 hB hF HE
        go_wp2
        go_end0
        exact ⟨rfl, HR.out⟩
      · obtain ⟨u0, u, rfl⟩ : ∃ u0 u, uk = u0 ++ [u] := by
          rcases List.eq_nil_or_concat uk with rfl | ⟨a9, b9, rfl⟩
          · simp at hlen
          · exact ⟨a9, b9, by simp⟩
        have hl0 : u0.length = L0.length := by simpa using hlen
        obtain ⟨ua, un, uc, rfl, hu1, hu2, hu3⟩ := HMU.out u (by simp)
        have hwl := wcells_len hl0
        have hpush : wcells (L0 ++ [x]) (u0 ++ [.slice ua un uc]) = wcells L0 u0 ++ [.int .i64 x.1, .slice ua un uc] := wcells_push hl0 x _
        have ecc : L0.concat x = L0 ++ [x] := by simp
        simp only [List.concat_eq_append] at hRL hL1 hO hLk hlen hl1 HMEM ⊢
        rw [hpush] at hRL hL1
        obtain ⟨g, rfl, hg0, hg1, hgc⟩ := hRL.cell (by simp)
        have y0 : wr.cell? ⟨g, L0.length * 2, none⟩ = some (.int .i64 x.1) := hgc _ _ (by rw [List.getElem?_append_right (by omega), hwl]; simp)
        have y1 : wr.cell? ⟨g, L0.length * 2 + 1, none⟩ = some (.slice ua un uc) := hgc _ _ (by rw [List.getElem?_append_right (by omega), hwl]; simp)
        have z2 : wr.cell? ⟨w.heap.size, 2, none⟩ = some (.int .i64 (r : Int)) := hF.cell 2
        have eL : (L0 ++ [x]).length = L0.length + 1 := by simp
        rw [eL]
        have hl60 : L0.length + 1 ≤ 60 := by have h9 := hkl; simp at h9; omega
        have hs1 : IntKind.i64.wrap (((L0.length + 1 : Nat) : Int) - 1) = (L0.length : Int) := by rw [IntKind.wrap_i64]; omega
        have hpos : (0 : Int) < ((L0.length + 1 : Nat) : Int) := by omega
        have hlt1 : (L0.length : Int) < ((L0.length + 1 : Nat) : Int) := by omega
        have HALL : Hid (RL 51 wr B (some ⟨g, 0, none⟩) (wcells L0 u0 ++ [.int .i64 x.1, .slice ua un uc]) ∧ VN wr X 32 [.slice (some ⟨gs, 0, none⟩) ns sc, .slice ca L.length cc, o, f, b] ∧ RL 27 wr B (some ⟨gs, 0, none⟩) ss ∧ RL 51 wr B ca (wcells L cs)) := ⟨hL1, hX1, hS1, hC1⟩
        clear hgc hO hRL hL1 hC1 hS1 hX1
        go_wp2_with fail
        refine wp_region_held_drew (S := fun W => W.cell? ⟨w.heap.size, 2, none⟩ = some (.int .i64 (r : Int)) ∧ W.cell? ⟨g, L0.length * 2 + 1, none⟩ = some (.slice ua un uc)) (by kernel_rfl) ⟨z2, y1⟩ (fun hHeld => ?_)
        have hbd : Below wr.heap.size wr wr.drew := (Below.refl _ _).drew
        obtain ⟨wd, hwd⟩ := hidEx wr.drew
        rw [hwd.out] at hbd hHeld ⊢
        replace hB := hB.trans (hbd.mono hB.size)
        replace HALL : Hid (RL 51 wd B (some ⟨g, 0, none⟩) (wcells L0 u0 ++ [.int .i64 x.1, .slice ua un uc]) ∧ VN wd X 32 [.slice (some ⟨gs, 0, none⟩) ns sc, .slice ca L.length cc, o, f, b] ∧ RL 27 wd B (some ⟨gs, 0, none⟩) ss ∧ RL 51 wd B ca (wcells L cs)) := ⟨HALL.out.1.up (Up.ofBelow hbd), HALL.out.2.1.below hbd, HALL.out.2.2.1.up (Up.ofBelow hbd), HALL.out.2.2.2.up (Up.ofBelow hbd)⟩
        have y1d : wd.cell? ⟨g, L0.length * 2 + 1, none⟩ = some (.slice ua un uc) := by rw [hbd.cell (p := ⟨g, L0.length * 2 + 1, none⟩) hg1]; exact y1
        have q1d := HALL.out.1.cellFz (by simp) (L0.length * 2 + 1)
        clear y0 y1 z2 hF hbd
        have HEND : ∀ ct : Nat, ct = min r un → Calls Try.prog 88 #[.pointer (some ⟨X, 0, none⟩), .slice (some ⟨g, 0, none⟩) (L0.length + 1) lc] (wd.setCell ⟨g, L0.length * 2 + 1, none⟩ (.slice ua ct ct)) fun e w' => e = .returned (.tuple #[]) ∧ SettleTo (wd.setCell ⟨g, L0.length * 2 + 1, none⟩ (.slice ua ct ct)) B X gs ns sc ca o f b (settleL ss (((keptG q L L.length).map (·.1)).zip (cutLast (cutVal r) (keptG q cs L.length)))) w' ∧ Below w.heap.size w (wd.setCell ⟨g, L0.length * 2 + 1, none⟩ (.slice ua ct ct)) := by
          intro ct hct
          have hB3 : Below w.heap.size w (wd.setCell ⟨g, L0.length * 2 + 1, none⟩ (.slice ua ct ct)) := hB.setCell (p := ⟨g, L0.length * 2 + 1, none⟩) hg0 _
          have hL3 := HALL.out.1.set (L0.length * 2 + 1) (.slice ua ct ct) (by simp; omega)
          have es : (wcells L0 u0 ++ [Value.int .i64 x.1, Value.slice ua un uc]).set (L0.length * 2 + 1) (Value.slice ua ct ct) = wcells (L0 ++ [x]) (u0 ++ [.slice ua ct ct]) := by
            rw [wcells_push hl0, List.set_append_right _ _ (by omega), hwl]
            simp
          rw [es] at hL3
          have hv := settle_any B X gs ns sc ca L.length cc o f b ss (u0 ++ [.slice ua ct ct]) (wcells L cs) (some ⟨g, 0, none⟩) lc (L0 ++ [x]) _ (HC.out.2.1.below hB3) (HC.out.2.2.up (Up.ofBelow hB3)) hss hns hL3 (by simp [hl0]) (HC.out.1.up (Up.ofBelow hB3)) (wcells_len hcs) hnil (fun i v h => by
              rcases List.mem_append.1 (List.mem_of_getElem? h) with h5 | h5
              · obtain ⟨a5, n5, c5, e5, -⟩ := HMU.out v (List.mem_append_left _ h5)
                exact ⟨a5, n5, c5, e5⟩
              · simp at h5; exact ⟨_, _, _, h5⟩) (fun i h => HNN.out _ (HMEM.out _ (List.getElem_mem h))) (by simp; omega) (by omega) hnsl
          rw [eL] at hv
          have er : (((keptG q L L.length).map (·.1)).zip (cutLast (cutVal r) (keptG q cs L.length))) = (((L0 ++ [x]).map (·.1)).zip (u0 ++ [.slice ua ct ct])) := by
            rw [hLk.out, huk.out, cutLast_app, hct]
            rfl
          rw [er]
          refine hv.mono ?_
          rintro e w' ⟨rfl, hT⟩
          exact ⟨rfl, hT, hB3⟩
        refine' wpAnyH_take (i := 0) (v := _) rfl (by kernel_rfl) (by kernel_rfl) (by kernel_rfl) (fun _ _ _ h => h) (Or.inl ⟨by kernel_rfl, ?hpo1⟩) (by assumption) ?rpo1
        case hpo1 => intro W hW; obtain ⟨c0, c1⟩ := hW; go_simp; all_goals with_reducible rfl
        change wpAnyH _ _ _ _ _ _ _ (Act.put _ (some 39) _) _
        simp only [Act.put, List.setIfInBounds_toArray, List.set_cons_zero, List.set_cons_succ]
        refine' wpAnyH_take (i := 1) (v := _) rfl (by kernel_rfl) (by kernel_rfl) (by kernel_rfl) (fun _ _ _ h => h) (Or.inl ⟨by kernel_rfl, ?hpo2⟩) (by assumption) ?rpo2
        case hpo2 => intro W hW; obtain ⟨c0, c1⟩ := hW; go_simp; all_goals with_reducible rfl
        change wpAnyH _ _ _ _ _ _ _ (Act.put _ (some 40) _) _
        simp only [Act.put, List.setIfInBounds_toArray, List.set_cons_zero, List.set_cons_succ]
        refine' wpAnyH_take (i := 2) (v := _) rfl (by kernel_rfl) (by kernel_rfl) (by kernel_rfl) (fun _ _ _ h => h) (Or.inl ⟨by kernel_rfl, ?hpo3⟩) (by assumption) ?rpo3
        case hpo3 => intro W hW; obtain ⟨c0, c1⟩ := hW; go_simp; all_goals with_reducible rfl
        change wpAnyH _ _ _ _ _ _ _ (Act.put _ (some 41) _) _
        simp only [Act.put, List.setIfInBounds_toArray, List.set_cons_zero, List.set_cons_succ]
        refine' wpAnyH_take (i := 3) (v := _) rfl (by kernel_rfl) (by kernel_rfl) (by kernel_rfl) (fun _ _ _ h => h) (Or.inl ⟨by kernel_rfl, ?hpo4⟩) (by assumption) ?rpo4
        case hpo4 => intro W hW; obtain ⟨c0, c1⟩ := hW; go_simp; all_goals with_reducible rfl
        change wpAnyH _ _ _ _ _ _ _ (Act.put _ (some 42) _) _
        simp only [Act.put, List.setIfInBounds_toArray, List.set_cons_zero, List.set_cons_succ]
        refine' wpAnyH_take (i := 4) (v := _) rfl (by kernel_rfl) (by kernel_rfl) (by kernel_rfl) (fun _ _ _ h => h) (Or.inl ⟨by kernel_rfl, ?hpo5⟩) (by assumption) ?rpo5
        case hpo5 => intro W hW; obtain ⟨c0, c1⟩ := hW; go_simp; all_goals with_reducible rfl
        change wpAnyH _ _ _ _ _ _ _ (Act.put _ (some 43) _) _
        simp only [Act.put, List.setIfInBounds_toArray, List.set_cons_zero, List.set_cons_succ]
        refine' wpAnyH_take (i := 5) (v := _) rfl (by kernel_rfl) (by kernel_rfl) (by kernel_rfl) (fun _ _ _ h => h) (Or.inl ⟨by kernel_rfl, ?hpo6⟩) (by assumption) ?rpo6
        case hpo6 => intro W hW; obtain ⟨c0, c1⟩ := hW; go_simp; all_goals with_reducible rfl
        change wpAnyH _ _ _ _ _ _ _ (Act.put _ (some 44) _) _
        simp only [Act.put, List.setIfInBounds_toArray, List.set_cons_zero, List.set_cons_succ]
        refine' wpAnyH_take (i := 6) (v := _) rfl (by kernel_rfl) (by kernel_rfl) (by kernel_rfl) (fun _ _ _ h => h) (Or.inl ⟨by kernel_rfl, ?hpo7⟩) (by assumption) ?rpo7
        case hpo7 => intro W hW; obtain ⟨c0, c1⟩ := hW; go_simp; all_goals with_reducible rfl
        change wpAnyH _ _ _ _ _ _ _ (Act.put _ (some 45) _) _
        simp only [Act.put, List.setIfInBounds_toArray, List.set_cons_zero, List.set_cons_succ]
        refine' wpAnyH_take (i := 7) (v := _) rfl (by kernel_rfl) (by kernel_rfl) (by kernel_rfl) (fun _ _ _ h => h) (Or.inl ⟨by kernel_rfl, ?hpo8⟩) (by assumption) ?rpo8
        case hpo8 => intro W hW; obtain ⟨c0, c1⟩ := hW; go_simp; all_goals with_reducible rfl
        change wpAnyH _ _ _ _ _ _ _ (Act.put _ (some 46) _) _
        simp only [Act.put, List.setIfInBounds_toArray, List.set_cons_zero, List.set_cons_succ]
        refine' wpAnyH_take (i := 8) (v := _) rfl (by kernel_rfl) (by kernel_rfl) (by kernel_rfl) (fun _ _ _ h => h) (Or.inl ⟨by kernel_rfl, ?hpo9⟩) (by assumption) ?rpo9
        case hpo9 => intro W hW; obtain ⟨c0, c1⟩ := hW; go_simp; all_goals with_reducible rfl
        change wpAnyH _ _ _ _ _ _ _ (Act.put _ (some 8) _) _
        simp only [Act.put, List.setIfInBounds_toArray, List.set_cons_zero, List.set_cons_succ]
        refine wpAnyH_done (by kernel_rfl) ?_ _
        clear hHeld
        go_wp2_with fail
        all_goals
          first
          | refine (HEND r (by omega)).mono ?_
          | refine (HEND un (by omega)).mono ?_
          rintro e w2 ⟨rfl, hT⟩
          have x4 : w2.cell? ⟨X, 4, none⟩ = some b := hT.1.x.cell 4
          have q4 := hT.1.x.fz 4
          have HR : Hid (SettleTo w B X gs ns sc ca o f (.bool true) (settleL ss (((keptG q L L.length).map (·.1)).zip (cutLast (cutVal r) (keptG q cs L.length)))) (w2.setCell ⟨X, 4, none⟩ (.bool true))) := hT.1.fin hT.2
          clear hT HEND HALL HC HU HNN HMEM HMU
          go_wp2
          go_end0
          exact ⟨rfl, HR.out⟩
end Go.Proofs.Ytdhfbblameiloaa

