/-
  Together: FirstSpec, InfoDef, MParse
-/
import Derived.Test.YtnpfgamlncfikaaGreatDoorPackF12
import Derived.Test.YtnpfgamlncfikaaGreatDoorPackF23
import Derived.Test.YtnpfgamlncfikaaGreatDoorPackF21
import Derived.Test.YtnpfgamlncfikaaGreatDoorPackF5
import Derived.BigQuiet
import Derived.WalkSmall
import Derived.Deep.LoopGhost
import Derived.Test.YtnpfgamlncfikaaGreatDoorPackF4
import Derived.Test.YtnpfgamlncfikaaGreatDoorMDef
import Derived.Test.YtnpfgamlncfikaaGreatDoorPackF22
/-
  spec.FirstBad, walked.
-/
namespace Go.Proofs.YtnpfgamlncfikaaGreatDoor
open Go.RowKit
set_option maxRecDepth 4000

set_option maxHeartbeats 4000000 in
theorem specFirst_any (a : Option Addr) (n cap : Nat) (f : Nat → PDef) (w : World) (h : LView w a n cap f) (hf : LFine n f) :
    Calls Tryz.prog 12 #[.slice a n cap] w fun e w' => e = .returned (.int .i64 (firstF f n)) ∧ Below w.heap.size w w' := by
  have hn := hf.few
  go_enter Tryz.func12, Tryz.ntmps12
  go_wp2
  go_loopg [3] n (fun q i wr => ∃ k : Nat, k ≤ n ∧ q = n - k ∧ i = .int .i64 k ∧ Below w.heap.size w wr ∧ Hid (∀ i, i < k → badF f i = false))
  case atStart => exact ⟨0, Nat.zero_le _, rfl, rfl, Below.refl _ _, fun i hi => absurd hi (Nat.not_lt_zero _)⟩
  case round =>
    obtain ⟨k, hk, rfl, rfl, hB, HA⟩ := hrel
    by_cases hlt : k < n
    · obtain ⟨b1, o1, rfl, hb1, hc1⟩ := (h.below hB).cells (by omega)
      obtain ⟨y1, y2, y3, x0, x1, x2, x3, hv⟩ := hc1 k hlt
      have hkz : (k : Int) < (n : Int) := by omega
      have hS := specCheck_any _ (f k) wr hv (hf.at_ k hlt)
      obtain ⟨c, hc⟩ : ∃ c, Hid (checkF (f k) = c) := ⟨_, rfl⟩
      rw [hc.out] at hS
      obtain ⟨p0, hp0⟩ : ∃ x, Hid ((f k).name = x) := ⟨_, rfl⟩
      rw [hp0.out] at x0
      simp only [hp0.out] at hS
      clear hv hf h
      by_cases hcz : c = 0
      · subst hcz
        by_cases hk2 : k ≤ 2
        · have hk2' : ¬ (2 : Int) < (k : Int) := by omega
          go_wp2_with fail
          refine hS.mono ?_
          rintro e w1 ⟨rfl, hb⟩
          have HB : Hid (Below w.heap.size w w1) := hB.trans (hb.mono hB.size)
          have HC : Hid (∀ i, i < n → ∃ v, w1.cell? ⟨b1, o1 + i * 4, none⟩ = some (.string v) ∧ Hid (v = (f i).name)) := by
            intro i hi
            obtain ⟨_, _, _, y0, _⟩ := hc1 i hi
            exact ⟨_, (hb.cell (p := ⟨b1, o1 + i * 4, none⟩) hb1).trans y0, rfl⟩
          clear hS hb hB x0 x1 x2 x3 hc1 hb1
          go_wp2
          go_loopg [4] k (fun q i wr => ∃ j : Nat, j ≤ k ∧ q = k - j ∧ i = .int .i64 j ∧ Hid (Below w.heap.size w wr ∧ ∀ i, i < n → ∃ v, wr.cell? ⟨b1, o1 + i * 4, none⟩ = some (.string v) ∧ Hid (v = (f i).name)) ∧ Hid (∀ i, i < j → (f i).name ≠ (f k).name))
          case atStart => exact ⟨0, Nat.zero_le _, rfl, rfl, ⟨HB.out, HC.out⟩, fun i hi => absurd hi (Nat.not_lt_zero _)⟩
          case round =>
            obtain ⟨j, hj, rfl, rfl, HW, HN⟩ := hrel
            clear HB HC
            by_cases hjk : j < k
            · have hjz : (j : Int) < (k : Int) := by omega
              have hjn : (j : Int) < (n : Int) := by omega
              obtain ⟨vj, ej, evj⟩ := HW.out.2 j (by omega)
              obtain ⟨vk, ek, evk⟩ := HW.out.2 k hlt
              by_cases hne : vj = vk
              · have hq := bytes_eq hne
                go_wp2_with fail
                go_quiet (fail)
                go_wp2
                go_ret
                refine ⟨?_, below_drewN HW.out.1 _⟩
                rw [firstF_hit hlt HA.out (badF_twice hjk (by rw [← evj.out, ← evk.out]; exact hne))]; rfl
              · have hq := bytes_ne hne
                go_wp2_with fail
                go_quiet (fail)
                go_wp2
                go_roundg (k - (j + 1))
                case measure => omega
                case rel => exact ⟨j + 1, by omega, rfl, by go_num, ⟨below_drewN HW.out.1 _, HW.out.2⟩, fun i hi => by
                  by_cases e : i < j
                  · exact HN.out i e
                  · obtain rfl : i = j := by omega
                    rw [← evj.out, ← evk.out]; exact hne⟩
            · have hjz : ¬ (j : Int) < (k : Int) := by omega
              go_wp2
              go_roundg (n - (k + 1))
              case measure => omega
              case rel => exact ⟨k + 1, by omega, rfl, by go_num, HW.out.1, fun i hi => by
                by_cases e : i < k
                · exact HA.out i e
                · obtain rfl : i = k := by omega
                  exact badF_no hc.out hk2 (fun j' hj' => HN.out j' (by omega))⟩
        · have hk2' : (2 : Int) < (k : Int) := by omega
          go_wp2_with fail
          refine hS.mono ?_
          rintro e w1 ⟨rfl, hb⟩
          have HB : Hid (Below w.heap.size w w1) := hB.trans (hb.mono hB.size)
          clear hS hb hB x0 x1 x2 x3 hc1 hb1
          go_wp2
          go_ret
          refine ⟨?_, HB.out⟩
          rw [firstF_hit hlt HA.out (badF_late (by omega))]; rfl
      · have hcz' : (c != 0) = true := by simpa using hcz
        go_wp2_with fail
        refine hS.mono ?_
        rintro e w1 ⟨rfl, hb⟩
        have HB : Hid (Below w.heap.size w w1) := hB.trans (hb.mono hB.size)
        clear hS hb hB x0 x1 x2 x3 hc1 hb1
        go_wp2
        go_ret
        refine ⟨?_, HB.out⟩
        rw [firstF_hit hlt HA.out (badF_check (by rw [hc.out]; exact hcz))]; rfl
    · have hkz : ¬ (k : Int) < (n : Int) := by omega
      clear h hf
      go_wp2
      go_ret
      exact ⟨by rw [firstF_no (fun i hi => HA.out i (by omega))]; rfl, hB⟩
end Go.Proofs.YtnpfgamlncfikaaGreatDoor

/-
  The type of tables.
-/
namespace Go.Proofs.YtnpfgamlncfikaaGreatDoor
open Go.RowKit
set_option maxRecDepth 4000

theorem infoDef : ∃ i, Tryz.prog.info? 35 = some i ∧ i.zero = some (.agg #[.string ⟨#[]⟩, .slice none 0 0, .slice none 0 0, .slice none 0 0]) ∧ i.size = 4 ∧ i.bytes = 88 := by
  have h : (Tryz.prog.info? 35).map (fun i => (i.zero, i.size, i.bytes)) = some (some (.agg #[.string ⟨#[]⟩, .slice none 0 0, .slice none 0 0, .slice none 0 0]), 4, 88) := by kernel_rfl
  obtain ⟨i, hi, hz⟩ := Option.map_eq_some_iff.1 h
  simp only [Prod.mk.injEq] at hz
  exact ⟨i, hi, hz.1, hz.2.1, hz.2.2⟩
end Go.Proofs.YtnpfgamlncfikaaGreatDoor

/-
  spec.ParseDefs, walked.
-/
namespace Go.Proofs.YtnpfgamlncfikaaGreatDoor
open Go.RowKit
set_option maxRecDepth 4000

theorem cells_def10 (W : World) (s : ByteArray) (a1 a2 a3 : Option Addr) (n1 n2 n3 c1 c2 c3 : Nat) : ∀ j u, [Value.string s, .slice a1 n1 c1, .slice a2 n2 c2, .slice a3 n3 c3][j]? = some u → (W.alloc (.cells #[.string s, .slice a1 n1 c1, .slice a2 n2 c2, .slice a3 n3 c3] 35)).cell? ((⟨W.heap.size, 0, none⟩ : Addr).add j) = some u := by
  intro j u h
  have ea : ∀ j, (⟨W.heap.size, 0, none⟩ : Addr).add j = ⟨W.heap.size, 0 + j, none⟩ := fun j => by unfold Addr.add; split <;> simp_all
  match j, h with
  | 0, h => cases h; rw [ea]; simp
  | 1, h => cases h; rw [ea]; simp [go_sem]
  | 2, h => cases h; rw [ea]; simp [go_sem]
  | 3, h => cases h; rw [ea]; simp [go_sem]
  | j + 4, h => simp at h
theorem one_def10 (s : ByteArray) (a1 a2 a3 : Option Addr) (n1 n2 n3 c1 c2 c3 : Nat) : ∀ u ∈ [Value.string s, .slice a1 n1 c1, .slice a2 n2 c2, .slice a3 n3 c3], u.oneCell' = true := by
  intro u hu
  simp at hu
  rcases hu with rfl | rfl | rfl | rfl <;> rfl

set_option maxHeartbeats 16000000 in
theorem specParse_any (s : ByteArray) (w : World) (hs : s.size ≤ 281474976710656) :
    Calls Tryz.prog 17 #[.string s] w (ParseTo w (parseF s)) := by
  obtain ⟨iD, hiD⟩ := infoDef
  have hL := specLex_any s w hs
  have hr5 : (lexF s 0 []).1.length ≤ 500 := lexF_few s 0 [] (by simp)
  have hok : AllOk (lexF s 0 []).1 := lexF_ok s 0 [] (by simp)
  have HPF : Hid (parseF s = goodF ((if (lexF s 0 []).2 = -1 then some (lexF s 0 []).1 else none : Option (List Tok)).bind (fun l => defsR (l.length + 1) l))) := by
    show _ = _
    unfold parseF tabsF
    split
    · rfl
    · rfl
  obtain ⟨o, ho⟩ : ∃ x, Hid (parseF s = x) := ⟨_, rfl⟩
  rw [ho.out] at HPF ⊢
  obtain ⟨⟨L, pl⟩, hr⟩ : ∃ r, Hid (lexF s 0 [] = r) := ⟨_, rfl⟩
  simp only [hr.out] at hL hr5 hok HPF
  clear hr ho
  obtain ⟨st0, hst⟩ : ∃ x, Hid ((if pl = -1 then some L else none : Option (List Tok)) = x) := ⟨_, rfl⟩
  rw [hst.out] at HPF
  have HFIN : Hid (∀ (acc : List PDef), InvD (st0.bind (fun l => defsR (l.length + 1) l)) acc (some []) → o = if firstF (atD acc) acc.length = -1 then some acc else none) := fun acc h => by
    rw [HPF.out, invD_end h]; rfl
  have HBAD : Hid (∀ (acc : List PDef), InvD (st0.bind (fun l => defsR (l.length + 1) l)) acc none → o = none) := fun acc h => by
    rw [HPF.out, show (st0.bind (fun l => defsR (l.length + 1) l)) = none from h]; rfl
  have HI0 : Hid (InvD (st0.bind (fun l => defsR (l.length + 1) l)) [] st0) := invD_start st0
  obtain ⟨T, hT⟩ : ∃ x, Hid (st0.bind (fun l => defsR (l.length + 1) l) = x) := ⟨_, rfl⟩
  simp only [hT.out] at HFIN HBAD HI0
  clear HPF hT
  have hnone : st0.isNone = (pl != -1) := by
    rw [← hst.out]
    by_cases e : pl = -1
    · rw [if_pos e, e]; rfl
    · rw [if_neg e]
      have : (pl != -1) = true := by simpa using e
      rw [this]; rfl
  have HNO : Hid ((pl != -1) = st0.isNone) := hnone.symm
  have HSL : Hid (∀ l, st0 = some l → l = L) := fun l h => by
    rw [← hst.out] at h
    split at h
    · cases h; rfl
    · cases h
  clear hnone hst
  go_enter Tryz.func17, Tryz.ntmps17
  go_wp2_with fail
  refine hL.mono ?_
  rintro e w1 ⟨v, rfl, hvn, hO1, hb1⟩
  rw [rowL_K] at hO1
  obtain ⟨a, cap, rfl, hTV, hgx⟩ := tview_of_own hO1
  obtain ⟨tb, rfl, hbt⟩ := hgx hvn
  have htb : tb < w1.heap.size := by
    rcases hO1.2 with ⟨e, _⟩ | ⟨g, k', cur, e, hb, hg, _⟩
    · cases e
    · cases e; exact (Array.getElem?_eq_some_iff.1 hg).1
  have hsz1 := hb1.size
  obtain ⟨g, hg⟩ : ∃ x, Hid (w1.heap.size = x) := ⟨_, rfl⟩
  have M2 : MR g ⟨tb, cap, L⟩ st0 (w1.alloc (.cells #[.slice (some ⟨tb, 0, none⟩) L.length cap, .int .i64 0, .bool (pl != -1)] 79)) := by
    have hv := V3.new w1 79 (.slice (some ⟨tb, 0, none⟩) L.length cap) (.int .i64 0) (.bool (pl != -1))
    rw [hg.out, HNO.out] at hv
    rw [HNO.out]
    exact ⟨⟨0, hv, fun l hl => ⟨Nat.zero_le _, by rw [HSL.out l hl]; rfl⟩⟩, hTV.below ((Below.refl _ _).alloc (Nat.le_refl _) _), by show tb ≠ g; rw [← hg.out]; omega, hr5, hok, by show tb < _; rw [alloc_size9]; omega⟩
  have hB2 : Below w.heap.size w (w1.alloc (.cells #[.slice (some ⟨tb, 0, none⟩) L.length cap, .int .i64 0, .bool (pl != -1)] 79)) := hb1.alloc hsz1 _
  have hgs : (w1.alloc (.cells #[.slice (some ⟨tb, 0, none⟩) L.length cap, .int .i64 0, .bool (pl != -1)] 79)).heap.size = g + 1 := by rw [alloc_size9, hg.out]
  obtain ⟨N, hN⟩ : ∃ x, Hid (L.length = x) := ⟨_, rfl⟩
  obtain ⟨pb, hpb⟩ : ∃ x, Hid ((pl != -1) = x) := ⟨_, rfl⟩
  rw [hN.out, hpb.out] at M2 hB2 hgs
  obtain ⟨wB, hwB⟩ : ∃ x, Hid (w1.alloc (.cells #[.slice (some ⟨tb, 0, none⟩) N cap, .int .i64 0, .bool pb] 79) = x) := ⟨_, rfl⟩
  rw [hwB.out] at M2 hB2 hgs
  have HTB0 : Hid (Tabs wB (.slice (some ⟨wB.heap.size, 0, none⟩) 0 0) [] (wB.alloc (.cells #[] 35))) := by
    have := World.ownsRow_lit (base := wB.heap.size) (e := 35) (size := 4) wB #[] 0 (Nat.le_refl _) (Nat.zero_le _) rfl
    exact ⟨fun _ => (.string ⟨#[]⟩, .string ⟨#[]⟩, .string ⟨#[]⟩), by simpa [rowG] using this, fun _ hi => absurd hi (Nat.not_lt_zero _)⟩
  have HM3 : Hid (MR g ⟨tb, cap, L⟩ st0 (wB.alloc (.cells #[] 35)) ∧ But g wB (wB.alloc (.cells #[] 35))) := ⟨M2.new _, (But.refl _ _).new _⟩
  have HLOW : Hid (∀ W, But g wB W → Below w.heap.size w W) := fun W h => hB2.trans (h.below (by rw [← hg.out]; exact hsz1) hB2.size)
  have hgwB : g < wB.heap.size := by omega
  have HC0 : Hid (cntP 500 ([] : List PDef) st0) := by
    cases st0 with
    | none => exact Nat.zero_le _
    | some l =>
      have := HSL.out l rfl
      subst this
      show ([] : List PDef).length + l.length ≤ 500
      rw [List.length_nil]; omega
  have hg1 : w1.heap.size = g := hg.out
  have htg : tb < g := by omega
  clear hL hO1 hTV hvn hgx hbt htb hsz1 hb1 hg M2 hB2 HNO HSL hok
  rw [hN.out] at hr5 ⊢
  go_wp2_with (first | rw [hpb.out] | rw [hwB.out] | rw [hg1])
  clear hwB hpb hg1 hN
  go_loopg [7] (st0.elim 0 (fun l => l.length + 1)) (fun q out wr => ∃ (acc : List PDef) (stk : Option (List Tok)), q = stk.elim 0 (fun l => l.length + 1) ∧ Tabs wB out acc wr ∧ MR g ⟨tb, cap, L⟩ stk wr ∧ But g wB wr ∧ Hid (InvD T acc stk) ∧ Hid (cntP 500 acc stk))
  case atStart => exact ⟨[], st0, rfl, by have := HTB0.out; rw [hgs] at this; exact this, HM3.out.1, HM3.out.2, HI0, HC0⟩
  case round =>
    clear HTB0 HM3 HI0 HC0
    obtain ⟨acc, stk, rfl, hTb, M, B, HI, HC⟩ := hrel
    obtain ⟨pi, hrv, hri⟩ := M.row
    obtain ⟨c0, c1, c2⟩ := hrv.cells
    have hlen := HC.out.le
    cases stk with
    | none =>
      have c2' : wr.cell? ⟨g, 2, none⟩ = some (.bool true) := c2
      have HO : Hid (o = none) := HBAD.out acc HI.out
      have HR : Hid (∀ n, Below w.heap.size w ((wr.drewN n).alloc (.cells #[] 35))) := fun n => HLOW.out _ ((B.drewN n).new _)
      clear hTb M B hrv hri c2 HFIN HBAD HI HC HLOW
      go_wp2_with fail
      go_quiet (fail)
      go_wp2
      refine bodyPost_ret (v := .tuple #[.slice (some ⟨wr.heap.size, 0, none⟩) 0 0, .bool false]) (by simp [results, Tryz.results17, go_sem]) rfl ?_
      rw [HO.out]
      exact ⟨_, _, rfl, LView.empty _ _ _ _, HR.out _⟩
    | some l =>
      obtain ⟨hpl, rfl⟩ := hri l rfl
      have c2' : wr.cell? ⟨g, 2, none⟩ = some (.bool false) := c2
      have c0' : wr.cell? ⟨g, 0, none⟩ = some (.slice (some ⟨tb, 0, none⟩) L.length cap) := c0
      by_cases hlt : pi < L.length
      · have hd : ((pi : Int) < (L.length : Int)) := by omega
        have hne : L.drop pi ≠ [] := by intro e; have := congrArg List.length e; rw [List.length_drop, List.length_nil] at this; omega
        have HSP : Hid (∀ (D : PDef) (st' : Option (List Tok)), defR (L.drop pi) = st'.map (fun r => (D, r)) → InvD T (acc ++ [D]) st' ∧ st'.elim 0 (fun l => l.length + 1) < (L.drop pi).length + 1 ∧ cntP 500 (acc ++ [D]) st') := fun D st' hc => invD_step HI.out hne hc HC.out
        obtain ⟨N, hN⟩ : ∃ x, Hid (L.length = x) := ⟨_, rfl⟩
        rw [hN.out] at c0' hd
        have HMT : Hid (∀ n, MR g ⟨tb, cap, L⟩ (some (L.drop pi)) (wr.drewN n) ∧ Tabs wB u7 acc (wr.drewN n) ∧ But g wB (wr.drewN n)) := fun n => ⟨M.drewN n, hTb.below (below_drewN (Below.refl _ _) n), B.drewN n⟩
        clear hTb M B hrv hri c2 c0 HI HC hne
        go_wp2_with fail
        go_quiet (fail)
        obtain ⟨M4, T4, B4⟩ := HMT.out nq
        have hD := l10Def_any M4
        generalize wr.drewN nq = w4 at *
        clear HMT
        have HTB4 : Hid (Tabs wB u7 acc w4 ∧ But g wB w4) := ⟨T4, B4⟩
        clear T4 B4 M4 c0' c1 c2'
        go_wp2_with fail
        refine hD.mono ?_
        rintro e w5 ⟨n, c, p, x, st', vc, vp, vi, A, C, rfl, hT5, hE5, M5, b5⟩
        have hSP : Hid _ := HSP.out _ st' hE5
        have T5 := HTB4.out.1.but b5 hgwB
        have B5 := HTB4.out.2.trans b5
        have hT5' := hT5.down HTB4.out.2.size
        have HNM : Hid ((mkDef n c p x).name = n) := rfl
        obtain ⟨ac, cc, rfl, -, -⟩ := cview_of_own hT5.cols
        obtain ⟨ap, cp, rfl, -, -⟩ := bview_of_own hT5.pri
        obtain ⟨ai, ci, rfl, -, -⟩ := iview_of_own hT5.idx (fun i hi => (hT5.pts.at_ i hi).view)
        obtain ⟨D, hDD⟩ : ∃ x', Hid (mkDef n c p x = x') := ⟨_, rfl⟩
        rw [hDD.out] at hT5' hSP HNM ⊢
        obtain ⟨n1, hn1⟩ : ∃ x', Hid (D.nc = x') := ⟨_, rfl⟩
        obtain ⟨n2, hn2⟩ : ∃ x', Hid (D.np = x') := ⟨_, rfl⟩
        obtain ⟨n3, hn3⟩ : ∃ x', Hid (D.ni = x') := ⟨_, rfl⟩
        rw [hn1.out, hn2.out, hn3.out] at hT5' ⊢
        have Bx : Below w5.heap.size w5 ((w5.alloc (.cells #[.string n, .slice ac n1 cc, .slice ap n2 cp, .slice ai n3 ci] 35)).alloc (.cells #[.string n, .slice ac n1 cc, .slice ap n2 cp, .slice ai n3 ci] 35)) := ((Below.refl _ _).alloc (Nat.le_refl _) _).alloc (by simp) _
        have T6 := T5.below Bx
        have hT6 := hT5'.below Bx
        have M6 := M5.below Bx
        have B6 := B5.trans (But.ofBelow Bx)
        have HLN : Hid ((acc ++ [D]).length = acc.length + 1) := by show _ = _; rw [List.length_append, List.length_singleton]
        have hcl := cells_def10 (w5.alloc (.cells #[.string n, .slice ac n1 cc, .slice ap n2 cp, .slice ai n3 ci] 35)) n ac ap ai n1 n2 n3 cc cp ci
        rw [alloc_size9] at hcl
        obtain ⟨V, hO6, hV6⟩ := T6.is
        have HOW := own_ge9 hO6
        have HK : Hid ((∀ i, i < acc.length → ∃ A C, Tb wB (V i).1 (V i).2.1 (V i).2.2 (atD acc i) A C _) ∧ Tb wB (.slice ac n1 cc) (.slice ap n2 cp) (.slice ai n3 ci) D A C _ ∧ MR g ⟨tb, cap, L⟩ st' _ ∧ But g wB _) := ⟨hV6, hT6, M6, B6⟩
        have HO6 : Hid _ := hO6
        have hsz := B5.size
        obtain ⟨K, hK⟩ : ∃ x', Hid (acc.length = x') := ⟨_, rfl⟩
        rw [hK.out] at hO6 hlen
        clear hD hT5 hE5 M5 b5 HSP HTB4 T5 B5 hT5' Bx T6 hT6 M6 B6 hV6 HFIN HBAD
        go_wp2_with (at_builtin; refine wpList_append_own _ rfl (.tmp 39) (.tmp 41) 24 rfl wB.heap.size 35 iD (.agg #[.string ⟨#[]⟩, .slice none 0 0, .slice none 0 0, .slice none 0 0]) 4 88 Tryz.underlying24 hiD.1 hiD.2.1 hiD.2.2.1 hiD.2.2.2 rfl (by decide) _ _ _ rfl hO6 ⟨w5.heap.size + 1, 0, none⟩ 1 1 [.string n, .slice ac n1 cc, .slice ap n2 cp, .slice ai n3 ci] rfl rfl hcl (one_def10 _ _ _ _ _ _ _ _ _ _) (by unfold maxLen; omega) (by omega) (by simp; omega) ?_)
        intro v5 w9 hown5 hgr hnil
        obtain ⟨T6, hT6, M6, B6⟩ := HK.out
        have e9 : Eff wB 35 _ w9 := Eff.grown HO6.out hgr
        have T9 := Tabs.add T6 hT6 (v' := v5) (by rw [HNM.out, hK.out, hgs]; exact hown5) e9
        have M9 := M6.eff e9 hgwB (by show tb < _; omega)
        have B9 := B6.grownOwn hgr HOW
        have HR : Hid (Tabs wB v5 (acc ++ [D]) w9 ∧ MR g ⟨tb, cap, L⟩ st' w9 ∧ But g wB w9) := ⟨T9, M9, B9⟩
        clear hown5 hgr hnil T6 hT6 M6 B6 e9 T9 M9 B9 HK HO6 hO6 HOW hcl
        go_wp2
        go_roundg (st'.elim 0 (fun l => l.length + 1))
        case measure => exact hSP.out.2.1
        case rel => exact ⟨acc ++ [D], st', rfl, HR.out.1, HR.out.2.1, HR.out.2.2, hSP.out.1, hSP.out.2.2⟩
      · have hd : ¬ ((pi : Int) < (L.length : Int)) := by omega
        have hnil : L.drop pi = [] := List.drop_eq_nil_of_le (by omega)
        rw [hnil] at HI
        have HO : Hid _ := HFIN.out acc HI.out
        obtain ⟨N, hN⟩ : ∃ x, Hid (L.length = x) := ⟨_, rfl⟩
        rw [hN.out] at c0' hd
        have HMT : Hid (∀ n, Tabs wB u7 acc (wr.drewN n) ∧ But g wB (wr.drewN n)) := fun n => ⟨hTb.below (below_drewN (Below.refl _ _) n), B.drewN n⟩
        have hfz := hTb.fine (by omega)
        obtain ⟨oa, oc, rfl, -⟩ := hTb.view
        clear hTb M B hrv hri c2 c0 HFIN HBAD HI HC hnil
        go_wp2_with fail
        go_quiet (fail)
        obtain ⟨T4, B4⟩ := HMT.out nq
        have c2q : (wr.drewN nq).cell? ⟨g, 2, none⟩ = some (.bool false) := c2'
        generalize wr.drewN nq = w4 at *
        clear HMT c0' c1 c2'
        obtain ⟨oa', oc', e, hv⟩ := T4.view
        cases e
        have hF := specFirst_any oa acc.length oc (atD acc) w4 hv hfz
        obtain ⟨fz, hfz1⟩ : ∃ x, Hid (firstF (atD acc) acc.length = x) := ⟨_, rfl⟩
        rw [hfz1.out] at hF HO
        have HV : Hid (LView w4 oa acc.length oc (atD acc) ∧ But g wB w4) := ⟨hv, B4⟩
        clear T4 B4 hv hfz
        go_wp2_with fail
        refine hF.mono ?_
        rintro e w5 ⟨rfl, b5⟩
        have HB5 : Hid (Below w.heap.size w w5) := HLOW.out _ (HV.out.2.trans (But.ofBelow b5))
        have HV5 : Hid (LView w5 oa acc.length oc (atD acc)) := HV.out.1.below b5
        clear hF b5 HV
        by_cases hz : fz = -1
        · subst hz
          have HO' : Hid (o = some acc) := HO.out
          clear HO
          go_wp2
          refine bodyPost_ret (v := .tuple #[.slice oa acc.length oc, .bool true]) (by simp [results, Tryz.results17, go_sem]) rfl ?_
          rw [HO'.out]
          exact ⟨_, _, rfl, HV5.out, HB5.out⟩
        · have hz' : (fz != -1) = true := by simpa using hz
          have HO' : Hid (o = none) := by show _ = _; rw [HO.out, if_neg hz]
          have HR : Hid (Below w.heap.size w (w5.alloc (.cells #[] 35))) := HB5.out.alloc HB5.out.size _
          clear HO
          go_wp2
          refine bodyPost_ret (v := .tuple #[.slice (some ⟨w5.heap.size, 0, none⟩) 0 0, .bool false]) (by simp [results, Tryz.results17, go_sem]) rfl ?_
          rw [HO'.out]
          exact ⟨_, _, rfl, LView.empty _ _ _ _, HR.out⟩
end Go.Proofs.YtnpfgamlncfikaaGreatDoor

