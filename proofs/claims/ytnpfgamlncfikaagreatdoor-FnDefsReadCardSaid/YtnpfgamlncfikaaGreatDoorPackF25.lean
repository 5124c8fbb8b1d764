/-
  Together: IRdDefs, IParse, Box44
-/
import Derived.Test.YtnpfgamlncfikaaGreatDoorIDef
import Derived.Test.YtnpfgamlncfikaaGreatDoorPackF13
import Derived.Test.YtnpfgamlncfikaaGreatDoorLexImpl
import Derived.Test.YtnpfgamlncfikaaGreatDoorPackF21
import Derived.Test.YtnpfgamlncfikaaGreatDoorPackF24
import Derived.Tactics
import Derived.Tactics2
import Derived.Defers
import Derived.Recover
import Derived.Laws.Pointers
import Derived.Test.YtnpfgamlncfikaaGreatDoorPackF4
/-
  The program's readDefs, walked.
-/
namespace Go.Proofs.YtnpfgamlncfikaaGreatDoor
open Go.RowKit
set_option maxRecDepth 4000

set_option maxHeartbeats 16000000 in
theorem readDefs_any (s : ByteArray) (w : World) (hs : s.size ≤ 281474976710656) (hu : ErrU w) (hty : TyN w)
    (hI : ∀ (W : World) (v : Value) (D : PDef), Below w.heap.size w W → DView W v D → DFine D → Calls Tryz.prog 29 #[v] W fun e w' => e = .returned (.int .i64 (checkF D)) ∧ Below W.heap.size W w') :
    Calls Tryz.prog 34 #[.string s] w fun e w' => Below w.heap.size w w' ∧ ((∃ (ds : List PDef) (v : Value) (wB : World), parseF s = some ds ∧ e = .returned v ∧ w.heap.size ≤ wB.heap.size ∧ TabsI wB v ds w' ∧ ds.length ≤ 3 ∧ (∃ a k, v = .slice (some ⟨a, 0, none⟩) ds.length k)) ∨ (parseF s = none ∧ Gave e)) := by
  obtain ⟨iD, hiD⟩ := infoDef
  have hL := implLex_any s w hs
  have hr5 : (lexF s 0 []).1.length ≤ 500 := lexF_few s 0 [] (by simp)
  have hok : AllOk (lexF s 0 []).1 := lexF_ok s 0 [] (by simp)
  have HPF : Hid ((lexF s 0 []).2 = -1 → parseF s = goodF (defsI ((lexF s 0 []).1.length + 1) (lexF s 0 []).1)) := fun h => by
    unfold parseF tabsF
    rw [if_pos h, tabs_same hok]
  have HPN : Hid ((lexF s 0 []).2 ≠ -1 → parseF s = none) := fun h => by
    unfold parseF
    rw [if_neg h]
  obtain ⟨o, ho⟩ : ∃ x, Hid (parseF s = x) := ⟨_, rfl⟩
  simp only [ho.out] at HPF HPN
  rw [ho.out]
  obtain ⟨⟨L, pl⟩, hr⟩ : ∃ r, Hid (lexF s 0 [] = r) := ⟨_, rfl⟩
  simp only [hr.out] at hL hr5 hok HPF HPN
  clear hr ho
  have HU : Hid (ErrU w) := hu
  have HTY : Hid (TyN w) := hty
  go_enter Tryz.func34, Tryz.ntmps34
  go_wp2_with fail
  refine hL.mono ?_
  rintro e w1 ⟨v, rfl, hvn, hO1, hb1⟩
  obtain ⟨u, pv, hx⟩ := hu.below hb1
  by_cases hpl : pl = -1

  · subst hpl
    have HPF' : Hid (o = goodF (defsI (L.length + 1) L)) := HPF.out rfl
    have HFIN : Hid (∀ (acc : List PDef), InvDI (defsI (L.length + 1) L) acc [] → o = if firstF (atD acc) acc.length = -1 then some acc else none) := fun acc h => by
      rw [HPF'.out, invDI_end h]; rfl
    have HBAD : Hid (defsI (L.length + 1) L = none → o = none) := fun h => by rw [HPF'.out, h]; rfl
    have HI0 : Hid (InvDI (defsI (L.length + 1) L) [] L) := invDI_start L
    obtain ⟨T, hT⟩ : ∃ x, Hid (defsI (L.length + 1) L = x) := ⟨_, rfl⟩
    simp only [hT.out] at HFIN HBAD HI0
    clear HPF' HPF HPN hT
    rw [rowL_K] at hO1
    obtain ⟨a, cap, rfl, hTV, hgx⟩ := tview_of_own hO1
    obtain ⟨tb, rfl, hbt⟩ := hgx hvn
    have htb : tb < w1.heap.size := by
      rcases hO1.2 with ⟨e, _⟩ | ⟨g, k', cur, e, hb, hg, _⟩
      · cases e
      · cases e; exact (Array.getElem?_eq_some_iff.1 hg).1
    have hsz1 := hb1.size
    obtain ⟨g, hg⟩ : ∃ x, Hid (w1.heap.size = x) := ⟨_, rfl⟩
    have hltU := hu.lt
    have hltT := hty.lt
    have hge : 0 < g := by rw [← hg.out]; omega
    have hgt : 1 < g := by rw [← hg.out]; omega
    have M2 : IR g ⟨tb, cap, L⟩ L (w1.alloc (.cells #[.slice (some ⟨tb, 0, none⟩) L.length cap] 111)) := by
      have hv := V1.new w1 111 (.slice (some ⟨tb, 0, none⟩) L.length cap)
      rw [hg.out] at hv
      exact ⟨⟨0, 0, cap, hv, hTV.le, Nat.zero_le _, rfl, fun _ => rfl⟩, hTV.below ((Below.refl _ _).alloc (Nat.le_refl _) _), by show tb ≠ g; rw [← hg.out]; omega, hr5, hok, by show tb < _; rw [alloc_size9]; omega⟩
    have hB2 : Below w.heap.size w (w1.alloc (.cells #[.slice (some ⟨tb, 0, none⟩) L.length cap] 111)) := hb1.alloc hsz1 _
    have hgs : (w1.alloc (.cells #[.slice (some ⟨tb, 0, none⟩) L.length cap] 111)).heap.size = g + 1 := by rw [alloc_size9, hg.out]
    obtain ⟨N, hN⟩ : ∃ x, Hid (L.length = x) := ⟨_, rfl⟩
    rw [hN.out] at M2 hB2 hgs
    obtain ⟨wB, hwB⟩ : ∃ x, Hid (w1.alloc (.cells #[.slice (some ⟨tb, 0, none⟩) N cap] 111) = x) := ⟨_, rfl⟩
    rw [hwB.out] at M2 hB2 hgs
    have HTB0 : Hid (TabsI wB (.slice (some ⟨wB.heap.size, 0, none⟩) 0 0) [] (wB.alloc (.cells #[] 35))) := by
      have := World.ownsRow_lit (base := wB.heap.size) (e := 35) (size := 4) wB #[] 0 (Nat.le_refl _) (Nat.zero_le _) rfl
      exact ⟨fun _ => (.string ⟨#[]⟩, .string ⟨#[]⟩, .string ⟨#[]⟩), fun _ _ => 0, fun _ _ => 0, fun _ => wB.heap.size, by simpa [rowG] using this, fun _ hi => absurd hi (Nat.not_lt_zero _), by simp⟩
    have HM3 : Hid (IR g ⟨tb, cap, L⟩ L (wB.alloc (.cells #[] 35)) ∧ But g wB (wB.alloc (.cells #[] 35))) := ⟨M2.new _, (But.refl _ _).new _⟩
    have HLOW : Hid (∀ W, But g wB W → Below w.heap.size w W) := fun W h => hB2.trans (h.below (by rw [← hg.out]; exact hsz1) hB2.size)
    have hgwB : g < wB.heap.size := by omega
    have hwwB : w.heap.size ≤ wB.heap.size := hB2.size
    have hg1 : w1.heap.size = g := hg.out
    have htg : tb < g := by omega
    rw [hN.out] at hr5
    have HNl : Hid (L.length = N) := hN.out
    clear hL hO1 hTV hvn hgx hbt htb hsz1 hb1 hg M2 hB2 hok hx hu hty hltU hltT
    rw [hN.out]
    go_wp2_with (first | rw [hwB.out] | rw [hg1])
    clear hwB hg1 hN
    go_loopg [6] L.length (fun q out wr => ∃ (acc : List PDef) (lk : List Tok), q = lk.length ∧ TabsI wB out acc wr ∧ IR g ⟨tb, cap, L⟩ lk wr ∧ But g wB wr ∧ Hid (InvDI T acc lk) ∧ acc.length + lk.length ≤ 500 ∧ ∃ a k, out = .slice (some ⟨a, 0, none⟩) acc.length k)
    case atStart => exact ⟨[], L, rfl, by have := HTB0.out; rw [hgs] at this; exact this, HM3.out.1, HM3.out.2, HI0, by have := HNl.out; simp; omega, _, _, rfl⟩
    case round =>
      clear HTB0 HM3 HI0
      obtain ⟨acc, lk, rfl, hTb, M, B, HI, hlen, oa, ok, rfl⟩ := hrel
      obtain ⟨pi, po, pc, hrv, -⟩ := M.row
      have c0 := hrv.cell
      cases lk with
      | nil =>
        have c0' : wr.cell? ⟨g, 0, none⟩ = some (.slice (some ⟨tb, po, none⟩) 0 pc) := c0
        have HO : Hid _ := HFIN.out acc HI.out
        have hfz := hTb.tabs.fine (by omega)
        obtain ⟨oa', oc', e, hv⟩ := hTb.tabs.view
        cases e
        have hF := implFirst_any _ acc.length ok (atD acc) wr hv hfz (fun W v D hb hD hf => hI W v D ((HLOW.out _ B).trans (hb.mono (HLOW.out _ B).size)) hD hf)
        have HV : Hid (TabsI wB (.slice (some ⟨oa, 0, none⟩) acc.length ok) acc wr ∧ But g wB wr) := ⟨hTb, B⟩
        have HF3 : Hid (firstF (atD acc) acc.length = -1 → acc.length ≤ 3) := fun h => (firstF_none h).1
        obtain ⟨fz, hfz1⟩ : ∃ x, Hid (firstF (atD acc) acc.length = x) := ⟨_, rfl⟩
        rw [hfz1.out] at hF HO HF3
        clear hTb M B hrv c0 HFIN HBAD HI hv hfz hI
        go_wp2_with fail
        refine hF.mono ?_
        rintro e w5 ⟨rfl, b5⟩
        have HB5 : Hid (Below w.heap.size w w5) := HLOW.out _ (HV.out.2.trans (But.ofBelow b5))
        have HV5 : Hid (TabsI wB (.slice (some ⟨oa, 0, none⟩) acc.length ok) acc w5) := HV.out.1.below b5
        obtain ⟨u, pv, hx⟩ := HU.out.below HB5.out
        clear hF b5 HV c0'
        by_cases hz : fz = -1
        · subst hz
          have HO' : Hid (o = some acc) := HO.out
          have h3 : acc.length ≤ 3 := HF3.out rfl
          clear HO HF3
          go_wp2
          go_ret
          exact ⟨HB5.out, .inl ⟨acc, _, wB, HO'.out, rfl, hwwB, HV5.out, h3, _, _, rfl⟩⟩
        · have hz' : (fz != -1) = true := by simpa using hz
          have HO' : Hid (o = none) := by show _ = _; rw [HO.out, if_neg hz]
          clear HO HF3
          go_wp2
          exact ⟨rfl, HB5.out, .inr ⟨HO'.out, u, pv, rfl⟩⟩
      | cons t q =>
        have c0' : wr.cell? ⟨g, 0, none⟩ = some (.slice (some ⟨tb, po, none⟩) (q.length + 1) pc) := c0
        have hBw := HLOW.out _ B
        have hD := def_any M (HU.out.below hBw) (HTY.out.below hBw) hge hgt
        have HN1 : Hid (defI (t :: q) = none → o = none) := fun h => HBAD.out (invDI_no HI.out h)
        have HSP : Hid (∀ D r, defI (t :: q) = some (D, r) → InvDI T (acc ++ [D]) r ∧ r.length < (t :: q).length) := fun D r h => invDI_step HI.out h
        obtain ⟨V, A, C, β, h1, h2, h3⟩ := hTb.is
        have HTQ : Hid (wr.ownsRow wB.heap.size 35 4 (.slice (some ⟨oa, 0, none⟩) acc.length ok) acc.length (rowG (encD (atD acc) V) acc.length) ∧ (∀ i, i < acc.length → Tb wB (V i).1 (V i).2.1 (V i).2.2 (atD acc i) (A i) (C i) wr ∧ (∀ a b, a < b → b < (atD acc i).ni → A i a ≠ A i b) ∧ Bd (β i) (β (i + 1)) (V i).1 (V i).2.1 (V i).2.2 (atD acc i).ni (A i) ∧ β i ≤ β (i + 1)) ∧ β acc.length ≤ wr.heap.size ∧ But g wB wr) := ⟨h1, h2, h3, B⟩
        rw [List.length_cons] at hlen
        clear hTb M B hrv c0 HI h1 h2 h3 hBw
        go_wp2_with fail
        refine hD.mono ?_
        rintro e w5 ⟨b5, hres5⟩
        rcases hres5.symm with ⟨he, u, pv, rfl⟩ | ⟨n, c, p, x, r5, vc, vp, vi, A', C', he, rfl, hT5, M5, hdj⟩
        · have HR : Hid (o = none) := HN1.out he
          have HB : Hid (Below w.heap.size w w5) := HLOW.out _ (HTQ.out.2.2.2.trans b5)
          clear hD b5 hres5 HTQ HSP HN1 HFIN HBAD c0' hI
          go_wp2
          exact ⟨rfl, HB.out, .inr ⟨HR.out, u, pv, rfl⟩⟩
        have hSP : Hid _ := HSP.out _ r5 he
        obtain ⟨h1, h2, h3, B⟩ := HTQ.out
        have hO5 := own_but9 h1 b5 hgwB
        have hV5 : ∀ i, i < acc.length → Tb wB (V i).1 (V i).2.1 (V i).2.2 (atD acc i) (A i) (C i) w5 ∧ (∀ a b, a < b → b < (atD acc i).ni → A i a ≠ A i b) ∧ Bd (β i) (β (i + 1)) (V i).1 (V i).2.1 (V i).2.2 (atD acc i).ni (A i) ∧ β i ≤ β (i + 1) := fun i hi => ⟨(h2 i hi).1.but b5 hgwB, (h2 i hi).2⟩
        have B5 := B.trans b5
        have HNM : Hid ((mkDef n c p x).name = n) := rfl
        obtain ⟨ac, cc, rfl, -, -⟩ := cview_of_own hT5.cols
        obtain ⟨ap, cp, rfl, -, -⟩ := bview_of_own hT5.pri
        obtain ⟨ai, ci, rfl, -, -⟩ := iview_of_own hT5.idx (fun i hi => (hT5.pts.at_ i hi).view)
        have HDJ : Hid (∀ a b, a < b → b < (mkDef n c p x).ni → A' a ≠ A' b) := hdj
        obtain ⟨D, hDD⟩ : ∃ x', Hid (mkDef n c p x = x') := ⟨_, rfl⟩
        rw [hDD.out] at hT5 hSP HNM HDJ ⊢
        obtain ⟨n1, hn1⟩ : ∃ x', Hid (D.nc = x') := ⟨_, rfl⟩
        obtain ⟨n2, hn2⟩ : ∃ x', Hid (D.np = x') := ⟨_, rfl⟩
        obtain ⟨n3, hn3⟩ : ∃ x', Hid (D.ni = x') := ⟨_, rfl⟩
        rw [hn1.out, hn2.out, hn3.out] at hT5 ⊢
        have Bx : Below w5.heap.size w5 (w5.alloc (.cells #[.string n, .slice ac n1 cc, .slice ap n2 cp, .slice ai n3 ci] 35)) := (Below.refl _ _).alloc (Nat.le_refl _) _
        have hO6 := own_belowG hO5 Bx
        have HOW := own_ge9 hO6
        have hcl := cells_def10 w5 n ac ap ai n1 n2 n3 cc cp ci
        have HK : Hid ((∀ i, i < acc.length → Tb wB (V i).1 (V i).2.1 (V i).2.2 (atD acc i) (A i) (C i) (w5.alloc (.cells #[.string n, .slice ac n1 cc, .slice ap n2 cp, .slice ai n3 ci] 35)) ∧ (∀ a b, a < b → b < (atD acc i).ni → A i a ≠ A i b) ∧ Bd (β i) (β (i + 1)) (V i).1 (V i).2.1 (V i).2.2 (atD acc i).ni (A i) ∧ β i ≤ β (i + 1)) ∧ Tb wr (.slice ac n1 cc) (.slice ap n2 cp) (.slice ai n3 ci) D A' C' (w5.alloc (.cells #[.string n, .slice ac n1 cc, .slice ap n2 cp, .slice ai n3 ci] 35)) ∧ IR g ⟨tb, cap, L⟩ r5 (w5.alloc (.cells #[.string n, .slice ac n1 cc, .slice ap n2 cp, .slice ai n3 ci] 35)) ∧ But g wB (w5.alloc (.cells #[.string n, .slice ac n1 cc, .slice ap n2 cp, .slice ai n3 ci] 35)) ∧ wB.heap.size ≤ wr.heap.size ∧ wr.heap.size ≤ (w5.alloc (.cells #[.string n, .slice ac n1 cc, .slice ap n2 cp, .slice ai n3 ci] 35)).heap.size) := ⟨fun i hi => ⟨(hV5 i hi).1.below Bx, (hV5 i hi).2⟩, hT5.below Bx, M5.below Bx, B5.trans (But.ofBelow Bx), B.size, Nat.le_trans b5.size Bx.size⟩
        have HB3 : Hid (β acc.length ≤ wr.heap.size) := h3
        have HO6 : Hid _ := hO6
        have hsz := B5.size
        obtain ⟨K, hK⟩ : ∃ x', Hid (acc.length = x') := ⟨_, rfl⟩
        rw [hK.out] at hO6 hlen ⊢
        clear hD hT5 he M5 b5 HSP HTQ hres5 h1 h2 h3 B hO5 hV5 B5 Bx HFIN HN1 c0' hdj
        go_wp2_with (at_builtin; refine wpList_append_own _ rfl (.tmp 22) (.tmp 24) 24 rfl wB.heap.size 35 iD (.agg #[.string ⟨#[]⟩, .slice none 0 0, .slice none 0 0, .slice none 0 0]) 4 88 Tryz.underlying24 hiD.1 hiD.2.1 hiD.2.2.1 hiD.2.2.2 rfl (by decide) _ _ _ rfl hO6 ⟨w5.heap.size, 0, none⟩ 1 1 [.string n, .slice ac n1 cc, .slice ap n2 cp, .slice ai n3 ci] rfl rfl hcl (one_def10 _ _ _ _ _ _ _ _ _ _) (by unfold maxLen; omega) (by omega) (by simp; omega) ?_)
        intro v5 w9 hown5 hgr hnil
        obtain ⟨T6, hT6, M6, B6, hw6, hw7⟩ := HK.out
        have e9 : Eff wB 35 _ w9 := Eff.grown HO6.out hgr
        have T9 := TabsI.add T6 HB3.out hw7 hw6 hT6 HDJ.out (v' := v5) (by rw [HNM.out, hK.out, hgs]; exact hown5) e9
        have M9 := M6.eff e9 hgwB (by show tb < _; omega)
        have B9 := B6.grownOwn hgr HOW
        obtain ⟨b9, c9, rfl⟩ := own_succ9 hown5
        have HR : Hid (TabsI wB (.slice (some ⟨b9, 0, none⟩) (K + 1) c9) (acc ++ [D]) w9 ∧ IR g ⟨tb, cap, L⟩ r5 w9 ∧ But g wB w9) := ⟨T9, M9, B9⟩
        have HLN : Hid ((acc ++ [D]).length = K + 1) := by show _ = _; rw [List.length_append, List.length_singleton, hK.out]
        have hlt5 := hSP.out.2
        rw [List.length_cons] at hlt5
        clear hown5 hgr hnil T6 hT6 M6 B6 e9 T9 M9 B9 HK HO6 hO6 HOW hcl hw6 hw7
        go_wp2
        go_roundg r5.length
        case measure => exact hSP.out.2
        case rel => exact ⟨acc ++ [D], r5, rfl, HR.out.1, HR.out.2.1, HR.out.2.2, hSP.out.1, by rw [HLN.out]; omega, b9, c9, by rw [HLN.out]⟩
  · have hpl' : (pl != -1) = true := by simpa using hpl
    have HR : Hid (o = none) := HPN.out hpl
    have HB : Hid (Below w.heap.size w w1) := hb1
    clear hL HPF HPN hO1 hb1 hvn hI
    go_wp2
    exact ⟨rfl, HB.out, .inr ⟨HR.out, u, pv, rfl⟩⟩
end Go.Proofs.YtnpfgamlncfikaaGreatDoor

/-
  The program's ParseDefs, walked: a deferred function that recovers.
-/
namespace Go.Proofs.YtnpfgamlncfikaaGreatDoor
open Go.RowKit
set_option maxRecDepth 4000

theorem catch_panicking (p q : Addr) (x y : Value) (u : TypeId) (pv : Value) (older : List PanicEntry) (w : World) (hx : w.cell? p = some x) (hz : w.frozen? p = false) (hpl : p.block < w.heap.size)
    (hy : ((w.alloc (.cells #[] 35)).setCell p (.slice (some ⟨w.heap.size, 0, none⟩) 0 0)).cell? q = some y) (hzq : ((w.alloc (.cells #[] 35)).setCell p (.slice (some ⟨w.heap.size, 0, none⟩) 0 0)).frozen? q = false) :
    CallsD Tryz.prog 33 #[.pointer (some p), .pointer (some q)] (.panicking ({ v := .iface u pv, recovered := false } :: older)) w fun e u' w' =>
      e = .returned (.tuple #[]) ∧ u' = .panicking ({ v := .iface u pv, recovered := true } :: older) ∧ w' = ((w.alloc (.cells #[] 35)).setCell p (.slice (some ⟨w.heap.size, 0, none⟩) 0 0)).setCell q (.bool false) := by
  have hx' : (w.alloc (.cells #[] 35)).cell? p = some x := by rw [((Below.refl w.heap.size w).alloc (Nat.le_refl _) _).cell hpl]; exact hx
  have hz' : (w.alloc (.cells #[] 35)).frozen? p = false := by
    have := ((Below.refl w.heap.size w).alloc (Nat.le_refl _) (.cells #[] 35)).block p.block hpl
    simp only [World.frozen?, this] at hz ⊢
    exact hz
  refine callsD_of_wpS Tryz.func33 rfl fun c₀ cs hu => ?_
  apply wpS_seq
  apply wpS_region
  simp [wpOpsS, go_sem, recoverD, hu, Tryz.ntmps33, Exit.thenS]
  refine wpS_cond (t := true) (by simp [Act.eval, Array.replicate]) ?_
  simp only [if_true]
  apply wpS_region
  simp [wpOpsS, go_sem, hx', hz', hy, hzq, bodyPostS, results, Tryz.results33]

theorem catch_idle (p q : Addr) (w : World) :
    CallsD Tryz.prog 33 #[.pointer (some p), .pointer (some q)] .returning w fun e u' w' => e = .returned (.tuple #[]) ∧ u' = .returning ∧ w' = w := by
  refine callsD_of_wpS Tryz.func33 rfl fun c₀ cs hu => ?_
  apply wpS_seq
  apply wpS_region
  simp [wpOpsS, go_sem, recoverD, hu, Tryz.ntmps33, Exit.thenS]
  refine wpS_cond (t := false) (by simp [Act.eval, Array.replicate]) ?_
  simp only [Bool.false_eq_true, if_false]
  refine wpS_of_wp (wp_skip ?_)
  cases c₀
  simp_all [bodyPostS, results, Tryz.results33]

/-- What the program's ParseDefs answers. -/
def ParseI (w : World) (o : Option (List PDef)) (e : Ending) (w' : World) : Prop :=
  ∃ (v : Value) (wB : World), e = .returned (.tuple #[v, .bool o.isSome]) ∧ Below w.heap.size w w' ∧ w.heap.size ≤ wB.heap.size ∧ TabsI wB v (o.getD []) w' ∧ (o.getD []).length ≤ 3 ∧ ∃ a k, v = .slice (some ⟨a, 0, none⟩) (o.getD []).length k
theorem But.one (W : World) (B i : Nat) (u : Value) : But B W (W.setCell ⟨B, i, none⟩ u) := (But.refl _ _).set _ _

set_option maxHeartbeats 4000000 in
theorem implParse_any (s : ByteArray) (w : World) (hs : s.size ≤ 281474976710656) (hu : ErrU w) (hty : TyN w)
    (hI : ∀ (W : World) (v : Value) (D : PDef), Below w.heap.size w W → DView W v D → DFine D → Calls Tryz.prog 29 #[v] W fun e w' => e = .returned (.int .i64 (checkF D)) ∧ Below W.heap.size W w') :
    Calls Tryz.prog 14 #[.string s] w (ParseI w (parseF s)) := by
  have hmf : ∀ (fn : Fn) (first cap : Array Value) (w : World), (Instr.makeFunc fn first cap).run Tryz.prog w = .ok (.func fn first cap) w := fun _ _ _ _ => rfl
  have hb0 : Below w.heap.size w ((w.alloc (.cells #[.slice none 0 0] 24)).alloc (.cells #[.bool false] 4)) := ((Below.refl _ _).alloc (Nat.le_refl _) _).alloc (by simp) _
  have hR := readDefs_any s ((w.alloc (.cells #[.slice none 0 0] 24)).alloc (.cells #[.bool false] 4)) hs (hu.below hb0) (hty.below hb0) (fun W v D hb hD hf => hI W v D (hb0.trans (hb.mono (by simp; omega))) hD hf)
  have P0 := (V1.new w 24 (.slice none 0 0)).block (((Below.refl _ _).alloc (Nat.le_refl (w.alloc (.cells #[.slice none 0 0] 24)).heap.size) (.cells #[.bool false] 4)).block _ (V1.new w 24 (.slice none 0 0)).lt)
  have Q0 := V1.new (w.alloc (.cells #[.slice none 0 0] 24)) 4 (.bool false)
  rw [alloc_size9] at Q0
  obtain ⟨o, ho⟩ : ∃ x, Hid (parseF s = x) := ⟨_, rfl⟩
  rw [ho.out] at hR ⊢
  clear hI hu hty
  go_enter_defers Tryz.func14, Tryz.ntmps14
  go_wp2_with fail
  refine hR.mono ?_
  rintro e w1 ⟨b1, hres1⟩
  have P1 := P0.block (b1.block _ P0.lt)
  have Q1 := Q0.block (b1.block _ Q0.lt)
  have B1 : Below w.heap.size w w1 := hb0.trans (b1.mono (by simp; omega))
  have hz1 : w.heap.size + 1 + 1 ≤ w1.heap.size := by have := b1.size; simpa using this
  have p0 := P1.cell
  have pf := P1.fz
  have q0 := Q1.cell
  have qf := Q1.fz
  rcases hres1.symm with ⟨he, u, pv, rfl⟩ | ⟨ds, v, wB, he, rfl, hwB, hT, h3, a, k, rfl⟩
  · clear hR
    go_wp2
    refine leaves_cons (f := 33) (args := #[.pointer (some ⟨w.heap.size, 0, none⟩), .pointer (some ⟨w.heap.size + 1, 0, none⟩)]) (by simp) (by simp [go_sem]) ?_
    have Q2 := Q1.block (((Below.refl w1.heap.size w1).alloc (Nat.le_refl _) (.cells #[] 35)).block _ Q1.lt)
    have Q3 := Q2.block (w' := (w1.alloc (.cells #[] 35)).setCell ⟨w.heap.size, 0, none⟩ (.slice (some ⟨w1.heap.size, 0, none⟩) 0 0)) (Below.heap_setCell _ _ _ _ (by show w.heap.size + 1 ≠ w.heap.size; omega))
    refine (catch_panicking ⟨w.heap.size, 0, none⟩ ⟨w.heap.size + 1, 0, none⟩ _ _ u pv [] w1 p0 pf P1.lt Q3.cell Q3.fz).mono ?_
    rintro e u' w2 ⟨rfl, rfl, hw2⟩
    have P2 := P1.block (((Below.refl w1.heap.size w1).alloc (Nat.le_refl _) (.cells #[] 35)).block _ P1.lt)
    have P4 := (P2.set (.slice (some ⟨w1.heap.size, 0, none⟩) 0 0)).block (w' := ((w1.alloc (.cells #[] 35)).setCell ⟨w.heap.size, 0, none⟩ (.slice (some ⟨w1.heap.size, 0, none⟩) 0 0)).setCell ⟨w.heap.size + 1, 0, none⟩ (.bool false)) (Below.heap_setCell _ _ _ _ (by show w.heap.size ≠ w.heap.size + 1; omega))
    have Q4 := Q3.set (.bool false)
    have B4 : Below w.heap.size w (((w1.alloc (.cells #[] 35)).setCell ⟨w.heap.size, 0, none⟩ (.slice (some ⟨w1.heap.size, 0, none⟩) 0 0)).setCell ⟨w.heap.size + 1, 0, none⟩ (.bool false)) := ((B1.alloc B1.size _).setCell (p := ⟨w.heap.size, 0, none⟩) (Nat.le_refl _) _).setCell (p := ⟨w.heap.size + 1, 0, none⟩) (by simp) _
    have T4 : TabsI w (.slice (some ⟨w1.heap.size, 0, none⟩) 0 0) [] (((w1.alloc (.cells #[] 35)).setCell ⟨w.heap.size, 0, none⟩ (.slice (some ⟨w1.heap.size, 0, none⟩) 0 0)).setCell ⟨w.heap.size + 1, 0, none⟩ (.bool false)) := by
      have h0 := World.ownsRow_lit (base := w.heap.size) (e := 35) (size := 4) w1 #[] 0 B1.size (Nat.zero_le _) rfl
      have h1 := (h0.kept (But.grown (But.one _ w.heap.size 0 (.slice (some ⟨w1.heap.size, 0, none⟩) 0 0))) (.inr (fun e => by simp [Value.ownBlock] at e; omega)))
      have h2 := (h1.kept (But.grown (But.one _ (w.heap.size + 1) 0 (.bool false))) (.inr (fun e => by simp [Value.ownBlock] at e; omega)))
      exact ⟨fun _ => (.string ⟨#[]⟩, .string ⟨#[]⟩, .string ⟨#[]⟩), fun _ _ => 0, fun _ _ => 0, fun _ => w.heap.size, by simpa [rowG] using h2, fun _ hi => absurd hi (Nat.not_lt_zero _), B4.size⟩
    rw [← hw2] at P4 Q4 B4 T4
    have pc := P4.cell
    have qc := Q4.cell
    subst he
    simp [Leaves, settle, results, Tryz.results14, go_sem, pc, qc]
    exact ⟨_, w, rfl, B4, Nat.le_refl _, T4, by simp, _, _, rfl⟩
  · obtain ⟨W2, hW2⟩ : ∃ W2, Hid ((w1.setCell ⟨w.heap.size, 0, none⟩ (.slice (some ⟨a, 0, none⟩) ds.length k)).setCell ⟨w.heap.size + 1, 0, none⟩ (.bool true) = W2) := ⟨_, rfl⟩
    have hwB' : w.heap.size + 1 + 1 ≤ wB.heap.size := by have := hwB; simpa using this
    have T2 := (hT.but (But.one _ w.heap.size 0 (.slice (some ⟨a, 0, none⟩) ds.length k)) (by omega)).but (But.one _ (w.heap.size + 1) 0 (.bool true)) (by omega)
    have P2 := (P1.set (.slice (some ⟨a, 0, none⟩) ds.length k)).block (w' := (w1.setCell ⟨w.heap.size, 0, none⟩ (.slice (some ⟨a, 0, none⟩) ds.length k)).setCell ⟨w.heap.size + 1, 0, none⟩ (.bool true)) (Below.heap_setCell _ _ _ _ (by show w.heap.size ≠ w.heap.size + 1; omega))
    have Q1' := Q1.block (w' := w1.setCell ⟨w.heap.size, 0, none⟩ (.slice (some ⟨a, 0, none⟩) ds.length k)) (Below.heap_setCell _ _ _ _ (by show w.heap.size + 1 ≠ w.heap.size; omega))
    have Q2 := Q1'.set (.bool true)
    have q1 := Q1'.cell
    have q1f := Q1'.fz
    have B2 : Below w.heap.size w ((w1.setCell ⟨w.heap.size, 0, none⟩ (.slice (some ⟨a, 0, none⟩) ds.length k)).setCell ⟨w.heap.size + 1, 0, none⟩ (.bool true)) := (B1.setCell (p := ⟨w.heap.size, 0, none⟩) (Nat.le_refl _) _).setCell (p := ⟨w.heap.size + 1, 0, none⟩) (by simp) _
    rw [hW2.out] at T2 P2 Q2 B2
    have pc := P2.cell
    have qc := Q2.cell
    subst he
    have HF : Hid (ParseI w (some ds) (.returned (.tuple #[.slice (some ⟨a, 0, none⟩) ds.length k, .bool true])) W2) := ⟨_, wB, rfl, B2, by omega, T2, h3, a, k, rfl⟩
    clear hR hT T2 P2 Q2 Q1' B2 hres1 b1 P0 Q0 P1 Q1 B1
    go_wp2_with (rw [hW2.out])
    refine leaves_cons (f := 33) (args := #[.pointer (some ⟨w.heap.size, 0, none⟩), .pointer (some ⟨w.heap.size + 1, 0, none⟩)]) (by simp) (by simp [go_sem]) ?_
    refine (catch_idle ⟨w.heap.size, 0, none⟩ ⟨w.heap.size + 1, 0, none⟩ _).mono ?_
    rintro e u' w2 ⟨rfl, rfl, rfl⟩
    simp [Leaves, settle, results, Tryz.results14, go_sem, pc, qc]
    exact HF.out
end Go.Proofs.YtnpfgamlncfikaaGreatDoor

/-
  Two tables in variables of the call's own.
-/
namespace Go.Proofs.YtnpfgamlncfikaaGreatDoor
open Go.RowKit
set_option maxRecDepth 4000

theorem bool_ne {a b : Bool} (h : ¬ a = b) : b = !a := by cases a <;> cases b <;> simp at h <;> rfl
/-- Two variables of four cells, one behind the other. -/
theorem box44 {w wr : World} {T U : TypeId} {x0 x1 x2 x3 y0 y1 y2 y3 : Value} (h : Below (w.heap.size + 1 + 1) ((w.alloc (.cells #[x0, x1, x2, x3] T)).alloc (.cells #[y0, y1, y2, y3] U)) wr) :
    (wr.cell? ⟨w.heap.size, 0, none⟩ = some x0 ∧ wr.cell? ⟨w.heap.size, 1, none⟩ = some x1 ∧ wr.cell? ⟨w.heap.size, 2, none⟩ = some x2 ∧ wr.cell? ⟨w.heap.size, 3, none⟩ = some x3)
    ∧ (wr.cell? ⟨w.heap.size + 1, 0, none⟩ = some y0 ∧ wr.cell? ⟨w.heap.size + 1, 1, none⟩ = some y1 ∧ wr.cell? ⟨w.heap.size + 1, 2, none⟩ = some y2 ∧ wr.cell? ⟨w.heap.size + 1, 3, none⟩ = some y3) := by
  refine ⟨⟨?_, ?_, ?_, ?_⟩, ?_, ?_, ?_, ?_⟩
  all_goals (rw [h.cell (by first | (simp; done) | (simp; omega))]; simp [go_sem])
theorem box44_below {w wr : World} {o p : Obj} (h : Below (w.heap.size + 1 + 1) ((w.alloc o).alloc p) wr) : Below w.heap.size w wr ∧ w.heap.size + 2 ≤ wr.heap.size := by
  refine ⟨(((Below.refl _ _).alloc (Nat.le_refl _) _).alloc (by simp) _).trans (h.mono (by omega)), ?_⟩
  have := h.size
  simpa using this
theorem box44_on {w wr w' : World} {o p : Obj} (h : Below (w.heap.size + 1 + 1) ((w.alloc o).alloc p) wr) (h' : Below wr.heap.size wr w') : Below (w.heap.size + 1 + 1) ((w.alloc o).alloc p) w' := h.trans (h'.mono (box44_below h).2)
theorem box3 {w wr : World} {T : TypeId} {x0 x1 x2 : Value} (h : Below (w.heap.size + 1) (w.alloc (.cells #[x0, x1, x2] T)) wr) :
    wr.cell? ⟨w.heap.size, 0, none⟩ = some x0 ∧ wr.cell? ⟨w.heap.size, 1, none⟩ = some x1 ∧ wr.cell? ⟨w.heap.size, 2, none⟩ = some x2 := by
  refine ⟨?_, ?_, ?_⟩
  all_goals (rw [h.cell (by simp)]; simp [go_sem])

end Go.Proofs.YtnpfgamlncfikaaGreatDoor

