/-
  LawChildren
-/
import Derived.Test.YtofghefenfdlpaaCh8
import Derived.Test.YtofghefenfdlpaaCh10
import Derived.Deep.RegionHeld3
/-
  The walk over the law FnChildren.
-/
namespace Go.Proofs.Ytofghefenfdlpaa
open Go.RowKit
set_option maxRecDepth 4000

theorem DN.form {W : World} {v : Value} {L : NL} (h : DN W v L) : ∃ a b c d e f, v = .agg #[.bool L.leaf, .slice a L.ks.length b, .slice c L.vs.length d, .slice e L.ds.length f] := by
  obtain ⟨kv, vv, dv, ev, hV⟩ := h.is
  obtain ⟨⟨a, b, e1, -⟩, ⟨c, d, e2, -⟩, ⟨e, f, e3, -⟩⟩ := hV
  subst e1 e2 e3
  exact ⟨a, b, c, d, e, f, ev⟩

set_option maxHeartbeats 8000000 in
theorem lawChildren (ao : Option Addr) (n cap : Nat) (f : Nat → Int) (w : World) (hv : View w ao n cap f) (hn63 : n ≤ 9223372036854775807) :
    Calls Try.prog 4 #[.slice ao n cap] w fun e w' => e = .returned (.bool true) ∧ Below w.heap.size w w' := by
  by_cases hbig : 1048576 < n
  · have hd : decide ((1048576 : Int) < (n : Int)) = true := by simp; omega
    go_enter Try.func4, Try.ntmps4
    go_wp2_with fail
    refine (big_any ao n cap w hn63).mono ?_
    rw [hd]
    rintro e _ ⟨rfl, rfl⟩
    go_wp2
    go_ret
    exact ⟨rfl, Below.refl _ _⟩
  have hd : decide ((1048576 : Int) < (n : Int)) = false := by simp; omega
  have hn : n ≤ 1048576 := by omega
  clear hbig
  go_enter Try.func4, Try.ntmps4
  go_wp2_with fail
  refine (big_any ao n cap w hn63).mono ?_
  rw [hd]
  rintro e _ ⟨rfl, rfl⟩
  clear hd
  go_wp2_with fail
  refine (drawChildOf_any ao n cap f w hn hv).mono ?_
  rintro e w1 ⟨L, v, s, rfl, hD, hSm, hss, hb1⟩
  obtain ⟨xa, xb, xc, xd, xe, xf, ev⟩ := hD.form
  subst ev
  have hf := hSm.fine
  have hbX : Below w1.heap.size w1 (w1.alloc (.cells #[(.bool L.leaf), (.slice xa L.ks.length xb), (.slice xc L.vs.length xd), (.slice xe L.ds.length xf)] 27)) := (Below.refl _ _).alloc (Nat.le_refl _) _
  have hX := V4.new w1 27 (.bool L.leaf) (.slice xa L.ks.length xb) (.slice xc L.vs.length xd) (.slice xe L.ds.length xf)
  have hDX := hD.view.below hbX
  have hB := hb1.trans (hbX.mono hb1.size)
  obtain ⟨X, hXe⟩ : ∃ x, Hid (w1.heap.size = x) := ⟨_, rfl⟩
  clear hbX hD
  obtain ⟨W1, hW1⟩ : ∃ x, Hid (w1.alloc (.cells #[(.bool L.leaf), (.slice xa L.ks.length xb), (.slice xc L.vs.length xd), (.slice xe L.ds.length xf)] 27) = x) := ⟨_, rfl⟩
  rw [hW1.out] at hX hDX hB
  obtain ⟨x0, x1, x2, x3⟩ := hX.cells
  have hC := implChild_any _ L.pn s W1 hDX hf
  go_wp2_with (rw [hW1.out])
  refine hC.mono ?_
  rintro e w2 ⟨rfl, hb2⟩
  rw [hXe.out] at hX ⊢
  clear hC hW1 hXe x0 x1 x2 x3
  replace hX := hX.below hb2
  replace hDX := hDX.below hb2
  replace hB := hB.trans (hb2.mono hB.size)
  clear hb2 hb1
  go_wp2_with fail
  refine (drawSameNode_any ao n cap f w2 hn (hv.below hB)).mono ?_
  rintro e w3 ⟨La, Lb, va, vb, rfl, hDa, hDb, hSa, hSb, hb3⟩
  obtain ⟨ya, yb, yc, yd, ye, yf, ev⟩ := hDa.form
  subst ev
  obtain ⟨za, zb, zc, zd, ze, zf, ev⟩ := hDb.form
  subst ev
  replace hX := hX.below hb3
  replace hDX := hDX.below hb3
  replace hB := hB.trans (hb3.mono hB.size)
  have hbA : Below w3.heap.size w3 (w3.alloc (.cells #[(.bool La.leaf), (.slice ya La.ks.length yb), (.slice yc La.vs.length yd), (.slice ye La.ds.length yf)] 27)) := (Below.refl _ _).alloc (Nat.le_refl _) _
  have hbB : Below (w3.alloc (.cells #[(.bool La.leaf), (.slice ya La.ks.length yb), (.slice yc La.vs.length yd), (.slice ye La.ds.length yf)] 27)).heap.size (w3.alloc (.cells #[(.bool La.leaf), (.slice ya La.ks.length yb), (.slice yc La.vs.length yd), (.slice ye La.ds.length yf)] 27)) ((w3.alloc (.cells #[(.bool La.leaf), (.slice ya La.ks.length yb), (.slice yc La.vs.length yd), (.slice ye La.ds.length yf)] 27)).alloc (.cells #[(.bool Lb.leaf), (.slice za Lb.ks.length zb), (.slice zc Lb.vs.length zd), (.slice ze Lb.ds.length zf)] 27)) := (Below.refl _ _).alloc (Nat.le_refl _) _
  have hA := (V4.new w3 27 (.bool La.leaf) (.slice ya La.ks.length yb) (.slice yc La.vs.length yd) (.slice ye La.ds.length yf)).below hbB
  have hBv := V4.new (w3.alloc (.cells #[(.bool La.leaf), (.slice ya La.ks.length yb), (.slice yc La.vs.length yd), (.slice ye La.ds.length yf)] 27)) 27 (.bool Lb.leaf) (.slice za Lb.ks.length zb) (.slice zc Lb.vs.length zd) (.slice ze Lb.ds.length zf)
  have hsz0 : (w3.alloc (.cells #[(.bool La.leaf), (.slice ya La.ks.length yb), (.slice yc La.vs.length yd), (.slice ye La.ds.length yf)] 27)).heap.size = w3.heap.size + 1 := by simp
  rw [hsz0] at hBv
  have hbAB := hbA.trans (hbB.mono hbA.size)
  replace hX := hX.below hbAB
  replace hDX := hDX.below hbAB
  have hDa2 := hDa.view.below hbAB
  have hDb2 := hDb.view.below hbAB
  replace hB := hB.trans (hbAB.mono hB.size)
  obtain ⟨A, hAe⟩ : ∃ x, Hid (w3.heap.size = x) := ⟨_, rfl⟩
  obtain ⟨B, hBe⟩ : ∃ x, Hid (w3.heap.size + 1 = x) := ⟨_, rfl⟩
  rw [hAe.out] at hA
  rw [hBe.out] at hBv
  obtain ⟨W3, hW3⟩ : ∃ x, Hid ((w3.alloc (.cells #[(.bool La.leaf), (.slice ya La.ks.length yb), (.slice yc La.vs.length yd), (.slice ye La.ds.length yf)] 27)).alloc (.cells #[(.bool Lb.leaf), (.slice za Lb.ks.length zb), (.slice zc Lb.vs.length zd), (.slice ze Lb.ds.length zf)] 27) = x) := ⟨_, rfl⟩
  rw [hW3.out] at hX hDX hDa2 hDb2 hB hA hBv
  have hfa := hSa.fine
  clear hbA hbB hbAB hsz0 hDa hDb hb3 hv
  have hCS : ∀ W, Below W3.heap.size W3 W → Calls Try.prog 20 #[.agg #[(.bool L.leaf), (.slice xa L.ks.length xb), (.slice xc L.vs.length xd), (.slice xe L.ds.length xf)], .string s] W fun e w' => e = .returned (.int .i64 (cntLe L.pn.key s L.pn.nk)) ∧ Below W.heap.size W w' := fun W hb => specChild_any _ L.pn s W (hDX.below hb) hf
  have hSI : ∀ W, Below W3.heap.size W3 W → Calls Try.prog 16 #[.agg #[(.bool La.leaf), (.slice ya La.ks.length yb), (.slice yc La.vs.length yd), (.slice ye La.ds.length yf)], .agg #[(.bool Lb.leaf), (.slice za Lb.ks.length zb), (.slice zc Lb.vs.length zd), (.slice ze Lb.ds.length zf)]] W fun e w' => e = .returned (.bool (sameNd La.pn Lb.pn)) ∧ Below W.heap.size W w' := fun W hb => implSameNd_any _ _ La.pn Lb.pn W (hDa2.below hb) (hDb2.below hb) hfa
  have hSS : ∀ W, Below W3.heap.size W3 W → Calls Try.prog 21 #[.agg #[(.bool La.leaf), (.slice ya La.ks.length yb), (.slice yc La.vs.length yd), (.slice ye La.ds.length yf)], .agg #[(.bool Lb.leaf), (.slice za Lb.ks.length zb), (.slice zc Lb.vs.length zd), (.slice ze Lb.ds.length zf)]] W fun e w' => e = .returned (.bool (sameNd La.pn Lb.pn)) ∧ Below W.heap.size W w' := fun W hb => specSameNd_any _ _ La.pn Lb.pn W (hDa2.below hb) (hDb2.below hb) hfa
  have hOK := fun W (hb : Below W3.heap.size W3 W) => specNodeOk_rises _ L.pn W (hDX.below hb) hf
  have hle := cntLe_le L.pn.key s L.pn.nk
  have hnk : L.pn.nk ≤ 100 := hSm.nk
  have HV : Hid (NdView W3 (.agg #[(.bool L.leaf), (.slice xa L.ks.length xb), (.slice xc L.vs.length xd), (.slice xe L.ds.length xf)]) L.pn) := hDX
  obtain ⟨k, hk⟩ : ∃ x, Hid (cntLe L.pn.key s L.pn.nk = x) := ⟨_, rfl⟩
  obtain ⟨q, hq⟩ : ∃ x, Hid (sameNd La.pn Lb.pn = x) := ⟨_, rfl⟩
  simp only [hk.out] at hCS hle
  simp only [hq.out] at hSI hSS
  rw [hk.out]
  have hqq : (q != q) = false := bne_self_eq_false _
  have hkk : ((k : Int) != (k : Int)) = false := bne_self_eq_false _
  have HWK : Hid (∀ W, Below W3.heap.size W3 W → (W.cell? ⟨X, 0, none⟩ = some (.bool L.leaf) ∧ W.cell? ⟨X, 1, none⟩ = some (.slice xa L.ks.length xb) ∧ W.cell? ⟨X, 2, none⟩ = some (.slice xc L.vs.length xd) ∧ W.cell? ⟨X, 3, none⟩ = some (.slice xe L.ds.length xf)) ∧ (W.cell? ⟨A, 0, none⟩ = some (.bool La.leaf) ∧ W.cell? ⟨A, 1, none⟩ = some (.slice ya La.ks.length yb) ∧ W.cell? ⟨A, 2, none⟩ = some (.slice yc La.vs.length yd) ∧ W.cell? ⟨A, 3, none⟩ = some (.slice ye La.ds.length yf)) ∧ (W.cell? ⟨B, 0, none⟩ = some (.bool Lb.leaf) ∧ W.cell? ⟨B, 1, none⟩ = some (.slice za Lb.ks.length zb) ∧ W.cell? ⟨B, 2, none⟩ = some (.slice zc Lb.vs.length zd) ∧ W.cell? ⟨B, 3, none⟩ = some (.slice ze Lb.ds.length zf))) := by
    intro W hb
    exact ⟨(hX.below hb).cells, (hA.below hb).cells, (hBv.below hb).cells⟩
  obtain ⟨⟨x0, x1, x2, x3⟩, ⟨y0, y1, y2, y3⟩, z0, z1, z2, z3⟩ := HWK.out W3 (Below.refl _ _)
  have HB : Hid (Below w.heap.size w W3) := hB
  clear hDX hDa2 hDb2 hB hA hBv hfa hSa hSb
  go_wp2_with (rw [hW3.out])
  rw [hBe.out, hAe.out]
  clear hW3 hAe hBe
  go_region_held3 (fun WW => (WW.cell? ⟨X, 0, none⟩ = some (.bool L.leaf) ∧ WW.cell? ⟨X, 1, none⟩ = some (.slice xa L.ks.length xb) ∧ WW.cell? ⟨X, 2, none⟩ = some (.slice xc L.vs.length xd) ∧ WW.cell? ⟨X, 3, none⟩ = some (.slice xe L.ds.length xf)) ∧ (WW.cell? ⟨A, 0, none⟩ = some (.bool La.leaf) ∧ WW.cell? ⟨A, 1, none⟩ = some (.slice ya La.ks.length yb) ∧ WW.cell? ⟨A, 2, none⟩ = some (.slice yc La.vs.length yd) ∧ WW.cell? ⟨A, 3, none⟩ = some (.slice ye La.ds.length yf)) ∧ (WW.cell? ⟨B, 0, none⟩ = some (.bool Lb.leaf) ∧ WW.cell? ⟨B, 1, none⟩ = some (.slice za Lb.ks.length zb) ∧ WW.cell? ⟨B, 2, none⟩ = some (.slice zc Lb.vs.length zd) ∧ WW.cell? ⟨B, 3, none⟩ = some (.slice ze Lb.ds.length zf))) (first | assumption | go_keep) (first
    | (go_at_call 20; refine (hCS _ (by repeat (first | exact Below.refl _ _ | refine Below.drew ?_))).mono ?_; rintro e wa ⟨rfl, hBa⟩; have hba : Below W3.heap.size W3 wa := Below.trans (by repeat (first | exact Below.refl _ _ | refine Below.drew ?_)) hBa; have hca : (wa.cell? ⟨X, 0, none⟩ = some (.bool L.leaf) ∧ wa.cell? ⟨X, 1, none⟩ = some (.slice xa L.ks.length xb) ∧ wa.cell? ⟨X, 2, none⟩ = some (.slice xc L.vs.length xd) ∧ wa.cell? ⟨X, 3, none⟩ = some (.slice xe L.ds.length xf)) ∧ (wa.cell? ⟨A, 0, none⟩ = some (.bool La.leaf) ∧ wa.cell? ⟨A, 1, none⟩ = some (.slice ya La.ks.length yb) ∧ wa.cell? ⟨A, 2, none⟩ = some (.slice yc La.vs.length yd) ∧ wa.cell? ⟨A, 3, none⟩ = some (.slice ye La.ds.length yf)) ∧ (wa.cell? ⟨B, 0, none⟩ = some (.bool Lb.leaf) ∧ wa.cell? ⟨B, 1, none⟩ = some (.slice za Lb.ks.length zb) ∧ wa.cell? ⟨B, 2, none⟩ = some (.slice zc Lb.vs.length zd) ∧ wa.cell? ⟨B, 3, none⟩ = some (.slice ze Lb.ds.length zf)) := HWK.out _ hba)
    | (go_at_call 16; refine (hSI _ (by repeat (first | exact hba | refine Below.drew ?_))).mono ?_; rintro e wb ⟨rfl, hBb⟩; have hbb : Below W3.heap.size W3 wb := hba.trans ((Below.trans (by repeat (first | exact Below.refl _ _ | refine Below.drew ?_)) hBb).mono hba.size); have hcb : (wb.cell? ⟨X, 0, none⟩ = some (.bool L.leaf) ∧ wb.cell? ⟨X, 1, none⟩ = some (.slice xa L.ks.length xb) ∧ wb.cell? ⟨X, 2, none⟩ = some (.slice xc L.vs.length xd) ∧ wb.cell? ⟨X, 3, none⟩ = some (.slice xe L.ds.length xf)) ∧ (wb.cell? ⟨A, 0, none⟩ = some (.bool La.leaf) ∧ wb.cell? ⟨A, 1, none⟩ = some (.slice ya La.ks.length yb) ∧ wb.cell? ⟨A, 2, none⟩ = some (.slice yc La.vs.length yd) ∧ wb.cell? ⟨A, 3, none⟩ = some (.slice ye La.ds.length yf)) ∧ (wb.cell? ⟨B, 0, none⟩ = some (.bool Lb.leaf) ∧ wb.cell? ⟨B, 1, none⟩ = some (.slice za Lb.ks.length zb) ∧ wb.cell? ⟨B, 2, none⟩ = some (.slice zc Lb.vs.length zd) ∧ wb.cell? ⟨B, 3, none⟩ = some (.slice ze Lb.ds.length zf)) := HWK.out _ hbb)
    | (go_at_call 21; refine (hSS _ (by repeat (first | exact hbb | refine Below.drew ?_))).mono ?_; rintro e wc ⟨rfl, hBc⟩; have hbc : Below W3.heap.size W3 wc := hbb.trans ((Below.trans (by repeat (first | exact Below.refl _ _ | refine Below.drew ?_)) hBc).mono hbb.size); have hcc : (wc.cell? ⟨X, 0, none⟩ = some (.bool L.leaf) ∧ wc.cell? ⟨X, 1, none⟩ = some (.slice xa L.ks.length xb) ∧ wc.cell? ⟨X, 2, none⟩ = some (.slice xc L.vs.length xd) ∧ wc.cell? ⟨X, 3, none⟩ = some (.slice xe L.ds.length xf)) ∧ (wc.cell? ⟨A, 0, none⟩ = some (.bool La.leaf) ∧ wc.cell? ⟨A, 1, none⟩ = some (.slice ya La.ks.length yb) ∧ wc.cell? ⟨A, 2, none⟩ = some (.slice yc La.vs.length yd) ∧ wc.cell? ⟨A, 3, none⟩ = some (.slice ye La.ds.length yf)) ∧ (wc.cell? ⟨B, 0, none⟩ = some (.bool Lb.leaf) ∧ wc.cell? ⟨B, 1, none⟩ = some (.slice za Lb.ks.length zb) ∧ wc.cell? ⟨B, 2, none⟩ = some (.slice zc Lb.vs.length zd) ∧ wc.cell? ⟨B, 3, none⟩ = some (.slice ze Lb.ds.length zf)) := HWK.out _ hbc))
  all_goals
    clear x0 x1 x2 x3 y0 y1 y2 y3 z0 z1 z2 z3
    obtain ⟨WC, hWC⟩ : ∃ x, Hid (wc = x) := ⟨_, rfl⟩
    rw [hWC.out] at hbc hcc ⊢
    obtain ⟨⟨x0, x1, x2, x3⟩, -, -⟩ := hcc
    clear hca hcb hba hbb hBa hBb hBc hCS hSI hSS hWC
    go_wp2_with fail
    refine (hOK WC hbc).mono ?_
    rintro e wn ⟨r, rfl, hr, hbn⟩
    have HR : Hid (r = true → Rises L.pn.key L.pn.nk) := hr
    have hbx : Below W3.heap.size W3 wn := hbc.trans (hbn.mono hbc.size)
    have HBN : Hid (Below w.heap.size w wn) := HB.out.trans (hbx.mono HB.out.size)
    obtain ⟨⟨v0, v1, v2, v3⟩, -, -⟩ := HWK.out wn hbx
    have hDN := HV.out.below hbx
    clear x0 x1 x2 x3 hOK hbc hbn hr
    have hk0 : (0 : Int) ≤ (k : Int) := by omega
    have hk1 : (k : Int) ≤ (L.ks.length : Int) := by have : L.pn.nk = L.ks.length := rfl; omega
    cases r with
    | false =>
      clear hDN hbx HWK HV HR
      go_wp2
      go_ret
      exact ⟨rfl, HBN.out⟩
    | true =>
      have HRS : Hid (Rises L.pn.key L.pn.nk) := HR.out rfl
      have HF := cnt_first HRS.out s L.pn.nk (Nat.le_refl _)
      obtain ⟨_, _, _, _, _, _, eg, hTx, -, -⟩ := hDN.is
      injection eg with eg
      simp only [Array.mk.injEq, List.cons.injEq, Value.slice.injEq, and_true] at eg
      obtain ⟨-, ⟨rfl, -, rfl⟩, -⟩ := eg
      clear hbx HWK HV HR
      have hTx2 : TxV wn xa L.ks.length xb L.pn.key := hTx
      have HFX : Hid (∀ i, i < L.ks.length → (leT (L.pn.key i) s = true ↔ i < k)) := fun i hi => by rw [← hk.out]; exact HF i hi
      clear HF hTx HRS hk
      by_cases hkn : k = L.ks.length
      · have HKN : Hid (k = L.ks.length) := hkn
        have qn : ((k : Int) == (L.ks.length : Int)) = true := by rw [← hkn]; exact beq_self_eq_true _
        clear hkn
        by_cases hkz : k = 0
        · have q0 : ((k : Int) == 0) = true := by rw [hkz]; rfl
          clear hTx2 hkz
          go_wp2
          go_ret
          exact ⟨rfl, HBN.out⟩
        · have q0 : ((k : Int) == 0) = false := by simpa using hkz
          have hkl : k - 1 < L.ks.length := by have := HKN.out; omega
          obtain ⟨b1, o1, ea, hb1, c1⟩ := txv_at hTx2 hkl
          subst ea
          have hLe := fun W => leq_str (L.pn.key (k - 1)) s W
          have hl1 : leT (L.pn.key (k - 1)) s = true := (HFX.out (k - 1) hkl).2 (by omega)
          simp only [hl1] at hLe
          obtain ⟨p1, hp1⟩ : ∃ x, Hid (L.pn.key (k - 1) = x) := ⟨_, rfl⟩
          obtain ⟨k1, hk1x⟩ : ∃ x, Hid (k - 1 = x) := ⟨_, rfl⟩
          simp only [hp1.out] at hLe
          rw [hp1.out, hk1x.out] at c1
          have hw1 : IntKind.i64.wrap ((k : Int) - 1) = (k1 : Int) := by have := hk1x.out; rw [IntKind.wrap_i64]; omega
          have hkn1 : (k1 : Int) < (L.ks.length : Int) := by have := hk1x.out; omega
          clear hTx2 hl1 hkl hkz
          go_wp2
          go_ret
          exact ⟨rfl, HBN.out⟩
      · have hkl2 : k < L.ks.length := by omega
        have qn : ((k : Int) == (L.ks.length : Int)) = false := by simp; omega
        obtain ⟨b1, o1, ea, hb1, c2⟩ := txv_at hTx2 hkl2
        subst ea
        have hl2 : ltT s (L.pn.key k) = true := not_le (by
          cases hx : leT (L.pn.key k) s with
          | false => rfl
          | true => have := (HFX.out k hkl2).1 hx; omega)
        obtain ⟨p2, hp2⟩ : ∃ x, Hid (L.pn.key k = x) := ⟨_, rfl⟩
        rw [hp2.out] at c2 hl2
        have hbl : Op.bytesLess s.toList p2.toList = true := hl2
        have hkz2 : (k : Int) < (L.ks.length : Int) := by omega
        clear hl2
        by_cases hkz : k = 0
        · have q0 : ((k : Int) == 0) = true := by rw [hkz]; rfl
          clear hTx2 hkz hkn
          go_wp2
          go_ret
          exact ⟨rfl, HBN.out⟩
        · have q0 : ((k : Int) == 0) = false := by simpa using hkz
          have hkl : k - 1 < L.ks.length := by omega
          have c1 : wn.cell? ⟨b1, o1 + (k - 1), none⟩ = some (.string (L.pn.key (k - 1))) := by
            obtain ⟨b3, o3, ea, -, c3⟩ := txv_at hTx2 hkl
            cases ea
            exact c3
          have hLe := fun W => leq_str (L.pn.key (k - 1)) s W
          have hl1 : leT (L.pn.key (k - 1)) s = true := (HFX.out (k - 1) hkl).2 (by omega)
          simp only [hl1] at hLe
          obtain ⟨p1, hp1⟩ : ∃ x, Hid (L.pn.key (k - 1) = x) := ⟨_, rfl⟩
          obtain ⟨k1, hk1x⟩ : ∃ x, Hid (k - 1 = x) := ⟨_, rfl⟩
          simp only [hp1.out] at hLe
          rw [hp1.out, hk1x.out] at c1
          have hw1 : IntKind.i64.wrap ((k : Int) - 1) = (k1 : Int) := by have := hk1x.out; rw [IntKind.wrap_i64]; omega
          have hkn1 : (k1 : Int) < (L.ks.length : Int) := by have := hk1x.out; omega
          clear hTx2 hl1 hkl hkz hkn
          go_wp2
          go_ret
          exact ⟨rfl, HBN.out⟩
end Go.Proofs.Ytofghefenfdlpaa

