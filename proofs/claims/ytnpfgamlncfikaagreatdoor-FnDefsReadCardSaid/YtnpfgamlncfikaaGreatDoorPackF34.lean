/-
  Together: Draw10Any, PartsText9
-/
import Derived.Test.YtnpfgamlncfikaaGreatDoorPackF33
import Derived.Test.YtnpfgamlncfikaaGreatDoorDraw9Any
import Derived.Deep.DeepCutAuto
import Derived.Deep.CutBlock
import Derived.Test.YtnpfgamlncfikaaGreatDoorPackF16
/-
  Drawn tables, bent or not.
-/
namespace Go.Proofs.YtnpfgamlncfikaaGreatDoor
open Go.RowKit
set_option maxRecDepth 4000

/-- A row of tables reads. -/
theorem lview_of {W : World} {base N : Nat} {v : Value} {F : Nat → PDef} {V : Nat → Value × Value × Value} (h1 : W.ownsRow base 35 4 v N (rowG (encD F V) N)) (h2 : ∀ i, i < N → DView W (.agg #[.string (F i).name, (V i).1, (V i).2.1, (V i).2.2]) (F i)) : ∃ a k, v = .slice a N k ∧ LView W a N k F := by
  obtain ⟨a, k, e, hk, h3⟩ := own_cells (c := 4) (fun _ => rfl) h1
  refine ⟨a, k, e, hk, fun hn => ?_⟩
  obtain ⟨g, ea, -, -, hg, hc⟩ := h3 hn
  refine ⟨g, 0, ea, hg, fun i hi => ?_⟩
  exact ⟨_, _, _, by simpa using hc i 0 _ hi rfl, by simpa using hc i 1 _ hi rfl, by simpa using hc i 2 _ hi rfl, by simpa using hc i 3 _ hi rfl, h2 i hi⟩
/-- What is drawn. -/
def DrewV (w : World) (g : Nat) (v : Value) (W : World) : Prop :=
  ∃ (a : Option Addr) (m k : Nat) (F : Nat → PDef), v = .slice a m k ∧ LView W a m k F ∧ (m ≤ 10 ∧ ∀ i, i < m → Sm (F i)) ∧ But g w W
theorem DrewL.drewV {w : World} {g : Nat} {ao : Option Addr} {n cap : Nat} {f : Nat → Int} {ds : List PDef} {b k : Nat} {W : World} (hT : Tabs w (.slice (some ⟨b, 0, none⟩) ds.length k) ds W) (hR : Cr w g ao n cap f W) (hl : ds.length ≤ 10) : DrewV w g (.slice (some ⟨b, 0, none⟩) ds.length k) W := by
  obtain ⟨a', k', e, hV⟩ := hT.view
  cases e
  refine ⟨_, _, _, _, rfl, hV, ⟨hl, fun i hi => ?_⟩, hR.but⟩
  obtain ⟨V, -, h2⟩ := hT.is
  obtain ⟨A, C, h3⟩ := h2 i hi
  exact h3.sm
/-- A table more, that reads alone. -/
theorem drew_more {w : World} {g : Nat} {ds : List PDef} {V : Nat → Value × Value × Value} {v' x1 x2 x3 : Value} {D : PDef} {W' : World}
    (h2 : ∀ i, i < ds.length → ∃ A C, Tb w (V i).1 (V i).2.1 (V i).2.2 (atD ds i) A C W') (hD : DView W' (.agg #[.string D.name, x1, x2, x3]) D) (hs : Sm D)
    (hO : W'.ownsRow w.heap.size 35 4 v' (ds.length + 1) (rowG (encD (atD ds) V) ds.length ++ [.string D.name, x1, x2, x3])) (hl : ds.length ≤ 8) (hB : But g w W') : DrewV w g v' W' := by
  have e1 : rowG (encD (upd (atD ds) ds.length D) (upd V ds.length (x1, x2, x3))) (ds.length + 1) = rowG (encD (atD ds) V) ds.length ++ [.string D.name, x1, x2, x3] := by
    rw [rowG, rowG_congr (enc' := encD (atD ds) V) (fun i hi => by simp [encD, upd_old hi])]
    simp [encD, upd_new]
  rw [← e1] at hO
  have key : ∀ i, i < ds.length + 1 → DView W' (.agg #[.string (upd (atD ds) ds.length D i).name, (upd V ds.length (x1, x2, x3) i).1, (upd V ds.length (x1, x2, x3) i).2.1, (upd V ds.length (x1, x2, x3) i).2.2]) (upd (atD ds) ds.length D i) ∧ Sm (upd (atD ds) ds.length D i) := by
    intro i hi
    by_cases e : i < ds.length
    · obtain ⟨A, C, h3⟩ := h2 i e
      rw [upd_old e, upd_old e]
      exact ⟨h3.view, h3.sm⟩
    · obtain rfl : i = ds.length := by omega
      rw [upd_new, upd_new]
      exact ⟨hD, hs⟩
  obtain ⟨a, k, rfl, hV⟩ := lview_of hO (fun i hi => (key i hi).1)
  exact ⟨a, _, k, _, rfl, hV, ⟨by omega, fun i hi => (key i hi).2⟩, hB⟩
theorem own_ty {base : Nat} {W W' : World} {T U : TypeId} {c N : Nat} {v : Value} {xs : List Value} (h : W.ownsRow base U c v N xs) (e : ∀ (k : Nat) (c : Array Value) (U : TypeId) (fr : Nat × Nat), W.heap[k]? = some (.cells c U fr) → U ≠ T → W'.heap[k]? = W.heap[k]?) (hT : U ≠ T) : W'.ownsRow base U c v N xs := by
  refine ⟨h.1, ?_⟩
  rcases h.2 with ⟨e1, h0⟩ | ⟨g, k, cur, e1, hb0, hg, hr⟩
  · exact .inl ⟨e1, h0⟩
  · exact .inr ⟨g, k, cur, e1, hb0, (e g _ _ _ hg hT).trans hg, hr⟩
theorem Tw.ty {w : World} {vc vp vi : Value} {D : PDef} {A C : Nat → Nat} {T : TypeId} {W W' : World} (h : Tw w vc vp vi D A C W) (e : ∀ (k : Nat) (c : Array Value) (U : TypeId) (fr : Nat × Nat), W.heap[k]? = some (.cells c U fr) → U ≠ T → W'.heap[k]? = W.heap[k]?) (h1 : 67 ≠ T) (h2 : 70 ≠ T) (h3 : 73 ≠ T) : Tw w vc vp vi D A C W' :=
  ⟨own_ty h.cols e h1, own_ty h.pri e h2, own_ty h.idx e h3, fun i hi => ⟨own_ty (h.pt i hi).own e h2⟩, h.sm⟩
/-- Two tables more. -/
theorem drew_two {w : World} {g : Nat} {ds : List PDef} {V : Nat → Value × Value × Value} {v' x1 x2 x3 y1 y2 y3 : Value} {D E : PDef} {W' : World}
    (h2 : ∀ i, i < ds.length → ∃ A C, Tb w (V i).1 (V i).2.1 (V i).2.2 (atD ds i) A C W') (hD : DView W' (.agg #[.string D.name, x1, x2, x3]) D) (hs : Sm D) (hE : DView W' (.agg #[.string E.name, y1, y2, y3]) E) (hs' : Sm E)
    (hO : W'.ownsRow w.heap.size 35 4 v' (ds.length + 2) (rowG (encD (atD ds) V) ds.length ++ [.string D.name, x1, x2, x3, .string E.name, y1, y2, y3])) (hl : ds.length ≤ 8) (hB : But g w W') : DrewV w g v' W' := by
  have e1 : rowG (encD (upd (upd (atD ds) ds.length D) (ds.length + 1) E) (upd (upd V ds.length (x1, x2, x3)) (ds.length + 1) (y1, y2, y3))) (ds.length + 2) = rowG (encD (atD ds) V) ds.length ++ [.string D.name, x1, x2, x3, .string E.name, y1, y2, y3] := by
    rw [rowG, rowG, rowG_congr (enc' := encD (atD ds) V) (fun i hi => by simp [encD, upd_old hi, upd_old (show i < ds.length + 1 by omega)])]
    simp [encD, upd_new, upd_old (show ds.length < ds.length + 1 by omega)]
  rw [← e1] at hO
  have key : ∀ i, i < ds.length + 2 → DView W' (.agg #[.string (upd (upd (atD ds) ds.length D) (ds.length + 1) E i).name, (upd (upd V ds.length (x1, x2, x3)) (ds.length + 1) (y1, y2, y3) i).1, (upd (upd V ds.length (x1, x2, x3)) (ds.length + 1) (y1, y2, y3) i).2.1, (upd (upd V ds.length (x1, x2, x3)) (ds.length + 1) (y1, y2, y3) i).2.2]) (upd (upd (atD ds) ds.length D) (ds.length + 1) E i) ∧ Sm (upd (upd (atD ds) ds.length D) (ds.length + 1) E i) := by
    intro i hi
    by_cases e2 : i < ds.length + 1
    · rw [upd_old e2, upd_old e2]
      by_cases e : i < ds.length
      · obtain ⟨A, C, h3⟩ := h2 i e
        rw [upd_old e, upd_old e]
        exact ⟨h3.view, h3.sm⟩
      · obtain rfl : i = ds.length := by omega
        rw [upd_new, upd_new]
        exact ⟨hD, hs⟩
    · obtain rfl : i = ds.length + 1 := by omega
      rw [upd_new, upd_new]
      exact ⟨hE, hs'⟩
  obtain ⟨a, k, rfl, hV⟩ := lview_of hO (fun i hi => (key i hi).1)
  exact ⟨a, _, k, _, rfl, hV, ⟨by omega, fun i hi => (key i hi).2⟩, hB⟩
theorem cells_def8 (W : World) (s s' : ByteArray) (a1 a2 a3 b1 b2 b3 : Option Addr) (n1 n2 n3 c1 c2 c3 m1 m2 m3 d1 d2 d3 : Nat) : ∀ j u, [Value.string s, .slice a1 n1 c1, .slice a2 n2 c2, .slice a3 n3 c3, .string s', .slice b1 m1 d1, .slice b2 m2 d2, .slice b3 m3 d3][j]? = some u → (W.alloc (.cells #[.string s, .slice a1 n1 c1, .slice a2 n2 c2, .slice a3 n3 c3, .string s', .slice b1 m1 d1, .slice b2 m2 d2, .slice b3 m3 d3] 35)).cell? ((⟨W.heap.size, 0, none⟩ : Addr).add j) = some u := by
  intro j u h
  have ea : ∀ j, (⟨W.heap.size, 0, none⟩ : Addr).add j = ⟨W.heap.size, 0 + j, none⟩ := fun j => by unfold Addr.add; split <;> simp_all
  match j, h with
  | 0, h => cases h; rw [ea]; simp
  | 1, h => cases h; rw [ea]; simp [go_sem]
  | 2, h => cases h; rw [ea]; simp [go_sem]
  | 3, h => cases h; rw [ea]; simp [go_sem]
  | 4, h => cases h; rw [ea]; simp [go_sem]
  | 5, h => cases h; rw [ea]; simp [go_sem]
  | 6, h => cases h; rw [ea]; simp [go_sem]
  | 7, h => cases h; rw [ea]; simp [go_sem]
  | j + 8, h => simp at h
theorem one_def8 (s s' : ByteArray) (a1 a2 a3 b1 b2 b3 : Option Addr) (n1 n2 n3 c1 c2 c3 m1 m2 m3 d1 d2 d3 : Nat) : ∀ u ∈ [Value.string s, .slice a1 n1 c1, .slice a2 n2 c2, .slice a3 n3 c3, .string s', .slice b1 m1 d1, .slice b2 m2 d2, .slice b3 m3 d3], u.oneCell' = true := by
  intro u hu
  simp at hu
  rcases hu with rfl | rfl | rfl | rfl | rfl | rfl | rfl | rfl <;> rfl

set_option maxHeartbeats 8000000 in
theorem l10Any_any (g : Nat) (ao : Option Addr) (n cap : Nat) (f : Nat → Int) (w : World) (hn : n ≤ 1048576) (hC : Cur w g ao n cap f) :
    Calls Tryz.prog 25 #[.pointer (some ⟨g, 0, none⟩)] w fun e w' => ∃ v, e = .returned v ∧ DrewV w g v w' := by
  obtain ⟨iD, hiD⟩ := infoDef
  have hg := (Cr.start hC).lt
  have hD := l10Draw_any g ao n cap f w hn hC
  clear hC
  go_enter Tryz.func25, Tryz.ntmps25
  go_wp2_with fail
  refine hD.mono ?_
  rintro e w1 ⟨ds, b, k, rfl, T1, R1, hl⟩
  clear hD
  go_wp2_with fail
  refine (l1Below_any g ao n cap f 8 w1 hn (by omega) (by omega) R1.cur).mono ?_
  rintro e w2 ⟨x, rfl, hx0, hx1, hC2, hO2⟩
  have T2 := T1.but (But.ofOnly hO2) hg
  have R2 := R1.next hC2 (But.ofOnly hO2)
  obtain ⟨K, hK⟩ : ∃ y, Hid (ds.length = y) := ⟨_, rfl⟩
  have HT : Hid (Tabs w (.slice (some ⟨b, 0, none⟩) ds.length k) ds w2 ∧ Cr w g ao n cap f w2) := ⟨T2, R2⟩
  rw [hK.out]
  have hl' := hl
  rw [hK.out] at hl'
  clear T1 R1 hC2 hO2 T2 R2
  have hxx : x = 0 ∨ x = 1 ∨ 2 ≤ x := by omega
  rcases hxx with rfl | rfl | hx2
  · have hA := l9Any_any g ao n cap f w2 hn HT.out.2.cur
    go_wp2_with fail
    refine hA.mono ?_
    rintro e w3 ⟨a, cc, m, vp, vi, D, rfl, A, C, hm, ⟨b1, b2, n2, c2, rfl, rfl⟩, ⟨ai, n3, c3, rfl⟩, hW, hR⟩
    obtain ⟨T2, R2⟩ := HT.out
    have T3 := T2.but hR.but hg
    have R3 := R2.next hR.cur hR.but
    have Bx : Below w3.heap.size w3 (w3.alloc (.cells #[.string D.name, .slice (some ⟨b1, 0, none⟩) m cc, .slice (some ⟨b2, 0, none⟩) n2 c2, .slice ai n3 c3] 35)) := (Below.refl _ _).alloc (Nat.le_refl _) _
    have T4 := T3.below Bx
    have R4 := R3.eff (Eff.ofBelow (T := 35) Bx)
    have hW4 := hW.eff (Eff.ofBelow (T := 35) Bx) (by decide) (by decide) (by decide)
    obtain ⟨V, hO6, hV6⟩ := T4.is
    have HOW := own_ge9 hO6
    have hcl := cells_def10 w3 D.name (some ⟨b1, 0, none⟩) (some ⟨b2, 0, none⟩) ai m n2 n3 cc c2 c3
    have HO6 : Hid _ := hO6
    have hsz := R3.size
    have hszw := R2.size
    have HK : Hid ((∀ i, i < ds.length → ∃ A C, Tb w (V i).1 (V i).2.1 (V i).2.2 (atD ds i) A C (w3.alloc (.cells #[.string D.name, .slice (some ⟨b1, 0, none⟩) m cc, .slice (some ⟨b2, 0, none⟩) n2 c2, .slice ai n3 c3] 35))) ∧ Tw w2 (.slice (some ⟨b1, 0, none⟩) D.nc cc) (.slice (some ⟨b2, 0, none⟩) n2 c2) (.slice ai n3 c3) D A C (w3.alloc (.cells #[.string D.name, .slice (some ⟨b1, 0, none⟩) m cc, .slice (some ⟨b2, 0, none⟩) n2 c2, .slice ai n3 c3] 35)) ∧ Cr w g ao n cap f (w3.alloc (.cells #[.string D.name, .slice (some ⟨b1, 0, none⟩) m cc, .slice (some ⟨b2, 0, none⟩) n2 c2, .slice ai n3 c3] 35))) := ⟨hV6, hW4, R4⟩
    rw [hK.out] at hO6
    clear hA HT T2 R2 T3 R3 T4 R4 hV6 hW hW4 hR Bx
    go_wp2_with (at_builtin; refine wpList_append_own _ rfl (.tmp 10) (.tmp 13) 24 rfl w.heap.size 35 iD (.agg #[.string ⟨#[]⟩, .slice none 0 0, .slice none 0 0, .slice none 0 0]) 4 88 Tryz.underlying24 hiD.1 hiD.2.1 hiD.2.2.1 hiD.2.2.2 rfl (by decide) _ _ _ rfl hO6 ⟨w3.heap.size, 0, none⟩ 1 1 [.string D.name, .slice (some ⟨b1, 0, none⟩) m cc, .slice (some ⟨b2, 0, none⟩) n2 c2, .slice ai n3 c3] rfl rfl hcl (one_def10 _ _ _ _ _ _ _ _ _ _) (by unfold maxLen; omega) (by omega) (by simp; omega) ?_)
    intro v5 w9 hown5 hgr hnil
    obtain ⟨T6, hW6, R6⟩ := HK.out
    have e9 : Eff w 35 _ w9 := Eff.grown HO6.out hgr
    have hW9 := hW6.ty e9.ty (by decide) (by decide) (by decide)
    have R9 := R6.eff e9
    have HR : Hid (DrewV w g v5 w9) := drew_more (D := { D with nc := m }) (fun i hi => by obtain ⟨A, C, h3⟩ := T6 i hi; exact ⟨A, C, h3.eff e9 (by decide) (by decide) (by decide)⟩) (hW9.cut hm) (hW9.sm.cut hm) (by rw [hK.out]; exact hown5) (by omega) R9.but
    clear hown5 hgr hnil T6 hW6 R6 e9 hW9 R9 HK HO6 HOW hcl hO6
    go_wp2
    go_ret
    exact ⟨v5, rfl, HR.out⟩
  · have hD1 := l9Draw_any g ao n cap f ⟨#[118]⟩ w2 hn (by decide) HT.out.2.cur
    go_wp2_with fail
    refine hD1.mono ?_
    rintro e w3 ⟨bc, cc, bp, cp, N, M, vi, rfl, D, A, C, hDn, hDc, hDp, -, -, -, ⟨ai, n3, c3, rfl⟩, hW, hR⟩
    obtain ⟨T2, R2⟩ := HT.out
    have T3 := T2.but hR.but hg
    have R3 := R2.next hR.cur hR.but
    have hW3 := hW.down R2.size
    have HT3 : Hid (Tabs w (.slice (some ⟨b, 0, none⟩) ds.length k) ds w3 ∧ Cr w g ao n cap f w3 ∧ Tb w (.slice (some ⟨bc, 0, none⟩) N cc) (.slice (some ⟨bp, 0, none⟩) M cp) (.slice ai n3 c3) D A C w3) := ⟨T3, R3, hW3⟩
    have hD2 := l9Draw_any g ao n cap f ⟨#[119]⟩ w3 hn (by decide) R3.cur
    clear hD1 HT T2 R2 T3 R3 hW hW3 hR
    go_wp2_with fail
    refine hD2.mono ?_
    rintro e w4 ⟨bc', cc', bp', cp', N', M', vi', rfl, E, A', C', hEn, hEc, hEp, -, -, -, ⟨ai', n3', c3', rfl⟩, hX, hR⟩
    obtain ⟨T3, R3, hW3⟩ := HT3.out
    have T4 := T3.but hR.but hg
    have R4 := R3.next hR.cur hR.but
    have hW4 := hW3.but hR.but hg
    have hX4 := hX.down R3.size
    have Bx : Below w4.heap.size w4 (w4.alloc (.cells #[.string ⟨#[118]⟩, .slice (some ⟨bc, 0, none⟩) N cc, .slice (some ⟨bp, 0, none⟩) M cp, .slice ai n3 c3, .string ⟨#[119]⟩, .slice (some ⟨bc', 0, none⟩) N' cc', .slice (some ⟨bp', 0, none⟩) M' cp', .slice ai' n3' c3'] 35)) := (Below.refl _ _).alloc (Nat.le_refl _) _
    have T5 := T4.below Bx
    have R5 := R4.eff (Eff.ofBelow (T := 35) Bx)
    obtain ⟨V, hO6, hV6⟩ := T5.is
    have HOW := own_ge9 hO6
    have hcl := cells_def8 w4 ⟨#[118]⟩ ⟨#[119]⟩ (some ⟨bc, 0, none⟩) (some ⟨bp, 0, none⟩) ai (some ⟨bc', 0, none⟩) (some ⟨bp', 0, none⟩) ai' N M n3 cc cp c3 N' M' n3' cc' cp' c3'
    have HO6 : Hid _ := hO6
    have hsz := R4.size
    have HK : Hid ((∀ i, i < ds.length → ∃ A C, Tb w (V i).1 (V i).2.1 (V i).2.2 (atD ds i) A C (w4.alloc (.cells #[.string ⟨#[118]⟩, .slice (some ⟨bc, 0, none⟩) N cc, .slice (some ⟨bp, 0, none⟩) M cp, .slice ai n3 c3, .string ⟨#[119]⟩, .slice (some ⟨bc', 0, none⟩) N' cc', .slice (some ⟨bp', 0, none⟩) M' cp', .slice ai' n3' c3'] 35))) ∧ Tb w (.slice (some ⟨bc, 0, none⟩) N cc) (.slice (some ⟨bp, 0, none⟩) M cp) (.slice ai n3 c3) D A C (w4.alloc (.cells #[.string ⟨#[118]⟩, .slice (some ⟨bc, 0, none⟩) N cc, .slice (some ⟨bp, 0, none⟩) M cp, .slice ai n3 c3, .string ⟨#[119]⟩, .slice (some ⟨bc', 0, none⟩) N' cc', .slice (some ⟨bp', 0, none⟩) M' cp', .slice ai' n3' c3'] 35)) ∧ Tb w (.slice (some ⟨bc', 0, none⟩) N' cc') (.slice (some ⟨bp', 0, none⟩) M' cp') (.slice ai' n3' c3') E A' C' (w4.alloc (.cells #[.string ⟨#[118]⟩, .slice (some ⟨bc, 0, none⟩) N cc, .slice (some ⟨bp, 0, none⟩) M cp, .slice ai n3 c3, .string ⟨#[119]⟩, .slice (some ⟨bc', 0, none⟩) N' cc', .slice (some ⟨bp', 0, none⟩) M' cp', .slice ai' n3' c3'] 35)) ∧ Cr w g ao n cap f (w4.alloc (.cells #[.string ⟨#[118]⟩, .slice (some ⟨bc, 0, none⟩) N cc, .slice (some ⟨bp, 0, none⟩) M cp, .slice ai n3 c3, .string ⟨#[119]⟩, .slice (some ⟨bc', 0, none⟩) N' cc', .slice (some ⟨bp', 0, none⟩) M' cp', .slice ai' n3' c3'] 35)) ∧ D.name = ⟨#[118]⟩ ∧ E.name = ⟨#[119]⟩) := ⟨hV6, hW4.below Bx, hX4.below Bx, R5, hDn, hEn⟩
    rw [hK.out] at hO6
    clear hD2 HT3 T3 R3 T4 R4 T5 R5 hV6 hW3 hW4 hX hX4 hR Bx hDn hEn hDc hDp hEc hEp
    go_wp2_with (at_builtin; refine wpList_append_own _ rfl (.tmp 17) (.tmp 22) 24 rfl w.heap.size 35 iD (.agg #[.string ⟨#[]⟩, .slice none 0 0, .slice none 0 0, .slice none 0 0]) 4 88 Tryz.underlying24 hiD.1 hiD.2.1 hiD.2.2.1 hiD.2.2.2 rfl (by decide) _ _ _ rfl hO6 ⟨w4.heap.size, 0, none⟩ 2 2 [.string ⟨#[118]⟩, .slice (some ⟨bc, 0, none⟩) N cc, .slice (some ⟨bp, 0, none⟩) M cp, .slice ai n3 c3, .string ⟨#[119]⟩, .slice (some ⟨bc', 0, none⟩) N' cc', .slice (some ⟨bp', 0, none⟩) M' cp', .slice ai' n3' c3'] rfl rfl hcl (one_def8 _ _ _ _ _ _ _ _ _ _ _ _ _ _ _ _ _ _ _ _) (by unfold maxLen; omega) (by omega) (by simp; omega) ?_)
    intro v5 w9 hown5 hgr hnil
    obtain ⟨T6, hW6, hX6, R6, hDn, hEn⟩ := HK.out
    have e9 : Eff w 35 _ w9 := Eff.grown HO6.out hgr
    have hW9 := hW6.eff e9 (by decide) (by decide) (by decide)
    have hX9 := hX6.eff e9 (by decide) (by decide) (by decide)
    have R9 := R6.eff e9
    have HR : Hid (DrewV w g v5 w9) := drew_two (fun i hi => by obtain ⟨A, C, h3⟩ := T6 i hi; exact ⟨A, C, h3.eff e9 (by decide) (by decide) (by decide)⟩) hW9.view hW9.sm hX9.view hX9.sm (by rw [hK.out, hDn, hEn]; exact hown5) (by omega) R9.but
    clear hown5 hgr hnil T6 hW6 hX6 R6 e9 hW9 hX9 R9 HK HO6 HOW hcl hO6
    go_wp2
    go_ret
    exact ⟨v5, rfl, HR.out⟩
  · have h0 : (x == 0) = false := by simp; omega
    have h1 : (x == 1) = false := by simp; omega
    have HR : Hid (DrewV w g (.slice (some ⟨b, 0, none⟩) K k) w2) := by
      have := DrewL.drewV HT.out.1 HT.out.2 (by omega)
      rw [hK.out] at this
      exact this
    clear HT
    go_wp2
    go_ret
    exact ⟨_, rfl, HR.out⟩

set_option maxHeartbeats 1000000 in
theorem drawDefs_any (ao : Option Addr) (n cap : Nat) (f : Nat → Int) (w : World) (hn : n ≤ 1048576) (hv : View w ao n cap f) :
    Calls Tryz.prog 9 #[.slice ao n cap] w fun e w' => ∃ (a : Option Addr) (m k : Nat) (F : Nat → PDef), e = .returned (.slice a m k) ∧ LView w' a m k F ∧ (m ≤ 10 ∧ ∀ i, i < m → Sm (F i)) ∧ Below w.heap.size w w' := by
  obtain ⟨g, hg⟩ : ∃ x, Hid (w.heap.size = x) := ⟨_, rfl⟩
  go_enter Tryz.func9, Tryz.ntmps9
  go_wp2_with fail
  refine (l1New_any ao n cap f w hn hv).mono ?_
  rintro e w1 ⟨rfl, hC1, hb1⟩
  rw [hg.out] at hC1 ⊢
  have hD := l10Any_any g ao n cap f w1 hn hC1
  go_wp2_with fail
  refine hD.mono ?_
  rintro e w2 ⟨v, rfl, a, m, k, F, rfl, hV, hm, hB⟩
  have HR : Hid (LView w2 a m k F ∧ Below w.heap.size w w2) := ⟨hV, hb1.trans (hB.below (Nat.le_of_eq hg.out) hb1.size)⟩
  clear hD hC1 hb1 hV hB hv
  go_wp2
  go_ret
  exact ⟨a, m, k, F, rfl, HR.out.1, hm, HR.out.2⟩
end Go.Proofs.YtnpfgamlncfikaaGreatDoor

/-
  The program's partsText, indexText.
-/
namespace Go.Proofs.YtnpfgamlncfikaaGreatDoor
open Go.RowKit
set_option maxRecDepth 4000

theorem partT_size {col : Nat → PCol} {f : Nat → PBy} {k : Nat} (h : (col (f k).col.toNat).name.size ≤ 1048576) : (partT col f k).size ≤ 1048581 := by
  unfold partT
  split
  · rw [ByteArray.size_append]; have : (⟨#[32, 100, 101, 115, 99]⟩ : ByteArray).size = 5 := rfl; omega
  · omega

set_option maxHeartbeats 4000000 in
theorem partsText_any (ac : Option Addr) (nc cc : Nat) (col : Nat → PCol) (a : Option Addr) (n cap : Nat) (f : Nat → PBy) (w : World) (hcv : CView w ac nc cc col) (h : BView w a n cap f) (h1 : 1 ≤ n) (h2 : n ≤ 2) (hnc : nc ≤ 1048576) (hin : ∀ i, i < n → 0 ≤ (f i).col ∧ (f i).col < nc) (hz : ∀ i, i < nc → (col i).name.size ≤ 1048576) :
    Calls Tryz.prog 63 #[.slice ac nc cc, .slice a n cap] w fun e w' => e = .returned (.string (partsE col n f)) ∧ Below w.heap.size w w' := by
  obtain ⟨i0, hi, hz0, hz1, hz2⟩ := infoStr
  have HE : Hid (partsE col n f = (⟨(Lib.join (((List.range n).map (partT col f)).map (·.data.toList)) (⟨#[44, 32]⟩ : ByteArray).data.toList).toArray⟩ : ByteArray) ++ (⟨#[59, 32]⟩ : ByteArray)) := partsE_join col n f h1 h2
  have hpz := partsE_size (B := 1048576) (col := col) (f := f) (n := n) (fun i hi => hz _ (by have := hin i hi; omega)) h2
  have HIN : Hid (∀ i, i < n → 0 ≤ (f i).col ∧ (f i).col < nc) := hin
  have HZ : Hid (∀ i, i < nc → (col i).name.size ≤ 1048576) := hz
  obtain ⟨z, hzz⟩ : ∃ z, Hid (partsE col n f = z) := ⟨_, rfl⟩
  rw [hzz.out] at HE hpz ⊢
  clear hin hz hzz
  have hbE : Below w.heap.size w (w.alloc (.cells #[] 9)) := (Below.refl _ _).alloc (Nat.le_refl _) _
  have hO0 : (w.alloc (.cells #[] 9)).ownsRow w.heap.size 9 1 (.slice (some ⟨w.heap.size, 0, none⟩) 0 0) 0 (rowG (encS (partT col f)) 0) := by
    have := World.ownsRow_lit (base := w.heap.size) (e := 9) (size := 1) w #[] 0 (Nat.le_refl _) (Nat.zero_le _) rfl
    simpa [rowG] using this
  go_enter Tryz.func63, Tryz.ntmps63
  go_wp2
  go_loopg [12, 5] n (fun q i s wr => ∃ k : Nat, k ≤ n ∧ q = n - k ∧ i = .int .i64 k ∧ (∃ g c, s = .slice (some ⟨g, 0, none⟩) k c) ∧ wr.ownsRow w.heap.size 9 1 s k (rowG (encS (partT col f)) k) ∧ Below w.heap.size w wr)
  case atStart => exact ⟨0, Nat.zero_le _, rfl, rfl, ⟨_, _, rfl⟩, hO0, hbE⟩
  case round =>
    clear hO0 hbE
    obtain ⟨k, hk, rfl, rfl, ⟨sa, sc, rfl⟩, hO, hB⟩ := hrel
    by_cases hlt : k < n
    · have hkz : (k : Int) < (n : Int) := by omega
      obtain ⟨q0, q1⟩ := HIN.out k hlt
      obtain ⟨m, hm⟩ := Int.eq_ofNat_of_zero_le q0
      obtain ⟨b1, o1, rfl, hb1, hcs⟩ := (h.below hB).cells (by omega)
      obtain ⟨x0, x1⟩ := hcs k hlt
      rw [hm] at x0 q1
      obtain ⟨b2, o2, rfl, hb2, hcc⟩ := (hcv.below hB).cells (by omega)
      obtain ⟨y0, -, -⟩ := hcc m (by omega)
      have hsz := hB.size
      have hnz := HZ.out m (by omega)
      have HN : Hid (rowG (encS (partT col f)) (k + 1) = rowG (encS (partT col f)) k ++ [.string (partT col f k)]) := rfl
      have HPT : Hid (partT col f k = if (f k).desc then (col m).name ++ (⟨#[32, 100, 101, 115, 99]⟩ : ByteArray) else (col m).name) := by show _ = _; unfold partT; rw [hm]; rfl
      have HB : Hid (Below w.heap.size w wr) := hB
      obtain ⟨s0, hs0⟩ : ∃ x, Hid ((col m).name = x) := ⟨_, rfl⟩
      obtain ⟨ds, hds⟩ : ∃ x, Hid ((f k).desc = x) := ⟨_, rfl⟩
      obtain ⟨R, hR⟩ : ∃ x, Hid (rowG (encS (partT col f)) k = x) := ⟨_, rfl⟩
      rw [hs0.out] at y0 hnz HPT
      rw [hds.out] at x1 HPT
      rw [hR.out] at HN hO
      have hmz : (m : Int) < (nc : Int) := q1
      have e5 : (⟨#[32, 100, 101, 115, 99]⟩ : ByteArray).size = 5 := rfl
      have s5 : ¬ (s0.size + 5 > 9223372036854775807) := by omega
      clear hcs hcc h hcv hB hm q0 q1
      have y0' : (wr.alloc (.cells #[.int .i64 (m : Int), .bool ds] 70)).cell? ⟨b2, o2 + m * 3, none⟩ = some (.string s0) := by rw [World.cell?_alloc_lt _ _ _ hb2]; exact y0
      cases ds with
      | true =>
        have hpt : Hid (partT col f k = s0 ++ (⟨#[32, 100, 101, 115, 99]⟩ : ByteArray)) := HPT.out
        rw [hpt.out] at HN
        clear HPT hpt
        have hb3 : Below wr.heap.size wr ((wr.alloc (.cells #[.int .i64 (m : Int), .bool true] 70)).alloc (.cells #[.string (s0 ++ (⟨#[32, 100, 101, 115, 99]⟩ : ByteArray))] 9)) := ((Below.refl _ _).alloc (Nat.le_refl _) _).alloc (by simp) _
        have hO2 := own_belowG hO hb3
        have hcl : ∀ j u, [Value.string (s0 ++ (⟨#[32, 100, 101, 115, 99]⟩ : ByteArray))][j]? = some u → ((wr.alloc (.cells #[.int .i64 (m : Int), .bool true] 70)).alloc (.cells #[.string (s0 ++ (⟨#[32, 100, 101, 115, 99]⟩ : ByteArray))] 9)).cell? ((⟨wr.heap.size + 1, 0, none⟩ : Addr).add j) = some u := by
          intro j u hj
          match j, hj with
          | 0, hj => simp at hj; subst hj; simp [Addr.add]
        have HBB : Hid (Below wr.heap.size wr ((wr.alloc (.cells #[.int .i64 (m : Int), .bool true] 70)).alloc (.cells #[.string (s0 ++ (⟨#[32, 100, 101, 115, 99]⟩ : ByteArray))] 9))) := hb3
        have HOW := own_ge9 hO
        clear hb3
        go_wp2_with (at_builtin; refine wpList_append_own _ rfl (.tmp 26) (.tmp 28) 61 rfl w.heap.size 9 i0 (.string ⟨#[]⟩) 1 16 Tryz.underlying61 hi hz0 hz1 hz2 rfl (by decide) _ _ _ rfl hO2 ⟨wr.heap.size + 1, 0, none⟩ 1 1 [.string (s0 ++ (⟨#[32, 100, 101, 115, 99]⟩ : ByteArray))] rfl rfl hcl (by intro u hu; simp at hu; subst hu; rfl) (by unfold maxLen; omega) (by omega) (by simp; omega) ?_)
        intro v5 w2 hown5 hgr hnil
        obtain ⟨g', cap', rfl⟩ := own_succ9 hown5
        have HR : Hid (w2.ownsRow w.heap.size 9 1 (.slice (some ⟨g', 0, none⟩) (k + 1) cap') (k + 1) (rowG (encS (partT col f)) (k + 1)) ∧ Below w.heap.size w w2) := by
          refine ⟨?_, ?_⟩
          · rw [HN.out]; exact hown5
          · exact (HB.out.trans (HBB.out.mono hsz)).grown hgr (by simp; omega) HOW
        clear hown5 hgr hnil hO hO2 hcl HOW y0 y0' x0 x1
        go_wp2
        go_roundg (n - (k + 1))
        case measure => omega
        case rel => exact ⟨k + 1, by omega, rfl, by go_num, ⟨_, _, rfl⟩, HR.out.1, HR.out.2⟩
      | false =>
        have hpt : Hid (partT col f k = s0) := HPT.out
        rw [hpt.out] at HN
        clear HPT hpt
        have hb3 : Below wr.heap.size wr ((wr.alloc (.cells #[.int .i64 (m : Int), .bool false] 70)).alloc (.cells #[.string (s0)] 9)) := ((Below.refl _ _).alloc (Nat.le_refl _) _).alloc (by simp) _
        have hO2 := own_belowG hO hb3
        have hcl : ∀ j u, [Value.string (s0)][j]? = some u → ((wr.alloc (.cells #[.int .i64 (m : Int), .bool false] 70)).alloc (.cells #[.string (s0)] 9)).cell? ((⟨wr.heap.size + 1, 0, none⟩ : Addr).add j) = some u := by
          intro j u hj
          match j, hj with
          | 0, hj => simp at hj; subst hj; simp [Addr.add]
        have HBB : Hid (Below wr.heap.size wr ((wr.alloc (.cells #[.int .i64 (m : Int), .bool false] 70)).alloc (.cells #[.string (s0)] 9))) := hb3
        have HOW := own_ge9 hO
        clear hb3
        go_wp2_with (at_builtin; refine wpList_append_own _ rfl (.tmp 26) (.tmp 28) 61 rfl w.heap.size 9 i0 (.string ⟨#[]⟩) 1 16 Tryz.underlying61 hi hz0 hz1 hz2 rfl (by decide) _ _ _ rfl hO2 ⟨wr.heap.size + 1, 0, none⟩ 1 1 [.string (s0)] rfl rfl hcl (by intro u hu; simp at hu; subst hu; rfl) (by unfold maxLen; omega) (by omega) (by simp; omega) ?_)
        intro v5 w2 hown5 hgr hnil
        obtain ⟨g', cap', rfl⟩ := own_succ9 hown5
        have HR : Hid (w2.ownsRow w.heap.size 9 1 (.slice (some ⟨g', 0, none⟩) (k + 1) cap') (k + 1) (rowG (encS (partT col f)) (k + 1)) ∧ Below w.heap.size w w2) := by
          refine ⟨?_, ?_⟩
          · rw [HN.out]; exact hown5
          · exact (HB.out.trans (HBB.out.mono hsz)).grown hgr (by simp; omega) HOW
        clear hown5 hgr hnil hO hO2 hcl HOW y0 y0' x0 x1
        go_wp2
        go_roundg (n - (k + 1))
        case measure => omega
        case rel => exact ⟨k + 1, by omega, rfl, by go_num, ⟨_, _, rfl⟩, HR.out.1, HR.out.2⟩
    · have hkz : ¬ (k : Int) < (n : Int) := by omega
      obtain rfl : k = n := by omega
      have hV := sview_of_row hO
      obtain ⟨b1, o1, eb, hb1, hcs⟩ := hV.cells (by omega)
      cases eb
      have hJL : (Lib.join (((List.range k).map (partT col f)).map (·.data.toList)) (⟨#[44, 32]⟩ : ByteArray).data.toList).length ≤ 2097168 := by
        have : z.size = (Lib.join (((List.range k).map (partT col f)).map (·.data.toList)) (⟨#[44, 32]⟩ : ByteArray).data.toList).length + 2 := by
          rw [HE.out, ByteArray.size_append]
          show (_ : List UInt8).toArray.size + 2 = _
          rw [List.size_toArray]
        omega
      have hJ := Tryz.strings_Join sa 0 sc ((List.range k).map (partT col f)) ⟨#[44, 32]⟩ wr (fun j x hj => by
        have hj' : j < k := by
          have := (List.getElem?_eq_some_iff.1 hj).1
          simpa using this
        have e : x = partT col f j := by simpa [hj'] using hj.symm
        rw [e]
        exact hcs j hj') hb1 (by simp; omega) (by simpa using hV.le) (by omega)
      rw [List.length_map, List.length_range] at hJ
      have HB : Hid (Below w.heap.size w wr) := hB
      have hjs : (⟨(Lib.join (((List.range k).map (partT col f)).map (·.data.toList)) (⟨#[44, 32]⟩ : ByteArray).data.toList).toArray⟩ : ByteArray).size ≤ 2097168 := by
        show (_ : List UInt8).toArray.size ≤ _
        rw [List.size_toArray]; exact hJL
      have hsz := hB.size
      obtain ⟨J, hJJ⟩ : ∃ J, Hid ((⟨(Lib.join (((List.range k).map (partT col f)).map (·.data.toList)) (⟨#[44, 32]⟩ : ByteArray).data.toList).toArray⟩ : ByteArray) = J) := ⟨_, rfl⟩
      rw [hJJ.out] at hJ HE hjs
      have e2 : (⟨#[59, 32]⟩ : ByteArray).size = 2 := rfl
      have s2 : ¬ (J.size + 2 > 9223372036854775807) := by omega
      clear h hcv hO hV hcs hB hJL hJJ
      go_wp2_with fail
      refine hJ.mono ?_
      rintro e w2 ⟨rfl, hb2⟩
      have HR : Hid (Below w.heap.size w w2) := HB.out.trans (hb2.mono hsz)
      clear hJ hb2
      go_wp2
      go_ret
      exact ⟨by rw [HE.out]; rfl, HR.out⟩
end Go.Proofs.YtnpfgamlncfikaaGreatDoor

