/-
  Together: PartsImpl9, AllPartsImpl, WrongPlain
-/
import Derived.Test.YtkakkjnbhklfpaaGreatDoorPackR27
import Derived.Test.YtkakkjnbhklfpaaGreatDoorPackR3
import Derived.Test.YtkakkjnbhklfpaaGreatDoorShelf
import Derived.Deep.LoopGhost
import Derived.Test.YtkakkjnbhklfpaaGreatDoorPackR28
/-
  The program's partsOk, allPartsOk, mayLackKey.
-/
namespace Go.Proofs.YtkakkjnbhklfpaaGreatDoor
open Go.RowKit
set_option maxRecDepth 4000

def encN (f : Nat → Int) (i : Nat) : List Value := [.int .i64 (f i)]
theorem infoInt9 : ∃ i, Tryz.prog.info? 3 = some i ∧ i.zero = some (.int .i64 0) ∧ i.size = 1 ∧ i.bytes = 8 := by
  have h : (Tryz.prog.info? 3).map (fun i => (i.zero, i.size, i.bytes)) = some (some (.int .i64 0), 1, 8) := by kernel_rfl
  obtain ⟨i, hi, hz⟩ := Option.map_eq_some_iff.1 h
  simp only [Prod.mk.injEq] at hz
  exact ⟨i, hi, hz.1, hz.2.1, hz.2.2⟩
theorem containsInt9 (g k c : Nat) (f : Nat → Int) (x : Int) (W : World) (base : Nat) (hO : W.ownsRow base 3 1 (.slice (some ⟨g, 0, none⟩) k c) k (rowG (encN f) k)) (hk : k ≤ 1048576) :
    Calls Tryz.prog 157 #[.slice (some ⟨g, 0, none⟩) k c, .int .i64 x] W fun e w' => e = .returned (.bool (decide (∃ i, i < k ∧ f i = x))) ∧ w' = W := by
  obtain ⟨a, c', e, hkc, h1⟩ := own_cells (c := 1) (fun _ => rfl) hO
  cases e
  rcases Nat.eq_zero_or_pos k with rfl | h0
  · refine (Tryz.slices_Contains_int_empty (some ⟨g, 0, none⟩) c x W).mono ?_
    rintro e w' ⟨rfl, rfl⟩
    refine ⟨?_, rfl⟩
    rw [decide_eq_false (by rintro ⟨i, hi, _⟩; omega)]
  · obtain ⟨g', ea, -, -, hg, hc⟩ := h1 h0
    cases ea
    have hC := Tryz.slices_Contains_int g 0 k c ((List.range k).map f) x W (by simp) (by omega) (fun j hj => by
      have hj' : j < k := by simpa using hj
      have := hc j 0 _ hj' rfl
      have e : ((List.range k).map f).getD j 0 = f j := by simp [List.getD, hj']
      rw [e]
      simpa using this)
    refine hC.mono ?_
    rintro e w' ⟨rfl, rfl⟩
    refine ⟨?_, rfl⟩
    congr 2
    rw [List.take_of_length_le (by simp), Bool.eq_iff_iff, List.contains_iff_mem, decide_eq_true_iff]
    simp

set_option maxHeartbeats 4000000 in
theorem partsOk_any (ac : Option Addr) (nc cc : Nat) (a : Option Addr) (n cap : Nat) (f : Nat → PBy) (w : World) (h : BView w a n cap f) (hn : n ≤ 1048576) :
    Calls Tryz.prog 135 #[.slice ac nc cc, .slice a n cap] w fun e w' => e = .returned (.bool (partsF nc n f)) ∧ Below w.heap.size w w' := by
  obtain ⟨i0, hi, hz0, hz1, hz2⟩ := infoInt9
  have HPF : Hid (partsF nc n f = true ↔ ((∀ i, i < n → 0 ≤ (f i).col ∧ (f i).col < nc ∧ (0 < i → (f 0).col ≠ (f i).col)) ∧ 1 ≤ n ∧ n ≤ 2)) := by show _ ↔ _; unfold partsF; exact decide_eq_true_iff
  have HNO : Hid (¬ (partsF nc n f = true) → partsF nc n f = false) := fun h => by cases e : partsF nc n f with | true => exact absurd e h | false => rfl
  obtain ⟨z, hz⟩ : ∃ z, Hid (partsF nc n f = z) := ⟨_, rfl⟩
  rw [hz.out] at HPF HNO ⊢
  clear hz
  by_cases hr : 1 ≤ n ∧ n ≤ 2
  · have e1 : ((n : Int) == 0) = false := by simp; omega
    have e2 : ¬ ((n : Int) > 2) := by omega
    have hbE : Below w.heap.size w (w.alloc (.cells #[] 3)) := (Below.refl _ _).alloc (Nat.le_refl _) _
    have hO0 : (w.alloc (.cells #[] 3)).ownsRow w.heap.size 3 1 (.slice (some ⟨w.heap.size, 0, none⟩) 0 0) 0 (rowG (encN (fun i => (f i).col)) 0) := by
      have := World.ownsRow_lit (base := w.heap.size) (e := 3) (size := 1) w #[] 0 (Nat.le_refl _) (Nat.zero_le _) rfl
      simpa [rowG] using this
    go_enter Tryz.func135, Tryz.ntmps135
    go_wp2
    go_loopg [19, 5] n (fun q i s wr => ∃ k : Nat, k ≤ n ∧ q = n - k ∧ i = .int .i64 k ∧ (∃ g c, s = .slice (some ⟨g, 0, none⟩) k c) ∧ wr.ownsRow w.heap.size 3 1 s k (rowG (encN (fun i => (f i).col)) k) ∧ Below w.heap.size w wr ∧ Hid (∀ i, i < k → 0 ≤ (f i).col ∧ (f i).col < nc ∧ (0 < i → (f 0).col ≠ (f i).col)))
    case atStart => exact ⟨0, Nat.zero_le _, rfl, rfl, ⟨_, _, rfl⟩, hO0, hbE, fun j hj => absurd hj (Nat.not_lt_zero _)⟩
    case round =>
      clear hO0 hbE e1 e2
      obtain ⟨k, hk, rfl, rfl, ⟨sa, sc, rfl⟩, hO, hB, HA⟩ := hrel
      by_cases hlt : k < n
      · have hkz : (k : Int) < (n : Int) := by omega
        obtain ⟨b1, o1, rfl, hb1, hcs⟩ := (h.below hB).cells (by omega)
        obtain ⟨x0, x1⟩ := hcs k hlt
        have hsz := hB.size
        have HN : Hid (rowG (encN (fun i => (f i).col)) (k + 1) = rowG (encN (fun i => (f i).col)) k ++ [.int .i64 (f k).col]) := rfl
        have HB : Hid (Below w.heap.size w wr) := hB
        have HNX : Hid ((0 ≤ (f k).col ∧ (f k).col < nc ∧ (0 < k → (f 0).col ≠ (f k).col)) → ∀ i, i < k + 1 → 0 ≤ (f i).col ∧ (f i).col < nc ∧ (0 < i → (f 0).col ≠ (f i).col)) := by
          intro h i hi
          by_cases e : i < k
          · exact HA.out i e
          · obtain rfl : i = k := by omega
            exact h
        have HBAD : Hid (¬ (0 ≤ (f k).col ∧ (f k).col < nc ∧ (0 < k → (f 0).col ≠ (f k).col)) → z = false) := fun h => HNO.out (fun hz => h ((HPF.out.1 hz).1 k hlt))
        have HCT : Hid ((∃ i, i < k ∧ (f i).col = (f k).col) ↔ (0 < k ∧ (f 0).col = (f k).col)) := by
          constructor
          · rintro ⟨i, hi, e⟩
            obtain rfl : i = 0 := by omega
            exact ⟨hi, e⟩
          · rintro ⟨h0, e⟩; exact ⟨0, h0, e⟩
        obtain ⟨R, hR⟩ : ∃ x, Hid (rowG (encN (fun i => (f i).col)) k = x) := ⟨_, rfl⟩
        have hb2 : ∀ t0 t1, Below wr.heap.size wr (wr.alloc (.cells #[t0, t1] 67)) := fun t0 t1 => (Below.refl _ _).alloc (Nat.le_refl _) _
        have hC := fun t0 t1 x => containsInt9 sa k sc (fun i => (f i).col) x (wr.alloc (.cells #[t0, t1] 67)) w.heap.size (own_belowG hO (hb2 t0 t1)) (by omega)
        obtain ⟨s0, hs0⟩ : ∃ x, Hid ((f k).col = x) := ⟨_, rfl⟩
        obtain ⟨s1, hs1⟩ : ∃ x, Hid ((f k).desc = x) := ⟨_, rfl⟩
        rw [hs0.out] at x0 HN HNX HBAD HCT
        rw [hs1.out] at x1
        rw [hR.out] at HN hO
        have hC1 := hC (.int .i64 s0) (.bool s1) s0
        obtain ⟨o, ho⟩ : ∃ o, Hid (decide (∃ i, i < k ∧ (f i).col = s0) = o) := ⟨_, rfl⟩
        rw [ho.out] at hC1
        have HO : Hid (o = true ↔ (0 < k ∧ (f 0).col = s0)) := by show _ ↔ _; rw [← ho.out, decide_eq_true_iff]; exact HCT.out
        have HBA : Hid (Below w.heap.size w (wr.alloc (.cells #[.int .i64 s0, .bool s1] 67))) := HB.out.trans ((hb2 _ _).mono hsz)
        clear hcs h hB hC ho HCT HPF
        by_cases q1 : s0 < 0
        · have HF : Hid (z = false) := HBAD.out (fun h => by omega)
          clear HBAD HNX hC1 HNO HN hO HO hb2 HA
          go_wp2
          go_ret
          exact ⟨by rw [HF.out]; rfl, HBA.out⟩
        by_cases q2 : s0 ≥ (nc : Int)
        · have HF : Hid (z = false) := HBAD.out (fun h => by omega)
          clear HBAD HNX hC1 HNO HN hO HO hb2 HA
          go_wp2
          go_ret
          exact ⟨by rw [HF.out]; rfl, HBA.out⟩
        cases o with
        | true =>
          have HF : Hid (z = false) := HBAD.out (fun h => h.2.2 (HO.out.1 rfl).1 (HO.out.1 rfl).2)
          clear HBAD HNX HNO HN hO HO hb2 HA
          go_wp2_with fail
          refine hC1.mono ?_
          rintro e w2 ⟨rfl, rfl⟩
          clear hC1
          go_wp2
          go_ret
          exact ⟨by rw [HF.out]; rfl, HBA.out⟩
        | false =>
          have HN2 : Hid (∀ i, i < k + 1 → 0 ≤ (f i).col ∧ (f i).col < nc ∧ (0 < i → (f 0).col ≠ (f i).col)) := HNX.out ⟨by omega, by omega, fun h0 e => by have := HO.out.2 ⟨h0, e⟩; cases this⟩
          have hb3 : Below wr.heap.size wr ((wr.alloc (.cells #[.int .i64 s0, .bool s1] 67)).alloc (.cells #[.int .i64 s0] 3)) := (hb2 _ _).alloc (by simp) _
          have hO2 := own_belowG hO hb3
          have hcl : ∀ j u, [Value.int .i64 s0][j]? = some u → ((wr.alloc (.cells #[.int .i64 s0, .bool s1] 67)).alloc (.cells #[.int .i64 s0] 3)).cell? ((⟨wr.heap.size + 1, 0, none⟩ : Addr).add j) = some u := by
            intro j u hj
            match j, hj with
            | 0, hj => simp at hj; subst hj; simp [Addr.add]
          have HBB : Hid (Below wr.heap.size wr ((wr.alloc (.cells #[.int .i64 s0, .bool s1] 67)).alloc (.cells #[.int .i64 s0] 3))) := hb3
          have HOW := own_ge9 hO
          clear HBAD HNX HNO HO hb2 HA HBA hb3
          go_wp2_with fail
          refine hC1.mono ?_
          rintro e w2 ⟨rfl, rfl⟩
          clear hC1
          go_wp2_with (at_builtin; refine wpList_append_own _ rfl (.tmp 39) (.tmp 42) 87 rfl w.heap.size 3 i0 (.int .i64 0) 1 8 Tryz.underlying87 hi hz0 hz1 hz2 rfl (by decide) _ _ _ rfl hO2 ⟨wr.heap.size + 1, 0, none⟩ 1 1 [.int .i64 s0] rfl rfl hcl (by intro u hu; simp at hu; subst hu; rfl) (by unfold maxLen; omega) (by omega) (by simp; omega) ?_)
          intro v5 w2 hown5 hgr hnil
          obtain ⟨g', cap', rfl⟩ := own_succ9 hown5
          have HR : Hid (w2.ownsRow w.heap.size 3 1 (.slice (some ⟨g', 0, none⟩) (k + 1) cap') (k + 1) (rowG (encN (fun i => (f i).col)) (k + 1)) ∧ Below w.heap.size w w2) := by
            refine ⟨?_, ?_⟩
            · rw [HN.out]; exact hown5
            · exact (HB.out.trans (HBB.out.mono hsz)).grown hgr (by simp; omega) HOW
          clear hown5 hgr hnil hO hO2 hcl HOW
          go_wp2
          go_roundg (n - (k + 1))
          case measure => omega
          case rel => exact ⟨k + 1, by omega, rfl, by go_num, ⟨_, _, rfl⟩, HR.out.1, HR.out.2, HN2⟩
      · have hkz : ¬ (k : Int) < (n : Int) := by omega
        obtain rfl : k = n := by omega
        have HF : Hid (z = true) := HPF.out.2 ⟨HA.out, hr⟩
        clear h HA hO
        go_wp2
        go_ret
        exact ⟨by rw [HF.out]; rfl, hB⟩
  · have HF : Hid (z = false) := HNO.out (fun h => hr (HPF.out.1 h).2)
    clear HPF HNO h
    by_cases h0 : n = 0
    · subst h0
      go_enter Tryz.func135, Tryz.ntmps135
      go_wp2
      go_ret
      exact ⟨by rw [HF.out]; rfl, Below.refl _ _⟩
    · have e1 : ((n : Int) == 0) = false := by simp; omega
      have e2 : (n : Int) > 2 := by omega
      go_enter Tryz.func135, Tryz.ntmps135
      go_wp2
      go_ret
      exact ⟨by rw [HF.out]; rfl, Below.refl _ _⟩
end Go.Proofs.YtkakkjnbhklfpaaGreatDoor

/-
  The program's allPartsOk, mayLackKey.
-/
namespace Go.Proofs.YtkakkjnbhklfpaaGreatDoor
open Go.RowKit
set_option maxRecDepth 4000

set_option maxHeartbeats 2000000 in
theorem allPartsOk_any (v : Value) (D : PDef) (w : World) (h : DView w v D) (hf : DFine D) :
    Calls Tryz.prog 101 #[v] w fun e w' => e = .returned (.bool (allPartsF D)) ∧ Below w.heap.size w w' := by
  have hni := hf.ni
  have hnp := hf.np
  have HIX : Hid (∀ i, i < D.ni → (D.idx i).n ≤ 1048576) := fun i hi => (hf.idx i hi).2
  obtain ⟨ac, cc, ap, cp, ai, ci, rfl, hcv, hpv, hiv⟩ := h.is
  clear h hf hcv
  have HO : Hid (allPartsF D = true ↔ ((∀ i, i < D.ni → partsF D.nc (D.idx i).n (D.idx i).part = true) ∧ partsF D.nc D.np D.pri = true)) := by show _ ↔ _; unfold allPartsF; exact decide_eq_true_iff
  have HNO : Hid (¬ (allPartsF D = true) → allPartsF D = false) := fun h => by cases e : allPartsF D with | true => exact absurd e h | false => rfl
  obtain ⟨z, hz⟩ : ∃ z, Hid (allPartsF D = z) := ⟨_, rfl⟩
  rw [hz.out] at HO HNO ⊢
  clear hz
  have hB0 := box4_start w (.cells #[.string D.name, .slice ac D.nc cc, .slice ap D.np cp, .slice ai D.ni ci] 36)
  go_enter Tryz.func101, Tryz.ntmps101
  go_wp2
  go_loopg [8] D.ni (fun q i wr => ∃ k : Nat, k ≤ D.ni ∧ q = D.ni - k ∧ i = .int .i64 k ∧ Below (w.heap.size + 1) (w.alloc (.cells #[.string D.name, .slice ac D.nc cc, .slice ap D.np cp, .slice ai D.ni ci] 36)) wr ∧ Hid (∀ i, i < k → partsF D.nc (D.idx i).n (D.idx i).part = true))
  case atStart => exact ⟨0, Nat.zero_le _, rfl, rfl, hB0, fun j hj => absurd hj (Nat.not_lt_zero _)⟩
  case round =>
    clear hB0
    obtain ⟨k, hk, rfl, rfl, hB, HA⟩ := hrel
    obtain ⟨x0, x1, x2, x3⟩ := box4 hB
    obtain ⟨hBw, hsz⟩ := box4_below hB
    have hA2 : w.heap.size < wr.heap.size := by omega
    clear hsz
    by_cases hlt : k < D.ni
    · have hkz : (k : Int) < (D.ni : Int) := by omega
      obtain ⟨b1, o1, e1, hb1, hcs⟩ := (hiv.below hBw).cells (by omega)
      obtain ⟨y0, y1, a3, c3, y2, hv3⟩ := hcs k hlt
      have hP := fun W (hb : Below wr.heap.size wr W) => partsOk_any ac D.nc cc a3 (D.idx k).n c3 (D.idx k).part W (hv3.below hb) (HIX.out k hlt)
      have HNX : Hid (partsF D.nc (D.idx k).n (D.idx k).part = true → ∀ i, i < k + 1 → partsF D.nc (D.idx i).n (D.idx i).part = true) := by
        intro h i hi
        by_cases e : i < k
        · exact HA.out i e
        · obtain rfl : i = k := by omega
          exact h
      have HBAD : Hid (partsF D.nc (D.idx k).n (D.idx k).part = false → z = false) := fun h => HNO.out (fun hz => by have := (HO.out.1 hz).1 k hlt; rw [h] at this; cases this)
      obtain ⟨o, ho⟩ : ∃ o, Hid (partsF D.nc (D.idx k).n (D.idx k).part = o) := ⟨_, rfl⟩
      rw [ho.out] at HNX HBAD
      simp only [ho.out] at hP
      obtain ⟨s0, hs0⟩ : ∃ x, Hid ((D.idx k).name = x) := ⟨_, rfl⟩
      obtain ⟨s1, hs1⟩ : ∃ x, Hid ((D.idx k).uniq = x) := ⟨_, rfl⟩
      obtain ⟨s2, hs2⟩ : ∃ x, Hid ((D.idx k).n = x) := ⟨_, rfl⟩
      rw [hs0.out] at y0
      rw [hs1.out] at y1
      rw [hs2.out] at y2
      simp only [hs2.out] at hP
      have HB : Hid (Below (w.heap.size + 1) (w.alloc (.cells #[.string D.name, .slice ac D.nc cc, .slice ap D.np cp, .slice ai D.ni ci] 36)) wr) := hB
      have hbA : Below wr.heap.size wr (wr.alloc (.cells #[.string s0, .bool s1, .slice a3 s2 c3] 48)) := (Below.refl _ _).alloc (Nat.le_refl _) _
      have hS := hP _ hbA
      have HBA : Hid (Below wr.heap.size wr (wr.alloc (.cells #[.string s0, .bool s1, .slice a3 s2 c3] 48))) := hbA
      have HBw : Hid (Below w.heap.size w wr) := hBw
      have HSZ := hBw.size
      subst e1
      clear hcs hiv hpv hB hBw HA HO HNO hP hbA hv3
      go_wp2_with fail
      refine hS.mono ?_
      rintro e w2 ⟨rfl, hb2⟩
      have hb3 : Below wr.heap.size wr w2 := HBA.out.trans (hb2.mono HBA.out.size)
      cases o with
      | true =>
        have HN : Hid (∀ i, i < k + 1 → partsF D.nc (D.idx i).n (D.idx i).part = true) := HNX.out rfl
        have HR : Hid (Below (w.heap.size + 1) (w.alloc (.cells #[.string D.name, .slice ac D.nc cc, .slice ap D.np cp, .slice (some ⟨b1, o1, none⟩) D.ni ci] 36)) w2) := box4_on HB.out hb3
        clear hb2 hb3 hS HNX HBAD
        go_wp2
        go_roundg (D.ni - (k + 1))
        case measure => omega
        case rel => exact ⟨k + 1, by omega, rfl, by go_num, HR.out, HN⟩
      | false =>
        have HF : Hid (z = false) := HBAD.out rfl
        have HR : Hid (Below w.heap.size w w2) := HBw.out.trans (hb3.mono HSZ)
        clear hb2 hb3 hS HNX HBAD
        go_wp2
        go_ret
        exact ⟨by rw [HF.out]; rfl, HR.out⟩
    · have hkz : ¬ (k : Int) < (D.ni : Int) := by omega
      obtain rfl : k = D.ni := by omega
      have hS := partsOk_any ac D.nc cc ap D.np cp D.pri wr (hpv.below hBw) hnp
      have HF : Hid (z = partsF D.nc D.np D.pri) := by
        show _ = _
        cases e : partsF D.nc D.np D.pri with
        | true => exact HO.out.2 ⟨HA.out, e⟩
        | false => exact HNO.out (fun h => by have := (HO.out.1 h).2; rw [e] at this; cases this)
      obtain ⟨o, ho⟩ : ∃ o, Hid (partsF D.nc D.np D.pri = o) := ⟨_, rfl⟩
      rw [ho.out] at HF hS
      have HSZ := hBw.size
      have HBw : Hid (Below w.heap.size w wr) := hBw
      clear hiv hpv HA HO HNO hB hBw
      go_wp2_with fail
      refine hS.mono ?_
      rintro e w2 ⟨rfl, hb2⟩
      have HR : Hid (Below w.heap.size w w2) := HBw.out.trans (hb2.mono HSZ)
      clear hS hb2
      go_wp2
      go_ret
      exact ⟨by rw [HF.out]; rfl, HR.out⟩

set_option maxHeartbeats 2000000 in
theorem mayLackKey_any (v : Value) (D : PDef) (w : World) (h : DView w v D) (hf : DFine D) (hpf : partsF D.nc D.np D.pri = true) :
    Calls Tryz.prog 102 #[v] w fun e w' => e = .returned (.bool (nullF D)) ∧ Below w.heap.size w w' := by
  have hnp := hf.np
  have hnc := hf.nc
  have HPR : Hid (∀ i, i < D.np → 0 ≤ (D.pri i).col ∧ (D.pri i).col < D.nc) := fun i hi => partsF_in hpf hi
  obtain ⟨ac, cc, ap, cp, ai, ci, rfl, hcv, hpv, hiv⟩ := h.is
  clear h hf hiv hpf
  have HO : Hid (nullF D = true ↔ (∃ i, i < D.np ∧ (D.col (D.pri i).col.toNat).null = true)) := by show _ ↔ _; unfold nullF; exact decide_eq_true_iff
  have HNO : Hid (¬ (nullF D = true) → nullF D = false) := fun h => by cases e : nullF D with | true => exact absurd e h | false => rfl
  obtain ⟨z, hz⟩ : ∃ z, Hid (nullF D = z) := ⟨_, rfl⟩
  rw [hz.out] at HO HNO ⊢
  clear hz
  have hB0 := box4_start w (.cells #[.string D.name, .slice ac D.nc cc, .slice ap D.np cp, .slice ai D.ni ci] 36)
  go_enter Tryz.func102, Tryz.ntmps102
  go_wp2
  go_loopg [8] D.np (fun q i wr => ∃ k : Nat, k ≤ D.np ∧ q = D.np - k ∧ i = .int .i64 k ∧ Below (w.heap.size + 1) (w.alloc (.cells #[.string D.name, .slice ac D.nc cc, .slice ap D.np cp, .slice ai D.ni ci] 36)) wr ∧ Hid (∀ i, i < k → (D.col (D.pri i).col.toNat).null = false))
  case atStart => exact ⟨0, Nat.zero_le _, rfl, rfl, hB0, fun j hj => absurd hj (Nat.not_lt_zero _)⟩
  case round =>
    clear hB0
    obtain ⟨k, hk, rfl, rfl, hB, HA⟩ := hrel
    obtain ⟨x0, x1, x2, x3⟩ := box4 hB
    obtain ⟨hBw, hsz⟩ := box4_below hB
    have hA2 : w.heap.size < wr.heap.size := by omega
    clear hsz
    have HBw : Hid (Below w.heap.size w wr) := hBw
    by_cases hlt : k < D.np
    · have hkz : (k : Int) < (D.np : Int) := by omega
      obtain ⟨q0, q1⟩ := HPR.out k hlt
      obtain ⟨m, hm⟩ := Int.eq_ofNat_of_zero_le q0
      obtain ⟨b2, o2, e2, hb2, hcs⟩ := (hpv.below hBw).cells (by omega)
      obtain ⟨y0, y1⟩ := hcs k hlt
      rw [hm] at y0 q1
      obtain ⟨b1, o1, e1, hb1, hcc⟩ := (hcv.below hBw).cells (by omega)
      obtain ⟨-, -, y2⟩ := hcc m (by omega)
      have HNX : Hid ((D.col (D.pri k).col.toNat).null = (D.col m).null) := by show _ = _; rw [hm]; rfl
      have HB : Hid (Below (w.heap.size + 1) (w.alloc (.cells #[.string D.name, .slice ac D.nc cc, .slice ap D.np cp, .slice ai D.ni ci] 36)) wr) := hB
      obtain ⟨s1, hs1⟩ : ∃ x, Hid ((D.pri k).desc = x) := ⟨_, rfl⟩
      rw [hs1.out] at y1
      have HBA : Hid (Below wr.heap.size wr (wr.alloc (.cells #[.int .i64 (m : Int), .bool s1] 67))) := (Below.refl _ _).alloc (Nat.le_refl _) _
      have hmz : (m : Int) < (D.nc : Int) := q1
      have HSZ := hBw.size
      have y2' : (wr.alloc (.cells #[.int .i64 (m : Int), .bool s1] 67)).cell? ⟨b1, o1 + m * 3 + 2, none⟩ = some (.bool (D.col m).null) := by rw [World.cell?_alloc_lt _ _ _ hb1]; exact y2
      obtain ⟨o, ho⟩ : ∃ o, Hid ((D.col m).null = o) := ⟨_, rfl⟩
      rw [ho.out] at y2' HNX
      subst e1 e2
      clear hcs hcc hcv hpv hB hBw HPR hm q0 y2 q1
      cases o with
      | true =>
        have HF : Hid (z = true) := HO.out.2 ⟨k, hlt, HNX.out⟩
        clear HA HNX HO HNO
        go_wp2
        go_ret
        exact ⟨by rw [HF.out]; rfl, HBw.out.trans (HBA.out.mono HSZ)⟩
      | false =>
        have HN : Hid (∀ i, i < k + 1 → (D.col (D.pri i).col.toNat).null = false) := by
          intro i hi
          by_cases hj' : i < k
          · exact HA.out i hj'
          · obtain rfl : i = k := by omega
            exact HNX.out
        clear HA HNX HO HNO
        go_wp2
        go_roundg (D.np - (k + 1))
        case measure => omega
        case rel => exact ⟨k + 1, by omega, rfl, by go_num, box4_on HB.out HBA.out, HN⟩
    · have hkz : ¬ (k : Int) < (D.np : Int) := by omega
      obtain rfl : k = D.np := by omega
      have HF : Hid (z = false) := HNO.out (fun h => by obtain ⟨i, hi, e⟩ := HO.out.1 h; rw [HA.out i hi] at e; cases e)
      clear hcv hpv hB hBw HA HPR HO HNO
      go_wp2
      go_ret
      exact ⟨by rw [HF.out]; rfl, HBw.out⟩
end Go.Proofs.YtkakkjnbhklfpaaGreatDoor

/-
  What the program asks of a table, plainly.
-/
namespace Go.Proofs.YtkakkjnbhklfpaaGreatDoor
open Go.RowKit
set_option maxRecDepth 4000

/-- The names of a table: its own, its columns', its indexes'. -/
def namesOf (D : PDef) : Nat → ByteArray := catF (catF (fun _ => D.name) 1 (fun i => (D.col i).name)) (1 + D.nc) (fun i => (D.idx i).name)
theorem namesOf_0 (D : PDef) : namesOf D 0 = D.name := by
  unfold namesOf catF
  rw [if_pos (by omega), if_pos (by omega)]
theorem namesOf_c (D : PDef) {i : Nat} (h : i < D.nc) : namesOf D (1 + i) = (D.col i).name := by
  unfold namesOf catF
  rw [if_pos (by omega), if_neg (by omega)]
  rw [show 1 + i - 1 = i by omega]
theorem namesOf_i (D : PDef) (i : Nat) : namesOf D (1 + D.nc + i) = (D.idx i).name := by
  unfold namesOf catF
  rw [if_neg (by omega), show 1 + D.nc + i - (1 + D.nc) = i by omega]
theorem namesOf_size {D : PDef} (hf : DFine D) : ∀ i, i < 1 + D.nc + D.ni → (namesOf D i).size ≤ 281474976710656 := by
  intro i hi
  by_cases h0 : i = 0
  · subst h0; rw [namesOf_0]; have := hf.name; omega
  by_cases h1 : i < 1 + D.nc
  · obtain ⟨j, rfl⟩ : ∃ j, i = 1 + j := ⟨i - 1, by omega⟩
    rw [namesOf_c D (by omega)]; have := hf.col j (by omega); omega
  · obtain ⟨j, rfl⟩ : ∃ j, i = 1 + D.nc + j := ⟨i - (1 + D.nc), by omega⟩
    rw [namesOf_i]; have := (hf.idx j (by omega)).1; omega
theorem names_iff (D : PDef) : decide (∃ i, i < 1 + D.nc + D.ni ∧ wordOk (namesOf D i) = false) = !namesF D := by
  cases h : namesF D with
  | true =>
    unfold namesF at h
    obtain ⟨h1, h2, h3⟩ := of_decide_eq_true h
    refine decide_eq_false ?_
    rintro ⟨i, hi, hb⟩
    by_cases h0 : i = 0
    · subst h0; rw [namesOf_0, h3] at hb; cases hb
    by_cases h4 : i < 1 + D.nc
    · obtain ⟨j, rfl⟩ : ∃ j, i = 1 + j := ⟨i - 1, by omega⟩
      rw [namesOf_c D (by omega), h1 j (by omega)] at hb; cases hb
    · obtain ⟨j, rfl⟩ : ∃ j, i = 1 + D.nc + j := ⟨i - (1 + D.nc), by omega⟩
      rw [namesOf_i, h2 j (by omega)] at hb; cases hb
  | false =>
    refine decide_eq_true ?_
    apply Classical.byContradiction
    intro hno
    have hall : ∀ i, i < 1 + D.nc + D.ni → wordOk (namesOf D i) = true := fun i hi => by
      cases e : wordOk (namesOf D i) with
      | true => rfl
      | false => exact absurd ⟨i, hi, e⟩ hno
    have ht : namesF D = true := by
      unfold namesF
      refine decide_eq_true ⟨fun i hi => ?_, fun i hi => ?_, ?_⟩
      · have := hall (1 + i) (by omega); rwa [namesOf_c D hi] at this
      · have := hall (1 + D.nc + i) (by omega); rwa [namesOf_i] at this
      · have := hall 0 (by omega); rwa [namesOf_0] at this
    rw [h] at ht; cases ht
theorem types_iff (D : PDef) : (decide (D.nc = 0) || decide (6 < D.nc) || decide (∃ i, i < D.nc ∧ ((D.col i).type < 1 ∨ 4 < (D.col i).type))) = !typesF D := by
  cases h : typesF D with
  | true =>
    unfold typesF at h
    obtain ⟨h1, h2, h3⟩ := of_decide_eq_true h
    rw [decide_eq_false (by omega), decide_eq_false (by omega), decide_eq_false (by rintro ⟨i, hi, hb⟩; have := h1 i hi; omega)]
    rfl
  | false =>
    by_cases c1 : D.nc = 0
    · rw [decide_eq_true c1]; rfl
    by_cases c2 : 6 < D.nc
    · rw [decide_eq_true c2, Bool.or_true, Bool.true_or]; rfl
    have c3 : ∃ i, i < D.nc ∧ ((D.col i).type < 1 ∨ 4 < (D.col i).type) := by
      apply Classical.byContradiction
      intro hno
      have ht : typesF D = true := by
        unfold typesF
        refine decide_eq_true ⟨fun i hi => ?_, by omega, by omega⟩
        apply Classical.byContradiction
        intro hb
        exact hno ⟨i, hi, by omega⟩
      rw [h] at ht; cases ht
    rw [decide_eq_true c3, Bool.or_true]; rfl
theorem nodup_iff (f : Nat → ByteArray) (n : Nat) : (ssOf f n).Nodup ↔ ∀ i, i < n → ∀ j, j < i → f j ≠ f i := by
  unfold List.Nodup
  rw [List.pairwise_iff_getElem]
  have hl := ssOf_len f n
  have hg : ∀ i (h : i < (ssOf f n).length), (ssOf f n)[i] = (f i).data.toList := fun i h => by simp [ssOf, strU]
  have hinj : ∀ a b : ByteArray, a.data.toList = b.data.toList → a = b := fun a b h => by
    obtain ⟨⟨x⟩⟩ := a
    obtain ⟨⟨y⟩⟩ := b
    simp only at h
    rw [h]
  constructor
  · intro h i hi j hj e
    have := h j i (by omega) (by omega) hj
    rw [hg, hg] at this
    exact this (by rw [e])
  · intro h i j hi hj hij
    rw [hg, hg]
    intro e
    exact h j (by omega) i hij (hinj _ _ e)
theorem once_iff (D : PDef) : (decide (¬ (ssOf (fun i => (D.col i).name) D.nc).Nodup) || decide (¬ (ssOf (fun i => (D.idx i).name) D.ni).Nodup)) = !onceF D := by
  have h1 := nodup_iff (fun i => (D.col i).name) D.nc
  have h2 := nodup_iff (fun i => (D.idx i).name) D.ni
  cases h : onceF D with
  | true =>
    unfold onceF at h
    obtain ⟨a, b⟩ := of_decide_eq_true h
    rw [decide_eq_false (fun hn => hn (h1.2 a)), decide_eq_false (fun hn => hn (h2.2 b))]
    rfl
  | false =>
    by_cases c1 : (ssOf (fun i => (D.col i).name) D.nc).Nodup
    · by_cases c2 : (ssOf (fun i => (D.idx i).name) D.ni).Nodup
      · have ht : onceF D = true := decide_eq_true ⟨h1.1 c1, h2.1 c2⟩
        rw [h] at ht; cases ht
      · rw [decide_eq_true c2, Bool.or_true]; rfl
    · rw [decide_eq_true c1]; rfl
end Go.Proofs.YtkakkjnbhklfpaaGreatDoor

