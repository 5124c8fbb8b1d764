/-
  Together: PartsSpec, CheckSpec, DefTextSpec, LawDefText, RowG, StrRow, GrowStr, NamesImpl, ConcatImpl
-/
import Derived.Test.YtfjlmkphnciglatGreatDoorPack2
import Derived.Test.YtfjlmkphnciglatGreatDoorPack1
import Derived.Deep.LoopGhost
import Derived.Deep.RegionHeld3
import Derived.Deep.QuietTactic
import Derived.BigQuiet
import Derived.Test.YtfjlmkphnciglatGreatDoorProg
import Derived.Lib.AppendZeros
/-
  The model's l9Parts and l9AllParts come to the plain ones.
-/
namespace Go.Proofs.YtfjlmkphnciglatGreatDoor
open Go.RowKit
set_option maxRecDepth 4000

theorem wrapI {x : Int} (h0 : -9223372036854775808 ≤ x) (h1 : x ≤ 9223372036854775807) : IntKind.i64.wrap x = x := by
  simp [IntKind.wrap, IntKind.bits, IntKind.signed]; omega

set_option maxHeartbeats 2000000 in
theorem l9Parts_any (v : Value) (D : PDef) (a : Option Addr) (n c : Nat) (f : Nat → PBy) (w : World) (h : DView w v D) (hv : BView w a n c f) (hnc : D.nc ≤ 1048576) (hn : n ≤ 1048576) :
    Calls Tryz.prog 39 #[v, .slice a n c] w fun e w' => e = .returned (.bool (partsF D.nc n f)) ∧ Below w.heap.size w w' := by
  obtain ⟨ac, cc, ap, cp, ai, ci, rfl, hc, -, -⟩ := h.is
  clear h hc
  go_enter Tryz.func39, Tryz.ntmps39
  go_wp2
  go_loopg [5] n (fun q i wr => ∃ k : Nat, k ≤ n ∧ q = n - k ∧ i = .int .i64 k ∧ Below (w.heap.size + 1) (w.alloc (.cells #[.string D.name, .slice ac D.nc cc, .slice ap D.np cp, .slice ai D.ni ci] 33)) wr ∧ Hid (∀ i, i < k → 0 ≤ (f i).col ∧ (f i).col < D.nc ∧ (0 < i → (f 0).col ≠ (f i).col)))
  case atStart => exact ⟨0, Nat.zero_le _, rfl, rfl, Below.refl _ _, fun j hj => absurd hj (Nat.not_lt_zero _)⟩
  case round =>
    obtain ⟨k, hk, rfl, rfl, hB, HA⟩ := hrel
    obtain ⟨x0, x1, x2, x3⟩ := box4 hB
    obtain ⟨hBw, hsz⟩ := box4_below hB
    by_cases hlt : k < n
    · have hkz : (k : Int) < (n : Int) := by omega
      have h0n : (0 : Int) < (n : Int) := by omega
      obtain ⟨b1, o1, rfl, hb1, hcs⟩ := (hv.below hBw).cells (by omega)
      obtain ⟨y0, -⟩ := hcs k hlt
      obtain ⟨y1, -⟩ := hcs 0 (by omega)
      simp only [Nat.zero_mul, Nat.add_zero] at y1
      have HB2 : Hid (Below (w.heap.size + 1) (w.alloc (.cells #[.string D.name, .slice ac D.nc cc, .slice ap D.np cp, .slice ai D.ni ci] 33)) wr) := hB
      have HBw : Hid (Below w.heap.size w wr) := hBw
      obtain ⟨x, hx⟩ : ∃ x, Hid ((f k).col = x) := ⟨_, rfl⟩
      obtain ⟨y, hy⟩ : ∃ y, Hid ((f 0).col = y) := ⟨_, rfl⟩
      rw [hx.out] at y0
      rw [hy.out] at y1
      have HNX : Hid (0 ≤ x ∧ x < D.nc ∧ (0 < k → y ≠ x) → ∀ i, i < k + 1 → 0 ≤ (f i).col ∧ (f i).col < D.nc ∧ (0 < i → (f 0).col ≠ (f i).col)) := by
        intro hb i hi
        by_cases hj' : i < k
        · exact HA.out i hj'
        · obtain rfl : i = k := by omega
          rw [hx.out, hy.out]
          exact hb
      have HNO : Hid (¬ (0 ≤ x ∧ x < D.nc ∧ (0 < k → y ≠ x)) → partsF D.nc n f = false) := by
        intro hb
        unfold partsF
        refine decide_eq_false (fun h => hb ?_)
        have := h.1 k hlt
        rw [hx.out, hy.out] at this
        exact this
      have hI := fun W => l1In_tok x 0 ((D.nc : Int) - 1) W
      have hsub : IntKind.i64.wrap ((D.nc : Int) - 1) = (D.nc : Int) - 1 := wrapI (by omega) (by omega)
      clear hcs hv hB hBw HA
      by_cases hin : 0 ≤ x ∧ x < D.nc
      · have hd : (decide (0 ≤ x) && decide (x ≤ (D.nc : Int) - 1)) = true := by simp; omega
        simp only [hd] at hI
        by_cases h0 : 0 < k
        · have h0z : decide ((0 : Int) < (k : Int)) = true := decide_eq_true (by omega)
          by_cases hxy : y = x
          · have HF : Hid (partsF D.nc n f = false) := HNO.out (fun h => h.2.2 h0 hxy)
            have hq : (y == x) = true := by simpa using hxy
            clear HNX HNO hd hin hxy
            go_wp2_with fail
            go_quiet (first | (go_at_call 37; exact Calls.quiet_of_same ((hI _).mono (fun _ _ h => ⟨h.1, h.2.symm⟩))))
            go_wp2
            go_ret
            exact ⟨by rw [HF.out]; rfl, HBw.out.trans ⟨rfl, rfl, rfl, Nat.le_refl _, fun _ _ => rfl⟩⟩
          · have hq : (y == x) = false := by simpa using hxy
            have HN : Hid (∀ i, i < k + 1 → 0 ≤ (f i).col ∧ (f i).col < D.nc ∧ (0 < i → (f 0).col ≠ (f i).col)) := HNX.out ⟨hin.1, hin.2, fun _ => hxy⟩
            clear HNX HNO hd hin hxy
            go_wp2_with fail
            go_quiet (first | (go_at_call 37; exact Calls.quiet_of_same ((hI _).mono (fun _ _ h => ⟨h.1, h.2.symm⟩))))
            go_wp2
            go_roundg (n - (k + 1))
            case measure => omega
            case rel => exact ⟨k + 1, by omega, rfl, by go_num, HB2.out.trans ⟨rfl, rfl, rfl, Nat.le_refl _, fun _ _ => rfl⟩, HN⟩
        · have h0z : decide ((0 : Int) < (k : Int)) = false := decide_eq_false (by omega)
          have HN : Hid (∀ i, i < k + 1 → 0 ≤ (f i).col ∧ (f i).col < D.nc ∧ (0 < i → (f 0).col ≠ (f i).col)) := HNX.out ⟨hin.1, hin.2, fun h => absurd h h0⟩
          clear HNX HNO hd hin
          go_wp2_with fail
          go_quiet (first | (go_at_call 37; exact Calls.quiet_of_same ((hI _).mono (fun _ _ h => ⟨h.1, h.2.symm⟩))))
          go_wp2
          go_roundg (n - (k + 1))
          case measure => omega
          case rel => exact ⟨k + 1, by omega, rfl, by go_num, HB2.out.trans ⟨rfl, rfl, rfl, Nat.le_refl _, fun _ _ => rfl⟩, HN⟩
      · have hd : (decide (0 ≤ x) && decide (x ≤ (D.nc : Int) - 1)) = false := by
          rw [Bool.eq_false_iff]; intro h; simp at h; exact hin (by omega)
        simp only [hd] at hI
        have HF : Hid (partsF D.nc n f = false) := HNO.out (fun h => hin ⟨h.1, h.2.1⟩)
        clear HNX HNO hd hin
        go_wp2_with fail
        go_quiet (first | (go_at_call 37; exact Calls.quiet_of_same ((hI _).mono (fun _ _ h => ⟨h.1, h.2.symm⟩))))
        go_wp2
        go_ret
        exact ⟨by rw [HF.out]; rfl, HBw.out.trans ⟨rfl, rfl, rfl, Nat.le_refl _, fun _ _ => rfl⟩⟩
    · have hkz : ¬ (k : Int) < (n : Int) := by omega
      obtain rfl : k = n := by omega
      have HF : Hid (partsF D.nc k f = (decide ((1 : Int) ≤ (k : Int)) && decide ((k : Int) ≤ 2))) := by
        show _ = _
        unfold partsF
        rw [Bool.eq_iff_iff]
        simp only [decide_eq_true_eq, Bool.and_eq_true]
        exact ⟨fun h => ⟨by omega, by omega⟩, fun h => ⟨HA.out, by omega, by omega⟩⟩
      have hI := l1In_tok k 1 2 wr
      clear hv HA
      go_wp2_with fail
      refine hI.mono ?_
      rintro e _ ⟨rfl, rfl⟩
      clear hI
      go_wp2
      go_ret
      exact ⟨by rw [HF.out]; rfl, hBw⟩

set_option maxHeartbeats 2000000 in
theorem l9AllParts_any (v : Value) (D : PDef) (w : World) (h : DView w v D) (hf : DFine D) :
    Calls Tryz.prog 18 #[v] w fun e w' => e = .returned (.bool (allPartsF D)) ∧ Below w.heap.size w w' := by
  have hnc := hf.nc
  have hni := hf.ni
  have hL := fun a n c f W hV hb hn => l9Parts_any v D a n c f W hV hb hnc hn
  have hv := h
  obtain ⟨ac, cc, ap, cp, ai, ci, rfl, -, hp, hi⟩ := h.is
  clear h
  go_enter Tryz.func18, Tryz.ntmps18
  go_wp2
  go_loopg [3] D.ni (fun q i wr => ∃ k : Nat, k ≤ D.ni ∧ q = D.ni - k ∧ i = .int .i64 k ∧ Below (w.heap.size + 1) (w.alloc (.cells #[.string D.name, .slice ac D.nc cc, .slice ap D.np cp, .slice ai D.ni ci] 33)) wr ∧ Hid (∀ i, i < k → partsF D.nc (D.idx i).n (D.idx i).part = true))
  case atStart => exact ⟨0, Nat.zero_le _, rfl, rfl, Below.refl _ _, fun j hj => absurd hj (Nat.not_lt_zero _)⟩
  case round =>
    obtain ⟨k, hk, rfl, rfl, hB, HA⟩ := hrel
    obtain ⟨x0, x1, x2, x3⟩ := box4 hB
    obtain ⟨hBw, hsz⟩ := box4_below hB
    by_cases hlt : k < D.ni
    · have hkz : (k : Int) < (D.ni : Int) := by omega
      have hfk := (hf.idx k hlt).2
      obtain ⟨b1, o1, rfl, hb1, hcs⟩ := (hi.below hBw).cells (by omega)
      obtain ⟨-, -, a2, c2, y2, hv2⟩ := hcs k hlt
      have hLk := fun W (hb : Below w.heap.size w W) (hw : Below wr.heap.size wr W) => hL a2 (D.idx k).n c2 (D.idx k).part W (hv.below hb) (hv2.below hw) hfk
      have HS : Hid (∀ b, partsF D.nc (D.idx k).n (D.idx k).part = b → (b = true → ∀ i, i < k + 1 → partsF D.nc (D.idx i).n (D.idx i).part = true) ∧ (b = false → allPartsF D = false)) := by
        intro b e
        refine ⟨fun hx i hi => ?_, fun hx => ?_⟩
        · by_cases hj' : i < k
          · exact HA.out i hj'
          · obtain rfl : i = k := by omega
            rw [e, hx]
        · unfold allPartsF
          refine decide_eq_false (fun h => ?_)
          have := h.1 k hlt
          rw [e, hx] at this
          cases this
      obtain ⟨x, hx⟩ : ∃ x, Hid (partsF D.nc (D.idx k).n (D.idx k).part = x) := ⟨_, rfl⟩
      simp only [hx.out] at hLk
      have HX' : Hid ((x = true → ∀ i, i < k + 1 → partsF D.nc (D.idx i).n (D.idx i).part = true) ∧ (x = false → allPartsF D = false)) := HS.out x hx.out
      obtain ⟨n2, hn2⟩ : ∃ n2, Hid ((D.idx k).n = n2) := ⟨_, rfl⟩
      rw [hn2.out] at y2
      simp only [hn2.out] at hLk
      have HBw : Hid (Below w.heap.size w wr) := hBw
      have HB : Hid (Below (w.heap.size + 1) (w.alloc (.cells #[.string D.name, .slice ac D.nc cc, .slice ap D.np cp, .slice (some ⟨b1, o1, none⟩) D.ni ci] 33)) wr) := hB
      clear hcs hp hi hv hL HA HS hv2 hf hBw hB hfk
      go_wp2_with fail
      go_region_held3 (fun WW => (WW.cell? ⟨w.heap.size, 0, none⟩ = some (.string D.name) ∧ WW.cell? ⟨w.heap.size, 1, none⟩ = some (.slice ac D.nc cc) ∧ WW.cell? ⟨w.heap.size, 2, none⟩ = some (.slice ap D.np cp) ∧ WW.cell? ⟨w.heap.size, 3, none⟩ = some (.slice (some ⟨b1, o1, none⟩) D.ni ci)) ∧ WW.cell? ⟨b1, o1 + k * 3 + 2, none⟩ = some (.slice a2 n2 c2)) (first | assumption | go_keep) (first | (go_at_call 39; refine (hLk _ (by repeat (first | exact HBw.out | refine Below.drew ?_)) (by repeat (first | exact Below.refl _ _ | refine Below.drew ?_))).mono ?_; rintro e w2 ⟨rfl, hB2⟩; have hcells : (w2.cell? ⟨w.heap.size, 0, none⟩ = some (.string D.name) ∧ w2.cell? ⟨w.heap.size, 1, none⟩ = some (.slice ac D.nc cc) ∧ w2.cell? ⟨w.heap.size, 2, none⟩ = some (.slice ap D.np cp) ∧ w2.cell? ⟨w.heap.size, 3, none⟩ = some (.slice (some ⟨b1, o1, none⟩) D.ni ci)) ∧ w2.cell? ⟨b1, o1 + k * 3 + 2, none⟩ = some (.slice a2 n2 c2) := (by (refine ⟨⟨?_, ?_, ?_, ?_⟩, ?_⟩ <;> (rw [hB2.cell (by first | (simp; omega) | exact hb1)]; assumption)))))
      all_goals
        have hb2 : Below wr.heap.size wr w2 := Below.trans (by repeat (first | exact Below.refl _ _ | refine Below.drew ?_)) hB2
        have HB2 : Hid (Below (w.heap.size + 1) (w.alloc (.cells #[.string D.name, .slice ac D.nc cc, .slice ap D.np cp, .slice (some ⟨b1, o1, none⟩) D.ni ci] 33)) w2) := box4_on HB.out hb2
        clear hB2 hb2 hLk HB
        cases x with
        | true =>
          have HN : Hid (∀ i, i < k + 1 → partsF D.nc (D.idx i).n (D.idx i).part = true) := HX'.out.1 rfl
          clear HX' HBw hcells
          go_wp2
          go_roundg (D.ni - (k + 1))
          case measure => omega
          case rel => exact ⟨k + 1, by omega, rfl, by go_num, HB2.out, HN⟩
        | false =>
          have HF : Hid (allPartsF D = false) := HX'.out.2 rfl
          have HB3 : Hid (Below w.heap.size w w2) := (box4_below HB2.out).1
          clear HX' HBw hcells
          go_wp2
          go_ret
          exact ⟨by rw [HF.out]; rfl, HB3.out⟩
    · have hkz : ¬ (k : Int) < (D.ni : Int) := by omega
      obtain rfl : k = D.ni := by omega
      have hLk := hL ap D.np cp D.pri wr (hv.below hBw) (hp.below hBw) hf.np
      have HF : Hid (allPartsF D = partsF D.nc D.np D.pri) := by
        show _ = _
        unfold allPartsF
        cases e : partsF D.nc D.np D.pri with
        | true => exact decide_eq_true ⟨HA.out, rfl⟩
        | false => exact decide_eq_false (fun h => by cases h.2)
      clear hp hi hv hL HA hf
      go_wp2_with fail
      refine hLk.mono ?_
      rintro e w2 ⟨rfl, hb2⟩
      have HB2 : Hid (Below w.heap.size w w2) := (box4_below (box4_on hB hb2)).1
      clear hLk hb2 hB hBw
      go_wp2
      go_ret
      exact ⟨by rw [HF.out]; rfl, HB2.out⟩
end Go.Proofs.YtfjlmkphnciglatGreatDoor

/-
  The model's CheckDef comes to the plain one.
-/
namespace Go.Proofs.YtfjlmkphnciglatGreatDoor
open Go.RowKit
set_option maxRecDepth 4000

set_option maxHeartbeats 2000000 in
theorem specCheck_any (v : Value) (D : PDef) (w : World) (h : DView w v D) (hf : DFine D) :
    Calls Tryz.prog 6 #[v] w fun e w' => e = .returned (.int .i64 (checkF D)) ∧ Below w.heap.size w w' := by
  have hnc := hf.nc
  have hnp := hf.np
  have hni := hf.ni
  have hv := h
  obtain ⟨ac, cc, ap, cp, ai, ci, rfl, hc, hp, -⟩ := h.is
  clear h
  obtain ⟨vv, hvv⟩ : ∃ vv : Value, Hid (vv = .agg #[.string D.name, .slice ac D.nc cc, .slice ap D.np cp, .slice ai D.ni ci]) := ⟨_, rfl⟩
  have h1 := fun W (hb : Below w.heap.size w W) => l9Names_any _ D W (hv.below hb) hf
  have h2 := fun W (hb : Below w.heap.size w W) => l9Types_any _ D W (hv.below hb) hnc
  have h3 := fun W (hb : Below w.heap.size w W) => l9Once_any _ D W (hv.below hb) hnc hni
  have h4 := fun W (hb : Below w.heap.size w W) => l9AllParts_any _ D W (hv.below hb) hf
  obtain ⟨r, hr⟩ : ∃ r, Hid (checkF D = r) := ⟨_, rfl⟩
  have HC : Hid (checkF D = if namesF D = false then 1 else if typesF D = false then 2 else if onceF D = false then 3 else if 2 < D.ni then 6 else if allPartsF D = false then 5 else if nullF D then 4 else 0) := rfl
  go_enter Tryz.func6, Tryz.ntmps6
  have hB0 := box4_start w (.cells #[.string D.name, .slice ac D.nc cc, .slice ap D.np cp, .slice ai D.ni ci] 33)
  obtain ⟨hBw0, -⟩ := box4_below hB0
  go_wp2_with fail
  refine (h1 _ hBw0).mono ?_
  clear h1
  cases e1 : namesF D with
  | false =>
    rintro e w1 ⟨rfl, hb1⟩
    have HB : Hid (Below w.heap.size w w1) := hBw0.trans (hb1.mono (by simp))
    clear hb1 h2 h3 h4 hc hp hv
    go_wp2
    go_ret
    exact ⟨by rw [HC.out, e1]; rfl, HB.out⟩
  | true =>
  rintro e w1 ⟨rfl, hb1⟩
  have hB1 := box4_on hB0 hb1
  obtain ⟨hBw1, hs1⟩ := box4_below hB1
  obtain ⟨x0, x1, x2, x3⟩ := box4 hB1
  have hT := h2 _ hBw1
  clear hb1 h2 hB0 hBw0
  go_wp2_with fail
  refine hT.mono ?_
  cases e2 : typesF D with
  | false =>
    rintro e w2 ⟨rfl, hb2⟩
    have HB : Hid (Below w.heap.size w w2) := hBw1.trans (hb2.mono (by omega))
    clear hb2 h3 h4 hc hp hv hT
    go_wp2
    go_ret
    exact ⟨by rw [HC.out, e1, e2]; rfl, HB.out⟩
  | true =>
  rintro e w2 ⟨rfl, hb2⟩
  have hB2 := box4_on hB1 hb2
  obtain ⟨hBw2, hs2⟩ := box4_below hB2
  clear x0 x1 x2 x3
  obtain ⟨x0, x1, x2, x3⟩ := box4 hB2
  have hO := h3 _ hBw2
  clear hb2 h3 hB1 hBw1 hT hs1
  go_wp2_with fail
  refine hO.mono ?_
  cases e3 : onceF D with
  | false =>
    rintro e w3 ⟨rfl, hb3⟩
    have HB : Hid (Below w.heap.size w w3) := hBw2.trans (hb3.mono (by omega))
    clear hb3 h4 hc hp hv hO
    go_wp2
    go_ret
    exact ⟨by rw [HC.out, e1, e2, e3]; rfl, HB.out⟩
  | true =>
  rintro e w3 ⟨rfl, hb3⟩
  have hB3 := box4_on hB2 hb3
  obtain ⟨hBw3, hs3⟩ := box4_below hB3
  clear x0 x1 x2 x3
  obtain ⟨x0, x1, x2, x3⟩ := box4 hB3
  have hP := h4 _ hBw3
  clear hb3 h4 hB2 hBw2 hO hs2
  by_cases h6 : 2 < D.ni
  · have h6z : (2 : Int) < (D.ni : Int) := by omega
    have HB : Hid (Below w.heap.size w w3) := hBw3
    clear hc hp hv hP
    go_wp2
    go_ret
    exact ⟨by rw [HC.out, e1, e2, e3, if_pos h6]; rfl, HB.out⟩
  have h6z : ¬ (2 : Int) < (D.ni : Int) := by omega
  go_wp2_with fail
  refine hP.mono ?_
  cases e5 : allPartsF D with
  | false =>
    rintro e w4 ⟨rfl, hb4⟩
    have HB : Hid (Below w.heap.size w w4) := hBw3.trans (hb4.mono (by omega))
    clear hb4 hc hp hv hP
    go_wp2
    go_ret
    exact ⟨by rw [HC.out, e1, e2, e3, if_neg h6, e5]; rfl, HB.out⟩
  | true =>
  rintro e w4 ⟨rfl, hb4⟩
  have hB4 := box4_on hB3 hb4
  have HC2 : Hid (checkF D = if nullF D then 4 else 0) := by
    show _ = _
    rw [HC.out, e1, e2, e3, if_neg h6, e5]; rfl
  have HPR : Hid (∀ i, i < D.np → 0 ≤ (D.pri i).col ∧ (D.pri i).col < D.nc) := by
    intro i hi
    unfold allPartsF at e5
    exact partsF_in (of_decide_eq_true e5).2 hi
  clear hb4 hB3 hBw3 hP hs3 x0 x1 x2 x3 hv e1 e2 e3 e5 HC h6 h6z
  go_wp2
  go_loopg [3] D.np (fun q i wr => ∃ k : Nat, k ≤ D.np ∧ q = D.np - k ∧ i = .int .i64 k ∧ Below (w.heap.size + 1) (w.alloc (.cells #[.string D.name, .slice ac D.nc cc, .slice ap D.np cp, .slice ai D.ni ci] 33)) wr ∧ Hid (∀ i, i < k → (D.col (D.pri i).col.toNat).null = false))
  case atStart => exact ⟨0, Nat.zero_le _, rfl, rfl, hB4, fun j hj => absurd hj (Nat.not_lt_zero _)⟩
  case round =>
    clear hB4
    obtain ⟨k, hk, rfl, rfl, hB, HA⟩ := hrel
    obtain ⟨x0, x1, x2, x3⟩ := box4 hB
    obtain ⟨hBw, hsz⟩ := box4_below hB
    have HBw : Hid (Below w.heap.size w wr) := hBw
    by_cases hlt : k < D.np
    · have hkz : (k : Int) < (D.np : Int) := by omega
      obtain ⟨q0, q1⟩ := HPR.out k hlt
      obtain ⟨m, hm⟩ := Int.eq_ofNat_of_zero_le q0
      obtain ⟨b2, o2, rfl, hb2, hcs⟩ := (hp.below hBw).cells (by omega)
      obtain ⟨y0, -⟩ := hcs k hlt
      rw [hm] at y0 q1
      obtain ⟨b1, o1, rfl, hb1, hcc⟩ := (hc.below hBw).cells (by omega)
      obtain ⟨-, -, y2⟩ := hcc m (by omega)
      have HNX : Hid ((D.col (D.pri k).col.toNat).null = (D.col m).null) := by show _ = _; rw [hm]; rfl
      have HB : Hid (Below (w.heap.size + 1) (w.alloc (.cells #[.string D.name, .slice (some ⟨b1, o1, none⟩) D.nc cc, .slice (some ⟨b2, o2, none⟩) D.np cp, .slice ai D.ni ci] 33)) wr) := hB
      cases hnn : (D.col m).null with
      | true =>
        have HF : Hid (nullF D = true) := by
          show _ = _
          unfold nullF
          exact decide_eq_true ⟨k, hlt, HNX.out.trans hnn⟩
        rw [hnn] at y2
        clear hcs hcc hc hp hB hBw HA HPR hm q0 hf HNX hnn
        go_wp2_with fail
        go_quiet (fail)
        go_wp2
        go_ret
        exact ⟨by rw [HC2.out, HF.out]; rfl, HBw.out.trans ⟨rfl, rfl, rfl, Nat.le_refl _, fun _ _ => rfl⟩⟩
      | false =>
        have HN : Hid (∀ i, i < k + 1 → (D.col (D.pri i).col.toNat).null = false) := by
          intro i hi
          by_cases hj' : i < k
          · exact HA.out i hj'
          · obtain rfl : i = k := by omega
            exact HNX.out.trans hnn
        rw [hnn] at y2
        clear hcs hcc hc hp hB hBw HA HPR hm q0 hf HNX hnn
        go_wp2_with fail
        go_quiet (fail)
        go_wp2
        go_roundg (D.np - (k + 1))
        case measure => omega
        case rel => exact ⟨k + 1, by omega, rfl, by go_num, HB.out.trans ⟨rfl, rfl, rfl, Nat.le_refl _, fun _ _ => rfl⟩, HN⟩
    · have hkz : ¬ (k : Int) < (D.np : Int) := by omega
      obtain rfl : k = D.np := by omega
      have HF : Hid (nullF D = false) := by
        show _ = _
        unfold nullF
        refine decide_eq_false (fun ⟨i, hi, h⟩ => ?_)
        rw [HA.out i hi] at h
        cases h
      clear hc hp hB hBw HA HPR hf
      go_wp2
      go_ret
      exact ⟨by rw [HC2.out, HF.out]; rfl, HBw.out⟩
end Go.Proofs.YtfjlmkphnciglatGreatDoor

/-
  The model's DefText comes to the plain one.
-/
namespace Go.Proofs.YtfjlmkphnciglatGreatDoor
open Go.RowKit
set_option maxRecDepth 4000

set_option maxHeartbeats 4000000 in
theorem specText_any (v : Value) (D : PDef) (w : World) (h : DView w v D) (hf : DFine D) :
    Calls Tryz.prog 10 #[v] w fun e w' => e = .returned (.string (defText D)) ∧ Below w.heap.size w w' := by
  have hv := h
  obtain ⟨ac, cc, ap, cp, ai, ci, rfl, hc, hp, hi⟩ := h.is
  clear h
  have hB0 := box4_start w (.cells #[.string D.name, .slice ac D.nc cc, .slice ap D.np cp, .slice ai D.ni ci] 33)
  obtain ⟨hBw0, -⟩ := box4_below hB0
  have hC := specCheck_any _ D _ (hv.below hBw0) hf
  by_cases hg : checkF D = 0
  · have HD : Hid (defText D = idxT D D.ni ++ (⟨#[125]⟩ : ByteArray)) := by show _ = _; unfold defText; rw [if_pos hg]; rfl
    rw [hg] at hC
    obtain ⟨-, g2, -, g4, g5, -⟩ := checkF_good hg
    unfold typesF at g2
    have G2 := of_decide_eq_true g2
    unfold allPartsF at g5
    have G5 := of_decide_eq_true g5
    have hnc6 : D.nc ≤ 6 := G2.2.2
    have hnp2 := (partsF_two G5.2).2
    have HT : Hid (∀ i, i < D.nc → 1 ≤ (D.col i).type ∧ (D.col i).type ≤ 4) := G2.1
    have HIN : Hid (∀ i, i < D.np → 0 ≤ (D.pri i).col ∧ (D.pri i).col < D.nc) := fun i hi => partsF_in G5.2 hi
    have HIX : Hid (∀ k, k < D.ni → (D.idx k).n ≤ 2 ∧ ∀ i, i < (D.idx k).n → 0 ≤ ((D.idx k).part i).col ∧ ((D.idx k).part i).col < D.nc) := fun k hk => ⟨(partsF_two (G5.1 k hk)).2, fun i hi => partsF_in (G5.1 k hk) hi⟩
    have HCZ : Hid (∀ i, i < D.nc → (D.col i).name.size ≤ 1048576) := hf.col
    have HXZ : Hid (∀ i, i < D.ni → (D.idx i).name.size ≤ 1048576) := fun i hi => (hf.idx i hi).1
    have hnz := hf.name
    have HS1 : Hid (∀ k, k ≤ D.nc → (colsT D.name D.col k).size ≤ 7340116) := fun k hk => by
      have h1 := colsT_size hf.name hf.col k hk
      have h2 : (k + 1) * (1048576 + 12) ≤ 7 * (1048576 + 12) := Nat.mul_le_mul_right _ (by omega)
      omega
    have HP1 : Hid ((partsE D.col D.np D.pri).size ≤ 2097168) := partsE_size (B := 1048576) (fun i hi => hf.col _ (by have := HIN.out i hi; omega)) hnp2
    have HP2 : Hid (∀ k, k < D.ni → (partsE D.col (D.idx k).n (D.idx k).part).size ≤ 2097168) := fun k hk => partsE_size (B := 1048576) (fun i hi => hf.col _ (by have := (HIX.out k hk).2 i hi; omega)) (HIX.out k hk).1
    have HS2 : Hid (∀ k, k ≤ D.ni → (idxT D k).size ≤ 15728848) := fun k hk => by
      have h1 := idxT_size (B := 1048576) hf.name hf.col hnc6 HP1.out (fun i hi => ⟨HXZ.out i hi, HP2.out i hi⟩) k hk
      have h2 : k * (3 * 1048576 + 24) ≤ 2 * (3 * 1048576 + 24) := Nat.mul_le_mul_right _ (by omega)
      omega
    clear hf g2 G2 g5 G5
    go_enter Tryz.func10, Tryz.ntmps10
    go_wp2_with fail
    refine hC.mono ?_
    rintro e w1 ⟨rfl, hb1⟩
    have hB1 := box4_on hB0 hb1
    obtain ⟨x0, x1, x2, x3⟩ := box4 hB1
    have a1 : (⟨#[116, 97, 98, 108, 101, 32]⟩ : ByteArray).size = 6 := rfl
    have a2 : (⟨#[32, 123, 32]⟩ : ByteArray).size = 3 := rfl
    have a3 : ((⟨#[116, 97, 98, 108, 101, 32]⟩ : ByteArray) ++ D.name).size = 6 + D.name.size := by rw [ByteArray.size_append]; rfl
    have a4 : ¬ (6 + D.name.size > 9223372036854775807) := by omega
    have a5 : ¬ (6 + D.name.size + 3 > 9223372036854775807) := by omega
    clear hC hb1 hB0 hBw0
    go_wp2
    clear a1 a2 a3 a4 a5
    go_loopg [3, 4] D.nc (fun q s i wr => ∃ k : Nat, k ≤ D.nc ∧ q = D.nc - k ∧ i = .int .i64 k ∧ s = .string (colsT D.name D.col k) ∧ Below (w.heap.size + 1) (w.alloc (.cells #[.string D.name, .slice ac D.nc cc, .slice ap D.np cp, .slice ai D.ni ci] 33)) wr)
    case atStart => exact ⟨0, Nat.zero_le _, rfl, rfl, rfl, hB1⟩
    case round =>
      clear hB1 x0 x1 x2 x3
      obtain ⟨k, hk, rfl, rfl, rfl, hB⟩ := hrel
      obtain ⟨x0, x1, x2, x3⟩ := box4 hB
      obtain ⟨hBw, hsz⟩ := box4_below hB
      by_cases hlt : k < D.nc
      · have hkz : (k : Int) < (D.nc : Int) := by omega
        obtain ⟨b1, o1, rfl, hb1, hcc⟩ := (hc.below hBw).cells (by omega)
        obtain ⟨z0, z1, z2⟩ := hcc k hlt
        have hzk := HCZ.out k hlt
        obtain ⟨t1, t4⟩ := HT.out k hlt
        have hjz := HS1.out k hk
        have HN : Hid (colsT D.name D.col (k + 1) = (let s := colsT D.name D.col k ++ (D.col k).name ++ (⟨#[32]⟩ : ByteArray) ++ typeW (D.col k).type; (if (D.col k).null then s ++ (⟨#[32, 110, 117, 108, 108]⟩ : ByteArray) else s) ++ (⟨#[59, 32]⟩ : ByteArray))) := rfl
        obtain ⟨J, hJ⟩ : ∃ J, Hid (colsT D.name D.col k = J) := ⟨_, rfl⟩
        obtain ⟨z, hz⟩ : ∃ p, Hid ((D.col k).name = p) := ⟨_, rfl⟩
        obtain ⟨t, ht⟩ : ∃ t, Hid ((D.col k).type = t) := ⟨_, rfl⟩
        obtain ⟨nl, hnl⟩ : ∃ b, Hid ((D.col k).null = b) := ⟨_, rfl⟩
        rw [hJ.out] at HN hjz ⊢
        rw [hz.out] at HN z0 hzk
        rw [ht.out] at HN z1 t1 t4
        rw [hnl.out] at HN z2
        have hL := fun W => l9Type_any t W t1 t4
        have htz := typeW_size t
        obtain ⟨ty, hty⟩ : ∃ s, Hid (typeW t = s) := ⟨_, rfl⟩
        rw [hty.out] at HN htz
        simp only [hty.out] at hL
        have HB : Hid (Below (w.heap.size + 1) (w.alloc (.cells #[.string D.name, .slice (some ⟨b1, o1, none⟩) D.nc cc, .slice ap D.np cp, .slice ai D.ni ci] 33)) wr) := hB
        have e1 : (⟨#[32]⟩ : ByteArray).size = 1 := rfl
        have e2 : (⟨#[32, 110, 117, 108, 108]⟩ : ByteArray).size = 5 := rfl
        have e3 : (⟨#[59, 32]⟩ : ByteArray).size = 2 := rfl
        have s1 : ¬ (J.size + z.size > 9223372036854775807) := by omega
        have s2 : (J ++ z).size = J.size + z.size := by rw [ByteArray.size_append]
        have s3 : ¬ (J.size + z.size + 1 > 9223372036854775807) := by omega
        have s4 : (J ++ z ++ (⟨#[32]⟩ : ByteArray)).size = J.size + z.size + 1 := by rw [ByteArray.size_append, s2]; rfl
        have s5 : ¬ (J.size + z.size + 1 + ty.size > 9223372036854775807) := by omega
        have s6 : (J ++ z ++ (⟨#[32]⟩ : ByteArray) ++ ty).size = J.size + z.size + 1 + ty.size := by rw [ByteArray.size_append, s4]
        have s7 : ¬ (J.size + z.size + 1 + ty.size + 5 > 9223372036854775807) := by omega
        have s8 : (J ++ z ++ (⟨#[32]⟩ : ByteArray) ++ ty ++ (⟨#[32, 110, 117, 108, 108]⟩ : ByteArray)).size = J.size + z.size + 1 + ty.size + 5 := by rw [ByteArray.size_append, s6]; rfl
        have s9 : ¬ (J.size + z.size + 1 + ty.size + 5 + 2 > 9223372036854775807) := by omega
        have s10 : ¬ (J.size + z.size + 1 + ty.size + 2 > 9223372036854775807) := by omega
        have HWK : Hid (∀ W, Below wr.heap.size wr W → (W.cell? ⟨w.heap.size, 0, none⟩ = some (.string D.name) ∧ W.cell? ⟨w.heap.size, 1, none⟩ = some (.slice (some ⟨b1, o1, none⟩) D.nc cc) ∧ W.cell? ⟨w.heap.size, 2, none⟩ = some (.slice ap D.np cp) ∧ W.cell? ⟨w.heap.size, 3, none⟩ = some (.slice ai D.ni ci)) ∧ (W.cell? ⟨b1, o1 + k * 3, none⟩ = some (.string z) ∧ W.cell? ⟨b1, o1 + k * 3 + 1, none⟩ = some (.int .i64 t) ∧ W.cell? ⟨b1, o1 + k * 3 + 2, none⟩ = some (.bool nl))) := by
          intro W hb
          refine ⟨⟨?_, ?_, ?_, ?_⟩, ?_, ?_, ?_⟩ <;> (rw [hb.cell (by first | exact hsz | exact hb1)]; assumption)
        clear hcc hc hp hi hB hBw HT HIN HIX HCZ HXZ HS1 HP1 HP2 HS2 hv
        go_wp2_with fail
        go_region_held3 (fun WW => (WW.cell? ⟨w.heap.size, 0, none⟩ = some (.string D.name) ∧ WW.cell? ⟨w.heap.size, 1, none⟩ = some (.slice (some ⟨b1, o1, none⟩) D.nc cc) ∧ WW.cell? ⟨w.heap.size, 2, none⟩ = some (.slice ap D.np cp) ∧ WW.cell? ⟨w.heap.size, 3, none⟩ = some (.slice ai D.ni ci)) ∧ (WW.cell? ⟨b1, o1 + k * 3, none⟩ = some (.string z) ∧ WW.cell? ⟨b1, o1 + k * 3 + 1, none⟩ = some (.int .i64 t) ∧ WW.cell? ⟨b1, o1 + k * 3 + 2, none⟩ = some (.bool nl))) (first | assumption | go_keep) (first | (go_at_call 27; refine (hL _).mono ?_; rintro e w2 ⟨rfl, hB2⟩; have hcells : (w2.cell? ⟨w.heap.size, 0, none⟩ = some (.string D.name) ∧ w2.cell? ⟨w.heap.size, 1, none⟩ = some (.slice (some ⟨b1, o1, none⟩) D.nc cc) ∧ w2.cell? ⟨w.heap.size, 2, none⟩ = some (.slice ap D.np cp) ∧ w2.cell? ⟨w.heap.size, 3, none⟩ = some (.slice ai D.ni ci)) ∧ (w2.cell? ⟨b1, o1 + k * 3, none⟩ = some (.string z) ∧ w2.cell? ⟨b1, o1 + k * 3 + 1, none⟩ = some (.int .i64 t) ∧ w2.cell? ⟨b1, o1 + k * 3 + 2, none⟩ = some (.bool nl)) := HWK.out _ (Below.trans (by repeat (first | exact Below.refl _ _ | refine Below.drew ?_)) hB2)))
        all_goals
          have hb2 : Below wr.heap.size wr w2 := Below.trans (by repeat (first | exact Below.refl _ _ | refine Below.drew ?_)) hB2
          have HB2 : Hid (Below (w.heap.size + 1) (w.alloc (.cells #[.string D.name, .slice (some ⟨b1, o1, none⟩) D.nc cc, .slice ap D.np cp, .slice ai D.ni ci] 33)) w2) := box4_on HB.out hb2
          obtain ⟨⟨x0, x1, x2, x3⟩, z0, z1, z2⟩ := hcells
          clear hB2 hb2 hL HB HWK
          cases nl with
          | true =>
            have HN' : Hid (colsT D.name D.col (k + 1) = J ++ z ++ (⟨#[32]⟩ : ByteArray) ++ ty ++ (⟨#[32, 110, 117, 108, 108]⟩ : ByteArray) ++ (⟨#[59, 32]⟩ : ByteArray)) := HN.out
            clear HN
            go_wp2
            go_roundg (D.nc - (k + 1))
            case measure => omega
            case rel => exact ⟨k + 1, by omega, rfl, by go_num, by rw [HN'.out], by first | exact HB2.out | exact HB2.out.drew⟩
          | false =>
            have HN' : Hid (colsT D.name D.col (k + 1) = J ++ z ++ (⟨#[32]⟩ : ByteArray) ++ ty ++ (⟨#[59, 32]⟩ : ByteArray)) := HN.out
            clear HN
            go_wp2
            go_roundg (D.nc - (k + 1))
            case measure => omega
            case rel => exact ⟨k + 1, by omega, rfl, by go_num, by rw [HN'.out], by first | exact HB2.out | exact HB2.out.drew⟩
      · have hkz : ¬ (k : Int) < (D.nc : Int) := by omega
        obtain rfl : k = D.nc := by omega
        have hL := l9PartsText_any _ D ap D.np cp D.pri wr (hv.below hBw) (hp.below hBw) (by omega) (by omega) HIN.out HCZ.out
        have hjz := HS1.out D.nc hk
        have hpz := HP1.out
        have HI0 : Hid (idxT D 0 = colsT D.name D.col D.nc ++ (⟨#[112, 114, 105, 109, 97, 114, 121, 32]⟩ : ByteArray) ++ partsE D.col D.np D.pri) := by
          show _ = _
          rw [idxT, ByteArray.append_assoc]
        obtain ⟨J, hJ⟩ : ∃ J, Hid (colsT D.name D.col D.nc = J) := ⟨_, rfl⟩
        obtain ⟨q, hq⟩ : ∃ q, Hid (partsE D.col D.np D.pri = q) := ⟨_, rfl⟩
        rw [hJ.out] at HI0 hjz ⊢
        rw [hq.out] at HI0 hpz hL
        have e1 : (⟨#[112, 114, 105, 109, 97, 114, 121, 32]⟩ : ByteArray).size = 8 := rfl
        have s1 : ¬ (J.size + 8 > 9223372036854775807) := by omega
        have s2 : (J ++ (⟨#[112, 114, 105, 109, 97, 114, 121, 32]⟩ : ByteArray)).size = J.size + 8 := by rw [ByteArray.size_append]; rfl
        have s3 : ¬ (J.size + 8 + q.size > 9223372036854775807) := by omega
        clear HT HS1 HP1 hc hp HIN
        go_wp2_with fail
        refine hL.mono ?_
        rintro e w3 ⟨rfl, hb3⟩
        have hB3 := box4_on hB hb3
        clear hL hb3 hB hBw x0 x1 x2 x3
        go_wp2
        clear e1 s1 s2 s3
        go_loopg [3, 5] D.ni (fun q s i wr => ∃ k : Nat, k ≤ D.ni ∧ q = D.ni - k ∧ i = .int .i64 k ∧ s = .string (idxT D k) ∧ Below (w.heap.size + 1) (w.alloc (.cells #[.string D.name, .slice ac D.nc cc, .slice ap D.np cp, .slice ai D.ni ci] 33)) wr)
        case atStart => exact ⟨0, Nat.zero_le _, rfl, rfl, by rw [HI0.out], hB3⟩
        case round =>
          clear hB3 hjz hpz HI0 hJ hq hkz hlt hk
          obtain ⟨k, hk, rfl, rfl, rfl, hB⟩ := hrel
          obtain ⟨x0, x1, x2, x3⟩ := box4 hB
          obtain ⟨hBw, hsz⟩ := box4_below hB
          by_cases hlt : k < D.ni
          · have hkz : (k : Int) < (D.ni : Int) := by omega
            obtain ⟨b1, o1, rfl, hb1, hcc⟩ := (hi.below hBw).cells (by omega)
            obtain ⟨z0, z1, a2, c2, z2, hv2⟩ := hcc k hlt
            have hzk := HXZ.out k hlt
            have hpz := HP2.out k hlt
            obtain ⟨n2x, hinx⟩ := HIX.out k hlt
            have hjz := HS2.out k hk
            have hL := fun W (hb : Below w.heap.size w W) (hw : Below wr.heap.size wr W) => l9PartsText_any _ D a2 (D.idx k).n c2 (D.idx k).part W (hv.below hb) (hv2.below hw) (by omega) (by omega) hinx HCZ.out
            have HN : Hid (idxT D (k + 1) = idxT D k ++ (if (D.idx k).uniq then (⟨#[117, 110, 105, 113, 117, 101, 32]⟩ : ByteArray) else (⟨#[105, 110, 100, 101, 120, 32]⟩ : ByteArray)) ++ (D.idx k).name ++ (⟨#[32]⟩ : ByteArray) ++ partsE D.col (D.idx k).n (D.idx k).part) := rfl
            obtain ⟨J, hJ⟩ : ∃ J, Hid (idxT D k = J) := ⟨_, rfl⟩
            obtain ⟨z, hz⟩ : ∃ p, Hid ((D.idx k).name = p) := ⟨_, rfl⟩
            obtain ⟨nl, hnl⟩ : ∃ b, Hid ((D.idx k).uniq = b) := ⟨_, rfl⟩
            obtain ⟨q, hq⟩ : ∃ q, Hid (partsE D.col (D.idx k).n (D.idx k).part = q) := ⟨_, rfl⟩
            rw [hJ.out] at HN hjz ⊢
            rw [hz.out] at HN z0 hzk
            rw [hnl.out] at HN z1
            rw [hq.out] at HN hpz
            simp only [hq.out] at hL
            obtain ⟨n2, hn2⟩ : ∃ n, Hid ((D.idx k).n = n) := ⟨_, rfl⟩
            rw [hn2.out] at z2
            simp only [hn2.out] at hL
            have HB : Hid (Below (w.heap.size + 1) (w.alloc (.cells #[.string D.name, .slice ac D.nc cc, .slice ap D.np cp, .slice (some ⟨b1, o1, none⟩) D.ni ci] 33)) wr) := hB
            have HBw : Hid (Below w.heap.size w wr) := hBw
            have HWK : Hid (∀ W, Below wr.heap.size wr W → (W.cell? ⟨w.heap.size, 0, none⟩ = some (.string D.name) ∧ W.cell? ⟨w.heap.size, 1, none⟩ = some (.slice ac D.nc cc) ∧ W.cell? ⟨w.heap.size, 2, none⟩ = some (.slice ap D.np cp) ∧ W.cell? ⟨w.heap.size, 3, none⟩ = some (.slice (some ⟨b1, o1, none⟩) D.ni ci)) ∧ (W.cell? ⟨b1, o1 + k * 3, none⟩ = some (.string z) ∧ W.cell? ⟨b1, o1 + k * 3 + 2, none⟩ = some (.slice a2 n2 c2))) := by
              intro W hb
              refine ⟨⟨?_, ?_, ?_, ?_⟩, ?_, ?_⟩ <;> (rw [hb.cell (by first | exact hsz | exact hb1)]; assumption)
            have e1 : (⟨#[32]⟩ : ByteArray).size = 1 := rfl
            have e2 : (⟨#[117, 110, 105, 113, 117, 101, 32]⟩ : ByteArray).size = 7 := rfl
            have e3 : (⟨#[105, 110, 100, 101, 120, 32]⟩ : ByteArray).size = 6 := rfl
            clear hcc hi hB hBw HIX HCZ HXZ HP2 HS2 hv hv2 hinx n2x
            cases nl with
            | true =>
              have HN' : Hid (idxT D (k + 1) = J ++ (⟨#[117, 110, 105, 113, 117, 101, 32]⟩ : ByteArray) ++ z ++ (⟨#[32]⟩ : ByteArray) ++ q) := HN.out
              clear HN
              have s1 : ¬ (J.size + 7 > 9223372036854775807) := by omega
              have s2 : (J ++ (⟨#[117, 110, 105, 113, 117, 101, 32]⟩ : ByteArray)).size = J.size + 7 := by rw [ByteArray.size_append]; rfl
              have s3 : ¬ (J.size + 7 + z.size > 9223372036854775807) := by omega
              have s4 : (J ++ (⟨#[117, 110, 105, 113, 117, 101, 32]⟩ : ByteArray) ++ z).size = J.size + 7 + z.size := by rw [ByteArray.size_append, s2]
              have s5 : ¬ (J.size + 7 + z.size + 1 > 9223372036854775807) := by omega
              have s6 : (J ++ (⟨#[117, 110, 105, 113, 117, 101, 32]⟩ : ByteArray) ++ z ++ (⟨#[32]⟩ : ByteArray)).size = J.size + 7 + z.size + 1 := by rw [ByteArray.size_append, s4]; rfl
              have s7 : ¬ (J.size + 7 + z.size + 1 + q.size > 9223372036854775807) := by omega
              go_wp2_with fail
              go_region_held3 (fun WW => (WW.cell? ⟨w.heap.size, 0, none⟩ = some (.string D.name) ∧ WW.cell? ⟨w.heap.size, 1, none⟩ = some (.slice ac D.nc cc) ∧ WW.cell? ⟨w.heap.size, 2, none⟩ = some (.slice ap D.np cp) ∧ WW.cell? ⟨w.heap.size, 3, none⟩ = some (.slice (some ⟨b1, o1, none⟩) D.ni ci)) ∧ (WW.cell? ⟨b1, o1 + k * 3, none⟩ = some (.string z) ∧ WW.cell? ⟨b1, o1 + k * 3 + 2, none⟩ = some (.slice a2 n2 c2))) (first | assumption | go_keep) (first | (go_at_call 28; refine (hL _ (by repeat (first | exact HBw.out | refine Below.drew ?_)) (by repeat (first | exact Below.refl _ _ | refine Below.drew ?_))).mono ?_; rintro e w2 ⟨rfl, hB2⟩; have hcells : (w2.cell? ⟨w.heap.size, 0, none⟩ = some (.string D.name) ∧ w2.cell? ⟨w.heap.size, 1, none⟩ = some (.slice ac D.nc cc) ∧ w2.cell? ⟨w.heap.size, 2, none⟩ = some (.slice ap D.np cp) ∧ w2.cell? ⟨w.heap.size, 3, none⟩ = some (.slice (some ⟨b1, o1, none⟩) D.ni ci)) ∧ (w2.cell? ⟨b1, o1 + k * 3, none⟩ = some (.string z) ∧ w2.cell? ⟨b1, o1 + k * 3 + 2, none⟩ = some (.slice a2 n2 c2)) := HWK.out _ (Below.trans (by repeat (first | exact Below.refl _ _ | refine Below.drew ?_)) hB2)))
              all_goals
                have hb2 : Below wr.heap.size wr w2 := Below.trans (by repeat (first | exact Below.refl _ _ | refine Below.drew ?_)) hB2
                have HB2 : Hid (Below (w.heap.size + 1) (w.alloc (.cells #[.string D.name, .slice ac D.nc cc, .slice ap D.np cp, .slice (some ⟨b1, o1, none⟩) D.ni ci] 33)) w2) := box4_on HB.out hb2
                clear hB2 hb2 hL HB HWK hcells
                go_wp2
                go_roundg (D.ni - (k + 1))
                case measure => omega
                case rel => exact ⟨k + 1, by omega, rfl, by go_num, by rw [HN'.out], by first | exact HB2.out | exact HB2.out.drew⟩
            | false =>
              have HN' : Hid (idxT D (k + 1) = J ++ (⟨#[105, 110, 100, 101, 120, 32]⟩ : ByteArray) ++ z ++ (⟨#[32]⟩ : ByteArray) ++ q) := HN.out
              clear HN
              have s1 : ¬ (J.size + 6 > 9223372036854775807) := by omega
              have s2 : (J ++ (⟨#[105, 110, 100, 101, 120, 32]⟩ : ByteArray)).size = J.size + 6 := by rw [ByteArray.size_append]; rfl
              have s3 : ¬ (J.size + 6 + z.size > 9223372036854775807) := by omega
              have s4 : (J ++ (⟨#[105, 110, 100, 101, 120, 32]⟩ : ByteArray) ++ z).size = J.size + 6 + z.size := by rw [ByteArray.size_append, s2]
              have s5 : ¬ (J.size + 6 + z.size + 1 > 9223372036854775807) := by omega
              have s6 : (J ++ (⟨#[105, 110, 100, 101, 120, 32]⟩ : ByteArray) ++ z ++ (⟨#[32]⟩ : ByteArray)).size = J.size + 6 + z.size + 1 := by rw [ByteArray.size_append, s4]; rfl
              have s7 : ¬ (J.size + 6 + z.size + 1 + q.size > 9223372036854775807) := by omega
              go_wp2_with fail
              go_region_held3 (fun WW => (WW.cell? ⟨w.heap.size, 0, none⟩ = some (.string D.name) ∧ WW.cell? ⟨w.heap.size, 1, none⟩ = some (.slice ac D.nc cc) ∧ WW.cell? ⟨w.heap.size, 2, none⟩ = some (.slice ap D.np cp) ∧ WW.cell? ⟨w.heap.size, 3, none⟩ = some (.slice (some ⟨b1, o1, none⟩) D.ni ci)) ∧ (WW.cell? ⟨b1, o1 + k * 3, none⟩ = some (.string z) ∧ WW.cell? ⟨b1, o1 + k * 3 + 2, none⟩ = some (.slice a2 n2 c2))) (first | assumption | go_keep) (first | (go_at_call 28; refine (hL _ (by repeat (first | exact HBw.out | refine Below.drew ?_)) (by repeat (first | exact Below.refl _ _ | refine Below.drew ?_))).mono ?_; rintro e w2 ⟨rfl, hB2⟩; have hcells : (w2.cell? ⟨w.heap.size, 0, none⟩ = some (.string D.name) ∧ w2.cell? ⟨w.heap.size, 1, none⟩ = some (.slice ac D.nc cc) ∧ w2.cell? ⟨w.heap.size, 2, none⟩ = some (.slice ap D.np cp) ∧ w2.cell? ⟨w.heap.size, 3, none⟩ = some (.slice (some ⟨b1, o1, none⟩) D.ni ci)) ∧ (w2.cell? ⟨b1, o1 + k * 3, none⟩ = some (.string z) ∧ w2.cell? ⟨b1, o1 + k * 3 + 2, none⟩ = some (.slice a2 n2 c2)) := HWK.out _ (Below.trans (by repeat (first | exact Below.refl _ _ | refine Below.drew ?_)) hB2)))
              all_goals
                have hb2 : Below wr.heap.size wr w2 := Below.trans (by repeat (first | exact Below.refl _ _ | refine Below.drew ?_)) hB2
                have HB2 : Hid (Below (w.heap.size + 1) (w.alloc (.cells #[.string D.name, .slice ac D.nc cc, .slice ap D.np cp, .slice (some ⟨b1, o1, none⟩) D.ni ci] 33)) w2) := box4_on HB.out hb2
                clear hB2 hb2 hL HB HWK hcells
                go_wp2
                go_roundg (D.ni - (k + 1))
                case measure => omega
                case rel => exact ⟨k + 1, by omega, rfl, by go_num, by rw [HN'.out], by first | exact HB2.out | exact HB2.out.drew⟩
          · have hkz : ¬ (k : Int) < (D.ni : Int) := by omega
            obtain rfl : k = D.ni := by omega
            have hjz := HS2.out D.ni hk
            obtain ⟨J, hJ⟩ : ∃ J, Hid (idxT D D.ni = J) := ⟨_, rfl⟩
            rw [hJ.out] at HD hjz ⊢
            have e1 : (⟨#[125]⟩ : ByteArray).size = 1 := rfl
            have s1 : ¬ (J.size + 1 > 9223372036854775807) := by omega
            have HBw : Hid (Below w.heap.size w wr) := hBw
            clear hi hB hBw HIX HCZ HXZ HP2 HS2 hv
            go_wp2
            go_ret
            exact ⟨by rw [HD.out]; rfl, HBw.out⟩
  · have HD : Hid (defText D = (⟨#[]⟩ : ByteArray)) := by show _ = _; unfold defText; rw [if_neg hg]
    obtain ⟨r, hr⟩ : ∃ r, Hid (checkF D = r) := ⟨_, rfl⟩
    rw [hr.out] at hC hg
    have hq : (r != 0) = true := by simpa using hg
    clear hc hp hi hv hf hg
    go_enter Tryz.func10, Tryz.ntmps10
    go_wp2_with fail
    refine hC.mono ?_
    rintro e w1 ⟨rfl, hb1⟩
    have HB : Hid (Below w.heap.size w w1) := hBw0.trans (hb1.mono (by simp))
    clear hC hb1 hBw0 hB0
    go_wp2
    go_ret
    exact ⟨by rw [HD.out]; rfl, HB.out⟩
end Go.Proofs.YtfjlmkphnciglatGreatDoor

/-
  The law FnExactDefText, walked.
-/
namespace Go.Proofs.YtfjlmkphnciglatGreatDoor
open Go.RowKit
set_option maxRecDepth 4000

set_option maxHeartbeats 4000000 in
theorem lawDefText (v : Value) (D : PDef) (w : World) (h : DView w v D) (hm : DLim D)
    (hI : ∀ (W : World) (v' : Value), Below w.heap.size w W → DView W v' D → DFine D → Calls Tryz.prog 11 #[v'] W fun e w' => e = .returned (.string (defText D)) ∧ Below W.heap.size W w') :
    Calls Tryz.prog 4 #[v] w fun e w' => e = .returned (.bool true) ∧ Below w.heap.size w w' := by
  have hv := h
  obtain ⟨ac, cc, ap, cp, ai, ci, rfl, -, -, -⟩ := h.is
  clear h
  have hB0 := box4_start w (.cells #[.string D.name, .slice ac D.nc cc, .slice ap D.np cp, .slice ai D.ni ci] 26)
  obtain ⟨hBw0, -⟩ := box4_below hB0
  have hZ := szDef_fine _ D 1048576 _ (hv.below hBw0) hm (by omega) (by omega)
  clear hm
  go_enter Tryz.func4, Tryz.ntmps4
  go_wp2_with fail
  refine hZ.mono ?_
  rintro e w1 ⟨L, rfl, hb1, hL⟩
  have hB1 := box4_on hB0 hb1
  obtain ⟨hBw1, hs1⟩ := box4_below hB1
  obtain ⟨x0, x1, x2, x3⟩ := box4 hB1
  clear hZ hb1 hB0 hBw0
  rcases hL with rfl | ⟨hL0, hL1, hf⟩
  · have HB : Hid (Below w.heap.size w w1) := hBw1
    clear hI hv hB1 hBw1
    go_wp2
    go_ret
    exact ⟨rfl, HB.out⟩
  have hLn : ¬ L < 0 := by omega
  have hT := toDef_any _ D w1 (hv.below hBw1) hf
  go_wp2_with fail
  refine hT.mono ?_
  rintro e w2 ⟨v2, rfl, hO2, hb2⟩
  have hB2 := box4_on hB1 hb2
  obtain ⟨hBw2, hs2⟩ := box4_below hB2
  have hP := specText_any v2 D w2 hO2.view hf
  obtain ⟨r, hr⟩ : ∃ r, Hid (defText D = r) := ⟨_, rfl⟩
  simp only [hr.out] at hP hI
  clear hT hb2 hB1 hBw1 hs1 hO2 x0 x1 x2 x3
  go_wp2_with fail
  refine hP.mono ?_
  rintro e w3 ⟨rfl, hb3⟩
  have hB3 := box4_on hB2 hb3
  obtain ⟨hBw3, hs3⟩ := box4_below hB3
  obtain ⟨x0, x1, x2, x3⟩ := box4 hB3
  have hT := toDef_any _ D w3 (hv.below hBw3) hf
  clear hP hb3 hB2 hBw2 hs2
  go_wp2_with fail
  refine hT.mono ?_
  rintro e w4 ⟨v4, rfl, hO4, hb4⟩
  have hB4 := box4_on hB3 hb4
  obtain ⟨hBw4, hs4⟩ := box4_below hB4
  have hD4 := hO4.view
  obtain ⟨gc, kc, gp, kp, gi, ki, rfl, -, -, -, -, -⟩ := hO4.is
  have hbA : Below w4.heap.size w4 (w4.alloc (.cells #[.string D.name, .slice (some ⟨gc, 0, none⟩) D.nc kc, .slice (some ⟨gp, 0, none⟩) D.np kp, .slice (some ⟨gi, 0, none⟩) D.ni ki] 33)) := (Below.refl _ _).alloc (Nat.le_refl _) _
  have hB5 := box4_on hB4 hbA
  obtain ⟨hBw5, hs5⟩ := box4_below hB5
  have hG := hI _ _ hBw5 (hD4.below hbA) hf
  have C5 := box4_start w4 (.cells #[.string D.name, .slice (some ⟨gc, 0, none⟩) D.nc kc, .slice (some ⟨gp, 0, none⟩) D.np kp, .slice (some ⟨gi, 0, none⟩) D.ni ki] 33)
  clear hT hb4 hB3 hBw3 hs3 hO4 x0 x1 x2 x3 hI hB4 hBw4
  go_wp2_with fail
  refine hG.mono ?_
  rintro e w6 ⟨rfl, hb6⟩
  have hB6 := box4_on hB5 hb6
  obtain ⟨hBw6, hs6⟩ := box4_below hB6
  have C6 := box4_on C5 hb6
  obtain ⟨hCw6, ht6⟩ := box4_below C6
  have hD6 := hD4.below hCw6
  obtain ⟨x0, x1, x2, x3⟩ := box4 hB6
  obtain ⟨y0, y1, y2, y3⟩ := box4 C6
  have hE : ∀ W u, Below w6.heap.size w6 W → DView W u D → Calls Tryz.prog 9 #[.agg #[.string D.name, .slice (some ⟨gc, 0, none⟩) D.nc kc, .slice (some ⟨gp, 0, none⟩) D.np kp, .slice (some ⟨gi, 0, none⟩) D.ni ki], u] W fun e w' => e = .returned (.bool true) ∧ Below W.heap.size W w' := fun W u hb hu => eqDef_same _ u D W (hD6.below hb) hu hf
  have hT : ∀ W, Below w6.heap.size w6 W → Calls Tryz.prog 7 #[.agg #[.string D.name, .slice ac D.nc cc, .slice ap D.np cp, .slice ai D.ni ci]] W fun e w' => ∃ v', e = .returned v' ∧ DOwn w' W.heap.size v' D ∧ Below W.heap.size W w' := fun W hb => toDef_any _ D W (hv.below (hBw6.trans (hb.mono (by have := hBw6.size; exact this)))) hf
  have hq := bytes_eq (a := r) rfl
  obtain ⟨X, hX⟩ : ∃ X, Hid (w4.heap.size = X) := ⟨_, rfl⟩
  rw [hX.out] at y0 y1 y2 y3 ht6 ⊢
  have HWK : Hid (∀ W, Below w6.heap.size w6 W → (W.cell? ⟨w.heap.size, 0, none⟩ = some (.string D.name) ∧ W.cell? ⟨w.heap.size, 1, none⟩ = some (.slice ac D.nc cc) ∧ W.cell? ⟨w.heap.size, 2, none⟩ = some (.slice ap D.np cp) ∧ W.cell? ⟨w.heap.size, 3, none⟩ = some (.slice ai D.ni ci)) ∧ (W.cell? ⟨X, 0, none⟩ = some (.string D.name) ∧ W.cell? ⟨X, 1, none⟩ = some (.slice (some ⟨gc, 0, none⟩) D.nc kc) ∧ W.cell? ⟨X, 2, none⟩ = some (.slice (some ⟨gp, 0, none⟩) D.np kp) ∧ W.cell? ⟨X, 3, none⟩ = some (.slice (some ⟨gi, 0, none⟩) D.ni ki))) := by
    intro W hb
    refine ⟨⟨?_, ?_, ?_, ?_⟩, ?_, ?_, ?_, ?_⟩ <;> (rw [hb.cell (by first | exact hs6 | exact ht6)]; assumption)
  have HB6 : Hid (Below w.heap.size w w6) := hBw6
  clear hG hb6 hB5 hBw5 hs5 C5 C6 hCw6 hD6 hD4 hB6 hBw6 hbA hv hf hs4
  go_wp2_with fail
  go_region_held3 (fun WW => (WW.cell? ⟨w.heap.size, 0, none⟩ = some (.string D.name) ∧ WW.cell? ⟨w.heap.size, 1, none⟩ = some (.slice ac D.nc cc) ∧ WW.cell? ⟨w.heap.size, 2, none⟩ = some (.slice ap D.np cp) ∧ WW.cell? ⟨w.heap.size, 3, none⟩ = some (.slice ai D.ni ci)) ∧ (WW.cell? ⟨X, 0, none⟩ = some (.string D.name) ∧ WW.cell? ⟨X, 1, none⟩ = some (.slice (some ⟨gc, 0, none⟩) D.nc kc) ∧ WW.cell? ⟨X, 2, none⟩ = some (.slice (some ⟨gp, 0, none⟩) D.np kp) ∧ WW.cell? ⟨X, 3, none⟩ = some (.slice (some ⟨gi, 0, none⟩) D.ni ki))) (first | assumption | go_keep) (first
    | (go_at_call 7; refine (hT _ (by repeat (first | exact Below.refl _ _ | refine Below.drew ?_))).mono ?_; rintro e w7 ⟨v7, rfl, hO7, hB7⟩; have hb7 : Below w6.heap.size w6 w7 := Below.trans (by repeat (first | exact Below.refl _ _ | refine Below.drew ?_)) hB7; have hcells : (w7.cell? ⟨w.heap.size, 0, none⟩ = some (.string D.name) ∧ w7.cell? ⟨w.heap.size, 1, none⟩ = some (.slice ac D.nc cc) ∧ w7.cell? ⟨w.heap.size, 2, none⟩ = some (.slice ap D.np cp) ∧ w7.cell? ⟨w.heap.size, 3, none⟩ = some (.slice ai D.ni ci)) ∧ (w7.cell? ⟨X, 0, none⟩ = some (.string D.name) ∧ w7.cell? ⟨X, 1, none⟩ = some (.slice (some ⟨gc, 0, none⟩) D.nc kc) ∧ w7.cell? ⟨X, 2, none⟩ = some (.slice (some ⟨gp, 0, none⟩) D.np kp) ∧ w7.cell? ⟨X, 3, none⟩ = some (.slice (some ⟨gi, 0, none⟩) D.ni ki)) := HWK.out _ hb7)
    | (go_at_call 9; refine (hE _ _ (by repeat (first | exact hb7 | refine Below.drew ?_)) (by first | exact hO7.view | exact hO7.view.below (Below.refl _ _).drew)).mono ?_; rintro e w8 ⟨rfl, hB8⟩; have hb8 : Below w6.heap.size w6 w8 := Below.trans hb7 (Below.trans (by repeat (first | exact Below.refl _ _ | refine Below.drew ?_)) (hB8.mono (by have := hb7.size; exact this))); have hcells8 : (w8.cell? ⟨w.heap.size, 0, none⟩ = some (.string D.name) ∧ w8.cell? ⟨w.heap.size, 1, none⟩ = some (.slice ac D.nc cc) ∧ w8.cell? ⟨w.heap.size, 2, none⟩ = some (.slice ap D.np cp) ∧ w8.cell? ⟨w.heap.size, 3, none⟩ = some (.slice ai D.ni ci)) ∧ (w8.cell? ⟨X, 0, none⟩ = some (.string D.name) ∧ w8.cell? ⟨X, 1, none⟩ = some (.slice (some ⟨gc, 0, none⟩) D.nc kc) ∧ w8.cell? ⟨X, 2, none⟩ = some (.slice (some ⟨gp, 0, none⟩) D.np kp) ∧ w8.cell? ⟨X, 3, none⟩ = some (.slice (some ⟨gi, 0, none⟩) D.ni ki)) := HWK.out _ hb8))
  all_goals
    have HB : Hid (Below w.heap.size w w8) := HB6.out.trans (hb8.mono (by have := HB6.out.size; exact this))
    clear hb7 hb8 hB7 hB8 hcells hcells8 hT hE HWK HB6
    go_wp2
    go_ret
    exact ⟨rfl, by first | exact HB.out | exact HB.out.drew⟩
end Go.Proofs.YtfjlmkphnciglatGreatDoor

/-
  Rows of the call's own whose elements have several cells, by a function of the index.
-/
namespace Go.Proofs.YtfjlmkphnciglatGreatDoor
open Go.RowKit
set_option maxRecDepth 4000

/-- The cells of the first k elements. -/
def rowG (enc : Nat → List Value) : Nat → List Value
  | 0 => []
  | k + 1 => rowG enc k ++ enc k
theorem rowG_len {enc : Nat → List Value} {c : Nat} (h : ∀ i, (enc i).length = c) : ∀ k, (rowG enc k).length = k * c
  | 0 => by rw [Nat.zero_mul]; rfl
  | k + 1 => by rw [rowG, List.length_append, rowG_len h k, h k, Nat.add_mul]; omega
theorem rowG_get {enc : Nat → List Value} {c : Nat} (h : ∀ i, (enc i).length = c) : ∀ k i j, i < k → j < c → (rowG enc k)[i * c + j]? = (enc i)[j]?
  | k + 1, i, j, hi, hj => by
    have hl := rowG_len h k
    by_cases e : i < k
    · have : i * c + j < k * c := by
        have : (i + 1) * c ≤ k * c := Nat.mul_le_mul_right _ e
        rw [Nat.add_mul] at this; omega
      rw [rowG, List.getElem?_append_left (by omega)]
      exact rowG_get h k i j e hj
    · obtain rfl : i = k := by omega
      rw [rowG, List.getElem?_append_right (by omega), hl]
      congr 1; omega
theorem rowG_congr {enc enc' : Nat → List Value} : ∀ {k : Nat}, (∀ i, i < k → enc i = enc' i) → rowG enc k = rowG enc' k
  | 0, _ => rfl
  | k + 1, e => by rw [rowG, rowG, rowG_congr (fun i hi => e i (by omega)), e k (by omega)]

/-- The cells of a row of the call's own. -/
theorem own_cells {w : World} {base T c N : Nat} {v : Value} {enc : Nat → List Value} (he : ∀ i, (enc i).length = c) (h : w.ownsRow base T c v N (rowG enc N)) :
    ∃ a k, v = .slice a N k ∧ N ≤ k ∧ (0 < N → ∃ g, a = some ⟨g, 0, none⟩ ∧ base ≤ g ∧ v.ownBlock = some g ∧ g < w.heap.size ∧ ∀ i j u, i < N → (enc i)[j]? = some u → w.cell? ⟨g, 0 + i * c + j, none⟩ = some u) := by
  obtain ⟨hl, h⟩ := h
  rcases h with ⟨rfl, h0⟩ | ⟨g, k, cur, rfl, hb, hg, hnc, _, hcs, ht⟩
  · have hN : N = 0 := by
      rw [rowG_len he] at hl
      have := h0
      rcases Nat.eq_zero_or_pos N with h | h
      · exact h
      · omega
    subst hN
    exact ⟨none, 0, rfl, Nat.le_refl _, fun hn => absurd hn (Nat.lt_irrefl _)⟩
  · refine ⟨_, k, rfl, hnc, fun _ => ⟨g, rfl, hb, rfl, (Array.getElem?_eq_some_iff.1 hg).1, fun i j u hi hj => ?_⟩⟩
    have hj' : j < c := by
      have := (List.getElem?_eq_some_iff.1 hj).1
      rw [he] at this; exact this
    have hlt : i * c + j < N * c := by
      have : (i + 1) * c ≤ N * c := Nat.mul_le_mul_right _ hi
      rw [Nat.add_mul] at this; omega
    have hx := rowG_get he N i j hi hj'
    rw [hj, ← ht, List.getElem?_take, if_pos hlt] at hx
    simp only [World.cell?, hg, Nat.zero_add]
    simpa using hx

def encB (f : Nat → PBy) (i : Nat) : List Value := [.int .i64 (f i).col, .bool (f i).desc]
def encC (f : Nat → PCol) (i : Nat) : List Value := [.string (f i).name, .int .i64 (f i).type, .bool (f i).null]
def encI (f : Nat → PIdx) (A C : Nat → Nat) (i : Nat) : List Value := [.string (f i).name, .bool (f i).uniq, .slice (some ⟨A i, 0, none⟩) (f i).n (C i)]
theorem bview_of_own {w : World} {base N : Nat} {v : Value} {f : Nat → PBy} (h : w.ownsRow base 45 2 v N (rowG (encB f) N)) : ∃ a k, v = .slice a N k ∧ BView w a N k f ∧ (0 < N → ∃ g, a = some ⟨g, 0, none⟩ ∧ base ≤ g ∧ v.ownBlock = some g) := by
  obtain ⟨a, k, e, hk, h1⟩ := own_cells (c := 2) (fun _ => rfl) h
  refine ⟨a, k, e, ⟨hk, fun hn => ?_⟩, fun hn => ?_⟩
  · obtain ⟨g, ea, -, -, hg, hc⟩ := h1 hn
    exact ⟨g, 0, ea, hg, fun i hi => ⟨by simpa using hc i 0 _ hi rfl, by simpa using hc i 1 _ hi rfl⟩⟩
  · obtain ⟨g, ea, hb, ho, -⟩ := h1 hn
    exact ⟨g, ea, hb, ho⟩
theorem cview_of_own {w : World} {base N : Nat} {v : Value} {f : Nat → PCol} (h : w.ownsRow base 43 3 v N (rowG (encC f) N)) : ∃ a k, v = .slice a N k ∧ CView w a N k f ∧ (0 < N → ∃ g, a = some ⟨g, 0, none⟩ ∧ base ≤ g ∧ v.ownBlock = some g) := by
  obtain ⟨a, k, e, hk, h1⟩ := own_cells (c := 3) (fun _ => rfl) h
  refine ⟨a, k, e, ⟨hk, fun hn => ?_⟩, fun hn => ?_⟩
  · obtain ⟨g, ea, -, -, hg, hc⟩ := h1 hn
    exact ⟨g, 0, ea, hg, fun i hi => ⟨by simpa using hc i 0 _ hi rfl, by simpa using hc i 1 _ hi rfl, by simpa using hc i 2 _ hi rfl⟩⟩
  · obtain ⟨g, ea, hb, ho, -⟩ := h1 hn
    exact ⟨g, ea, hb, ho⟩
theorem iview_of_own {w : World} {base N : Nat} {v : Value} {f : Nat → PIdx} {A C : Nat → Nat} (h : w.ownsRow base 62 3 v N (rowG (encI f A C) N)) (hp : ∀ i, i < N → BView w (some ⟨A i, 0, none⟩) (f i).n (C i) (f i).part) : ∃ a k, v = .slice a N k ∧ IView w a N k f ∧ (0 < N → ∃ g, a = some ⟨g, 0, none⟩ ∧ base ≤ g ∧ v.ownBlock = some g) := by
  obtain ⟨a, k, e, hk, h1⟩ := own_cells (c := 3) (fun _ => rfl) h
  refine ⟨a, k, e, ⟨hk, fun hn => ?_⟩, fun hn => ?_⟩
  · obtain ⟨g, ea, -, -, hg, hc⟩ := h1 hn
    exact ⟨g, 0, ea, hg, fun i hi => ⟨by simpa using hc i 0 _ hi rfl, by simpa using hc i 1 _ hi rfl, _, _, by simpa using hc i 2 _ hi rfl, hp i hi⟩⟩
  · obtain ⟨g, ea, hb, ho, -⟩ := h1 hn
    exact ⟨g, ea, hb, ho⟩
end Go.Proofs.YtfjlmkphnciglatGreatDoor

/-
  Rows of texts: one that reads, one of the call's own.
-/
namespace Go.Proofs.YtfjlmkphnciglatGreatDoor
open Go.RowKit
set_option maxRecDepth 4000

/-- The slice value '.slice ao n cap' reads as n texts. -/
structure SView (w : World) (ao : Option Addr) (n cap : Nat) (f : Nat → ByteArray) : Prop where
  le : n ≤ cap
  cells : 0 < n → ∃ b off, ao = some ⟨b, off, none⟩ ∧ b < w.heap.size ∧ ∀ i, i < n → w.cell? ⟨b, off + i, none⟩ = some (.string (f i))
theorem SView.below {w w' : World} {ao : Option Addr} {n cap : Nat} {f : Nat → ByteArray} (h : SView w ao n cap f) (hb : Below w.heap.size w w') : SView w' ao n cap f := by
  refine ⟨h.le, fun hn => ?_⟩
  obtain ⟨b, off, e, hlt, hc⟩ := h.cells hn
  refine ⟨b, off, e, Nat.lt_of_lt_of_le hlt hb.size, fun i hi => ?_⟩
  rw [hb.cell (p := ⟨b, off + i, none⟩) hlt]
  exact hc i hi
def encS (f : Nat → ByteArray) (i : Nat) : List Value := [.string (f i)]
theorem sview_of_own {w : World} {base N : Nat} {v : Value} {f : Nat → ByteArray} (h : w.ownsRow base 9 1 v N (rowG (encS f) N)) : ∃ a k, v = .slice a N k ∧ SView w a N k f ∧ (0 < N → ∃ g, a = some ⟨g, 0, none⟩ ∧ base ≤ g ∧ v.ownBlock = some g) := by
  obtain ⟨a, k, e, hk, h1⟩ := own_cells (c := 1) (fun _ => rfl) h
  refine ⟨a, k, e, ⟨hk, fun hn => ?_⟩, fun hn => ?_⟩
  · obtain ⟨g, ea, -, -, hg, hc⟩ := h1 hn
    exact ⟨g, 0, ea, hg, fun i hi => by simpa using hc i 0 _ hi rfl⟩
  · obtain ⟨g, ea, hb, ho, -⟩ := h1 hn
    exact ⟨g, ea, hb, ho⟩
theorem infoStr : ∃ i, Tryz.prog.info? 9 = some i ∧ i.zero = some (.string ⟨#[]⟩) ∧ i.size = 1 ∧ i.bytes = 16 := by
  have h : (Tryz.prog.info? 9).map (fun i => (i.zero, i.size, i.bytes)) = some (some (.string ⟨#[]⟩), 1, 16) := by kernel_rfl
  obtain ⟨i, hi, hz⟩ := Option.map_eq_some_iff.1 h
  simp only [Prod.mk.injEq] at hz
  exact ⟨i, hi, hz.1, hz.2.1, hz.2.2⟩
/-- A row of the call's own stays while nothing of what lay is turned. -/
theorem own_belowG {W W' : World} {base T c N : Nat} {v : Value} {xs : List Value} (h : W.ownsRow base T c v N xs) (hb : Below W.heap.size W W') : W'.ownsRow base T c v N xs := by
  refine ⟨h.1, ?_⟩
  rcases h.2 with ⟨e, h0⟩ | ⟨g, k, cur, e, hb0, hg, hr⟩
  · exact .inl ⟨e, h0⟩
  · exact .inr ⟨g, k, cur, e, hb0, (hb.block g (Array.getElem?_eq_some_iff.1 hg).1).trans hg, hr⟩
theorem own_base {W : World} {base base' T c N : Nat} {v : Value} {xs : List Value} (h : W.ownsRow base T c v N xs) (hb : base' ≤ base) : W.ownsRow base' T c v N xs := by
  refine ⟨h.1, ?_⟩
  rcases h.2 with ⟨e, h0⟩ | ⟨g, k, cur, e, hb0, hr⟩
  · exact .inl ⟨e, h0⟩
  · exact .inr ⟨g, k, cur, e, Nat.le_trans hb hb0, hr⟩
end Go.Proofs.YtfjlmkphnciglatGreatDoor

/-
  slices.Grow of no texts, for n of them: a row of the call's own with room.
-/
namespace Go.Proofs.YtfjlmkphnciglatGreatDoor
open Go.RowKit
set_option maxRecDepth 4000

set_option maxHeartbeats 2000000 in
theorem growStr_any (n : Nat) (w : World) (h0 : 0 < n) (hn : n ≤ 4194304) :
    Calls Tryz.prog 67 #[.slice none 0 0, .int .i64 n] w fun e w' => ∃ g c, e = .returned (.slice (some ⟨g, 0, none⟩) 0 c) ∧ w'.ownsRow w.heap.size 9 1 (.slice (some ⟨g, 0, none⟩) 0 c) 0 [] ∧ Below w.heap.size w w' := by
  obtain ⟨i0, hi, hz0, hz1, hz2⟩ := infoStr
  have h1 : ¬ ((n : Int) < 0) := by omega
  have h2 : wrap64 ((0 : Int) - (0 : Int)) = 0 := by unfold wrap64; omega
  have h3 : wrap64 ((n : Int) - 0) = (n : Int) := by unfold wrap64; omega
  have h4 : (n : Int) > 0 := by omega
  have hrz := fun ty => Lib.run_append_nil_zeros (P := Tryz.prog) w 99 3 ty 9 i0 (.string ⟨#[]⟩) .i64 .i64 Tryz.underlying99 Tryz.underlying3 hi hz0 n h0 (by omega) (by omega) (by rw [hz2]; omega)
  have hG1 : n ≤ grownCap w n 0 9 := grownCap_ge w _ _ _
  have hG2 : grownCap w n 0 9 ≤ maxLen := grownCap_le_maxLen w n 0 9 (by unfold maxLen; omega)
  obtain ⟨G, hG⟩ : ∃ G, G = grownCap w n 0 9 := ⟨_, rfl⟩
  rw [← hG] at hG1 hG2
  simp only [← hG] at hrz
  have hzc : (Value.string ⟨#[]⟩).cells.size = 1 := rfl
  have HS : Hid ((Builtin.zeroCells (Value.string ⟨#[]⟩).cells n ++ Builtin.zeroCells (Value.string ⟨#[]⟩).cells (G - n)).size = G) := by
    show _ = _
    simp [Builtin.zeroCells, Value.cells]
    omega
  obtain ⟨cs, hcs⟩ : ∃ cs, Hid (Builtin.zeroCells (Value.string ⟨#[]⟩).cells n ++ Builtin.zeroCells (Value.string ⟨#[]⟩).cells (G - n) = cs) := ⟨_, rfl⟩
  rw [hcs.out] at HS
  simp only [hcs.out] at hrz
  have HB : Hid (Below w.heap.size w (w.drew.alloc (.cells cs 9))) := ((Below.refl _ _).drew).alloc (by simp) _
  have HO : Hid ((w.drew.alloc (.cells cs 9)).ownsRow w.heap.size 9 1 (.slice (some ⟨w.heap.size, 0, none⟩) 0 G) 0 []) := by
    refine ⟨rfl, .inr ⟨w.heap.size, G, cs, rfl, Nat.le_refl _, ?_, Nat.zero_le _, hG2, by rw [HS.out]; omega, by simp⟩⟩
    exact heap_alloc_new w.drew (.cells cs 9)
  have hGz : (0 : Int) ≤ (G : Int) := by omega
  unfold maxLen at hG2
  clear hcs hz0 hz1 hz2 hi hG hzc
  go_enter Tryz.func67, Tryz.ntmps67
  go_wp2_with (at_builtin; refine Lib.wpList_append_run _ rfl _ _ _ _ rfl _ _ rfl rfl _ _ (hrz _) ?_)
  go_ret
  exact ⟨_, _, rfl, HO.out, HB.out⟩
end Go.Proofs.YtfjlmkphnciglatGreatDoor

/-
  The program's colNames, indexNames: the names, in a row of their own.
-/
namespace Go.Proofs.YtfjlmkphnciglatGreatDoor
open Go.RowKit
set_option maxRecDepth 4000

theorem own_succ9 {W : World} {base T c k : Nat} {v : Value} {xs : List Value} (h : W.ownsRow base T c v (k + 1) xs) : ∃ g cap, v = .slice (some ⟨g, 0, none⟩) (k + 1) cap := by
  rcases h.2 with ⟨_, h0⟩ | ⟨g, cap, cur, e, _⟩
  · omega
  · exact ⟨g, cap, e⟩
theorem own_ge9 {W : World} {base T c N : Nat} {v : Value} {xs : List Value} (h : W.ownsRow base T c v N xs) : ∀ j, v.ownBlock = some j → base ≤ j := by
  intro j hj
  rcases h.2 with ⟨rfl, _⟩ | ⟨g, cap, cur, rfl, hb, _⟩
  · simp [Value.ownBlock] at hj
  · obtain rfl : g = j := by simpa [Value.ownBlock] using hj
    exact hb

set_option maxHeartbeats 2000000 in
theorem colNames_any (v : Value) (D : PDef) (w : World) (h : DView w v D) (hf : DFine D) :
    Calls Tryz.prog 48 #[v] w fun e w' => ∃ g c, e = .returned (.slice (some ⟨g, 0, none⟩) D.nc c) ∧ w'.ownsRow w.heap.size 9 1 (.slice (some ⟨g, 0, none⟩) D.nc c) D.nc (rowG (encS (fun i => (D.col i).name)) D.nc) ∧ Below w.heap.size w w' := by
  obtain ⟨i0, hi, hz0, hz1, hz2⟩ := infoStr
  have hnc := hf.nc
  clear hf
  obtain ⟨ac, cc, ap, cp, ai, ci, rfl, hcv, hpv, hiv⟩ := h.is
  clear h
  have hbA : Below w.heap.size w (w.alloc (.cells #[.string D.name, .slice ac D.nc cc, .slice ap D.np cp, .slice ai D.ni ci] 33)) := (Below.refl _ _).alloc (Nat.le_refl _) _
  have hbE : Below w.heap.size w ((w.alloc (.cells #[.string D.name, .slice ac D.nc cc, .slice ap D.np cp, .slice ai D.ni ci] 33)).alloc (.cells #[] 9)) := hbA.alloc (by simp) _
  have hO0 : ((w.alloc (.cells #[.string D.name, .slice ac D.nc cc, .slice ap D.np cp, .slice ai D.ni ci] 33)).alloc (.cells #[] 9)).ownsRow w.heap.size 9 1 (.slice (some ⟨w.heap.size + 1, 0, none⟩) 0 0) 0 (rowG (encS (fun i => (D.col i).name)) 0) := by
    have := World.ownsRow_lit (base := w.heap.size) (e := 9) (size := 1) (w.alloc (.cells #[.string D.name, .slice ac D.nc cc, .slice ap D.np cp, .slice ai D.ni ci] 33)) #[] 0 (by simp) (Nat.zero_le _) rfl
    simpa [rowG] using this
  have HV : Hid (CView w ac D.nc cc D.col) := hcv
  go_enter Tryz.func48, Tryz.ntmps48
  go_wp2
  go_loopg [10, 3] D.nc (fun q i s wr => ∃ k : Nat, k ≤ D.nc ∧ q = D.nc - k ∧ i = .int .i64 k ∧ (∃ g c, s = .slice (some ⟨g, 0, none⟩) k c) ∧ wr.ownsRow w.heap.size 9 1 s k (rowG (encS (fun i => (D.col i).name)) k) ∧ Below w.heap.size w wr)
  case atStart => exact ⟨0, Nat.zero_le _, rfl, rfl, ⟨_, _, rfl⟩, hO0, hbE⟩
  case round =>
    clear hO0 hbE hbA hcv hpv hiv
    obtain ⟨k, hk, rfl, rfl, ⟨sa, sc, rfl⟩, hO, hB⟩ := hrel
    by_cases hlt : k < D.nc
    · have hkz : (k : Int) < (D.nc : Int) := by omega
      obtain ⟨b1, o1, rfl, hb1, hcs⟩ := (HV.out.below hB).cells (by omega)
      obtain ⟨x0, x1, x2⟩ := hcs k hlt
      have hsz := hB.size
      have HN : Hid (rowG (encS (fun i => (D.col i).name)) (k + 1) = rowG (encS (fun i => (D.col i).name)) k ++ [.string (D.col k).name]) := rfl
      have HB : Hid (Below w.heap.size w wr) := hB
      obtain ⟨s0, hs0⟩ : ∃ x, Hid ((D.col k).name = x) := ⟨_, rfl⟩
      obtain ⟨R, hR⟩ : ∃ x, Hid (rowG (encS (fun i => (D.col i).name)) k = x) := ⟨_, rfl⟩
      rw [hs0.out] at x0 HN
      rw [hR.out] at HN hO
      obtain ⟨s1, hs1⟩ : ∃ x, Hid ((D.col k).type = x) := ⟨_, rfl⟩
      obtain ⟨s2, hs2⟩ : ∃ x, Hid ((D.col k).null = x) := ⟨_, rfl⟩
      rw [hs1.out] at x1
      rw [hs2.out] at x2
      clear hcs HV hB
      have hb2 : Below wr.heap.size wr ((wr.alloc (.cells #[.string s0, .int .i64 s1, .bool s2] 43)).alloc (.cells #[.string s0] 9)) := ((Below.refl _ _).alloc (Nat.le_refl _) _).alloc (by simp) _
      have hO2 := own_belowG hO hb2
      have hcl : ∀ j u, [Value.string s0][j]? = some u → ((wr.alloc (.cells #[.string s0, .int .i64 s1, .bool s2] 43)).alloc (.cells #[.string s0] 9)).cell? ((⟨wr.heap.size + 1, 0, none⟩ : Addr).add j) = some u := by
        intro j u hj
        match j, hj with
        | 0, hj => simp at hj; subst hj; simp [Addr.add]
      have HBB : Hid (Below wr.heap.size wr ((wr.alloc (.cells #[.string s0, .int .i64 s1, .bool s2] 43)).alloc (.cells #[.string s0] 9))) := hb2
      have HOW := own_ge9 hO
      go_wp2_with (at_builtin; refine wpList_append_own _ rfl (.tmp 14) (.tmp 17) 99 rfl w.heap.size 9 i0 (.string ⟨#[]⟩) 1 16 Tryz.underlying99 hi hz0 hz1 hz2 rfl (by decide) _ _ _ rfl hO2 ⟨wr.heap.size + 1, 0, none⟩ 1 1 [.string s0] rfl rfl hcl (by intro u hu; simp at hu; subst hu; rfl) (by unfold maxLen; omega) (by omega) (by simp; omega) ?_)
      intro v5 w2 hown5 hgr hnil
      obtain ⟨g', cap', rfl⟩ := own_succ9 hown5
      have HR : Hid (w2.ownsRow w.heap.size 9 1 (.slice (some ⟨g', 0, none⟩) (k + 1) cap') (k + 1) (rowG (encS (fun i => (D.col i).name)) (k + 1)) ∧ Below w.heap.size w w2) := by
        refine ⟨?_, ?_⟩
        · rw [HN.out]; exact hown5
        · exact (HB.out.trans (HBB.out.mono hsz)).grown hgr (by simp; omega) HOW
      clear hown5 hgr hnil hO hO2 hcl HOW hb2
      go_wp2
      go_roundg (D.nc - (k + 1))
      case measure => omega
      case rel => exact ⟨k + 1, by omega, rfl, by go_num, ⟨_, _, rfl⟩, HR.out.1, HR.out.2⟩
    · have hkz : ¬ (k : Int) < (D.nc : Int) := by omega
      obtain rfl : k = D.nc := by omega
      have HR : Hid (wr.ownsRow w.heap.size 9 1 (.slice (some ⟨sa, 0, none⟩) D.nc sc) D.nc (rowG (encS (fun i => (D.col i).name)) D.nc) ∧ Below w.heap.size w wr) := ⟨hO, hB⟩
      clear hO hB
      go_wp2
      go_ret
      exact ⟨_, _, rfl, HR.out.1, HR.out.2⟩

set_option maxHeartbeats 2000000 in
theorem indexNames_any (v : Value) (D : PDef) (w : World) (h : DView w v D) (hf : DFine D) :
    Calls Tryz.prog 49 #[v] w fun e w' => ∃ g c, e = .returned (.slice (some ⟨g, 0, none⟩) D.ni c) ∧ w'.ownsRow w.heap.size 9 1 (.slice (some ⟨g, 0, none⟩) D.ni c) D.ni (rowG (encS (fun i => (D.idx i).name)) D.ni) ∧ Below w.heap.size w w' := by
  obtain ⟨i0, hi, hz0, hz1, hz2⟩ := infoStr
  have hnc := hf.ni
  clear hf
  obtain ⟨ac, cc, ap, cp, ai, ci, rfl, hcv, hpv, hiv⟩ := h.is
  clear h
  have hbA : Below w.heap.size w (w.alloc (.cells #[.string D.name, .slice ac D.nc cc, .slice ap D.np cp, .slice ai D.ni ci] 33)) := (Below.refl _ _).alloc (Nat.le_refl _) _
  have hbE : Below w.heap.size w ((w.alloc (.cells #[.string D.name, .slice ac D.nc cc, .slice ap D.np cp, .slice ai D.ni ci] 33)).alloc (.cells #[] 9)) := hbA.alloc (by simp) _
  have hO0 : ((w.alloc (.cells #[.string D.name, .slice ac D.nc cc, .slice ap D.np cp, .slice ai D.ni ci] 33)).alloc (.cells #[] 9)).ownsRow w.heap.size 9 1 (.slice (some ⟨w.heap.size + 1, 0, none⟩) 0 0) 0 (rowG (encS (fun i => (D.idx i).name)) 0) := by
    have := World.ownsRow_lit (base := w.heap.size) (e := 9) (size := 1) (w.alloc (.cells #[.string D.name, .slice ac D.nc cc, .slice ap D.np cp, .slice ai D.ni ci] 33)) #[] 0 (by simp) (Nat.zero_le _) rfl
    simpa [rowG] using this
  have HV : Hid (IView w ai D.ni ci D.idx) := hiv
  go_enter Tryz.func49, Tryz.ntmps49
  go_wp2
  go_loopg [10, 3] D.ni (fun q i s wr => ∃ k : Nat, k ≤ D.ni ∧ q = D.ni - k ∧ i = .int .i64 k ∧ (∃ g c, s = .slice (some ⟨g, 0, none⟩) k c) ∧ wr.ownsRow w.heap.size 9 1 s k (rowG (encS (fun i => (D.idx i).name)) k) ∧ Below w.heap.size w wr)
  case atStart => exact ⟨0, Nat.zero_le _, rfl, rfl, ⟨_, _, rfl⟩, hO0, hbE⟩
  case round =>
    clear hO0 hbE hbA hcv hpv hiv
    obtain ⟨k, hk, rfl, rfl, ⟨sa, sc, rfl⟩, hO, hB⟩ := hrel
    by_cases hlt : k < D.ni
    · have hkz : (k : Int) < (D.ni : Int) := by omega
      obtain ⟨b1, o1, rfl, hb1, hcs⟩ := (HV.out.below hB).cells (by omega)
      obtain ⟨x0, x1, ap3, cp3, x2, -⟩ := hcs k hlt
      have hsz := hB.size
      have HN : Hid (rowG (encS (fun i => (D.idx i).name)) (k + 1) = rowG (encS (fun i => (D.idx i).name)) k ++ [.string (D.idx k).name]) := rfl
      have HB : Hid (Below w.heap.size w wr) := hB
      obtain ⟨s0, hs0⟩ : ∃ x, Hid ((D.idx k).name = x) := ⟨_, rfl⟩
      obtain ⟨R, hR⟩ : ∃ x, Hid (rowG (encS (fun i => (D.idx i).name)) k = x) := ⟨_, rfl⟩
      rw [hs0.out] at x0 HN
      rw [hR.out] at HN hO
      obtain ⟨s1, hs1⟩ : ∃ x, Hid ((D.idx k).uniq = x) := ⟨_, rfl⟩
      obtain ⟨s2, hs2⟩ : ∃ x, Hid ((D.idx k).n = x) := ⟨_, rfl⟩
      rw [hs1.out] at x1
      rw [hs2.out] at x2
      clear hcs HV hB
      have hb2 : Below wr.heap.size wr ((wr.alloc (.cells #[.string s0, .bool s1, .slice ap3 s2 cp3] 62)).alloc (.cells #[.string s0] 9)) := ((Below.refl _ _).alloc (Nat.le_refl _) _).alloc (by simp) _
      have hO2 := own_belowG hO hb2
      have hcl : ∀ j u, [Value.string s0][j]? = some u → ((wr.alloc (.cells #[.string s0, .bool s1, .slice ap3 s2 cp3] 62)).alloc (.cells #[.string s0] 9)).cell? ((⟨wr.heap.size + 1, 0, none⟩ : Addr).add j) = some u := by
        intro j u hj
        match j, hj with
        | 0, hj => simp at hj; subst hj; simp [Addr.add]
      have HBB : Hid (Below wr.heap.size wr ((wr.alloc (.cells #[.string s0, .bool s1, .slice ap3 s2 cp3] 62)).alloc (.cells #[.string s0] 9))) := hb2
      have HOW := own_ge9 hO
      go_wp2_with (at_builtin; refine wpList_append_own _ rfl (.tmp 14) (.tmp 17) 99 rfl w.heap.size 9 i0 (.string ⟨#[]⟩) 1 16 Tryz.underlying99 hi hz0 hz1 hz2 rfl (by decide) _ _ _ rfl hO2 ⟨wr.heap.size + 1, 0, none⟩ 1 1 [.string s0] rfl rfl hcl (by intro u hu; simp at hu; subst hu; rfl) (by unfold maxLen; omega) (by omega) (by simp; omega) ?_)
      intro v5 w2 hown5 hgr hnil
      obtain ⟨g', cap', rfl⟩ := own_succ9 hown5
      have HR : Hid (w2.ownsRow w.heap.size 9 1 (.slice (some ⟨g', 0, none⟩) (k + 1) cap') (k + 1) (rowG (encS (fun i => (D.idx i).name)) (k + 1)) ∧ Below w.heap.size w w2) := by
        refine ⟨?_, ?_⟩
        · rw [HN.out]; exact hown5
        · exact (HB.out.trans (HBB.out.mono hsz)).grown hgr (by simp; omega) HOW
      clear hown5 hgr hnil hO hO2 hcl HOW hb2
      go_wp2
      go_roundg (D.ni - (k + 1))
      case measure => omega
      case rel => exact ⟨k + 1, by omega, rfl, by go_num, ⟨_, _, rfl⟩, HR.out.1, HR.out.2⟩
    · have hkz : ¬ (k : Int) < (D.ni : Int) := by omega
      obtain rfl : k = D.ni := by omega
      have HR : Hid (wr.ownsRow w.heap.size 9 1 (.slice (some ⟨sa, 0, none⟩) D.ni sc) D.ni (rowG (encS (fun i => (D.idx i).name)) D.ni) ∧ Below w.heap.size w wr) := ⟨hO, hB⟩
      clear hO hB
      go_wp2
      go_ret
      exact ⟨_, _, rfl, HR.out.1, HR.out.2⟩
end Go.Proofs.YtfjlmkphnciglatGreatDoor

/-
  slices.Concat of three rows of texts: a row of the call's own, one behind the other.
-/
namespace Go.Proofs.YtfjlmkphnciglatGreatDoor
open Go.RowKit
set_option maxRecDepth 4000

theorem rowS_len (f : Nat → ByteArray) (n : Nat) : (rowG (encS f) n).length = n := by
  rw [rowG_len (c := 1) (fun _ => rfl)]; omega
theorem rowS_get {f : Nat → ByteArray} {n j : Nat} {u : Value} (h : (rowG (encS f) n)[j]? = some u) : j < n ∧ u = .string (f j) := by
  have hj : j < n := by
    have := (List.getElem?_eq_some_iff.1 h).1
    rwa [rowS_len] at this
  have h1 := rowG_get (enc := encS f) (c := 1) (fun _ => rfl) n j 0 hj (by decide)
  rw [Nat.mul_one, Nat.add_zero, h] at h1
  exact ⟨hj, (Option.some.inj h1)⟩
theorem rowS_one {f : Nat → ByteArray} {n : Nat} : ∀ u ∈ rowG (encS f) n, u.oneCell' = true := by
  intro u hu
  obtain ⟨j, hj⟩ := List.mem_iff_getElem?.1 hu
  obtain ⟨_, rfl⟩ := rowS_get hj
  rfl
/-- What is appended, where it lies. -/
theorem sview_cells {W : World} {g n c : Nat} {f : Nat → ByteArray} (h : SView W (some ⟨g, 0, none⟩) n c f) : ∀ j u, (rowG (encS f) n)[j]? = some u → W.cell? ((⟨g, 0, none⟩ : Addr).add j) = some u := by
  intro j u hj
  obtain ⟨hlt, rfl⟩ := rowS_get hj
  obtain ⟨b, off, e, _, hc⟩ := h.cells (by omega)
  cases e
  have := hc j hlt
  have e : (⟨g, 0, none⟩ : Addr).add j = ⟨g, 0 + j, none⟩ := by unfold Addr.add; split <;> simp_all
  rw [e]; exact this
theorem sview_of_row {W : World} {base g n c : Nat} {f : Nat → ByteArray} (h : W.ownsRow base 9 1 (.slice (some ⟨g, 0, none⟩) n c) n (rowG (encS f) n)) : SView W (some ⟨g, 0, none⟩) n c f := by
  obtain ⟨a, k, e, hv, _⟩ := sview_of_own h
  cases e
  exact hv

/-- Two rows, one behind the other. -/
def catF (f0 : Nat → ByteArray) (n0 : Nat) (f1 : Nat → ByteArray) (i : Nat) : ByteArray := if i < n0 then f0 i else f1 (i - n0)
theorem rowS_cat (f0 : Nat → ByteArray) (n0 : Nat) (f1 : Nat → ByteArray) : ∀ n1, rowG (encS f0) n0 ++ rowG (encS f1) n1 = rowG (encS (catF f0 n0 f1)) (n0 + n1)
  | 0 => by
    rw [rowG, List.append_nil]
    exact rowG_congr (fun i hi => by simp [encS, catF, hi])
  | n1 + 1 => by
    rw [rowG, ← List.append_assoc, rowS_cat f0 n0 f1 n1]
    show _ = rowG (encS (catF f0 n0 f1)) (n0 + n1) ++ encS (catF f0 n0 f1) (n0 + n1)
    simp [encS, catF, show ¬ n0 + n1 < n0 by omega]
/-- A row that was put behind a row of the call's own. -/
theorem grown9 {w W W' : World} {T c n m g k : Nat} {v : Value} {xs ys : List Value} (hb : Below w.heap.size w W) (hO : W.ownsRow w.heap.size T c (.slice (some ⟨g, 0, none⟩) n k) n xs) (hO2 : W'.ownsRow w.heap.size T c v m ys) (hgr : W.grownBy W' (Value.slice (some ⟨g, 0, none⟩) n k).ownBlock)
    (hnil : ¬ v = .slice none 0 0) : (∃ g' k', v = .slice (some ⟨g', 0, none⟩) m k') ∧ Below w.heap.size w W' := by
  refine ⟨?_, hb.grown hgr hb.size (own_ge9 hO)⟩
  rcases hO2.2 with ⟨e, _⟩ | ⟨g', k', _, e, _⟩
  · exact absurd e hnil
  · exact ⟨g', k', e⟩

set_option maxHeartbeats 4000000 in
theorem concat3_any (B g0 n0 c0 g1 n1 c1 g2 n2 c2 : Nat) (f0 f1 f2 : Nat → ByteArray) (w : World)
    (x0 : w.cell? ⟨B, 0, none⟩ = some (.slice (some ⟨g0, 0, none⟩) n0 c0)) (x1 : w.cell? ⟨B, 1, none⟩ = some (.slice (some ⟨g1, 0, none⟩) n1 c1)) (x2 : w.cell? ⟨B, 2, none⟩ = some (.slice (some ⟨g2, 0, none⟩) n2 c2)) (hB : B < w.heap.size)
    (v0 : SView w (some ⟨g0, 0, none⟩) n0 c0 f0) (v1 : SView w (some ⟨g1, 0, none⟩) n1 c1 f1) (v2 : SView w (some ⟨g2, 0, none⟩) n2 c2 f2) (h0 : 0 < n0) (l0 : n0 ≤ 1048576) (l1 : n1 ≤ 1048576) (l2 : n2 ≤ 1048576) :
    Calls Tryz.prog 47 #[.slice (some ⟨B, 0, none⟩) 3 3] w fun e w' => ∃ g c, e = .returned (.slice (some ⟨g, 0, none⟩) (n0 + n1 + n2) c) ∧ w'.ownsRow w.heap.size 9 1 (.slice (some ⟨g, 0, none⟩) (n0 + n1 + n2) c) (n0 + n1 + n2) (rowG (encS f0) n0 ++ rowG (encS f1) n1 ++ rowG (encS f2) n2) ∧ Below w.heap.size w w' := by
  obtain ⟨i0, hi, hz0, hz1, hz2⟩ := infoStr
  have hG := growStr_any (n0 + n1 + n2) w (by omega) (by omega)
  have e1 : ((n0 + n1 + n2 : Nat) : Int) = (n0 : Int) + n1 + n2 := by omega
  rw [e1] at hG
  have k1 : ¬ ((0 : Int) + n0 < 0) := by omega
  have k2 : ¬ ((n0 : Int) + n1 < 0) := by omega
  have k3 : ¬ ((n0 : Int) + n1 + n2 < 0) := by omega
  go_enter Tryz.func47, Tryz.ntmps47
  go_wp2
  refine wp_loop_rounds 4 ?_
  rw [rounds_succ]
  go_wp2
  rw [rounds_succ]
  go_wp2
  rw [rounds_succ]
  go_wp2
  rw [rounds_succ]
  go_wp2_with fail
  refine hG.mono ?_
  rintro e w1 ⟨g, c, rfl, hO1, hb1⟩
  have s1 := hb1.size
  rw [← hb1.cell (p := ⟨B, 0, none⟩) hB] at x0
  rw [← hb1.cell (p := ⟨B, 1, none⟩) hB] at x1
  rw [← hb1.cell (p := ⟨B, 2, none⟩) hB] at x2
  have HX : Hid (w1.cell? ⟨B, 1, none⟩ = some (.slice (some ⟨g1, 0, none⟩) n1 c1) ∧ w1.cell? ⟨B, 2, none⟩ = some (.slice (some ⟨g2, 0, none⟩) n2 c2)) := ⟨x1, x2⟩
  have hV0 := sview_cells (v0.below hb1)
  clear hG k1 k2 k3 x1 x2
  go_wp2
  refine wp_loop_rounds 4 ?_
  rw [rounds_succ]
  go_wp2_with (at_builtin; refine wpList_append_own _ rfl (.tmp 31) (.tmp 32) 99 rfl w.heap.size 9 i0 (.string ⟨#[]⟩) 1 16 Tryz.underlying99 hi hz0 hz1 hz2 rfl (by decide) _ _ _ rfl hO1 ⟨g0, 0, none⟩ n0 c0 (rowG (encS f0) n0) rfl (by rw [rowS_len]; omega) hV0 rowS_one (by unfold maxLen; omega) (by omega) (by omega) ?_)
  intro u2 w2 hO2 hgr2 hnil2
  obtain ⟨⟨g2', k2', rfl⟩, hb2⟩ := grown9 hb1 hO1 hO2 hgr2 hnil2
  have s2 := hb2.size
  have x1 : w2.cell? ⟨B, 1, none⟩ = some (.slice (some ⟨g1, 0, none⟩) n1 c1) := by rw [hb2.cell (p := ⟨B, 1, none⟩) hB, ← hb1.cell (p := ⟨B, 1, none⟩) hB]; exact HX.out.1
  have hV1 := sview_cells (v1.below hb2)
  have HX2 : Hid (w.cell? ⟨B, 2, none⟩ = some (.slice (some ⟨g2, 0, none⟩) n2 c2)) := by
    have := HX.out.2
    rw [hb1.cell (p := ⟨B, 2, none⟩) hB] at this
    exact this
  clear hV0 hO1 hgr2 hnil2 x0 HX hb1 s1 v0 v1
  go_wp2
  rw [rounds_succ]
  go_wp2_with (at_builtin; refine wpList_append_own _ rfl (.tmp 31) (.tmp 32) 99 rfl w.heap.size 9 i0 (.string ⟨#[]⟩) 1 16 Tryz.underlying99 hi hz0 hz1 hz2 rfl (by decide) _ _ _ rfl hO2 ⟨g1, 0, none⟩ n1 c1 (rowG (encS f1) n1) rfl (by rw [rowS_len]; omega) hV1 rowS_one (by unfold maxLen; omega) (by omega) (by omega) ?_)
  intro u3 w3 hO3 hgr3 hnil3
  obtain ⟨⟨g3', k3', rfl⟩, hb3⟩ := grown9 hb2 hO2 hO3 hgr3 hnil3
  have s3 := hb3.size
  have x2 : w3.cell? ⟨B, 2, none⟩ = some (.slice (some ⟨g2, 0, none⟩) n2 c2) := by rw [hb3.cell (p := ⟨B, 2, none⟩) hB]; exact HX2.out
  have hV2 := sview_cells (v2.below hb3)
  clear hV1 hO2 hgr3 hnil3 x1 HX2 hb2 s2 v2
  go_wp2
  rw [rounds_succ]
  go_wp2_with (at_builtin; refine wpList_append_own _ rfl (.tmp 31) (.tmp 32) 99 rfl w.heap.size 9 i0 (.string ⟨#[]⟩) 1 16 Tryz.underlying99 hi hz0 hz1 hz2 rfl (by decide) _ _ _ rfl hO3 ⟨g2, 0, none⟩ n2 c2 (rowG (encS f2) n2) rfl (by rw [rowS_len]; omega) hV2 rowS_one (by unfold maxLen; omega) (by omega) (by omega) ?_)
  intro u4 w4 hO4 hgr4 hnil4
  obtain ⟨⟨g4', k4', rfl⟩, hb4⟩ := grown9 hb3 hO3 hO4 hgr4 hnil4
  have HR : Hid (w4.ownsRow w.heap.size 9 1 (.slice (some ⟨g4', 0, none⟩) (n0 + n1 + n2) k4') (n0 + n1 + n2) (rowG (encS f0) n0 ++ rowG (encS f1) n1 ++ rowG (encS f2) n2) ∧ Below w.heap.size w w4) := ⟨by rw [List.append_assoc]; exact hO4, hb4⟩
  clear hV2 hO3 hO4 hgr4 hnil4 x2 hb3 hb4 s3
  go_wp2
  rw [rounds_succ]
  go_wp2
  go_ret
  exact ⟨_, _, rfl, HR.out.1, HR.out.2⟩
end Go.Proofs.YtfjlmkphnciglatGreatDoor

