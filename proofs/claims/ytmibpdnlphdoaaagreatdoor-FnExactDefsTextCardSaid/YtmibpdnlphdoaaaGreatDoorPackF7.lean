/-
  Together: EqDefs, TokName, WordSpec, NamesSpec, TypesSpec
-/
import Derived.Test.YtmibpdnlphdoaaaGreatDoorPackF6
import Derived.Test.YtmibpdnlphdoaaaGreatDoorPackF3
import Derived.Test.YtmibpdnlphdoaaaGreatDoorPackF1
import Derived.Test.YtmibpdnlphdoaaaGreatDoorProg
import Derived.WalkMore
import Derived.Deep.LoopGhost
import Derived.Test.YtmibpdnlphdoaaaGreatDoorPackF2
import Derived.Deep.Strs
/-
  Rows of tables that read alike are alike, as the law holds them against each other.
-/
namespace Go.Proofs.YtmibpdnlphdoaaaGreatDoor
open Go.RowKit
set_option maxRecDepth 4000

set_option maxHeartbeats 2000000 in
theorem eqDefS_same (a1 a2 : Option Addr) (n c1 c2 : Nat) (f : Nat → PDef) (w : World) (h1 : LView w a1 n c1 f) (h2 : LView w a2 n c2 f) (hf : LFine n f) :
    Calls Tryz.prog 19 #[.slice a1 n c1, .slice a2 n c2] w fun e w' => e = .returned (.bool true) ∧ Below w.heap.size w w' := by
  have hn := hf.few
  go_enter Tryz.func19, Tryz.ntmps19
  go_wp2
  go_loopg [5] n (fun q i wr => ∃ k : Nat, k ≤ n ∧ q = n - k ∧ i = .int .i64 k ∧ Below w.heap.size w wr)
  case atStart => exact ⟨0, Nat.zero_le _, rfl, rfl, Below.refl _ _⟩
  case round =>
    obtain ⟨k, hk, rfl, rfl, hB⟩ := hrel
    by_cases hlt : k < n
    · obtain ⟨b1, o1, rfl, hb1, hc1⟩ := (h1.below hB).cells (by omega)
      obtain ⟨b2, o2, rfl, hb2, hc2⟩ := (h2.below hB).cells (by omega)
      obtain ⟨y1, y2, y3, x0, x1, x2, x3, hv1⟩ := hc1 k hlt
      obtain ⟨z1, z2, z3, u0, u1, u2, u3, hv2⟩ := hc2 k hlt
      have hV := fun W (hb : Below wr.heap.size wr W) => eqDef_same _ _ (f k) W (hv1.below hb) (hv2.below hb) (hf.at_ k hlt)
      obtain ⟨p0, hp0⟩ : ∃ x, Hid ((f k).name = x) := ⟨_, rfl⟩
      simp only [hp0.out] at hV
      rw [hp0.out] at x0 u0
      have hkz : (k : Int) < (n : Int) := by omega
      have HWK : Hid (∀ W, Below wr.heap.size wr W → (W.cell? ⟨b1, o1 + k * 4, none⟩ = some (.string p0) ∧ W.cell? ⟨b1, o1 + k * 4 + 1, none⟩ = some y1 ∧ W.cell? ⟨b1, o1 + k * 4 + 2, none⟩ = some y2 ∧ W.cell? ⟨b1, o1 + k * 4 + 3, none⟩ = some y3) ∧ (W.cell? ⟨b2, o2 + k * 4, none⟩ = some (.string p0) ∧ W.cell? ⟨b2, o2 + k * 4 + 1, none⟩ = some z1 ∧ W.cell? ⟨b2, o2 + k * 4 + 2, none⟩ = some z2 ∧ W.cell? ⟨b2, o2 + k * 4 + 3, none⟩ = some z3)) := by
        intro W hb
        refine ⟨⟨?_, ?_, ?_, ?_⟩, ⟨?_, ?_, ?_, ?_⟩⟩ <;> (rw [hb.cell (by first | exact hb1 | exact hb2)]; assumption)
      clear hc1 hc2 h1 h2 hf hv1 hv2
      go_wp2_with fail
      go_region_held3 (fun W => (W.cell? ⟨b1, o1 + k * 4, none⟩ = some (.string p0) ∧ W.cell? ⟨b1, o1 + k * 4 + 1, none⟩ = some y1 ∧ W.cell? ⟨b1, o1 + k * 4 + 2, none⟩ = some y2 ∧ W.cell? ⟨b1, o1 + k * 4 + 3, none⟩ = some y3) ∧ (W.cell? ⟨b2, o2 + k * 4, none⟩ = some (.string p0) ∧ W.cell? ⟨b2, o2 + k * 4 + 1, none⟩ = some z1 ∧ W.cell? ⟨b2, o2 + k * 4 + 2, none⟩ = some z2 ∧ W.cell? ⟨b2, o2 + k * 4 + 3, none⟩ = some z3)) (first | assumption | go_keep) (first | (go_at_call 49; refine (hV _ (by repeat (first | exact Below.refl _ _ | refine Below.drew ?_))).mono ?_; rintro e w2 ⟨rfl, hB2⟩; have hcells : (w2.cell? ⟨b1, o1 + k * 4, none⟩ = some (.string p0) ∧ w2.cell? ⟨b1, o1 + k * 4 + 1, none⟩ = some y1 ∧ w2.cell? ⟨b1, o1 + k * 4 + 2, none⟩ = some y2 ∧ w2.cell? ⟨b1, o1 + k * 4 + 3, none⟩ = some y3) ∧ (w2.cell? ⟨b2, o2 + k * 4, none⟩ = some (.string p0) ∧ w2.cell? ⟨b2, o2 + k * 4 + 1, none⟩ = some z1 ∧ w2.cell? ⟨b2, o2 + k * 4 + 2, none⟩ = some z2 ∧ w2.cell? ⟨b2, o2 + k * 4 + 3, none⟩ = some z3) := HWK.out _ (Below.trans (by repeat (first | exact Below.refl _ _ | refine Below.drew ?_)) hB2)))
      all_goals
        have hB3 : Hid (Below w.heap.size w w2) := hB.trans (Below.trans (by repeat (first | exact Below.refl _ _ | refine Below.drew ?_)) (hB2.mono (by have := hB.size; exact this)))
        clear hcells HWK hV
        go_wp2
        go_roundg (n - (k + 1))
        case measure => omega
        case rel => exact ⟨k + 1, by omega, rfl, by go_num, by first | exact hB3.out | exact hB3.out.drew⟩
    · clear h1 h2 hf
      go_wp2
      go_ret
      exact ⟨rfl, hB⟩
end Go.Proofs.YtmibpdnlphdoaaaGreatDoor

/-
  The model's l8Name: whether a text is a name.
-/
namespace Go.Proofs.YtmibpdnlphdoaaaGreatDoor
open Go.RowKit
set_option maxRecDepth 4000

theorem l1In_tok (x l m : Int) (w : World) :
    Calls Tryz.prog 116 #[.int .i64 x, .int .i64 l, .int .i64 m] w fun e w' => e = .returned (.bool (decide (l ≤ x) && decide (x ≤ m))) ∧ w = w' := by
  go_enter Tryz.func116, Tryz.ntmps116
  by_cases h : l ≤ x
  · have e1 : decide (l ≤ x) = true := by simpa using h
    go_wp2
    go_ret
    exact ⟨by simp [h], rfl⟩
  · have e1 : decide (l ≤ x) = false := by simpa using h
    go_wp2
    go_ret
    exact ⟨by simp, rfl⟩

theorem l8Small_any (c : Int) (w : World) (h0 : 0 ≤ c) (h1 : c ≤ 255) :
    Calls Tryz.prog 77 #[.int .u8 c] w fun e w' => e = .returned (.bool (small c)) ∧ w = w' := by
  have e : small c = (decide (97 ≤ c) && decide (c ≤ 122)) := by unfold small; simp
  rw [e]
  go_enter Tryz.func77, Tryz.ntmps77
  go_wp2_with fail
  refine (l1In_tok c 97 122 w).mono ?_
  rintro e w2 ⟨rfl, rfl⟩
  go_wp2
  go_ret
  exact ⟨rfl, rfl⟩
theorem l2Digit_tok (c : Int) (w : World) (h0 : 0 ≤ c) (h1 : c ≤ 255) :
    Calls Tryz.prog 78 #[.int .u8 c] w fun e w' => e = .returned (.bool (digit c)) ∧ w = w' := by
  have e : digit c = (decide (48 ≤ c) && decide (c ≤ 57)) := by unfold digit; simp
  rw [e]
  go_enter Tryz.func78, Tryz.ntmps78
  go_wp2_with fail
  refine (l1In_tok c 48 57 w).mono ?_
  rintro e w2 ⟨rfl, rfl⟩
  go_wp2
  go_ret
  exact ⟨rfl, rfl⟩

set_option maxHeartbeats 1000000 in
theorem l8Name_any (s : ByteArray) (w : World) (hs : s.size ≤ 281474976710656) :
    Calls Tryz.prog 125 #[.string s] w fun e w' => e = .returned (.bool (nameOk s)) ∧ w = w' := by
  go_enter Tryz.func125, Tryz.ntmps125
  go_wp2
  go_loopg [3] s.size (fun q i wr => ∃ k : Nat, k ≤ s.size ∧ q = s.size - k ∧ i = .int .i64 k ∧ wr = w ∧ (0 < k → small (bt s 0) = true) ∧ ∀ j, j < k → inName (bt s j) = true)
  case atStart => exact ⟨0, Nat.zero_le _, rfl, rfl, rfl, fun h => absurd h (Nat.lt_irrefl _), fun j hj => absurd hj (Nat.not_lt_zero _)⟩
  case round =>
    obtain ⟨k, hk, rfl, rfl, rfl, hs0, hall⟩ := hrel
    have HA : Hid ((0 < k → small (bt s 0) = true) ∧ ∀ j, j < k → inName (bt s j) = true) := ⟨hs0, hall⟩
    clear hs0 hall
    by_cases hlt : k < s.size
    · have hkz : (k : Int) < (s.size : Int) := by omega
      have hc := bt_at hlt
      have hbd := bt_bd s k
      obtain ⟨c, hcc⟩ : ∃ c, Hid (bt s k = c) := ⟨_, rfl⟩
      rw [hcc.out] at hc hbd
      have hS := l8Small_any c wr hbd.1 hbd.2
      have hD := l2Digit_tok c wr hbd.1 hbd.2
      go_wp2_with (rw [hc])
      refine hS.mono ?_
      cases hsm : small c with
      | true =>
        rintro e _ ⟨rfl, rfl⟩
        have HN : Hid ((0 < k + 1 → small (bt s 0) = true) ∧ ∀ j, j < k + 1 → inName (bt s j) = true) := by
          refine ⟨fun _ => ?_, fun j hj => ?_⟩
          · by_cases h0 : k = 0
            · subst h0; rw [hcc.out]; exact hsm
            · exact HA.out.1 (by omega)
          · by_cases e : j < k
            · exact HA.out.2 j e
            · obtain rfl : j = k := by omega
              rw [hcc.out]; unfold inName; rw [hsm]; rfl
        clear hS hD
        go_wp2
        go_roundg (s.size - (k + 1))
        case measure => omega
        case rel => exact ⟨k + 1, by omega, rfl, by go_num, rfl, HN.out.1, HN.out.2⟩
      | false =>
        rintro e _ ⟨rfl, rfl⟩
        by_cases h0 : k = 0
        · subst h0
          have HF : Hid (nameOk s = false) := by
            show _ = _
            unfold nameOk
            apply decide_eq_false
            rintro ⟨-, -, h, -⟩
            rw [hcc.out, hsm] at h; cases h
          clear hS hD
          go_wp2
          go_ret
          exact ⟨by rw [HF.out]; rfl, rfl⟩
        · have h0z : ((k : Int) == 0) = false := by simpa using h0
          clear hS
          go_wp2_with (rw [hc])
          refine hD.mono ?_
          cases hdg : digit c with
          | true =>
            rintro e _ ⟨rfl, rfl⟩
            have HN : Hid ((0 < k + 1 → small (bt s 0) = true) ∧ ∀ j, j < k + 1 → inName (bt s j) = true) := by
              refine ⟨fun _ => HA.out.1 (by omega), fun j hj => ?_⟩
              by_cases e : j < k
              · exact HA.out.2 j e
              · obtain rfl : j = k := by omega
                rw [hcc.out]; unfold inName; rw [hdg]; simp
            clear hD
            go_wp2
            go_roundg (s.size - (k + 1))
            case measure => omega
            case rel => exact ⟨k + 1, by omega, rfl, by go_num, rfl, HN.out.1, HN.out.2⟩
          | false =>
            rintro e _ ⟨rfl, rfl⟩
            have HF : Hid (nameOk s = false) := by
              show _ = _
              unfold nameOk
              apply decide_eq_false
              rintro ⟨-, -, -, h⟩
              have := h k hlt
              rw [hcc.out] at this
              unfold inName at this
              rw [hsm, hdg] at this; cases this
            clear hD
            go_wp2
            go_ret
            exact ⟨by rw [HF.out]; rfl, rfl⟩
    · have hkz : ¬ (k : Int) < (s.size : Int) := by omega
      obtain rfl : k = s.size := by omega
      have HF : Hid (nameOk s = (decide ((1 : Int) ≤ (s.size : Int)) && decide ((s.size : Int) ≤ 8))) := by
        show _ = _
        unfold nameOk
        by_cases h1 : 1 ≤ s.size
        · by_cases h2 : s.size ≤ 8
          · rw [decide_eq_true ⟨h1, h2, HA.out.1 (by omega), HA.out.2⟩]
            simp; omega
          · rw [decide_eq_false (fun h => h2 h.2.1)]
            simp; omega
        · rw [decide_eq_false (fun h => h1 h.1)]
          simp; omega
      go_wp2_with fail
      refine (l1In_tok _ 1 8 wr).mono ?_
      rintro e _ ⟨rfl, rfl⟩
      go_wp2
      go_ret
      exact ⟨by rw [HF.out]; rfl, rfl⟩

end Go.Proofs.YtmibpdnlphdoaaaGreatDoor

/-
  The model's l9Has, l9Word: whether a text may be a name in a table.
-/
namespace Go.Proofs.YtmibpdnlphdoaaaGreatDoor
open Go.RowKit
set_option maxRecDepth 4000

/-- The words that are no names, as texts. -/
def kwT : List ByteArray := kwords.map (fun l => ⟨l.toArray⟩)
theorem isKw_iff (s : ByteArray) : isKw s = true ↔ ∃ i, i < 10 ∧ kwT.getD i ⟨#[]⟩ = s := by
  have key : ∀ l : List UInt8, s.toList = l ↔ (⟨l.toArray⟩ : ByteArray) = s := by
    intro l
    rw [ByteArray.toList_eq]
    constructor
    · rintro rfl; rfl
    · rintro rfl; rfl
  unfold isKw
  rw [List.contains_iff_mem]
  constructor
  · intro h
    obtain ⟨i, hi, e⟩ := List.mem_iff_getElem.1 h
    refine ⟨i, hi, ?_⟩
    have : kwT.getD i ⟨#[]⟩ = ⟨(kwords[i]'hi).toArray⟩ := by simp [kwT, List.getD, hi]
    rw [this, ← key, e]
  · rintro ⟨i, hi, e⟩
    have hi' : i < kwords.length := hi
    have : kwT.getD i ⟨#[]⟩ = ⟨(kwords[i]'hi').toArray⟩ := by simp [kwT, List.getD, hi']
    rw [this, ← key] at e
    rw [e]
    exact List.getElem_mem _

set_option maxHeartbeats 1000000 in
theorem l9Has_kw (b : Nat) (s : ByteArray) (w : World) (hz : ∀ i, i < 10 → w.cell? ⟨b, i, none⟩ = some (.string (kwT.getD i ⟨#[]⟩))) :
    Calls Tryz.prog 148 #[.slice (some ⟨b, 0, none⟩) 10 10, .string s] w fun e w' => e = .returned (.bool (isKw s)) ∧ w = w' := by
  go_enter Tryz.func148, Tryz.ntmps148
  go_wp2
  go_loopg [5] 10 (fun q i wr => ∃ k : Nat, k ≤ 10 ∧ q = 10 - k ∧ i = .int .i64 k ∧ wr = w ∧ ∀ j, j < k → kwT.getD j ⟨#[]⟩ ≠ s)
  case atStart => exact ⟨0, Nat.zero_le _, rfl, rfl, rfl, fun j hj => absurd hj (Nat.not_lt_zero _)⟩
  case round =>
    obtain ⟨k, hk, rfl, rfl, rfl, hall⟩ := hrel
    have HA : Hid (∀ j, j < k → kwT.getD j ⟨#[]⟩ ≠ s) := hall
    clear hall
    by_cases hlt : k < 10
    · have hkz : (k : Int) < 10 := by omega
      have hc := hz k hlt
      obtain ⟨z, hzz⟩ : ∃ z, Hid (kwT.getD k ⟨#[]⟩ = z) := ⟨_, rfl⟩
      rw [hzz.out] at hc
      clear hz
      by_cases he : z = s
      · have HF : Hid (isKw s = true) := (isKw_iff s).2 ⟨k, hlt, hzz.out.trans he⟩
        subst he
        go_wp2
        go_ret
        exact ⟨by rw [HF.out]; rfl, rfl⟩
      · have HN : Hid (∀ j, j < k + 1 → kwT.getD j ⟨#[]⟩ ≠ s) := by
          intro j hj
          by_cases e : j < k
          · exact HA.out j e
          · obtain rfl : j = k := by omega
            rw [hzz.out]; exact he
        have hne : (z.toList == s.toList) = false := by
          cases h : (z.toList == s.toList) with
          | false => rfl
          | true =>
            have h2 := eq_of_beq h
            rw [ByteArray.toList_eq, ByteArray.toList_eq] at h2
            exact absurd (by obtain ⟨⟨x⟩⟩ := z; obtain ⟨⟨y⟩⟩ := s; simp only at h2; rw [h2]) he
        clear he
        go_wp2
        go_roundg (10 - (k + 1))
        case measure => omega
        case rel => exact ⟨k + 1, by omega, rfl, by go_num, rfl, HN.out⟩
    · have hkz : ¬ (k : Int) < 10 := by omega
      obtain rfl : k = 10 := by omega
      have HF : Hid (isKw s = false) := by
        show _ = _
        cases h : isKw s with
        | false => rfl
        | true =>
          obtain ⟨i, hi, e⟩ := (isKw_iff s).1 h
          exact absurd e (HA.out i hi)
      clear hz
      go_wp2
      go_ret
      exact ⟨by rw [HF.out]; rfl, rfl⟩

set_option maxHeartbeats 1000000 in
theorem l9Word_any (s : ByteArray) (w : World) (hs : s.size ≤ 281474976710656) :
    Calls Tryz.prog 115 #[.string s] w fun e w' => e = .returned (.bool (wordOk s)) ∧ Below w.heap.size w w' := by
  have hN := l8Name_any s w hs
  have HW : Hid (wordOk s = (nameOk s && !isKw s)) := rfl
  have hz : ∀ i, i < 10 → (w.alloc (.cells (kwT.map Value.string).toArray 9)).cell? ⟨w.heap.size, i, none⟩ = some (.string (kwT.getD i ⟨#[]⟩)) := by
    intro i hi
    rw [World.cell?, show (w.alloc (.cells (kwT.map Value.string).toArray 9)).heap[w.heap.size]? = some (.cells (kwT.map Value.string).toArray 9) from Deep.blk_alloc_new _ _]
    have : i < kwT.length := hi
    simp [this]
  have hH := l9Has_kw w.heap.size s _ hz
  cases hn : nameOk s with
  | true =>
    rw [hn] at hN
    go_enter Tryz.func115, Tryz.ntmps115
    go_wp2_with fail
    refine hN.mono ?_
    rintro e _ ⟨rfl, rfl⟩
    clear hN hz
    go_wp2_with fail
    refine hH.mono ?_
    rintro e _ ⟨rfl, rfl⟩
    go_wp2
    go_ret
    exact ⟨by rw [HW.out, hn]; rfl, (Below.refl _ _).alloc (Nat.le_refl _) _⟩
  | false =>
    rw [hn] at hN
    go_enter Tryz.func115, Tryz.ntmps115
    go_wp2_with fail
    refine hN.mono ?_
    rintro e _ ⟨rfl, rfl⟩
    clear hN hz hH
    go_wp2
    go_ret
    exact ⟨by rw [HW.out, hn]; rfl, Below.refl _ _⟩
end Go.Proofs.YtmibpdnlphdoaaaGreatDoor

/-
  The model's l9Names and l9Types come to the plain ones.
-/
namespace Go.Proofs.YtmibpdnlphdoaaaGreatDoor
open Go.RowKit
set_option maxRecDepth 4000

set_option maxHeartbeats 1000000 in
theorem l9Names_any (v : Value) (D : PDef) (w : World) (h : DView w v D) (hf : DFine D) :
    Calls Tryz.prog 68 #[v] w fun e w' => e = .returned (.bool (namesF D)) ∧ Below w.heap.size w w' := by
  obtain ⟨ac, cc, ap, cp, ai, ci, rfl, hc, -, hi⟩ := h.is
  clear h
  have hnc := hf.nc
  have hni := hf.ni
  have hW := fun s W (h : s.size ≤ 1048576) => l9Word_any s W (by omega)
  go_enter Tryz.func68, Tryz.ntmps68
  go_wp2
  go_loopg [3] D.nc (fun q i wr => ∃ k : Nat, k ≤ D.nc ∧ q = D.nc - k ∧ i = .int .i64 k ∧ Below (w.heap.size + 1) (w.alloc (.cells #[.string D.name, .slice ac D.nc cc, .slice ap D.np cp, .slice ai D.ni ci] 35)) wr ∧ Hid (∀ j, j < k → wordOk (D.col j).name = true))
  case atStart => exact ⟨0, Nat.zero_le _, rfl, rfl, Below.refl _ _, fun j hj => absurd hj (Nat.not_lt_zero _)⟩
  case round =>
    obtain ⟨k, hk, rfl, rfl, hB, HA⟩ := hrel
    obtain ⟨x0, x1, x2, x3⟩ := box4 hB
    obtain ⟨hBw, hsz⟩ := box4_below hB
    by_cases hlt : k < D.nc
    · have hkz : (k : Int) < (D.nc : Int) := by omega
      obtain ⟨b1, o1, rfl, hb1, hcs⟩ := (hc.below hBw).cells (by omega)
      obtain ⟨y0, -, -⟩ := hcs k hlt
      have hWk := hW (D.col k).name wr (hf.col k hlt)
      have HX : Hid (∀ b, wordOk (D.col k).name = b → (b = true → ∀ j, j < k + 1 → wordOk (D.col j).name = true) ∧ (b = false → namesF D = false)) := by
        intro b e
        refine ⟨fun hb j hj => ?_, fun hb => ?_⟩
        · by_cases hj' : j < k
          · exact HA.out j hj'
          · obtain rfl : j = k := by omega
            rw [e, hb]
        · unfold namesF
          exact decide_eq_false (fun h => by have := h.1 k hlt; rw [e, hb] at this; cases this)
      obtain ⟨z, hz⟩ : ∃ z, Hid ((D.col k).name = z) := ⟨_, rfl⟩
      rw [hz.out] at y0 hWk HX
      clear hcs hc hi hf hW HA
      go_wp2_with fail
      refine hWk.mono ?_
      cases hwk : wordOk z with
      | true =>
        rintro e w2 ⟨rfl, hb2⟩
        have HB2 : Hid (Below (w.heap.size + 1) _ w2) := box4_on hB hb2
        have HN := (HX.out _ hwk).1 rfl
        have HN' : Hid (∀ j, j < k + 1 → wordOk (D.col j).name = true) := HN
        clear hb2 hWk HN HX hwk
        go_wp2
        go_roundg (D.nc - (k + 1))
        case measure => omega
        case rel => exact ⟨k + 1, by omega, rfl, by go_num, HB2.out, HN'⟩
      | false =>
        rintro e w2 ⟨rfl, hb2⟩
        have HB2 : Hid (Below w.heap.size w w2) := (box4_below (box4_on hB hb2)).1
        have HF : Hid (namesF D = false) := (HX.out _ hwk).2 rfl
        clear hb2 hWk HX hwk
        go_wp2
        go_ret
        exact ⟨by rw [HF.out]; rfl, HB2.out⟩
    · have hkz : ¬ (k : Int) < (D.nc : Int) := by omega
      obtain rfl : k = D.nc := by omega
      go_wp2
      go_loopg [4] D.ni (fun q i wr => ∃ k : Nat, k ≤ D.ni ∧ q = D.ni - k ∧ i = .int .i64 k ∧ Below (w.heap.size + 1) (w.alloc (.cells #[.string D.name, .slice ac D.nc cc, .slice ap D.np cp, .slice ai D.ni ci] 35)) wr ∧ Hid (∀ j, j < k → wordOk (D.idx j).name = true))
      case atStart => exact ⟨0, Nat.zero_le _, rfl, rfl, hB, fun j hj => absurd hj (Nat.not_lt_zero _)⟩
      case round =>
        clear x0 x1 x2 x3 hBw hsz hB hkz hlt
        obtain ⟨k, hk, rfl, rfl, hB, HI⟩ := hrel
        obtain ⟨x0, x1, x2, x3⟩ := box4 hB
        obtain ⟨hBw, hsz⟩ := box4_below hB
        by_cases hlt : k < D.ni
        · have hkz : (k : Int) < (D.ni : Int) := by omega
          obtain ⟨b1, o1, rfl, hb1, hcs⟩ := (hi.below hBw).cells (by omega)
          obtain ⟨y0, -, -⟩ := hcs k hlt
          have hWk := hW (D.idx k).name wr (hf.idx k hlt).1
          have HX : Hid (∀ b, wordOk (D.idx k).name = b → (b = true → ∀ j, j < k + 1 → wordOk (D.idx j).name = true) ∧ (b = false → namesF D = false)) := by
            intro b e
            refine ⟨fun hb j hj => ?_, fun hb => ?_⟩
            · by_cases hj' : j < k
              · exact HI.out j hj'
              · obtain rfl : j = k := by omega
                rw [e, hb]
            · unfold namesF
              exact decide_eq_false (fun h => by have := h.2.1 k hlt; rw [e, hb] at this; cases this)
          obtain ⟨z, hz⟩ : ∃ z, Hid ((D.idx k).name = z) := ⟨_, rfl⟩
          rw [hz.out] at y0 hWk HX
          clear hcs hc hi hf hW HA HI
          go_wp2_with fail
          refine hWk.mono ?_
          cases hwk : wordOk z with
          | true =>
            rintro e w2 ⟨rfl, hb2⟩
            have HB2 : Hid (Below (w.heap.size + 1) _ w2) := box4_on hB hb2
            have HN := (HX.out _ hwk).1 rfl
            have HN' : Hid (∀ j, j < k + 1 → wordOk (D.idx j).name = true) := HN
            clear hb2 hWk HN HX hwk
            go_wp2
            go_roundg (D.ni - (k + 1))
            case measure => omega
            case rel => exact ⟨k + 1, by omega, rfl, by go_num, HB2.out, HN'⟩
          | false =>
            rintro e w2 ⟨rfl, hb2⟩
            have HB2 : Hid (Below w.heap.size w w2) := (box4_below (box4_on hB hb2)).1
            have HF : Hid (namesF D = false) := (HX.out _ hwk).2 rfl
            clear hb2 hWk HX hwk
            go_wp2
            go_ret
            exact ⟨by rw [HF.out]; rfl, HB2.out⟩
        · have hkz : ¬ (k : Int) < (D.ni : Int) := by omega
          obtain rfl : k = D.ni := by omega
          have hWk := hW D.name wr hf.name
          have HF : Hid (namesF D = wordOk D.name) := by
            show _ = _
            unfold namesF
            cases hn : wordOk D.name with
            | true => exact decide_eq_true ⟨HA.out, HI.out, rfl⟩
            | false => exact decide_eq_false (fun h => by cases h.2.2)
          clear hc hi hf hW HA HI
          go_wp2_with fail
          refine hWk.mono ?_
          rintro e w2 ⟨rfl, hb2⟩
          have HB2 : Hid (Below w.heap.size w w2) := (box4_below (box4_on hB hb2)).1
          clear hb2 hWk
          go_wp2
          go_ret
          exact ⟨by rw [HF.out]; rfl, HB2.out⟩
end Go.Proofs.YtmibpdnlphdoaaaGreatDoor

/-
  The model's l9Types comes to the plain one.
-/
namespace Go.Proofs.YtmibpdnlphdoaaaGreatDoor
open Go.RowKit
set_option maxRecDepth 4000

set_option maxHeartbeats 1000000 in
theorem l9Types_any (v : Value) (D : PDef) (w : World) (h : DView w v D) (hnc : D.nc ≤ 1048576) :
    Calls Tryz.prog 69 #[v] w fun e w' => e = .returned (.bool (typesF D)) ∧ Below w.heap.size w w' := by
  obtain ⟨ac, cc, ap, cp, ai, ci, rfl, hc, -, -⟩ := h.is
  clear h
  go_enter Tryz.func69, Tryz.ntmps69
  go_wp2
  go_loopg [3] D.nc (fun q i wr => ∃ k : Nat, k ≤ D.nc ∧ q = D.nc - k ∧ i = .int .i64 k ∧ Below (w.heap.size + 1) (w.alloc (.cells #[.string D.name, .slice ac D.nc cc, .slice ap D.np cp, .slice ai D.ni ci] 35)) wr ∧ Hid (∀ j, j < k → 1 ≤ (D.col j).type ∧ (D.col j).type ≤ 4))
  case atStart => exact ⟨0, Nat.zero_le _, rfl, rfl, Below.refl _ _, fun j hj => absurd hj (Nat.not_lt_zero _)⟩
  case round =>
    obtain ⟨k, hk, rfl, rfl, hB, HA⟩ := hrel
    obtain ⟨x0, x1, x2, x3⟩ := box4 hB
    obtain ⟨hBw, hsz⟩ := box4_below hB
    by_cases hlt : k < D.nc
    · have hkz : (k : Int) < (D.nc : Int) := by omega
      obtain ⟨b1, o1, rfl, hb1, hcs⟩ := (hc.below hBw).cells (by omega)
      obtain ⟨-, y1, -⟩ := hcs k hlt
      obtain ⟨t, ht⟩ : ∃ t, Hid ((D.col k).type = t) := ⟨_, rfl⟩
      rw [ht.out] at y1
      have hI := l1In_tok t 1 4 wr
      have HX : Hid ((1 ≤ t ∧ t ≤ 4 → ∀ j, j < k + 1 → 1 ≤ (D.col j).type ∧ (D.col j).type ≤ 4) ∧ (¬ (1 ≤ t ∧ t ≤ 4) → typesF D = false)) := by
        refine ⟨fun hb j hj => ?_, fun hb => ?_⟩
        · by_cases hj' : j < k
          · exact HA.out j hj'
          · obtain rfl : j = k := by omega
            rw [ht.out]; exact hb
        · unfold typesF
          exact decide_eq_false (fun h => by have := h.1 k hlt; rw [ht.out] at this; exact hb this)
      clear hcs hc HA
      by_cases hb : 1 ≤ t ∧ t ≤ 4
      · have hd : (decide (1 ≤ t) && decide (t ≤ 4)) = true := by simp [hb]
        rw [hd] at hI
        have HN : Hid (∀ j, j < k + 1 → 1 ≤ (D.col j).type ∧ (D.col j).type ≤ 4) := HX.out.1 hb
        have HB2 : Hid (Below (w.heap.size + 1) _ wr) := hB
        clear hd HX hb hB
        go_wp2_with fail
        refine hI.mono ?_
        rintro e _ ⟨rfl, rfl⟩
        clear hI
        go_wp2
        go_roundg (D.nc - (k + 1))
        case measure => omega
        case rel => exact ⟨k + 1, by omega, rfl, by go_num, HB2.out, HN⟩
      · have hd : (decide (1 ≤ t) && decide (t ≤ 4)) = false := by
          rw [Bool.eq_false_iff]; intro h; simp at h; exact hb h
        rw [hd] at hI
        have HF : Hid (typesF D = false) := HX.out.2 hb
        clear hd HX hb
        go_wp2_with fail
        refine hI.mono ?_
        rintro e _ ⟨rfl, rfl⟩
        clear hI
        go_wp2
        go_ret
        exact ⟨by rw [HF.out]; rfl, hBw⟩
    · have hkz : ¬ (k : Int) < (D.nc : Int) := by omega
      obtain rfl : k = D.nc := by omega
      have HF : Hid (typesF D = (decide ((1 : Int) ≤ (D.nc : Int)) && decide ((D.nc : Int) ≤ 6))) := by
        show _ = _
        unfold typesF
        rw [Bool.eq_iff_iff]
        simp only [decide_eq_true_eq, Bool.and_eq_true]
        exact ⟨fun h => ⟨by omega, by omega⟩, fun h => ⟨HA.out, by omega, by omega⟩⟩
      have hI := l1In_tok D.nc 1 6 wr
      clear hc HA
      go_wp2_with fail
      refine hI.mono ?_
      rintro e _ ⟨rfl, rfl⟩
      clear hI
      go_wp2
      go_ret
      exact ⟨by rw [HF.out]; rfl, hBw⟩
end Go.Proofs.YtmibpdnlphdoaaaGreatDoor

