/-
  Together: WordSpec, NamesSpec, TypesSpec, PartsSpec, CheckSpec
-/
import Derived.Test.YtkakkjnbhklfpaaGreatDoorPackR17
import Derived.Test.YtkakkjnbhklfpaaGreatDoorPackR3
import Derived.Deep.LoopGhost
import Derived.Deep.Strs
import Derived.Deep.RegionHeld3
import Derived.Deep.QuietTactic
import Derived.BigQuiet
import Derived.Test.YtkakkjnbhklfpaaGreatDoorPackR5
/-
  The model's l9Has, l9Word: whether a text may be a name in a table.
-/
namespace Go.Proofs.YtkakkjnbhklfpaaGreatDoor
open Go.RowKit
set_option maxRecDepth 4000

/-- The words that are no names, as texts. -/
def kwT : List ByteArray := kwords.map (fun l => ⟨l.toArray⟩)
theorem isKw_iff (s : ByteArray) : isKw s = true ↔ ∃ i, i < 10 ∧ kwT.getD i ⟨#[]⟩ = s := by
  have key : ∀ l : List UInt8, s.toList = l ↔ (⟨l.toArray⟩ : ByteArray) = s := by
    intro l
    rw [ByteArray.toList_eq]
    constructor
    · rintro rfl; rfl
    · rintro rfl; rfl
  unfold isKw
  rw [List.contains_iff_mem]
  constructor
  · intro h
    obtain ⟨i, hi, e⟩ := List.mem_iff_getElem.1 h
    refine ⟨i, hi, ?_⟩
    have : kwT.getD i ⟨#[]⟩ = ⟨(kwords[i]'hi).toArray⟩ := by simp [kwT, List.getD, hi]
    rw [this, ← key, e]
  · rintro ⟨i, hi, e⟩
    have hi' : i < kwords.length := hi
    have : kwT.getD i ⟨#[]⟩ = ⟨(kwords[i]'hi').toArray⟩ := by simp [kwT, List.getD, hi']
    rw [this, ← key] at e
    rw [e]
    exact List.getElem_mem _

set_option maxHeartbeats 1000000 in
theorem l9Has_kw (b : Nat) (s : ByteArray) (w : World) (hz : ∀ i, i < 10 → w.cell? ⟨b, i, none⟩ = some (.string (kwT.getD i ⟨#[]⟩))) :
    Calls Tryz.prog 122 #[.slice (some ⟨b, 0, none⟩) 10 10, .string s] w fun e w' => e = .returned (.bool (isKw s)) ∧ w = w' := by
  go_enter Tryz.func122, Tryz.ntmps122
  go_wp2
  go_loopg [5] 10 (fun q i wr => ∃ k : Nat, k ≤ 10 ∧ q = 10 - k ∧ i = .int .i64 k ∧ wr = w ∧ ∀ j, j < k → kwT.getD j ⟨#[]⟩ ≠ s)
  case atStart => exact ⟨0, Nat.zero_le _, rfl, rfl, rfl, fun j hj => absurd hj (Nat.not_lt_zero _)⟩
  case round =>
    obtain ⟨k, hk, rfl, rfl, rfl, hall⟩ := hrel
    have HA : Hid (∀ j, j < k → kwT.getD j ⟨#[]⟩ ≠ s) := hall
    clear hall
    by_cases hlt : k < 10
    · have hkz : (k : Int) < 10 := by omega
      have hc := hz k hlt
      obtain ⟨z, hzz⟩ : ∃ z, Hid (kwT.getD k ⟨#[]⟩ = z) := ⟨_, rfl⟩
      rw [hzz.out] at hc
      clear hz
      by_cases he : z = s
      · have HF : Hid (isKw s = true) := (isKw_iff s).2 ⟨k, hlt, hzz.out.trans he⟩
        subst he
        go_wp2
        go_ret
        exact ⟨by rw [HF.out]; rfl, rfl⟩
      · have HN : Hid (∀ j, j < k + 1 → kwT.getD j ⟨#[]⟩ ≠ s) := by
          intro j hj
          by_cases e : j < k
          · exact HA.out j e
          · obtain rfl : j = k := by omega
            rw [hzz.out]; exact he
        have hne : (z.toList == s.toList) = false := by
          cases h : (z.toList == s.toList) with
          | false => rfl
          | true =>
            have h2 := eq_of_beq h
            rw [ByteArray.toList_eq, ByteArray.toList_eq] at h2
            exact absurd (by obtain ⟨⟨x⟩⟩ := z; obtain ⟨⟨y⟩⟩ := s; simp only at h2; rw [h2]) he
        clear he
        go_wp2
        go_roundg (10 - (k + 1))
        case measure => omega
        case rel => exact ⟨k + 1, by omega, rfl, by go_num, rfl, HN.out⟩
    · have hkz : ¬ (k : Int) < 10 := by omega
      obtain rfl : k = 10 := by omega
      have HF : Hid (isKw s = false) := by
        show _ = _
        cases h : isKw s with
        | false => rfl
        | true =>
          obtain ⟨i, hi, e⟩ := (isKw_iff s).1 h
          exact absurd e (HA.out i hi)
      clear hz
      go_wp2
      go_ret
      exact ⟨by rw [HF.out]; rfl, rfl⟩

set_option maxHeartbeats 1000000 in
theorem l9Word_any (s : ByteArray) (w : World) (hs : s.size ≤ 281474976710656) :
    Calls Tryz.prog 85 #[.string s] w fun e w' => e = .returned (.bool (wordOk s)) ∧ Below w.heap.size w w' := by
  have hN := l8Name_any s w hs
  have HW : Hid (wordOk s = (nameOk s && !isKw s)) := rfl
  have hz : ∀ i, i < 10 → (w.alloc (.cells (kwT.map Value.string).toArray 9)).cell? ⟨w.heap.size, i, none⟩ = some (.string (kwT.getD i ⟨#[]⟩)) := by
    intro i hi
    rw [World.cell?, show (w.alloc (.cells (kwT.map Value.string).toArray 9)).heap[w.heap.size]? = some (.cells (kwT.map Value.string).toArray 9) from Deep.blk_alloc_new _ _]
    have : i < kwT.length := hi
    simp [this]
  have hH := l9Has_kw w.heap.size s _ hz
  cases hn : nameOk s with
  | true =>
    rw [hn] at hN
    go_enter Tryz.func85, Tryz.ntmps85
    go_wp2_with fail
    refine hN.mono ?_
    rintro e _ ⟨rfl, rfl⟩
    clear hN hz
    go_wp2_with fail
    refine hH.mono ?_
    rintro e _ ⟨rfl, rfl⟩
    go_wp2
    go_ret
    exact ⟨by rw [HW.out, hn]; rfl, (Below.refl _ _).alloc (Nat.le_refl _) _⟩
  | false =>
    rw [hn] at hN
    go_enter Tryz.func85, Tryz.ntmps85
    go_wp2_with fail
    refine hN.mono ?_
    rintro e _ ⟨rfl, rfl⟩
    clear hN hz hH
    go_wp2
    go_ret
    exact ⟨by rw [HW.out, hn]; rfl, Below.refl _ _⟩
end Go.Proofs.YtkakkjnbhklfpaaGreatDoor

/-
  The model's l9Names and l9Types come to the plain ones.
-/
namespace Go.Proofs.YtkakkjnbhklfpaaGreatDoor
open Go.RowKit
set_option maxRecDepth 4000

set_option maxHeartbeats 1000000 in
theorem l9Names_any (v : Value) (D : PDef) (w : World) (h : DView w v D) (hf : DFine D) :
    Calls Tryz.prog 49 #[v] w fun e w' => e = .returned (.bool (namesF D)) ∧ Below w.heap.size w w' := by
  obtain ⟨ac, cc, ap, cp, ai, ci, rfl, hc, -, hi⟩ := h.is
  clear h
  have hnc := hf.nc
  have hni := hf.ni
  have hW := fun s W (h : s.size ≤ 1048576) => l9Word_any s W (by omega)
  go_enter Tryz.func49, Tryz.ntmps49
  go_wp2
  go_loopg [3] D.nc (fun q i wr => ∃ k : Nat, k ≤ D.nc ∧ q = D.nc - k ∧ i = .int .i64 k ∧ Below (w.heap.size + 1) (w.alloc (.cells #[.string D.name, .slice ac D.nc cc, .slice ap D.np cp, .slice ai D.ni ci] 36)) wr ∧ Hid (∀ j, j < k → wordOk (D.col j).name = true))
  case atStart => exact ⟨0, Nat.zero_le _, rfl, rfl, Below.refl _ _, fun j hj => absurd hj (Nat.not_lt_zero _)⟩
  case round =>
    obtain ⟨k, hk, rfl, rfl, hB, HA⟩ := hrel
    obtain ⟨x0, x1, x2, x3⟩ := box4 hB
    obtain ⟨hBw, hsz⟩ := box4_below hB
    by_cases hlt : k < D.nc
    · have hkz : (k : Int) < (D.nc : Int) := by omega
      obtain ⟨b1, o1, rfl, hb1, hcs⟩ := (hc.below hBw).cells (by omega)
      obtain ⟨y0, -, -⟩ := hcs k hlt
      have hWk := hW (D.col k).name wr (hf.col k hlt)
      have HX : Hid (∀ b, wordOk (D.col k).name = b → (b = true → ∀ j, j < k + 1 → wordOk (D.col j).name = true) ∧ (b = false → namesF D = false)) := by
        intro b e
        refine ⟨fun hb j hj => ?_, fun hb => ?_⟩
        · by_cases hj' : j < k
          · exact HA.out j hj'
          · obtain rfl : j = k := by omega
            rw [e, hb]
        · unfold namesF
          exact decide_eq_false (fun h => by have := h.1 k hlt; rw [e, hb] at this; cases this)
      obtain ⟨z, hz⟩ : ∃ z, Hid ((D.col k).name = z) := ⟨_, rfl⟩
      rw [hz.out] at y0 hWk HX
      clear hcs hc hi hf hW HA
      go_wp2_with fail
      refine hWk.mono ?_
      cases hwk : wordOk z with
      | true =>
        rintro e w2 ⟨rfl, hb2⟩
        have HB2 : Hid (Below (w.heap.size + 1) _ w2) := box4_on hB hb2
        have HN := (HX.out _ hwk).1 rfl
        have HN' : Hid (∀ j, j < k + 1 → wordOk (D.col j).name = true) := HN
        clear hb2 hWk HN HX hwk
        go_wp2
        go_roundg (D.nc - (k + 1))
        case measure => omega
        case rel => exact ⟨k + 1, by omega, rfl, by go_num, HB2.out, HN'⟩
      | false =>
        rintro e w2 ⟨rfl, hb2⟩
        have HB2 : Hid (Below w.heap.size w w2) := (box4_below (box4_on hB hb2)).1
        have HF : Hid (namesF D = false) := (HX.out _ hwk).2 rfl
        clear hb2 hWk HX hwk
        go_wp2
        go_ret
        exact ⟨by rw [HF.out]; rfl, HB2.out⟩
    · have hkz : ¬ (k : Int) < (D.nc : Int) := by omega
      obtain rfl : k = D.nc := by omega
      go_wp2
      go_loopg [4] D.ni (fun q i wr => ∃ k : Nat, k ≤ D.ni ∧ q = D.ni - k ∧ i = .int .i64 k ∧ Below (w.heap.size + 1) (w.alloc (.cells #[.string D.name, .slice ac D.nc cc, .slice ap D.np cp, .slice ai D.ni ci] 36)) wr ∧ Hid (∀ j, j < k → wordOk (D.idx j).name = true))
      case atStart => exact ⟨0, Nat.zero_le _, rfl, rfl, hB, fun j hj => absurd hj (Nat.not_lt_zero _)⟩
      case round =>
        clear x0 x1 x2 x3 hBw hsz hB hkz hlt
        obtain ⟨k, hk, rfl, rfl, hB, HI⟩ := hrel
        obtain ⟨x0, x1, x2, x3⟩ := box4 hB
        obtain ⟨hBw, hsz⟩ := box4_below hB
        by_cases hlt : k < D.ni
        · have hkz : (k : Int) < (D.ni : Int) := by omega
          obtain ⟨b1, o1, rfl, hb1, hcs⟩ := (hi.below hBw).cells (by omega)
          obtain ⟨y0, -, -⟩ := hcs k hlt
          have hWk := hW (D.idx k).name wr (hf.idx k hlt).1
          have HX : Hid (∀ b, wordOk (D.idx k).name = b → (b = true → ∀ j, j < k + 1 → wordOk (D.idx j).name = true) ∧ (b = false → namesF D = false)) := by
            intro b e
            refine ⟨fun hb j hj => ?_, fun hb => ?_⟩
            · by_cases hj' : j < k
              · exact HI.out j hj'
              · obtain rfl : j = k := by omega
                rw [e, hb]
            · unfold namesF
              exact decide_eq_false (fun h => by have := h.2.1 k hlt; rw [e, hb] at this; cases this)
          obtain ⟨z, hz⟩ : ∃ z, Hid ((D.idx k).name = z) := ⟨_, rfl⟩
          rw [hz.out] at y0 hWk HX
          clear hcs hc hi hf hW HA HI
          go_wp2_with fail
          refine hWk.mono ?_
          cases hwk : wordOk z with
          | true =>
            rintro e w2 ⟨rfl, hb2⟩
            have HB2 : Hid (Below (w.heap.size + 1) _ w2) := box4_on hB hb2
            have HN := (HX.out _ hwk).1 rfl
            have HN' : Hid (∀ j, j < k + 1 → wordOk (D.idx j).name = true) := HN
            clear hb2 hWk HN HX hwk
            go_wp2
            go_roundg (D.ni - (k + 1))
            case measure => omega
            case rel => exact ⟨k + 1, by omega, rfl, by go_num, HB2.out, HN'⟩
          | false =>
            rintro e w2 ⟨rfl, hb2⟩
            have HB2 : Hid (Below w.heap.size w w2) := (box4_below (box4_on hB hb2)).1
            have HF : Hid (namesF D = false) := (HX.out _ hwk).2 rfl
            clear hb2 hWk HX hwk
            go_wp2
            go_ret
            exact ⟨by rw [HF.out]; rfl, HB2.out⟩
        · have hkz : ¬ (k : Int) < (D.ni : Int) := by omega
          obtain rfl : k = D.ni := by omega
          have hWk := hW D.name wr hf.name
          have HF : Hid (namesF D = wordOk D.name) := by
            show _ = _
            unfold namesF
            cases hn : wordOk D.name with
            | true => exact decide_eq_true ⟨HA.out, HI.out, rfl⟩
            | false => exact decide_eq_false (fun h => by cases h.2.2)
          clear hc hi hf hW HA HI
          go_wp2_with fail
          refine hWk.mono ?_
          rintro e w2 ⟨rfl, hb2⟩
          have HB2 : Hid (Below w.heap.size w w2) := (box4_below (box4_on hB hb2)).1
          clear hb2 hWk
          go_wp2
          go_ret
          exact ⟨by rw [HF.out]; rfl, HB2.out⟩
end Go.Proofs.YtkakkjnbhklfpaaGreatDoor

/-
  The model's l9Types comes to the plain one.
-/
namespace Go.Proofs.YtkakkjnbhklfpaaGreatDoor
open Go.RowKit
set_option maxRecDepth 4000

set_option maxHeartbeats 1000000 in
theorem l9Types_any (v : Value) (D : PDef) (w : World) (h : DView w v D) (hnc : D.nc ≤ 1048576) :
    Calls Tryz.prog 50 #[v] w fun e w' => e = .returned (.bool (typesF D)) ∧ Below w.heap.size w w' := by
  obtain ⟨ac, cc, ap, cp, ai, ci, rfl, hc, -, -⟩ := h.is
  clear h
  go_enter Tryz.func50, Tryz.ntmps50
  go_wp2
  go_loopg [3] D.nc (fun q i wr => ∃ k : Nat, k ≤ D.nc ∧ q = D.nc - k ∧ i = .int .i64 k ∧ Below (w.heap.size + 1) (w.alloc (.cells #[.string D.name, .slice ac D.nc cc, .slice ap D.np cp, .slice ai D.ni ci] 36)) wr ∧ Hid (∀ j, j < k → 1 ≤ (D.col j).type ∧ (D.col j).type ≤ 4))
  case atStart => exact ⟨0, Nat.zero_le _, rfl, rfl, Below.refl _ _, fun j hj => absurd hj (Nat.not_lt_zero _)⟩
  case round =>
    obtain ⟨k, hk, rfl, rfl, hB, HA⟩ := hrel
    obtain ⟨x0, x1, x2, x3⟩ := box4 hB
    obtain ⟨hBw, hsz⟩ := box4_below hB
    by_cases hlt : k < D.nc
    · have hkz : (k : Int) < (D.nc : Int) := by omega
      obtain ⟨b1, o1, rfl, hb1, hcs⟩ := (hc.below hBw).cells (by omega)
      obtain ⟨-, y1, -⟩ := hcs k hlt
      obtain ⟨t, ht⟩ : ∃ t, Hid ((D.col k).type = t) := ⟨_, rfl⟩
      rw [ht.out] at y1
      have hI := l1In_tok t 1 4 wr
      have HX : Hid ((1 ≤ t ∧ t ≤ 4 → ∀ j, j < k + 1 → 1 ≤ (D.col j).type ∧ (D.col j).type ≤ 4) ∧ (¬ (1 ≤ t ∧ t ≤ 4) → typesF D = false)) := by
        refine ⟨fun hb j hj => ?_, fun hb => ?_⟩
        · by_cases hj' : j < k
          · exact HA.out j hj'
          · obtain rfl : j = k := by omega
            rw [ht.out]; exact hb
        · unfold typesF
          exact decide_eq_false (fun h => by have := h.1 k hlt; rw [ht.out] at this; exact hb this)
      clear hcs hc HA
      by_cases hb : 1 ≤ t ∧ t ≤ 4
      · have hd : (decide (1 ≤ t) && decide (t ≤ 4)) = true := by simp [hb]
        rw [hd] at hI
        have HN : Hid (∀ j, j < k + 1 → 1 ≤ (D.col j).type ∧ (D.col j).type ≤ 4) := HX.out.1 hb
        have HB2 : Hid (Below (w.heap.size + 1) _ wr) := hB
        clear hd HX hb hB
        go_wp2_with fail
        refine hI.mono ?_
        rintro e _ ⟨rfl, rfl⟩
        clear hI
        go_wp2
        go_roundg (D.nc - (k + 1))
        case measure => omega
        case rel => exact ⟨k + 1, by omega, rfl, by go_num, HB2.out, HN⟩
      · have hd : (decide (1 ≤ t) && decide (t ≤ 4)) = false := by
          rw [Bool.eq_false_iff]; intro h; simp at h; exact hb h
        rw [hd] at hI
        have HF : Hid (typesF D = false) := HX.out.2 hb
        clear hd HX hb
        go_wp2_with fail
        refine hI.mono ?_
        rintro e _ ⟨rfl, rfl⟩
        clear hI
        go_wp2
        go_ret
        exact ⟨by rw [HF.out]; rfl, hBw⟩
    · have hkz : ¬ (k : Int) < (D.nc : Int) := by omega
      obtain rfl : k = D.nc := by omega
      have HF : Hid (typesF D = (decide ((1 : Int) ≤ (D.nc : Int)) && decide ((D.nc : Int) ≤ 6))) := by
        show _ = _
        unfold typesF
        rw [Bool.eq_iff_iff]
        simp only [decide_eq_true_eq, Bool.and_eq_true]
        exact ⟨fun h => ⟨by omega, by omega⟩, fun h => ⟨HA.out, by omega, by omega⟩⟩
      have hI := l1In_tok D.nc 1 6 wr
      clear hc HA
      go_wp2_with fail
      refine hI.mono ?_
      rintro e _ ⟨rfl, rfl⟩
      clear hI
      go_wp2
      go_ret
      exact ⟨by rw [HF.out]; rfl, hBw⟩
end Go.Proofs.YtkakkjnbhklfpaaGreatDoor

/-
  The model's l9Parts and l9AllParts come to the plain ones.
-/
namespace Go.Proofs.YtkakkjnbhklfpaaGreatDoor
open Go.RowKit
set_option maxRecDepth 4000

theorem wrapI {x : Int} (h0 : -9223372036854775808 ≤ x) (h1 : x ≤ 9223372036854775807) : IntKind.i64.wrap x = x := by
  simp [IntKind.wrap, IntKind.bits, IntKind.signed]; omega

set_option maxHeartbeats 2000000 in
theorem l9Parts_any (v : Value) (D : PDef) (a : Option Addr) (n c : Nat) (f : Nat → PBy) (w : World) (h : DView w v D) (hv : BView w a n c f) (hnc : D.nc ≤ 1048576) (hn : n ≤ 1048576) :
    Calls Tryz.prog 87 #[v, .slice a n c] w fun e w' => e = .returned (.bool (partsF D.nc n f)) ∧ Below w.heap.size w w' := by
  obtain ⟨ac, cc, ap, cp, ai, ci, rfl, hc, -, -⟩ := h.is
  clear h hc
  go_enter Tryz.func87, Tryz.ntmps87
  go_wp2
  go_loopg [5] n (fun q i wr => ∃ k : Nat, k ≤ n ∧ q = n - k ∧ i = .int .i64 k ∧ Below (w.heap.size + 1) (w.alloc (.cells #[.string D.name, .slice ac D.nc cc, .slice ap D.np cp, .slice ai D.ni ci] 36)) wr ∧ Hid (∀ i, i < k → 0 ≤ (f i).col ∧ (f i).col < D.nc ∧ (0 < i → (f 0).col ≠ (f i).col)))
  case atStart => exact ⟨0, Nat.zero_le _, rfl, rfl, Below.refl _ _, fun j hj => absurd hj (Nat.not_lt_zero _)⟩
  case round =>
    obtain ⟨k, hk, rfl, rfl, hB, HA⟩ := hrel
    obtain ⟨x0, x1, x2, x3⟩ := box4 hB
    obtain ⟨hBw, hsz⟩ := box4_below hB
    by_cases hlt : k < n
    · have hkz : (k : Int) < (n : Int) := by omega
      have h0n : (0 : Int) < (n : Int) := by omega
      obtain ⟨b1, o1, rfl, hb1, hcs⟩ := (hv.below hBw).cells (by omega)
      obtain ⟨y0, -⟩ := hcs k hlt
      obtain ⟨y1, -⟩ := hcs 0 (by omega)
      simp only [Nat.zero_mul, Nat.add_zero] at y1
      have HB2 : Hid (Below (w.heap.size + 1) (w.alloc (.cells #[.string D.name, .slice ac D.nc cc, .slice ap D.np cp, .slice ai D.ni ci] 36)) wr) := hB
      have HBw : Hid (Below w.heap.size w wr) := hBw
      obtain ⟨x, hx⟩ : ∃ x, Hid ((f k).col = x) := ⟨_, rfl⟩
      obtain ⟨y, hy⟩ : ∃ y, Hid ((f 0).col = y) := ⟨_, rfl⟩
      rw [hx.out] at y0
      rw [hy.out] at y1
      have HNX : Hid (0 ≤ x ∧ x < D.nc ∧ (0 < k → y ≠ x) → ∀ i, i < k + 1 → 0 ≤ (f i).col ∧ (f i).col < D.nc ∧ (0 < i → (f 0).col ≠ (f i).col)) := by
        intro hb i hi
        by_cases hj' : i < k
        · exact HA.out i hj'
        · obtain rfl : i = k := by omega
          rw [hx.out, hy.out]
          exact hb
      have HNO : Hid (¬ (0 ≤ x ∧ x < D.nc ∧ (0 < k → y ≠ x)) → partsF D.nc n f = false) := by
        intro hb
        unfold partsF
        refine decide_eq_false (fun h => hb ?_)
        have := h.1 k hlt
        rw [hx.out, hy.out] at this
        exact this
      have hI := fun W => l1In_tok x 0 ((D.nc : Int) - 1) W
      have hsub : IntKind.i64.wrap ((D.nc : Int) - 1) = (D.nc : Int) - 1 := wrapI (by omega) (by omega)
      clear hcs hv hB hBw HA
      by_cases hin : 0 ≤ x ∧ x < D.nc
      · have hd : (decide (0 ≤ x) && decide (x ≤ (D.nc : Int) - 1)) = true := by simp; omega
        simp only [hd] at hI
        by_cases h0 : 0 < k
        · have h0z : decide ((0 : Int) < (k : Int)) = true := decide_eq_true (by omega)
          by_cases hxy : y = x
          · have HF : Hid (partsF D.nc n f = false) := HNO.out (fun h => h.2.2 h0 hxy)
            have hq : (y == x) = true := by simpa using hxy
            clear HNX HNO hd hin hxy
            go_wp2_with fail
            go_quiet (first | (go_at_call 70; exact Calls.quiet_of_same ((hI _).mono (fun _ _ h => ⟨h.1, h.2.symm⟩))))
            go_wp2
            go_ret
            exact ⟨by rw [HF.out]; rfl, HBw.out.trans ⟨rfl, rfl, rfl, Nat.le_refl _, fun _ _ => rfl⟩⟩
          · have hq : (y == x) = false := by simpa using hxy
            have HN : Hid (∀ i, i < k + 1 → 0 ≤ (f i).col ∧ (f i).col < D.nc ∧ (0 < i → (f 0).col ≠ (f i).col)) := HNX.out ⟨hin.1, hin.2, fun _ => hxy⟩
            clear HNX HNO hd hin hxy
            go_wp2_with fail
            go_quiet (first | (go_at_call 70; exact Calls.quiet_of_same ((hI _).mono (fun _ _ h => ⟨h.1, h.2.symm⟩))))
            go_wp2
            go_roundg (n - (k + 1))
            case measure => omega
            case rel => exact ⟨k + 1, by omega, rfl, by go_num, HB2.out.trans ⟨rfl, rfl, rfl, Nat.le_refl _, fun _ _ => rfl⟩, HN⟩
        · have h0z : decide ((0 : Int) < (k : Int)) = false := decide_eq_false (by omega)
          have HN : Hid (∀ i, i < k + 1 → 0 ≤ (f i).col ∧ (f i).col < D.nc ∧ (0 < i → (f 0).col ≠ (f i).col)) := HNX.out ⟨hin.1, hin.2, fun h => absurd h h0⟩
          clear HNX HNO hd hin
          go_wp2_with fail
          go_quiet (first | (go_at_call 70; exact Calls.quiet_of_same ((hI _).mono (fun _ _ h => ⟨h.1, h.2.symm⟩))))
          go_wp2
          go_roundg (n - (k + 1))
          case measure => omega
          case rel => exact ⟨k + 1, by omega, rfl, by go_num, HB2.out.trans ⟨rfl, rfl, rfl, Nat.le_refl _, fun _ _ => rfl⟩, HN⟩
      · have hd : (decide (0 ≤ x) && decide (x ≤ (D.nc : Int) - 1)) = false := by
          rw [Bool.eq_false_iff]; intro h; simp at h; exact hin (by omega)
        simp only [hd] at hI
        have HF : Hid (partsF D.nc n f = false) := HNO.out (fun h => hin ⟨h.1, h.2.1⟩)
        clear HNX HNO hd hin
        go_wp2_with fail
        go_quiet (first | (go_at_call 70; exact Calls.quiet_of_same ((hI _).mono (fun _ _ h => ⟨h.1, h.2.symm⟩))))
        go_wp2
        go_ret
        exact ⟨by rw [HF.out]; rfl, HBw.out.trans ⟨rfl, rfl, rfl, Nat.le_refl _, fun _ _ => rfl⟩⟩
    · have hkz : ¬ (k : Int) < (n : Int) := by omega
      obtain rfl : k = n := by omega
      have HF : Hid (partsF D.nc k f = (decide ((1 : Int) ≤ (k : Int)) && decide ((k : Int) ≤ 2))) := by
        show _ = _
        unfold partsF
        rw [Bool.eq_iff_iff]
        simp only [decide_eq_true_eq, Bool.and_eq_true]
        exact ⟨fun h => ⟨by omega, by omega⟩, fun h => ⟨HA.out, by omega, by omega⟩⟩
      have hI := l1In_tok k 1 2 wr
      clear hv HA
      go_wp2_with fail
      refine hI.mono ?_
      rintro e _ ⟨rfl, rfl⟩
      clear hI
      go_wp2
      go_ret
      exact ⟨by rw [HF.out]; rfl, hBw⟩

set_option maxHeartbeats 2000000 in
theorem l9AllParts_any (v : Value) (D : PDef) (w : World) (h : DView w v D) (hf : DFine D) :
    Calls Tryz.prog 52 #[v] w fun e w' => e = .returned (.bool (allPartsF D)) ∧ Below w.heap.size w w' := by
  have hnc := hf.nc
  have hni := hf.ni
  have hL := fun a n c f W hV hb hn => l9Parts_any v D a n c f W hV hb hnc hn
  have hv := h
  obtain ⟨ac, cc, ap, cp, ai, ci, rfl, -, hp, hi⟩ := h.is
  clear h
  go_enter Tryz.func52, Tryz.ntmps52
  go_wp2
  go_loopg [3] D.ni (fun q i wr => ∃ k : Nat, k ≤ D.ni ∧ q = D.ni - k ∧ i = .int .i64 k ∧ Below (w.heap.size + 1) (w.alloc (.cells #[.string D.name, .slice ac D.nc cc, .slice ap D.np cp, .slice ai D.ni ci] 36)) wr ∧ Hid (∀ i, i < k → partsF D.nc (D.idx i).n (D.idx i).part = true))
  case atStart => exact ⟨0, Nat.zero_le _, rfl, rfl, Below.refl _ _, fun j hj => absurd hj (Nat.not_lt_zero _)⟩
  case round =>
    obtain ⟨k, hk, rfl, rfl, hB, HA⟩ := hrel
    obtain ⟨x0, x1, x2, x3⟩ := box4 hB
    obtain ⟨hBw, hsz⟩ := box4_below hB
    by_cases hlt : k < D.ni
    · have hkz : (k : Int) < (D.ni : Int) := by omega
      have hfk := (hf.idx k hlt).2
      obtain ⟨b1, o1, rfl, hb1, hcs⟩ := (hi.below hBw).cells (by omega)
      obtain ⟨-, -, a2, c2, y2, hv2⟩ := hcs k hlt
      have hLk := fun W (hb : Below w.heap.size w W) (hw : Below wr.heap.size wr W) => hL a2 (D.idx k).n c2 (D.idx k).part W (hv.below hb) (hv2.below hw) hfk
      have HS : Hid (∀ b, partsF D.nc (D.idx k).n (D.idx k).part = b → (b = true → ∀ i, i < k + 1 → partsF D.nc (D.idx i).n (D.idx i).part = true) ∧ (b = false → allPartsF D = false)) := by
        intro b e
        refine ⟨fun hx i hi => ?_, fun hx => ?_⟩
        · by_cases hj' : i < k
          · exact HA.out i hj'
          · obtain rfl : i = k := by omega
            rw [e, hx]
        · unfold allPartsF
          refine decide_eq_false (fun h => ?_)
          have := h.1 k hlt
          rw [e, hx] at this
          cases this
      obtain ⟨x, hx⟩ : ∃ x, Hid (partsF D.nc (D.idx k).n (D.idx k).part = x) := ⟨_, rfl⟩
      simp only [hx.out] at hLk
      have HX' : Hid ((x = true → ∀ i, i < k + 1 → partsF D.nc (D.idx i).n (D.idx i).part = true) ∧ (x = false → allPartsF D = false)) := HS.out x hx.out
      obtain ⟨n2, hn2⟩ : ∃ n2, Hid ((D.idx k).n = n2) := ⟨_, rfl⟩
      rw [hn2.out] at y2
      simp only [hn2.out] at hLk
      have HBw : Hid (Below w.heap.size w wr) := hBw
      have HB : Hid (Below (w.heap.size + 1) (w.alloc (.cells #[.string D.name, .slice ac D.nc cc, .slice ap D.np cp, .slice (some ⟨b1, o1, none⟩) D.ni ci] 36)) wr) := hB
      clear hcs hp hi hv hL HA HS hv2 hf hBw hB hfk
      go_wp2_with fail
      go_region_held3 (fun WW => (WW.cell? ⟨w.heap.size, 0, none⟩ = some (.string D.name) ∧ WW.cell? ⟨w.heap.size, 1, none⟩ = some (.slice ac D.nc cc) ∧ WW.cell? ⟨w.heap.size, 2, none⟩ = some (.slice ap D.np cp) ∧ WW.cell? ⟨w.heap.size, 3, none⟩ = some (.slice (some ⟨b1, o1, none⟩) D.ni ci)) ∧ WW.cell? ⟨b1, o1 + k * 3 + 2, none⟩ = some (.slice a2 n2 c2)) (first | assumption | go_keep) (first | (go_at_call 87; refine (hLk _ (by repeat (first | exact HBw.out | refine Below.drew ?_)) (by repeat (first | exact Below.refl _ _ | refine Below.drew ?_))).mono ?_; rintro e w2 ⟨rfl, hB2⟩; have hcells : (w2.cell? ⟨w.heap.size, 0, none⟩ = some (.string D.name) ∧ w2.cell? ⟨w.heap.size, 1, none⟩ = some (.slice ac D.nc cc) ∧ w2.cell? ⟨w.heap.size, 2, none⟩ = some (.slice ap D.np cp) ∧ w2.cell? ⟨w.heap.size, 3, none⟩ = some (.slice (some ⟨b1, o1, none⟩) D.ni ci)) ∧ w2.cell? ⟨b1, o1 + k * 3 + 2, none⟩ = some (.slice a2 n2 c2) := (by (refine ⟨⟨?_, ?_, ?_, ?_⟩, ?_⟩ <;> (rw [hB2.cell (by first | (simp; omega) | exact hb1)]; assumption)))))
      all_goals
        have hb2 : Below wr.heap.size wr w2 := Below.trans (by repeat (first | exact Below.refl _ _ | refine Below.drew ?_)) hB2
        have HB2 : Hid (Below (w.heap.size + 1) (w.alloc (.cells #[.string D.name, .slice ac D.nc cc, .slice ap D.np cp, .slice (some ⟨b1, o1, none⟩) D.ni ci] 36)) w2) := box4_on HB.out hb2
        clear hB2 hb2 hLk HB
        cases x with
        | true =>
          have HN : Hid (∀ i, i < k + 1 → partsF D.nc (D.idx i).n (D.idx i).part = true) := HX'.out.1 rfl
          clear HX' HBw hcells
          go_wp2
          go_roundg (D.ni - (k + 1))
          case measure => omega
          case rel => exact ⟨k + 1, by omega, rfl, by go_num, HB2.out, HN⟩
        | false =>
          have HF : Hid (allPartsF D = false) := HX'.out.2 rfl
          have HB3 : Hid (Below w.heap.size w w2) := (box4_below HB2.out).1
          clear HX' HBw hcells
          go_wp2
          go_ret
          exact ⟨by rw [HF.out]; rfl, HB3.out⟩
    · have hkz : ¬ (k : Int) < (D.ni : Int) := by omega
      obtain rfl : k = D.ni := by omega
      have hLk := hL ap D.np cp D.pri wr (hv.below hBw) (hp.below hBw) hf.np
      have HF : Hid (allPartsF D = partsF D.nc D.np D.pri) := by
        show _ = _
        unfold allPartsF
        cases e : partsF D.nc D.np D.pri with
        | true => exact decide_eq_true ⟨HA.out, rfl⟩
        | false => exact decide_eq_false (fun h => by cases h.2)
      clear hp hi hv hL HA hf
      go_wp2_with fail
      refine hLk.mono ?_
      rintro e w2 ⟨rfl, hb2⟩
      have HB2 : Hid (Below w.heap.size w w2) := (box4_below (box4_on hB hb2)).1
      clear hLk hb2 hB hBw
      go_wp2
      go_ret
      exact ⟨by rw [HF.out]; rfl, HB2.out⟩
end Go.Proofs.YtkakkjnbhklfpaaGreatDoor

/-
  The model's CheckDef comes to the plain one.
-/
namespace Go.Proofs.YtkakkjnbhklfpaaGreatDoor
open Go.RowKit
set_option maxRecDepth 4000

set_option maxHeartbeats 2000000 in
theorem specCheck_any (v : Value) (D : PDef) (w : World) (h : DView w v D) (hf : DFine D) :
    Calls Tryz.prog 21 #[v] w fun e w' => e = .returned (.int .i64 (checkF D)) ∧ Below w.heap.size w w' := by
  have hnc := hf.nc
  have hnp := hf.np
  have hni := hf.ni
  have hv := h
  obtain ⟨ac, cc, ap, cp, ai, ci, rfl, hc, hp, -⟩ := h.is
  clear h
  obtain ⟨vv, hvv⟩ : ∃ vv : Value, Hid (vv = .agg #[.string D.name, .slice ac D.nc cc, .slice ap D.np cp, .slice ai D.ni ci]) := ⟨_, rfl⟩
  have h1 := fun W (hb : Below w.heap.size w W) => l9Names_any _ D W (hv.below hb) hf
  have h2 := fun W (hb : Below w.heap.size w W) => l9Types_any _ D W (hv.below hb) hnc
  have h3 := fun W (hb : Below w.heap.size w W) => l9Once_any _ D W (hv.below hb) hnc hni
  have h4 := fun W (hb : Below w.heap.size w W) => l9AllParts_any _ D W (hv.below hb) hf
  obtain ⟨r, hr⟩ : ∃ r, Hid (checkF D = r) := ⟨_, rfl⟩
  have HC : Hid (checkF D = if namesF D = false then 1 else if typesF D = false then 2 else if onceF D = false then 3 else if 2 < D.ni then 6 else if allPartsF D = false then 5 else if nullF D then 4 else 0) := rfl
  go_enter Tryz.func21, Tryz.ntmps21
  have hB0 := box4_start w (.cells #[.string D.name, .slice ac D.nc cc, .slice ap D.np cp, .slice ai D.ni ci] 36)
  obtain ⟨hBw0, -⟩ := box4_below hB0
  go_wp2_with fail
  refine (h1 _ hBw0).mono ?_
  clear h1
  cases e1 : namesF D with
  | false =>
    rintro e w1 ⟨rfl, hb1⟩
    have HB : Hid (Below w.heap.size w w1) := hBw0.trans (hb1.mono (by simp))
    clear hb1 h2 h3 h4 hc hp hv
    go_wp2
    go_ret
    exact ⟨by rw [HC.out, e1]; rfl, HB.out⟩
  | true =>
  rintro e w1 ⟨rfl, hb1⟩
  have hB1 := box4_on hB0 hb1
  obtain ⟨hBw1, hs1⟩ := box4_below hB1
  obtain ⟨x0, x1, x2, x3⟩ := box4 hB1
  have hT := h2 _ hBw1
  clear hb1 h2 hB0 hBw0
  go_wp2_with fail
  refine hT.mono ?_
  cases e2 : typesF D with
  | false =>
    rintro e w2 ⟨rfl, hb2⟩
    have HB : Hid (Below w.heap.size w w2) := hBw1.trans (hb2.mono (by omega))
    clear hb2 h3 h4 hc hp hv hT
    go_wp2
    go_ret
    exact ⟨by rw [HC.out, e1, e2]; rfl, HB.out⟩
  | true =>
  rintro e w2 ⟨rfl, hb2⟩
  have hB2 := box4_on hB1 hb2
  obtain ⟨hBw2, hs2⟩ := box4_below hB2
  clear x0 x1 x2 x3
  obtain ⟨x0, x1, x2, x3⟩ := box4 hB2
  have hO := h3 _ hBw2
  clear hb2 h3 hB1 hBw1 hT hs1
  go_wp2_with fail
  refine hO.mono ?_
  cases e3 : onceF D with
  | false =>
    rintro e w3 ⟨rfl, hb3⟩
    have HB : Hid (Below w.heap.size w w3) := hBw2.trans (hb3.mono (by omega))
    clear hb3 h4 hc hp hv hO
    go_wp2
    go_ret
    exact ⟨by rw [HC.out, e1, e2, e3]; rfl, HB.out⟩
  | true =>
  rintro e w3 ⟨rfl, hb3⟩
  have hB3 := box4_on hB2 hb3
  obtain ⟨hBw3, hs3⟩ := box4_below hB3
  clear x0 x1 x2 x3
  obtain ⟨x0, x1, x2, x3⟩ := box4 hB3
  have hP := h4 _ hBw3
  clear hb3 h4 hB2 hBw2 hO hs2
  by_cases h6 : 2 < D.ni
  · have h6z : (2 : Int) < (D.ni : Int) := by omega
    have HB : Hid (Below w.heap.size w w3) := hBw3
    clear hc hp hv hP
    go_wp2
    go_ret
    exact ⟨by rw [HC.out, e1, e2, e3, if_pos h6]; rfl, HB.out⟩
  have h6z : ¬ (2 : Int) < (D.ni : Int) := by omega
  go_wp2_with fail
  refine hP.mono ?_
  cases e5 : allPartsF D with
  | false =>
    rintro e w4 ⟨rfl, hb4⟩
    have HB : Hid (Below w.heap.size w w4) := hBw3.trans (hb4.mono (by omega))
    clear hb4 hc hp hv hP
    go_wp2
    go_ret
    exact ⟨by rw [HC.out, e1, e2, e3, if_neg h6, e5]; rfl, HB.out⟩
  | true =>
  rintro e w4 ⟨rfl, hb4⟩
  have hB4 := box4_on hB3 hb4
  have HC2 : Hid (checkF D = if nullF D then 4 else 0) := by
    show _ = _
    rw [HC.out, e1, e2, e3, if_neg h6, e5]; rfl
  have HPR : Hid (∀ i, i < D.np → 0 ≤ (D.pri i).col ∧ (D.pri i).col < D.nc) := by
    intro i hi
    unfold allPartsF at e5
    exact partsF_in (of_decide_eq_true e5).2 hi
  clear hb4 hB3 hBw3 hP hs3 x0 x1 x2 x3 hv e1 e2 e3 e5 HC h6 h6z
  go_wp2
  go_loopg [3] D.np (fun q i wr => ∃ k : Nat, k ≤ D.np ∧ q = D.np - k ∧ i = .int .i64 k ∧ Below (w.heap.size + 1) (w.alloc (.cells #[.string D.name, .slice ac D.nc cc, .slice ap D.np cp, .slice ai D.ni ci] 36)) wr ∧ Hid (∀ i, i < k → (D.col (D.pri i).col.toNat).null = false))
  case atStart => exact ⟨0, Nat.zero_le _, rfl, rfl, hB4, fun j hj => absurd hj (Nat.not_lt_zero _)⟩
  case round =>
    clear hB4
    obtain ⟨k, hk, rfl, rfl, hB, HA⟩ := hrel
    obtain ⟨x0, x1, x2, x3⟩ := box4 hB
    obtain ⟨hBw, hsz⟩ := box4_below hB
    have HBw : Hid (Below w.heap.size w wr) := hBw
    by_cases hlt : k < D.np
    · have hkz : (k : Int) < (D.np : Int) := by omega
      obtain ⟨q0, q1⟩ := HPR.out k hlt
      obtain ⟨m, hm⟩ := Int.eq_ofNat_of_zero_le q0
      obtain ⟨b2, o2, rfl, hb2, hcs⟩ := (hp.below hBw).cells (by omega)
      obtain ⟨y0, -⟩ := hcs k hlt
      rw [hm] at y0 q1
      obtain ⟨b1, o1, rfl, hb1, hcc⟩ := (hc.below hBw).cells (by omega)
      obtain ⟨-, -, y2⟩ := hcc m (by omega)
      have HNX : Hid ((D.col (D.pri k).col.toNat).null = (D.col m).null) := by show _ = _; rw [hm]; rfl
      have HB : Hid (Below (w.heap.size + 1) (w.alloc (.cells #[.string D.name, .slice (some ⟨b1, o1, none⟩) D.nc cc, .slice (some ⟨b2, o2, none⟩) D.np cp, .slice ai D.ni ci] 36)) wr) := hB
      cases hnn : (D.col m).null with
      | true =>
        have HF : Hid (nullF D = true) := by
          show _ = _
          unfold nullF
          exact decide_eq_true ⟨k, hlt, HNX.out.trans hnn⟩
        rw [hnn] at y2
        clear hcs hcc hc hp hB hBw HA HPR hm q0 hf HNX hnn
        go_wp2_with fail
        go_quiet (fail)
        go_wp2
        go_ret
        exact ⟨by rw [HC2.out, HF.out]; rfl, HBw.out.trans ⟨rfl, rfl, rfl, Nat.le_refl _, fun _ _ => rfl⟩⟩
      | false =>
        have HN : Hid (∀ i, i < k + 1 → (D.col (D.pri i).col.toNat).null = false) := by
          intro i hi
          by_cases hj' : i < k
          · exact HA.out i hj'
          · obtain rfl : i = k := by omega
            exact HNX.out.trans hnn
        rw [hnn] at y2
        clear hcs hcc hc hp hB hBw HA HPR hm q0 hf HNX hnn
        go_wp2_with fail
        go_quiet (fail)
        go_wp2
        go_roundg (D.np - (k + 1))
        case measure => omega
        case rel => exact ⟨k + 1, by omega, rfl, by go_num, HB.out.trans ⟨rfl, rfl, rfl, Nat.le_refl _, fun _ _ => rfl⟩, HN⟩
    · have hkz : ¬ (k : Int) < (D.np : Int) := by omega
      obtain rfl : k = D.np := by omega
      have HF : Hid (nullF D = false) := by
        show _ = _
        unfold nullF
        refine decide_eq_false (fun ⟨i, hi, h⟩ => ?_)
        rw [HA.out i hi] at h
        cases h
      clear hc hp hB hBw HA HPR hf
      go_wp2
      go_ret
      exact ⟨by rw [HC2.out, HF.out]; rfl, HBw.out⟩
end Go.Proofs.YtkakkjnbhklfpaaGreatDoor

