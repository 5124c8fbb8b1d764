/-
  Together: NodeKindI, BytesEq, NodeSameI, NodeSizeI
-/
import Derived.Test.YtaiinlcdfeboiaaNP6
import Derived.Test.YtaiinlcdfeboiaaNP1
import Derived.Deep.LoopGhost
import Derived.Deep.RegionHeld3
/-
  The program's nodeOf and kindNodeOk.
-/
namespace Go.Proofs.Ytaiinlcdfeboiaa
open Go.RowKit
set_option maxRecDepth 4000

set_option maxHeartbeats 1000000 in
theorem nodeOf_leaf (a b : Option Addr) (n c m d : Nat) (w : World) :
    Calls Try.prog 38 #[leafV (.slice a n c) (.slice b m d)] w fun e w' => e = .returned (.agg #[.bool true, .slice a n c, .slice b m d, .slice none 0 0]) ∧ Below w.heap.size w w' := by
  have hq := as_leaf_leaf a b n c m d
  have HB : Hid (Below w.heap.size w ((w.alloc (Obj.cells #[Value.bool true, Value.slice a n c, Value.slice b m d, Value.slice none 0 0] 27)).alloc (Obj.cells #[Value.slice a n c, Value.slice b m d] 87))) := ((Below.refl _ _).alloc (Nat.le_refl _) _).alloc (by simp) _
  unfold leafV
  go_enter Try.func38, Try.ntmps38
  go_wp2
  exact bodyPost_ret (v := .agg #[.bool true, .slice a n c, .slice b m d, .slice none 0 0]) (by simp [results, Try.results38, go_sem]) rfl ⟨rfl, HB.out⟩

set_option maxHeartbeats 1000000 in
theorem nodeOf_inner (a b : Option Addr) (n c m d : Nat) (w : World) :
    Calls Try.prog 38 #[innerV (.slice a n c) (.slice b m d)] w fun e w' => e = .returned (.agg #[.bool false, .slice a n c, .slice none 0 0, .slice b m d]) ∧ Below w.heap.size w w' := by
  have hq := as_inner_leaf a b n c m d
  have hq2 := as_inner_inner a b n c m d
  have HB : Hid (Below w.heap.size w (((w.alloc (Obj.cells #[Value.bool false, Value.slice a n c, Value.slice none 0 0, Value.slice b m d] 27)).alloc (Obj.cells #[Value.slice none 0 0, Value.slice none 0 0] 87)).alloc (Obj.cells #[Value.slice a n c, Value.slice b m d] 89))) := (((Below.refl _ _).alloc (Nat.le_refl _) _).alloc (by simp) _).alloc (by simp; omega) _
  unfold innerV
  go_enter Try.func38, Try.ntmps38
  go_wp2
  exact bodyPost_ret (v := .agg #[.bool false, .slice a n c, .slice none 0 0, .slice b m d]) (by simp [results, Try.results38, go_sem]) rfl ⟨rfl, HB.out⟩

/-- What a leaf's kind asks for. -/
def LeafOk (n : Nat) (f : Nat → ByteArray) (m : Nat) (g : Nat → ByteArray) : Prop := 0 < n ∧ m = n ∧ Rises f n ∧ NoneL 48 n f ∧ NoneL 60 m g
def InnerOk (n : Nat) (f : Nat → ByteArray) (m : Nat) (g : Nat → Int) : Prop := m = n + 1 ∧ Rises f n ∧ AllSec m g

set_option maxHeartbeats 4000000 in
theorem kindOk_leaf (a b : Option Addr) (n c m d : Nat) (f g : Nat → ByteArray) (w : World) (hk : TxV w a n c f) (hv : TxV w b m d g) (hn : n ≤ 1048576) (hm : m ≤ 1048576) :
    Calls Try.prog 42 #[leafV (.slice a n c) (.slice b m d)] w (SaysB w (LeafOk n f m g)) := by
  have hq := as_leaf_leaf a b n c m d
  obtain ⟨W0, hW0⟩ : ∃ W0, Hid (w.alloc (Obj.cells #[Value.slice a n c, Value.slice b m d] 87) = W0) := ⟨_, rfl⟩
  have hb0 : Below w.heap.size w W0 := by rw [← hW0.out]; exact (Below.refl _ _).alloc (Nat.le_refl _) _
  have HX : Hid (∀ W, Below W0.heap.size W0 W → W.cell? ⟨w.heap.size, 0, none⟩ = some (.slice a n c) ∧ W.cell? ⟨w.heap.size, 1, none⟩ = some (.slice b m d)) := by
    intro W hb
    rw [← hW0.out] at hb
    constructor
    · rw [hb.cell (by simp)]; simp [go_sem]
    · rw [hb.cell (by simp)]; simp [go_sem]
  have HBK : Hid (∀ W, Below W0.heap.size W0 W → Below w.heap.size w W) := fun W hb => hb0.trans (hb.mono hb0.size)
  have HK : Hid (TxV w a n c f) := hk
  have HV : Hid (TxV w b m d g) := hv
  obtain ⟨P, hP⟩ : ∃ P : Prop, Hid (LeafOk n f m g = P) := ⟨_, rfl⟩
  rw [hP.out]
  have HP : Hid (P ↔ LeafOk n f m g) := by show _ ↔ _; rw [hP.out]
  clear hP hk hv
  unfold leafV
  go_enter Try.func42, Try.ntmps42
  by_cases h0 : n = 0
  · have HN : Hid (¬ P) := fun h => by have := (HP.out.1 h).1; omega
    subst h0
    have hb1 := HBK.out W0 (Below.refl _ _)
    obtain ⟨x0, x1⟩ := HX.out W0 (Below.refl _ _)
    clear HP HX HK HV HBK
    go_wp2_with (rw [hW0.out])
    go_ret
    exact ⟨_, rfl, ⟨(fun h => by cases h), fun h => absurd h HN.out⟩, hb1⟩
  have hk0 : (0 : Int) < (n : Int) := by omega
  by_cases h1 : m = n
  case neg =>
    have HN : Hid (¬ P) := fun h => h1 (HP.out.1 h).2.1
    have hmn : ((m : Int) == (n : Int)) = false := by simp; omega
    have hb1 := HBK.out W0 (Below.refl _ _)
    obtain ⟨x0, x1⟩ := HX.out W0 (Below.refl _ _)
    clear HP HX HK HV HBK
    go_wp2_with (rw [hW0.out])
    go_ret
    exact ⟨_, rfl, ⟨(fun h => by cases h), fun h => absurd h HN.out⟩, hb1⟩
  subst h1
  have hmn : ((m : Int) == (m : Int)) = true := by simp
  have hA := fun W hb => isAsc_any a m c f W (HK.out.below (HBK.out W hb)) hn
  obtain ⟨x0, x1⟩ := HX.out W0 (Below.refl _ _)
  go_wp2_with (first | rw [hW0.out] | fail)
  refine (hA W0 (Below.refl _ _)).mono ?_
  rintro e w1 ⟨r, rfl, hr, hb1⟩
  have HR : Hid (r = true ↔ Rises f m) := hr
  have HB1 : Hid (Below W0.heap.size W0 w1) := hb1
  clear hA hr hb1 x0 x1
  cases r with
  | false =>
    have HN : Hid (¬ P) := fun h => by have := HR.out.2 (HP.out.1 h).2.2.1; cases this
    have hbw := HBK.out _ HB1.out
    clear HP HX HK HV HBK HR HB1
    go_wp2
    go_ret
    exact ⟨_, rfl, ⟨(fun h => by cases h), fun h => absurd h HN.out⟩, hbw⟩
  | true =>
  have HR1 : Hid (Rises f m) := HR.out.1 rfl
  clear HR
  have hL := noneLonger_any a m c f 48 w1 (HK.out.below (HBK.out _ HB1.out)) (by omega)
  obtain ⟨x0, x1⟩ := HX.out _ HB1.out
  go_wp2_with fail
  refine hL.mono ?_
  rintro e w2 ⟨r, rfl, hr, hb2⟩
  have HR : Hid (r = true ↔ NoneL 48 m f) := hr
  have HB2 : Hid (Below W0.heap.size W0 w2) := HB1.out.trans (hb2.mono HB1.out.size)
  clear hL hr hb2 HB1 x0 x1
  cases r with
  | false =>
    have HN : Hid (¬ P) := fun h => by have := HR.out.2 (HP.out.1 h).2.2.2.1; cases this
    have hbw := HBK.out _ HB2.out
    clear HP HX HK HV HBK HR HB2
    go_wp2
    go_ret
    exact ⟨_, rfl, ⟨(fun h => by cases h), fun h => absurd h HN.out⟩, hbw⟩
  | true =>
  have HR2 : Hid (NoneL 48 m f) := HR.out.1 rfl
  clear HR
  have hL := noneLonger_any b m d g 60 w2 (HV.out.below (HBK.out _ HB2.out)) (by omega)
  obtain ⟨x0, x1⟩ := HX.out _ HB2.out
  go_wp2_with fail
  refine hL.mono ?_
  rintro e w3 ⟨r, rfl, hr, hb3⟩
  have HR : Hid (r = true ↔ P) := ⟨fun h => HP.out.2 ⟨by omega, rfl, HR1.out, HR2.out, hr.1 h⟩, fun h => hr.2 (HP.out.1 h).2.2.2.2⟩
  have HB3 : Hid (Below w.heap.size w w3) := HBK.out _ (HB2.out.trans (hb3.mono HB2.out.size))
  clear hL hr hb3 HB2 x0 x1 HX HK HV HBK HP HR1 HR2
  go_wp2
  go_ret
  exact ⟨_, rfl, HR.out, HB3.out⟩

theorem inner_keys (a b : Option Addr) (n c m d : Nat) (W : World) : (Instr.field 89 (.agg #[.slice a n c, .slice b m d]) 0).run Try.prog W = .ok (.slice a n c) W := by kernel_rfl

set_option maxHeartbeats 4000000 in
theorem kindOk_inner (a b : Option Addr) (n c m d : Nat) (f : Nat → ByteArray) (g : Nat → Int) (w : World) (hk : TxV w a n c f) (hv : NuV w b m d g) (hn : n ≤ 1048576) (hm : m ≤ 1048577) :
    Calls Try.prog 42 #[innerV (.slice a n c) (.slice b m d)] w (SaysB w (InnerOk n f m g)) := by
  have hq := as_inner_leaf a b n c m d
  have hq2 := as_inner_inner a b n c m d
  obtain ⟨W0, hW0⟩ : ∃ W0, Hid ((w.alloc (Obj.cells #[Value.slice none 0 0, Value.slice none 0 0] 87)).alloc (Obj.cells #[Value.slice a n c, Value.slice b m d] 89) = W0) := ⟨_, rfl⟩
  have hb0 : Below w.heap.size w W0 := by rw [← hW0.out]; exact ((Below.refl _ _).alloc (Nat.le_refl _) _).alloc (by simp) _
  have HX : Hid (∀ W, Below W0.heap.size W0 W → W.cell? ⟨w.heap.size + 1, 0, none⟩ = some (.slice a n c) ∧ W.cell? ⟨w.heap.size + 1, 1, none⟩ = some (.slice b m d)) := by
    intro W hb
    rw [← hW0.out] at hb
    constructor
    · rw [hb.cell (by simp)]; simp [go_sem]
    · rw [hb.cell (by simp)]; simp [go_sem]
  have HBK : Hid (∀ W, Below W0.heap.size W0 W → Below w.heap.size w W) := fun W hb => hb0.trans (hb.mono hb0.size)
  have HK : Hid (TxV w a n c f) := hk
  have HV : Hid (NuV w b m d g) := hv
  obtain ⟨P, hP⟩ : ∃ P : Prop, Hid (InnerOk n f m g = P) := ⟨_, rfl⟩
  rw [hP.out]
  have HP : Hid (P ↔ InnerOk n f m g) := by show _ ↔ _; rw [hP.out]
  have hw1 : IntKind.i64.wrap ((n : Int) + 1) = (n : Int) + 1 := by rw [IntKind.wrap_i64]; omega
  clear hP hk hv
  unfold innerV
  go_enter Try.func42, Try.ntmps42
  obtain ⟨x0, x1⟩ := HX.out W0 (Below.refl _ _)
  by_cases h1 : m = n + 1
  case neg =>
    have HN : Hid (¬ P) := fun h => h1 (HP.out.1 h).1
    have hmn : ((m : Int) == (n : Int) + 1) = false := by simp; omega
    have hb1 := HBK.out W0 (Below.refl _ _)
    clear HP HX HK HV HBK
    go_wp2_with (rw [hW0.out])
    go_ret
    exact ⟨_, rfl, ⟨(fun h => by cases h), fun h => absurd h HN.out⟩, hb1⟩
  have hmn : ((m : Int) == (n : Int) + 1) = true := by subst h1; simp
  have H1 : Hid (m = n + 1) := h1
  clear h1
  have hA := fun W hb => isAsc_any a n c f W (HK.out.below (HBK.out W hb)) hn
  go_wp2_with (first | rw [hW0.out] | fail)
  refine (hA W0 (Below.refl _ _)).mono ?_
  rintro e w1 ⟨r, rfl, hr, hb1⟩
  have HR : Hid (r = true ↔ Rises f n) := hr
  have HB1 : Hid (Below W0.heap.size W0 w1) := hb1
  clear hA hr hb1 x0 x1
  cases r with
  | false =>
    have HN : Hid (¬ P) := fun h => by have := HR.out.2 (HP.out.1 h).2.1; cases this
    have hbw := HBK.out _ HB1.out
    clear HP HX HK HV HBK HR HB1 H1
    go_wp2
    go_ret
    exact ⟨_, rfl, ⟨(fun h => by cases h), fun h => absurd h HN.out⟩, hbw⟩
  | true =>
  have HR1 : Hid (Rises f n) := HR.out.1 rfl
  clear HR
  have hL := containsSec_any b m d g w1 (HV.out.below (HBK.out _ HB1.out)) (by omega)
  obtain ⟨x0, x1⟩ := HX.out _ HB1.out
  obtain ⟨Q, hQ⟩ : ∃ Q : Prop, Hid ((¬ AllSec m g) = Q) := ⟨_, rfl⟩
  rw [hQ.out] at hL
  go_wp2_with fail
  refine hL.mono ?_
  rintro e w2 ⟨r, rfl, hr, hb2⟩
  have HR : Hid ((!r) = true ↔ P) := by
    rw [← hQ.out] at hr
    constructor
    · intro h
      refine HP.out.2 ⟨H1.out, HR1.out, Classical.not_not.1 (fun hn => ?_)⟩
      rw [hr.2 hn] at h; cases h
    · intro h
      cases r with
      | false => rfl
      | true => exact absurd (HP.out.1 h).2.2 (hr.1 rfl)
  have HB3 : Hid (Below w.heap.size w w2) := HBK.out _ (HB1.out.trans (hb2.mono HB1.out.size))
  clear hL hr hb2 HB1 x0 x1 HX HK HV HBK HP HR1 H1 hQ
  go_wp2
  go_ret
  exact ⟨_, rfl, HR.out, HB3.out⟩
end Go.Proofs.Ytaiinlcdfeboiaa

/-
  Texts that are held against each other.
-/
namespace Go.Proofs.Ytaiinlcdfeboiaa
open Go.RowKit
set_option maxRecDepth 4000

theorem bytes_inj {a b : ByteArray} : a.toList = b.toList ↔ a = b := by
  constructor
  · intro h
    rw [ByteArray.toList_eq, ByteArray.toList_eq] at h
    obtain ⟨⟨x⟩⟩ := a
    obtain ⟨⟨y⟩⟩ := b
    simp only at h
    rw [h]
  · rintro rfl; rfl
theorem bytes_eq {a b : ByteArray} (h : a = b) : (a.toList == b.toList) = true := by rw [h]; exact beq_self_eq_true _
theorem bytes_ne {a b : ByteArray} (h : a ≠ b) : (a.toList == b.toList) = false := by
  cases e : (a.toList == b.toList) with
  | false => rfl
  | true => exact absurd (bytes_inj.1 (eq_of_beq e)) h
end Go.Proofs.Ytaiinlcdfeboiaa

/-
  The program's SameNode comes to the plain one.
-/
namespace Go.Proofs.Ytaiinlcdfeboiaa
open Go.RowKit
set_option maxRecDepth 4000

set_option maxHeartbeats 2000000 in
theorem equalTx_any (a1 a2 : Option Addr) (n c1 m c2 : Nat) (f g : Nat → ByteArray) (w : World) (h1 : TxV w a1 n c1 f) (h2 : TxV w a2 m c2 g) (hn : n ≤ 1048576) :
    Calls Try.prog 48 #[.slice a1 n c1, .slice a2 m c2] w fun e w' => e = .returned (.bool (sameTx n f m g)) ∧ Below w.heap.size w w' := by
  by_cases hnm : n = m
  · subst hnm
    have hq : ((n : Int) != (n : Int)) = false := bne_self_eq_false _
    go_enter Try.func48, Try.ntmps48
    go_wp2
    go_loopg [13] n (fun q i wr => ∃ k : Nat, k ≤ n ∧ q = n - k ∧ i = .int .i64 k ∧ Below w.heap.size w wr ∧ Hid (∀ i, i < k → f i = g i))
    case atStart => exact ⟨0, Nat.zero_le _, rfl, rfl, Below.refl _ _, fun j hj => absurd hj (Nat.not_lt_zero _)⟩
    case round =>
      obtain ⟨k, hk, rfl, rfl, hB, HA⟩ := hrel
      by_cases hlt : k < n
      · have hkz : (k : Int) < (n : Int) := by omega
        obtain ⟨b1, o1, rfl, hb1, x0⟩ := txv_at (h1.below hB) hlt
        obtain ⟨b2, o2, rfl, hb2, y0⟩ := txv_at (h2.below hB) hlt
        have HB : Hid (Below w.heap.size w wr) := hB
        clear h1 h2 hB hq
        by_cases hfg : f k = g k
        · have HN : Hid (∀ i, i < k + 1 → f i = g i) := by
            intro i hi
            by_cases e : i < k
            · exact HA.out i e
            · obtain rfl : i = k := by omega
              exact hfg
          rw [← hfg] at y0
          clear HA hfg
          obtain ⟨p0, hp0⟩ : ∃ x, Hid (f k = x) := ⟨_, rfl⟩
          rw [hp0.out] at x0 y0
          have e0 := bytes_eq (a := p0) rfl
          go_wp2
          go_region
          all_goals go_wp2
          all_goals
            go_roundg (n - (k + 1))
            case measure => omega
            case rel => exact ⟨k + 1, by omega, rfl, by go_num, by first | exact HB.out.drew | exact HB.out, HN⟩
        · have HF : Hid (sameTx n f n g = false) := sameTx_at hlt hfg
          have e0 := bytes_ne hfg
          obtain ⟨p0, hp0⟩ : ∃ x, Hid (f k = x) := ⟨_, rfl⟩
          obtain ⟨p1, hp1⟩ : ∃ x, Hid (g k = x) := ⟨_, rfl⟩
          rw [hp0.out] at x0 e0
          rw [hp1.out] at y0 e0
          clear HA hfg
          go_wp2
          go_region
          all_goals go_wp2
          all_goals
            go_ret
            exact ⟨by rw [HF.out]; rfl, by first | exact HB.out.drew | exact HB.out⟩
      · have hkz : ¬ (k : Int) < (n : Int) := by omega
        obtain rfl : k = n := by omega
        have HF : Hid (sameTx k f k g = true) := sameTx_yes HA.out
        clear h1 h2
        go_wp2
        go_ret
        exact ⟨by rw [HF.out]; rfl, hB⟩
  · have hq : ((n : Int) != (m : Int)) = true := by simp; omega
    have HF : Hid (sameTx n f m g = false) := sameTx_len hnm
    clear h1 h2 hnm
    go_enter Try.func48, Try.ntmps48
    go_wp2
    go_ret
    exact ⟨by rw [HF.out]; rfl, Below.refl _ _⟩

set_option maxHeartbeats 2000000 in
theorem equalNu_any (a1 a2 : Option Addr) (n c1 m c2 : Nat) (f g : Nat → Int) (w : World) (h1 : NuV w a1 n c1 f) (h2 : NuV w a2 m c2 g) (hn : n ≤ 1048576) :
    Calls Try.prog 49 #[.slice a1 n c1, .slice a2 m c2] w fun e w' => e = .returned (.bool (sameNu n f m g)) ∧ Below w.heap.size w w' := by
  by_cases hnm : n = m
  · subst hnm
    have hq : ((n : Int) != (n : Int)) = false := bne_self_eq_false _
    go_enter Try.func49, Try.ntmps49
    go_wp2
    go_loopg [13] n (fun q i wr => ∃ k : Nat, k ≤ n ∧ q = n - k ∧ i = .int .i64 k ∧ Below w.heap.size w wr ∧ Hid (∀ i, i < k → f i = g i))
    case atStart => exact ⟨0, Nat.zero_le _, rfl, rfl, Below.refl _ _, fun j hj => absurd hj (Nat.not_lt_zero _)⟩
    case round =>
      obtain ⟨k, hk, rfl, rfl, hB, HA⟩ := hrel
      by_cases hlt : k < n
      · have hkz : (k : Int) < (n : Int) := by omega
        obtain ⟨b1, o1, rfl, hb1, x0⟩ := nuv_at (h1.below hB) hlt
        obtain ⟨b2, o2, rfl, hb2, y0⟩ := nuv_at (h2.below hB) hlt
        have HB : Hid (Below w.heap.size w wr) := hB
        clear h1 h2 hB hq
        by_cases hfg : f k = g k
        · have HN : Hid (∀ i, i < k + 1 → f i = g i) := by
            intro i hi
            by_cases e : i < k
            · exact HA.out i e
            · obtain rfl : i = k := by omega
              exact hfg
          rw [← hfg] at y0
          clear HA hfg
          obtain ⟨p0, hp0⟩ : ∃ x, Hid (f k = x) := ⟨_, rfl⟩
          rw [hp0.out] at x0 y0
          have e0 : (p0 != p0) = false := bne_self_eq_false _
          go_wp2
          go_region
          all_goals go_wp2
          all_goals
            go_roundg (n - (k + 1))
            case measure => omega
            case rel => exact ⟨k + 1, by omega, rfl, by go_num, by first | exact HB.out.drew | exact HB.out, HN⟩
        · have HF : Hid (sameNu n f n g = false) := sameNu_at hlt hfg
          have e0 : (f k != g k) = true := by simp [bne, hfg]
          obtain ⟨p0, hp0⟩ : ∃ x, Hid (f k = x) := ⟨_, rfl⟩
          obtain ⟨p1, hp1⟩ : ∃ x, Hid (g k = x) := ⟨_, rfl⟩
          rw [hp0.out] at x0 e0
          rw [hp1.out] at y0 e0
          clear HA hfg
          go_wp2
          go_region
          all_goals go_wp2
          all_goals
            go_ret
            exact ⟨by rw [HF.out]; rfl, by first | exact HB.out.drew | exact HB.out⟩
      · have hkz : ¬ (k : Int) < (n : Int) := by omega
        obtain rfl : k = n := by omega
        have HF : Hid (sameNu k f k g = true) := sameNu_yes HA.out
        clear h1 h2
        go_wp2
        go_ret
        exact ⟨by rw [HF.out]; rfl, hB⟩
  · have hq : ((n : Int) != (m : Int)) = true := by simp; omega
    have HF : Hid (sameNu n f m g = false) := sameNu_len hnm
    clear h1 h2 hnm
    go_enter Try.func49, Try.ntmps49
    go_wp2
    go_ret
    exact ⟨by rw [HF.out]; rfl, Below.refl _ _⟩

set_option maxHeartbeats 4000000 in
theorem implSameNd_any (u v : Value) (D E : PNode) (w : World) (h1 : NdView w u D) (h2 : NdView w v E) (hf : NFine D) :
    Calls Try.prog 19 #[u, v] w fun e w' => e = .returned (.bool (sameNd D E)) ∧ Below w.heap.size w w' := by
  obtain ⟨ac, cc, ap, cp, ai, ci, rfl, hc1, hp1, hi1⟩ := h1.is
  obtain ⟨bc, dc, bp, dp, bi, di, rfl, hc2, hp2, hi2⟩ := h2.is
  clear h1 h2
  have hB0 : Below (w.heap.size + 1 + 1) ((w.alloc (.cells #[.bool D.leaf, .slice ac D.nk cc, .slice ap D.nv cp, .slice ai D.nd ci] 27)).alloc (.cells #[.bool E.leaf, .slice bc E.nk dc, .slice bp E.nv dp, .slice bi E.nd di] 27)) ((w.alloc (.cells #[.bool D.leaf, .slice ac D.nk cc, .slice ap D.nv cp, .slice ai D.nd ci] 27)).alloc (.cells #[.bool E.leaf, .slice bc E.nk dc, .slice bp E.nv dp, .slice bi E.nd di] 27)) := Below.refl _ _
  obtain ⟨hBw0, -⟩ := nbox44_below hB0
  have HO : Hid (sameNd D E = (D.leaf == E.leaf && sameTx D.nk D.key E.nk E.key && sameTx D.nv D.val E.nv E.val && sameNu D.nd D.kid E.nd E.kid)) := rfl
  obtain ⟨S, hS⟩ : ∃ x, Hid (sameNd D E = x) := ⟨_, rfl⟩
  rw [hS.out] at HO ⊢
  cases q0 : (D.leaf == E.leaf) with
  | false =>
    have HF : Hid (S = false) := by show _ = _; rw [HO.out, q0]; rfl
    clear hc1 hc2 hp1 hp2 hi1 hi2 HO hS
    go_enter Try.func19, Try.ntmps19
    go_wp2
    go_ret
    exact ⟨by rw [HF.out]; rfl, hBw0⟩
  | true =>
  have hV1 := equalTx_any ac bc D.nk cc E.nk dc D.key E.key _ (hc1.below hBw0) (hc2.below hBw0) hf.nk
  go_enter Try.func19, Try.ntmps19
  go_wp2_with fail
  refine hV1.mono ?_
  clear hV1 hc1 hc2
  cases q1 : sameTx D.nk D.key E.nk E.key with
  | false =>
    rintro e w1 ⟨rfl, hb1⟩
    have HF : Hid (S = false) := by show _ = _; rw [HO.out, q1]; simp
    have HB : Hid (Below w.heap.size w w1) := (nbox44_below (nbox44_on hB0 hb1)).1
    clear hp1 hp2 hi1 hi2 HO hS hb1 q0
    go_wp2
    go_ret
    exact ⟨by rw [HF.out]; rfl, HB.out⟩
  | true =>
  rintro e w1 ⟨rfl, hb1⟩
  have hB1 := nbox44_on hB0 hb1
  obtain ⟨hBw1, hs1⟩ := nbox44_below hB1
  obtain ⟨⟨x0, x1, x2, x3⟩, y0, y1, y2, y3⟩ := nbox44 hB1
  have hV2 := equalTx_any ap bp D.nv cp E.nv dp D.val E.val w1 (hp1.below hBw1) (hp2.below hBw1) hf.nv
  clear hb1 hB0 hBw0
  go_wp2_with fail
  refine hV2.mono ?_
  clear hV2 hp1 hp2
  cases q2 : sameTx D.nv D.val E.nv E.val with
  | false =>
    rintro e w2 ⟨rfl, hb2⟩
    have HF : Hid (S = false) := by show _ = _; rw [HO.out, q2]; simp
    have HB : Hid (Below w.heap.size w w2) := (nbox44_below (nbox44_on hB1 hb2)).1
    clear hi1 hi2 HO hS hb2 q0 q1 x0 x1 x2 x3 y0 y1 y2 y3
    go_wp2
    go_ret
    exact ⟨by rw [HF.out]; rfl, HB.out⟩
  | true =>
  rintro e w2 ⟨rfl, hb2⟩
  have hB2 := nbox44_on hB1 hb2
  obtain ⟨hBw2, hs2⟩ := nbox44_below hB2
  clear x0 x1 x2 x3 y0 y1 y2 y3
  obtain ⟨⟨x0, x1, x2, x3⟩, y0, y1, y2, y3⟩ := nbox44 hB2
  have hV3 := equalNu_any ai bi D.nd ci E.nd di D.kid E.kid w2 (hi1.below hBw2) (hi2.below hBw2) hf.nd
  clear hb2 hB1 hBw1 hs1
  go_wp2_with fail
  refine hV3.mono ?_
  rintro e w3 ⟨rfl, hb3⟩
  have HF : Hid (S = sameNu D.nd D.kid E.nd E.kid) := by show _ = _; rw [HO.out, q0, q1, q2]; simp
  have HB : Hid (Below w.heap.size w w3) := (nbox44_below (nbox44_on hB2 hb3)).1
  clear hi1 hi2 HO hS hb3 q0 q1 q2 x0 x1 x2 x3 y0 y1 y2 y3 hV3
  obtain ⟨R, hR⟩ : ∃ x, Hid (sameNu D.nd D.kid E.nd E.kid = x) := ⟨_, rfl⟩
  rw [hR.out] at HF ⊢
  go_wp2
  go_ret
  exact ⟨by rw [HF.out]; first | rfl | simp, HB.out⟩
end Go.Proofs.Ytaiinlcdfeboiaa

/-
  The program's SizeOf.
-/
namespace Go.Proofs.Ytaiinlcdfeboiaa
open Go.RowKit
set_option maxRecDepth 4000

theorem putLen (a : Option Addr) (m c : Nat) (g : Nat → Int) (w : World) (hm : NuV w a m c g) (hm1 : m ≤ 1048577) :
    Calls Try.prog 33 #[.slice none 0 0, .slice a m c] w fun e w' => ∃ g2 c2, e = .returned (.slice (some ⟨g2, 0, none⟩) (numL g m).length c2) ∧ Below w.heap.size w w' := by
  refine (putNums_many none [] 0 a m c g w ⟨Nat.le_refl _, fun i hi => absurd hi (Nat.not_lt_zero _), fun h => absurd h (Nat.lt_irrefl _)⟩ (fun _ => ⟨rfl, rfl⟩) (by simp) hm hm1).mono ?_
  rintro e w2 ⟨v2, rfl, hr2, hb2⟩
  obtain ⟨g2, c2, rfl, -⟩ := hr2
  exact ⟨g2, c2, rfl, hb2⟩

set_option maxHeartbeats 1000000 in
theorem mark_leaf (a b : Option Addr) (n c m d : Nat) (w : World) :
    Calls Try.prog 98 #[.agg #[.slice a n c, .slice b m d]] w fun e w' => e = .returned (.int .i64 1) ∧ Below w.heap.size w w' := by
  have hb0 : Below w.heap.size w (w.alloc (.cells #[.slice a n c, .slice b m d] 87)) := (Below.refl _ _).alloc (Nat.le_refl _) _
  go_enter Try.func98, Try.ntmps98
  go_wp2
  go_ret
  exact ⟨rfl, hb0⟩

set_option maxHeartbeats 4000000 in
theorem implSizeOf_leaf (D : PNode) (hleaf : D.leaf = true) (ac : Option Addr) (cc : Nat) (ap : Option Addr) (cp : Nat) (ai : Option Addr) (ci : Nat) (w : World) (hc : TxV w ac D.nk cc D.key) (hp : TxV w ap D.nv cp D.val) (hi : NuV w ai D.nd ci D.kid) (hf : NFine D) :
    Calls Try.prog 16 #[.agg #[.bool true, .slice ac D.nk cc, .slice ap D.nv cp, .slice ai D.nd ci]] w fun e w' => e = .returned (.int .i64 (sizeN D)) ∧ Below w.heap.size w w' := by
  have hB0 := nbox_start w (.cells #[.bool true, .slice ac D.nk cc, .slice ap D.nv cp, .slice ai D.nd ci] 27)
  have hK := kindOf_leaf ac ap ai D.nk cc D.nv cp D.nd ci (w.alloc (.cells #[.bool true, .slice ac D.nk cc, .slice ap D.nv cp, .slice ai D.nd ci] 27))
  have hm : ∀ W : World, (method 227 87 (.agg #[.slice ac D.nk cc, .slice ap D.nv cp]) "loop.example/g00322/impl.mark").run Try.prog W = .ok (98, .agg #[.slice ac D.nk cc, .slice ap D.nv cp]) W := fun _ => by kernel_rfl
  have hn : ∀ W : World, (nilAhead 227 87 (.agg #[.slice ac D.nk cc, .slice ap D.nv cp]) "loop.example/g00322/impl.mark").run Try.prog W = .ok (some false) W := fun _ => by kernel_rfl
  have HF : Hid (NFine D) := hf
  have HC : Hid (TxV w ac D.nk cc D.key) := hc
  have HP : Hid (TxV w ap D.nv cp D.val) := hp
  have HI : Hid (NuV w ai D.nd ci D.kid) := hi
  have hA0 := numL_len (two 1 D.nk) 2
  have hB0' := textsL_len hf.key D.nk (Nat.le_refl _)
  have hC0 : (textsL D.val D.nv).length ≤ 1048579 * 1048576 := by
    have := hf.nv; have := hf.nd
    have := textsL_len hf.val D.nv (Nat.le_refl _); omega
  have hnk := hf.nk
  have HE : Hid (sizeN D = ((numL (two 1 D.nk) 2).length : Int) + ((textsL D.key D.nk).length : Int) + ((textsL D.val D.nv).length : Int)) := by
    show _ = _
    simp only [sizeN, bytesN, headL, hleaf, numL_two, List.length_append]; simp; try omega
  have hPN : ∀ (W : World) (a : Option Addr), NuV W a 2 2 (two 1 D.nk) → Calls Try.prog 33 #[.slice none 0 0, .slice a 2 2] W fun e w' => ∃ g2 c2, e = .returned (.slice (some ⟨g2, 0, none⟩) (numL (two 1 D.nk) 2).length c2) ∧ Below W.heap.size W w' := fun W a h => putLen a 2 2 _ W h (by omega)
  have hPT : ∀ W : World, Below w.heap.size w W → Calls Try.prog 43 #[.slice ac D.nk cc] W fun e w' => e = .returned (.int .i64 (textsL D.key D.nk).length) ∧ Below W.heap.size W w' := fun W hb => sizeOfTexts_any ac D.nk cc D.key W (HC.out.below hb) HF.out.nk HF.out.key
  have hPR : ∀ W : World, Below w.heap.size w W → Calls Try.prog 44 #[.iface 87 (.agg #[.slice ac D.nk cc, .slice ap D.nv cp])] W fun e w' => e = .returned (.int .i64 (textsL D.val D.nv).length) ∧ Below W.heap.size W w' := fun W hb => sizeOfRest_leaf ac ap D.nk cc D.nv cp D.val W (HP.out.below hb) HF.out.nv HF.out.val
  obtain ⟨A, hA⟩ : ∃ x, Hid ((numL (two 1 D.nk) 2).length = x) := ⟨_, rfl⟩
  obtain ⟨B, hB⟩ : ∃ x, Hid ((textsL D.key D.nk).length = x) := ⟨_, rfl⟩
  obtain ⟨C, hC⟩ : ∃ x, Hid ((textsL D.val D.nv).length = x) := ⟨_, rfl⟩
  simp only [hA.out, hB.out, hC.out] at hPN hPT hPR HE hA0 hB0' hC0
  have hw1 : IntKind.i64.wrap ((A : Int) + (B : Int)) = (A : Int) + (B : Int) := by rw [IntKind.wrap_i64]; omega
  have hw2 : IntKind.i64.wrap ((A : Int) + (B : Int) + (C : Int)) = (A : Int) + (B : Int) + (C : Int) := by rw [IntKind.wrap_i64]; omega
  clear hf hc hp hi hleaf
  go_enter Try.func16, Try.ntmps16
  go_wp2_with fail
  refine hK.mono ?_
  rintro e w1 ⟨rfl, hb1⟩
  have hB1 := nbox_on hB0 hb1
  obtain ⟨-, x1, -, -⟩ := nbox4 hB1
  have hbw1 := (nbox_below hB1).1
  have HWK : Hid (∀ W, Below w1.heap.size w1 W → W.cell? ⟨w.heap.size, 1, none⟩ = some (.slice ac D.nk cc)) := fun W hb => (nbox4 (nbox_on hB1 hb)).2.1
  have HMW : Hid (∀ W, Below w1.heap.size w1 W → Below w.heap.size w W) := fun W hb => hbw1.trans (hb.mono hbw1.size)
  unfold leafV
  clear hK hb1 hB0 hB1 hbw1
  go_wp2_with fail
  go_region_held3 (fun WW => WW.cell? ⟨w.heap.size, 1, none⟩ = some (.slice ac D.nk cc)) (first | assumption | go_keep) (first
    | (go_at_call 98; refine (mark_leaf _ _ _ _ _ _ _).mono ?_; rintro e wm ⟨rfl, hBm⟩; have hbm : Below w1.heap.size w1 wm := Below.trans (by repeat (first | exact Below.refl _ _ | refine Below.drew ?_)) hBm; have hcm : wm.cell? ⟨w.heap.size, 1, none⟩ = some (.slice ac D.nk cc) := HWK.out _ hbm)
    | (go_at_call 33; refine (hPN _ _ (nuv_two _ _ _ _)).mono ?_; rintro e wp ⟨g2, c2, rfl, hBp⟩; have hbp : Below w1.heap.size w1 wp := hbm.trans ((Below.trans (by repeat (first | exact Below.refl _ _ | refine Below.alloc ?_ (by simp) _ | refine Below.drew ?_)) (hBp.mono (by simp))).mono hbm.size); have hcp : wp.cell? ⟨w.heap.size, 1, none⟩ = some (.slice ac D.nk cc) := HWK.out _ hbp)
    | (go_at_call 43; refine (hPT _ (HMW.out _ (by repeat (first | exact hbp | refine Below.drew ?_)))).mono ?_; rintro e wt ⟨rfl, hBt⟩; have hbt : Below w1.heap.size w1 wt := hbp.trans ((Below.trans (by repeat (first | exact Below.refl _ _ | refine Below.drew ?_)) hBt).mono hbp.size); have hct : wt.cell? ⟨w.heap.size, 1, none⟩ = some (.slice ac D.nk cc) := HWK.out _ hbt)
    | (go_at_call 44; refine (hPR _ (HMW.out _ (by repeat (first | exact hbt | refine Below.drew ?_)))).mono ?_; rintro e wz ⟨rfl, hBz⟩; have hbz : Below w1.heap.size w1 wz := hbt.trans ((Below.trans (by repeat (first | exact Below.refl _ _ | refine Below.drew ?_)) hBz).mono hbt.size); have hcz : wz.cell? ⟨w.heap.size, 1, none⟩ = some (.slice ac D.nk cc) := HWK.out _ hbz))
  all_goals
    have HB : Hid (Below w.heap.size w wz) := HMW.out _ hbz
    clear hcm hcp hct hcz hBm hBp hBt hBz hbm hbp hbt hbz HWK HMW hPN hPT hPR
    go_wp2
    go_ret
    exact ⟨by rw [HE.out]; rfl, by first | exact HB.out | exact HB.out.drew⟩

set_option maxHeartbeats 1000000 in
theorem mark_inner (a b : Option Addr) (n c m d : Nat) (w : World) :
    Calls Try.prog 99 #[.agg #[.slice a n c, .slice b m d]] w fun e w' => e = .returned (.int .i64 0) ∧ Below w.heap.size w w' := by
  have hb0 : Below w.heap.size w (w.alloc (.cells #[.slice a n c, .slice b m d] 89)) := (Below.refl _ _).alloc (Nat.le_refl _) _
  go_enter Try.func99, Try.ntmps99
  go_wp2
  go_ret
  exact ⟨rfl, hb0⟩

set_option maxHeartbeats 4000000 in
theorem implSizeOf_inner (D : PNode) (hleaf : D.leaf = false) (ac : Option Addr) (cc : Nat) (ap : Option Addr) (cp : Nat) (ai : Option Addr) (ci : Nat) (w : World) (hc : TxV w ac D.nk cc D.key) (hp : TxV w ap D.nv cp D.val) (hi : NuV w ai D.nd ci D.kid) (hf : NFine D) :
    Calls Try.prog 16 #[.agg #[.bool false, .slice ac D.nk cc, .slice ap D.nv cp, .slice ai D.nd ci]] w fun e w' => e = .returned (.int .i64 (sizeN D)) ∧ Below w.heap.size w w' := by
  have hB0 := nbox_start w (.cells #[.bool false, .slice ac D.nk cc, .slice ap D.nv cp, .slice ai D.nd ci] 27)
  have hK := kindOf_inner ac ap ai D.nk cc D.nv cp D.nd ci (w.alloc (.cells #[.bool false, .slice ac D.nk cc, .slice ap D.nv cp, .slice ai D.nd ci] 27))
  have hm : ∀ W : World, (method 227 89 (.agg #[.slice ac D.nk cc, .slice ai D.nd ci]) "loop.example/g00322/impl.mark").run Try.prog W = .ok (99, .agg #[.slice ac D.nk cc, .slice ai D.nd ci]) W := fun _ => by kernel_rfl
  have hn : ∀ W : World, (nilAhead 227 89 (.agg #[.slice ac D.nk cc, .slice ai D.nd ci]) "loop.example/g00322/impl.mark").run Try.prog W = .ok (some false) W := fun _ => by kernel_rfl
  have HF : Hid (NFine D) := hf
  have HC : Hid (TxV w ac D.nk cc D.key) := hc
  have HP : Hid (TxV w ap D.nv cp D.val) := hp
  have HI : Hid (NuV w ai D.nd ci D.kid) := hi
  have hA0 := numL_len (two 0 D.nk) 2
  have hB0' := textsL_len hf.key D.nk (Nat.le_refl _)
  have hC0 : (numL D.kid D.nd).length ≤ 1048579 * 1048576 := by
    have := hf.nv; have := hf.nd
    have := numL_len D.kid D.nd; omega
  have hnk := hf.nk
  have HE : Hid (sizeN D = ((numL (two 0 D.nk) 2).length : Int) + ((textsL D.key D.nk).length : Int) + ((numL D.kid D.nd).length : Int)) := by
    show _ = _
    simp only [sizeN, bytesN, headL, hleaf, numL_two, List.length_append]; simp; try omega
  have hPN : ∀ (W : World) (a : Option Addr), NuV W a 2 2 (two 0 D.nk) → Calls Try.prog 33 #[.slice none 0 0, .slice a 2 2] W fun e w' => ∃ g2 c2, e = .returned (.slice (some ⟨g2, 0, none⟩) (numL (two 0 D.nk) 2).length c2) ∧ Below W.heap.size W w' := fun W a h => putLen a 2 2 _ W h (by omega)
  have hPT : ∀ W : World, Below w.heap.size w W → Calls Try.prog 43 #[.slice ac D.nk cc] W fun e w' => e = .returned (.int .i64 (textsL D.key D.nk).length) ∧ Below W.heap.size W w' := fun W hb => sizeOfTexts_any ac D.nk cc D.key W (HC.out.below hb) HF.out.nk HF.out.key
  have hPR : ∀ W : World, Below w.heap.size w W → Calls Try.prog 44 #[.iface 89 (.agg #[.slice ac D.nk cc, .slice ai D.nd ci])] W fun e w' => e = .returned (.int .i64 (numL D.kid D.nd).length) ∧ Below W.heap.size W w' := fun W hb => sizeOfRest_inner ac ai D.nk cc D.nd ci D.kid W (HI.out.below hb) HF.out.nd
  obtain ⟨A, hA⟩ : ∃ x, Hid ((numL (two 0 D.nk) 2).length = x) := ⟨_, rfl⟩
  obtain ⟨B, hB⟩ : ∃ x, Hid ((textsL D.key D.nk).length = x) := ⟨_, rfl⟩
  obtain ⟨C, hC⟩ : ∃ x, Hid ((numL D.kid D.nd).length = x) := ⟨_, rfl⟩
  simp only [hA.out, hB.out, hC.out] at hPN hPT hPR HE hA0 hB0' hC0
  have hw1 : IntKind.i64.wrap ((A : Int) + (B : Int)) = (A : Int) + (B : Int) := by rw [IntKind.wrap_i64]; omega
  have hw2 : IntKind.i64.wrap ((A : Int) + (B : Int) + (C : Int)) = (A : Int) + (B : Int) + (C : Int) := by rw [IntKind.wrap_i64]; omega
  clear hf hc hp hi hleaf
  go_enter Try.func16, Try.ntmps16
  go_wp2_with fail
  refine hK.mono ?_
  rintro e w1 ⟨rfl, hb1⟩
  have hB1 := nbox_on hB0 hb1
  obtain ⟨-, x1, -, -⟩ := nbox4 hB1
  have hbw1 := (nbox_below hB1).1
  have HWK : Hid (∀ W, Below w1.heap.size w1 W → W.cell? ⟨w.heap.size, 1, none⟩ = some (.slice ac D.nk cc)) := fun W hb => (nbox4 (nbox_on hB1 hb)).2.1
  have HMW : Hid (∀ W, Below w1.heap.size w1 W → Below w.heap.size w W) := fun W hb => hbw1.trans (hb.mono hbw1.size)
  unfold innerV
  clear hK hb1 hB0 hB1 hbw1
  go_wp2_with fail
  go_region_held3 (fun WW => WW.cell? ⟨w.heap.size, 1, none⟩ = some (.slice ac D.nk cc)) (first | assumption | go_keep) (first
    | (go_at_call 99; refine (mark_inner _ _ _ _ _ _ _).mono ?_; rintro e wm ⟨rfl, hBm⟩; have hbm : Below w1.heap.size w1 wm := Below.trans (by repeat (first | exact Below.refl _ _ | refine Below.drew ?_)) hBm; have hcm : wm.cell? ⟨w.heap.size, 1, none⟩ = some (.slice ac D.nk cc) := HWK.out _ hbm)
    | (go_at_call 33; refine (hPN _ _ (nuv_two _ _ _ _)).mono ?_; rintro e wp ⟨g2, c2, rfl, hBp⟩; have hbp : Below w1.heap.size w1 wp := hbm.trans ((Below.trans (by repeat (first | exact Below.refl _ _ | refine Below.alloc ?_ (by simp) _ | refine Below.drew ?_)) (hBp.mono (by simp))).mono hbm.size); have hcp : wp.cell? ⟨w.heap.size, 1, none⟩ = some (.slice ac D.nk cc) := HWK.out _ hbp)
    | (go_at_call 43; refine (hPT _ (HMW.out _ (by repeat (first | exact hbp | refine Below.drew ?_)))).mono ?_; rintro e wt ⟨rfl, hBt⟩; have hbt : Below w1.heap.size w1 wt := hbp.trans ((Below.trans (by repeat (first | exact Below.refl _ _ | refine Below.drew ?_)) hBt).mono hbp.size); have hct : wt.cell? ⟨w.heap.size, 1, none⟩ = some (.slice ac D.nk cc) := HWK.out _ hbt)
    | (go_at_call 44; refine (hPR _ (HMW.out _ (by repeat (first | exact hbt | refine Below.drew ?_)))).mono ?_; rintro e wz ⟨rfl, hBz⟩; have hbz : Below w1.heap.size w1 wz := hbt.trans ((Below.trans (by repeat (first | exact Below.refl _ _ | refine Below.drew ?_)) hBz).mono hbt.size); have hcz : wz.cell? ⟨w.heap.size, 1, none⟩ = some (.slice ac D.nk cc) := HWK.out _ hbz))
  all_goals
    have HB : Hid (Below w.heap.size w wz) := HMW.out _ hbz
    clear hcm hcp hct hcz hBm hBp hBt hBz hbm hbp hbt hbz HWK HMW hPN hPT hPR
    go_wp2
    go_ret
    exact ⟨by rw [HE.out]; rfl, by first | exact HB.out | exact HB.out.drew⟩

theorem implSizeOf_any (v : Value) (D : PNode) (w : World) (h : NdView w v D) (hf : NFine D) :
    Calls Try.prog 16 #[v] w fun e w' => e = .returned (.int .i64 (sizeN D)) ∧ Below w.heap.size w w' := by
  obtain ⟨ac, cc, ap, cp, ai, ci, rfl, hc, hp, hi⟩ := h.is
  cases hl : D.leaf with
  | true => exact implSizeOf_leaf D hl ac cc ap cp ai ci w hc hp hi hf
  | false => exact implSizeOf_inner D hl ac cc ap cp ai ci w hc hp hi hf
end Go.Proofs.Ytaiinlcdfeboiaa

