/-
  Together: KeyPlain, AllUpto, KeySpec, DrawAny6, DrawRow7, DrawNum, Conv, DrawAny, DrawPair, DrawTuple6, DrawEncRow, GetPlain, GetTextPlain, StrSl, NumsPlain, Ahead, NumOrder
-/
import Derived.Test.YtikopeihkbpjhacPack2
import Derived.Test.YtikopeihkbpjhacPack3
import Derived.Deep.LoopGhost
import Derived.Deep.RegionHeld3
import Derived.Test.YtikopeihkbpjhacPack1
import Derived.Laws.BytesArg
/-
  Keys, plainly: which plans are right, what fits, the bytes of values one behind the other, and what is read of bytes.
-/
namespace Go.Proofs.Ytikopeihkbpjhac
open Go.RowKit
set_option maxRecDepth 4000

/-- A plan is right. -/
def planOk (n : Nat) (fc ft : Nat → Int) : Bool := (List.range n).all (fun i => partOk (fc i) (ft i)) && decide (n ≤ 6)
/-- Values fit. -/
def fitsAll (n m : Nat) (ft : Nat → Int) (fu : Nat → Bool) (fk fn : Nat → Int) (fs : Nat → ByteArray) : Bool := decide (m ≤ n) && (List.range m).all (fun i => fitsP (ft i) (fu i) (fk i) (fn i) (fs i))
theorem planOk_iff {n : Nat} {fc ft : Nat → Int} : planOk n fc ft = true ↔ (∀ i, i < n → partOk (fc i) (ft i) = true) ∧ n ≤ 6 := by
  unfold planOk; simp
theorem fitsAll_iff {n m : Nat} {ft : Nat → Int} {fu : Nat → Bool} {fk fn : Nat → Int} {fs : Nat → ByteArray} : fitsAll n m ft fu fk fn fs = true ↔ m ≤ n ∧ ∀ i, i < m → fitsP (ft i) (fu i) (fk i) (fn i) (fs i) = true := by
  unfold fitsAll; simp
/-- The first k of the lists, one behind the other. -/
def keyT (g : Nat → List Int) : Nat → List Int
  | 0 => []
  | k + 1 => keyT g k ++ g k
/-- The bytes of the value at a place of a plan. -/
def onePL (fc ft : Nat → Int) (fu fd : Nat → Bool) (fk fn : Nat → Int) (fs : Nat → ByteArray) (i : Nat) : List Int := putPL (fc i) (ft i) (fu i) (fd i) (fk i) (fn i) (fs i)
/-- The bytes of a key. -/
def keyL (n : Nat) (fc ft : Nat → Int) (fu fd : Nat → Bool) (m : Nat) (fk fn : Nat → Int) (fs : Nat → ByteArray) : List Int :=
  if planOk n fc ft && fitsAll n m ft fu fk fn fs then keyT (onePL fc ft fu fd fk fn fs) m else []

theorem keyT_congr {g h : Nat → List Int} : ∀ {k : Nat}, (∀ i, i < k → g i = h i) → keyT g k = keyT h k
  | 0, _ => rfl
  | k + 1, e => by rw [keyT, keyT, keyT_congr (fun i hi => e i (by omega)), e k (by omega)]
/-- What stands behind the first k. -/
theorem keyT_split (g : Nat → List Int) (k : Nat) : ∀ j, keyT g (k + j) = keyT g k ++ keyT (fun i => g (k + i)) j
  | 0 => by simp [keyT]
  | j + 1 => by rw [← Nat.add_assoc, keyT, keyT_split g k j, keyT, List.append_assoc]
theorem keyT_byte {g : Nat → List Int} : ∀ {k : Nat}, (∀ i, i < k → ∀ y ∈ g i, 0 ≤ y ∧ y ≤ 255) → ∀ y ∈ keyT g k, 0 ≤ y ∧ y ≤ 255
  | 0, _, y, hy => by simp [keyT] at hy
  | k + 1, h, y, hy => by
    rw [keyT] at hy
    rcases List.mem_append.1 hy with hy | hy
    · exact keyT_byte (fun i hi => h i (by omega)) y hy
    · exact h k (by omega) y hy
theorem keyL_byte (n : Nat) (fc ft : Nat → Int) (fu fd : Nat → Bool) (m : Nat) (fk fn : Nat → Int) (fs : Nat → ByteArray) : ∀ y ∈ keyL n fc ft fu fd m fk fn fs, 0 ≤ y ∧ y ≤ 255 := by
  intro y hy
  unfold keyL at hy
  split at hy
  · exact keyT_byte (fun i _ => putPL_byte _ _ _ _ _ _ _) y hy
  · cases hy
theorem onePL_len {ft : Nat → Int} {fu : Nat → Bool} {fk fn : Nat → Int} {fs : Nat → ByteArray} {i : Nat} (fc : Nat → Int) (fd : Nat → Bool) (h : fitsP (ft i) (fu i) (fk i) (fn i) (fs i) = true) : (onePL fc ft fu fd fk fn fs i).length ≤ 69 := by
  unfold onePL
  have h1 := putPL_len (fc i) (ft i) (fu i) (fd i) (fk i) (fn i) (fs i)
  have h2 : (fs i).size ≤ 30 := by unfold fitsP at h; simp only [Bool.and_eq_true] at h; exact okF_few h.1
  omega
theorem keyT_len {g : Nat → List Int} : ∀ {k : Nat}, (∀ i, i < k → (g i).length ≤ 69) → (keyT g k).length ≤ k * 69
  | 0, _ => by simp [keyT]
  | k + 1, h => by
    rw [keyT, List.length_append]
    have h1 := keyT_len (fun i hi => h i (by omega)) (k := k)
    have h2 := h k (by omega)
    omega
theorem keyL_len (n : Nat) (fc ft : Nat → Int) (fu fd : Nat → Bool) (m : Nat) (fk fn : Nat → Int) (fs : Nat → ByteArray) : (keyL n fc ft fu fd m fk fn fs).length ≤ 414 := by
  unfold keyL
  split
  · rename_i h
    simp only [Bool.and_eq_true] at h
    obtain ⟨h1, h2⟩ := h
    have hp := planOk_iff.1 h1
    have hf := fitsAll_iff.1 h2
    have := keyT_len (g := onePL fc ft fu fd fk fn fs) (k := m) (fun i hi => onePL_len fc fd (hf.2 i hi))
    omega
  · simp

section
variable (N : Nat) (F : Nat → Int) (fc ft : Nat → Int) (fu fd : Nat → Bool)
/-- The place behind the first k values, as they are read. -/
def decQ : Nat → Option Int
  | 0 => some 0
  | k + 1 => (decQ k).bind (fun p => if (getP N F (fc k) (ft k) (fu k) (fd k) p).ok then some (getP N F (fc k) (ft k) (fu k) (fd k) p).q else none)
/-- The value that is read at a place of a plan. -/
def decG (k : Nat) : Got := getP N F (fc k) (ft k) (fu k) (fd k) ((decQ N F fc ft fu fd k).getD 0)
/-- Whether the bytes are a key of the plan. -/
def decOk (n : Nat) : Bool := planOk n fc ft && decide (decQ N F fc ft fu fd n = some (N : Int))
end
theorem decQ_succ {N : Nat} {F : Nat → Int} {fc ft : Nat → Int} {fu fd : Nat → Bool} {k : Nat} {q : Int} (h : decQ N F fc ft fu fd (k + 1) = some q) : ∃ p, decQ N F fc ft fu fd k = some p ∧ (getP N F (fc k) (ft k) (fu k) (fd k) p).ok = true ∧ (getP N F (fc k) (ft k) (fu k) (fd k) p).q = q := by
  rw [decQ] at h
  obtain ⟨p, h1, h2⟩ := Option.bind_eq_some_iff.1 h
  by_cases e : (getP N F (fc k) (ft k) (fu k) (fd k) p).ok = true
  · rw [if_pos e] at h2
    exact ⟨p, h1, e, Option.some.inj h2⟩
  · rw [if_neg e] at h2; cases h2
end Go.Proofs.Ytikopeihkbpjhac

/-
  All up to a number.
-/
namespace Go.Proofs.Ytikopeihkbpjhac

theorem allUpto_no {p : Nat → Bool} {n k : Nat} (hk : k < n) (h : p k = false) : (List.range n).all p = false := by
  rw [Bool.eq_false_iff]
  intro e
  have := List.all_eq_true.1 e k (List.mem_range.2 hk)
  rw [h] at this; cases this
theorem allUpto_yes {p : Nat → Bool} {n : Nat} (h : ∀ i, i < n → p i = true) : (List.range n).all p = true :=
  List.all_eq_true.2 (fun i hi => h i (List.mem_range.1 hi))
end Go.Proofs.Ytikopeihkbpjhac

/-
  The model's PlanOk and FitsAll come to the plain ones.
-/
namespace Go.Proofs.Ytikopeihkbpjhac
open Go.RowKit
set_option maxRecDepth 4000

set_option maxHeartbeats 2000000 in
theorem specPlanOk_any (a : Option Addr) (n cap : Nat) (fc ft : Nat → Int) (fu fd : Nat → Bool) (w : World) (h : PView w a n cap fc ft fu fd) (hn : n ≤ 1048576) :
    Calls Try.prog 33 #[.slice a n cap] w fun e w' => e = .returned (.bool (planOk n fc ft)) ∧ Below w.heap.size w w' := by
  go_enter Try.func33, Try.ntmps33
  go_wp2
  go_loopg [3] n (fun q i wr => ∃ k : Nat, k ≤ n ∧ q = n - k ∧ i = .int .i64 k ∧ Below w.heap.size w wr ∧ ∀ j, j < k → partOk (fc j) (ft j) = true)
  case atStart => exact ⟨0, Nat.zero_le _, rfl, rfl, Below.refl _ _, fun j hj => absurd hj (Nat.not_lt_zero _)⟩
  case round =>
    obtain ⟨k, hk, rfl, rfl, hB, hall⟩ := hrel
    have HA : Hid (∀ j, j < k → partOk (fc j) (ft j) = true) := hall
    clear hall
    by_cases hlt : k < n
    · obtain ⟨b1, o1, rfl, hb1, hd1⟩ := (h.below hB).cells (by omega)
      obtain ⟨x0, x1, x2, x3⟩ := hd1 k hlt
      have hkz : (k : Int) < (n : Int) := by omega
      clear hd1 h
      go_wp2_with fail
      clear x0 x1 x2 x3
      refine (specPartOk_any (fc k) (ft k) (fu k) (fd k) _).mono ?_
      cases ho : partOk (fc k) (ft k) with
      | true =>
        rintro e w2 ⟨rfl, hB2⟩
        have hB3 := hB.trans (hB2.mono hB.size)
        clear hB2
        have HN : Hid (∀ j, j < k + 1 → partOk (fc j) (ft j) = true) := by
          intro j hj
          by_cases e : j < k
          · exact HA.out j e
          · obtain rfl : j = k := by omega
            exact ho
        clear ho HA
        go_wp2
        go_roundg (n - (k + 1))
        case measure => omega
        case rel => exact ⟨k + 1, by omega, rfl, by go_num, hB3, HN.out⟩
      | false =>
        rintro e w2 ⟨rfl, hB2⟩
        have hB3 := hB.trans (hB2.mono hB.size)
        have HF : Hid (planOk n fc ft = false) := by show _ = _; unfold planOk; rw [allUpto_no hlt ho]; rfl
        clear hB2 ho HA
        go_wp2
        go_ret
        exact ⟨by rw [HF.out]; rfl, hB3⟩
    · have hkn : k = n := by omega
      have hkz : ¬ (k : Int) < (n : Int) := by omega
      by_cases h6 : n ≤ 6
      · have hz : (n : Int) ≤ 6 := by omega
        have HT : Hid (planOk n fc ft = true) := planOk_iff.2 ⟨fun i hi => HA.out i (by omega), h6⟩
        clear HA
        go_wp2
        go_ret
        exact ⟨by rw [HT.out]; rfl, hB⟩
      · have hz : ¬ (n : Int) ≤ 6 := by omega
        have HT : Hid (planOk n fc ft = false) := by show _ = _; unfold planOk; simp [h6]
        clear HA
        go_wp2
        go_ret
        exact ⟨by rw [HT.out]; rfl, hB⟩

set_option maxHeartbeats 2000000 in
theorem specFitsAll_any (a : Option Addr) (n cap : Nat) (fc ft : Nat → Int) (fu fd : Nat → Bool) (a2 : Option Addr) (m cap2 : Nat) (fk fn : Nat → Int) (fs : Nat → ByteArray) (w : World) (h : PView w a n cap fc ft fu fd) (h2 : VView w a2 m cap2 fk fn fs) (hn : n ≤ 1048576) (hm : m ≤ 1048576) (hs : ∀ i, i < m → (fs i).size ≤ 1048576) :
    Calls Try.prog 34 #[.slice a n cap, .slice a2 m cap2] w fun e w' => e = .returned (.bool (fitsAll n m ft fu fk fn fs)) ∧ Below w.heap.size w w' := by
  by_cases hmn : n < m
  · have hz : (n : Int) < (m : Int) := by omega
    have e : fitsAll n m ft fu fk fn fs = false := by unfold fitsAll; simp; omega
    rw [e]
    go_enter Try.func34, Try.ntmps34
    go_wp2
    go_ret
    exact ⟨rfl, Below.refl _ _⟩
  have hz0 : ¬ (n : Int) < (m : Int) := by omega
  go_enter Try.func34, Try.ntmps34
  go_wp2
  go_loopg [5] m (fun q i wr => ∃ k : Nat, k ≤ m ∧ q = m - k ∧ i = .int .i64 k ∧ Below w.heap.size w wr ∧ ∀ j, j < k → fitsP (ft j) (fu j) (fk j) (fn j) (fs j) = true)
  case atStart => exact ⟨0, Nat.zero_le _, rfl, rfl, Below.refl _ _, fun j hj => absurd hj (Nat.not_lt_zero _)⟩
  case round =>
    obtain ⟨k, hk, rfl, rfl, hB, hall⟩ := hrel
    have HA : Hid (∀ j, j < k → fitsP (ft j) (fu j) (fk j) (fn j) (fs j) = true) := hall
    clear hall
    by_cases hlt : k < m
    · have hlt2 : k < n := by omega
      obtain ⟨b1, o1, rfl, hb1, hd1⟩ := (h.below hB).cells (by omega)
      obtain ⟨b2, o2, rfl, hb2, hd2⟩ := (h2.below hB).cells (by omega)
      obtain ⟨x0, x1, x2, x3⟩ := hd1 k (by omega)
      obtain ⟨y0, y1, y2⟩ := hd2 k hlt
      have hkz : (k : Int) < (m : Int) := by omega
      have hkn : (k : Int) < (n : Int) := by omega
      have hsz := hs k hlt
      obtain ⟨o, ho⟩ : ∃ o, Hid (fitsP (ft k) (fu k) (fk k) (fn k) (fs k) = o) := ⟨_, rfl⟩
      have hF := fun W => specFits_any (fc k) (ft k) (fu k) (fd k) (fk k) (fn k) (fs k) W (by omega)
      rw [ho.out] at hF
      have HO : Hid (o = false → fitsAll n m ft fu fk fn fs = false) := by
        intro e
        have := ho.out
        rw [e] at this
        unfold fitsAll
        rw [allUpto_no (p := fun i => fitsP (ft i) (fu i) (fk i) (fn i) (fs i)) hlt this, Bool.and_false]
      have HN : Hid (o = true → ∀ j, j < k + 1 → fitsP (ft j) (fu j) (fk j) (fn j) (fs j) = true) := by
        intro e j hj
        by_cases ej : j < k
        · exact HA.out j ej
        · obtain rfl : j = k := by omega
          rw [ho.out, e]
      clear hd1 hd2 h h2 ho HA hsz
      obtain ⟨p0, hp0⟩ : ∃ p, Hid (fc k = p) := ⟨_, rfl⟩
      obtain ⟨p1, hp1⟩ : ∃ p, Hid (ft k = p) := ⟨_, rfl⟩
      obtain ⟨p2, hp2⟩ : ∃ p, Hid (fu k = p) := ⟨_, rfl⟩
      obtain ⟨p3, hp3⟩ : ∃ p, Hid (fd k = p) := ⟨_, rfl⟩
      obtain ⟨q0, hq0⟩ : ∃ p, Hid (fk k = p) := ⟨_, rfl⟩
      obtain ⟨q1, hq1⟩ : ∃ p, Hid (fn k = p) := ⟨_, rfl⟩
      obtain ⟨q2, hq2⟩ : ∃ p, Hid (fs k = p) := ⟨_, rfl⟩
      rw [hp0.out] at x0 hF
      rw [hp1.out] at x1 hF
      rw [hp2.out] at x2 hF
      rw [hp3.out] at x3 hF
      rw [hq0.out] at y0 hF
      rw [hq1.out] at y1 hF
      rw [hq2.out] at y2 hF
      go_wp2_with fail
      refine wp_region_held_drew (S := fun W => (W.cell? ⟨b1, o1 + k * 4, none⟩ = some (.int .i64 p0) ∧ W.cell? ⟨b1, o1 + k * 4 + 1, none⟩ = some (.int .i64 p1) ∧ W.cell? ⟨b1, o1 + k * 4 + 2, none⟩ = some (.bool p2) ∧ W.cell? ⟨b1, o1 + k * 4 + 3, none⟩ = some (.bool p3)) ∧ (W.cell? ⟨b2, o2 + k * 3, none⟩ = some (.int .i64 q0) ∧ W.cell? ⟨b2, o2 + k * 3 + 1, none⟩ = some (.int .i64 q1) ∧ W.cell? ⟨b2, o2 + k * 3 + 2, none⟩ = some (.string q2))) (by kernel_rfl) (⟨⟨x0, x1, x2, x3⟩, y0, y1, y2⟩) (fun hHeld => ?_)
      refine' wpAnyH_take (i := 0) (v := _) rfl (by kernel_rfl) (by kernel_rfl) (by kernel_rfl) (fun _ _ _ h => h) (Or.inl ⟨by kernel_rfl, ?ha0⟩) (by assumption) ?ra0
      case ha0 => intro W hW; obtain ⟨⟨d0, d1, d2, d3⟩, g0, g1, g2⟩ := hW; go_simp; all_goals with_reducible rfl
      change wpAnyH _ _ _ _ _ _ _ (Act.put _ (some 17) _) _
      simp only [Act.put, List.setIfInBounds_toArray, List.set_cons_zero, List.set_cons_succ]
      refine' wpAnyH_take (i := 1) (v := _) rfl (by kernel_rfl) (by kernel_rfl) (by kernel_rfl) (fun _ _ _ h => h) (Or.inl ⟨by kernel_rfl, ?ha1⟩) (by assumption) ?ra1
      case ha1 => intro W hW; obtain ⟨⟨d0, d1, d2, d3⟩, g0, g1, g2⟩ := hW; go_simp; all_goals with_reducible rfl
      change wpAnyH _ _ _ _ _ _ _ (Act.put _ (some 18) _) _
      simp only [Act.put, List.setIfInBounds_toArray, List.set_cons_zero, List.set_cons_succ]
      refine' wpAnyH_take (i := 2) (v := _) rfl (by kernel_rfl) (by kernel_rfl) (by kernel_rfl) (fun _ _ _ h => h) (Or.inl ⟨by kernel_rfl, ?ha2⟩) (by assumption) ?ra2
      case ha2 => intro W hW; obtain ⟨⟨d0, d1, d2, d3⟩, g0, g1, g2⟩ := hW; go_simp; all_goals with_reducible rfl
      change wpAnyH _ _ _ _ _ _ _ (Act.put _ (some 19) _) _
      simp only [Act.put, List.setIfInBounds_toArray, List.set_cons_zero, List.set_cons_succ]
      refine' wpAnyH_take (i := 3) (v := _) rfl (by kernel_rfl) (by kernel_rfl) (by kernel_rfl) (fun _ _ _ h => h) (Or.inl ⟨by kernel_rfl, ?ha3⟩) (by assumption) ?ra3
      case ha3 => intro W hW; obtain ⟨⟨d0, d1, d2, d3⟩, g0, g1, g2⟩ := hW; go_simp; all_goals with_reducible rfl
      change wpAnyH _ _ _ _ _ _ _ (Act.put _ (some 20) _) _
      simp only [Act.put, List.setIfInBounds_toArray, List.set_cons_zero, List.set_cons_succ]
      refine' wpAnyH_take (i := 4) (v := _) rfl (by kernel_rfl) (by kernel_rfl) (by kernel_rfl) (fun _ _ _ h => h) (Or.inl ⟨by kernel_rfl, ?ha4⟩) (by assumption) ?ra4
      case ha4 => intro W hW; obtain ⟨⟨d0, d1, d2, d3⟩, g0, g1, g2⟩ := hW; go_simp; all_goals with_reducible rfl
      change wpAnyH _ _ _ _ _ _ _ (Act.put _ (some 21) _) _
      simp only [Act.put, List.setIfInBounds_toArray, List.set_cons_zero, List.set_cons_succ]
      refine' wpAnyH_take (i := 5) (v := _) rfl (by kernel_rfl) (by kernel_rfl) (by kernel_rfl) (fun _ _ _ h => h) (Or.inl ⟨by kernel_rfl, ?ha5⟩) (by assumption) ?ra5
      case ha5 => intro W hW; obtain ⟨⟨d0, d1, d2, d3⟩, g0, g1, g2⟩ := hW; go_simp; all_goals with_reducible rfl
      change wpAnyH _ _ _ _ _ _ _ (Act.put _ (some 22) _) _
      simp only [Act.put, List.setIfInBounds_toArray, List.set_cons_zero, List.set_cons_succ]
      refine' wpAnyH_take (i := 6) (v := _) rfl (by kernel_rfl) (by kernel_rfl) (by kernel_rfl) (fun _ _ _ h => h) (Or.inl ⟨by kernel_rfl, ?ha6⟩) (by assumption) ?ra6
      case ha6 => intro W hW; obtain ⟨⟨d0, d1, d2, d3⟩, g0, g1, g2⟩ := hW; go_simp; all_goals with_reducible rfl
      change wpAnyH _ _ _ _ _ _ _ (Act.put _ (some 23) _) _
      simp only [Act.put, List.setIfInBounds_toArray, List.set_cons_zero, List.set_cons_succ]
      refine' wpAnyH_take (i := 7) (v := _) rfl (by kernel_rfl) (by kernel_rfl) (by kernel_rfl) (fun _ _ _ h => h) (Or.inl ⟨by kernel_rfl, ?ha7⟩) (by assumption) ?ra7
      case ha7 => intro W hW; obtain ⟨⟨d0, d1, d2, d3⟩, g0, g1, g2⟩ := hW; go_simp; all_goals with_reducible rfl
      change wpAnyH _ _ _ _ _ _ _ (Act.put _ (some 24) _) _
      simp only [Act.put, List.setIfInBounds_toArray, List.set_cons_zero, List.set_cons_succ]
      refine wpAnyH_ready (rs := [8]) (by kernel_rfl) (by simp) ?_
      refine AllReadyH.cons rfl (fun KK hK => ?_) AllReadyH.nil
      go_simp
      refine (hF _).mono ?_
      rintro e w2 ⟨rfl, hB2⟩
      go_wp2_with fail
      refine hK.out _ _ ⟨⟨by rw [hB2.cell hb1]; exact x0, by rw [hB2.cell hb1]; exact x1, by rw [hB2.cell hb1]; exact x2, by rw [hB2.cell hb1]; exact x3⟩, by rw [hB2.cell hb2]; exact y0, by rw [hB2.cell hb2]; exact y1, by rw [hB2.cell hb2]; exact y2⟩ (fun hHeld => ?_)
      clear hK KK
      try simp only [Act.put, List.setIfInBounds_toArray, List.set_cons_zero, List.set_cons_succ]
      refine' wpAnyH_take (i := 9) (v := _) rfl (by kernel_rfl) (by kernel_rfl) (by kernel_rfl) (fun _ _ _ h => h) (Or.inl ⟨by kernel_rfl, ?ha9⟩) (by assumption) ?ra9
      case ha9 => intro W hW; obtain ⟨⟨d0, d1, d2, d3⟩, g0, g1, g2⟩ := hW; go_simp; all_goals with_reducible rfl
      change wpAnyH _ _ _ _ _ _ _ (Act.put _ (some 26) _) _
      simp only [Act.put, List.setIfInBounds_toArray, List.set_cons_zero, List.set_cons_succ]
      refine wpAnyH_done (by kernel_rfl) ?_ _
      have hB3 : Hid (Below w.heap.size w w2) := hB.trans (Below.trans (Below.drew (Below.refl _ _)) (hB2.mono (by have := hB.size; exact this)))
      clear hHeld x0 x1 x2 x3 y0 y1 y2 hF
      cases o with
      | true =>
        go_wp2
        go_roundg (m - (k + 1))
        case measure => omega
        case rel => exact ⟨k + 1, by omega, rfl, by go_num, hB3.out, HN.out (by simp)⟩
      | false =>
        go_wp2
        go_ret
        exact ⟨by rw [HO.out (by simp)]; rfl, hB3.out⟩
    · have hkz : ¬ (k : Int) < (m : Int) := by omega
      have HT : Hid (fitsAll n m ft fu fk fn fs = true) := fitsAll_iff.2 ⟨by omega, fun i hi => HA.out i (by omega)⟩
      clear HA
      go_wp2
      go_ret
      exact ⟨by rw [HT.out]; rfl, hB⟩
end Go.Proofs.Ytikopeihkbpjhac

/-
  The draws of plans, right or not.
-/
namespace Go.Proofs.Ytikopeihkbpjhac
open Go.RowKit
set_option maxRecDepth 4000

/-- A plan that was drawn: m parts, in a row of the call's own. -/
structure DrewAnyP (w : World) (g : Nat) (ao : Option Addr) (n cap : Nat) (f : Nat → Int) (v : Value) (m : Nat) (gc gt : Nat → Int) (gu gd : Nat → Bool) (w' : World) : Prop where
  some : v ≠ .slice none 0 0
  own : w'.ownsRow w.heap.size 25 4 v m (rowP gc gt gu gd m)
  cur : Cur w' g ao n cap f
  but : But g w w'

/-- The first part is put anew. -/
theorem PView.set0 {w : World} {b m cp : Nat} {gc gt : Nat → Int} {gu gd : Nat → Bool} (h : PView w (some ⟨b, 0, none⟩) m cp gc gt gu gd) (hm : 0 < m) (c t : Int) (nul d : Bool) :
    PView ((((w.setCell ⟨b, 0, none⟩ (.int .i64 c)).setCell ⟨b, 1, none⟩ (.int .i64 t)).setCell ⟨b, 2, none⟩ (.bool nul)).setCell ⟨b, 3, none⟩ (.bool d)) (some ⟨b, 0, none⟩) m cp (fun i => if i = 0 then c else gc i) (fun i => if i = 0 then t else gt i) (fun i => if i = 0 then nul else gu i) (fun i => if i = 0 then d else gd i) := by
  refine ⟨h.le, fun _ => ?_⟩
  obtain ⟨b', off, e, hlt, hd⟩ := h.cells hm
  cases e
  refine ⟨b, 0, rfl, by simpa using hlt, fun i hi => ?_⟩
  by_cases hi0 : i = 0
  · subst hi0
    obtain ⟨x0, x1, x2, x3⟩ := hd 0 hm
    simp only [Nat.zero_mul, Nat.add_zero, Nat.zero_add, if_pos] at x0 x1 x2 x3 ⊢
    refine ⟨?_, ?_, ?_, ?_⟩
    · rw [sc_other _ _ 3 0 _ (by decide), sc_other _ _ 2 0 _ (by decide), sc_other _ _ 1 0 _ (by decide), sc_same x0]
    · rw [sc_other _ _ 3 1 _ (by decide), sc_other _ _ 2 1 _ (by decide), sc_same (u := .int .i64 (gt 0)) (by rw [sc_other _ _ 0 1 _ (by decide)]; exact x1)]
    · rw [sc_other _ _ 3 2 _ (by decide), sc_same (u := .bool (gu 0)) (by rw [sc_other _ _ 1 2 _ (by decide), sc_other _ _ 0 2 _ (by decide)]; exact x2)]
    · rw [sc_same (u := .bool (gd 0)) (by rw [sc_other _ _ 2 3 _ (by decide), sc_other _ _ 1 3 _ (by decide), sc_other _ _ 0 3 _ (by decide)]; exact x3)]
  · simp only [if_neg hi0]
    obtain ⟨x0, x1, x2, x3⟩ := hd i hi
    refine ⟨?_, ?_, ?_, ?_⟩
    all_goals rw [sc_other _ _ 3 _ _ (by omega), sc_other _ _ 2 _ _ (by omega), sc_other _ _ 1 _ _ (by omega), sc_other _ _ 0 _ _ (by omega)]
    · exact x0
    · exact x1
    · exact x2
    · exact x3

/-- A plan, right or not. -/
structure AnyPlan (w : World) (g : Nat) (ao : Option Addr) (n cap : Nat) (f : Nat → Int) (b m cp : Nat) (gc gt : Nat → Int) (gu gd : Nat → Bool) (w' : World) : Prop where
  new : w.heap.size ≤ b
  pos : 1 ≤ m
  few : m ≤ 7
  view : PView w' (some ⟨b, 0, none⟩) m cp gc gt gu gd
  cur : Cur w' g ao n cap f
  but : But g w w'

set_option maxHeartbeats 4000000 in
theorem l6Any_any (g : Nat) (ao : Option Addr) (n cap : Nat) (f : Nat → Int) (w : World) (hn : n ≤ 1048576) (hC : Cur w g ao n cap f) :
    Calls Try.prog 72 #[.pointer (some ⟨g, 0, none⟩)] w fun e w' => ∃ (b m cp : Nat) (gc gt : Nat → Int) (gu gd : Nat → Bool), e = .returned (.slice (some ⟨b, 0, none⟩) m cp) ∧ AnyPlan w g ao n cap f b m cp gc gt gu gd w' := by
  obtain ⟨i0, hi, hz0, hz1, hz2⟩ := infoPart4
  have hgl := hC.lt
  have HC : Hid (∀ a, ao = some a → 0 < n → a.block < w.heap.size) := hC.code
  go_enter Try.func72, Try.ntmps72
  go_wp2_with fail
  refine (l6Plan_any g ao n cap f w hn hC).mono ?_
  rintro e w1 ⟨v, m, gc, gt, gu, gd, rfl, hm1, hm3, hP⟩
  clear hC
  have hC1 := hP.cur
  obtain ⟨a, cp, rfl, -, hsome⟩ := pview_of_own hP.own
  obtain ⟨b, rfl, hb⟩ := hsome hP.some
  go_wp2_with fail
  refine (l1Below_any g ao n cap f 12 w1 hn (by omega) (by omega) hC1).mono ?_
  rintro e w2 ⟨x, rfl, hx0, hx1, hC2, hO2⟩
  have hown2 := hP.own.kept hO2.grown (Or.inr (fun e => by have := (hP.own.lt g e).1; omega))
  have hB2 : But g w w2 := hP.but.trans (But.ofOnly hO2)
  have hA2 : DrewAnyP w g ao n cap f (.slice (some ⟨b, 0, none⟩) m cp) m gc gt gu gd w2 := ⟨by simp, hown2, hC2, hB2⟩
  obtain ⟨a', cp', e', hpv2, -⟩ := pview_of_own hown2
  cases e'
  have hbl : b < w2.heap.size := by obtain ⟨b', off, e, hlt, -⟩ := hpv2.cells (by omega); cases e; exact hlt
  clear hP hO2 hC1 hsome
  by_cases e0 : x = 0
  · subst e0
    go_wp2_with fail
    refine (l5Any_any g ao n cap f w2 hn hC2).mono ?_
    rintro e w3 ⟨c, t, nul, d, rfl, hD⟩
    have hpv3 := hpv2.but hD.but (fun X e => by cases e; show b ≠ g; omega)
    have hown3 := hown2.kept hD.but.grown (Or.inr (fun e => by have := (hown2.lt g e).1; omega))
    obtain ⟨b', off, e, hlt3, hd3⟩ := hpv3.cells (by omega)
    cases e
    obtain ⟨x0, x1, x2, x3⟩ := hd3 0 (by omega)
    simp only [Nat.zero_mul, Nat.add_zero, Nat.zero_add] at x0 x1 x2 x3
    have hfz : ∀ j, w3.frozen? ⟨b, j, none⟩ = false := fun j => by
      rcases hown3.2 with ⟨e, _⟩ | ⟨g', c', cur', e, _, hg', _⟩
      · cases e
      · cases e; simp [World.frozen?, hg']
    have f0 := hfz 0
    have f1 := hfz 1
    have f2 := hfz 2
    have f3 := hfz 3
    have hmz : (0 : Int) < (m : Int) := by omega
    have HV : Hid (AnyPlan w g ao n cap f b m cp (fun i => if i = 0 then c else gc i) (fun i => if i = 0 then t else gt i) (fun i => if i = 0 then nul else gu i) (fun i => if i = 0 then d else gd i) ((((w3.setCell ⟨b, 0, none⟩ (.int .i64 c)).setCell ⟨b, 1, none⟩ (.int .i64 t)).setCell ⟨b, 2, none⟩ (.bool nul)).setCell ⟨b, 3, none⟩ (.bool d))) := by
      refine ⟨hb, hm1, by omega, hpv3.set0 (by omega) c t nul d, ?_, ?_⟩
      · have q : ∀ a, ao = some a → 0 < n → a.block ≠ b := fun a h1 h0 => by have := HC.out a h1 h0; omega
        exact (((hD.cur.setNew _ (by omega) q).setNew _ (by omega) q).setNew _ (by omega) q).setNew _ (by omega) q
      · exact ((((hB2.trans hD.but).setNew hb _).setNew hb _).setNew hb _).setNew hb _
    clear hfz hd3 hpv3 hown3 hpv2 hown2 hA2 hD hC2
    go_wp2
    go_ret
    exact ⟨b, m, cp, _, _, _, _, rfl, HV.out⟩
  · have e0' : ¬ (x = 0) := e0
    by_cases e1 : x = 1
    · subst e1
      clear hpv2 hown2 hC2 hbl hB2
      go_wp2
      go_loopg [3] (8 - m) (fun q v wr => ∃ (m2 : Nat) (gc gt : Nat → Int) (gu gd : Nat → Bool), 1 ≤ m2 ∧ m2 ≤ 7 ∧ q = 8 - m2 ∧ DrewAnyP w g ao n cap f v m2 gc gt gu gd wr)
      case atStart => exact ⟨m, gc, gt, gu, gd, hm1, by omega, rfl, hA2⟩
      case round =>
        clear hA2
        obtain ⟨m2, hc, ht, hu, hd, h1, h7, rfl, hD⟩ := hrel
        obtain ⟨a3, c3, e3, hpv, hs⟩ := pview_of_own hD.own
        obtain ⟨b3, rfl, hb3⟩ := hs hD.some
        subst e3
        have hown := hD.own
        have HD : Hid (DrewAnyP w g ao n cap f (.slice (some ⟨b3, 0, none⟩) m2 c3) m2 hc ht hu hd wr) := hD
        have hCr := hD.cur
        clear hD hs
        go_wp2_with fail
        refine (l1Below_any g ao n cap f 2 wr hn (by omega) (by omega) hCr).mono ?_
        rintro e w3 ⟨y, rfl, hy0, hy1, hC3, hO3⟩
        have hown3 := hown.kept hO3.grown (Or.inr (fun e => by have := (hown.lt g e).1; omega))
        have hB3 : But g w w3 := HD.out.but.trans (But.ofOnly hO3)
        by_cases hlt : (m2 : Int) < 6 + y
        · have Hlt : Hid (m2 < 7) := by show _ < _; omega
          go_wp2_with fail
          refine (l5Draw_fit g ao n cap f 0 w3 hn (by unfold I64; omega) hC3).mono ?_
          rintro e w4 ⟨t, nul, d, rfl, -, hP⟩
          have hown4 := hown3.kept hP.but.grown (Or.inr (fun e => by have := (hown3.lt g e).1; omega))
          have hC4 := hP.cur
          have hB4 : But g w w4 := hB3.trans hP.but
          have hs4 : w.heap.size ≤ w4.heap.size := hB4.size
          have hcl := cells_part w4 0 t nul d
          clear hO3 hC3 hP hCr hpv
          go_wp2_with (at_builtin; refine wpList_append_own _ rfl (.tmp 22) (.tmp 25) 38 rfl w.heap.size 25 i0 (.agg #[.int .i64 0, .int .i64 0, .bool false, .bool false]) 4 24 Try.underlying38 hi hz0 hz1 hz2 rfl (by decide) (.slice (some ⟨b3, 0, none⟩) m2 c3) _ _ rfl (hown4.alloc _) ⟨w4.heap.size, 0, none⟩ 1 1 [.int .i64 0, .int .i64 t, .bool nul, .bool d] rfl rfl hcl (one_part _ _ _ _) (by unfold maxLen; omega) (by omega) (by simp; omega) ?_; intro v5 w5 hown5 hgr5 hnil5)
          have hb5 : Below w4.heap.size w4 (w4.alloc (.cells #[.int .i64 0, .int .i64 t, .bool nul, .bool d] 25)) := (Below.refl _ _).alloc (Nat.le_refl _) _
          have hB5 : But g w w5 := by
            refine ⟨hgr5.os.trans hB4.os, hgr5.tape.trans hB4.tape, hgr5.output.trans hB4.output, Nat.le_trans hs4 (Nat.le_trans (by simp) hgr5.size), fun j hj hg => ?_⟩
            rw [hgr5.block j (by simp; omega) (fun e => by have := (hown.lt j e.symm).1; omega), Below.heap_alloc _ _ _ (by omega)]
            exact hB4.block j hj hg
          have hC5 : Cur w5 g ao n cap f := (hC4.below hb5).grown hgr5 (fun e => by have := (hown.lt g e).1; omega) (fun a ha h0 e => by have := (hown.lt _ e).1; have := HC.out a ha h0; omega)
          have HD5 : Hid (DrewAnyP w g ao n cap f v5 (m2 + 1) (fun i => if i = m2 then 0 else hc i) (fun i => if i = m2 then t else ht i) (fun i => if i = m2 then nul else hu i) (fun i => if i = m2 then d else hd i) w5) := by
            refine ⟨fun e => HD.out.some (hnil5.1 e).1, ?_, hC5, hB5⟩
            rw [rowP, if_pos rfl, if_pos rfl, if_pos rfl, if_pos rfl, rowP_congr (hc := hc) (ht := ht) (hu := hu) (hd := hd) (fun i hi => by rw [if_neg (by omega), if_neg (by omega), if_neg (by omega), if_neg (by omega)]; exact ⟨rfl, rfl, rfl, rfl⟩)]
            exact hown5
          clear hown hown3 hown4 hown5 hgr5 hnil5 hcl hC5 hB5 hb5 hB4 hC4 HD hB3
          go_wp2
          go_roundg (8 - (m2 + 1))
          case measure => have := Hlt.out; omega
          case rel => exact ⟨m2 + 1, _, _, _, _, by omega, Hlt.out, rfl, HD5.out⟩
        · have HV : Hid (AnyPlan w g ao n cap f b3 m2 c3 hc ht hu hd w3) := ⟨hb3, h1, h7, hpv.but (But.ofOnly hO3) (fun X e => by cases e; show b3 ≠ g; omega), hC3, hB3⟩
          clear hown hown3 hpv hC3 hB3 hO3 hCr HD
          go_wp2
          go_ret
          exact ⟨b3, m2, c3, hc, ht, hu, hd, rfl, HV.out⟩
    · have HV : Hid (AnyPlan w g ao n cap f b m cp gc gt gu gd w2) := ⟨hb, hm1, by omega, hpv2, hC2, hB2⟩
      clear hpv2 hown2 hA2 hC2
      go_wp2
      go_ret
      exact ⟨b, m, cp, gc, gt, gu, gd, rfl, HV.out⟩

/-- A list of values for a plan, fitting or not. -/
structure AnyVals (w : World) (g : Nat) (ao : Option Addr) (n cap : Nat) (f : Nat → Int) (b M c : Nat) (gk gn : Nat → Int) (gs : Nat → ByteArray) (w' : World) : Prop where
  new : w.heap.size ≤ b
  few : M ≤ 7
  short : ∀ i, i < M → (gs i).size ≤ 40
  view : VView w' (some ⟨b, 0, none⟩) M c gk gn gs
  cur : Cur w' g ao n cap f
  but : But g w w'

theorem view1 {w : World} {B : Nat} {k m : Int} {s : ByteArray} (h : Box w B k m s) : VView w (some ⟨B, 0, none⟩) 1 1 (fun _ => k) (fun _ => m) (fun _ => s) := by
  refine ⟨Nat.le_refl _, fun _ => ⟨B, 0, rfl, h.lt, fun i hi => ?_⟩⟩
  obtain rfl : i = 0 := by omega
  exact h.cells
end Go.Proofs.Ytikopeihkbpjhac

/-
  The draws of rows: a plan, right or not, and values for it.
-/
namespace Go.Proofs.Ytikopeihkbpjhac
open Go.RowKit
set_option maxRecDepth 4000

set_option maxHeartbeats 4000000 in
theorem l7Row_any (g : Nat) (ao : Option Addr) (n cap : Nat) (f : Nat → Int) (b m cp : Nat) (gc gt : Nat → Int) (gu gd : Nat → Bool) (w : World) (hn : n ≤ 1048576) (hC : Cur w g ao n cap f) (h : PView w (some ⟨b, 0, none⟩) m cp gc gt gu gd) (hbg : b ≠ g) (hm1 : 1 ≤ m) (hm : m ≤ 7) :
    Calls Try.prog 81 #[.pointer (some ⟨g, 0, none⟩), .slice (some ⟨b, 0, none⟩) m cp] w fun e w' => ∃ (b2 M c2 : Nat) (fk fn : Nat → Int) (fs : Nat → ByteArray), e = .returned (.slice (some ⟨b2, 0, none⟩) M c2) ∧ AnyVals w g ao n cap f b2 M c2 fk fn fs w' := by
  go_enter Try.func81, Try.ntmps81
  cases hpk : planOk m gc gt with
  | false =>
    go_wp2_with fail
    refine (specPlanOk_any _ m cp gc gt gu gd w h (by omega)).mono ?_
    rw [hpk]
    rintro e w2 ⟨rfl, hb2⟩
    have hB2 : But g w w2 := But.ofBelow (g := g) hb2
    have hC2 := hC.below hb2
    clear hC h hb2
    go_wp2_with fail
    refine (l2Draw_any g ao n cap f w2 hn hC2).mono ?_
    rintro e w3 ⟨k, x, s, rfl, hD⟩
    have hb3 : Below w3.heap.size w3 (w3.alloc (.cells #[.int .i64 k, .int .i64 x, .string s] 29)) := (Below.refl _ _).alloc (Nat.le_refl _) _
    have HV : Hid (AnyVals w g ao n cap f w3.heap.size 1 1 (fun _ => k) (fun _ => x) (fun _ => s) (w3.alloc (.cells #[.int .i64 k, .int .i64 x, .string s] 29))) :=
      ⟨(hB2.trans hD.but).size, by omega, fun _ _ => hD.few, view1 (Box.new w3 k x s), hD.cur.below hb3, (hB2.trans hD.but).trans (But.ofBelow hb3)⟩
    clear hD hb3 hC2
    go_wp2
    go_ret
    exact ⟨_, 1, 1, _, _, _, rfl, HV.out⟩
  | true =>
    obtain ⟨hpo, hm6⟩ := planOk_iff.1 hpk
    have Ht : Hid (∀ i, i < m → 1 ≤ gt i ∧ gt i ≤ 4) := fun i hi => by have := hpo i hi; unfold partOk at this; simp at this; omega
    go_wp2_with fail
    refine (specPlanOk_any _ m cp gc gt gu gd w h (by omega)).mono ?_
    rw [hpk]
    rintro e w2 ⟨rfl, hb2⟩
    have hB2 : But g w w2 := But.ofBelow (g := g) hb2
    have hC2 := hC.below hb2
    have h2 := h.below hb2
    clear hC h hb2 hpo hpk
    go_wp2_with fail
    refine (l6Vals_any g ao n cap f _ m cp gc gt gu gd m w2 hn hC2 h2 (fun X e => by cases e; exact hbg) Ht.out (Nat.le_refl _) (by omega)).mono ?_
    rintro e w6 ⟨v, gk, gn, gs, rfl, hV⟩
    obtain ⟨a1, c1, rfl, hvv, hsome⟩ := vview_of_own hV.own
    obtain ⟨b2, rfl, hb2⟩ := hsome hV.some
    have HV : Hid (AnyVals w g ao n cap f b2 m c1 gk gn gs w6) := by
      refine ⟨Nat.le_trans hB2.size hb2, by omega, fun i hi => ?_, hvv, hV.cur, hB2.trans hV.but⟩
      have hf := hV.fit i hi
      unfold fitsP at hf
      simp only [Bool.and_eq_true] at hf
      have := okF_few hf.1
      omega
    clear hV hvv hsome h2 hC2
    go_wp2
    go_ret
    exact ⟨b2, m, c1, gk, gn, gs, rfl, HV.out⟩
end Go.Proofs.Ytikopeihkbpjhac

/-
  The draw of a number near an edge, as far as a law leans on it.
-/
namespace Go.Proofs.Ytikopeihkbpjhac
open Go.RowKit
set_option maxRecDepth 4000

set_option maxHeartbeats 1000000 in
theorem l1Num_any (g : Nat) (ao : Option Addr) (n cap : Nat) (f : Nat → Int) (w : World) (hn : n ≤ 1048576) (hC : Cur w g ao n cap f) :
    Calls Try.prog 113 #[.pointer (some ⟨g, 0, none⟩)] w fun e w' => ∃ x : Int, e = .returned (.int .i64 x) ∧ I64 x ∧ Cur w' g ao n cap f ∧ But g w w' := by
  go_enter Try.func113, Try.ntmps113
  go_wp2_with fail
  refine (l1Below_any g ao n cap f 100000 w hn (by omega) (by omega) hC).mono ?_
  rintro e w1 ⟨y, rfl, hy0, hy1, hC1, hO1⟩
  clear hC
  go_wp2_with fail
  refine (l1Below_any g ao n cap f 100000 w1 hn (by omega) (by omega) hC1).mono ?_
  rintro e w2 ⟨z, rfl, hz0, hz1, hC2, hO2⟩
  have HB : Hid (But g w w2) := (But.ofOnly hO1).trans (But.ofOnly hO2)
  have HL : Hid (∀ u ∈ [0, 1, -1, 63, 127, 128, 255, 256, 65535, 65536, 2147483647, -2147483648, 2147483648, -2147483649, 1000000000000000, -1000000000000000, 1000000000000001, 9223372036854775807, -9223372036854775808, y, -z], I64 u) := by
    intro u hu
    simp only [List.mem_cons, List.not_mem_nil, or_false] at hu
    unfold I64
    omega
  clear hO1 hO2 hC1
  go_wp2_with fail
  refine (l1Int_of g ao n cap f [0, 1, -1, 63, 127, 128, 255, 256, 65535, 65536, 2147483647, -2147483648, 2147483648, -2147483649, 1000000000000000, -1000000000000000, 1000000000000001, 9223372036854775807, -9223372036854775808, y, -z] _ w2 rfl hn (by simp) (by simp) HL.out hC2).mono ?_
  rintro e w3 ⟨x, rfl, hx, hC3, hB3⟩
  have HX : Hid (I64 x) := hx
  clear HL hx
  go_wp2
  go_ret
  exact ⟨x, rfl, HX.out, hC3, HB.out.trans hB3⟩

end Go.Proofs.Ytikopeihkbpjhac

/-
  Bytes as a string: what 'string(b)' comes to at a slice of bytes that reads.
-/
namespace Go.Proofs.Ytikopeihkbpjhac
open Go.RowKit
set_option maxRecDepth 4000

theorem conv_view {w : World} {b off n cap : Nat} {f : Nat → Int} (hv : View w (some ⟨b, off, none⟩) n cap f) :
    (convert 22 9 (.slice (some ⟨b, off, none⟩) n cap)).run Try.prog w = .ok (.string (strOfNums (lof n f))) w := by
  refine run_convert_bytes_arg w 22 5 Try.underlying22 Try.underlying5 b off n cap (lof n f) (lof_len n f) ?_ 9 Try.underlying9
  intro i hi
  obtain ⟨b', off', e, _, hc⟩ := hv.cells (by omega)
  simp only [Option.some.injEq, Addr.mk.injEq, and_true] at e
  obtain ⟨rfl, rfl⟩ := e
  rw [hc i hi, lof_get n f i hi]

theorem strOfNums_inj {xs ys : List Int} (hx : ∀ y ∈ xs, 0 ≤ y ∧ y ≤ 255) (hy : ∀ y ∈ ys, 0 ≤ y ∧ y ≤ 255) (h : strOfNums xs = strOfNums ys) : xs = ys := by
  have h1 : xs.map (fun n => UInt8.ofNat n.toNat) = ys.map (fun n => UInt8.ofNat n.toNat) := by
    rw [← strOfNums_data, ← strOfNums_data, h]
  have key : ∀ a b : Int, 0 ≤ a ∧ a ≤ 255 → 0 ≤ b ∧ b ≤ 255 → UInt8.ofNat a.toNat = UInt8.ofNat b.toNat → a = b := by
    intro a b ha hb e
    have := congrArg UInt8.toNat e
    simp at this
    omega
  clear h
  induction xs generalizing ys with
  | nil => cases ys with
    | nil => rfl
    | cons y ys => simp at h1
  | cons x xs ih => cases ys with
    | nil => simp at h1
    | cons y ys =>
      simp only [List.map_cons, List.cons.injEq] at h1
      rw [key x y (hx x (by simp)) (hy y (by simp)) h1.1, ih (fun z hz => hx z (by simp [hz])) (fun z hz => hy z (by simp [hz])) h1.2]

end Go.Proofs.Ytikopeihkbpjhac

/-
  The draw of a value, right or not, as far as a law leans on it.
-/
namespace Go.Proofs.Ytikopeihkbpjhac
open Go.RowKit
set_option maxRecDepth 4000

set_option maxHeartbeats 4000000 in
theorem l2Any_any (g : Nat) (ao : Option Addr) (n cap : Nat) (f : Nat → Int) (w : World) (hn : n ≤ 1048576) (hC : Cur w g ao n cap f) :
    Calls Try.prog 74 #[.pointer (some ⟨g, 0, none⟩)] w fun e w' => ∃ (k m : Int) (s : ByteArray), e = .returned (.agg #[.int .i64 k, .int .i64 m, .string s]) ∧ DrewV w g ao n cap f k m s w' := by
  have hg := hC.lt
  have HC : Hid (∀ a, ao = some a → 0 < n → a.block < w.heap.size) := hC.code
  have hb0 : Below w.heap.size w (w.alloc (.cells #[.int .i64 0, .int .i64 0, .string ⟨#[]⟩] 29)) := (Below.refl _ _).alloc (Nat.le_refl _) _
  have hR0 := Box.new w 0 0 ⟨#[]⟩
  have hC0 := hC.below hb0
  have hB0 : But g w (w.alloc (.cells #[.int .i64 0, .int .i64 0, .string ⟨#[]⟩] 29)) := But.ofBelow hb0
  clear hb0 hC
  go_enter Try.func74, Try.ntmps74
  go_wp2_with fail
  refine (l2Draw_any g ao n cap f _ hn hC0).mono ?_
  rintro e w1 ⟨k, m, s, rfl, hD⟩
  have hR1 := hR0.but hD.but (by omega)
  have hlt1 : w.heap.size < w1.heap.size := hR1.lt
  have HK : Hid (I64 k ∧ I64 m ∧ s.size ≤ 40) := ⟨hD.k64, hD.m64, hD.few⟩
  have hb2 : Below w1.heap.size w1 (w1.alloc (.cells #[.int .i64 k, .int .i64 m, .string s] 29)) := (Below.refl _ _).alloc (Nat.le_refl _) _
  have hV2 := Box.new w1 k m s
  have hR2 := hR1.below hb2
  have hC2 := hD.cur.below hb2
  have hB2 := (hB0.trans hD.but).trans (But.ofBelow (g := g) hb2)
  clear hb2 hR1 hR0 hB0 hC0 hD
  go_wp2_with fail
  refine (l1Below_any g ao n cap f 10 (w1.alloc (.cells #[.int .i64 k, .int .i64 m, .string s] 29)) hn (by omega) (by omega) hC2).mono ?_
  rintro e w3 ⟨x, rfl, hx0, hx1, hC3, hO3⟩
  have hB3 : But g _ w3 := But.ofOnly hO3
  have hV3 := hV2.but hB3 (by omega)
  have hR3 := hR2.but hB3 (by omega)
  have hB4 := hB2.trans hB3
  have hlt3 : w1.heap.size < w3.heap.size := hV3.lt
  clear hO3 hC2 hB2 hB3 hV2 hR2
  by_cases h0 : x = 0
  · subst h0
    go_wp2_with fail
    refine (l1Below_any g ao n cap f 6 w3 hn (by omega) (by omega) hC3).mono ?_
    rintro e w5 ⟨y, rfl, hy0, hy1, hC5, hO5⟩
    have hB5 : But g _ w5 := But.ofOnly hO5
    have HY : Hid (I64 y) := by show I64 y; unfold I64; omega
    clear hO5
    have hV5 := hV3.but hB5 (by omega)
    have hR5 := hR3.but hB5 (by omega)
    have hB6 := hB4.trans hB5
    obtain ⟨c0, c1, c2⟩ := hV5.cells
    obtain ⟨f0, f1, f2⟩ := hV5.frozen
    have hR6 := hR5.other (D := w1.heap.size) (i := 0) (by omega) (.int .i64 y)
    obtain ⟨d0, d1, d2⟩ := hR6.cells
    obtain ⟨r0, r1, r2⟩ := hR5.frozen
    obtain ⟨p0, p1, p2⟩ := hR5.cells
    have hgs := stored3 (.int .i64 y) (.int .i64 m) (.string s) d0 d1 d2
    have HD : Hid (DrewV w g ao n cap f y m s _) := DrewV.put HY.out HK.out.2.1 HK.out.2.2 (hC5.setNew (B := w1.heap.size) (i := 0) (.int .i64 y) (by omega) (fun a ha h0 => by have := HC.out a ha h0; omega)) (hB6.setNew (Nat.le_of_lt hlt1) _) hg HC.out
    clear hC5 hB5 hB6 hB4 hC3 hV3 hR3 hV5 hR5 hR6
    go_wp2
    exact bodyPost_ret (v := .agg #[_, _, _]) (by simp [results, Try.results74, go_sem, hgs]) rfl ⟨y, m, s, rfl, HD.out⟩
  by_cases h1 : x = 1
  · subst h1
    go_wp2_with fail
    refine (l1Num_any g ao n cap f w3 hn hC3).mono ?_
    rintro e w5 ⟨y, rfl, hy, hC5, hB5⟩
    have HY : Hid (I64 y) := hy
    clear hy
    have hV5 := hV3.but hB5 (by omega)
    have hR5 := hR3.but hB5 (by omega)
    have hB6 := hB4.trans hB5
    obtain ⟨c0, c1, c2⟩ := hV5.cells
    obtain ⟨f0, f1, f2⟩ := hV5.frozen
    have hR6 := hR5.other (D := w1.heap.size) (i := 1) (by omega) (.int .i64 y)
    obtain ⟨d0, d1, d2⟩ := hR6.cells
    obtain ⟨r0, r1, r2⟩ := hR5.frozen
    obtain ⟨p0, p1, p2⟩ := hR5.cells
    have hgs := stored3 (.int .i64 k) (.int .i64 y) (.string s) d0 d1 d2
    have HD : Hid (DrewV w g ao n cap f k y s _) := DrewV.put HK.out.1 HY.out HK.out.2.2 (hC5.setNew (B := w1.heap.size) (i := 1) (.int .i64 y) (by omega) (fun a ha h0 => by have := HC.out a ha h0; omega)) (hB6.setNew (Nat.le_of_lt hlt1) _) hg HC.out
    clear hC5 hB5 hB6 hB4 hC3 hV3 hR3 hV5 hR5 hR6
    go_wp2
    exact bodyPost_ret (v := .agg #[_, _, _]) (by simp [results, Try.results74, go_sem, hgs]) rfl ⟨k, y, s, rfl, HD.out⟩
  by_cases h2 : x = 2
  · subst h2
    go_wp2_with fail
    refine (l1Below_any g ao n cap f 2 w3 hn (by omega) (by omega) hC3).mono ?_
    rintro e w4 ⟨y, rfl, hy0, hy1, hC4, hO4⟩
    have hBy : But g _ w4 := But.ofOnly hO4
    clear hO4
    obtain rfl | rfl : y = 0 ∨ y = 1 := by omega
    · have hmk := run_make_row' (P := Try.prog) 22 5 (.int .u8 0) 1 Try.underlying22 Try.info5 rfl .i64 .i64 30 (by omega) (by omega)
      rw [show ((30 : Nat) : Int) = 30 from rfl] at hmk
      have hcv : (convert 22 9 (.slice (some ⟨w4.heap.size, 0, none⟩) 30 30)).run Try.prog (w4.alloc (.cells (madeCells #[.int .u8 0] 30) 5)) = .ok (.string (strOfNums (lof 30 (fun _ => 0)))) _ :=
        conv_view (View.ofRow (f := fun _ => 0) (World.rowIs_made w4 (Value.int .u8 0) 30 5) (Nat.le_refl _) (Nat.le_refl _) (fun i _ => by omega))
      have hz : (strOfNums (lof 30 (fun _ => 0))).size ≤ 40 := by rw [strOfNums_size, lof_len]; decide
      generalize strOfNums (lof 30 (fun _ => 0)) = z at *
      have hV5 := hV3.but hBy (by omega)
      have hR5 := hR3.but hBy (by omega)
      have hlt5 : w1.heap.size < w4.heap.size := hV5.lt
      have hlt6 : w.heap.size < w4.heap.size := hR5.lt
      have hB6 := hB4.trans hBy
      obtain ⟨c0, c1, c2⟩ := hV5.cells
      obtain ⟨f0, f1, f2⟩ := hV5.frozen
      have hR6 := hR5.other (D := w1.heap.size) (i := 2) (by omega) (.string z)
      obtain ⟨d0, d1, d2⟩ := hR6.cells
      obtain ⟨r0, r1, r2⟩ := hR5.frozen
      obtain ⟨p0, p1, p2⟩ := hR5.cells
      have hgs := stored3A (.int .i64 k) (.int .i64 m) (.string z) d0 d1 d2 (by simpa using hlt6) (.cells (madeCells #[.int .u8 0] 30) 5)
      have HD : Hid (DrewV w g ao n cap f k m z _) := (DrewV.put HK.out.1 HK.out.2.1 hz (hC4.setNew (B := w1.heap.size) (i := 2) (.string z) (by omega) (fun a ha h0 => by have := HC.out a ha h0; omega)) (hB6.setNew (Nat.le_of_lt hlt1) _) hg HC.out).alloc (.cells (madeCells #[.int .u8 0] 30) 5)
      clear hC4 hBy hB6 hB4 hC3 hV3 hR3 hV5 hR5 hR6
      go_wp2
      exact bodyPost_ret (v := .agg #[_, _, _]) (by simp [results, Try.results74, go_sem, hgs]) rfl ⟨k, m, z, rfl, HD.out⟩
    · have hmk := run_make_row' (P := Try.prog) 22 5 (.int .u8 0) 1 Try.underlying22 Try.info5 rfl .i64 .i64 31 (by omega) (by omega)
      rw [show ((31 : Nat) : Int) = 31 from rfl] at hmk
      have hcv : (convert 22 9 (.slice (some ⟨w4.heap.size, 0, none⟩) 31 31)).run Try.prog (w4.alloc (.cells (madeCells #[.int .u8 0] 31) 5)) = .ok (.string (strOfNums (lof 31 (fun _ => 0)))) _ :=
        conv_view (View.ofRow (f := fun _ => 0) (World.rowIs_made w4 (Value.int .u8 0) 31 5) (Nat.le_refl _) (Nat.le_refl _) (fun i _ => by omega))
      have hz : (strOfNums (lof 31 (fun _ => 0))).size ≤ 40 := by rw [strOfNums_size, lof_len]; decide
      generalize strOfNums (lof 31 (fun _ => 0)) = z at *
      have hV5 := hV3.but hBy (by omega)
      have hR5 := hR3.but hBy (by omega)
      have hlt5 : w1.heap.size < w4.heap.size := hV5.lt
      have hlt6 : w.heap.size < w4.heap.size := hR5.lt
      have hB6 := hB4.trans hBy
      obtain ⟨c0, c1, c2⟩ := hV5.cells
      obtain ⟨f0, f1, f2⟩ := hV5.frozen
      have hR6 := hR5.other (D := w1.heap.size) (i := 2) (by omega) (.string z)
      obtain ⟨d0, d1, d2⟩ := hR6.cells
      obtain ⟨r0, r1, r2⟩ := hR5.frozen
      obtain ⟨p0, p1, p2⟩ := hR5.cells
      have hgs := stored3A (.int .i64 k) (.int .i64 m) (.string z) d0 d1 d2 (by simpa using hlt6) (.cells (madeCells #[.int .u8 0] 31) 5)
      have HD : Hid (DrewV w g ao n cap f k m z _) := (DrewV.put HK.out.1 HK.out.2.1 hz (hC4.setNew (B := w1.heap.size) (i := 2) (.string z) (by omega) (fun a ha h0 => by have := HC.out a ha h0; omega)) (hB6.setNew (Nat.le_of_lt hlt1) _) hg HC.out).alloc (.cells (madeCells #[.int .u8 0] 31) 5)
      clear hC4 hBy hB6 hB4 hC3 hV3 hR3 hV5 hR5 hR6
      go_wp2
      exact bodyPost_ret (v := .agg #[_, _, _]) (by simp [results, Try.results74, go_sem, hgs]) rfl ⟨k, m, z, rfl, HD.out⟩
  by_cases h3 : x = 3
  · subst h3
    have HL : Hid (∀ u ∈ [(⟨#[105, 116, 39, 115]⟩ : ByteArray), ⟨#[97, 32, 98]⟩, ⟨#[126]⟩, ⟨#[127]⟩], u.size ≤ 40) := by
      intro u hu
      simp only [List.mem_cons, List.not_mem_nil, or_false] at hu
      rcases hu with rfl | rfl | rfl | rfl <;> decide
    go_wp2_with fail
    refine (l1Str_of g ao n cap f [(⟨#[105, 116, 39, 115]⟩ : ByteArray), ⟨#[97, 32, 98]⟩, ⟨#[126]⟩, ⟨#[127]⟩] w3.heap.size w3 rfl hn (by simp) (by simp) HL.out hC3).mono ?_
    rintro e w5 ⟨z, rfl, hz, hC5, hB5⟩
    clear HL
    have hV5 := hV3.but hB5 (by omega)
    have hR5 := hR3.but hB5 (by omega)
    have hB6 := hB4.trans hB5
    obtain ⟨c0, c1, c2⟩ := hV5.cells
    obtain ⟨f0, f1, f2⟩ := hV5.frozen
    have hR6 := hR5.other (D := w1.heap.size) (i := 2) (by omega) (.string z)
    obtain ⟨d0, d1, d2⟩ := hR6.cells
    obtain ⟨r0, r1, r2⟩ := hR5.frozen
    obtain ⟨p0, p1, p2⟩ := hR5.cells
    have hgs := stored3 (.int .i64 k) (.int .i64 m) (.string z) d0 d1 d2
    have HD : Hid (DrewV w g ao n cap f k m z _) := DrewV.put HK.out.1 HK.out.2.1 hz (hC5.setNew (B := w1.heap.size) (i := 2) (.string z) (by omega) (fun a ha h0 => by have := HC.out a ha h0; omega)) (hB6.setNew (Nat.le_of_lt hlt1) _) hg HC.out
    clear hC5 hB5 hB6 hB4 hC3 hV3 hR3 hV5 hR5 hR6
    go_wp2
    exact bodyPost_ret (v := .agg #[_, _, _]) (by simp [results, Try.results74, go_sem, hgs]) rfl ⟨k, m, z, rfl, HD.out⟩
  · have q0 : (x == 0) = false := by simpa using h0
    have q1 : (x == 1) = false := by simpa using h1
    have q2 : (x == 2) = false := by simpa using h2
    have q3 : (x == 3) = false := by simpa using h3
    obtain ⟨c0, c1, c2⟩ := hV3.cells
    obtain ⟨d0, d1, d2⟩ := hR3.cells
    obtain ⟨r0, r1, r2⟩ := hR3.frozen
    have hgs := stored3 (.int .i64 k) (.int .i64 m) (.string s) d0 d1 d2
    have HD : Hid (DrewV w g ao n cap f k m s _) := DrewV.put HK.out.1 HK.out.2.1 HK.out.2.2 hC3 hB4 hg HC.out
    clear hB4 hC3 hV3 hR3
    go_wp2
    exact bodyPost_ret (v := .agg #[_, _, _]) (by simp [results, Try.results74, go_sem, hgs]) rfl ⟨k, m, s, rfl, HD.out⟩
end Go.Proofs.Ytikopeihkbpjhac

/-
  Two values in a row of their own.
-/
namespace Go.Proofs.Ytikopeihkbpjhac
open Go.RowKit
set_option maxRecDepth 4000

/-- The six cells of two values. -/
def pairF (k m : Int) (s : ByteArray) (k' m' : Int) (s' : ByteArray) : Nat → Value
  | 0 => .int .i64 k
  | 1 => .int .i64 m
  | 2 => .string s
  | 3 => .int .i64 k'
  | 4 => .int .i64 m'
  | _ => .string s'
def Pair (w : World) (B : Nat) (k m : Int) (s : ByteArray) (k' m' : Int) (s' : ByteArray) : Prop := w.rowIs B 29 6 (pairF k m s k' m' s')
section
variable {w w' : World} {B g : Nat} {k m : Int} {s : ByteArray} {k' m' : Int} {s' : ByteArray}
theorem Pair.new (w : World) (k m : Int) (s : ByteArray) (k' m' : Int) (s' : ByteArray) : Pair (w.alloc (.cells #[.int .i64 k, .int .i64 m, .string s, .int .i64 k', .int .i64 m', .string s'] 29)) w.heap.size k m s k' m' s' :=
  World.rowIs_alloc w _ 29 (pairF k m s k' m' s') (fun j hj => by match j, hj with | 0, _ => rfl | 1, _ => rfl | 2, _ => rfl | 3, _ => rfl | 4, _ => rfl | 5, _ => rfl)
theorem Pair.lt (h : Pair w B k m s k' m' s') : B < w.heap.size := World.rowIs.lt h
theorem Pair.but (h : Pair w B k m s k' m' s') (hb : But g w w') (hne : B ≠ g) : Pair w' B k m s k' m' s' := h.of_block (hb.block B h.lt hne)
theorem Pair.below (h : Pair w B k m s k' m' s') (hb : Below w.heap.size w w') : Pair w' B k m s k' m' s' := h.of_block (hb.block B h.lt)
theorem Pair.drew (h : Pair w B k m s k' m' s') : Pair w.drew B k m s k' m' s' := h
theorem Pair.cells (h : Pair w B k m s k' m' s') : w.cell? ⟨B, 0, none⟩ = some (.int .i64 k) ∧ w.cell? ⟨B, 1, none⟩ = some (.int .i64 m) ∧ w.cell? ⟨B, 2, none⟩ = some (.string s) ∧ w.cell? ⟨B, 3, none⟩ = some (.int .i64 k') ∧ w.cell? ⟨B, 4, none⟩ = some (.int .i64 m') ∧ w.cell? ⟨B, 5, none⟩ = some (.string s') :=
  ⟨h.cell (i := 0) (by decide), h.cell (i := 1) (by decide), h.cell (i := 2) (by decide), h.cell (i := 3) (by decide), h.cell (i := 4) (by decide), h.cell (i := 5) (by decide)⟩
end

/-- Two values as a slice of them. -/
def at2 {α : Type} (a b : α) (i : Nat) : α := if i = 0 then a else b
theorem vview2 {w : World} {B c : Nat} {k m : Int} {s : ByteArray} {k' m' : Int} {s' : ByteArray} (hlt : B < w.heap.size) (hc : 2 ≤ c) (h : w.cell? ⟨B, 0, none⟩ = some (.int .i64 k) ∧ w.cell? ⟨B, 1, none⟩ = some (.int .i64 m) ∧ w.cell? ⟨B, 2, none⟩ = some (.string s) ∧ w.cell? ⟨B, 3, none⟩ = some (.int .i64 k') ∧ w.cell? ⟨B, 4, none⟩ = some (.int .i64 m') ∧ w.cell? ⟨B, 5, none⟩ = some (.string s')) :
    VView w (some ⟨B, 0, none⟩) 2 c (at2 k k') (at2 m m') (at2 s s') := by
  obtain ⟨c0, c1, c2, c3, c4, c5⟩ := h
  refine ⟨hc, fun _ => ⟨B, 0, rfl, hlt, fun i hi => ?_⟩⟩
  match i, hi with
  | 0, _ => exact ⟨c0, c1, c2⟩
  | 1, _ => exact ⟨c3, c4, c5⟩
theorem Pair.view {w : World} {B c : Nat} {k m : Int} {s : ByteArray} {k' m' : Int} {s' : ByteArray} (h : Pair w B k m s k' m' s') (hc : 2 ≤ c) : VView w (some ⟨B, 0, none⟩) 2 c (at2 k k') (at2 m m') (at2 s s') := vview2 h.lt hc h.cells

def pairL (k m : Int) (s : ByteArray) (k' m' : Int) (s' : ByteArray) : List Value := [.int .i64 k, .int .i64 m, .string s, .int .i64 k', .int .i64 m', .string s']
theorem own_pair {w : World} {base : Nat} {v : Value} {k m : Int} {s : ByteArray} {k' m' : Int} {s' : ByteArray} (h : w.ownsRow base 29 3 v 2 (pairL k m s k' m' s')) :
    ∃ B c, v = .slice (some ⟨B, 0, none⟩) 2 c ∧ VView w (some ⟨B, 0, none⟩) 2 c (at2 k k') (at2 m m') (at2 s s') := by
  obtain ⟨hl, h⟩ := h
  rcases h with ⟨_, h0⟩ | ⟨g, c, cur, rfl, hb, hg, hnc, _, hcs, ht⟩
  · omega
  · refine ⟨g, c, rfl, vview2 (Array.getElem?_eq_some_iff.1 hg).1 hnc ?_⟩
    have key : ∀ i, i < 6 → w.cell? ⟨g, i, none⟩ = (pairL k m s k' m' s')[i]? := by
      intro i hi
      rw [World.cell?, hg]
      have e := congrArg (fun l : List Value => l[i]?) ht
      simp only [List.getElem?_take] at e
      rw [if_pos (by omega)] at e
      simpa using e
    exact ⟨key 0 (by omega), key 1 (by omega), key 2 (by omega), key 3 (by omega), key 4 (by omega), key 5 (by omega)⟩
end Go.Proofs.Ytikopeihkbpjhac

/-
  The draws of plans, right or not, and of lists of values for them.
-/
namespace Go.Proofs.Ytikopeihkbpjhac
open Go.RowKit
set_option maxRecDepth 4000

set_option maxHeartbeats 4000000 in
theorem l6Tuple_any (g : Nat) (ao : Option Addr) (n cap : Nat) (f : Nat → Int) (b m cp : Nat) (gc gt : Nat → Int) (gu gd : Nat → Bool) (w : World) (hn : n ≤ 1048576) (hC : Cur w g ao n cap f) (h : PView w (some ⟨b, 0, none⟩) m cp gc gt gu gd) (hbg : b ≠ g) (hm1 : 1 ≤ m) (hm7 : m ≤ 7) :
    Calls Try.prog 73 #[.pointer (some ⟨g, 0, none⟩), .slice (some ⟨b, 0, none⟩) m cp] w fun e w' => ∃ (b2 M c : Nat) (gk gn : Nat → Int) (gs : Nat → ByteArray), e = .returned (.slice (some ⟨b2, 0, none⟩) M c) ∧ AnyVals w g ao n cap f b2 M c gk gn gs w' := by
  have hgl := hC.lt
  go_enter Try.func73, Try.ntmps73
  go_wp2_with fail
  refine (l1Once_any g ao n cap f 10 w hn (by omega) (by omega) hC).mono ?_
  rintro e w1 ⟨o, rfl, hC1, hO1⟩
  have hB1 : But g w w1 := But.ofOnly hO1
  have h1 := h.but hB1 (fun X e => by cases e; exact hbg)
  clear hC h hO1
  cases o with
  | true =>
    go_wp2_with fail
    refine (l2Any_any g ao n cap f w1 hn hC1).mono ?_
    rintro e w2 ⟨k, x, s, rfl, hD⟩
    have hb2 : Below w2.heap.size w2 (w2.alloc (.cells #[.int .i64 k, .int .i64 x, .string s] 29)) := (Below.refl _ _).alloc (Nat.le_refl _) _
    have HV : Hid (AnyVals w g ao n cap f w2.heap.size 1 1 (fun _ => k) (fun _ => x) (fun _ => s) (w2.alloc (.cells #[.int .i64 k, .int .i64 x, .string s] 29))) :=
      ⟨(hB1.trans hD.but).size, by omega, fun _ _ => hD.few, view1 (Box.new w2 k x s), hD.cur.below hb2, (hB1.trans hD.but).trans (But.ofBelow hb2)⟩
    clear hD hb2 h1 hC1
    go_wp2
    go_ret
    exact ⟨_, 1, 1, _, _, _, rfl, HV.out⟩
  | false =>
    cases hpk : planOk m gc gt with
    | false =>
      go_wp2_with fail
      refine (specPlanOk_any _ m cp gc gt gu gd w1 h1 (by omega)).mono ?_
      rw [hpk]
      rintro e w2 ⟨rfl, hb2⟩
      have hB2 := hB1.trans (But.ofBelow (g := g) hb2)
      have hC2 := hC1.below hb2
      clear hC1 h1 hb2
      go_wp2_with fail
      refine (l2Draw_any g ao n cap f w2 hn hC2).mono ?_
      rintro e w3 ⟨k, x, s, rfl, hD⟩
      have hC3 := hD.cur
      have hB3 := hB2.trans hD.but
      have hs1 := hD.few
      clear hD hC2
      go_wp2_with fail
      refine (l2Draw_any g ao n cap f w3 hn hC3).mono ?_
      rintro e w4 ⟨k', x', s', rfl, hD⟩
      have hb4 : Below w4.heap.size w4 (w4.alloc (.cells #[.int .i64 k, .int .i64 x, .string s, .int .i64 k', .int .i64 x', .string s'] 29)) := (Below.refl _ _).alloc (Nat.le_refl _) _
      have HV : Hid (AnyVals w g ao n cap f w4.heap.size 2 2 (at2 k k') (at2 x x') (at2 s s') (w4.alloc (.cells #[.int .i64 k, .int .i64 x, .string s, .int .i64 k', .int .i64 x', .string s'] 29))) := by
        refine ⟨(hB3.trans hD.but).size, by omega, fun i _ => ?_, (Pair.new w4 k x s k' x' s').view (Nat.le_refl _), hD.cur.below hb4, (hB3.trans hD.but).trans (But.ofBelow hb4)⟩
        unfold at2
        split
        · exact hs1
        · exact hD.few
      clear hD hb4 hC3 hs1
      go_wp2
      go_ret
      exact ⟨_, 2, 2, _, _, _, rfl, HV.out⟩
    | true =>
      obtain ⟨hpo, hm6⟩ := planOk_iff.1 hpk
      have Ht : Hid (∀ i, i < m → 1 ≤ gt i ∧ gt i ≤ 4) := fun i hi => by have := hpo i hi; unfold partOk at this; simp at this; omega
      go_wp2_with fail
      refine (specPlanOk_any _ m cp gc gt gu gd w1 h1 (by omega)).mono ?_
      rw [hpk]
      rintro e w2 ⟨rfl, hb2⟩
      have hB2 := hB1.trans (But.ofBelow (g := g) hb2)
      have hC2 := hC1.below hb2
      have h2 := h1.below hb2
      clear hC1 h1 hb2 hpo hpk
      go_wp2_with fail
      refine (l1Below_any g ao n cap f ((m : Int) + 1) w2 hn (by omega) (by omega) hC2).mono ?_
      rintro e w3 ⟨y, rfl, hy0, hy1, hC3, hO3⟩
      have hB3 := hB2.trans (But.ofOnly hO3)
      have h3 := h2.but (But.ofOnly hO3) (fun X e => by cases e; exact hbg)
      clear hC2 h2 hO3
      have hb4 : Below w3.heap.size w3 (w3.alloc (.cells #[.int .i64 m, .int .i64 m, .int .i64 m, .int .i64 y] 3)) := (Below.refl _ _).alloc (Nat.le_refl _) _
      have hC4 := hC3.below hb4
      have h4 := h3.below hb4
      have hB4 := hB3.trans (But.ofBelow (g := g) hb4)
      have hz : ∀ i, i < 4 → (w3.alloc (.cells #[.int .i64 m, .int .i64 m, .int .i64 m, .int .i64 y] 3)).cell? ⟨w3.heap.size, i, none⟩ = some (.int .i64 ((fun i => if i = 3 then y else (m : Int)) i)) := fun i hi => by
        match i, hi with
        | 0, _ => simp [go_sem]
        | 1, _ => simp [go_sem]
        | 2, _ => simp [go_sem]
        | 3, _ => simp [go_sem]
      have hgs : w3.heap.size ≠ g := by have := hC3.lt; omega
      go_wp2_with fail
      refine (l1Int_any g ao n cap f w3.heap.size 4 (fun i => if i = 3 then y else (m : Int)) _ hn (by omega) (by omega) hz hgs hC4).mono ?_
      rintro e w5 ⟨j, hj, rfl, hC5, hO5⟩
      obtain ⟨NN, hNN⟩ : ∃ NN : Nat, (if j = 3 then y else (m : Int)) = NN ∧ NN ≤ m := by
        split
        · exact ⟨y.toNat, by omega, by omega⟩
        · exact ⟨m, rfl, Nat.le_refl _⟩
      have hB5 := hB4.trans (But.ofOnly hO5)
      have h5 := h4.but (But.ofOnly hO5) (fun X e => by cases e; exact hbg)
      simp only [hNN.1]
      have hNm := hNN.2
      clear hC3 hC4 h3 h4 hb4 hz hO5 hNN
      go_wp2_with fail
      refine (l6Vals_any g ao n cap f _ m cp gc gt gu gd NN w5 hn hC5 h5 (fun X e => by cases e; exact hbg) Ht.out hNm (by omega)).mono ?_
      rintro e w6 ⟨v, gk, gn, gs, rfl, hV⟩
      obtain ⟨a1, c1, rfl, hvv, hsome⟩ := vview_of_own hV.own
      obtain ⟨b2, rfl, hb2⟩ := hsome hV.some
      have HV : Hid (AnyVals w g ao n cap f b2 NN c1 gk gn gs w6) := by
        refine ⟨Nat.le_trans hB5.size hb2, by omega, fun i hi => ?_, hvv, hV.cur, hB5.trans hV.but⟩
        have hf := hV.fit i hi
        unfold fitsP at hf
        simp only [Bool.and_eq_true] at hf
        have := okF_few hf.1
        omega
      clear hV hvv hsome h5 hC5
      go_wp2
      go_ret
      exact ⟨b2, NN, c1, gk, gn, gs, rfl, HV.out⟩
end Go.Proofs.Ytikopeihkbpjhac

/-
  The draw of a plan and of a row, right or not.
-/
namespace Go.Proofs.Ytikopeihkbpjhac
open Go.RowKit
set_option maxRecDepth 4000

/-- A plan and a list of values. -/
structure DrewRow (w' : World) (a a1 : Option Addr) (m cp M c1 : Nat) (gc gt : Nat → Int) (gu gd : Nat → Bool) (fk fn : Nat → Int) (fs : Nat → ByteArray) : Prop where
  few : m ≤ 7 ∧ M ≤ 7
  short : ∀ i, i < M → (fs i).size ≤ 40
  plan : PView w' a m cp gc gt gu gd
  vals : VView w' a1 M c1 fk fn fs

set_option maxHeartbeats 4000000 in
theorem drawEncodeRow_any (ao : Option Addr) (n cap : Nat) (f : Nat → Int) (w : World) (hn : n ≤ 1048576) (hv : View w ao n cap f) :
    Calls Try.prog 41 #[.slice ao n cap] w fun e w' => (∃ a a1 m cp M c1 gc gt gu gd fk fn fs, e = .returned (.tuple #[.slice a m cp, .slice a1 M c1]) ∧ DrewRow w' a a1 m cp M c1 gc gt gu gd fk fn fs) ∧ Below w.heap.size w w' := by
  obtain ⟨A, hA⟩ : ∃ A, A = w.heap.size := ⟨_, rfl⟩
  have HA : Hid (A = w.heap.size) := hA
  go_enter Try.func41, Try.ntmps41
  go_wp2_with fail
  refine (l1New_at A ao n cap f w hA hn hv).mono ?_
  rintro e w1 ⟨rfl, hC1, hb1⟩
  have hAl := hC1.lt
  clear hA hv
  go_wp2_with fail
  refine (l6Any_any A ao n cap f w1 hn hC1).mono ?_
  rintro e w2 ⟨b, m, cp, gc, gt, gu, gd, rfl, hP⟩
  have hbA : b ≠ A := by have := hP.new; omega
  have hm1 := hP.pos
  have hm7 := hP.few
  have hpv := hP.view
  have hC2 := hP.cur
  have hB2 := hP.but
  have hs2 : A < w2.heap.size := Nat.lt_of_lt_of_le hAl hB2.size
  clear hP hC1
  go_wp2_with fail
  refine (l1Once_any A ao n cap f 6 w2 hn (by omega) (by omega) hC2).mono ?_
  rintro e w3 ⟨o, rfl, hC3, hO3⟩
  have hB3 := hB2.trans (But.ofOnly hO3)
  have hpv3 := hpv.but (But.ofOnly hO3) (fun X e => by cases e; exact hbA)
  clear hC2 hB2 hpv hO3
  cases o with
  | true =>
    go_wp2_with fail
    refine (l6Tuple_any A ao n cap f b m cp gc gt gu gd w3 hn hC3 hpv3 hbA hm1 hm7).mono ?_
    rintro e w4 ⟨b1, M, c1, fk, fn, fs, rfl, hV⟩
    have HD : Hid (DrewRow w4 (some ⟨b, 0, none⟩) (some ⟨b1, 0, none⟩) m cp M c1 gc gt gu gd fk fn fs) := ⟨⟨hm7, hV.few⟩, hV.short, hpv3.but hV.but (fun X e => by cases e; exact hbA), hV.view⟩
    have HB : Hid (Below w.heap.size w w4) := hb1.trans ((hB3.trans hV.but).below (by rw [HA.out]; exact Nat.le_refl _) hb1.size)
    clear hV hC3 hB3 hpv3
    go_wp2
    exact bodyPost_ret (v := .tuple #[_, _]) (by simp [results, Try.results41, go_sem]) rfl ⟨⟨_, _, m, cp, M, c1, gc, gt, gu, gd, fk, fn, fs, rfl, HD.out⟩, HB.out⟩
  | false =>
    go_wp2_with fail
    refine (l7Row_any A ao n cap f b m cp gc gt gu gd w3 hn hC3 hpv3 hbA hm1 hm7).mono ?_
    rintro e w4 ⟨b1, M, c1, fk, fn, fs, rfl, hV⟩
    have HD : Hid (DrewRow w4 (some ⟨b, 0, none⟩) (some ⟨b1, 0, none⟩) m cp M c1 gc gt gu gd fk fn fs) := ⟨⟨hm7, hV.few⟩, hV.short, hpv3.but hV.but (fun X e => by cases e; exact hbA), hV.view⟩
    have HB : Hid (Below w.heap.size w w4) := hb1.trans ((hB3.trans hV.but).below (by rw [HA.out]; exact Nat.le_refl _) hb1.size)
    clear hV hC3 hB3 hpv3
    go_wp2
    exact bodyPost_ret (v := .tuple #[_, _]) (by simp [results, Try.results41, go_sem]) rfl ⟨⟨_, _, m, cp, M, c1, gc, gt, gu, gd, fk, fn, fs, rfl, HD.out⟩, HB.out⟩
end Go.Proofs.Ytikopeihkbpjhac

/-
  What is read of bytes as a number, plainly: of n bytes (f), from the place p on.
-/
namespace Go.Proofs.Ytikopeihkbpjhac

def getU (n : Nat) (f : Nat → Int) (p : Int) : Int × Int × Bool :=
  if p < 0 ∨ (n : Int) ≤ p then (0, 0, false)
  else if f p.toNat < 128 then (f p.toNat, p + 1, true)
  else if n ≤ p.toNat + 1 then (0, 0, false)
  else if f (p.toNat + 1) < 128 then (if f (p.toNat + 1) = 0 then (0, 0, false) else (f p.toNat - 128 + f (p.toNat + 1) * 128, p + 2, true))
  else if n ≤ p.toNat + 2 then (0, 0, false)
  else if f (p.toNat + 2) < 128 then
    (if f (p.toNat + 2) = 0 ∨ 1000000 < f p.toNat - 128 + (f (p.toNat + 1) - 128) * 128 + f (p.toNat + 2) * 16384 then (0, 0, false)
     else (f p.toNat - 128 + (f (p.toNat + 1) - 128) * 128 + f (p.toNat + 2) * 16384, p + 3, true))
  else (0, 0, false)

theorem getU_neg (n : Nat) (f : Nat → Int) (p : Int) (h : p < 0) : getU n f p = (0, 0, false) := by
  unfold getU; rw [if_pos (Or.inl h)]
theorem getU_past (n : Nat) (f : Nat → Int) (i : Nat) (h : n ≤ i) : getU n f (i : Int) = (0, 0, false) := by
  unfold getU; rw [if_pos (Or.inr (by omega))]
section
variable (n : Nat) (f : Nat → Int) (i : Nat)
theorem getU_in (h : i < n) : ¬ ((i : Int) < 0 ∨ (n : Int) ≤ (i : Int)) := by omega
theorem getU_1 (h : i < n) (h1 : f i < 128) : getU n f (i : Int) = (f i, (i : Int) + 1, true) := by
  unfold getU; rw [if_neg (getU_in n i h), Int.toNat_natCast, if_pos h1]
theorem getU_2end (h : i < n) (h1 : 128 ≤ f i) (h2 : n ≤ i + 1) : getU n f (i : Int) = (0, 0, false) := by
  unfold getU; rw [if_neg (getU_in n i h), Int.toNat_natCast, if_neg (by omega), if_pos h2]
theorem getU_2zero (h : i + 1 < n) (h1 : 128 ≤ f i) (h2 : f (i + 1) = 0) : getU n f (i : Int) = (0, 0, false) := by
  unfold getU; rw [if_neg (getU_in n i (by omega)), Int.toNat_natCast, if_neg (by omega), if_neg (by omega), if_pos (by omega), if_pos h2]
theorem getU_2 (h : i + 1 < n) (h1 : 128 ≤ f i) (h2 : f (i + 1) < 128) (h3 : f (i + 1) ≠ 0) : getU n f (i : Int) = (f i - 128 + f (i + 1) * 128, (i : Int) + 2, true) := by
  unfold getU; rw [if_neg (getU_in n i (by omega)), Int.toNat_natCast, if_neg (by omega), if_neg (by omega), if_pos (by omega), if_neg h3]
theorem getU_3end (h : i + 1 < n) (h1 : 128 ≤ f i) (h2 : 128 ≤ f (i + 1)) (h3 : n ≤ i + 2) : getU n f (i : Int) = (0, 0, false) := by
  unfold getU; rw [if_neg (getU_in n i (by omega)), Int.toNat_natCast, if_neg (by omega), if_neg (by omega), if_neg (by omega), if_pos h3]
theorem getU_3no (h : i + 2 < n) (h1 : 128 ≤ f i) (h2 : 128 ≤ f (i + 1)) (h3 : f (i + 2) < 128) (h4 : f (i + 2) = 0 ∨ 1000000 < f i - 128 + (f (i + 1) - 128) * 128 + f (i + 2) * 16384) : getU n f (i : Int) = (0, 0, false) := by
  unfold getU; rw [if_neg (getU_in n i (by omega)), Int.toNat_natCast, if_neg (by omega), if_neg (by omega), if_neg (by omega), if_neg (by omega), if_pos h3, if_pos h4]
theorem getU_3 (h : i + 2 < n) (h1 : 128 ≤ f i) (h2 : 128 ≤ f (i + 1)) (h3 : f (i + 2) < 128) (h4 : ¬ (f (i + 2) = 0 ∨ 1000000 < f i - 128 + (f (i + 1) - 128) * 128 + f (i + 2) * 16384)) :
    getU n f (i : Int) = (f i - 128 + (f (i + 1) - 128) * 128 + f (i + 2) * 16384, (i : Int) + 3, true) := by
  unfold getU; rw [if_neg (getU_in n i (by omega)), Int.toNat_natCast, if_neg (by omega), if_neg (by omega), if_neg (by omega), if_neg (by omega), if_pos h3, if_neg h4]
theorem getU_long (h : i + 2 < n) (h1 : 128 ≤ f i) (h2 : 128 ≤ f (i + 1)) (h3 : 128 ≤ f (i + 2)) : getU n f (i : Int) = (0, 0, false) := by
  unfold getU; rw [if_neg (getU_in n i (by omega)), Int.toNat_natCast, if_neg (by omega), if_neg (by omega), if_neg (by omega), if_neg (by omega), if_neg (by omega)]
end
end Go.Proofs.Ytikopeihkbpjhac

/-
  What is read as a text, plainly.
-/
namespace Go.Proofs.Ytikopeihkbpjhac
open Go.RowKit
set_option maxRecDepth 4000

theorem getU_bd {n : Nat} {f : Nat → Int} {p a q : Int} (hf : ∀ i, i < n → 0 ≤ f i ∧ f i ≤ 255) (h : getU n f p = (a, q, true)) : 0 ≤ a ∧ a ≤ 1000000 ∧ 0 ≤ q ∧ q ≤ n := by
  unfold getU at h
  by_cases h0 : p < 0 ∨ (n : Int) ≤ p
  · rw [if_pos h0] at h; cases h
  rw [if_neg h0] at h
  have b0 := hf p.toNat (by omega)
  by_cases h1 : f p.toNat < 128
  · rw [if_pos h1] at h; cases h; omega
  rw [if_neg h1] at h
  by_cases h2 : n ≤ p.toNat + 1
  · rw [if_pos h2] at h; cases h
  rw [if_neg h2] at h
  have b1 := hf (p.toNat + 1) (by omega)
  by_cases h3 : f (p.toNat + 1) < 128
  · rw [if_pos h3] at h
    by_cases h4 : f (p.toNat + 1) = 0
    · rw [if_pos h4] at h; cases h
    · rw [if_neg h4] at h; cases h; omega
  rw [if_neg h3] at h
  by_cases h5 : n ≤ p.toNat + 2
  · rw [if_pos h5] at h; cases h
  rw [if_neg h5] at h
  have b2 := hf (p.toNat + 2) (by omega)
  by_cases h6 : f (p.toNat + 2) < 128
  · rw [if_pos h6] at h
    by_cases h7 : f (p.toNat + 2) = 0 ∨ 1000000 < f p.toNat - 128 + (f (p.toNat + 1) - 128) * 128 + f (p.toNat + 2) * 16384
    · rw [if_pos h7] at h; cases h
    · rw [if_neg h7] at h; cases h; omega
  rw [if_neg h6] at h; cases h

/-- What is read as a text. -/
def getText (n : Nat) (f : Nat → Int) (p : Int) : ByteArray × Int × Bool :=
  if (getU n f p).2.2 = true ∧ (getU n f p).1 ≤ n - (getU n f p).2.1 then (strOfNums (lof (getU n f p).1.toNat (fun i => f ((getU n f p).2.1.toNat + i))), (getU n f p).2.1 + (getU n f p).1, true) else (strOfNums [], 0, false)

theorem View.cut {w : World} {b off n cap m k : Nat} {f : Nat → Int} (h : View w (some ⟨b, off, none⟩) n cap f) (hm : k + m ≤ n) : View w (some ⟨b, off + k, none⟩) m (cap - k) (fun i => f (k + i)) := by
  have := h.le
  refine ⟨by omega, fun i hi => h.byte (k + i) (by omega), fun h0 => ?_⟩
  obtain ⟨b', off', e, hb, hc⟩ := h.cells (by omega)
  simp only [Option.some.injEq, Addr.mk.injEq, and_true] at e
  obtain ⟨rfl, rfl⟩ := e
  exact ⟨b, off + k, rfl, hb, fun i hi => by rw [Nat.add_assoc]; exact hc (k + i) (by omega)⟩

theorem retT {s s' : ByteArray} {b b' : Int} {c c' : Bool} (h1 : s = s') (h2 : b = b') (h3 : c = c') :
    Ending.returned (.tuple #[.string s, .int .i64 b, .bool c]) = .returned (.tuple #[.string s', .int .i64 b', .bool c']) := by rw [h1, h2, h3]

end Go.Proofs.Ytikopeihkbpjhac

/-
  A text and its bytes as numbers, there and back.
-/
namespace Go.Proofs.Ytikopeihkbpjhac
open Go.RowKit
set_option maxRecDepth 4000

theorem strOfNums_sl (s : ByteArray) : strOfNums (sl s) = s := by
  apply ByteArray.ext
  apply Array.ext'
  show ((sl s).map fun n => UInt8.ofNat n.toNat) = s.data.toList
  unfold sl
  rw [List.map_map]
  conv => rhs; rw [← List.map_id s.data.toList]
  apply List.map_congr_left
  intro b _
  simp
theorem sl_strOfNums {t : List Int} (h : ∀ y ∈ t, 0 ≤ y ∧ y ≤ 255) : sl (strOfNums t) = t :=
  strOfNums_inj (sl_byte _) h (strOfNums_sl _)
end Go.Proofs.Ytikopeihkbpjhac

/-
  What was put comes back, plainly: a number of its groups, a text of its bytes; cut by one byte the number does not.
-/
namespace Go.Proofs.Ytikopeihkbpjhac
open Go.RowKit
set_option maxRecDepth 4000

theorem getD_left (l k : List Int) (i : Nat) (h : i < l.length) : (l ++ k).getD i 0 = l.getD i 0 := by
  rw [List.getD_eq_getElem?_getD, List.getD_eq_getElem?_getD, List.getElem?_append_left h]
theorem getD_right (l k : List Int) (i : Nat) : (l ++ k).getD (l.length + i) 0 = k.getD i 0 := by
  rw [List.getD_eq_getElem?_getD, List.getD_eq_getElem?_getD, List.getElem?_append_right (by omega)]
  congr 2
  omega

/-- A number that lies as its groups from n on is read there. -/
theorem getU_put (n N : Nat) (F : Nat → Int) (x : Int) (h0 : 0 ≤ x) (h1 : x ≤ 1000000) (hF : ∀ i, i < (groups x).length → F (n + i) = (groups x).getD i 0) (hN : n + (groups x).length ≤ N) :
    getU N F (n : Int) = (x, (n : Int) + (groups x).length, true) := by
  by_cases a : x < 128
  · have e : groups x = [x] := by unfold groups; rw [if_pos a]
    rw [e] at hF hN ⊢
    have f0 : F n = x := by have := hF 0 (by simp); simpa using this
    simp only [List.length_cons, List.length_nil] at hN
    rw [getU_1 N F n (by omega) (by omega), f0]
    rfl
  · by_cases b : x < 16384
    · have e : groups x = [x % 128 + 128, x / 128] := by unfold groups; rw [if_neg a, if_pos b]
      rw [e] at hF hN ⊢
      have f0 : F n = x % 128 + 128 := by have := hF 0 (by simp); simpa using this
      have f1 : F (n + 1) = x / 128 := by have := hF 1 (by simp); simpa using this
      simp only [List.length_cons, List.length_nil] at hN
      rw [getU_2 N F n (by omega) (by omega) (by omega) (by omega), f0, f1]
      have : x % 128 + 128 - 128 + x / 128 * 128 = x := by omega
      rw [this]
      rfl
    · have e : groups x = [x % 128 + 128, x / 128 % 128 + 128, x / 16384] := by unfold groups; rw [if_neg a, if_neg b]
      rw [e] at hF hN ⊢
      have f0 : F n = x % 128 + 128 := by have := hF 0 (by simp); simpa using this
      have f1 : F (n + 1) = x / 128 % 128 + 128 := by have := hF 1 (by simp); simpa using this
      have f2 : F (n + 2) = x / 16384 := by have := hF 2 (by simp); simpa using this
      simp only [List.length_cons, List.length_nil] at hN
      have v : F n - 128 + (F (n + 1) - 128) * 128 + F (n + 2) * 16384 = x := by rw [f0, f1, f2]; omega
      rw [getU_3 N F n (by omega) (by omega) (by omega) (by omega) (by omega), v]
      rfl

theorem getU_cutoff (n N : Nat) (F : Nat → Int) (x : Int) (_h0 : 0 ≤ x) (hF : ∀ i, i < (groups x).length → F (n + i) = (groups x).getD i 0) (hN : n + (groups x).length = N + 1) :
    getU N F (n : Int) = (0, 0, false) := by
  by_cases a : x < 128
  · have e : groups x = [x] := by unfold groups; rw [if_pos a]
    rw [e] at hN
    simp only [List.length_cons, List.length_nil] at hN
    exact getU_past N F n (by omega)
  · by_cases b : x < 16384
    · have e : groups x = [x % 128 + 128, x / 128] := by unfold groups; rw [if_neg a, if_pos b]
      rw [e] at hF hN
      have f0 : F n = x % 128 + 128 := by have := hF 0 (by simp); simpa using this
      simp only [List.length_cons, List.length_nil] at hN
      exact getU_2end N F n (by omega) (by omega) (by omega)
    · have e : groups x = [x % 128 + 128, x / 128 % 128 + 128, x / 16384] := by unfold groups; rw [if_neg a, if_neg b]
      rw [e] at hF hN
      have f0 : F n = x % 128 + 128 := by have := hF 0 (by simp); simpa using this
      have f1 : F (n + 1) = x / 128 % 128 + 128 := by have := hF 1 (by simp); simpa using this
      simp only [List.length_cons, List.length_nil] at hN
      exact getU_3end N F n (by omega) (by omega) (by omega) (by omega)

/-- A text that was put comes back. -/
theorem getText_put (n : Nat) (f : Nat → Int) (s : ByteArray) (hs : s.size ≤ 1000000) :
    getText (n + (groups (clampN s.size)).length + s.size) (fun i => (textL n f s).getD i 0) (n : Int) = (s, ((n + (groups (clampN s.size)).length + s.size : Nat) : Int), true) := by
  have hc : clampN s.size = s.size := by unfold clampN; rw [if_neg (by omega), if_neg (by omega)]
  rw [hc]
  have e1 : ∀ i, i < (groups s.size).length → (textL n f s).getD (n + i) 0 = (groups s.size).getD i 0 := by
    intro i hi
    unfold textL
    rw [hc, List.append_assoc]
    have := getD_right (lof n f) (groups s.size ++ sl s) i
    rw [lof_len] at this
    rw [this, getD_left _ _ _ hi]
  have hu := getU_put n (n + (groups s.size).length + s.size) (fun i => (textL n f s).getD i 0) s.size (by omega) (by omega) e1 (by omega)
  have e2 : ∀ i, (textL n f s).getD (n + (groups s.size).length + i) 0 = (sl s).getD i 0 := by
    intro i
    unfold textL
    rw [hc]
    have := getD_right (lof n f ++ groups s.size) (sl s) i
    rw [List.length_append, lof_len] at this
    exact this
  unfold getText
  rw [hu]
  have et : ((n : Int) + ((groups s.size).length : Int)).toNat = n + (groups s.size).length := by omega
  rw [if_pos ⟨rfl, by show (s.size : Int) ≤ _; push_cast; omega⟩]
  simp only [Int.toNat_natCast, et]
  have el : lof s.size (fun i => (textL n f s).getD (n + (groups s.size).length + i) 0) = sl s := by
    have h1 := lof_self (sl s)
    rw [sl_len] at h1
    rw [← h1]
    unfold lof
    apply List.map_congr_left
    intro i _
    exact e2 i
  rw [el, strOfNums_sl]
  simp only [Prod.mk.injEq, true_and, and_true]
  push_cast
  omega
end Go.Proofs.Ytikopeihkbpjhac

/-
  Whether bytes are ahead of others, as texts are.
-/
namespace Go.Proofs.Ytikopeihkbpjhac
open Go.RowKit
set_option maxRecDepth 4000

/-- Whether the bytes of the one are ahead of the other's. -/
def ahead (l k : List Int) : Bool := Op.bytesLess (strOfNums l).toList (strOfNums k).toList
theorem toList_data (s : ByteArray) : s.toList = s.data.toList := ByteArray.toList_eq s
end Go.Proofs.Ytikopeihkbpjhac

/-
  Numbers in order, plainly: the order of their bytes is theirs, none is the beginning of another one, and they come back.
-/
namespace Go.Proofs.Ytikopeihkbpjhac
open Go.RowKit
set_option maxRecDepth 4000

def u8 (z : Int) : UInt8 := UInt8.ofNat z.toNat
theorem u8_lt {a b : Int} (ha : 0 ≤ a ∧ a ≤ 255) (hb : 0 ≤ b ∧ b ≤ 255) : u8 a < u8 b ↔ a < b := by
  unfold u8
  rw [UInt8.lt_iff_toNat_lt, UInt8.toNat_ofNat', UInt8.toNat_ofNat']
  omega
theorem u8_inj {a b : Int} (ha : 0 ≤ a ∧ a ≤ 255) (hb : 0 ≤ b ∧ b ≤ 255) : u8 a = u8 b ↔ a = b := by
  constructor
  · intro h
    have := congrArg UInt8.toNat h
    unfold u8 at this
    rw [UInt8.toNat_ofNat', UInt8.toNat_ofNat'] at this
    omega
  · intro h; rw [h]

theorem less_snoc (x y : UInt8) : ∀ a b : List UInt8, a.length = b.length → Op.bytesLess (a ++ [x]) (b ++ [y]) = (Op.bytesLess a b || (decide (a = b) && decide (x < y)))
  | [], [], _ => by
    by_cases h : x < y
    · simp [Op.bytesLess, h]
    · simp [Op.bytesLess, h]
  | p :: ps, q :: qs, h => by
    have ih := less_snoc x y ps qs (by simpa using h)
    simp only [List.cons_append, Op.bytesLess]
    by_cases h1 : p < q
    · simp [h1]
    · by_cases h2 : p = q
      · subst h2
        simp [h1, ih]
      · have hb : (p == q) = false := by simpa using h2
        simp [h1, h2, hb]

theorem ahead_eq (l k : List Int) : ahead l k = Op.bytesLess (l.map u8) (k.map u8) := by
  unfold ahead
  rw [toList_data, toList_data, strOfNums_data, strOfNums_data]
  rfl
theorem lof_snoc (k : Nat) (f : Nat → Int) : lof (k + 1) f = lof k f ++ [f k] := by simp [lof, List.range_succ]

theorem map_u8_inj : ∀ (l k : List Int), (∀ y ∈ l, 0 ≤ y ∧ y ≤ 255) → (∀ y ∈ k, 0 ≤ y ∧ y ≤ 255) → (l.map u8 = k.map u8 ↔ l = k)
  | [], [], _, _ => by simp
  | [], _ :: _, _, _ => by simp
  | _ :: _, [], _, _ => by simp
  | x :: xs, y :: ys, h1, h2 => by
    have ih := map_u8_inj xs ys (fun z hz => h1 z (by simp [hz])) (fun z hz => h2 z (by simp [hz]))
    simp only [List.map_cons, List.cons.injEq, ih, u8_inj (h1 x (by simp)) (h2 y (by simp))]

section
variable {f g : Nat → Int}
theorem valF_inj (k : Nat) (hf : ∀ i, i < k → 0 ≤ f i ∧ f i ≤ 255) (hg : ∀ i, i < k → 0 ≤ g i ∧ g i ≤ 255) : lof k f = lof k g ↔ valF k f = valF k g := by
  constructor
  · intro h
    apply valF_congr
    intro i hi
    rw [← lof_get k f i hi, ← lof_get k g i hi, h]
  · intro h
    unfold lof
    apply List.map_congr_left
    intro i hi
    have hi := List.mem_range.1 hi
    rw [← be_valF k f hf i hi, ← be_valF k g hg i hi, h]

/-- Of as many bytes the order is that of the numbers. -/
theorem ahead_valF : ∀ (k : Nat), (∀ i, i < k → 0 ≤ f i ∧ f i ≤ 255) → (∀ i, i < k → 0 ≤ g i ∧ g i ≤ 255) → ahead (lof k f) (lof k g) = decide (valF k f < valF k g)
  | 0, _, _ => by rw [ahead_eq]; rfl
  | k + 1, hf, hg => by
    have ih := ahead_valF k (fun i hi => hf i (by omega)) (fun i hi => hg i (by omega))
    have hj := valF_inj k (fun i hi => hf i (by omega)) (fun i hi => hg i (by omega))
    have hfk := hf k (by omega)
    have hgk := hg k (by omega)
    rw [ahead_eq] at ih ⊢
    rw [lof_snoc, lof_snoc, List.map_append, List.map_append]
    show Op.bytesLess ((lof k f).map u8 ++ [u8 (f k)]) ((lof k g).map u8 ++ [u8 (g k)]) = _
    rw [less_snoc _ _ _ _ (by simp [lof_len]), ih]
    have e1 : ((lof k f).map u8 = (lof k g).map u8) = (valF k f = valF k g) := propext ((map_u8_inj _ _ (lof_byte (fun i hi => hf i (by omega))) (lof_byte (fun i hi => hg i (by omega)))).trans hj)
    have e2 : (u8 (f k) < u8 (g k)) = (f k < g k) := propext (u8_lt hfk hgk)
    simp only [e1, e2, valF]
    rw [← Bool.decide_and, ← Bool.decide_or]
    apply decide_eq_decide.2
    omega
end

theorem ahead_cons (x y : Int) (l k : List Int) (hx : 0 ≤ x ∧ x ≤ 255) (hy : 0 ≤ y ∧ y ≤ 255) : ahead (x :: l) (y :: k) = if x < y then true else if x = y then ahead l k else false := by
  rw [ahead_eq, ahead_eq]
  simp only [List.map_cons, Op.bytesLess]
  by_cases h1 : x < y
  · simp [h1, (u8_lt hx hy).2 h1]
  · have n1 : ¬ u8 x < u8 y := fun h => h1 ((u8_lt hx hy).1 h)
    by_cases h2 : x = y
    · subst h2; simp
    · have n2 : u8 x ≠ u8 y := fun h => h2 ((u8_inj hx hy).1 h)
      simp [h1, h2, n1, n2]

theorem clampF_self (x : Int) (h : -2147483648 ≤ x ∧ x ≤ 2147483647) : clampF x = x := by unfold clampF; rw [if_neg (by omega), if_neg (by omega)]
theorem clampV_self (x : Int) (h : -1000000000000000 ≤ x ∧ x ≤ 1000000000000000) : clampV x = x := by unfold clampV; rw [if_neg (by omega), if_neg (by omega)]
theorem valF_fix (x : Int) : valF 4 (be 4 (clampF x + 2147483648)) = clampF x + 2147483648 := by
  have := clampF_bd x
  have e : (256 : Int) ^ 4 = 4294967296 := by decide
  exact valF_be 4 _ (by omega) (by omega)
theorem fix_ahead (x y : Int) : ahead (fixL x) (fixL y) = decide (clampF x < clampF y) := by
  unfold fixL
  rw [ahead_valF 4 (fun i _ => be_bd _ _ i) (fun i _ => be_bd _ _ i), valF_fix, valF_fix]
  apply decide_eq_decide.2
  omega
theorem fixL_clamp (x : Int) : fixL (clampF x) = fixL x := by unfold fixL; rw [clampF_self _ (clampF_bd x)]
theorem varL_clamp (x : Int) : varL (clampV x) = varL x := by unfold varL; rw [clampV_self _ (clampV_bd x)]

theorem behind (l k : List Int) (m i : Nat) (h : l.length = m) : (l ++ k).getD (m + i) 0 = k.getD i 0 := by
  rw [List.getD_eq_getElem?_getD, List.getD_eq_getElem?_getD, List.getElem?_append_right (by omega), show m + i - l.length = i by omega]

section
variable {x y : Int} (hx : -1000000000000000 ≤ x ∧ x ≤ 1000000000000000) (hy : -1000000000000000 ≤ y ∧ y ≤ 1000000000000000)
include hx
theorem size_lt : sizeV x < 256 ^ cnt (sizeV x) := cnt_lt _ (by have := sizeV_bd x hx; omega)
theorem size_back : valF (cnt (sizeV x)) (be (cnt (sizeV x)) (sizeV x)) = sizeV x := valF_be _ _ (sizeV_bd x hx).1 (size_lt hx)
/-- The digits, turned or not, as a number. -/
theorem tail_val : valF (cnt (sizeV x)) (tailV x) = if x < 0 then 256 ^ cnt (sizeV x) + x else x := by
  have hb := size_back hx
  by_cases h : x < 0
  · rw [if_pos h]
    have e : sizeV x = -1 - x := by unfold sizeV; rw [if_pos h]
    have key : ∀ k, valF k (tailV x) = 256 ^ k - 1 - valF k (be (cnt (sizeV x)) (sizeV x)) := by
      intro k
      induction k with
      | zero => rfl
      | succ k ih =>
        rw [valF, valF, ih, Int.pow_succ]
        unfold tailV
        rw [if_pos h]
        omega
    rw [key, hb, e]
    omega
  · rw [if_neg h]
    have e : sizeV x = x := by unfold sizeV; rw [if_neg h]
    have : valF (cnt (sizeV x)) (tailV x) = valF (cnt (sizeV x)) (be (cnt (sizeV x)) (sizeV x)) := by
      apply valF_congr
      intro i _
      unfold tailV
      rw [if_neg h]
    rw [this, hb, e]

include hy
theorem head_lt (h : headV x < headV y) : x < y := by
  have lx := size_lt hx
  have ly := size_lt hy
  unfold headV at h
  by_cases h1 : x < 0
  · by_cases h2 : y < 0
    · rw [if_pos h1, if_pos h2] at h
      have e1 : sizeV x = -1 - x := by unfold sizeV; rw [if_pos h1]
      have e2 : sizeV y = -1 - y := by unfold sizeV; rw [if_pos h2]
      have hg := cnt_ge (sizeV x) (by omega)
      have hm : (256 : Int) ^ cnt (sizeV y) ≤ 256 ^ (cnt (sizeV x) - 1) := pow_mono (by omega)
      omega
    · omega
  · by_cases h2 : y < 0
    · rw [if_neg h1, if_pos h2] at h
      omega
    · rw [if_neg h1, if_neg h2] at h
      have e1 : sizeV x = x := by unfold sizeV; rw [if_neg h1]
      have e2 : sizeV y = y := by unfold sizeV; rw [if_neg h2]
      have hg := cnt_ge (sizeV y) (by omega)
      have hm : (256 : Int) ^ cnt (sizeV x) ≤ 256 ^ (cnt (sizeV y) - 1) := pow_mono (by omega)
      omega
omit hx hy in
theorem head_same (h : headV x = headV y) : cnt (sizeV x) = cnt (sizeV y) ∧ (x < 0 ↔ y < 0) := by
  unfold headV at h
  (repeat' split at h) <;> omega
theorem kept_ahead : ahead (keptL x) (keptL y) = decide (x < y) := by
  unfold keptL
  rw [ahead_cons _ _ _ _ (headV_bd x) (headV_bd y)]
  by_cases h1 : headV x < headV y
  · rw [if_pos h1, decide_eq_true (head_lt hx hy h1)]
  · rw [if_neg h1]
    by_cases h2 : headV x = headV y
    · rw [if_pos h2]
      obtain ⟨hc, hs⟩ := head_same h2
      have tx := tail_val hx
      have ty := tail_val hy
      rw [← hc] at ty ⊢
      rw [ahead_valF _ (fun i _ => tailV_bd x i) (fun i _ => tailV_bd y i), tx, ty]
      apply decide_eq_decide.2
      by_cases h : x < 0
      · rw [if_pos h, if_pos (hs.1 h)]; omega
      · rw [if_neg h, if_neg (fun h' => h (hs.2 h'))]
    · rw [if_neg h2, decide_eq_false]
      intro h
      rcases Int.lt_trichotomy (headV x) (headV y) with h3 | h3 | h3
      · exact h1 h3
      · exact h2 h3
      · have := head_lt hy hx h3
        omega
theorem kept_same (h : headV x = headV y) (ht : lof (cnt (sizeV x)) (tailV x) = lof (cnt (sizeV y)) (tailV y)) : x = y := by
  obtain ⟨hc, hs⟩ := head_same h
  have tx := tail_val hx
  have ty := tail_val hy
  rw [← hc] at ty ht
  have e := (valF_inj _ (fun i _ => tailV_bd x i) (fun i _ => tailV_bd y i)).1 ht
  rw [tx, ty] at e
  by_cases h : x < 0
  · rw [if_pos h, if_pos (hs.1 h)] at e; omega
  · rw [if_neg h, if_neg (fun h' => h (hs.2 h'))] at e; exact e
theorem kept_prefix {r : List Int} (h : keptL x = keptL y ++ r) : x = y := by
  have hh : headV x = headV y := by unfold keptL at h; simpa using (List.cons.inj h).1
  have hl := congrArg List.length h
  rw [List.length_append, keptL_len, keptL_len, (head_same hh).1] at hl
  have : r = [] := List.eq_nil_of_length_eq_zero (by omega)
  rw [this, List.append_nil] at h
  unfold keptL at h
  exact kept_same hx hy hh (List.cons.inj h).2
end
end Go.Proofs.Ytikopeihkbpjhac

