/-
  Together: KeyPlain, AllUpto, KeySpec, DrawAny6, DrawRow7, Conv, DrawBend, RowCOwn, DrawBendAll, GetPlain, GetTextPlain, StrSl, NumsPlain, Ahead, NumOrder, NumBack, VarMore, LofEq, RowB
-/
import Derived.Test.YtikopeihkbpjhadPack2
import Derived.Test.YtikopeihkbpjhadPack3
import Derived.Deep.LoopGhost
import Derived.Deep.RegionHeld3
import Derived.Test.YtikopeihkbpjhadPack1
import Derived.Laws.BytesArg
import Derived.Deep.RegionWith
/-
  Keys, plainly: which plans are right, what fits, the bytes of values one behind the other, and what is read of bytes.
-/
namespace Go.Proofs.Ytikopeihkbpjhad
open Go.RowKit
set_option maxRecDepth 4000

/-- A plan is right. -/
def planOk (n : Nat) (fc ft : Nat → Int) : Bool := (List.range n).all (fun i => partOk (fc i) (ft i)) && decide (n ≤ 6)
/-- Values fit. -/
def fitsAll (n m : Nat) (ft : Nat → Int) (fu : Nat → Bool) (fk fn : Nat → Int) (fs : Nat → ByteArray) : Bool := decide (m ≤ n) && (List.range m).all (fun i => fitsP (ft i) (fu i) (fk i) (fn i) (fs i))
theorem planOk_iff {n : Nat} {fc ft : Nat → Int} : planOk n fc ft = true ↔ (∀ i, i < n → partOk (fc i) (ft i) = true) ∧ n ≤ 6 := by
  unfold planOk; simp
theorem fitsAll_iff {n m : Nat} {ft : Nat → Int} {fu : Nat → Bool} {fk fn : Nat → Int} {fs : Nat → ByteArray} : fitsAll n m ft fu fk fn fs = true ↔ m ≤ n ∧ ∀ i, i < m → fitsP (ft i) (fu i) (fk i) (fn i) (fs i) = true := by
  unfold fitsAll; simp
/-- The first k of the lists, one behind the other. -/
def keyT (g : Nat → List Int) : Nat → List Int
  | 0 => []
  | k + 1 => keyT g k ++ g k
/-- The bytes of the value at a place of a plan. -/
def onePL (fc ft : Nat → Int) (fu fd : Nat → Bool) (fk fn : Nat → Int) (fs : Nat → ByteArray) (i : Nat) : List Int := putPL (fc i) (ft i) (fu i) (fd i) (fk i) (fn i) (fs i)
/-- The bytes of a key. -/
def keyL (n : Nat) (fc ft : Nat → Int) (fu fd : Nat → Bool) (m : Nat) (fk fn : Nat → Int) (fs : Nat → ByteArray) : List Int :=
  if planOk n fc ft && fitsAll n m ft fu fk fn fs then keyT (onePL fc ft fu fd fk fn fs) m else []

theorem keyT_congr {g h : Nat → List Int} : ∀ {k : Nat}, (∀ i, i < k → g i = h i) → keyT g k = keyT h k
  | 0, _ => rfl
  | k + 1, e => by rw [keyT, keyT, keyT_congr (fun i hi => e i (by omega)), e k (by omega)]
/-- What stands behind the first k. -/
theorem keyT_split (g : Nat → List Int) (k : Nat) : ∀ j, keyT g (k + j) = keyT g k ++ keyT (fun i => g (k + i)) j
  | 0 => by simp [keyT]
  | j + 1 => by rw [← Nat.add_assoc, keyT, keyT_split g k j, keyT, List.append_assoc]
theorem keyT_byte {g : Nat → List Int} : ∀ {k : Nat}, (∀ i, i < k → ∀ y ∈ g i, 0 ≤ y ∧ y ≤ 255) → ∀ y ∈ keyT g k, 0 ≤ y ∧ y ≤ 255
  | 0, _, y, hy => by simp [keyT] at hy
  | k + 1, h, y, hy => by
    rw [keyT] at hy
    rcases List.mem_append.1 hy with hy | hy
    · exact keyT_byte (fun i hi => h i (by omega)) y hy
    · exact h k (by omega) y hy
theorem keyL_byte (n : Nat) (fc ft : Nat → Int) (fu fd : Nat → Bool) (m : Nat) (fk fn : Nat → Int) (fs : Nat → ByteArray) : ∀ y ∈ keyL n fc ft fu fd m fk fn fs, 0 ≤ y ∧ y ≤ 255 := by
  intro y hy
  unfold keyL at hy
  split at hy
  · exact keyT_byte (fun i _ => putPL_byte _ _ _ _ _ _ _) y hy
  · cases hy
theorem onePL_len {ft : Nat → Int} {fu : Nat → Bool} {fk fn : Nat → Int} {fs : Nat → ByteArray} {i : Nat} (fc : Nat → Int) (fd : Nat → Bool) (h : fitsP (ft i) (fu i) (fk i) (fn i) (fs i) = true) : (onePL fc ft fu fd fk fn fs i).length ≤ 69 := by
  unfold onePL
  have h1 := putPL_len (fc i) (ft i) (fu i) (fd i) (fk i) (fn i) (fs i)
  have h2 : (fs i).size ≤ 30 := by unfold fitsP at h; simp only [Bool.and_eq_true] at h; exact okF_few h.1
  omega
theorem keyT_len {g : Nat → List Int} : ∀ {k : Nat}, (∀ i, i < k → (g i).length ≤ 69) → (keyT g k).length ≤ k * 69
  | 0, _ => by simp [keyT]
  | k + 1, h => by
    rw [keyT, List.length_append]
    have h1 := keyT_len (fun i hi => h i (by omega)) (k := k)
    have h2 := h k (by omega)
    omega
theorem keyL_len (n : Nat) (fc ft : Nat → Int) (fu fd : Nat → Bool) (m : Nat) (fk fn : Nat → Int) (fs : Nat → ByteArray) : (keyL n fc ft fu fd m fk fn fs).length ≤ 414 := by
  unfold keyL
  split
  · rename_i h
    simp only [Bool.and_eq_true] at h
    obtain ⟨h1, h2⟩ := h
    have hp := planOk_iff.1 h1
    have hf := fitsAll_iff.1 h2
    have := keyT_len (g := onePL fc ft fu fd fk fn fs) (k := m) (fun i hi => onePL_len fc fd (hf.2 i hi))
    omega
  · simp

section
variable (N : Nat) (F : Nat → Int) (fc ft : Nat → Int) (fu fd : Nat → Bool)
/-- The place behind the first k values, as they are read. -/
def decQ : Nat → Option Int
  | 0 => some 0
  | k + 1 => (decQ k).bind (fun p => if (getP N F (fc k) (ft k) (fu k) (fd k) p).ok then some (getP N F (fc k) (ft k) (fu k) (fd k) p).q else none)
/-- The value that is read at a place of a plan. -/
def decG (k : Nat) : Got := getP N F (fc k) (ft k) (fu k) (fd k) ((decQ N F fc ft fu fd k).getD 0)
/-- Whether the bytes are a key of the plan. -/
def decOk (n : Nat) : Bool := planOk n fc ft && decide (decQ N F fc ft fu fd n = some (N : Int))
end
theorem decQ_succ {N : Nat} {F : Nat → Int} {fc ft : Nat → Int} {fu fd : Nat → Bool} {k : Nat} {q : Int} (h : decQ N F fc ft fu fd (k + 1) = some q) : ∃ p, decQ N F fc ft fu fd k = some p ∧ (getP N F (fc k) (ft k) (fu k) (fd k) p).ok = true ∧ (getP N F (fc k) (ft k) (fu k) (fd k) p).q = q := by
  rw [decQ] at h
  obtain ⟨p, h1, h2⟩ := Option.bind_eq_some_iff.1 h
  by_cases e : (getP N F (fc k) (ft k) (fu k) (fd k) p).ok = true
  · rw [if_pos e] at h2
    exact ⟨p, h1, e, Option.some.inj h2⟩
  · rw [if_neg e] at h2; cases h2
end Go.Proofs.Ytikopeihkbpjhad

/-
  All up to a number.
-/
namespace Go.Proofs.Ytikopeihkbpjhad

theorem allUpto_no {p : Nat → Bool} {n k : Nat} (hk : k < n) (h : p k = false) : (List.range n).all p = false := by
  rw [Bool.eq_false_iff]
  intro e
  have := List.all_eq_true.1 e k (List.mem_range.2 hk)
  rw [h] at this; cases this
theorem allUpto_yes {p : Nat → Bool} {n : Nat} (h : ∀ i, i < n → p i = true) : (List.range n).all p = true :=
  List.all_eq_true.2 (fun i hi => h i (List.mem_range.1 hi))
end Go.Proofs.Ytikopeihkbpjhad

/-
  The model's PlanOk and FitsAll come to the plain ones.
-/
namespace Go.Proofs.Ytikopeihkbpjhad
open Go.RowKit
set_option maxRecDepth 4000

set_option maxHeartbeats 2000000 in
theorem specPlanOk_any (a : Option Addr) (n cap : Nat) (fc ft : Nat → Int) (fu fd : Nat → Bool) (w : World) (h : PView w a n cap fc ft fu fd) (hn : n ≤ 1048576) :
    Calls Try.prog 38 #[.slice a n cap] w fun e w' => e = .returned (.bool (planOk n fc ft)) ∧ Below w.heap.size w w' := by
  go_enter Try.func38, Try.ntmps38
  go_wp2
  go_loopg [3] n (fun q i wr => ∃ k : Nat, k ≤ n ∧ q = n - k ∧ i = .int .i64 k ∧ Below w.heap.size w wr ∧ ∀ j, j < k → partOk (fc j) (ft j) = true)
  case atStart => exact ⟨0, Nat.zero_le _, rfl, rfl, Below.refl _ _, fun j hj => absurd hj (Nat.not_lt_zero _)⟩
  case round =>
    obtain ⟨k, hk, rfl, rfl, hB, hall⟩ := hrel
    have HA : Hid (∀ j, j < k → partOk (fc j) (ft j) = true) := hall
    clear hall
    by_cases hlt : k < n
    · obtain ⟨b1, o1, rfl, hb1, hd1⟩ := (h.below hB).cells (by omega)
      obtain ⟨x0, x1, x2, x3⟩ := hd1 k hlt
      have hkz : (k : Int) < (n : Int) := by omega
      clear hd1 h
      go_wp2_with fail
      clear x0 x1 x2 x3
      refine (specPartOk_any (fc k) (ft k) (fu k) (fd k) _).mono ?_
      cases ho : partOk (fc k) (ft k) with
      | true =>
        rintro e w2 ⟨rfl, hB2⟩
        have hB3 := hB.trans (hB2.mono hB.size)
        clear hB2
        have HN : Hid (∀ j, j < k + 1 → partOk (fc j) (ft j) = true) := by
          intro j hj
          by_cases e : j < k
          · exact HA.out j e
          · obtain rfl : j = k := by omega
            exact ho
        clear ho HA
        go_wp2
        go_roundg (n - (k + 1))
        case measure => omega
        case rel => exact ⟨k + 1, by omega, rfl, by go_num, hB3, HN.out⟩
      | false =>
        rintro e w2 ⟨rfl, hB2⟩
        have hB3 := hB.trans (hB2.mono hB.size)
        have HF : Hid (planOk n fc ft = false) := by show _ = _; unfold planOk; rw [allUpto_no hlt ho]; rfl
        clear hB2 ho HA
        go_wp2
        go_ret
        exact ⟨by rw [HF.out]; rfl, hB3⟩
    · have hkn : k = n := by omega
      have hkz : ¬ (k : Int) < (n : Int) := by omega
      by_cases h6 : n ≤ 6
      · have hz : (n : Int) ≤ 6 := by omega
        have HT : Hid (planOk n fc ft = true) := planOk_iff.2 ⟨fun i hi => HA.out i (by omega), h6⟩
        clear HA
        go_wp2
        go_ret
        exact ⟨by rw [HT.out]; rfl, hB⟩
      · have hz : ¬ (n : Int) ≤ 6 := by omega
        have HT : Hid (planOk n fc ft = false) := by show _ = _; unfold planOk; simp [h6]
        clear HA
        go_wp2
        go_ret
        exact ⟨by rw [HT.out]; rfl, hB⟩

set_option maxHeartbeats 2000000 in
theorem specFitsAll_any (a : Option Addr) (n cap : Nat) (fc ft : Nat → Int) (fu fd : Nat → Bool) (a2 : Option Addr) (m cap2 : Nat) (fk fn : Nat → Int) (fs : Nat → ByteArray) (w : World) (h : PView w a n cap fc ft fu fd) (h2 : VView w a2 m cap2 fk fn fs) (hn : n ≤ 1048576) (hm : m ≤ 1048576) (hs : ∀ i, i < m → (fs i).size ≤ 1048576) :
    Calls Try.prog 50 #[.slice a n cap, .slice a2 m cap2] w fun e w' => e = .returned (.bool (fitsAll n m ft fu fk fn fs)) ∧ Below w.heap.size w w' := by
  by_cases hmn : n < m
  · have hz : (n : Int) < (m : Int) := by omega
    have e : fitsAll n m ft fu fk fn fs = false := by unfold fitsAll; simp; omega
    rw [e]
    go_enter Try.func50, Try.ntmps50
    go_wp2
    go_ret
    exact ⟨rfl, Below.refl _ _⟩
  have hz0 : ¬ (n : Int) < (m : Int) := by omega
  go_enter Try.func50, Try.ntmps50
  go_wp2
  go_loopg [5] m (fun q i wr => ∃ k : Nat, k ≤ m ∧ q = m - k ∧ i = .int .i64 k ∧ Below w.heap.size w wr ∧ ∀ j, j < k → fitsP (ft j) (fu j) (fk j) (fn j) (fs j) = true)
  case atStart => exact ⟨0, Nat.zero_le _, rfl, rfl, Below.refl _ _, fun j hj => absurd hj (Nat.not_lt_zero _)⟩
  case round =>
    obtain ⟨k, hk, rfl, rfl, hB, hall⟩ := hrel
    have HA : Hid (∀ j, j < k → fitsP (ft j) (fu j) (fk j) (fn j) (fs j) = true) := hall
    clear hall
    by_cases hlt : k < m
    · have hlt2 : k < n := by omega
      obtain ⟨b1, o1, rfl, hb1, hd1⟩ := (h.below hB).cells (by omega)
      obtain ⟨b2, o2, rfl, hb2, hd2⟩ := (h2.below hB).cells (by omega)
      obtain ⟨x0, x1, x2, x3⟩ := hd1 k (by omega)
      obtain ⟨y0, y1, y2⟩ := hd2 k hlt
      have hkz : (k : Int) < (m : Int) := by omega
      have hkn : (k : Int) < (n : Int) := by omega
      have hsz := hs k hlt
      obtain ⟨o, ho⟩ : ∃ o, Hid (fitsP (ft k) (fu k) (fk k) (fn k) (fs k) = o) := ⟨_, rfl⟩
      have hF := fun W => specFits_any (fc k) (ft k) (fu k) (fd k) (fk k) (fn k) (fs k) W (by omega)
      rw [ho.out] at hF
      have HO : Hid (o = false → fitsAll n m ft fu fk fn fs = false) := by
        intro e
        have := ho.out
        rw [e] at this
        unfold fitsAll
        rw [allUpto_no (p := fun i => fitsP (ft i) (fu i) (fk i) (fn i) (fs i)) hlt this, Bool.and_false]
      have HN : Hid (o = true → ∀ j, j < k + 1 → fitsP (ft j) (fu j) (fk j) (fn j) (fs j) = true) := by
        intro e j hj
        by_cases ej : j < k
        · exact HA.out j ej
        · obtain rfl : j = k := by omega
          rw [ho.out, e]
      clear hd1 hd2 h h2 ho HA hsz
      obtain ⟨p0, hp0⟩ : ∃ p, Hid (fc k = p) := ⟨_, rfl⟩
      obtain ⟨p1, hp1⟩ : ∃ p, Hid (ft k = p) := ⟨_, rfl⟩
      obtain ⟨p2, hp2⟩ : ∃ p, Hid (fu k = p) := ⟨_, rfl⟩
      obtain ⟨p3, hp3⟩ : ∃ p, Hid (fd k = p) := ⟨_, rfl⟩
      obtain ⟨q0, hq0⟩ : ∃ p, Hid (fk k = p) := ⟨_, rfl⟩
      obtain ⟨q1, hq1⟩ : ∃ p, Hid (fn k = p) := ⟨_, rfl⟩
      obtain ⟨q2, hq2⟩ : ∃ p, Hid (fs k = p) := ⟨_, rfl⟩
      rw [hp0.out] at x0 hF
      rw [hp1.out] at x1 hF
      rw [hp2.out] at x2 hF
      rw [hp3.out] at x3 hF
      rw [hq0.out] at y0 hF
      rw [hq1.out] at y1 hF
      rw [hq2.out] at y2 hF
      go_wp2_with fail
      refine wp_region_held_drew (S := fun W => (W.cell? ⟨b1, o1 + k * 4, none⟩ = some (.int .i64 p0) ∧ W.cell? ⟨b1, o1 + k * 4 + 1, none⟩ = some (.int .i64 p1) ∧ W.cell? ⟨b1, o1 + k * 4 + 2, none⟩ = some (.bool p2) ∧ W.cell? ⟨b1, o1 + k * 4 + 3, none⟩ = some (.bool p3)) ∧ (W.cell? ⟨b2, o2 + k * 3, none⟩ = some (.int .i64 q0) ∧ W.cell? ⟨b2, o2 + k * 3 + 1, none⟩ = some (.int .i64 q1) ∧ W.cell? ⟨b2, o2 + k * 3 + 2, none⟩ = some (.string q2))) (by kernel_rfl) (⟨⟨x0, x1, x2, x3⟩, y0, y1, y2⟩) (fun hHeld => ?_)
      refine' wpAnyH_take (i := 0) (v := _) rfl (by kernel_rfl) (by kernel_rfl) (by kernel_rfl) (fun _ _ _ h => h) (Or.inl ⟨by kernel_rfl, ?ha0⟩) (by assumption) ?ra0
      case ha0 => intro W hW; obtain ⟨⟨d0, d1, d2, d3⟩, g0, g1, g2⟩ := hW; go_simp; all_goals with_reducible rfl
      change wpAnyH _ _ _ _ _ _ _ (Act.put _ (some 17) _) _
      simp only [Act.put, List.setIfInBounds_toArray, List.set_cons_zero, List.set_cons_succ]
      refine' wpAnyH_take (i := 1) (v := _) rfl (by kernel_rfl) (by kernel_rfl) (by kernel_rfl) (fun _ _ _ h => h) (Or.inl ⟨by kernel_rfl, ?ha1⟩) (by assumption) ?ra1
      case ha1 => intro W hW; obtain ⟨⟨d0, d1, d2, d3⟩, g0, g1, g2⟩ := hW; go_simp; all_goals with_reducible rfl
      change wpAnyH _ _ _ _ _ _ _ (Act.put _ (some 18) _) _
      simp only [Act.put, List.setIfInBounds_toArray, List.set_cons_zero, List.set_cons_succ]
      refine' wpAnyH_take (i := 2) (v := _) rfl (by kernel_rfl) (by kernel_rfl) (by kernel_rfl) (fun _ _ _ h => h) (Or.inl ⟨by kernel_rfl, ?ha2⟩) (by assumption) ?ra2
      case ha2 => intro W hW; obtain ⟨⟨d0, d1, d2, d3⟩, g0, g1, g2⟩ := hW; go_simp; all_goals with_reducible rfl
      change wpAnyH _ _ _ _ _ _ _ (Act.put _ (some 19) _) _
      simp only [Act.put, List.setIfInBounds_toArray, List.set_cons_zero, List.set_cons_succ]
      refine' wpAnyH_take (i := 3) (v := _) rfl (by kernel_rfl) (by kernel_rfl) (by kernel_rfl) (fun _ _ _ h => h) (Or.inl ⟨by kernel_rfl, ?ha3⟩) (by assumption) ?ra3
      case ha3 => intro W hW; obtain ⟨⟨d0, d1, d2, d3⟩, g0, g1, g2⟩ := hW; go_simp; all_goals with_reducible rfl
      change wpAnyH _ _ _ _ _ _ _ (Act.put _ (some 20) _) _
      simp only [Act.put, List.setIfInBounds_toArray, List.set_cons_zero, List.set_cons_succ]
      refine' wpAnyH_take (i := 4) (v := _) rfl (by kernel_rfl) (by kernel_rfl) (by kernel_rfl) (fun _ _ _ h => h) (Or.inl ⟨by kernel_rfl, ?ha4⟩) (by assumption) ?ra4
      case ha4 => intro W hW; obtain ⟨⟨d0, d1, d2, d3⟩, g0, g1, g2⟩ := hW; go_simp; all_goals with_reducible rfl
      change wpAnyH _ _ _ _ _ _ _ (Act.put _ (some 21) _) _
      simp only [Act.put, List.setIfInBounds_toArray, List.set_cons_zero, List.set_cons_succ]
      refine' wpAnyH_take (i := 5) (v := _) rfl (by kernel_rfl) (by kernel_rfl) (by kernel_rfl) (fun _ _ _ h => h) (Or.inl ⟨by kernel_rfl, ?ha5⟩) (by assumption) ?ra5
      case ha5 => intro W hW; obtain ⟨⟨d0, d1, d2, d3⟩, g0, g1, g2⟩ := hW; go_simp; all_goals with_reducible rfl
      change wpAnyH _ _ _ _ _ _ _ (Act.put _ (some 22) _) _
      simp only [Act.put, List.setIfInBounds_toArray, List.set_cons_zero, List.set_cons_succ]
      refine' wpAnyH_take (i := 6) (v := _) rfl (by kernel_rfl) (by kernel_rfl) (by kernel_rfl) (fun _ _ _ h => h) (Or.inl ⟨by kernel_rfl, ?ha6⟩) (by assumption) ?ra6
      case ha6 => intro W hW; obtain ⟨⟨d0, d1, d2, d3⟩, g0, g1, g2⟩ := hW; go_simp; all_goals with_reducible rfl
      change wpAnyH _ _ _ _ _ _ _ (Act.put _ (some 23) _) _
      simp only [Act.put, List.setIfInBounds_toArray, List.set_cons_zero, List.set_cons_succ]
      refine' wpAnyH_take (i := 7) (v := _) rfl (by kernel_rfl) (by kernel_rfl) (by kernel_rfl) (fun _ _ _ h => h) (Or.inl ⟨by kernel_rfl, ?ha7⟩) (by assumption) ?ra7
      case ha7 => intro W hW; obtain ⟨⟨d0, d1, d2, d3⟩, g0, g1, g2⟩ := hW; go_simp; all_goals with_reducible rfl
      change wpAnyH _ _ _ _ _ _ _ (Act.put _ (some 24) _) _
      simp only [Act.put, List.setIfInBounds_toArray, List.set_cons_zero, List.set_cons_succ]
      refine wpAnyH_ready (rs := [8]) (by kernel_rfl) (by simp) ?_
      refine AllReadyH.cons rfl (fun KK hK => ?_) AllReadyH.nil
      go_simp
      refine (hF _).mono ?_
      rintro e w2 ⟨rfl, hB2⟩
      go_wp2_with fail
      refine hK.out _ _ ⟨⟨by rw [hB2.cell hb1]; exact x0, by rw [hB2.cell hb1]; exact x1, by rw [hB2.cell hb1]; exact x2, by rw [hB2.cell hb1]; exact x3⟩, by rw [hB2.cell hb2]; exact y0, by rw [hB2.cell hb2]; exact y1, by rw [hB2.cell hb2]; exact y2⟩ (fun hHeld => ?_)
      clear hK KK
      try simp only [Act.put, List.setIfInBounds_toArray, List.set_cons_zero, List.set_cons_succ]
      refine' wpAnyH_take (i := 9) (v := _) rfl (by kernel_rfl) (by kernel_rfl) (by kernel_rfl) (fun _ _ _ h => h) (Or.inl ⟨by kernel_rfl, ?ha9⟩) (by assumption) ?ra9
      case ha9 => intro W hW; obtain ⟨⟨d0, d1, d2, d3⟩, g0, g1, g2⟩ := hW; go_simp; all_goals with_reducible rfl
      change wpAnyH _ _ _ _ _ _ _ (Act.put _ (some 26) _) _
      simp only [Act.put, List.setIfInBounds_toArray, List.set_cons_zero, List.set_cons_succ]
      refine wpAnyH_done (by kernel_rfl) ?_ _
      have hB3 : Hid (Below w.heap.size w w2) := hB.trans (Below.trans (Below.drew (Below.refl _ _)) (hB2.mono (by have := hB.size; exact this)))
      clear hHeld x0 x1 x2 x3 y0 y1 y2 hF
      cases o with
      | true =>
        go_wp2
        go_roundg (m - (k + 1))
        case measure => omega
        case rel => exact ⟨k + 1, by omega, rfl, by go_num, hB3.out, HN.out (by simp)⟩
      | false =>
        go_wp2
        go_ret
        exact ⟨by rw [HO.out (by simp)]; rfl, hB3.out⟩
    · have hkz : ¬ (k : Int) < (m : Int) := by omega
      have HT : Hid (fitsAll n m ft fu fk fn fs = true) := fitsAll_iff.2 ⟨by omega, fun i hi => HA.out i (by omega)⟩
      clear HA
      go_wp2
      go_ret
      exact ⟨by rw [HT.out]; rfl, hB⟩
end Go.Proofs.Ytikopeihkbpjhad

/-
  The draws of plans, right or not.
-/
namespace Go.Proofs.Ytikopeihkbpjhad
open Go.RowKit
set_option maxRecDepth 4000

/-- A plan that was drawn: m parts, in a row of the call's own. -/
structure DrewAnyP (w : World) (g : Nat) (ao : Option Addr) (n cap : Nat) (f : Nat → Int) (v : Value) (m : Nat) (gc gt : Nat → Int) (gu gd : Nat → Bool) (w' : World) : Prop where
  some : v ≠ .slice none 0 0
  own : w'.ownsRow w.heap.size 58 4 v m (rowP gc gt gu gd m)
  cur : Cur w' g ao n cap f
  but : But g w w'

/-- The first part is put anew. -/
theorem PView.set0 {w : World} {b m cp : Nat} {gc gt : Nat → Int} {gu gd : Nat → Bool} (h : PView w (some ⟨b, 0, none⟩) m cp gc gt gu gd) (hm : 0 < m) (c t : Int) (nul d : Bool) :
    PView ((((w.setCell ⟨b, 0, none⟩ (.int .i64 c)).setCell ⟨b, 1, none⟩ (.int .i64 t)).setCell ⟨b, 2, none⟩ (.bool nul)).setCell ⟨b, 3, none⟩ (.bool d)) (some ⟨b, 0, none⟩) m cp (fun i => if i = 0 then c else gc i) (fun i => if i = 0 then t else gt i) (fun i => if i = 0 then nul else gu i) (fun i => if i = 0 then d else gd i) := by
  refine ⟨h.le, fun _ => ?_⟩
  obtain ⟨b', off, e, hlt, hd⟩ := h.cells hm
  cases e
  refine ⟨b, 0, rfl, by simpa using hlt, fun i hi => ?_⟩
  by_cases hi0 : i = 0
  · subst hi0
    obtain ⟨x0, x1, x2, x3⟩ := hd 0 hm
    simp only [Nat.zero_mul, Nat.add_zero, Nat.zero_add, if_pos] at x0 x1 x2 x3 ⊢
    refine ⟨?_, ?_, ?_, ?_⟩
    · rw [sc_other _ _ 3 0 _ (by decide), sc_other _ _ 2 0 _ (by decide), sc_other _ _ 1 0 _ (by decide), sc_same x0]
    · rw [sc_other _ _ 3 1 _ (by decide), sc_other _ _ 2 1 _ (by decide), sc_same (u := .int .i64 (gt 0)) (by rw [sc_other _ _ 0 1 _ (by decide)]; exact x1)]
    · rw [sc_other _ _ 3 2 _ (by decide), sc_same (u := .bool (gu 0)) (by rw [sc_other _ _ 1 2 _ (by decide), sc_other _ _ 0 2 _ (by decide)]; exact x2)]
    · rw [sc_same (u := .bool (gd 0)) (by rw [sc_other _ _ 2 3 _ (by decide), sc_other _ _ 1 3 _ (by decide), sc_other _ _ 0 3 _ (by decide)]; exact x3)]
  · simp only [if_neg hi0]
    obtain ⟨x0, x1, x2, x3⟩ := hd i hi
    refine ⟨?_, ?_, ?_, ?_⟩
    all_goals rw [sc_other _ _ 3 _ _ (by omega), sc_other _ _ 2 _ _ (by omega), sc_other _ _ 1 _ _ (by omega), sc_other _ _ 0 _ _ (by omega)]
    · exact x0
    · exact x1
    · exact x2
    · exact x3

/-- A plan, right or not. -/
structure AnyPlan (w : World) (g : Nat) (ao : Option Addr) (n cap : Nat) (f : Nat → Int) (b m cp : Nat) (gc gt : Nat → Int) (gu gd : Nat → Bool) (w' : World) : Prop where
  new : w.heap.size ≤ b
  pos : 1 ≤ m
  few : m ≤ 7
  view : PView w' (some ⟨b, 0, none⟩) m cp gc gt gu gd
  cur : Cur w' g ao n cap f
  but : But g w w'

set_option maxHeartbeats 4000000 in
theorem l6Any_any (g : Nat) (ao : Option Addr) (n cap : Nat) (f : Nat → Int) (w : World) (hn : n ≤ 1048576) (hC : Cur w g ao n cap f) :
    Calls Try.prog 12 #[.pointer (some ⟨g, 0, none⟩)] w fun e w' => ∃ (b m cp : Nat) (gc gt : Nat → Int) (gu gd : Nat → Bool), e = .returned (.slice (some ⟨b, 0, none⟩) m cp) ∧ AnyPlan w g ao n cap f b m cp gc gt gu gd w' := by
  obtain ⟨i0, hi, hz0, hz1, hz2⟩ := infoPart4
  have hgl := hC.lt
  have HC : Hid (∀ a, ao = some a → 0 < n → a.block < w.heap.size) := hC.code
  go_enter Try.func12, Try.ntmps12
  go_wp2_with fail
  refine (l6Plan_any g ao n cap f w hn hC).mono ?_
  rintro e w1 ⟨v, m, gc, gt, gu, gd, rfl, hm1, hm3, hP⟩
  clear hC
  have hC1 := hP.cur
  obtain ⟨a, cp, rfl, -, hsome⟩ := pview_of_own hP.own
  obtain ⟨b, rfl, hb⟩ := hsome hP.some
  go_wp2_with fail
  refine (l1Below_any g ao n cap f 12 w1 hn (by omega) (by omega) hC1).mono ?_
  rintro e w2 ⟨x, rfl, hx0, hx1, hC2, hO2⟩
  have hown2 := hP.own.kept hO2.grown (Or.inr (fun e => by have := (hP.own.lt g e).1; omega))
  have hB2 : But g w w2 := hP.but.trans (But.ofOnly hO2)
  have hA2 : DrewAnyP w g ao n cap f (.slice (some ⟨b, 0, none⟩) m cp) m gc gt gu gd w2 := ⟨by simp, hown2, hC2, hB2⟩
  obtain ⟨a', cp', e', hpv2, -⟩ := pview_of_own hown2
  cases e'
  have hbl : b < w2.heap.size := by obtain ⟨b', off, e, hlt, -⟩ := hpv2.cells (by omega); cases e; exact hlt
  clear hP hO2 hC1 hsome
  by_cases e0 : x = 0
  · subst e0
    go_wp2_with fail
    refine (l5Any_any g ao n cap f w2 hn hC2).mono ?_
    rintro e w3 ⟨c, t, nul, d, rfl, hD⟩
    have hpv3 := hpv2.but hD.but (fun X e => by cases e; show b ≠ g; omega)
    have hown3 := hown2.kept hD.but.grown (Or.inr (fun e => by have := (hown2.lt g e).1; omega))
    obtain ⟨b', off, e, hlt3, hd3⟩ := hpv3.cells (by omega)
    cases e
    obtain ⟨x0, x1, x2, x3⟩ := hd3 0 (by omega)
    simp only [Nat.zero_mul, Nat.add_zero, Nat.zero_add] at x0 x1 x2 x3
    have hfz : ∀ j, w3.frozen? ⟨b, j, none⟩ = false := fun j => by
      rcases hown3.2 with ⟨e, _⟩ | ⟨g', c', cur', e, _, hg', _⟩
      · cases e
      · cases e; simp [World.frozen?, hg']
    have f0 := hfz 0
    have f1 := hfz 1
    have f2 := hfz 2
    have f3 := hfz 3
    have hmz : (0 : Int) < (m : Int) := by omega
    have HV : Hid (AnyPlan w g ao n cap f b m cp (fun i => if i = 0 then c else gc i) (fun i => if i = 0 then t else gt i) (fun i => if i = 0 then nul else gu i) (fun i => if i = 0 then d else gd i) ((((w3.setCell ⟨b, 0, none⟩ (.int .i64 c)).setCell ⟨b, 1, none⟩ (.int .i64 t)).setCell ⟨b, 2, none⟩ (.bool nul)).setCell ⟨b, 3, none⟩ (.bool d))) := by
      refine ⟨hb, hm1, by omega, hpv3.set0 (by omega) c t nul d, ?_, ?_⟩
      · have q : ∀ a, ao = some a → 0 < n → a.block ≠ b := fun a h1 h0 => by have := HC.out a h1 h0; omega
        exact (((hD.cur.setNew _ (by omega) q).setNew _ (by omega) q).setNew _ (by omega) q).setNew _ (by omega) q
      · exact ((((hB2.trans hD.but).setNew hb _).setNew hb _).setNew hb _).setNew hb _
    clear hfz hd3 hpv3 hown3 hpv2 hown2 hA2 hD hC2
    go_wp2
    go_ret
    exact ⟨b, m, cp, _, _, _, _, rfl, HV.out⟩
  · have e0' : ¬ (x = 0) := e0
    by_cases e1 : x = 1
    · subst e1
      clear hpv2 hown2 hC2 hbl hB2
      go_wp2
      go_loopg [3] (8 - m) (fun q v wr => ∃ (m2 : Nat) (gc gt : Nat → Int) (gu gd : Nat → Bool), 1 ≤ m2 ∧ m2 ≤ 7 ∧ q = 8 - m2 ∧ DrewAnyP w g ao n cap f v m2 gc gt gu gd wr)
      case atStart => exact ⟨m, gc, gt, gu, gd, hm1, by omega, rfl, hA2⟩
      case round =>
        clear hA2
        obtain ⟨m2, hc, ht, hu, hd, h1, h7, rfl, hD⟩ := hrel
        obtain ⟨a3, c3, e3, hpv, hs⟩ := pview_of_own hD.own
        obtain ⟨b3, rfl, hb3⟩ := hs hD.some
        subst e3
        have hown := hD.own
        have HD : Hid (DrewAnyP w g ao n cap f (.slice (some ⟨b3, 0, none⟩) m2 c3) m2 hc ht hu hd wr) := hD
        have hCr := hD.cur
        clear hD hs
        go_wp2_with fail
        refine (l1Below_any g ao n cap f 2 wr hn (by omega) (by omega) hCr).mono ?_
        rintro e w3 ⟨y, rfl, hy0, hy1, hC3, hO3⟩
        have hown3 := hown.kept hO3.grown (Or.inr (fun e => by have := (hown.lt g e).1; omega))
        have hB3 : But g w w3 := HD.out.but.trans (But.ofOnly hO3)
        by_cases hlt : (m2 : Int) < 6 + y
        · have Hlt : Hid (m2 < 7) := by show _ < _; omega
          go_wp2_with fail
          refine (l5Draw_fit g ao n cap f 0 w3 hn (by unfold I64; omega) hC3).mono ?_
          rintro e w4 ⟨t, nul, d, rfl, -, hP⟩
          have hown4 := hown3.kept hP.but.grown (Or.inr (fun e => by have := (hown3.lt g e).1; omega))
          have hC4 := hP.cur
          have hB4 : But g w w4 := hB3.trans hP.but
          have hs4 : w.heap.size ≤ w4.heap.size := hB4.size
          have hcl := cells_part w4 0 t nul d
          clear hO3 hC3 hP hCr hpv
          go_wp2_with (at_builtin; refine wpList_append_own _ rfl (.tmp 22) (.tmp 25) 24 rfl w.heap.size 58 i0 (.agg #[.int .i64 0, .int .i64 0, .bool false, .bool false]) 4 24 Try.underlying24 hi hz0 hz1 hz2 rfl (by decide) (.slice (some ⟨b3, 0, none⟩) m2 c3) _ _ rfl (hown4.alloc _) ⟨w4.heap.size, 0, none⟩ 1 1 [.int .i64 0, .int .i64 t, .bool nul, .bool d] rfl rfl hcl (one_part _ _ _ _) (by unfold maxLen; omega) (by omega) (by simp; omega) ?_; intro v5 w5 hown5 hgr5 hnil5)
          have hb5 : Below w4.heap.size w4 (w4.alloc (.cells #[.int .i64 0, .int .i64 t, .bool nul, .bool d] 58)) := (Below.refl _ _).alloc (Nat.le_refl _) _
          have hB5 : But g w w5 := by
            refine ⟨hgr5.os.trans hB4.os, hgr5.tape.trans hB4.tape, hgr5.output.trans hB4.output, Nat.le_trans hs4 (Nat.le_trans (by simp) hgr5.size), fun j hj hg => ?_⟩
            rw [hgr5.block j (by simp; omega) (fun e => by have := (hown.lt j e.symm).1; omega), Below.heap_alloc _ _ _ (by omega)]
            exact hB4.block j hj hg
          have hC5 : Cur w5 g ao n cap f := (hC4.below hb5).grown hgr5 (fun e => by have := (hown.lt g e).1; omega) (fun a ha h0 e => by have := (hown.lt _ e).1; have := HC.out a ha h0; omega)
          have HD5 : Hid (DrewAnyP w g ao n cap f v5 (m2 + 1) (fun i => if i = m2 then 0 else hc i) (fun i => if i = m2 then t else ht i) (fun i => if i = m2 then nul else hu i) (fun i => if i = m2 then d else hd i) w5) := by
            refine ⟨fun e => HD.out.some (hnil5.1 e).1, ?_, hC5, hB5⟩
            rw [rowP, if_pos rfl, if_pos rfl, if_pos rfl, if_pos rfl, rowP_congr (hc := hc) (ht := ht) (hu := hu) (hd := hd) (fun i hi => by rw [if_neg (by omega), if_neg (by omega), if_neg (by omega), if_neg (by omega)]; exact ⟨rfl, rfl, rfl, rfl⟩)]
            exact hown5
          clear hown hown3 hown4 hown5 hgr5 hnil5 hcl hC5 hB5 hb5 hB4 hC4 HD hB3
          go_wp2
          go_roundg (8 - (m2 + 1))
          case measure => have := Hlt.out; omega
          case rel => exact ⟨m2 + 1, _, _, _, _, by omega, Hlt.out, rfl, HD5.out⟩
        · have HV : Hid (AnyPlan w g ao n cap f b3 m2 c3 hc ht hu hd w3) := ⟨hb3, h1, h7, hpv.but (But.ofOnly hO3) (fun X e => by cases e; show b3 ≠ g; omega), hC3, hB3⟩
          clear hown hown3 hpv hC3 hB3 hO3 hCr HD
          go_wp2
          go_ret
          exact ⟨b3, m2, c3, hc, ht, hu, hd, rfl, HV.out⟩
    · have HV : Hid (AnyPlan w g ao n cap f b m cp gc gt gu gd w2) := ⟨hb, hm1, by omega, hpv2, hC2, hB2⟩
      clear hpv2 hown2 hA2 hC2
      go_wp2
      go_ret
      exact ⟨b, m, cp, gc, gt, gu, gd, rfl, HV.out⟩

/-- A list of values for a plan, fitting or not. -/
structure AnyVals (w : World) (g : Nat) (ao : Option Addr) (n cap : Nat) (f : Nat → Int) (b M c : Nat) (gk gn : Nat → Int) (gs : Nat → ByteArray) (w' : World) : Prop where
  new : w.heap.size ≤ b
  few : M ≤ 7
  short : ∀ i, i < M → (gs i).size ≤ 40
  view : VView w' (some ⟨b, 0, none⟩) M c gk gn gs
  cur : Cur w' g ao n cap f
  but : But g w w'

theorem view1 {w : World} {B : Nat} {k m : Int} {s : ByteArray} (h : Box w B k m s) : VView w (some ⟨B, 0, none⟩) 1 1 (fun _ => k) (fun _ => m) (fun _ => s) := by
  refine ⟨Nat.le_refl _, fun _ => ⟨B, 0, rfl, h.lt, fun i hi => ?_⟩⟩
  obtain rfl : i = 0 := by omega
  exact h.cells
end Go.Proofs.Ytikopeihkbpjhad

/-
  The draws of rows: a plan, right or not, and values for it.
-/
namespace Go.Proofs.Ytikopeihkbpjhad
open Go.RowKit
set_option maxRecDepth 4000

set_option maxHeartbeats 4000000 in
theorem l7Row_any (g : Nat) (ao : Option Addr) (n cap : Nat) (f : Nat → Int) (b m cp : Nat) (gc gt : Nat → Int) (gu gd : Nat → Bool) (w : World) (hn : n ≤ 1048576) (hC : Cur w g ao n cap f) (h : PView w (some ⟨b, 0, none⟩) m cp gc gt gu gd) (hbg : b ≠ g) (hm1 : 1 ≤ m) (hm : m ≤ 7) :
    Calls Try.prog 14 #[.pointer (some ⟨g, 0, none⟩), .slice (some ⟨b, 0, none⟩) m cp] w fun e w' => ∃ (b2 M c2 : Nat) (fk fn : Nat → Int) (fs : Nat → ByteArray), e = .returned (.slice (some ⟨b2, 0, none⟩) M c2) ∧ AnyVals w g ao n cap f b2 M c2 fk fn fs w' := by
  go_enter Try.func14, Try.ntmps14
  cases hpk : planOk m gc gt with
  | false =>
    go_wp2_with fail
    refine (specPlanOk_any _ m cp gc gt gu gd w h (by omega)).mono ?_
    rw [hpk]
    rintro e w2 ⟨rfl, hb2⟩
    have hB2 : But g w w2 := But.ofBelow (g := g) hb2
    have hC2 := hC.below hb2
    clear hC h hb2
    go_wp2_with fail
    refine (l2Draw_any g ao n cap f w2 hn hC2).mono ?_
    rintro e w3 ⟨k, x, s, rfl, hD⟩
    have hb3 : Below w3.heap.size w3 (w3.alloc (.cells #[.int .i64 k, .int .i64 x, .string s] 47)) := (Below.refl _ _).alloc (Nat.le_refl _) _
    have HV : Hid (AnyVals w g ao n cap f w3.heap.size 1 1 (fun _ => k) (fun _ => x) (fun _ => s) (w3.alloc (.cells #[.int .i64 k, .int .i64 x, .string s] 47))) :=
      ⟨(hB2.trans hD.but).size, by omega, fun _ _ => hD.few, view1 (Box.new w3 k x s), hD.cur.below hb3, (hB2.trans hD.but).trans (But.ofBelow hb3)⟩
    clear hD hb3 hC2
    go_wp2
    go_ret
    exact ⟨_, 1, 1, _, _, _, rfl, HV.out⟩
  | true =>
    obtain ⟨hpo, hm6⟩ := planOk_iff.1 hpk
    have Ht : Hid (∀ i, i < m → 1 ≤ gt i ∧ gt i ≤ 4) := fun i hi => by have := hpo i hi; unfold partOk at this; simp at this; omega
    go_wp2_with fail
    refine (specPlanOk_any _ m cp gc gt gu gd w h (by omega)).mono ?_
    rw [hpk]
    rintro e w2 ⟨rfl, hb2⟩
    have hB2 : But g w w2 := But.ofBelow (g := g) hb2
    have hC2 := hC.below hb2
    have h2 := h.below hb2
    clear hC h hb2 hpo hpk
    go_wp2_with fail
    refine (l6Vals_any g ao n cap f _ m cp gc gt gu gd m w2 hn hC2 h2 (fun X e => by cases e; exact hbg) Ht.out (Nat.le_refl _) (by omega)).mono ?_
    rintro e w6 ⟨v, gk, gn, gs, rfl, hV⟩
    obtain ⟨a1, c1, rfl, hvv, hsome⟩ := vview_of_own hV.own
    obtain ⟨b2, rfl, hb2⟩ := hsome hV.some
    have HV : Hid (AnyVals w g ao n cap f b2 m c1 gk gn gs w6) := by
      refine ⟨Nat.le_trans hB2.size hb2, by omega, fun i hi => ?_, hvv, hV.cur, hB2.trans hV.but⟩
      have hf := hV.fit i hi
      unfold fitsP at hf
      simp only [Bool.and_eq_true] at hf
      have := okF_few hf.1
      omega
    clear hV hvv hsome h2 hC2
    go_wp2
    go_ret
    exact ⟨b2, m, c1, gk, gn, gs, rfl, HV.out⟩
end Go.Proofs.Ytikopeihkbpjhad

/-
  Bytes as a string: what 'string(b)' comes to at a slice of bytes that reads.
-/
namespace Go.Proofs.Ytikopeihkbpjhad
open Go.RowKit
set_option maxRecDepth 4000

theorem conv_view {w : World} {b off n cap : Nat} {f : Nat → Int} (hv : View w (some ⟨b, off, none⟩) n cap f) :
    (convert 22 9 (.slice (some ⟨b, off, none⟩) n cap)).run Try.prog w = .ok (.string (strOfNums (lof n f))) w := by
  refine run_convert_bytes_arg w 22 5 Try.underlying22 Try.underlying5 b off n cap (lof n f) (lof_len n f) ?_ 9 Try.underlying9
  intro i hi
  obtain ⟨b', off', e, _, hc⟩ := hv.cells (by omega)
  simp only [Option.some.injEq, Addr.mk.injEq, and_true] at e
  obtain ⟨rfl, rfl⟩ := e
  rw [hc i hi, lof_get n f i hi]

theorem strOfNums_inj {xs ys : List Int} (hx : ∀ y ∈ xs, 0 ≤ y ∧ y ≤ 255) (hy : ∀ y ∈ ys, 0 ≤ y ∧ y ≤ 255) (h : strOfNums xs = strOfNums ys) : xs = ys := by
  have h1 : xs.map (fun n => UInt8.ofNat n.toNat) = ys.map (fun n => UInt8.ofNat n.toNat) := by
    rw [← strOfNums_data, ← strOfNums_data, h]
  have key : ∀ a b : Int, 0 ≤ a ∧ a ≤ 255 → 0 ≤ b ∧ b ≤ 255 → UInt8.ofNat a.toNat = UInt8.ofNat b.toNat → a = b := by
    intro a b ha hb e
    have := congrArg UInt8.toNat e
    simp at this
    omega
  clear h
  induction xs generalizing ys with
  | nil => cases ys with
    | nil => rfl
    | cons y ys => simp at h1
  | cons x xs ih => cases ys with
    | nil => simp at h1
    | cons y ys =>
      simp only [List.map_cons, List.cons.injEq] at h1
      rw [key x y (hx x (by simp)) (hy y (by simp)) h1.1, ih (fun z hz => hx z (by simp [hz])) (fun z hz => hy z (by simp [hz])) h1.2]

end Go.Proofs.Ytikopeihkbpjhad

/-
  Bytes that are bent, and a place in bytes, as far as a law leans on their draws.
-/
namespace Go.Proofs.Ytikopeihkbpjhad
open Go.RowKit
set_option maxRecDepth 4000

/-- Of what lies below B block g alone may have turned. -/
structure Kept (B g : Nat) (w w' : World) : Prop where
  os : w'.os = w.os
  tape : w'.tape = w.tape
  output : w'.output = w.output
  size : w.heap.size ≤ w'.heap.size
  block : ∀ k, k < B → k ≠ g → w'.heap[k]? = w.heap[k]?
theorem Kept.ofBut {B g : Nat} {w w' : World} (h : But g w w') (hB : B ≤ w.heap.size) : Kept B g w w' := ⟨h.os, h.tape, h.output, h.size, fun k hk hg => h.block k (by omega) hg⟩
theorem Kept.trans {B g : Nat} {a b c : World} (h : Kept B g a b) (k : Kept B g b c) : Kept B g a c :=
  ⟨k.os.trans h.os, k.tape.trans h.tape, k.output.trans h.output, Nat.le_trans h.size k.size, fun i hi hg => (k.block i hi hg).trans (h.block i hi hg)⟩
theorem Kept.below {B g A : Nat} {w w' : World} (h : Kept B g w w') (h1 : A ≤ g) (h2 : A ≤ B) : Below A w w' := ⟨h.os, h.tape, h.output, h.size, fun k hk => h.block k (by omega) (by omega)⟩
theorem Kept.setCell {B g b i : Nat} {w w' : World} (h : Kept B g w w') (hb : B ≤ b) (u : Value) : Kept B g w (w'.setCell ⟨b, i, none⟩ u) :=
  ⟨h.os, h.tape, h.output, by simpa using h.size, fun k hk hg => by rw [Below.heap_setCell _ _ _ _ (by show k ≠ b; omega)]; exact h.block k hk hg⟩

/-- Bytes of the call's own that are bent: some bytes, no more than one beyond. -/
structure Bent (w' : World) (B N : Nat) (e : Ending) (b c m : Nat) (F : Nat → Int) : Prop where
  ret : e = .returned (.slice (some ⟨b, 0, none⟩) m c)
  few : m ≤ N + 1
  new : B ≤ b
  view : View w' (some ⟨b, 0, none⟩) m c F

theorem Cur.kept {B : Nat} {w w' : World} {g : Nat} {ao : Option Addr} {n cap : Nat} {f : Nat → Int} (h : Cur w g ao n cap f) (hk : ∀ k, k < B → w'.heap[k]? = w.heap[k]?) (hs : w.heap.size ≤ w'.heap.size) (hg : g < B) (hc : ∀ a, ao = some a → 0 < n → a.block < B) : Cur w' g ao n cap f := by
  obtain ⟨i, k, hr, h0, hi⟩ := h.cells
  refine ⟨⟨i, k, hr.of_block (hk g hg), h0, hi⟩, ⟨h.view.le, h.view.byte, fun hn => ?_⟩, h.apart⟩
  obtain ⟨b', off, e, hlt, hcc⟩ := h.view.cells hn
  refine ⟨b', off, e, Nat.lt_of_lt_of_le hlt hs, fun j hj => ?_⟩
  rw [World.cell?_of_block (w := w) (hk b' (hc _ e hn))]
  exact hcc j hj

theorem getD_byte {l : List Int} (h : ∀ y ∈ l, 0 ≤ y ∧ y ≤ 255) (i : Nat) (hi : i < l.length) : 0 ≤ l.getD i 0 ∧ l.getD i 0 ≤ 255 := h _ (getD_mem hi)

set_option maxHeartbeats 2000000 in
theorem l1Bend_any (g : Nat) (ao : Option Addr) (n cap : Nat) (f : Nat → Int) (B : Nat) (v : Value) (N : Nat) (l : List Int) (w : World) (hn : n ≤ 1048576) (hN0 : 0 < N) (hN : N ≤ 1048576) (hC : Cur w g ao n cap f) (hown : w.ownsRow B 5 1 v N (bl l)) (hl : l.length = N) (hyb : ∀ y ∈ l, 0 ≤ y ∧ y ≤ 255) (hg : g < B) (hc : ∀ a, ao = some a → 0 < n → a.block < B) (hBw : B ≤ w.heap.size) :
    Calls Try.prog 17 #[.pointer (some ⟨g, 0, none⟩), v] w fun e w' => (∃ (b c m : Nat) (F : Nat → Int), Bent w' B N e b c m F) ∧ Cur w' g ao n cap f ∧ Kept B g w w' := by
  obtain ⟨i0, hi, hz0, hz1, hz2⟩ := info_parts Try.info5
  obtain ⟨b, c, rfl, hb, hbc, hrow⟩ := row_of_own hown hN0
  have HY : Hid (∀ i, i < N → 0 ≤ l.getD i 0 ∧ l.getD i 0 ≤ 255) := fun i hi => getD_byte hyb i (by omega)
  have HB : Hid (∀ y ∈ l, 0 ≤ y ∧ y ≤ 255) := hyb
  have HL : Hid (l.length = N) := hl
  have HC : Hid (∀ a, ao = some a → 0 < n → a.block < B) := hc
  clear hyb hl hc
  have e0 : ((N : Int) == 0) = false := by simp; omega
  have hblt := hrow.lt
  go_enter Try.func17, Try.ntmps17
  go_wp2_with fail
  refine (l1Below_any g ao n cap f 5 w hn (by omega) (by omega) hC).mono ?_
  rintro e w1 ⟨x, rfl, hx0, hx1, hC1, hO1⟩
  have hr1 := hO1.row hrow (by omega)
  have hK1 : Kept B g w w1 := Kept.ofBut (But.ofOnly hO1) hBw
  have hs1 : w.heap.size ≤ w1.heap.size := hK1.size
  have hown1 := hown.kept hO1.grown (Or.inr (fun e => by have := (hown.lt g e).1; omega))
  clear hC hrow hown hO1
  by_cases h0 : x = 0
  · subst h0
    clear hown1
    go_wp2_with fail
    refine (l1Below_any g ao n cap f (N : Int) w1 hn (by omega) (by omega) hC1).mono ?_
    rintro e w2 ⟨y, rfl, hy0, hy1, hC2, hO2⟩
    obtain ⟨j, rfl⟩ := Int.eq_ofNat_of_zero_le hy0
    have hr2 := hO2.row hr1 (by omega)
    have hK2 := hK1.trans (Kept.ofBut (But.ofOnly hO2) (by omega))
    have hs2 : w.heap.size ≤ w2.heap.size := hK2.size
    have hl2 := hr2.lt
    have hg2 := hC2.lt
    clear hC1 hO2 hK1 hr1
    have HZ : Hid _ := newInts w2 [0, 1, 2, 127, 128, 255] 3
    have hb4 : Below w2.heap.size w2 (w2.alloc (.cells #[.int .i64 0, .int .i64 1, .int .i64 2, .int .i64 127, .int .i64 128, .int .i64 255] 3)) := (Below.refl _ _).alloc (Nat.le_refl _) _
    go_wp2_with fail
    refine (l1Int_any g ao n cap f w2.heap.size 6 (fun i => [0, 1, 2, 127, 128, 255].getD i 0) _ hn (by omega) (by omega) HZ.out (by omega) (hC2.below hb4)).mono ?_
    rintro e w4 ⟨q, hq, rfl, hC4, hO4⟩
    have hmem : [(0 : Int), 1, 2, 127, 128, 255].getD q 0 ∈ [(0 : Int), 1, 2, 127, 128, 255] := getD_mem hq
    have hxb : 0 ≤ [(0 : Int), 1, 2, 127, 128, 255].getD q 0 ∧ [(0 : Int), 1, 2, 127, 128, 255].getD q 0 ≤ 255 := by
      simp only [List.mem_cons, List.not_mem_nil, or_false] at hmem
      omega
    clear hmem HZ
    generalize [(0 : Int), 1, 2, 127, 128, 255].getD q 0 = z at *
    obtain ⟨hz0', hz1'⟩ := hxb
    have hr4 := hO4.row (hr2.belowAll hb4) (by omega)
    have hK4 := hK2.trans ((Kept.ofBut (But.ofBelow hb4) (by omega)).trans (Kept.ofBut (But.ofOnly hO4) (by have := hb4.size; omega)))
    have hcj := hr4.cell (i := j) (by omega)
    have hfj := hr4.frozen j
    have HS : Hid (Row 5 (w4.setCell ⟨b, j, none⟩ (.int .u8 z)) b N (fun i => if i = j then z else l.getD i 0)) := hr4.set j z
    have HK : Hid (Kept B g w (w4.setCell ⟨b, j, none⟩ (.int .u8 z))) := hK4.setCell hb _
    have HC4 : Hid (Cur (w4.setCell ⟨b, j, none⟩ (.int .u8 z)) g ao n cap f) := hC4.kept (B := B) (fun k hk => Below.heap_setCell _ _ _ _ (by show k ≠ b; omega)) (by simp) hg HC.out
    have hw : IntKind.u8.wrap z = z := by rw [u8_wrap]; omega
    have hjz : (j : Int) < (N : Int) := by omega
    clear hr2 hr4 hK2 hK4 hC2 hC4 hb4 hO4
    go_wp2
    go_ret
    refine ⟨⟨b, c, N, _, rfl, by omega, hb, HS.out.view hbc (fun i hi => ?_)⟩, HC4.out, HK.out⟩
    have := HY.out i hi
    split <;> omega
  · by_cases h1 : x = 1
    · subst h1
      clear hr1
      go_wp2_with (at_builtin; go_must (refine wpList_append_own _ rfl (.tmp 25) (.tmp 26) 22 rfl B 5 i0 (.int .u8 0) 1 1 Try.underlying22 hi hz0 hz1 hz2 rfl (by decide) (.slice (some ⟨b, 0, none⟩) N c) _ _ rfl (hown1.alloc _) ⟨w1.heap.size, 0, none⟩ 1 1 [.int .u8 3] rfl rfl (cellNew _ _ _) (bl_one [3]) (by unfold maxLen; omega) (by omega) (by simp; omega) ?_); intro v2 w2 hown2 hgr2 hnil)
      have hb2 : Below w1.heap.size w1 (w1.alloc (.cells #[.int .u8 3] 5)) := (Below.refl _ _).alloc (Nat.le_refl _) _
      have hO2 : w2.ownsRow B 5 1 v2 (N + 1) (bl (l ++ [3])) := by rw [bl_append]; exact hown2
      obtain ⟨b2, c2, rfl, hbb, hbc2, hrow2⟩ := row_of_own hO2 (by omega)
      have hkk : ∀ k, k < B → w2.heap[k]? = w1.heap[k]? := fun k hk => by
        rw [hgr2.block k (by simp; omega) (fun e => by have := (hown1.lt k e.symm).1; omega), Below.heap_alloc _ _ _ (by omega)]
      have hss : w1.heap.size ≤ w2.heap.size := Nat.le_trans (by simp) hgr2.size
      have HK : Hid (Kept B g w w2) := hK1.trans ⟨hgr2.os, hgr2.tape, hgr2.output, hss, fun k hk _ => hkk k hk⟩
      have HC4 : Hid (Cur w2 g ao n cap f) := hC1.kept (B := B) hkk hss hg HC.out
      have HY2 : Hid (∀ i, i < N + 1 → 0 ≤ (l ++ [3]).getD i 0 ∧ (l ++ [3]).getD i 0 ≤ 255) := fun i hi => by
        refine getD_byte ?_ i (by rw [List.length_append, HL.out]; simpa using hi)
        intro y hy
        rcases List.mem_append.1 hy with hy | hy
        · exact HB.out y hy
        · simp at hy; omega
      clear hgr2 hnil hown1 hown2 hO2 hkk hb2 hC1 hK1
      go_wp2
      go_ret
      exact ⟨⟨b2, c2, N + 1, _, rfl, by omega, hbb, hrow2.view hbc2 HY2.out⟩, HC4.out, HK.out⟩
    · by_cases h2 : x = 2
      · subst h2
        clear hown1
        go_wp2_with fail
        refine (l1Below_any g ao n cap f (N : Int) w1 hn (by omega) (by omega) hC1).mono ?_
        rintro e w2 ⟨y, rfl, hy0, hy1, hC2, hO2⟩
        obtain ⟨j, rfl⟩ := Int.eq_ofNat_of_zero_le hy0
        have hr2 := hO2.row hr1 (by omega)
        have HK : Hid (Kept B g w w2) := hK1.trans (Kept.ofBut (But.ofOnly hO2) (by omega))
        have HV : Hid (View w2 (some ⟨b, 0, none⟩) j c (fun i => l.getD i 0)) := (hr2.view hbc HY.out).take (by omega)
        have hjc : (j : Int) ≤ (c : Int) := by omega
        clear hC1 hr1 hr2 hO2 hK1
        go_wp2
        go_ret
        exact ⟨⟨b, c, j, _, rfl, by omega, hb, HV.out⟩, hC2, HK.out⟩
      · have q0 : (x == 0) = false := by simpa using h0
        have q1 : (x == 1) = false := by simpa using h1
        have q2 : (x == 2) = false := by simpa using h2
        clear hown1
        go_wp2
        go_ret
        exact ⟨⟨b, c, N, _, rfl, by omega, hb, hr1.view hbc HY.out⟩, hC1, hK1⟩
end Go.Proofs.Ytikopeihkbpjhad

/-
  A row of bytes of the call's own, its room with it.
-/
namespace Go.Proofs.Ytikopeihkbpjhad
open Go.RowKit
set_option maxRecDepth 4000

/-- Block b is a row of bytes of the call's own, none frozen, with room for c of them; the first n are f 0 up to f (n - 1). -/
def RowC (t : TypeId) (w : World) (b n c : Nat) (f : Nat → Int) : Prop :=
  ∃ cur : Array Value, w.heap[b]? = some (.cells cur t (0, 0)) ∧ cur.size = c ∧ n ≤ c ∧ c ≤ maxLen ∧ ∀ i, i < n → cur[i]? = some (.int .u8 (f i))
namespace RowC
variable {t : TypeId} {w w' : World} {b n c : Nat} {f g : Nat → Int}
theorem row (h : RowC t w b n c f) : Row t w b n f := by
  obtain ⟨cur, h1, h2, h3, _, h5⟩ := h
  exact ⟨cur, h1, by omega, h5⟩
theorem congr (h : RowC t w b n c f) (e : ∀ i, i < n → f i = g i) : RowC t w b n c g := by
  obtain ⟨cur, h1, h2, h3, h4, h5⟩ := h
  exact ⟨cur, h1, h2, h3, h4, fun i hi => by rw [h5 i hi, e i hi]⟩
theorem of_block (h : RowC t w b n c f) (e : w'.heap[b]? = w.heap[b]?) : RowC t w' b n c f := by
  obtain ⟨cur, h1, r⟩ := h
  exact ⟨cur, e.trans h1, r⟩
theorem set (h : RowC t w b n c f) (i : Nat) (x : Int) : RowC t (w.setCell ⟨b, i, none⟩ (.int .u8 x)) b n c (fun j => if j = i then x else f j) := by
  obtain ⟨cur, hb, hs, hn, hm, hc⟩ := h
  refine ⟨cur.setIfInBounds i (.int .u8 x), ?_, by simpa using hs, hn, hm, fun j hj => ?_⟩
  · simp [World.setCell, Array.getElem?_modify, hb]
  · rw [Array.getElem?_setIfInBounds]
    by_cases e : j = i
    · subst e
      have : j < cur.size := by omega
      simp [this]
    · rw [if_neg (fun h => e h.symm)]
      show cur[j]? = some (.int .u8 (if j = i then x else f j))
      rw [if_neg e]
      exact hc j hj
theorem own (h : RowC t w b n c f) {base : Nat} (hb : base ≤ b) : w.ownsRow base t 1 (.slice (some ⟨b, 0, none⟩) n c) n (bl (lof n f)) := by
  obtain ⟨cur, h1, h2, h3, h4, h5⟩ := h
  refine ⟨by rw [bl_len, lof_len]; omega, Or.inr ⟨b, c, cur, rfl, hb, h1, h3, h4, by omega, ?_⟩⟩
  apply List.ext_getElem?
  intro i
  rw [Nat.mul_one, List.getElem?_take]
  by_cases hi : i < n
  · rw [if_pos hi, Array.getElem?_toList, h5 i hi]
    simp [bl, lof, hi]
  · rw [if_neg hi, List.getElem?_eq_none (by rw [bl_len, lof_len]; omega)]
theorem ofOwn {base : Nat} {v : Value} {l : List Int} (h : w.ownsRow base t 1 v n (bl l)) (hv : v ≠ .slice none 0 0) : ∃ b c, v = .slice (some ⟨b, 0, none⟩) n c ∧ base ≤ b ∧ RowC t w b n c (fun i => l.getD i 0) := by
  obtain ⟨hl, h⟩ := h
  rcases h with ⟨h0, _⟩ | ⟨g, c, cur, rfl, hb, hg, hnc, hcm, hcs, ht⟩
  · exact absurd h0 hv
  · refine ⟨g, c, rfl, hb, cur, hg, by omega, hnc, hcm, fun i hi => ?_⟩
    have e : (bl l)[i]? = some (.int .u8 (l.getD i 0)) := by
      have : i < l.length := by rw [bl_len] at hl; omega
      simp [bl, this]
    rw [← ht, List.getElem?_take, if_pos (by omega)] at e
    simpa using e
end RowC
end Go.Proofs.Ytikopeihkbpjhad

/-
  Bytes that are bent, none of them too.
-/
namespace Go.Proofs.Ytikopeihkbpjhad
open Go.RowKit
set_option maxRecDepth 4000

theorem l1Bend_all (g : Nat) (ao : Option Addr) (n cap : Nat) (f : Nat → Int) (B : Nat) (v : Value) (N : Nat) (l : List Int) (w : World) (hn : n ≤ 1048576) (hN : N ≤ 1048576) (hC : Cur w g ao n cap f) (hown : w.ownsRow B 5 1 v N (bl l)) (hl : l.length = N) (hyb : ∀ y ∈ l, 0 ≤ y ∧ y ≤ 255) (hne : v ≠ .slice none 0 0) (hg : g < B) (hc : ∀ a, ao = some a → 0 < n → a.block < B) (hBw : B ≤ w.heap.size) :
    Calls Try.prog 17 #[.pointer (some ⟨g, 0, none⟩), v] w fun e w' => (∃ (b c m : Nat) (F : Nat → Int), Bent w' B N e b c m F) ∧ Cur w' g ao n cap f ∧ Kept B g w w' := by
  by_cases h0 : 0 < N
  · exact l1Bend_any g ao n cap f B v N l w hn h0 hN hC hown hl hyb hg hc hBw
  · obtain rfl : N = 0 := by omega
    obtain ⟨b, c, rfl, hb, hrow⟩ := RowC.ofOwn hown hne
    have HV : Hid (View w (some ⟨b, 0, none⟩) 0 c (fun i => l.getD i 0)) := ⟨Nat.zero_le _, fun i hi => absurd hi (Nat.not_lt_zero _), fun h => absurd h (Nat.lt_irrefl _)⟩
    clear hrow hown
    go_enter Try.func17, Try.ntmps17
    go_wp2
    go_ret
    exact ⟨⟨b, c, 0, _, rfl, Nat.zero_le _, hb, HV.out⟩, hC, ⟨rfl, rfl, rfl, Nat.le_refl _, fun _ _ _ => rfl⟩⟩
end Go.Proofs.Ytikopeihkbpjhad

/-
  What is read of bytes as a number, plainly: of n bytes (f), from the place p on.
-/
namespace Go.Proofs.Ytikopeihkbpjhad

def getU (n : Nat) (f : Nat → Int) (p : Int) : Int × Int × Bool :=
  if p < 0 ∨ (n : Int) ≤ p then (0, 0, false)
  else if f p.toNat < 128 then (f p.toNat, p + 1, true)
  else if n ≤ p.toNat + 1 then (0, 0, false)
  else if f (p.toNat + 1) < 128 then (if f (p.toNat + 1) = 0 then (0, 0, false) else (f p.toNat - 128 + f (p.toNat + 1) * 128, p + 2, true))
  else if n ≤ p.toNat + 2 then (0, 0, false)
  else if f (p.toNat + 2) < 128 then
    (if f (p.toNat + 2) = 0 ∨ 1000000 < f p.toNat - 128 + (f (p.toNat + 1) - 128) * 128 + f (p.toNat + 2) * 16384 then (0, 0, false)
     else (f p.toNat - 128 + (f (p.toNat + 1) - 128) * 128 + f (p.toNat + 2) * 16384, p + 3, true))
  else (0, 0, false)

theorem getU_neg (n : Nat) (f : Nat → Int) (p : Int) (h : p < 0) : getU n f p = (0, 0, false) := by
  unfold getU; rw [if_pos (Or.inl h)]
theorem getU_past (n : Nat) (f : Nat → Int) (i : Nat) (h : n ≤ i) : getU n f (i : Int) = (0, 0, false) := by
  unfold getU; rw [if_pos (Or.inr (by omega))]
section
variable (n : Nat) (f : Nat → Int) (i : Nat)
theorem getU_in (h : i < n) : ¬ ((i : Int) < 0 ∨ (n : Int) ≤ (i : Int)) := by omega
theorem getU_1 (h : i < n) (h1 : f i < 128) : getU n f (i : Int) = (f i, (i : Int) + 1, true) := by
  unfold getU; rw [if_neg (getU_in n i h), Int.toNat_natCast, if_pos h1]
theorem getU_2end (h : i < n) (h1 : 128 ≤ f i) (h2 : n ≤ i + 1) : getU n f (i : Int) = (0, 0, false) := by
  unfold getU; rw [if_neg (getU_in n i h), Int.toNat_natCast, if_neg (by omega), if_pos h2]
theorem getU_2zero (h : i + 1 < n) (h1 : 128 ≤ f i) (h2 : f (i + 1) = 0) : getU n f (i : Int) = (0, 0, false) := by
  unfold getU; rw [if_neg (getU_in n i (by omega)), Int.toNat_natCast, if_neg (by omega), if_neg (by omega), if_pos (by omega), if_pos h2]
theorem getU_2 (h : i + 1 < n) (h1 : 128 ≤ f i) (h2 : f (i + 1) < 128) (h3 : f (i + 1) ≠ 0) : getU n f (i : Int) = (f i - 128 + f (i + 1) * 128, (i : Int) + 2, true) := by
  unfold getU; rw [if_neg (getU_in n i (by omega)), Int.toNat_natCast, if_neg (by omega), if_neg (by omega), if_pos (by omega), if_neg h3]
theorem getU_3end (h : i + 1 < n) (h1 : 128 ≤ f i) (h2 : 128 ≤ f (i + 1)) (h3 : n ≤ i + 2) : getU n f (i : Int) = (0, 0, false) := by
  unfold getU; rw [if_neg (getU_in n i (by omega)), Int.toNat_natCast, if_neg (by omega), if_neg (by omega), if_neg (by omega), if_pos h3]
theorem getU_3no (h : i + 2 < n) (h1 : 128 ≤ f i) (h2 : 128 ≤ f (i + 1)) (h3 : f (i + 2) < 128) (h4 : f (i + 2) = 0 ∨ 1000000 < f i - 128 + (f (i + 1) - 128) * 128 + f (i + 2) * 16384) : getU n f (i : Int) = (0, 0, false) := by
  unfold getU; rw [if_neg (getU_in n i (by omega)), Int.toNat_natCast, if_neg (by omega), if_neg (by omega), if_neg (by omega), if_neg (by omega), if_pos h3, if_pos h4]
theorem getU_3 (h : i + 2 < n) (h1 : 128 ≤ f i) (h2 : 128 ≤ f (i + 1)) (h3 : f (i + 2) < 128) (h4 : ¬ (f (i + 2) = 0 ∨ 1000000 < f i - 128 + (f (i + 1) - 128) * 128 + f (i + 2) * 16384)) :
    getU n f (i : Int) = (f i - 128 + (f (i + 1) - 128) * 128 + f (i + 2) * 16384, (i : Int) + 3, true) := by
  unfold getU; rw [if_neg (getU_in n i (by omega)), Int.toNat_natCast, if_neg (by omega), if_neg (by omega), if_neg (by omega), if_neg (by omega), if_pos h3, if_neg h4]
theorem getU_long (h : i + 2 < n) (h1 : 128 ≤ f i) (h2 : 128 ≤ f (i + 1)) (h3 : 128 ≤ f (i + 2)) : getU n f (i : Int) = (0, 0, false) := by
  unfold getU; rw [if_neg (getU_in n i (by omega)), Int.toNat_natCast, if_neg (by omega), if_neg (by omega), if_neg (by omega), if_neg (by omega), if_neg (by omega)]
end
end Go.Proofs.Ytikopeihkbpjhad

/-
  What is read as a text, plainly.
-/
namespace Go.Proofs.Ytikopeihkbpjhad
open Go.RowKit
set_option maxRecDepth 4000

theorem getU_bd {n : Nat} {f : Nat → Int} {p a q : Int} (hf : ∀ i, i < n → 0 ≤ f i ∧ f i ≤ 255) (h : getU n f p = (a, q, true)) : 0 ≤ a ∧ a ≤ 1000000 ∧ 0 ≤ q ∧ q ≤ n := by
  unfold getU at h
  by_cases h0 : p < 0 ∨ (n : Int) ≤ p
  · rw [if_pos h0] at h; cases h
  rw [if_neg h0] at h
  have b0 := hf p.toNat (by omega)
  by_cases h1 : f p.toNat < 128
  · rw [if_pos h1] at h; cases h; omega
  rw [if_neg h1] at h
  by_cases h2 : n ≤ p.toNat + 1
  · rw [if_pos h2] at h; cases h
  rw [if_neg h2] at h
  have b1 := hf (p.toNat + 1) (by omega)
  by_cases h3 : f (p.toNat + 1) < 128
  · rw [if_pos h3] at h
    by_cases h4 : f (p.toNat + 1) = 0
    · rw [if_pos h4] at h; cases h
    · rw [if_neg h4] at h; cases h; omega
  rw [if_neg h3] at h
  by_cases h5 : n ≤ p.toNat + 2
  · rw [if_pos h5] at h; cases h
  rw [if_neg h5] at h
  have b2 := hf (p.toNat + 2) (by omega)
  by_cases h6 : f (p.toNat + 2) < 128
  · rw [if_pos h6] at h
    by_cases h7 : f (p.toNat + 2) = 0 ∨ 1000000 < f p.toNat - 128 + (f (p.toNat + 1) - 128) * 128 + f (p.toNat + 2) * 16384
    · rw [if_pos h7] at h; cases h
    · rw [if_neg h7] at h; cases h; omega
  rw [if_neg h6] at h; cases h

/-- What is read as a text. -/
def getText (n : Nat) (f : Nat → Int) (p : Int) : ByteArray × Int × Bool :=
  if (getU n f p).2.2 = true ∧ (getU n f p).1 ≤ n - (getU n f p).2.1 then (strOfNums (lof (getU n f p).1.toNat (fun i => f ((getU n f p).2.1.toNat + i))), (getU n f p).2.1 + (getU n f p).1, true) else (strOfNums [], 0, false)

theorem View.cut {w : World} {b off n cap m k : Nat} {f : Nat → Int} (h : View w (some ⟨b, off, none⟩) n cap f) (hm : k + m ≤ n) : View w (some ⟨b, off + k, none⟩) m (cap - k) (fun i => f (k + i)) := by
  have := h.le
  refine ⟨by omega, fun i hi => h.byte (k + i) (by omega), fun h0 => ?_⟩
  obtain ⟨b', off', e, hb, hc⟩ := h.cells (by omega)
  simp only [Option.some.injEq, Addr.mk.injEq, and_true] at e
  obtain ⟨rfl, rfl⟩ := e
  exact ⟨b, off + k, rfl, hb, fun i hi => by rw [Nat.add_assoc]; exact hc (k + i) (by omega)⟩

theorem retT {s s' : ByteArray} {b b' : Int} {c c' : Bool} (h1 : s = s') (h2 : b = b') (h3 : c = c') :
    Ending.returned (.tuple #[.string s, .int .i64 b, .bool c]) = .returned (.tuple #[.string s', .int .i64 b', .bool c']) := by rw [h1, h2, h3]

end Go.Proofs.Ytikopeihkbpjhad

/-
  A text and its bytes as numbers, there and back.
-/
namespace Go.Proofs.Ytikopeihkbpjhad
open Go.RowKit
set_option maxRecDepth 4000

theorem strOfNums_sl (s : ByteArray) : strOfNums (sl s) = s := by
  apply ByteArray.ext
  apply Array.ext'
  show ((sl s).map fun n => UInt8.ofNat n.toNat) = s.data.toList
  unfold sl
  rw [List.map_map]
  conv => rhs; rw [← List.map_id s.data.toList]
  apply List.map_congr_left
  intro b _
  simp
theorem sl_strOfNums {t : List Int} (h : ∀ y ∈ t, 0 ≤ y ∧ y ≤ 255) : sl (strOfNums t) = t :=
  strOfNums_inj (sl_byte _) h (strOfNums_sl _)
end Go.Proofs.Ytikopeihkbpjhad

/-
  What was put comes back, plainly: a number of its groups, a text of its bytes; cut by one byte the number does not.
-/
namespace Go.Proofs.Ytikopeihkbpjhad
open Go.RowKit
set_option maxRecDepth 4000

theorem getD_left (l k : List Int) (i : Nat) (h : i < l.length) : (l ++ k).getD i 0 = l.getD i 0 := by
  rw [List.getD_eq_getElem?_getD, List.getD_eq_getElem?_getD, List.getElem?_append_left h]
theorem getD_right (l k : List Int) (i : Nat) : (l ++ k).getD (l.length + i) 0 = k.getD i 0 := by
  rw [List.getD_eq_getElem?_getD, List.getD_eq_getElem?_getD, List.getElem?_append_right (by omega)]
  congr 2
  omega

/-- A number that lies as its groups from n on is read there. -/
theorem getU_put (n N : Nat) (F : Nat → Int) (x : Int) (h0 : 0 ≤ x) (h1 : x ≤ 1000000) (hF : ∀ i, i < (groups x).length → F (n + i) = (groups x).getD i 0) (hN : n + (groups x).length ≤ N) :
    getU N F (n : Int) = (x, (n : Int) + (groups x).length, true) := by
  by_cases a : x < 128
  · have e : groups x = [x] := by unfold groups; rw [if_pos a]
    rw [e] at hF hN ⊢
    have f0 : F n = x := by have := hF 0 (by simp); simpa using this
    simp only [List.length_cons, List.length_nil] at hN
    rw [getU_1 N F n (by omega) (by omega), f0]
    rfl
  · by_cases b : x < 16384
    · have e : groups x = [x % 128 + 128, x / 128] := by unfold groups; rw [if_neg a, if_pos b]
      rw [e] at hF hN ⊢
      have f0 : F n = x % 128 + 128 := by have := hF 0 (by simp); simpa using this
      have f1 : F (n + 1) = x / 128 := by have := hF 1 (by simp); simpa using this
      simp only [List.length_cons, List.length_nil] at hN
      rw [getU_2 N F n (by omega) (by omega) (by omega) (by omega), f0, f1]
      have : x % 128 + 128 - 128 + x / 128 * 128 = x := by omega
      rw [this]
      rfl
    · have e : groups x = [x % 128 + 128, x / 128 % 128 + 128, x / 16384] := by unfold groups; rw [if_neg a, if_neg b]
      rw [e] at hF hN ⊢
      have f0 : F n = x % 128 + 128 := by have := hF 0 (by simp); simpa using this
      have f1 : F (n + 1) = x / 128 % 128 + 128 := by have := hF 1 (by simp); simpa using this
      have f2 : F (n + 2) = x / 16384 := by have := hF 2 (by simp); simpa using this
      simp only [List.length_cons, List.length_nil] at hN
      have v : F n - 128 + (F (n + 1) - 128) * 128 + F (n + 2) * 16384 = x := by rw [f0, f1, f2]; omega
      rw [getU_3 N F n (by omega) (by omega) (by omega) (by omega) (by omega), v]
      rfl

theorem getU_cutoff (n N : Nat) (F : Nat → Int) (x : Int) (_h0 : 0 ≤ x) (hF : ∀ i, i < (groups x).length → F (n + i) = (groups x).getD i 0) (hN : n + (groups x).length = N + 1) :
    getU N F (n : Int) = (0, 0, false) := by
  by_cases a : x < 128
  · have e : groups x = [x] := by unfold groups; rw [if_pos a]
    rw [e] at hN
    simp only [List.length_cons, List.length_nil] at hN
    exact getU_past N F n (by omega)
  · by_cases b : x < 16384
    · have e : groups x = [x % 128 + 128, x / 128] := by unfold groups; rw [if_neg a, if_pos b]
      rw [e] at hF hN
      have f0 : F n = x % 128 + 128 := by have := hF 0 (by simp); simpa using this
      simp only [List.length_cons, List.length_nil] at hN
      exact getU_2end N F n (by omega) (by omega) (by omega)
    · have e : groups x = [x % 128 + 128, x / 128 % 128 + 128, x / 16384] := by unfold groups; rw [if_neg a, if_neg b]
      rw [e] at hF hN
      have f0 : F n = x % 128 + 128 := by have := hF 0 (by simp); simpa using this
      have f1 : F (n + 1) = x / 128 % 128 + 128 := by have := hF 1 (by simp); simpa using this
      simp only [List.length_cons, List.length_nil] at hN
      exact getU_3end N F n (by omega) (by omega) (by omega) (by omega)

/-- A text that was put comes back. -/
theorem getText_put (n : Nat) (f : Nat → Int) (s : ByteArray) (hs : s.size ≤ 1000000) :
    getText (n + (groups (clampN s.size)).length + s.size) (fun i => (textL n f s).getD i 0) (n : Int) = (s, ((n + (groups (clampN s.size)).length + s.size : Nat) : Int), true) := by
  have hc : clampN s.size = s.size := by unfold clampN; rw [if_neg (by omega), if_neg (by omega)]
  rw [hc]
  have e1 : ∀ i, i < (groups s.size).length → (textL n f s).getD (n + i) 0 = (groups s.size).getD i 0 := by
    intro i hi
    unfold textL
    rw [hc, List.append_assoc]
    have := getD_right (lof n f) (groups s.size ++ sl s) i
    rw [lof_len] at this
    rw [this, getD_left _ _ _ hi]
  have hu := getU_put n (n + (groups s.size).length + s.size) (fun i => (textL n f s).getD i 0) s.size (by omega) (by omega) e1 (by omega)
  have e2 : ∀ i, (textL n f s).getD (n + (groups s.size).length + i) 0 = (sl s).getD i 0 := by
    intro i
    unfold textL
    rw [hc]
    have := getD_right (lof n f ++ groups s.size) (sl s) i
    rw [List.length_append, lof_len] at this
    exact this
  unfold getText
  rw [hu]
  have et : ((n : Int) + ((groups s.size).length : Int)).toNat = n + (groups s.size).length := by omega
  rw [if_pos ⟨rfl, by show (s.size : Int) ≤ _; push_cast; omega⟩]
  simp only [Int.toNat_natCast, et]
  have el : lof s.size (fun i => (textL n f s).getD (n + (groups s.size).length + i) 0) = sl s := by
    have h1 := lof_self (sl s)
    rw [sl_len] at h1
    rw [← h1]
    unfold lof
    apply List.map_congr_left
    intro i _
    exact e2 i
  rw [el, strOfNums_sl]
  simp only [Prod.mk.injEq, true_and, and_true]
  push_cast
  omega
end Go.Proofs.Ytikopeihkbpjhad

/-
  Whether bytes are ahead of others, as texts are.
-/
namespace Go.Proofs.Ytikopeihkbpjhad
open Go.RowKit
set_option maxRecDepth 4000

/-- Whether the bytes of the one are ahead of the other's. -/
def ahead (l k : List Int) : Bool := Op.bytesLess (strOfNums l).toList (strOfNums k).toList
theorem toList_data (s : ByteArray) : s.toList = s.data.toList := ByteArray.toList_eq s
end Go.Proofs.Ytikopeihkbpjhad

/-
  Numbers in order, plainly: the order of their bytes is theirs, none is the beginning of another one, and they come back.
-/
namespace Go.Proofs.Ytikopeihkbpjhad
open Go.RowKit
set_option maxRecDepth 4000

def u8 (z : Int) : UInt8 := UInt8.ofNat z.toNat
theorem u8_lt {a b : Int} (ha : 0 ≤ a ∧ a ≤ 255) (hb : 0 ≤ b ∧ b ≤ 255) : u8 a < u8 b ↔ a < b := by
  unfold u8
  rw [UInt8.lt_iff_toNat_lt, UInt8.toNat_ofNat', UInt8.toNat_ofNat']
  omega
theorem u8_inj {a b : Int} (ha : 0 ≤ a ∧ a ≤ 255) (hb : 0 ≤ b ∧ b ≤ 255) : u8 a = u8 b ↔ a = b := by
  constructor
  · intro h
    have := congrArg UInt8.toNat h
    unfold u8 at this
    rw [UInt8.toNat_ofNat', UInt8.toNat_ofNat'] at this
    omega
  · intro h; rw [h]

theorem less_snoc (x y : UInt8) : ∀ a b : List UInt8, a.length = b.length → Op.bytesLess (a ++ [x]) (b ++ [y]) = (Op.bytesLess a b || (decide (a = b) && decide (x < y)))
  | [], [], _ => by
    by_cases h : x < y
    · simp [Op.bytesLess, h]
    · simp [Op.bytesLess, h]
  | p :: ps, q :: qs, h => by
    have ih := less_snoc x y ps qs (by simpa using h)
    simp only [List.cons_append, Op.bytesLess]
    by_cases h1 : p < q
    · simp [h1]
    · by_cases h2 : p = q
      · subst h2
        simp [h1, ih]
      · have hb : (p == q) = false := by simpa using h2
        simp [h1, h2, hb]

theorem ahead_eq (l k : List Int) : ahead l k = Op.bytesLess (l.map u8) (k.map u8) := by
  unfold ahead
  rw [toList_data, toList_data, strOfNums_data, strOfNums_data]
  rfl
theorem lof_snoc (k : Nat) (f : Nat → Int) : lof (k + 1) f = lof k f ++ [f k] := by simp [lof, List.range_succ]

theorem map_u8_inj : ∀ (l k : List Int), (∀ y ∈ l, 0 ≤ y ∧ y ≤ 255) → (∀ y ∈ k, 0 ≤ y ∧ y ≤ 255) → (l.map u8 = k.map u8 ↔ l = k)
  | [], [], _, _ => by simp
  | [], _ :: _, _, _ => by simp
  | _ :: _, [], _, _ => by simp
  | x :: xs, y :: ys, h1, h2 => by
    have ih := map_u8_inj xs ys (fun z hz => h1 z (by simp [hz])) (fun z hz => h2 z (by simp [hz]))
    simp only [List.map_cons, List.cons.injEq, ih, u8_inj (h1 x (by simp)) (h2 y (by simp))]

section
variable {f g : Nat → Int}
theorem valF_inj (k : Nat) (hf : ∀ i, i < k → 0 ≤ f i ∧ f i ≤ 255) (hg : ∀ i, i < k → 0 ≤ g i ∧ g i ≤ 255) : lof k f = lof k g ↔ valF k f = valF k g := by
  constructor
  · intro h
    apply valF_congr
    intro i hi
    rw [← lof_get k f i hi, ← lof_get k g i hi, h]
  · intro h
    unfold lof
    apply List.map_congr_left
    intro i hi
    have hi := List.mem_range.1 hi
    rw [← be_valF k f hf i hi, ← be_valF k g hg i hi, h]

/-- Of as many bytes the order is that of the numbers. -/
theorem ahead_valF : ∀ (k : Nat), (∀ i, i < k → 0 ≤ f i ∧ f i ≤ 255) → (∀ i, i < k → 0 ≤ g i ∧ g i ≤ 255) → ahead (lof k f) (lof k g) = decide (valF k f < valF k g)
  | 0, _, _ => by rw [ahead_eq]; rfl
  | k + 1, hf, hg => by
    have ih := ahead_valF k (fun i hi => hf i (by omega)) (fun i hi => hg i (by omega))
    have hj := valF_inj k (fun i hi => hf i (by omega)) (fun i hi => hg i (by omega))
    have hfk := hf k (by omega)
    have hgk := hg k (by omega)
    rw [ahead_eq] at ih ⊢
    rw [lof_snoc, lof_snoc, List.map_append, List.map_append]
    show Op.bytesLess ((lof k f).map u8 ++ [u8 (f k)]) ((lof k g).map u8 ++ [u8 (g k)]) = _
    rw [less_snoc _ _ _ _ (by simp [lof_len]), ih]
    have e1 : ((lof k f).map u8 = (lof k g).map u8) = (valF k f = valF k g) := propext ((map_u8_inj _ _ (lof_byte (fun i hi => hf i (by omega))) (lof_byte (fun i hi => hg i (by omega)))).trans hj)
    have e2 : (u8 (f k) < u8 (g k)) = (f k < g k) := propext (u8_lt hfk hgk)
    simp only [e1, e2, valF]
    rw [← Bool.decide_and, ← Bool.decide_or]
    apply decide_eq_decide.2
    omega
end

theorem ahead_cons (x y : Int) (l k : List Int) (hx : 0 ≤ x ∧ x ≤ 255) (hy : 0 ≤ y ∧ y ≤ 255) : ahead (x :: l) (y :: k) = if x < y then true else if x = y then ahead l k else false := by
  rw [ahead_eq, ahead_eq]
  simp only [List.map_cons, Op.bytesLess]
  by_cases h1 : x < y
  · simp [h1, (u8_lt hx hy).2 h1]
  · have n1 : ¬ u8 x < u8 y := fun h => h1 ((u8_lt hx hy).1 h)
    by_cases h2 : x = y
    · subst h2; simp
    · have n2 : u8 x ≠ u8 y := fun h => h2 ((u8_inj hx hy).1 h)
      simp [h1, h2, n1, n2]

theorem clampF_self (x : Int) (h : -2147483648 ≤ x ∧ x ≤ 2147483647) : clampF x = x := by unfold clampF; rw [if_neg (by omega), if_neg (by omega)]
theorem clampV_self (x : Int) (h : -1000000000000000 ≤ x ∧ x ≤ 1000000000000000) : clampV x = x := by unfold clampV; rw [if_neg (by omega), if_neg (by omega)]
theorem valF_fix (x : Int) : valF 4 (be 4 (clampF x + 2147483648)) = clampF x + 2147483648 := by
  have := clampF_bd x
  have e : (256 : Int) ^ 4 = 4294967296 := by decide
  exact valF_be 4 _ (by omega) (by omega)
theorem fix_ahead (x y : Int) : ahead (fixL x) (fixL y) = decide (clampF x < clampF y) := by
  unfold fixL
  rw [ahead_valF 4 (fun i _ => be_bd _ _ i) (fun i _ => be_bd _ _ i), valF_fix, valF_fix]
  apply decide_eq_decide.2
  omega
theorem fixL_clamp (x : Int) : fixL (clampF x) = fixL x := by unfold fixL; rw [clampF_self _ (clampF_bd x)]
theorem varL_clamp (x : Int) : varL (clampV x) = varL x := by unfold varL; rw [clampV_self _ (clampV_bd x)]

theorem behind (l k : List Int) (m i : Nat) (h : l.length = m) : (l ++ k).getD (m + i) 0 = k.getD i 0 := by
  rw [List.getD_eq_getElem?_getD, List.getD_eq_getElem?_getD, List.getElem?_append_right (by omega), show m + i - l.length = i by omega]

section
variable {x y : Int} (hx : -1000000000000000 ≤ x ∧ x ≤ 1000000000000000) (hy : -1000000000000000 ≤ y ∧ y ≤ 1000000000000000)
include hx
theorem size_lt : sizeV x < 256 ^ cnt (sizeV x) := cnt_lt _ (by have := sizeV_bd x hx; omega)
theorem size_back : valF (cnt (sizeV x)) (be (cnt (sizeV x)) (sizeV x)) = sizeV x := valF_be _ _ (sizeV_bd x hx).1 (size_lt hx)
/-- The digits, turned or not, as a number. -/
theorem tail_val : valF (cnt (sizeV x)) (tailV x) = if x < 0 then 256 ^ cnt (sizeV x) + x else x := by
  have hb := size_back hx
  by_cases h : x < 0
  · rw [if_pos h]
    have e : sizeV x = -1 - x := by unfold sizeV; rw [if_pos h]
    have key : ∀ k, valF k (tailV x) = 256 ^ k - 1 - valF k (be (cnt (sizeV x)) (sizeV x)) := by
      intro k
      induction k with
      | zero => rfl
      | succ k ih =>
        rw [valF, valF, ih, Int.pow_succ]
        unfold tailV
        rw [if_pos h]
        omega
    rw [key, hb, e]
    omega
  · rw [if_neg h]
    have e : sizeV x = x := by unfold sizeV; rw [if_neg h]
    have : valF (cnt (sizeV x)) (tailV x) = valF (cnt (sizeV x)) (be (cnt (sizeV x)) (sizeV x)) := by
      apply valF_congr
      intro i _
      unfold tailV
      rw [if_neg h]
    rw [this, hb, e]

include hy
theorem head_lt (h : headV x < headV y) : x < y := by
  have lx := size_lt hx
  have ly := size_lt hy
  unfold headV at h
  by_cases h1 : x < 0
  · by_cases h2 : y < 0
    · rw [if_pos h1, if_pos h2] at h
      have e1 : sizeV x = -1 - x := by unfold sizeV; rw [if_pos h1]
      have e2 : sizeV y = -1 - y := by unfold sizeV; rw [if_pos h2]
      have hg := cnt_ge (sizeV x) (by omega)
      have hm : (256 : Int) ^ cnt (sizeV y) ≤ 256 ^ (cnt (sizeV x) - 1) := pow_mono (by omega)
      omega
    · omega
  · by_cases h2 : y < 0
    · rw [if_neg h1, if_pos h2] at h
      omega
    · rw [if_neg h1, if_neg h2] at h
      have e1 : sizeV x = x := by unfold sizeV; rw [if_neg h1]
      have e2 : sizeV y = y := by unfold sizeV; rw [if_neg h2]
      have hg := cnt_ge (sizeV y) (by omega)
      have hm : (256 : Int) ^ cnt (sizeV x) ≤ 256 ^ (cnt (sizeV y) - 1) := pow_mono (by omega)
      omega
omit hx hy in
theorem head_same (h : headV x = headV y) : cnt (sizeV x) = cnt (sizeV y) ∧ (x < 0 ↔ y < 0) := by
  unfold headV at h
  (repeat' split at h) <;> omega
theorem kept_ahead : ahead (keptL x) (keptL y) = decide (x < y) := by
  unfold keptL
  rw [ahead_cons _ _ _ _ (headV_bd x) (headV_bd y)]
  by_cases h1 : headV x < headV y
  · rw [if_pos h1, decide_eq_true (head_lt hx hy h1)]
  · rw [if_neg h1]
    by_cases h2 : headV x = headV y
    · rw [if_pos h2]
      obtain ⟨hc, hs⟩ := head_same h2
      have tx := tail_val hx
      have ty := tail_val hy
      rw [← hc] at ty ⊢
      rw [ahead_valF _ (fun i _ => tailV_bd x i) (fun i _ => tailV_bd y i), tx, ty]
      apply decide_eq_decide.2
      by_cases h : x < 0
      · rw [if_pos h, if_pos (hs.1 h)]; omega
      · rw [if_neg h, if_neg (fun h' => h (hs.2 h'))]
    · rw [if_neg h2, decide_eq_false]
      intro h
      rcases Int.lt_trichotomy (headV x) (headV y) with h3 | h3 | h3
      · exact h1 h3
      · exact h2 h3
      · have := head_lt hy hx h3
        omega
theorem kept_same (h : headV x = headV y) (ht : lof (cnt (sizeV x)) (tailV x) = lof (cnt (sizeV y)) (tailV y)) : x = y := by
  obtain ⟨hc, hs⟩ := head_same h
  have tx := tail_val hx
  have ty := tail_val hy
  rw [← hc] at ty ht
  have e := (valF_inj _ (fun i _ => tailV_bd x i) (fun i _ => tailV_bd y i)).1 ht
  rw [tx, ty] at e
  by_cases h : x < 0
  · rw [if_pos h, if_pos (hs.1 h)] at e; omega
  · rw [if_neg h, if_neg (fun h' => h (hs.2 h'))] at e; exact e
theorem kept_prefix {r : List Int} (h : keptL x = keptL y ++ r) : x = y := by
  have hh : headV x = headV y := by unfold keptL at h; simpa using (List.cons.inj h).1
  have hl := congrArg List.length h
  rw [List.length_append, keptL_len, keptL_len, (head_same hh).1] at hl
  have : r = [] := List.eq_nil_of_length_eq_zero (by omega)
  rw [this, List.append_nil] at h
  unfold keptL at h
  exact kept_same hx hy hh (List.cons.inj h).2
end
end Go.Proofs.Ytikopeihkbpjhad

/-
  Numbers in order, plainly: they come back of their bytes, and what is read of bytes has these.
-/
namespace Go.Proofs.Ytikopeihkbpjhad
open Go.RowKit
set_option maxRecDepth 4000

theorem getF_put (l : List Int) (m : Nat) (x : Int) (hl : l.length = m) : getF (m + 4) (fun i => (l ++ fixL x).getD i 0) (m : Int) = (clampF x, (m : Int) + 4, true) := by
  rw [getF_is _ _ _ (Nat.le_refl _)]
  have e : valF 4 (fun i => (l ++ fixL x).getD (m + i) 0) = clampF x + 2147483648 := by
    rw [← valF_fix x]
    apply valF_congr
    intro i hi
    rw [behind _ _ _ _ hl]
    unfold fixL
    rw [lof_get 4 _ i hi]
  rw [e]
  simp only [Prod.mk.injEq, and_true]
  omega

theorem fix_read {n : Nat} {F : Nat → Int} {p a q : Int} (hb : ∀ i, i < n → 0 ≤ F i ∧ F i ≤ 255) (h : getF n F p = (a, q, true)) :
    ∃ i : Nat, p = (i : Int) ∧ q = (i : Int) + 4 ∧ i + 4 ≤ n ∧ -2147483648 ≤ a ∧ a ≤ 2147483647 ∧ fixL a = lof 4 (fun j => F (i + j)) := by
  unfold getF at h
  split at h
  · simp at h
  · obtain ⟨i, rfl⟩ := Int.eq_ofNat_of_zero_le (a := p) (by omega)
    simp only [Prod.mk.injEq, and_true, Int.toNat_natCast] at h
    obtain ⟨rfl, rfl⟩ := h
    have hbi : ∀ j, j < 4 → 0 ≤ F (i + j) ∧ F (i + j) ≤ 255 := fun j hj => hb _ (by omega)
    have hv := valF4_bd (fun j => F (i + j)) hbi
    refine ⟨i, rfl, rfl, by omega, by omega, by omega, ?_⟩
    unfold fixL
    rw [clampF_self _ (by omega), Int.sub_add_cancel]
    unfold lof
    apply List.map_congr_left
    intro j hj
    exact be_valF 4 _ hbi j (List.mem_range.1 hj)

theorem hcnt_head (x : Int) : hcnt (headV x) = cnt (sizeV x) ∧ (headV x < 128 ↔ x < 0) := by
  unfold headV hcnt
  (repeat' split) <;> omega

theorem getV_put (l : List Int) (m : Nat) (x : Int) (hl : l.length = m) : getV (m + (varL x).length) (fun i => (l ++ varL x).getD i 0) (m : Int) = (clampV x, (m : Int) + ((varL x).length : Int), true) := by
  have hy := clampV_bd x
  unfold varL
  generalize clampV x = y at *
  have hlen := keptL_len y
  obtain ⟨hh, hs⟩ := hcnt_head y
  have hF0 : (l ++ keptL y).getD m 0 = headV y := by
    have := behind l (keptL y) m 0 hl
    rw [Nat.add_zero] at this
    rw [this]
    rfl
  have hFt : ∀ j, j < cnt (sizeV y) → (l ++ keptL y).getD (m + 1 + j) 0 = tailV y j := by
    intro j hj
    rw [Nat.add_assoc, behind _ _ _ _ hl, Nat.add_comm 1 j]
    show (lof (cnt (sizeV y)) (tailV y)).getD j 0 = _
    exact lof_get _ _ j hj
  have hD : ∀ j, j < cnt (sizeV y) → digF (fun i => (l ++ keptL y).getD i 0) m j = be (cnt (sizeV y)) (sizeV y) j := by
    intro j hj
    unfold digF turnF
    simp only [hF0, hFt j hj]
    unfold tailV
    by_cases h : y < 0
    · rw [if_pos (by simpa using hs.2 h), if_pos h]; omega
    · rw [if_neg (by simpa using fun h' => h (hs.1 h')), if_neg h]
  have hv : valF (cnt (sizeV y)) (digF (fun i => (l ++ keptL y).getD i 0) m) = sizeV y := by
    rw [valF_congr _ _ _ hD]
    exact size_back hy
  have hn : numV (fun i => (l ++ keptL y).getD i 0) m = y := by
    unfold numV
    simp only [hF0, hh, hv]
    unfold sizeV
    by_cases h : y < 0
    · rw [if_pos (hs.2 h), if_pos h]; omega
    · rw [if_neg (fun h' => h (hs.1 h')), if_neg h]
  rw [getV_is]
  · simp only [hF0, hh, hn, hlen, Prod.mk.injEq, and_true, true_and]
    omega
  · omega
  · simp only [hF0, hh, hlen]
    have := cnt_le (sizeV y)
    omega
  · unfold badV
    simp only [hF0, hh, hn]
    have hc := (cnt_valF (cnt (sizeV y)) (be (cnt (sizeV y)) (sizeV y)) (cnt_le _) (fun i _ => be_bd _ _ i)).1 (by rw [size_back hy])
    rintro (⟨h0, h1⟩ | h | h)
    · rw [hD 0 h0] at h1
      exact hc ⟨h0, h1⟩
    · omega
    · omega

theorem var_read {n : Nat} {F : Nat → Int} {p a q : Int} (hb : ∀ i, i < n → 0 ≤ F i ∧ F i ≤ 255) (h : getV n F p = (a, q, true)) :
    ∃ i : Nat, p = (i : Int) ∧ q = (i : Int) + ((varL a).length : Int) ∧ i + (varL a).length ≤ n ∧ -1000000000000000 ≤ a ∧ a ≤ 1000000000000000 ∧ varL a = lof (varL a).length (fun j => F (i + j)) := by
  by_cases h1 : p < 0 ∨ (n : Int) ≤ p
  · rw [getV_out n F p h1] at h; simp at h
  obtain ⟨i, rfl⟩ := Int.eq_ofNat_of_zero_le (a := p) (by omega)
  have hin : i < n := by omega
  by_cases h2 : 7 < hcnt (F i) ∨ n < i + 1 + hcnt (F i)
  · rw [getV_few n F i hin h2] at h; simp at h
  by_cases h3 : badV F i
  · rw [getV_bad n F i hin h2 h3] at h; simp at h
  rw [getV_is n F i hin h2 h3] at h
  simp only [Prod.mk.injEq, and_true] at h
  obtain ⟨rfl, rfl⟩ := h
  unfold badV at h3
  have hhi := hb i hin
  have hD : ∀ j, j < hcnt (F i) → 0 ≤ digF F i j ∧ digF F i j ≤ 255 := turnF_bd _ (fun j hj => hb _ (by omega))
  have hv := valF7 (hcnt (F i)) (digF F i) (by omega) hD
  have hcv := (cnt_valF (hcnt (F i)) (digF F i) (by omega) hD).2 (fun h => h3 (Or.inl h))
  have hbe := be_valF (hcnt (F i)) (digF F i) hD
  have hrange : -1000000000000000 ≤ numV F i ∧ numV F i ≤ 1000000000000000 := by omega
  have hneg : numV F i < 0 ↔ F i < 128 := by unfold numV; split <;> omega
  have hsz : sizeV (numV F i) = valF (hcnt (F i)) (digF F i) := by
    unfold sizeV
    by_cases h : F i < 128
    · rw [if_pos (hneg.2 h)]; unfold numV; rw [if_pos h]; omega
    · rw [if_neg (fun h' => h (hneg.1 h'))]; unfold numV; rw [if_neg h]
  have hlen : (varL (numV F i)).length = hcnt (F i) + 1 := by unfold varL; rw [clampV_self _ hrange, keptL_len, hsz, hcv]
  refine ⟨i, rfl, by rw [hlen]; omega, by rw [hlen]; omega, hrange.1, hrange.2, ?_⟩
  rw [hlen, Nat.add_comm (hcnt (F i)) 1, lof_cons]
  unfold varL keptL
  rw [clampV_self _ hrange, hsz, hcv]
  congr 1
  · unfold headV
    rw [hsz, hcv, Nat.add_zero]
    unfold hcnt
    by_cases h : F i < 128
    · rw [if_pos (hneg.2 h), if_pos h]; omega
    · rw [if_neg (fun h' => h (hneg.1 h')), if_neg h]; omega
  · unfold lof
    apply List.map_congr_left
    intro j hj
    have hj := List.mem_range.1 hj
    unfold tailV
    rw [hsz, hcv, hbe j hj, show i + (j + 1) = i + 1 + j by omega]
    unfold digF turnF
    by_cases h : F i < 128
    · rw [if_pos (hneg.2 h), if_pos (by simpa using h)]
      show 255 - (255 - F (i + 1 + j)) = F (i + 1 + j)
      omega
    · rw [if_neg (fun h' => h (hneg.1 h')), if_neg (by simpa using h)]
end Go.Proofs.Ytikopeihkbpjhad

/-
  A number that was read of bytes is read of them with others behind, too.
-/
namespace Go.Proofs.Ytikopeihkbpjhad
open Go.RowKit
set_option maxRecDepth 4000

section
variable {N M : Nat} {F G : Nat → Int} {p : Int}
theorem getF_more {a q : Int} (hN : N ≤ M) (hFG : ∀ i, i < N → F i = G i) (h : getF N F p = (a, q, true)) : getF M G p = (a, q, true) := by
  unfold getF at h ⊢
  by_cases hp : p < 0 ∨ (N : Int) - p < 4
  · rw [if_pos hp] at h; simp at h
  · rw [if_neg hp] at h
    rw [if_neg (by omega), ← h]
    rw [valF_congr 4 (fun i => F (p.toNat + i)) (fun i => G (p.toNat + i)) (fun i hi => hFG _ (by omega))]
theorem getV_more {a q : Int} (hN : N ≤ M) (hFG : ∀ i, i < N → F i = G i) (h : getV N F p = (a, q, true)) : getV M G p = (a, q, true) := by
  unfold getV at h ⊢
  by_cases hp : p < 0 ∨ (N : Int) ≤ p
  · rw [if_pos hp] at h; simp at h
  · rw [if_neg hp] at h
    rw [if_neg (by omega)]
    have h0 : F p.toNat = G p.toNat := hFG _ (by omega)
    by_cases h1 : 7 < hcnt (F p.toNat) ∨ N < p.toNat + 1 + hcnt (F p.toNat)
    · rw [if_pos h1] at h; simp at h
    · rw [if_neg h1] at h
      have hd : ∀ j, j < hcnt (F p.toNat) → digF F p.toNat j = digF G p.toNat j := by
        intro j hj
        have e : F (p.toNat + 1 + j) = G (p.toNat + 1 + j) := hFG _ (by omega)
        unfold digF turnF
        dsimp only
        rw [h0, e]
      have hm : numV F p.toNat = numV G p.toNat := by
        unfold numV
        rw [valF_congr _ (digF F p.toNat) (digF G p.toNat) hd, h0]
      have hb : badV F p.toNat ↔ badV G p.toNat := by
        unfold badV
        rw [← hm, ← h0]
        constructor
        · rintro (⟨h2, h3⟩ | h2)
          · exact .inl ⟨h2, by rw [← hd 0 h2]; exact h3⟩
          · exact .inr h2
        · rintro (⟨h2, h3⟩ | h2)
          · exact .inl ⟨h2, by rw [hd 0 h2]; exact h3⟩
          · exact .inr h2
      by_cases h2 : badV F p.toNat
      · rw [if_pos h2] at h; simp at h
      · rw [if_neg h2] at h
        rw [← h0, if_neg (by omega), if_neg (fun e => h2 (hb.2 e)), ← hm]
        exact h
end
end Go.Proofs.Ytikopeihkbpjhad

/-
  Lists of a function's first values are alike just where it is.
-/
namespace Go.Proofs.Ytikopeihkbpjhad
open Go.RowKit
set_option maxRecDepth 4000

theorem lof_eq {n : Nat} {f g : Nat → Int} : lof n f = lof n g ↔ ∀ i, i < n → f i = g i := by
  constructor
  · intro h i hi
    rw [← lof_get n f i hi, ← lof_get n g i hi, h]
  · intro h
    unfold lof
    apply List.map_congr_left
    intro i hi
    exact h i (List.mem_range.1 hi)
end Go.Proofs.Ytikopeihkbpjhad

/-
  Rows as bytes, plainly: what stands at a place, what is read there.
-/
namespace Go.Proofs.Ytikopeihkbpjhad
open Go.RowKit
set_option maxRecDepth 4000

/-- The bytes L stand at place i of the N bytes F. -/
structure AtF (N : Nat) (F : Nat → Int) (i : Nat) (L : List Int) : Prop where
  le : i + L.length ≤ N
  at' : ∀ j, j < L.length → F (i + j) = L.getD j 0
theorem AtF.left {N : Nat} {F : Nat → Int} {i : Nat} {L K : List Int} (h : AtF N F i (L ++ K)) : AtF N F i L :=
  ⟨by have := h.le; rw [List.length_append] at this; omega, fun j hj => by rw [h.at' j (by rw [List.length_append]; omega), getD_left _ _ _ hj]⟩
theorem AtF.right {N : Nat} {F : Nat → Int} {i : Nat} {L K : List Int} (h : AtF N F i (L ++ K)) : AtF N F (i + L.length) K :=
  ⟨by have := h.le; rw [List.length_append] at this; omega, fun j hj => by rw [Nat.add_assoc, h.at' (L.length + j) (by rw [List.length_append]; omega), getD_right]⟩
theorem AtF.append {N : Nat} {F : Nat → Int} {i : Nat} {L K : List Int} (h : AtF N F i L) (k : AtF N F (i + L.length) K) : AtF N F i (L ++ K) :=
  ⟨by have := k.le; rw [List.length_append]; omega, fun j hj => by
    rw [List.length_append] at hj
    by_cases e : j < L.length
    · rw [h.at' j e, getD_left _ _ _ e]
    · obtain ⟨m, rfl⟩ : ∃ m, j = L.length + m := ⟨j - L.length, by omega⟩
      rw [← Nat.add_assoc, k.at' m (by omega), getD_right]⟩
theorem AtF.nil {N : Nat} {F : Nat → Int} {i : Nat} (h : i ≤ N) : AtF N F i [] := ⟨by simpa using h, fun j hj => absurd hj (Nat.not_lt_zero _)⟩
/-- It is these bytes. -/
theorem AtF.lof {N : Nat} {F : Nat → Int} {i : Nat} {L : List Int} (h : AtF N F i L) : lof L.length (fun j => F (i + j)) = L := by
  rw [← lof_self L]
  conv => lhs; rw [show (Go.Proofs.Ytikopeihkbpjhad.lof L.length fun i => L.getD i 0).length = L.length by rw [lof_len]]
  rw [lof_eq]
  exact fun j hj => h.at' j hj
theorem AtF.ofLof {N : Nat} {F : Nat → Int} {i : Nat} {L : List Int} (hle : i + L.length ≤ N) (h : L = Go.Proofs.Ytikopeihkbpjhad.lof L.length (fun j => F (i + j))) : AtF N F i L :=
  ⟨hle, fun j hj => by
    conv => rhs; rw [h]
    rw [lof_get _ _ _ hj]⟩

theorem getU_at {N : Nat} {F : Nat → Int} {i : Nat} {x : Int} (h0 : 0 ≤ x) (h1 : x ≤ 1000000) (h : AtF N F i (groups x)) : getU N F (i : Int) = (x, (i : Int) + ((groups x).length : Int), true) :=
  getU_put i N F x h0 h1 h.at' h.le
theorem getU_read {N : Nat} {F : Nat → Int} {p a q : Int} (hb : ∀ i, i < N → 0 ≤ F i ∧ F i ≤ 255) (h : getU N F p = (a, q, true)) : ∃ i : Nat, p = (i : Int) ∧ AtF N F i (groups a) ∧ q = (i : Int) + ((groups a).length : Int) ∧ 0 ≤ a ∧ a ≤ 1000000 := by
  obtain ⟨ha0, ha1, -, -⟩ := getU_bd hb h
  by_cases h1 : p < 0 ∨ (N : Int) ≤ p
  · unfold getU at h; rw [if_pos h1] at h; cases h
  obtain ⟨i, rfl⟩ := Int.eq_ofNat_of_zero_le (a := p) (by omega)
  have hin : i < N := by omega
  have b0 := hb i hin
  refine ⟨i, rfl, ?_⟩
  by_cases c1 : F i < 128
  · rw [getU_1 N F i hin c1] at h
    cases h
    have e : groups (F i) = [F i] := groups_last _ c1
    rw [e]
    refine ⟨⟨by simp; omega, fun j hj => ?_⟩, rfl, ha0, ha1⟩
    match j, hj with
    | 0, _ => rfl
  by_cases c2 : N ≤ i + 1
  · rw [getU_2end N F i hin (by omega) c2] at h; cases h
  have b1 := hb (i + 1) (by omega)
  by_cases c3 : F (i + 1) < 128
  · by_cases c4 : F (i + 1) = 0
    · rw [getU_2zero N F i (by omega) (by omega) c4] at h; cases h
    rw [getU_2 N F i (by omega) (by omega) c3 c4] at h
    cases h
    have e : groups (F i - 128 + F (i + 1) * 128) = [F i, F (i + 1)] := by
      unfold groups
      rw [if_neg (by omega), if_pos (by omega)]
      congr 1
      · omega
      · congr 1; omega
    rw [e]
    refine ⟨⟨by simp; omega, fun j hj => ?_⟩, rfl, ha0, ha1⟩
    match j, hj with
    | 0, _ => rfl
    | 1, _ => rfl
  by_cases c5 : N ≤ i + 2
  · rw [getU_3end N F i (by omega) (by omega) (by omega) c5] at h; cases h
  have b2 := hb (i + 2) (by omega)
  by_cases c6 : F (i + 2) < 128
  · by_cases c7 : F (i + 2) = 0 ∨ 1000000 < F i - 128 + (F (i + 1) - 128) * 128 + F (i + 2) * 16384
    · rw [getU_3no N F i (by omega) (by omega) (by omega) c6 c7] at h; cases h
    rw [getU_3 N F i (by omega) (by omega) (by omega) c6 c7] at h
    cases h
    have e : groups (F i - 128 + (F (i + 1) - 128) * 128 + F (i + 2) * 16384) = [F i, F (i + 1), F (i + 2)] := by
      unfold groups
      rw [if_neg (by omega), if_neg (by omega)]
      congr 1
      · omega
      · congr 1
        · omega
        · congr 1; omega
    rw [e]
    refine ⟨⟨by simp; omega, fun j hj => ?_⟩, rfl, ha0, ha1⟩
    match j, hj with
    | 0, _ => rfl
    | 1, _ => rfl
    | 2, _ => rfl
  · rw [getU_long N F i (by omega) (by omega) (by omega) (by omega)] at h; cases h

theorem getV_at {N : Nat} {F : Nat → Int} {i : Nat} {x : Int} (h0 : -1000000000000000 ≤ x) (h1 : x ≤ 1000000000000000) (h : AtF N F i (varL x)) : getV N F (i : Int) = (x, (i : Int) + ((varL x).length : Int), true) := by
  have hc : clampV x = x := by unfold clampV; rw [if_neg (by omega), if_neg (by omega)]
  have e := getV_put (Go.Proofs.Ytikopeihkbpjhad.lof i F) i x (lof_len i F)
  rw [hc] at e
  refine getV_more (N := i + (varL x).length) h.le (fun j hj => ?_) e
  by_cases ej : j < i
  · rw [getD_left _ _ _ (by rw [lof_len]; exact ej), lof_get _ _ _ ej]
  · obtain ⟨m, rfl⟩ : ∃ m, j = i + m := ⟨j - i, by omega⟩
    have := getD_right (Go.Proofs.Ytikopeihkbpjhad.lof i F) (varL x) m
    rw [lof_len] at this
    rw [this, h.at' m (by omega)]
theorem getV_read {N : Nat} {F : Nat → Int} {p a q : Int} (hb : ∀ i, i < N → 0 ≤ F i ∧ F i ≤ 255) (h : getV N F p = (a, q, true)) : ∃ i : Nat, p = (i : Int) ∧ AtF N F i (varL a) ∧ q = (i : Int) + ((varL a).length : Int) ∧ -1000000000000000 ≤ a ∧ a ≤ 1000000000000000 := by
  obtain ⟨i, rfl, hq, hle, h0, h1, e⟩ := var_read hb h
  exact ⟨i, rfl, AtF.ofLof hle e, hq, h0, h1⟩

/-- A text as bytes. -/
def txtL (s : ByteArray) : List Int := groups s.size ++ sl s
theorem getText_at {N : Nat} {F : Nat → Int} {i : Nat} {s : ByteArray} (hs : s.size ≤ 1000000) (h : AtF N F i (txtL s)) : getText N F (i : Int) = (s, (i : Int) + ((txtL s).length : Int), true) := by
  have h1 := getU_at (x := s.size) (by omega) (by omega) h.left
  have h2 := h.right
  have hl2 := h2.le
  rw [sl_len] at hl2
  unfold getText
  rw [h1]
  simp only
  rw [if_pos ⟨trivial, by omega⟩]
  have e : (i : Int) + ((groups s.size).length : Int) = ((i + (groups (s.size : Int)).length : Nat) : Int) := by push_cast; rfl
  rw [e]
  simp only [Int.toNat_natCast]
  have e2 := h2.lof
  rw [sl_len] at e2
  rw [e2, strOfNums_sl]
  refine Prod.ext rfl (Prod.ext ?_ rfl)
  show _ = _
  unfold txtL
  rw [List.length_append, sl_len]
  push_cast
  omega
theorem getText_read {N : Nat} {F : Nat → Int} {p q : Int} {s : ByteArray} (hb : ∀ i, i < N → 0 ≤ F i ∧ F i ≤ 255) (h : getText N F p = (s, q, true)) : ∃ i : Nat, p = (i : Int) ∧ AtF N F i (txtL s) ∧ q = (i : Int) + ((txtL s).length : Int) ∧ s.size ≤ 1000000 := by
  unfold getText at h
  by_cases c : (getU N F p).2.2 = true ∧ (getU N F p).1 ≤ N - (getU N F p).2.1
  · rw [if_pos c] at h
    obtain ⟨a, q1, ok, hu⟩ : ∃ a q1 ok, getU N F p = (a, q1, ok) := ⟨_, _, _, rfl⟩
    rw [hu] at c h
    simp only at c h
    obtain ⟨rfl, hle⟩ := c
    obtain ⟨i, rfl, hA, rfl, h0, h1⟩ := getU_read hb hu
    obtain ⟨A, rfl⟩ := Int.eq_ofNat_of_zero_le h0
    have e : (i : Int) + ((groups (A : Int)).length : Int) = ((i + (groups (A : Int)).length : Nat) : Int) := by push_cast; rfl
    rw [e] at h hle
    simp only [Int.toNat_natCast, Prod.mk.injEq, and_true] at h
    obtain ⟨hs, hq⟩ := h
    have hbl : ∀ y ∈ Go.Proofs.Ytikopeihkbpjhad.lof A (fun j => F (i + (groups (A : Int)).length + j)), 0 ≤ y ∧ y ≤ 255 := by
      intro y hy
      obtain ⟨j, hj, rfl⟩ := List.mem_map.1 hy
      exact hb _ (by have := List.mem_range.1 hj; omega)
    have hsl : sl s = Go.Proofs.Ytikopeihkbpjhad.lof A (fun j => F (i + (groups (A : Int)).length + j)) := by
      rw [← hs]; exact sl_strOfNums hbl
    have hsz : s.size = A := by rw [← sl_len, hsl, lof_len]
    refine ⟨i, rfl, ?_, ?_, by omega⟩
    · unfold txtL
      rw [hsz]
      refine hA.append ⟨by rw [sl_len, hsz]; omega, fun j hj => ?_⟩
      rw [sl_len, hsz] at hj
      rw [hsl, lof_get _ _ _ hj]
    · rw [← hq]
      unfold txtL
      rw [List.length_append, sl_len, hsz]
      push_cast
      omega
  · rw [if_neg c] at h
    simp at h
end Go.Proofs.Ytikopeihkbpjhad

