/-
  Together: DrawPair, AllUpto, KeySpec, DrawTuple6, IterKit, ByPart, IterBox
-/
import Derived.Test.YtclegljalndaeacPack5
import Derived.Test.YtclegljalndaeacPack2
import Derived.Test.YtclegljalndaeacPack7
import Derived.Deep.LoopGhost
import Derived.Deep.RegionHeld3
import Derived.Test.YtclegljalndaeacPack8
import Derived.Test.YtclegljalndaeacPack6
import Derived.Test.YtclegljalndaeacPack1
import Derived.RangeFuncNested
import Derived.RangeFuncBound
import Derived.RangeFuncCalls
import Derived.RangeFuncLeaves
import Derived.OwnWalkIn
import Derived.TacticsInMore
import Derived.LoopNIn
import Derived.LoopIn
import Derived.Shelf.RegionOpen
import Derived.Test.YtclegljalndaeacPack4
import Derived.Test.YtclegljalndaeacPack3
/-
  Two values in a row of their own.
-/
namespace Go.Proofs.Ytclegljalndaeac
open Go.RowKit
set_option maxRecDepth 4000

/-- The six cells of two values. -/
def pairF (k m : Int) (s : ByteArray) (k' m' : Int) (s' : ByteArray) : Nat → Value
  | 0 => .int .i64 k
  | 1 => .int .i64 m
  | 2 => .string s
  | 3 => .int .i64 k'
  | 4 => .int .i64 m'
  | _ => .string s'
def Pair (w : World) (B : Nat) (k m : Int) (s : ByteArray) (k' m' : Int) (s' : ByteArray) : Prop := w.rowIs B 29 6 (pairF k m s k' m' s')
section
variable {w w' : World} {B g : Nat} {k m : Int} {s : ByteArray} {k' m' : Int} {s' : ByteArray}
theorem Pair.new (w : World) (k m : Int) (s : ByteArray) (k' m' : Int) (s' : ByteArray) : Pair (w.alloc (.cells #[.int .i64 k, .int .i64 m, .string s, .int .i64 k', .int .i64 m', .string s'] 29)) w.heap.size k m s k' m' s' :=
  World.rowIs_alloc w _ 29 (pairF k m s k' m' s') (fun j hj => by match j, hj with | 0, _ => rfl | 1, _ => rfl | 2, _ => rfl | 3, _ => rfl | 4, _ => rfl | 5, _ => rfl)
theorem Pair.lt (h : Pair w B k m s k' m' s') : B < w.heap.size := World.rowIs.lt h
theorem Pair.but (h : Pair w B k m s k' m' s') (hb : But g w w') (hne : B ≠ g) : Pair w' B k m s k' m' s' := h.of_block (hb.block B h.lt hne)
theorem Pair.below (h : Pair w B k m s k' m' s') (hb : Below w.heap.size w w') : Pair w' B k m s k' m' s' := h.of_block (hb.block B h.lt)
theorem Pair.drew (h : Pair w B k m s k' m' s') : Pair w.drew B k m s k' m' s' := h
theorem Pair.cells (h : Pair w B k m s k' m' s') : w.cell? ⟨B, 0, none⟩ = some (.int .i64 k) ∧ w.cell? ⟨B, 1, none⟩ = some (.int .i64 m) ∧ w.cell? ⟨B, 2, none⟩ = some (.string s) ∧ w.cell? ⟨B, 3, none⟩ = some (.int .i64 k') ∧ w.cell? ⟨B, 4, none⟩ = some (.int .i64 m') ∧ w.cell? ⟨B, 5, none⟩ = some (.string s') :=
  ⟨h.cell (i := 0) (by decide), h.cell (i := 1) (by decide), h.cell (i := 2) (by decide), h.cell (i := 3) (by decide), h.cell (i := 4) (by decide), h.cell (i := 5) (by decide)⟩
end

/-- Two values as a slice of them. -/
def at2 {α : Type} (a b : α) (i : Nat) : α := if i = 0 then a else b
theorem vview2 {w : World} {B c : Nat} {k m : Int} {s : ByteArray} {k' m' : Int} {s' : ByteArray} (hlt : B < w.heap.size) (hc : 2 ≤ c) (h : w.cell? ⟨B, 0, none⟩ = some (.int .i64 k) ∧ w.cell? ⟨B, 1, none⟩ = some (.int .i64 m) ∧ w.cell? ⟨B, 2, none⟩ = some (.string s) ∧ w.cell? ⟨B, 3, none⟩ = some (.int .i64 k') ∧ w.cell? ⟨B, 4, none⟩ = some (.int .i64 m') ∧ w.cell? ⟨B, 5, none⟩ = some (.string s')) :
    VView w (some ⟨B, 0, none⟩) 2 c (at2 k k') (at2 m m') (at2 s s') := by
  obtain ⟨c0, c1, c2, c3, c4, c5⟩ := h
  refine ⟨hc, fun _ => ⟨B, 0, rfl, hlt, fun i hi => ?_⟩⟩
  match i, hi with
  | 0, _ => exact ⟨c0, c1, c2⟩
  | 1, _ => exact ⟨c3, c4, c5⟩
theorem Pair.view {w : World} {B c : Nat} {k m : Int} {s : ByteArray} {k' m' : Int} {s' : ByteArray} (h : Pair w B k m s k' m' s') (hc : 2 ≤ c) : VView w (some ⟨B, 0, none⟩) 2 c (at2 k k') (at2 m m') (at2 s s') := vview2 h.lt hc h.cells

def pairL (k m : Int) (s : ByteArray) (k' m' : Int) (s' : ByteArray) : List Value := [.int .i64 k, .int .i64 m, .string s, .int .i64 k', .int .i64 m', .string s']
theorem own_pair {w : World} {base : Nat} {v : Value} {k m : Int} {s : ByteArray} {k' m' : Int} {s' : ByteArray} (h : w.ownsRow base 29 3 v 2 (pairL k m s k' m' s')) :
    ∃ B c, v = .slice (some ⟨B, 0, none⟩) 2 c ∧ VView w (some ⟨B, 0, none⟩) 2 c (at2 k k') (at2 m m') (at2 s s') := by
  obtain ⟨hl, h⟩ := h
  rcases h with ⟨_, h0⟩ | ⟨g, c, cur, rfl, hb, hg, hnc, _, hcs, ht⟩
  · omega
  · refine ⟨g, c, rfl, vview2 (Array.getElem?_eq_some_iff.1 hg).1 hnc ?_⟩
    have key : ∀ i, i < 6 → w.cell? ⟨g, i, none⟩ = (pairL k m s k' m' s')[i]? := by
      intro i hi
      rw [World.cell?, hg]
      have e := congrArg (fun l : List Value => l[i]?) ht
      simp only [List.getElem?_take] at e
      rw [if_pos (by omega)] at e
      simpa using e
    exact ⟨key 0 (by omega), key 1 (by omega), key 2 (by omega), key 3 (by omega), key 4 (by omega), key 5 (by omega)⟩
end Go.Proofs.Ytclegljalndaeac

/-
  All up to a number.
-/
namespace Go.Proofs.Ytclegljalndaeac

theorem allUpto_no {p : Nat → Bool} {n k : Nat} (hk : k < n) (h : p k = false) : (List.range n).all p = false := by
  rw [Bool.eq_false_iff]
  intro e
  have := List.all_eq_true.1 e k (List.mem_range.2 hk)
  rw [h] at this; cases this
theorem allUpto_yes {p : Nat → Bool} {n : Nat} (h : ∀ i, i < n → p i = true) : (List.range n).all p = true :=
  List.all_eq_true.2 (fun i hi => h i (List.mem_range.1 hi))
end Go.Proofs.Ytclegljalndaeac

/-
  The model's PlanOk and FitsAll come to the plain ones.
-/
namespace Go.Proofs.Ytclegljalndaeac
open Go.RowKit
set_option maxRecDepth 4000

set_option maxHeartbeats 2000000 in
theorem specPlanOk_any (a : Option Addr) (n cap : Nat) (fc ft : Nat → Int) (fu fd : Nat → Bool) (w : World) (h : PView w a n cap fc ft fu fd) (hn : n ≤ 1048576) :
    Calls Try.prog 32 #[.slice a n cap] w fun e w' => e = .returned (.bool (planOk n fc ft)) ∧ Below w.heap.size w w' := by
  go_enter Try.func32, Try.ntmps32
  go_wp2
  go_loopg [3] n (fun q i wr => ∃ k : Nat, k ≤ n ∧ q = n - k ∧ i = .int .i64 k ∧ Below w.heap.size w wr ∧ ∀ j, j < k → partOk (fc j) (ft j) = true)
  case atStart => exact ⟨0, Nat.zero_le _, rfl, rfl, Below.refl _ _, fun j hj => absurd hj (Nat.not_lt_zero _)⟩
  case round =>
    obtain ⟨k, hk, rfl, rfl, hB, hall⟩ := hrel
    have HA : Hid (∀ j, j < k → partOk (fc j) (ft j) = true) := hall
    clear hall
    by_cases hlt : k < n
    · obtain ⟨b1, o1, rfl, hb1, hd1⟩ := (h.below hB).cells (by omega)
      obtain ⟨x0, x1, x2, x3⟩ := hd1 k hlt
      have hkz : (k : Int) < (n : Int) := by omega
      clear hd1 h
      go_wp2_with fail
      clear x0 x1 x2 x3
      refine (specPartOk_any (fc k) (ft k) (fu k) (fd k) _).mono ?_
      cases ho : partOk (fc k) (ft k) with
      | true =>
        rintro e w2 ⟨rfl, hB2⟩
        have hB3 := hB.trans (hB2.mono hB.size)
        clear hB2
        have HN : Hid (∀ j, j < k + 1 → partOk (fc j) (ft j) = true) := by
          intro j hj
          by_cases e : j < k
          · exact HA.out j e
          · obtain rfl : j = k := by omega
            exact ho
        clear ho HA
        go_wp2
        go_roundg (n - (k + 1))
        case measure => omega
        case rel => exact ⟨k + 1, by omega, rfl, by go_num, hB3, HN.out⟩
      | false =>
        rintro e w2 ⟨rfl, hB2⟩
        have hB3 := hB.trans (hB2.mono hB.size)
        have HF : Hid (planOk n fc ft = false) := by show _ = _; unfold planOk; rw [allUpto_no hlt ho]; rfl
        clear hB2 ho HA
        go_wp2
        go_ret
        exact ⟨by rw [HF.out]; rfl, hB3⟩
    · have hkn : k = n := by omega
      have hkz : ¬ (k : Int) < (n : Int) := by omega
      by_cases h6 : n ≤ 6
      · have hz : (n : Int) ≤ 6 := by omega
        have HT : Hid (planOk n fc ft = true) := planOk_iff.2 ⟨fun i hi => HA.out i (by omega), h6⟩
        clear HA
        go_wp2
        go_ret
        exact ⟨by rw [HT.out]; rfl, hB⟩
      · have hz : ¬ (n : Int) ≤ 6 := by omega
        have HT : Hid (planOk n fc ft = false) := by show _ = _; unfold planOk; simp [h6]
        clear HA
        go_wp2
        go_ret
        exact ⟨by rw [HT.out]; rfl, hB⟩

set_option maxHeartbeats 2000000 in
theorem specFitsAll_any (a : Option Addr) (n cap : Nat) (fc ft : Nat → Int) (fu fd : Nat → Bool) (a2 : Option Addr) (m cap2 : Nat) (fk fn : Nat → Int) (fs : Nat → ByteArray) (w : World) (h : PView w a n cap fc ft fu fd) (h2 : VView w a2 m cap2 fk fn fs) (hn : n ≤ 1048576) (hm : m ≤ 1048576) (hs : ∀ i, i < m → (fs i).size ≤ 1048576) :
    Calls Try.prog 33 #[.slice a n cap, .slice a2 m cap2] w fun e w' => e = .returned (.bool (fitsAll n m ft fu fk fn fs)) ∧ Below w.heap.size w w' := by
  by_cases hmn : n < m
  · have hz : (n : Int) < (m : Int) := by omega
    have e : fitsAll n m ft fu fk fn fs = false := by unfold fitsAll; simp; omega
    rw [e]
    go_enter Try.func33, Try.ntmps33
    go_wp2
    go_ret
    exact ⟨rfl, Below.refl _ _⟩
  have hz0 : ¬ (n : Int) < (m : Int) := by omega
  go_enter Try.func33, Try.ntmps33
  go_wp2
  go_loopg [5] m (fun q i wr => ∃ k : Nat, k ≤ m ∧ q = m - k ∧ i = .int .i64 k ∧ Below w.heap.size w wr ∧ ∀ j, j < k → fitsP (ft j) (fu j) (fk j) (fn j) (fs j) = true)
  case atStart => exact ⟨0, Nat.zero_le _, rfl, rfl, Below.refl _ _, fun j hj => absurd hj (Nat.not_lt_zero _)⟩
  case round =>
    obtain ⟨k, hk, rfl, rfl, hB, hall⟩ := hrel
    have HA : Hid (∀ j, j < k → fitsP (ft j) (fu j) (fk j) (fn j) (fs j) = true) := hall
    clear hall
    by_cases hlt : k < m
    · have hlt2 : k < n := by omega
      obtain ⟨b1, o1, rfl, hb1, hd1⟩ := (h.below hB).cells (by omega)
      obtain ⟨b2, o2, rfl, hb2, hd2⟩ := (h2.below hB).cells (by omega)
      obtain ⟨x0, x1, x2, x3⟩ := hd1 k (by omega)
      obtain ⟨y0, y1, y2⟩ := hd2 k hlt
      have hkz : (k : Int) < (m : Int) := by omega
      have hkn : (k : Int) < (n : Int) := by omega
      have hsz := hs k hlt
      obtain ⟨o, ho⟩ : ∃ o, Hid (fitsP (ft k) (fu k) (fk k) (fn k) (fs k) = o) := ⟨_, rfl⟩
      have hF := fun W => specFits_any (fc k) (ft k) (fu k) (fd k) (fk k) (fn k) (fs k) W (by omega)
      rw [ho.out] at hF
      have HO : Hid (o = false → fitsAll n m ft fu fk fn fs = false) := by
        intro e
        have := ho.out
        rw [e] at this
        unfold fitsAll
        rw [allUpto_no (p := fun i => fitsP (ft i) (fu i) (fk i) (fn i) (fs i)) hlt this, Bool.and_false]
      have HN : Hid (o = true → ∀ j, j < k + 1 → fitsP (ft j) (fu j) (fk j) (fn j) (fs j) = true) := by
        intro e j hj
        by_cases ej : j < k
        · exact HA.out j ej
        · obtain rfl : j = k := by omega
          rw [ho.out, e]
      clear hd1 hd2 h h2 ho HA hsz
      obtain ⟨p0, hp0⟩ : ∃ p, Hid (fc k = p) := ⟨_, rfl⟩
      obtain ⟨p1, hp1⟩ : ∃ p, Hid (ft k = p) := ⟨_, rfl⟩
      obtain ⟨p2, hp2⟩ : ∃ p, Hid (fu k = p) := ⟨_, rfl⟩
      obtain ⟨p3, hp3⟩ : ∃ p, Hid (fd k = p) := ⟨_, rfl⟩
      obtain ⟨q0, hq0⟩ : ∃ p, Hid (fk k = p) := ⟨_, rfl⟩
      obtain ⟨q1, hq1⟩ : ∃ p, Hid (fn k = p) := ⟨_, rfl⟩
      obtain ⟨q2, hq2⟩ : ∃ p, Hid (fs k = p) := ⟨_, rfl⟩
      rw [hp0.out] at x0 hF
      rw [hp1.out] at x1 hF
      rw [hp2.out] at x2 hF
      rw [hp3.out] at x3 hF
      rw [hq0.out] at y0 hF
      rw [hq1.out] at y1 hF
      rw [hq2.out] at y2 hF
      go_wp2_with fail
      refine wp_region_held_drew (S := fun W => (W.cell? ⟨b1, o1 + k * 4, none⟩ = some (.int .i64 p0) ∧ W.cell? ⟨b1, o1 + k * 4 + 1, none⟩ = some (.int .i64 p1) ∧ W.cell? ⟨b1, o1 + k * 4 + 2, none⟩ = some (.bool p2) ∧ W.cell? ⟨b1, o1 + k * 4 + 3, none⟩ = some (.bool p3)) ∧ (W.cell? ⟨b2, o2 + k * 3, none⟩ = some (.int .i64 q0) ∧ W.cell? ⟨b2, o2 + k * 3 + 1, none⟩ = some (.int .i64 q1) ∧ W.cell? ⟨b2, o2 + k * 3 + 2, none⟩ = some (.string q2))) (by kernel_rfl) (⟨⟨x0, x1, x2, x3⟩, y0, y1, y2⟩) (fun hHeld => ?_)
      refine' wpAnyH_take (i := 0) (v := _) rfl (by kernel_rfl) (by kernel_rfl) (by kernel_rfl) (fun _ _ _ h => h) (Or.inl ⟨by kernel_rfl, ?ha0⟩) (by assumption) ?ra0
      case ha0 => intro W hW; obtain ⟨⟨d0, d1, d2, d3⟩, g0, g1, g2⟩ := hW; go_simp; all_goals with_reducible rfl
      change wpAnyH _ _ _ _ _ _ _ (Act.put _ (some 17) _) _
      simp only [Act.put, List.setIfInBounds_toArray, List.set_cons_zero, List.set_cons_succ]
      refine' wpAnyH_take (i := 1) (v := _) rfl (by kernel_rfl) (by kernel_rfl) (by kernel_rfl) (fun _ _ _ h => h) (Or.inl ⟨by kernel_rfl, ?ha1⟩) (by assumption) ?ra1
      case ha1 => intro W hW; obtain ⟨⟨d0, d1, d2, d3⟩, g0, g1, g2⟩ := hW; go_simp; all_goals with_reducible rfl
      change wpAnyH _ _ _ _ _ _ _ (Act.put _ (some 18) _) _
      simp only [Act.put, List.setIfInBounds_toArray, List.set_cons_zero, List.set_cons_succ]
      refine' wpAnyH_take (i := 2) (v := _) rfl (by kernel_rfl) (by kernel_rfl) (by kernel_rfl) (fun _ _ _ h => h) (Or.inl ⟨by kernel_rfl, ?ha2⟩) (by assumption) ?ra2
      case ha2 => intro W hW; obtain ⟨⟨d0, d1, d2, d3⟩, g0, g1, g2⟩ := hW; go_simp; all_goals with_reducible rfl
      change wpAnyH _ _ _ _ _ _ _ (Act.put _ (some 19) _) _
      simp only [Act.put, List.setIfInBounds_toArray, List.set_cons_zero, List.set_cons_succ]
      refine' wpAnyH_take (i := 3) (v := _) rfl (by kernel_rfl) (by kernel_rfl) (by kernel_rfl) (fun _ _ _ h => h) (Or.inl ⟨by kernel_rfl, ?ha3⟩) (by assumption) ?ra3
      case ha3 => intro W hW; obtain ⟨⟨d0, d1, d2, d3⟩, g0, g1, g2⟩ := hW; go_simp; all_goals with_reducible rfl
      change wpAnyH _ _ _ _ _ _ _ (Act.put _ (some 20) _) _
      simp only [Act.put, List.setIfInBounds_toArray, List.set_cons_zero, List.set_cons_succ]
      refine' wpAnyH_take (i := 4) (v := _) rfl (by kernel_rfl) (by kernel_rfl) (by kernel_rfl) (fun _ _ _ h => h) (Or.inl ⟨by kernel_rfl, ?ha4⟩) (by assumption) ?ra4
      case ha4 => intro W hW; obtain ⟨⟨d0, d1, d2, d3⟩, g0, g1, g2⟩ := hW; go_simp; all_goals with_reducible rfl
      change wpAnyH _ _ _ _ _ _ _ (Act.put _ (some 21) _) _
      simp only [Act.put, List.setIfInBounds_toArray, List.set_cons_zero, List.set_cons_succ]
      refine' wpAnyH_take (i := 5) (v := _) rfl (by kernel_rfl) (by kernel_rfl) (by kernel_rfl) (fun _ _ _ h => h) (Or.inl ⟨by kernel_rfl, ?ha5⟩) (by assumption) ?ra5
      case ha5 => intro W hW; obtain ⟨⟨d0, d1, d2, d3⟩, g0, g1, g2⟩ := hW; go_simp; all_goals with_reducible rfl
      change wpAnyH _ _ _ _ _ _ _ (Act.put _ (some 22) _) _
      simp only [Act.put, List.setIfInBounds_toArray, List.set_cons_zero, List.set_cons_succ]
      refine' wpAnyH_take (i := 6) (v := _) rfl (by kernel_rfl) (by kernel_rfl) (by kernel_rfl) (fun _ _ _ h => h) (Or.inl ⟨by kernel_rfl, ?ha6⟩) (by assumption) ?ra6
      case ha6 => intro W hW; obtain ⟨⟨d0, d1, d2, d3⟩, g0, g1, g2⟩ := hW; go_simp; all_goals with_reducible rfl
      change wpAnyH _ _ _ _ _ _ _ (Act.put _ (some 23) _) _
      simp only [Act.put, List.setIfInBounds_toArray, List.set_cons_zero, List.set_cons_succ]
      refine' wpAnyH_take (i := 7) (v := _) rfl (by kernel_rfl) (by kernel_rfl) (by kernel_rfl) (fun _ _ _ h => h) (Or.inl ⟨by kernel_rfl, ?ha7⟩) (by assumption) ?ra7
      case ha7 => intro W hW; obtain ⟨⟨d0, d1, d2, d3⟩, g0, g1, g2⟩ := hW; go_simp; all_goals with_reducible rfl
      change wpAnyH _ _ _ _ _ _ _ (Act.put _ (some 24) _) _
      simp only [Act.put, List.setIfInBounds_toArray, List.set_cons_zero, List.set_cons_succ]
      refine wpAnyH_ready (rs := [8]) (by kernel_rfl) (by simp) ?_
      refine AllReadyH.cons rfl (fun KK hK => ?_) AllReadyH.nil
      go_simp
      refine (hF _).mono ?_
      rintro e w2 ⟨rfl, hB2⟩
      go_wp2_with fail
      refine hK.out _ _ ⟨⟨by rw [hB2.cell hb1]; exact x0, by rw [hB2.cell hb1]; exact x1, by rw [hB2.cell hb1]; exact x2, by rw [hB2.cell hb1]; exact x3⟩, by rw [hB2.cell hb2]; exact y0, by rw [hB2.cell hb2]; exact y1, by rw [hB2.cell hb2]; exact y2⟩ (fun hHeld => ?_)
      clear hK KK
      try simp only [Act.put, List.setIfInBounds_toArray, List.set_cons_zero, List.set_cons_succ]
      refine' wpAnyH_take (i := 9) (v := _) rfl (by kernel_rfl) (by kernel_rfl) (by kernel_rfl) (fun _ _ _ h => h) (Or.inl ⟨by kernel_rfl, ?ha9⟩) (by assumption) ?ra9
      case ha9 => intro W hW; obtain ⟨⟨d0, d1, d2, d3⟩, g0, g1, g2⟩ := hW; go_simp; all_goals with_reducible rfl
      change wpAnyH _ _ _ _ _ _ _ (Act.put _ (some 26) _) _
      simp only [Act.put, List.setIfInBounds_toArray, List.set_cons_zero, List.set_cons_succ]
      refine wpAnyH_done (by kernel_rfl) ?_ _
      have hB3 : Hid (Below w.heap.size w w2) := hB.trans (Below.trans (Below.drew (Below.refl _ _)) (hB2.mono (by have := hB.size; exact this)))
      clear hHeld x0 x1 x2 x3 y0 y1 y2 hF
      cases o with
      | true =>
        go_wp2
        go_roundg (m - (k + 1))
        case measure => omega
        case rel => exact ⟨k + 1, by omega, rfl, by go_num, hB3.out, HN.out (by simp)⟩
      | false =>
        go_wp2
        go_ret
        exact ⟨by rw [HO.out (by simp)]; rfl, hB3.out⟩
    · have hkz : ¬ (k : Int) < (m : Int) := by omega
      have HT : Hid (fitsAll n m ft fu fk fn fs = true) := fitsAll_iff.2 ⟨by omega, fun i hi => HA.out i (by omega)⟩
      clear HA
      go_wp2
      go_ret
      exact ⟨by rw [HT.out]; rfl, hB⟩
end Go.Proofs.Ytclegljalndaeac

/-
  The draws of plans, right or not, and of lists of values for them.
-/
namespace Go.Proofs.Ytclegljalndaeac
open Go.RowKit
set_option maxRecDepth 4000

/-- A plan that was drawn: m parts, in a row of the call's own. -/
structure DrewAnyP (w : World) (g : Nat) (ao : Option Addr) (n cap : Nat) (f : Nat → Int) (v : Value) (m : Nat) (gc gt : Nat → Int) (gu gd : Nat → Bool) (w' : World) : Prop where
  some : v ≠ .slice none 0 0
  own : w'.ownsRow w.heap.size 25 4 v m (rowP gc gt gu gd m)
  cur : Cur w' g ao n cap f
  but : But g w w'

/-- The first part is put anew. -/
theorem PView.set0 {w : World} {b m cp : Nat} {gc gt : Nat → Int} {gu gd : Nat → Bool} (h : PView w (some ⟨b, 0, none⟩) m cp gc gt gu gd) (hm : 0 < m) (c t : Int) (nul d : Bool) :
    PView ((((w.setCell ⟨b, 0, none⟩ (.int .i64 c)).setCell ⟨b, 1, none⟩ (.int .i64 t)).setCell ⟨b, 2, none⟩ (.bool nul)).setCell ⟨b, 3, none⟩ (.bool d)) (some ⟨b, 0, none⟩) m cp (fun i => if i = 0 then c else gc i) (fun i => if i = 0 then t else gt i) (fun i => if i = 0 then nul else gu i) (fun i => if i = 0 then d else gd i) := by
  refine ⟨h.le, fun _ => ?_⟩
  obtain ⟨b', off, e, hlt, hd⟩ := h.cells hm
  cases e
  refine ⟨b, 0, rfl, by simpa using hlt, fun i hi => ?_⟩
  by_cases hi0 : i = 0
  · subst hi0
    obtain ⟨x0, x1, x2, x3⟩ := hd 0 hm
    simp only [Nat.zero_mul, Nat.add_zero, Nat.zero_add, if_pos] at x0 x1 x2 x3 ⊢
    refine ⟨?_, ?_, ?_, ?_⟩
    · rw [sc_other _ _ 3 0 _ (by decide), sc_other _ _ 2 0 _ (by decide), sc_other _ _ 1 0 _ (by decide), sc_same x0]
    · rw [sc_other _ _ 3 1 _ (by decide), sc_other _ _ 2 1 _ (by decide), sc_same (u := .int .i64 (gt 0)) (by rw [sc_other _ _ 0 1 _ (by decide)]; exact x1)]
    · rw [sc_other _ _ 3 2 _ (by decide), sc_same (u := .bool (gu 0)) (by rw [sc_other _ _ 1 2 _ (by decide), sc_other _ _ 0 2 _ (by decide)]; exact x2)]
    · rw [sc_same (u := .bool (gd 0)) (by rw [sc_other _ _ 2 3 _ (by decide), sc_other _ _ 1 3 _ (by decide), sc_other _ _ 0 3 _ (by decide)]; exact x3)]
  · simp only [if_neg hi0]
    obtain ⟨x0, x1, x2, x3⟩ := hd i hi
    refine ⟨?_, ?_, ?_, ?_⟩
    all_goals rw [sc_other _ _ 3 _ _ (by omega), sc_other _ _ 2 _ _ (by omega), sc_other _ _ 1 _ _ (by omega), sc_other _ _ 0 _ _ (by omega)]
    · exact x0
    · exact x1
    · exact x2
    · exact x3

/-- A plan, right or not. -/
structure AnyPlan (w : World) (g : Nat) (ao : Option Addr) (n cap : Nat) (f : Nat → Int) (b m cp : Nat) (gc gt : Nat → Int) (gu gd : Nat → Bool) (w' : World) : Prop where
  new : w.heap.size ≤ b
  pos : 1 ≤ m
  few : m ≤ 7
  view : PView w' (some ⟨b, 0, none⟩) m cp gc gt gu gd
  cur : Cur w' g ao n cap f
  but : But g w w'

set_option maxHeartbeats 4000000 in
theorem l6Any_any (g : Nat) (ao : Option Addr) (n cap : Nat) (f : Nat → Int) (w : World) (hn : n ≤ 1048576) (hC : Cur w g ao n cap f) :
    Calls Try.prog 66 #[.pointer (some ⟨g, 0, none⟩)] w fun e w' => ∃ (b m cp : Nat) (gc gt : Nat → Int) (gu gd : Nat → Bool), e = .returned (.slice (some ⟨b, 0, none⟩) m cp) ∧ AnyPlan w g ao n cap f b m cp gc gt gu gd w' := by
  obtain ⟨i0, hi, hz0, hz1, hz2⟩ := infoPart4
  have hgl := hC.lt
  have HC : Hid (∀ a, ao = some a → 0 < n → a.block < w.heap.size) := hC.code
  go_enter Try.func66, Try.ntmps66
  go_wp2_with fail
  refine (l6Plan_any g ao n cap f w hn hC).mono ?_
  rintro e w1 ⟨v, m, gc, gt, gu, gd, rfl, hm1, hm3, hP⟩
  clear hC
  have hC1 := hP.cur
  obtain ⟨a, cp, rfl, -, hsome⟩ := pview_of_own hP.own
  obtain ⟨b, rfl, hb⟩ := hsome hP.some
  go_wp2_with fail
  refine (l1Below_any g ao n cap f 12 w1 hn (by omega) (by omega) hC1).mono ?_
  rintro e w2 ⟨x, rfl, hx0, hx1, hC2, hO2⟩
  have hown2 := hP.own.kept hO2.grown (Or.inr (fun e => by have := (hP.own.lt g e).1; omega))
  have hB2 : But g w w2 := hP.but.trans (But.ofOnly hO2)
  have hA2 : DrewAnyP w g ao n cap f (.slice (some ⟨b, 0, none⟩) m cp) m gc gt gu gd w2 := ⟨by simp, hown2, hC2, hB2⟩
  obtain ⟨a', cp', e', hpv2, -⟩ := pview_of_own hown2
  cases e'
  have hbl : b < w2.heap.size := by obtain ⟨b', off, e, hlt, -⟩ := hpv2.cells (by omega); cases e; exact hlt
  clear hP hO2 hC1 hsome
  by_cases e0 : x = 0
  · subst e0
    go_wp2_with fail
    refine (l5Any_any g ao n cap f w2 hn hC2).mono ?_
    rintro e w3 ⟨c, t, nul, d, rfl, hD⟩
    have hpv3 := hpv2.but hD.but (fun X e => by cases e; show b ≠ g; omega)
    have hown3 := hown2.kept hD.but.grown (Or.inr (fun e => by have := (hown2.lt g e).1; omega))
    obtain ⟨b', off, e, hlt3, hd3⟩ := hpv3.cells (by omega)
    cases e
    obtain ⟨x0, x1, x2, x3⟩ := hd3 0 (by omega)
    simp only [Nat.zero_mul, Nat.add_zero, Nat.zero_add] at x0 x1 x2 x3
    have hfz : ∀ j, w3.frozen? ⟨b, j, none⟩ = false := fun j => by
      rcases hown3.2 with ⟨e, _⟩ | ⟨g', c', cur', e, _, hg', _⟩
      · cases e
      · cases e; simp [World.frozen?, hg']
    have f0 := hfz 0
    have f1 := hfz 1
    have f2 := hfz 2
    have f3 := hfz 3
    have hmz : (0 : Int) < (m : Int) := by omega
    have HV : Hid (AnyPlan w g ao n cap f b m cp (fun i => if i = 0 then c else gc i) (fun i => if i = 0 then t else gt i) (fun i => if i = 0 then nul else gu i) (fun i => if i = 0 then d else gd i) ((((w3.setCell ⟨b, 0, none⟩ (.int .i64 c)).setCell ⟨b, 1, none⟩ (.int .i64 t)).setCell ⟨b, 2, none⟩ (.bool nul)).setCell ⟨b, 3, none⟩ (.bool d))) := by
      refine ⟨hb, hm1, by omega, hpv3.set0 (by omega) c t nul d, ?_, ?_⟩
      · have q : ∀ a, ao = some a → 0 < n → a.block ≠ b := fun a h1 h0 => by have := HC.out a h1 h0; omega
        exact (((hD.cur.setNew _ (by omega) q).setNew _ (by omega) q).setNew _ (by omega) q).setNew _ (by omega) q
      · exact ((((hB2.trans hD.but).setNew hb _).setNew hb _).setNew hb _).setNew hb _
    clear hfz hd3 hpv3 hown3 hpv2 hown2 hA2 hD hC2
    go_wp2
    go_ret
    exact ⟨b, m, cp, _, _, _, _, rfl, HV.out⟩
  · have e0' : ¬ (x = 0) := e0
    by_cases e1 : x = 1
    · subst e1
      clear hpv2 hown2 hC2 hbl hB2
      go_wp2
      go_loopg [3] (8 - m) (fun q v wr => ∃ (m2 : Nat) (gc gt : Nat → Int) (gu gd : Nat → Bool), 1 ≤ m2 ∧ m2 ≤ 7 ∧ q = 8 - m2 ∧ DrewAnyP w g ao n cap f v m2 gc gt gu gd wr)
      case atStart => exact ⟨m, gc, gt, gu, gd, hm1, by omega, rfl, hA2⟩
      case round =>
        clear hA2
        obtain ⟨m2, hc, ht, hu, hd, h1, h7, rfl, hD⟩ := hrel
        obtain ⟨a3, c3, e3, hpv, hs⟩ := pview_of_own hD.own
        obtain ⟨b3, rfl, hb3⟩ := hs hD.some
        subst e3
        have hown := hD.own
        have HD : Hid (DrewAnyP w g ao n cap f (.slice (some ⟨b3, 0, none⟩) m2 c3) m2 hc ht hu hd wr) := hD
        have hCr := hD.cur
        clear hD hs
        go_wp2_with fail
        refine (l1Below_any g ao n cap f 2 wr hn (by omega) (by omega) hCr).mono ?_
        rintro e w3 ⟨y, rfl, hy0, hy1, hC3, hO3⟩
        have hown3 := hown.kept hO3.grown (Or.inr (fun e => by have := (hown.lt g e).1; omega))
        have hB3 : But g w w3 := HD.out.but.trans (But.ofOnly hO3)
        by_cases hlt : (m2 : Int) < 6 + y
        · have Hlt : Hid (m2 < 7) := by show _ < _; omega
          go_wp2_with fail
          refine (l5Draw_fit g ao n cap f 0 w3 hn (by unfold I64; omega) hC3).mono ?_
          rintro e w4 ⟨t, nul, d, rfl, -, hP⟩
          have hown4 := hown3.kept hP.but.grown (Or.inr (fun e => by have := (hown3.lt g e).1; omega))
          have hC4 := hP.cur
          have hB4 : But g w w4 := hB3.trans hP.but
          have hs4 : w.heap.size ≤ w4.heap.size := hB4.size
          have hcl := cells_part w4 0 t nul d
          clear hO3 hC3 hP hCr hpv
          go_wp2_with (at_builtin; refine wpList_append_own _ rfl (.tmp 22) (.tmp 25) 38 rfl w.heap.size 25 i0 (.agg #[.int .i64 0, .int .i64 0, .bool false, .bool false]) 4 24 Try.underlying38 hi hz0 hz1 hz2 rfl (by decide) (.slice (some ⟨b3, 0, none⟩) m2 c3) _ _ rfl (hown4.alloc _) ⟨w4.heap.size, 0, none⟩ 1 1 [.int .i64 0, .int .i64 t, .bool nul, .bool d] rfl rfl hcl (one_part _ _ _ _) (by unfold maxLen; omega) (by omega) (by simp; omega) ?_; intro v5 w5 hown5 hgr5 hnil5)
          have hb5 : Below w4.heap.size w4 (w4.alloc (.cells #[.int .i64 0, .int .i64 t, .bool nul, .bool d] 25)) := (Below.refl _ _).alloc (Nat.le_refl _) _
          have hB5 : But g w w5 := by
            refine ⟨hgr5.os.trans hB4.os, hgr5.tape.trans hB4.tape, hgr5.output.trans hB4.output, Nat.le_trans hs4 (Nat.le_trans (by simp) hgr5.size), fun j hj hg => ?_⟩
            rw [hgr5.block j (by simp; omega) (fun e => by have := (hown.lt j e.symm).1; omega), Below.heap_alloc _ _ _ (by omega)]
            exact hB4.block j hj hg
          have hC5 : Cur w5 g ao n cap f := (hC4.below hb5).grown hgr5 (fun e => by have := (hown.lt g e).1; omega) (fun a ha h0 e => by have := (hown.lt _ e).1; have := HC.out a ha h0; omega)
          have HD5 : Hid (DrewAnyP w g ao n cap f v5 (m2 + 1) (fun i => if i = m2 then 0 else hc i) (fun i => if i = m2 then t else ht i) (fun i => if i = m2 then nul else hu i) (fun i => if i = m2 then d else hd i) w5) := by
            refine ⟨fun e => HD.out.some (hnil5.1 e).1, ?_, hC5, hB5⟩
            rw [rowP, if_pos rfl, if_pos rfl, if_pos rfl, if_pos rfl, rowP_congr (hc := hc) (ht := ht) (hu := hu) (hd := hd) (fun i hi => by rw [if_neg (by omega), if_neg (by omega), if_neg (by omega), if_neg (by omega)]; exact ⟨rfl, rfl, rfl, rfl⟩)]
            exact hown5
          clear hown hown3 hown4 hown5 hgr5 hnil5 hcl hC5 hB5 hb5 hB4 hC4 HD hB3
          go_wp2
          go_roundg (8 - (m2 + 1))
          case measure => have := Hlt.out; omega
          case rel => exact ⟨m2 + 1, _, _, _, _, by omega, Hlt.out, rfl, HD5.out⟩
        · have HV : Hid (AnyPlan w g ao n cap f b3 m2 c3 hc ht hu hd w3) := ⟨hb3, h1, h7, hpv.but (But.ofOnly hO3) (fun X e => by cases e; show b3 ≠ g; omega), hC3, hB3⟩
          clear hown hown3 hpv hC3 hB3 hO3 hCr HD
          go_wp2
          go_ret
          exact ⟨b3, m2, c3, hc, ht, hu, hd, rfl, HV.out⟩
    · have HV : Hid (AnyPlan w g ao n cap f b m cp gc gt gu gd w2) := ⟨hb, hm1, by omega, hpv2, hC2, hB2⟩
      clear hpv2 hown2 hA2 hC2
      go_wp2
      go_ret
      exact ⟨b, m, cp, gc, gt, gu, gd, rfl, HV.out⟩

/-- A list of values for a plan, fitting or not. -/
structure AnyVals (w : World) (g : Nat) (ao : Option Addr) (n cap : Nat) (f : Nat → Int) (b M c : Nat) (gk gn : Nat → Int) (gs : Nat → ByteArray) (w' : World) : Prop where
  new : w.heap.size ≤ b
  few : M ≤ 7
  short : ∀ i, i < M → (gs i).size ≤ 40
  view : VView w' (some ⟨b, 0, none⟩) M c gk gn gs
  cur : Cur w' g ao n cap f
  but : But g w w'

theorem view1 {w : World} {B : Nat} {k m : Int} {s : ByteArray} (h : Box w B k m s) : VView w (some ⟨B, 0, none⟩) 1 1 (fun _ => k) (fun _ => m) (fun _ => s) := by
  refine ⟨Nat.le_refl _, fun _ => ⟨B, 0, rfl, h.lt, fun i hi => ?_⟩⟩
  obtain rfl : i = 0 := by omega
  exact h.cells

set_option maxHeartbeats 4000000 in
theorem l6Tuple_any (g : Nat) (ao : Option Addr) (n cap : Nat) (f : Nat → Int) (b m cp : Nat) (gc gt : Nat → Int) (gu gd : Nat → Bool) (w : World) (hn : n ≤ 1048576) (hC : Cur w g ao n cap f) (h : PView w (some ⟨b, 0, none⟩) m cp gc gt gu gd) (hbg : b ≠ g) (hm1 : 1 ≤ m) (hm7 : m ≤ 7) :
    Calls Try.prog 67 #[.pointer (some ⟨g, 0, none⟩), .slice (some ⟨b, 0, none⟩) m cp] w fun e w' => ∃ (b2 M c : Nat) (gk gn : Nat → Int) (gs : Nat → ByteArray), e = .returned (.slice (some ⟨b2, 0, none⟩) M c) ∧ AnyVals w g ao n cap f b2 M c gk gn gs w' := by
  have hgl := hC.lt
  go_enter Try.func67, Try.ntmps67
  go_wp2_with fail
  refine (l1Once_any g ao n cap f 10 w hn (by omega) (by omega) hC).mono ?_
  rintro e w1 ⟨o, rfl, hC1, hO1⟩
  have hB1 : But g w w1 := But.ofOnly hO1
  have h1 := h.but hB1 (fun X e => by cases e; exact hbg)
  clear hC h hO1
  cases o with
  | true =>
    go_wp2_with fail
    refine (l2Any_any g ao n cap f w1 hn hC1).mono ?_
    rintro e w2 ⟨k, x, s, rfl, hD⟩
    have hb2 : Below w2.heap.size w2 (w2.alloc (.cells #[.int .i64 k, .int .i64 x, .string s] 29)) := (Below.refl _ _).alloc (Nat.le_refl _) _
    have HV : Hid (AnyVals w g ao n cap f w2.heap.size 1 1 (fun _ => k) (fun _ => x) (fun _ => s) (w2.alloc (.cells #[.int .i64 k, .int .i64 x, .string s] 29))) :=
      ⟨(hB1.trans hD.but).size, by omega, fun _ _ => hD.few, view1 (Box.new w2 k x s), hD.cur.below hb2, (hB1.trans hD.but).trans (But.ofBelow hb2)⟩
    clear hD hb2 h1 hC1
    go_wp2
    go_ret
    exact ⟨_, 1, 1, _, _, _, rfl, HV.out⟩
  | false =>
    cases hpk : planOk m gc gt with
    | false =>
      go_wp2_with fail
      refine (specPlanOk_any _ m cp gc gt gu gd w1 h1 (by omega)).mono ?_
      rw [hpk]
      rintro e w2 ⟨rfl, hb2⟩
      have hB2 := hB1.trans (But.ofBelow (g := g) hb2)
      have hC2 := hC1.below hb2
      clear hC1 h1 hb2
      go_wp2_with fail
      refine (l2Draw_any g ao n cap f w2 hn hC2).mono ?_
      rintro e w3 ⟨k, x, s, rfl, hD⟩
      have hC3 := hD.cur
      have hB3 := hB2.trans hD.but
      have hs1 := hD.few
      clear hD hC2
      go_wp2_with fail
      refine (l2Draw_any g ao n cap f w3 hn hC3).mono ?_
      rintro e w4 ⟨k', x', s', rfl, hD⟩
      have hb4 : Below w4.heap.size w4 (w4.alloc (.cells #[.int .i64 k, .int .i64 x, .string s, .int .i64 k', .int .i64 x', .string s'] 29)) := (Below.refl _ _).alloc (Nat.le_refl _) _
      have HV : Hid (AnyVals w g ao n cap f w4.heap.size 2 2 (at2 k k') (at2 x x') (at2 s s') (w4.alloc (.cells #[.int .i64 k, .int .i64 x, .string s, .int .i64 k', .int .i64 x', .string s'] 29))) := by
        refine ⟨(hB3.trans hD.but).size, by omega, fun i _ => ?_, (Pair.new w4 k x s k' x' s').view (Nat.le_refl _), hD.cur.below hb4, (hB3.trans hD.but).trans (But.ofBelow hb4)⟩
        unfold at2
        split
        · exact hs1
        · exact hD.few
      clear hD hb4 hC3 hs1
      go_wp2
      go_ret
      exact ⟨_, 2, 2, _, _, _, rfl, HV.out⟩
    | true =>
      obtain ⟨hpo, hm6⟩ := planOk_iff.1 hpk
      have Ht : Hid (∀ i, i < m → 1 ≤ gt i ∧ gt i ≤ 4) := fun i hi => by have := hpo i hi; unfold partOk at this; simp at this; omega
      go_wp2_with fail
      refine (specPlanOk_any _ m cp gc gt gu gd w1 h1 (by omega)).mono ?_
      rw [hpk]
      rintro e w2 ⟨rfl, hb2⟩
      have hB2 := hB1.trans (But.ofBelow (g := g) hb2)
      have hC2 := hC1.below hb2
      have h2 := h1.below hb2
      clear hC1 h1 hb2 hpo hpk
      go_wp2_with fail
      refine (l1Below_any g ao n cap f ((m : Int) + 1) w2 hn (by omega) (by omega) hC2).mono ?_
      rintro e w3 ⟨y, rfl, hy0, hy1, hC3, hO3⟩
      have hB3 := hB2.trans (But.ofOnly hO3)
      have h3 := h2.but (But.ofOnly hO3) (fun X e => by cases e; exact hbg)
      clear hC2 h2 hO3
      have hb4 : Below w3.heap.size w3 (w3.alloc (.cells #[.int .i64 m, .int .i64 m, .int .i64 m, .int .i64 y] 3)) := (Below.refl _ _).alloc (Nat.le_refl _) _
      have hC4 := hC3.below hb4
      have h4 := h3.below hb4
      have hB4 := hB3.trans (But.ofBelow (g := g) hb4)
      have hz : ∀ i, i < 4 → (w3.alloc (.cells #[.int .i64 m, .int .i64 m, .int .i64 m, .int .i64 y] 3)).cell? ⟨w3.heap.size, i, none⟩ = some (.int .i64 ((fun i => if i = 3 then y else (m : Int)) i)) := fun i hi => by
        match i, hi with
        | 0, _ => simp [go_sem]
        | 1, _ => simp [go_sem]
        | 2, _ => simp [go_sem]
        | 3, _ => simp [go_sem]
      have hgs : w3.heap.size ≠ g := by have := hC3.lt; omega
      go_wp2_with fail
      refine (l1Int_any g ao n cap f w3.heap.size 4 (fun i => if i = 3 then y else (m : Int)) _ hn (by omega) (by omega) hz hgs hC4).mono ?_
      rintro e w5 ⟨j, hj, rfl, hC5, hO5⟩
      obtain ⟨NN, hNN⟩ : ∃ NN : Nat, (if j = 3 then y else (m : Int)) = NN ∧ NN ≤ m := by
        split
        · exact ⟨y.toNat, by omega, by omega⟩
        · exact ⟨m, rfl, Nat.le_refl _⟩
      have hB5 := hB4.trans (But.ofOnly hO5)
      have h5 := h4.but (But.ofOnly hO5) (fun X e => by cases e; exact hbg)
      simp only [hNN.1]
      have hNm := hNN.2
      clear hC3 hC4 h3 h4 hb4 hz hO5 hNN
      go_wp2_with fail
      refine (l6Vals_any g ao n cap f _ m cp gc gt gu gd NN w5 hn hC5 h5 (fun X e => by cases e; exact hbg) Ht.out hNm (by omega)).mono ?_
      rintro e w6 ⟨v, gk, gn, gs, rfl, hV⟩
      obtain ⟨a1, c1, rfl, hvv, hsome⟩ := vview_of_own hV.own
      obtain ⟨b2, rfl, hb2⟩ := hsome hV.some
      have HV : Hid (AnyVals w g ao n cap f b2 NN c1 gk gn gs w6) := by
        refine ⟨Nat.le_trans hB5.size hb2, by omega, fun i hi => ?_, hvv, hV.cur, hB5.trans hV.but⟩
        have hf := hV.fit i hi
        unfold fitsP at hf
        simp only [Bool.and_eq_true] at hf
        have := okF_few hf.1
        omega
      clear hV hvv hsome h5 hC5
      go_wp2
      go_ret
      exact ⟨b2, NN, c1, gk, gn, gs, rfl, HV.out⟩

/-- A plan and two lists of values. -/
structure DrewLess (w' : World) (a a1 a2 : Option Addr) (m cp M c1 M' c2 : Nat) (gc gt : Nat → Int) (gu gd : Nat → Bool) (fk fn : Nat → Int) (fs : Nat → ByteArray) (fk' fn' : Nat → Int) (fs' : Nat → ByteArray) : Prop where
  few : m ≤ 7 ∧ M ≤ 7 ∧ M' ≤ 7
  short : ∀ i, i < M → (fs i).size ≤ 40
  plan : PView w' a m cp gc gt gu gd
  vals : VView w' a1 M c1 fk fn fs
  vals' : VView w' a2 M' c2 fk' fn' fs'

set_option maxHeartbeats 4000000 in
theorem drawLessKey_any (ao : Option Addr) (n cap : Nat) (f : Nat → Int) (w : World) (hn : n ≤ 1048576) (hv : View w ao n cap f) :
    Calls Try.prog 37 #[.slice ao n cap] w fun e w' => (∃ a a1 a2 m cp M c1 M' c2 gc gt gu gd fk fn fs fk' fn' fs', e = .returned (.tuple #[.slice a m cp, .slice a1 M c1, .slice a2 M' c2]) ∧ DrewLess w' a a1 a2 m cp M c1 M' c2 gc gt gu gd fk fn fs fk' fn' fs') ∧ Below w.heap.size w w' := by
  obtain ⟨A, hA⟩ : ∃ A, A = w.heap.size := ⟨_, rfl⟩
  have HA : Hid (A = w.heap.size) := hA
  go_enter Try.func37, Try.ntmps37
  go_wp2_with fail
  refine (l1New_at A ao n cap f w hA hn hv).mono ?_
  rintro e w1 ⟨rfl, hC1, hb1⟩
  have hAl := hC1.lt
  clear hA hv
  go_wp2_with fail
  refine (l6Any_any A ao n cap f w1 hn hC1).mono ?_
  rintro e w2 ⟨b, m, cp, gc, gt, gu, gd, rfl, hP⟩
  have hbA : b ≠ A := by have := hP.new; omega
  have hm1 := hP.pos
  have hm7 := hP.few
  have hpv := hP.view
  have hC2 := hP.cur
  have hB2 := hP.but
  have hs2 : A < w2.heap.size := Nat.lt_of_lt_of_le hAl hB2.size
  clear hP hC1
  go_wp2_with fail
  refine (l6Tuple_any A ao n cap f b m cp gc gt gu gd w2 hn hC2 hpv hbA hm1 hm7).mono ?_
  rintro e w3 ⟨b1, M, c1, fk, fn, fs, rfl, hV⟩
  have hb1A : b1 ≠ A := by have := hV.new; omega
  have hM7 := hV.few
  have Hsh : Hid (∀ i, i < M → (fs i).size ≤ 40) := hV.short
  have hvv := hV.view
  have hC3 := hV.cur
  have hB3 := hB2.trans hV.but
  have hpv3 := hpv.but hV.but (fun X e => by cases e; exact hbA)
  clear hV hC2 hB2 hpv
  go_wp2_with fail
  refine (l6Tuple_any A ao n cap f b m cp gc gt gu gd w3 hn hC3 hpv3 hbA hm1 hm7).mono ?_
  rintro e w4 ⟨b2, M', c2, fk', fn', fs', rfl, hV⟩
  have HD : Hid (DrewLess w4 (some ⟨b, 0, none⟩) (some ⟨b1, 0, none⟩) (some ⟨b2, 0, none⟩) m cp M c1 M' c2 gc gt gu gd fk fn fs fk' fn' fs') := ⟨⟨hm7, hM7, hV.few⟩, Hsh.out, hpv3.but hV.but (fun X e => by cases e; exact hbA), hvv.but hV.but (fun X e => by cases e; exact hb1A), hV.view⟩
  have HB : Hid (Below w.heap.size w w4) := hb1.trans ((hB3.trans hV.but).below (by rw [HA.out]; exact Nat.le_refl _) hb1.size)
  clear hV hvv hC3 hB3 hpv3
  go_wp2
  exact bodyPost_ret (v := .tuple #[_, _, _]) (by simp [results, Try.results37, go_sem]) rfl ⟨⟨_, _, _, m, cp, M, c1, M', c2, gc, gt, gu, gd, fk, fn, fs, fk', fn', fs', rfl, HD.out⟩, HB.out⟩
end Go.Proofs.Ytclegljalndaeac

/-
  What a round of a loop over an iterator keeps: all that lay at the start of the call, and the two boxes that the iterator holds.
-/
namespace Go.Proofs.Ytclegljalndaeac
open Go.RowKit
set_option maxRecDepth 4000

/-- What a round that goes on keeps. -/
structure KpB (n₀ Bl Bv : Nat) (W W' : World) : Prop where
  below : Below n₀ W W'
  bl : W'.heap[Bl]? = W.heap[Bl]?
  bv : W'.heap[Bv]? = W.heap[Bv]?
theorem KpB.refl (n₀ Bl Bv : Nat) (W : World) : KpB n₀ Bl Bv W W := ⟨Below.refl _ _, rfl, rfl⟩
theorem KpB.trans {n₀ Bl Bv : Nat} {A B C : World} (h : KpB n₀ Bl Bv A B) (k : KpB n₀ Bl Bv B C) : KpB n₀ Bl Bv A C := ⟨h.below.trans k.below, k.bl.trans h.bl, k.bv.trans h.bv⟩
/-- Whatever leaves all that lay as it lay. -/
theorem KpB.ofBelow {n₀ Bl Bv : Nat} {W W' : World} (h : Below W.heap.size W W') (hn : n₀ ≤ W.heap.size) (hl : Bl < W.heap.size) (hv : Bv < W.heap.size) : KpB n₀ Bl Bv W W' := ⟨h.mono hn, h.block Bl hl, h.block Bv hv⟩
/-- A step that turns one block. -/
theorem KpB.ofGrown {n₀ Bl Bv : Nat} {W W' : World} {row : Option Nat} (hg : W.grownBy W' row) (hn : n₀ ≤ W.heap.size) (hl : Bl < W.heap.size) (hv : Bv < W.heap.size) (hr : ∀ k, row = some k → n₀ ≤ k ∧ k ≠ Bl ∧ k ≠ Bv) : KpB n₀ Bl Bv W W' :=
  ⟨⟨hg.os, hg.tape, hg.output, hg.size, fun k hk => hg.block k (by omega) (fun e => by have := (hr k e.symm).1; omega)⟩, hg.block Bl hl (fun e => (hr Bl e.symm).2.1 rfl), hg.block Bv hv (fun e => (hr Bv e.symm).2.2 rfl)⟩
theorem KpB.put {n₀ Bl Bv : Nat} {w : World} (hn : n₀ ≤ w.heap.size) (hl : Bl < w.heap.size) (hv : Bv < w.heap.size) (W : World) (l : Nat) (o o' : Obj) (hle : w.heap.size ≤ l) (h : W.heap[l]? = some o) (h1 : o.isCells = false) (h2 : o.isWalk = false) : KpB n₀ Bl Bv W (W.putObj l o') :=
  ⟨belowK_b hn W l o o' hle h h1 h2, World.putObj_heap_other (by omega), World.putObj_heap_other (by omega)⟩
theorem Boxed.kpl {n₀ Bl Bv : Nat} {W W' : World} {t : TypeId} {v : Value} (h : Boxed W Bl t v) (k : KpB n₀ Bl Bv W W') : Boxed W' Bl t v := k.bl.trans h
theorem Boxed.kpv {n₀ Bl Bv : Nat} {W W' : World} {t : TypeId} {v : Value} (h : Boxed W Bv t v) (k : KpB n₀ Bl Bv W W') : Boxed W' Bv t v := k.bv.trans h
theorem Boxed.below' {W W' : World} {B : Nat} {t : TypeId} {v : Value} (h : Boxed W B t v) (k : Below W.heap.size W W') : Boxed W' B t v := (k.block B h.lt).trans h
theorem grownBy_drew' (W : World) : W.grownBy W.drew none := ⟨rfl, rfl, rfl, Nat.le_refl _, fun _ _ _ => rfl⟩
theorem grownBy_below' {W W' : World} (h : Below W.heap.size W W') : W.grownBy W' none := ⟨h.os, h.tape, h.output, h.size, fun k hk _ => h.block k hk⟩
theorem AbidesFrom.step {β : Type} {B : Nat} {J : β → World → Prop} (h : AbidesFrom B J) {s : β} {W W' : World} (hs : J s W) (hg : W.grownBy W' none) : J s W' := h s W W' none hs hg (fun _ e => by cases e)
/-- 'KeepsFrom' of whatever leaves all that lay as it lay. -/
theorem KeepsFrom.ofBelow {B : Nat} {W W' : World} (h : Below W.heap.size W W') : KeepsFrom B W W' := ⟨h.size, fun k _ _ hk _ => (h.block k (Array.getElem?_eq_some_iff.1 hk).1).trans hk⟩
/-- 'KpB .. w₀ ·' abides what the loop itself turns. -/
theorem ownFrom_kpB {β : Type} {n₀ Bl Bv B' : Nat} {w₀ : World} (hn : n₀ ≤ B') (hl : Bl < B') (hv : Bv < B') (hB : B' ≤ w₀.heap.size) : OwnFrom B' (fun (_ : β) W => KpB n₀ Bl Bv w₀ W) :=
  fun _ X Y row hs hg hr => by
    have hs0 := hs.below.size
    refine ⟨hs.below.trans ⟨hg.os, hg.tape, hg.output, hg.size, fun k hk => hg.block k (by omega) (fun e => by have := (hr k e.symm).1; omega)⟩, ?_, ?_⟩
    · exact (hg.block Bl (by omega) (fun e => by have := (hr Bl e.symm).1; omega)).trans hs.bl
    · exact (hg.block Bv (by omega) (fun e => by have := (hr Bv e.symm).1; omega)).trans hs.bv

/-- The first j of the indices. -/
theorem fin_take {k j : Nat} (h : j < k) : (List.finRange k).take (j + 1) = (List.finRange k).take j ++ [⟨j, h⟩] := by
  rw [List.take_add_one, List.getElem?_eq_getElem (by simpa using h)]
  simp
theorem fin_len {k j : Nat} (h : j ≤ k) : ((List.finRange k).take j).length = j := by simp [h]
end Go.Proofs.Ytclegljalndaeac

/-
  The program's valsByPart: each value beside its part.
-/
namespace Go.Proofs.Ytclegljalndaeac
open Go.RowKit
set_option maxRecDepth 4000

attribute [local go_sem] Oper.semAt_some

abbrev encP (fc ft : Nat → Int) (fu fd : Nat → Bool) (i : Nat) : Value := .agg #[.int .i64 (fc i), .int .i64 (ft i), .bool (fu i), .bool (fd i)]
abbrev encV (fk fn : Nat → Int) (fs : Nat → ByteArray) (i : Nat) : Value := .agg #[.int .i64 (fk i), .int .i64 (fn i), .string (fs i)]

set_option linter.unusedSimpArgs false in
set_option maxRecDepth 100000 in
set_option maxHeartbeats 4000000 in
theorem byPart1_in (N : Nat) (hN : 1 ≤ N) (l Bl Bv : Nat) (a : Option Addr) (n cap : Nat) (fc ft : Nat → Int) (fu fd : Nat → Bool) (a2 : Option Addr) (m c2 : Nat) (fk fn : Nat → Int) (fs : Nat → ByteArray) (w : World) (hp : PView w a n cap fc ft fu fd) (hq : VView w a2 m c2 fk fn fs) (hn : n ≤ 281474976710656) (hm : m ≤ 281474976710656)
    (K : Nat) (hK : K = min n m) (J Jx : List (Fin K) → World → Prop) (W : World) (hJ : AbidesFrom W.heap.size J)
    (hY : ∀ pre x W1, J pre W1 → pre.length < K → YieldAt Fence.wide (N - 1) Try.prog l #[encP fc ft fu fd x.1, encV fk fn fs x.1] W1 fun e W' =>
      (e = .returned (.bool true) ∧ J (pre ++ [x]) W' ∧ KpB w.heap.size Bl Bv W1 W') ∨ (e = .returned (.bool false) ∧ Jx (pre ++ [x]) W'))
    (hb : Below w.heap.size w W) (hl : Boxed W Bl 38 (.slice a n cap)) (hv : Boxed W Bv 39 (.slice a2 m c2)) (h0 : J [] W) :
    CallsIn Fence.wide N Try.prog 96 #[.func (.yield l) #[] #[], .pointer (some ⟨Bl, 0, none⟩), .pointer (some ⟨Bv, 0, none⟩)] W fun e W' => (∃ v, e = .returned v) ∧
      ((∃ xs, xs = List.finRange K ∧ J xs W') ∨ (∃ pre, pre <+: List.finRange K ∧ Jx pre W')) := by
  refine callsIn_of_wp Try.func96 rfl trivial ?_ rfl
  simp only [Try.ntmps96, List.size_toArray, List.length_cons, List.length_nil, Nat.reduceAdd, Nat.reduceSub, Array.replicate_succ, Array.replicate_zero, List.push_toArray, List.append_toArray, List.nil_append, List.cons_append]
  have cl := hl.cell
  have cv := hv.cell
  gi_wp2
  case inl =>
    rename_i hmn
    have hKm : m = K := by omega
    have hnK : n ≥ K := by omega
    clear hK
    subst hKm
    gi_loopw [10] (fun i wr => ∃ j : Nat, j ≤ m ∧ i = .int .i64 j ∧ J ((List.finRange m).take j) wr ∧ KpB w.heap.size Bl Bv W wr) (fun i _ => m - (intOf i).toNat)
    case atStart => exact ⟨0, Nat.zero_le _, rfl, h0, KpB.refl _ _ _ _⟩
    case round =>
      obtain ⟨j, hj, rfl, hJs, hk⟩ := hrel
      by_cases hlt : j < m
      · have hbw : Below w.heap.size w wr := hb.trans hk.below
        obtain ⟨b1, o1, rfl, hb1, hd1⟩ := (hp.below hbw).cells (by omega)
        obtain ⟨b2, o2, rfl, hb2, hd2⟩ := (hq.below hbw).cells (by omega)
        obtain ⟨x0, x1, x2, x3⟩ := hd1 j (by omega)
        obtain ⟨y0, y1, y2⟩ := hd2 j (by omega)
        have cl' := (Boxed.kpl hl hk).cell
        have cv' := (Boxed.kpv hv hk).cell
        have hjz : (j : Int) < (m : Int) := by omega
        have hjn : (j : Int) < (n : Int) := by omega
        obtain ⟨fn', tmps, assign, body, hy, hR⟩ := hY _ ⟨j, hlt⟩ wr.drew (AbidesFrom.step hJ hJs (grownBy_drew' _)) (by rw [fin_len hj]; exact hlt)
        dsimp only at hy
        clear hd1 hd2 cl cv
        gi_wp2
        have hmx : Try.prog.follows .mixedOrders = true := by kernel_rfl
        replace hR := hR.mono (R' := fun e W' => ∃ o, e = .returned (.bool o) ∧ Hid ((o = true ∧ J ((List.finRange m).take (j + 1)) W' ∧ KpB w.heap.size Bl Bv wr W') ∨ (o = false ∧ Jx ((List.finRange m).take (j + 1)) W'))) (by
          rw [fin_take hlt]
          rintro e W' (⟨rfl, h1, h2⟩ | ⟨rfl, h1⟩)
          · exact ⟨true, rfl, .inl ⟨rfl, h1, (KpB.ofBelow (Below.refl _ _).drew (by have := hbw.size; exact this) (Boxed.kpl hl hk).lt (Boxed.kpv hv hk).lt).trans h2⟩⟩
          · exact ⟨false, rfl, .inr ⟨rfl, h1⟩⟩)
        gi_region_with_o (refine hR.mono ?_; rintro e W3 ⟨o, rfl, ho⟩)
        all_goals
          clear x0 x1 x2 x3 y0 y1 y2 cl' cv' hy hR
          rcases ho.out with ⟨rfl, hJ3, hk3⟩ | ⟨rfl, hJx3⟩
          · gi_wp2
            go_roundw
            case rel => exact ⟨j + 1, by omega, by go_num, hJ3, hk.trans hk3⟩
            case measure => simp [intOf]; omega
          · gi_wp2
            refine bodyPost_ret (results_none rfl _ _ _) rfl ?_
            exact ⟨⟨_, rfl⟩, .inr ⟨_, List.take_prefix _ _, hJx3⟩⟩
      · have hjz : ¬ (j : Int) < (m : Int) := by omega
        have hjK : j = m := by omega
        have hJe : Hid (J (List.finRange m) wr) := by
          show J _ wr
          have e : (List.finRange m).take j = List.finRange m := List.take_of_length_le (by simp; omega)
          rw [← e]; exact hJs
        clear hJs
        gi_wp2
        go_end0
        exact ⟨⟨_, rfl⟩, .inl hJe.out⟩
  case inr =>
    rename_i hmn
    have hKm : n = K := by omega
    have hnK : m ≥ K := by omega
    clear hK
    subst hKm
    gi_loopw [10] (fun i wr => ∃ j : Nat, j ≤ n ∧ i = .int .i64 j ∧ J ((List.finRange n).take j) wr ∧ KpB w.heap.size Bl Bv W wr) (fun i _ => n - (intOf i).toNat)
    case atStart => exact ⟨0, Nat.zero_le _, rfl, h0, KpB.refl _ _ _ _⟩
    case round =>
      obtain ⟨j, hj, rfl, hJs, hk⟩ := hrel
      by_cases hlt : j < n
      · have hbw : Below w.heap.size w wr := hb.trans hk.below
        obtain ⟨b1, o1, rfl, hb1, hd1⟩ := (hp.below hbw).cells (by omega)
        obtain ⟨b2, o2, rfl, hb2, hd2⟩ := (hq.below hbw).cells (by omega)
        obtain ⟨x0, x1, x2, x3⟩ := hd1 j (by omega)
        obtain ⟨y0, y1, y2⟩ := hd2 j (by omega)
        have cl' := (Boxed.kpl hl hk).cell
        have cv' := (Boxed.kpv hv hk).cell
        have hjz : (j : Int) < (n : Int) := by omega
        have hjn : (j : Int) < (m : Int) := by omega
        obtain ⟨fn', tmps, assign, body, hy, hR⟩ := hY _ ⟨j, hlt⟩ wr.drew (AbidesFrom.step hJ hJs (grownBy_drew' _)) (by rw [fin_len hj]; exact hlt)
        dsimp only at hy
        clear hd1 hd2 cl cv
        gi_wp2
        have hmx : Try.prog.follows .mixedOrders = true := by kernel_rfl
        replace hR := hR.mono (R' := fun e W' => ∃ o, e = .returned (.bool o) ∧ Hid ((o = true ∧ J ((List.finRange n).take (j + 1)) W' ∧ KpB w.heap.size Bl Bv wr W') ∨ (o = false ∧ Jx ((List.finRange n).take (j + 1)) W'))) (by
          rw [fin_take hlt]
          rintro e W' (⟨rfl, h1, h2⟩ | ⟨rfl, h1⟩)
          · exact ⟨true, rfl, .inl ⟨rfl, h1, (KpB.ofBelow (Below.refl _ _).drew (by have := hbw.size; exact this) (Boxed.kpl hl hk).lt (Boxed.kpv hv hk).lt).trans h2⟩⟩
          · exact ⟨false, rfl, .inr ⟨rfl, h1⟩⟩)
        gi_region_with_o (refine hR.mono ?_; rintro e W3 ⟨o, rfl, ho⟩)
        all_goals
          clear x0 x1 x2 x3 y0 y1 y2 cl' cv' hy hR
          rcases ho.out with ⟨rfl, hJ3, hk3⟩ | ⟨rfl, hJx3⟩
          · gi_wp2
            go_roundw
            case rel => exact ⟨j + 1, by omega, by go_num, hJ3, hk.trans hk3⟩
            case measure => simp [intOf]; omega
          · gi_wp2
            refine bodyPost_ret (results_none rfl _ _ _) rfl ?_
            exact ⟨⟨_, rfl⟩, .inr ⟨_, List.take_prefix _ _, hJx3⟩⟩
      · have hjz : ¬ (j : Int) < (n : Int) := by omega
        have hjK : j = n := by omega
        have hJe : Hid (J (List.finRange n) wr) := by
          show J _ wr
          have e : (List.finRange n).take j = List.finRange n := List.take_of_length_le (by simp; omega)
          rw [← e]; exact hJs
        clear hJs
        gi_wp2
        go_end0
        exact ⟨⟨_, rfl⟩, .inl hJe.out⟩

theorem byPart_stops (N : Nat) (hN : 1 ≤ N) (Bl Bv : Nat) (a : Option Addr) (n cap : Nat) (fc ft : Nat → Int) (fu fd : Nat → Bool) (a2 : Option Addr) (m c2 : Nat) (fk fn : Nat → Int) (fs : Nat → ByteArray) (w : World) (hp : PView w a n cap fc ft fu fd) (hq : VView w a2 m c2 fk fn fs) (hn : n ≤ 281474976710656) (hm : m ≤ 281474976710656)
    (W0 : World) (hb : Below w.heap.size w W0) (hl : Boxed W0 Bl 38 (.slice a n cap)) (hv : Boxed W0 Bv 39 (.slice a2 m c2)) :
    SeqStopsK Fence.wide N Try.prog 96 #[.pointer (some ⟨Bl, 0, none⟩), .pointer (some ⟨Bv, 0, none⟩)] (fun x : Fin (min n m) => #[encP fc ft fu fd x.1, encV fk fn fs x.1]) (KpB w.heap.size Bl Bv) (fun xs => xs = List.finRange (min n m)) (fun pre => pre <+: List.finRange (min n m)) (min n m) W0 :=
  fun l J Jx W hW hJ _ hY h0 => byPart1_in N hN l Bl Bv a n cap fc ft fu fd a2 m c2 fk fn fs w hp hq hn hm (min n m) rfl J Jx W hJ hY (hb.trans (hW.mono hb.size)) (Boxed.below' hl hW) (Boxed.below' hv hW) h0

set_option maxHeartbeats 1000000 in
/-- valsByPart boxes its two arguments. -/
theorem valsByPart_in (N : Nat) (a : Option Addr) (n cap : Nat) (a2 : Option Addr) (m c2 : Nat) (w : World) :
    CallsIn Fence.wide N Try.prog 61 #[.slice a n cap, .slice a2 m c2] w fun e w' => e = .returned (.func (.func 96) #[] #[.pointer (some ⟨w.heap.size, 0, none⟩), .pointer (some ⟨w.heap.size + 1, 0, none⟩)]) ∧ w' = (w.alloc (.cells #[.slice a n cap] 38)).alloc (.cells #[.slice a2 m c2] 39) := by
  refine callsIn_of_wp Try.func61 rfl trivial ?_ rfl
  simp only [Try.ntmps61, List.size_toArray, List.length_cons, List.length_nil, Nat.reduceAdd, Nat.reduceSub, Array.replicate_succ, Array.replicate_zero, List.push_toArray, List.append_toArray, List.nil_append, List.cons_append]
  gi_wp2
  go_ret
  exact ⟨rfl, rfl⟩
end Go.Proofs.Ytclegljalndaeac

/-
  Parts and values in boxes of a round, and what the loop itself turns.
-/
namespace Go.Proofs.Ytclegljalndaeac
open Go.RowKit
set_option maxRecDepth 4000

theorem PBox.ownK {W W' : World} {row : Option Nat} {B : Nat} {c t : Int} {nul d : Bool} (h : PBox W B c t nul d) (hg : W.grownBy W' row) (hr : ∀ r, row = some r → ∃ o : Obj, W.heap[r]? = some o ∧ o.isCells = false) : PBox W' B c t nul d := by
  obtain ⟨o, ho, hc⟩ := cells_of_cell h.cells.1
  exact h.of_block (grownBy_keeps_cells hg hr ho hc)
theorem Box.ownK {W W' : World} {row : Option Nat} {B : Nat} {k n : Int} {s : ByteArray} (h : Box W B k n s) (hg : W.grownBy W' row) (hr : ∀ r, row = some r → ∃ o : Obj, W.heap[r]? = some o ∧ o.isCells = false) : Box W' B k n s := by
  obtain ⟨o, ho, hc⟩ := cells_of_cell h.cells.1
  exact h.of_block (grownBy_keeps_cells hg hr ho hc)
theorem Boxed.ownK {W W' : World} {row : Option Nat} {B : Nat} {t : TypeId} {v : Value} (h : Boxed W B t v) (hg : W.grownBy W' row) (hr : ∀ r, row = some r → ∃ o : Obj, W.heap[r]? = some o ∧ o.isCells = false) : Boxed W' B t v := by
  obtain ⟨o, ho, hc⟩ := cells_of_cell h.cell
  exact (grownBy_keeps_cells hg hr ho hc).trans h
theorem Below.put' {n₀ : Nat} {w₀ W : World} {D : Nat} {o o' : Obj} (h : Below n₀ w₀ W) (hn : n₀ ≤ D) (hK : W.heap[D]? = some o) : Below n₀ w₀ (W.putObj D o') :=
  h.trans ((Below.refl n₀ W).grown (grownBy_putObj' W D o') (by have := (Array.getElem?_eq_some_iff.1 hK).1; omega) (fun k e => by cases e; omega))
end Go.Proofs.Ytclegljalndaeac

