/-
  Together: PView, VView, SameImpl, SameSpec, KeyLessSpec, PartHelp, PartRowCopy, PartRowEq, Vals, ValHelp, RowSize
-/
import Derived.Test.YtclegljalndaearPack1
import Derived.Test.YtclegljalndaearPack3
import Derived.Test.YtclegljalndaearPack2
import Derived.Test.YtclegljalndaearPack4
import Derived.Deep.LoopGhost
import Derived.Deep.RegionHeld3
import Derived.Deep.Strs
/-
  A slice of parts that reads, by functions of the index, and how that is carried from one world to the next.
-/
namespace Go.Proofs.Ytclegljalndaear
open Go.RowKit
set_option maxRecDepth 4000

/-- The slice value '.slice ao n cap' reads, in the world w, as n parts. -/
structure PView (w : World) (ao : Option Addr) (n cap : Nat) (fc ft : Nat → Int) (fu fd : Nat → Bool) : Prop where
  le : n ≤ cap
  cells : 0 < n → ∃ b off, ao = some ⟨b, off, none⟩ ∧ b < w.heap.size ∧ ∀ i, i < n → w.cell? ⟨b, off + i * 4, none⟩ = some (.int .i64 (fc i)) ∧ w.cell? ⟨b, off + i * 4 + 1, none⟩ = some (.int .i64 (ft i)) ∧ w.cell? ⟨b, off + i * 4 + 2, none⟩ = some (.bool (fu i)) ∧ w.cell? ⟨b, off + i * 4 + 3, none⟩ = some (.bool (fd i))

theorem PView.below {w w' : World} {ao : Option Addr} {n cap : Nat} {fc ft : Nat → Int} {fu fd : Nat → Bool} (h : PView w ao n cap fc ft fu fd) (hb : Below w.heap.size w w') : PView w' ao n cap fc ft fu fd := by
  refine ⟨h.le, fun hn => ?_⟩
  obtain ⟨b, off, e, hlt, hc⟩ := h.cells hn
  refine ⟨b, off, e, Nat.lt_of_lt_of_le hlt hb.size, fun i hi => ?_⟩
  rw [hb.cell (p := ⟨b, off + i * 4, none⟩) hlt, hb.cell (p := ⟨b, off + i * 4 + 1, none⟩) hlt, hb.cell (p := ⟨b, off + i * 4 + 2, none⟩) hlt, hb.cell (p := ⟨b, off + i * 4 + 3, none⟩) hlt]
  exact hc i hi
end Go.Proofs.Ytclegljalndaear

/-
  A slice of values that reads, by a function of the index, and how that is carried from one world to the next.
-/
namespace Go.Proofs.Ytclegljalndaear
open Go.RowKit
set_option maxRecDepth 4000

/-- The slice value '.slice ao n cap' reads, in the world w, as the n values f 0 up to f (n - 1). -/
structure VView (w : World) (ao : Option Addr) (n cap : Nat) (fk fn : Nat → Int) (fs : Nat → ByteArray) : Prop where
  le : n ≤ cap
  cells : 0 < n → ∃ b off, ao = some ⟨b, off, none⟩ ∧ b < w.heap.size ∧ ∀ i, i < n → w.cell? ⟨b, off + i * 3, none⟩ = some (.int .i64 (fk i)) ∧ w.cell? ⟨b, off + i * 3 + 1, none⟩ = some (.int .i64 (fn i)) ∧ w.cell? ⟨b, off + i * 3 + 2, none⟩ = some (.string (fs i))

theorem VView.below {w w' : World} {ao : Option Addr} {n cap : Nat} {fk fn : Nat → Int} {fs : Nat → ByteArray} (h : VView w ao n cap fk fn fs) (hb : Below w.heap.size w w') : VView w' ao n cap fk fn fs := by
  refine ⟨h.le, fun hn => ?_⟩
  obtain ⟨b, off, e, hlt, hc⟩ := h.cells hn
  refine ⟨b, off, e, Nat.lt_of_lt_of_le hlt hb.size, fun i hi => ?_⟩
  rw [hb.cell (p := ⟨b, off + i * 3, none⟩) hlt, hb.cell (p := ⟨b, off + i * 3 + 1, none⟩) hlt, hb.cell (p := ⟨b, off + i * 3 + 2, none⟩) hlt]
  exact hc i hi

end Go.Proofs.Ytclegljalndaear

/-
  The program's SameVal: whether two values are alike.
-/
namespace Go.Proofs.Ytclegljalndaear
open Go.RowKit
set_option maxRecDepth 4000

set_option maxHeartbeats 1000000 in
theorem sameVal_impl (k n : Int) (s : ByteArray) (k' n' : Int) (s' : ByteArray) (w : World) :
    Calls Try.prog 51 #[.agg #[.int .i64 k, .int .i64 n, .string s], .agg #[.int .i64 k', .int .i64 n', .string s']] w fun e w' => e = .returned (.bool (eqV k n s k' n' s')) ∧ Below w.heap.size w w' := by
  have q := eqVal_run k n s k' n' s'
  go_enter Try.func51, Try.ntmps51
  go_wp2
  go_ret
  refine ⟨rfl, ?_⟩
  repeat (first | exact Below.refl _ _ | refine Below.alloc ?_ (by simp <;> omega) _ | refine Below.drew ?_)

end Go.Proofs.Ytclegljalndaear

/-
  The model's SameVal.
-/
namespace Go.Proofs.Ytclegljalndaear
open Go.RowKit
set_option maxRecDepth 4000

set_option maxHeartbeats 1000000 in
theorem sameVal_spec (k n : Int) (s : ByteArray) (k' n' : Int) (s' : ByteArray) (w : World) :
    Calls Try.prog 49 #[.agg #[.int .i64 k, .int .i64 n, .string s], .agg #[.int .i64 k', .int .i64 n', .string s']] w fun e w' => e = .returned (.bool (eqV k n s k' n' s')) ∧ Below w.heap.size w w' := by
  have q := eqVal_run k n s k' n' s'
  go_enter Try.func49, Try.ntmps49
  go_wp2
  go_ret
  refine ⟨rfl, ?_⟩
  repeat (first | exact Below.refl _ _ | refine Below.alloc ?_ (by simp <;> omega) _ | refine Below.drew ?_)
end Go.Proofs.Ytclegljalndaear

/-
  The model's LessKey comes to the plain one.
-/
namespace Go.Proofs.Ytclegljalndaear
open Go.RowKit
set_option maxRecDepth 4000

set_option linter.unusedSimpArgs false in
set_option maxHeartbeats 4000000 in
theorem specLessKey_any (a : Option Addr) (n cap : Nat) (fc ft : Nat → Int) (fu fd : Nat → Bool) (a1 : Option Addr) (m c1 : Nat) (fk fn : Nat → Int) (fs : Nat → ByteArray) (a2 : Option Addr) (m' c2 : Nat) (fk' fn' : Nat → Int) (fs' : Nat → ByteArray) (w : World) (h : PView w a n cap fc ft fu fd) (h1 : VView w a1 m c1 fk fn fs) (h2 : VView w a2 m' c2 fk' fn' fs') (hn : n ≤ 281474976710656) (hm : m ≤ 281474976710656) (hm' : m' ≤ 281474976710656) :
    Calls Try.prog 30 #[.slice a n cap, .slice a1 m c1, .slice a2 m' c2] w fun e w' => e = .returned (.bool (lessK n fd m fk fn fs m' fk' fn' fs')) ∧ Below w.heap.size w w' := by
  go_enter Try.func30, Try.ntmps30
  go_wp2
  go_loopg [7] m (fun q i wr => ∃ k : Nat, k ≤ m ∧ k ≤ m' ∧ q = m - k ∧ i = .int .i64 k ∧ Below w.heap.size w wr ∧ ∀ j, j < k → sameAt fk fn fs fk' fn' fs' j = true)
  case atStart => exact ⟨0, Nat.zero_le _, Nat.zero_le _, rfl, rfl, Below.refl _ _, fun j hj => absurd hj (Nat.not_lt_zero _)⟩
  case round =>
    obtain ⟨k, hk, hk', rfl, rfl, hB, hall⟩ := hrel
    have HA : Hid (∀ j, j < k → sameAt fk fn fs fk' fn' fs' j = true) := hall
    clear hall
    by_cases hlt : k < m
    · have hkz : (k : Int) < (m : Int) := by omega
      by_cases hlt' : k < m'
      · have hkz' : (k : Int) < (m' : Int) := by omega
        obtain ⟨b1, o1, rfl, hb1, hd1⟩ := (h1.below hB).cells (by omega)
        obtain ⟨b2, o2, rfl, hb2, hd2⟩ := (h2.below hB).cells (by omega)
        obtain ⟨x0, x1, x2⟩ := hd1 k hlt
        obtain ⟨y0, y1, y2⟩ := hd2 k hlt'
        obtain ⟨o, ho⟩ : ∃ o, Hid (sameAt fk fn fs fk' fn' fs' k = o) := ⟨_, rfl⟩
        have hS := fun W => sameVal_spec (fk k) (fn k) (fs k) (fk' k) (fn' k) (fs' k) W
        have ho' : eqV (fk k) (fn k) (fs k) (fk' k) (fn' k) (fs' k) = o := ho.out
        rw [ho'] at hS
        have HO : Hid (o = false → lessK n fd m fk fn fs m' fk' fn' fs' = (decide (k < n) && lessP (fd k) (fk k) (fn k) (fs k) (fk' k) (fn' k) (fs' k))) := by
          intro e
          exact lessK_at hlt hlt' (ho.out.trans e) HA.out
        have HN : Hid (o = true → ∀ j, j < k + 1 → sameAt fk fn fs fk' fn' fs' j = true) := by
          intro e j hj
          by_cases ej : j < k
          · exact HA.out j ej
          · obtain rfl : j = k := by omega
            rw [ho.out, e]
        have hP := fun W => specLessPart_any (fc k) (ft k) (fu k) (fd k) (fk k) (fn k) (fs k) (fk' k) (fn' k) (fs' k) W
        have hpl : Hid (k < n → ∃ b0 o0, a = some ⟨b0, o0, none⟩ ∧ b0 < wr.heap.size ∧ wr.cell? ⟨b0, o0 + k * 4, none⟩ = some (.int .i64 (fc k)) ∧ wr.cell? ⟨b0, o0 + k * 4 + 1, none⟩ = some (.int .i64 (ft k)) ∧ wr.cell? ⟨b0, o0 + k * 4 + 2, none⟩ = some (.bool (fu k)) ∧ wr.cell? ⟨b0, o0 + k * 4 + 3, none⟩ = some (.bool (fd k))) := by
          intro e
          obtain ⟨b0, o0, e0, hb0, hd0⟩ := (h.below hB).cells (by omega)
          exact ⟨b0, o0, e0, hb0, hd0 k e⟩
        clear hd1 hd2 h h1 h2 ho ho' HA
        obtain ⟨p0, hp0⟩ : ∃ p, Hid (fc k = p) := ⟨_, rfl⟩
        obtain ⟨p1, hp1⟩ : ∃ p, Hid (ft k = p) := ⟨_, rfl⟩
        obtain ⟨p2, hp2⟩ : ∃ p, Hid (fu k = p) := ⟨_, rfl⟩
        obtain ⟨p3, hp3⟩ : ∃ p, Hid (fd k = p) := ⟨_, rfl⟩
        obtain ⟨q0, hq0⟩ : ∃ p, Hid (fk k = p) := ⟨_, rfl⟩
        obtain ⟨q1, hq1⟩ : ∃ p, Hid (fn k = p) := ⟨_, rfl⟩
        obtain ⟨q2, hq2⟩ : ∃ p, Hid (fs k = p) := ⟨_, rfl⟩
        obtain ⟨r0, hr0⟩ : ∃ p, Hid (fk' k = p) := ⟨_, rfl⟩
        obtain ⟨r1, hr1⟩ : ∃ p, Hid (fn' k = p) := ⟨_, rfl⟩
        obtain ⟨r2, hr2⟩ : ∃ p, Hid (fs' k = p) := ⟨_, rfl⟩
        rw [hp0.out, hp1.out, hp2.out, hp3.out] at hpl
        rw [hp0.out, hp1.out, hp2.out, hp3.out, hq0.out, hq1.out, hq2.out, hr0.out, hr1.out, hr2.out] at hP
        rw [hq0.out, hq1.out, hq2.out, hr0.out, hr1.out, hr2.out] at hS
        rw [hp3.out, hq0.out, hq1.out, hq2.out, hr0.out, hr1.out, hr2.out] at HO
        rw [hq0.out] at x0
        rw [hq1.out] at x1
        rw [hq2.out] at x2
        rw [hr0.out] at y0
        rw [hr1.out] at y1
        rw [hr2.out] at y2
        go_wp2_with fail
        refine wp_region_held_drew (S := fun W => (W.cell? ⟨b1, o1 + k * 3, none⟩ = some (.int .i64 q0) ∧ W.cell? ⟨b1, o1 + k * 3 + 1, none⟩ = some (.int .i64 q1) ∧ W.cell? ⟨b1, o1 + k * 3 + 2, none⟩ = some (.string q2)) ∧ (W.cell? ⟨b2, o2 + k * 3, none⟩ = some (.int .i64 r0) ∧ W.cell? ⟨b2, o2 + k * 3 + 1, none⟩ = some (.int .i64 r1) ∧ W.cell? ⟨b2, o2 + k * 3 + 2, none⟩ = some (.string r2))) (by kernel_rfl) (⟨⟨x0, x1, x2⟩, y0, y1, y2⟩) (fun hHeld => ?_)
        refine' wpAnyH_take (i := 0) (v := _) rfl (by kernel_rfl) (by kernel_rfl) (by kernel_rfl) (fun _ _ _ h => h) (Or.inl ⟨by kernel_rfl, ?ha0⟩) (by assumption) ?ra0
        case ha0 => intro W hW; obtain ⟨⟨d0, d1, d2⟩, g0, g1, g2⟩ := hW; go_simp; all_goals with_reducible rfl
        change wpAnyH _ _ _ _ _ _ _ (Act.put _ (some 20) _) _
        simp only [Act.put, List.setIfInBounds_toArray, List.set_cons_zero, List.set_cons_succ]
        refine' wpAnyH_take (i := 1) (v := _) rfl (by kernel_rfl) (by kernel_rfl) (by kernel_rfl) (fun _ _ _ h => h) (Or.inl ⟨by kernel_rfl, ?ha1⟩) (by assumption) ?ra1
        case ha1 => intro W hW; obtain ⟨⟨d0, d1, d2⟩, g0, g1, g2⟩ := hW; go_simp; all_goals with_reducible rfl
        change wpAnyH _ _ _ _ _ _ _ (Act.put _ (some 21) _) _
        simp only [Act.put, List.setIfInBounds_toArray, List.set_cons_zero, List.set_cons_succ]
        refine' wpAnyH_take (i := 2) (v := _) rfl (by kernel_rfl) (by kernel_rfl) (by kernel_rfl) (fun _ _ _ h => h) (Or.inl ⟨by kernel_rfl, ?ha2⟩) (by assumption) ?ra2
        case ha2 => intro W hW; obtain ⟨⟨d0, d1, d2⟩, g0, g1, g2⟩ := hW; go_simp; all_goals with_reducible rfl
        change wpAnyH _ _ _ _ _ _ _ (Act.put _ (some 22) _) _
        simp only [Act.put, List.setIfInBounds_toArray, List.set_cons_zero, List.set_cons_succ]
        refine' wpAnyH_take (i := 3) (v := _) rfl (by kernel_rfl) (by kernel_rfl) (by kernel_rfl) (fun _ _ _ h => h) (Or.inl ⟨by kernel_rfl, ?ha3⟩) (by assumption) ?ra3
        case ha3 => intro W hW; obtain ⟨⟨d0, d1, d2⟩, g0, g1, g2⟩ := hW; go_simp; all_goals with_reducible rfl
        change wpAnyH _ _ _ _ _ _ _ (Act.put _ (some 23) _) _
        simp only [Act.put, List.setIfInBounds_toArray, List.set_cons_zero, List.set_cons_succ]
        refine' wpAnyH_take (i := 4) (v := _) rfl (by kernel_rfl) (by kernel_rfl) (by kernel_rfl) (fun _ _ _ h => h) (Or.inl ⟨by kernel_rfl, ?ha4⟩) (by assumption) ?ra4
        case ha4 => intro W hW; obtain ⟨⟨d0, d1, d2⟩, g0, g1, g2⟩ := hW; go_simp; all_goals with_reducible rfl
        change wpAnyH _ _ _ _ _ _ _ (Act.put _ (some 24) _) _
        simp only [Act.put, List.setIfInBounds_toArray, List.set_cons_zero, List.set_cons_succ]
        refine' wpAnyH_take (i := 5) (v := _) rfl (by kernel_rfl) (by kernel_rfl) (by kernel_rfl) (fun _ _ _ h => h) (Or.inl ⟨by kernel_rfl, ?ha5⟩) (by assumption) ?ra5
        case ha5 => intro W hW; obtain ⟨⟨d0, d1, d2⟩, g0, g1, g2⟩ := hW; go_simp; all_goals with_reducible rfl
        change wpAnyH _ _ _ _ _ _ _ (Act.put _ (some 25) _) _
        simp only [Act.put, List.setIfInBounds_toArray, List.set_cons_zero, List.set_cons_succ]
        refine' wpAnyH_take (i := 6) (v := _) rfl (by kernel_rfl) (by kernel_rfl) (by kernel_rfl) (fun _ _ _ h => h) (Or.inl ⟨by kernel_rfl, ?ha6⟩) (by assumption) ?ra6
        case ha6 => intro W hW; obtain ⟨⟨d0, d1, d2⟩, g0, g1, g2⟩ := hW; go_simp; all_goals with_reducible rfl
        change wpAnyH _ _ _ _ _ _ _ (Act.put _ (some 26) _) _
        simp only [Act.put, List.setIfInBounds_toArray, List.set_cons_zero, List.set_cons_succ]
        refine' wpAnyH_take (i := 7) (v := _) rfl (by kernel_rfl) (by kernel_rfl) (by kernel_rfl) (fun _ _ _ h => h) (Or.inl ⟨by kernel_rfl, ?ha7⟩) (by assumption) ?ra7
        case ha7 => intro W hW; obtain ⟨⟨d0, d1, d2⟩, g0, g1, g2⟩ := hW; go_simp; all_goals with_reducible rfl
        change wpAnyH _ _ _ _ _ _ _ (Act.put _ (some 27) _) _
        simp only [Act.put, List.setIfInBounds_toArray, List.set_cons_zero, List.set_cons_succ]
        refine wpAnyH_ready (rs := [8]) (by kernel_rfl) (by simp) ?_
        refine AllReadyH.cons rfl (fun KK hK => ?_) AllReadyH.nil
        go_simp
        refine (hS _).mono ?_
        rintro e w2 ⟨rfl, hB2⟩
        go_wp2_with fail
        refine hK.out _ _ ⟨⟨by rw [hB2.cell hb1]; exact x0, by rw [hB2.cell hb1]; exact x1, by rw [hB2.cell hb1]; exact x2⟩, by rw [hB2.cell hb2]; exact y0, by rw [hB2.cell hb2]; exact y1, by rw [hB2.cell hb2]; exact y2⟩ (fun hHeld => ?_)
        clear hK KK
        try simp only [Act.put, List.setIfInBounds_toArray, List.set_cons_zero, List.set_cons_succ]
        refine' wpAnyH_take (i := 9) (v := _) rfl (by kernel_rfl) (by kernel_rfl) (by kernel_rfl) (fun _ _ _ h => h) (Or.inl ⟨by kernel_rfl, ?ha9⟩) (by assumption) ?ra9
        case ha9 => intro W hW; obtain ⟨⟨d0, d1, d2⟩, g0, g1, g2⟩ := hW; go_simp; all_goals with_reducible rfl
        change wpAnyH _ _ _ _ _ _ _ (Act.put _ (some 29) _) _
        simp only [Act.put, List.setIfInBounds_toArray, List.set_cons_zero, List.set_cons_succ]
        refine wpAnyH_done (by kernel_rfl) ?_ _
        have hB3 : Hid (Below w.heap.size w w2) := hB.trans (Below.trans (Below.drew (Below.refl _ _)) (hB2.mono (by have := hB.size; exact this)))
        obtain ⟨⟨x0, x1, x2⟩, y0, y1, y2⟩ := hHeld
        replace hb1 : b1 < w2.heap.size := Nat.lt_of_lt_of_le hb1 hB2.size
        replace hb2 : b2 < w2.heap.size := Nat.lt_of_lt_of_le hb2 hB2.size
        clear hS
        cases o with
        | true =>
          go_wp2
          go_roundg (m - (k + 1))
          case measure => omega
          case rel => exact ⟨k + 1, by omega, by omega, rfl, by go_num, hB3.out, HN.out (by simp)⟩
        | false =>
          have HO2 : Hid (lessK n fd m fk fn fs m' fk' fn' fs' = (decide (k < n) && lessP p3 q0 q1 q2 r0 r1 r2)) := HO.out (by simp)
          clear HO HN
          by_cases hkn : k < n
          · have hkn' : (k : Int) < (n : Int) := by omega
            obtain ⟨b0, o0, rfl, hb0, t0, t1, t2, t3⟩ := hpl.out hkn
            have e0 : w2.cell? ⟨b0, o0 + k * 4, none⟩ = some (.int .i64 p0) := by rw [hB2.cell hb0]; exact t0
            have e1 : w2.cell? ⟨b0, o0 + k * 4 + 1, none⟩ = some (.int .i64 p1) := by rw [hB2.cell hb0]; exact t1
            have e2 : w2.cell? ⟨b0, o0 + k * 4 + 2, none⟩ = some (.bool p2) := by rw [hB2.cell hb0]; exact t2
            have e3 : w2.cell? ⟨b0, o0 + k * 4 + 3, none⟩ = some (.bool p3) := by rw [hB2.cell hb0]; exact t3
            replace hb0 : b0 < w2.heap.size := Nat.lt_of_lt_of_le hb0 hB2.size
            obtain ⟨z, hz⟩ : ∃ z, Hid (lessP p3 q0 q1 q2 r0 r1 r2 = z) := ⟨_, rfl⟩
            rw [hz.out] at hP HO2
            rw [decide_eq_true hkn, Bool.true_and] at HO2
            clear t0 t1 t2 t3 hpl hz
            go_wp2_with fail
            refine wp_region_held_drew (S := fun W => (W.cell? ⟨b0, o0 + k * 4, none⟩ = some (.int .i64 p0) ∧ W.cell? ⟨b0, o0 + k * 4 + 1, none⟩ = some (.int .i64 p1) ∧ W.cell? ⟨b0, o0 + k * 4 + 2, none⟩ = some (.bool p2) ∧ W.cell? ⟨b0, o0 + k * 4 + 3, none⟩ = some (.bool p3)) ∧ (W.cell? ⟨b1, o1 + k * 3, none⟩ = some (.int .i64 q0) ∧ W.cell? ⟨b1, o1 + k * 3 + 1, none⟩ = some (.int .i64 q1) ∧ W.cell? ⟨b1, o1 + k * 3 + 2, none⟩ = some (.string q2)) ∧ (W.cell? ⟨b2, o2 + k * 3, none⟩ = some (.int .i64 r0) ∧ W.cell? ⟨b2, o2 + k * 3 + 1, none⟩ = some (.int .i64 r1) ∧ W.cell? ⟨b2, o2 + k * 3 + 2, none⟩ = some (.string r2))) (by kernel_rfl) (⟨⟨e0, e1, e2, e3⟩, ⟨x0, x1, x2⟩, y0, y1, y2⟩) (fun hHeld => ?_)
            refine' wpAnyH_take (i := 0) (v := _) rfl (by kernel_rfl) (by kernel_rfl) (by kernel_rfl) (fun _ _ _ h => h) (Or.inl ⟨by kernel_rfl, ?hb0⟩) (by assumption) ?rb0
            case hb0 => intro W hW; obtain ⟨⟨a0, a1, a2, a3⟩, ⟨d0, d1, d2⟩, g0, g1, g2⟩ := hW; go_simp; all_goals with_reducible rfl
            change wpAnyH _ _ _ _ _ _ _ (Act.put _ (some 30) _) _
            simp only [Act.put, List.setIfInBounds_toArray, List.set_cons_zero, List.set_cons_succ]
            refine' wpAnyH_take (i := 1) (v := _) rfl (by kernel_rfl) (by kernel_rfl) (by kernel_rfl) (fun _ _ _ h => h) (Or.inl ⟨by kernel_rfl, ?hb1⟩) (by assumption) ?rb1
            case hb1 => intro W hW; obtain ⟨⟨a0, a1, a2, a3⟩, ⟨d0, d1, d2⟩, g0, g1, g2⟩ := hW; go_simp; all_goals with_reducible rfl
            change wpAnyH _ _ _ _ _ _ _ (Act.put _ (some 31) _) _
            simp only [Act.put, List.setIfInBounds_toArray, List.set_cons_zero, List.set_cons_succ]
            refine' wpAnyH_take (i := 2) (v := _) rfl (by kernel_rfl) (by kernel_rfl) (by kernel_rfl) (fun _ _ _ h => h) (Or.inl ⟨by kernel_rfl, ?hb2⟩) (by assumption) ?rb2
            case hb2 => intro W hW; obtain ⟨⟨a0, a1, a2, a3⟩, ⟨d0, d1, d2⟩, g0, g1, g2⟩ := hW; go_simp; all_goals with_reducible rfl
            change wpAnyH _ _ _ _ _ _ _ (Act.put _ (some 32) _) _
            simp only [Act.put, List.setIfInBounds_toArray, List.set_cons_zero, List.set_cons_succ]
            refine' wpAnyH_take (i := 3) (v := _) rfl (by kernel_rfl) (by kernel_rfl) (by kernel_rfl) (fun _ _ _ h => h) (Or.inl ⟨by kernel_rfl, ?hb3⟩) (by assumption) ?rb3
            case hb3 => intro W hW; obtain ⟨⟨a0, a1, a2, a3⟩, ⟨d0, d1, d2⟩, g0, g1, g2⟩ := hW; go_simp; all_goals with_reducible rfl
            change wpAnyH _ _ _ _ _ _ _ (Act.put _ (some 33) _) _
            simp only [Act.put, List.setIfInBounds_toArray, List.set_cons_zero, List.set_cons_succ]
            refine' wpAnyH_take (i := 4) (v := _) rfl (by kernel_rfl) (by kernel_rfl) (by kernel_rfl) (fun _ _ _ h => h) (Or.inl ⟨by kernel_rfl, ?hb4⟩) (by assumption) ?rb4
            case hb4 => intro W hW; obtain ⟨⟨a0, a1, a2, a3⟩, ⟨d0, d1, d2⟩, g0, g1, g2⟩ := hW; go_simp; all_goals with_reducible rfl
            change wpAnyH _ _ _ _ _ _ _ (Act.put _ (some 34) _) _
            simp only [Act.put, List.setIfInBounds_toArray, List.set_cons_zero, List.set_cons_succ]
            refine' wpAnyH_take (i := 5) (v := _) rfl (by kernel_rfl) (by kernel_rfl) (by kernel_rfl) (fun _ _ _ h => h) (Or.inl ⟨by kernel_rfl, ?hb5⟩) (by assumption) ?rb5
            case hb5 => intro W hW; obtain ⟨⟨a0, a1, a2, a3⟩, ⟨d0, d1, d2⟩, g0, g1, g2⟩ := hW; go_simp; all_goals with_reducible rfl
            change wpAnyH _ _ _ _ _ _ _ (Act.put _ (some 35) _) _
            simp only [Act.put, List.setIfInBounds_toArray, List.set_cons_zero, List.set_cons_succ]
            refine' wpAnyH_take (i := 6) (v := _) rfl (by kernel_rfl) (by kernel_rfl) (by kernel_rfl) (fun _ _ _ h => h) (Or.inl ⟨by kernel_rfl, ?hb6⟩) (by assumption) ?rb6
            case hb6 => intro W hW; obtain ⟨⟨a0, a1, a2, a3⟩, ⟨d0, d1, d2⟩, g0, g1, g2⟩ := hW; go_simp; all_goals with_reducible rfl
            change wpAnyH _ _ _ _ _ _ _ (Act.put _ (some 36) _) _
            simp only [Act.put, List.setIfInBounds_toArray, List.set_cons_zero, List.set_cons_succ]
            refine' wpAnyH_take (i := 7) (v := _) rfl (by kernel_rfl) (by kernel_rfl) (by kernel_rfl) (fun _ _ _ h => h) (Or.inl ⟨by kernel_rfl, ?hb7⟩) (by assumption) ?rb7
            case hb7 => intro W hW; obtain ⟨⟨a0, a1, a2, a3⟩, ⟨d0, d1, d2⟩, g0, g1, g2⟩ := hW; go_simp; all_goals with_reducible rfl
            change wpAnyH _ _ _ _ _ _ _ (Act.put _ (some 37) _) _
            simp only [Act.put, List.setIfInBounds_toArray, List.set_cons_zero, List.set_cons_succ]
            refine' wpAnyH_take (i := 8) (v := _) rfl (by kernel_rfl) (by kernel_rfl) (by kernel_rfl) (fun _ _ _ h => h) (Or.inl ⟨by kernel_rfl, ?hb8⟩) (by assumption) ?rb8
            case hb8 => intro W hW; obtain ⟨⟨a0, a1, a2, a3⟩, ⟨d0, d1, d2⟩, g0, g1, g2⟩ := hW; go_simp; all_goals with_reducible rfl
            change wpAnyH _ _ _ _ _ _ _ (Act.put _ (some 38) _) _
            simp only [Act.put, List.setIfInBounds_toArray, List.set_cons_zero, List.set_cons_succ]
            refine' wpAnyH_take (i := 9) (v := _) rfl (by kernel_rfl) (by kernel_rfl) (by kernel_rfl) (fun _ _ _ h => h) (Or.inl ⟨by kernel_rfl, ?hb9⟩) (by assumption) ?rb9
            case hb9 => intro W hW; obtain ⟨⟨a0, a1, a2, a3⟩, ⟨d0, d1, d2⟩, g0, g1, g2⟩ := hW; go_simp; all_goals with_reducible rfl
            change wpAnyH _ _ _ _ _ _ _ (Act.put _ (some 39) _) _
            simp only [Act.put, List.setIfInBounds_toArray, List.set_cons_zero, List.set_cons_succ]
            refine' wpAnyH_take (i := 10) (v := _) rfl (by kernel_rfl) (by kernel_rfl) (by kernel_rfl) (fun _ _ _ h => h) (Or.inl ⟨by kernel_rfl, ?hb10⟩) (by assumption) ?rb10
            case hb10 => intro W hW; obtain ⟨⟨a0, a1, a2, a3⟩, ⟨d0, d1, d2⟩, g0, g1, g2⟩ := hW; go_simp; all_goals with_reducible rfl
            change wpAnyH _ _ _ _ _ _ _ (Act.put _ (some 40) _) _
            simp only [Act.put, List.setIfInBounds_toArray, List.set_cons_zero, List.set_cons_succ]
            refine' wpAnyH_take (i := 11) (v := _) rfl (by kernel_rfl) (by kernel_rfl) (by kernel_rfl) (fun _ _ _ h => h) (Or.inl ⟨by kernel_rfl, ?hb11⟩) (by assumption) ?rb11
            case hb11 => intro W hW; obtain ⟨⟨a0, a1, a2, a3⟩, ⟨d0, d1, d2⟩, g0, g1, g2⟩ := hW; go_simp; all_goals with_reducible rfl
            change wpAnyH _ _ _ _ _ _ _ (Act.put _ (some 41) _) _
            simp only [Act.put, List.setIfInBounds_toArray, List.set_cons_zero, List.set_cons_succ]
            refine' wpAnyH_take (i := 12) (v := _) rfl (by kernel_rfl) (by kernel_rfl) (by kernel_rfl) (fun _ _ _ h => h) (Or.inl ⟨by kernel_rfl, ?hb12⟩) (by assumption) ?rb12
            case hb12 => intro W hW; obtain ⟨⟨a0, a1, a2, a3⟩, ⟨d0, d1, d2⟩, g0, g1, g2⟩ := hW; go_simp; all_goals with_reducible rfl
            change wpAnyH _ _ _ _ _ _ _ (Act.put _ (some 42) _) _
            simp only [Act.put, List.setIfInBounds_toArray, List.set_cons_zero, List.set_cons_succ]
            refine' wpAnyH_take (i := 13) (v := _) rfl (by kernel_rfl) (by kernel_rfl) (by kernel_rfl) (fun _ _ _ h => h) (Or.inl ⟨by kernel_rfl, ?hb13⟩) (by assumption) ?rb13
            case hb13 => intro W hW; obtain ⟨⟨a0, a1, a2, a3⟩, ⟨d0, d1, d2⟩, g0, g1, g2⟩ := hW; go_simp; all_goals with_reducible rfl
            change wpAnyH _ _ _ _ _ _ _ (Act.put _ (some 43) _) _
            simp only [Act.put, List.setIfInBounds_toArray, List.set_cons_zero, List.set_cons_succ]
            refine' wpAnyH_take (i := 14) (v := _) rfl (by kernel_rfl) (by kernel_rfl) (by kernel_rfl) (fun _ _ _ h => h) (Or.inl ⟨by kernel_rfl, ?hb14⟩) (by assumption) ?rb14
            case hb14 => intro W hW; obtain ⟨⟨a0, a1, a2, a3⟩, ⟨d0, d1, d2⟩, g0, g1, g2⟩ := hW; go_simp; all_goals with_reducible rfl
            change wpAnyH _ _ _ _ _ _ _ (Act.put _ (some 44) _) _
            simp only [Act.put, List.setIfInBounds_toArray, List.set_cons_zero, List.set_cons_succ]
            refine' wpAnyH_take (i := 15) (v := _) rfl (by kernel_rfl) (by kernel_rfl) (by kernel_rfl) (fun _ _ _ h => h) (Or.inl ⟨by kernel_rfl, ?hb15⟩) (by assumption) ?rb15
            case hb15 => intro W hW; obtain ⟨⟨a0, a1, a2, a3⟩, ⟨d0, d1, d2⟩, g0, g1, g2⟩ := hW; go_simp; all_goals with_reducible rfl
            change wpAnyH _ _ _ _ _ _ _ (Act.put _ (some 45) _) _
            simp only [Act.put, List.setIfInBounds_toArray, List.set_cons_zero, List.set_cons_succ]
            refine' wpAnyH_take (i := 16) (v := _) rfl (by kernel_rfl) (by kernel_rfl) (by kernel_rfl) (fun _ _ _ h => h) (Or.inl ⟨by kernel_rfl, ?hb16⟩) (by assumption) ?rb16
            case hb16 => intro W hW; obtain ⟨⟨a0, a1, a2, a3⟩, ⟨d0, d1, d2⟩, g0, g1, g2⟩ := hW; go_simp; all_goals with_reducible rfl
            change wpAnyH _ _ _ _ _ _ _ (Act.put _ (some 46) _) _
            simp only [Act.put, List.setIfInBounds_toArray, List.set_cons_zero, List.set_cons_succ]
            refine wpAnyH_ready (rs := [17]) (by kernel_rfl) (by simp) ?_
            refine AllReadyH.cons rfl (fun KK hK => ?_) AllReadyH.nil
            go_simp
            refine (hP _).mono ?_
            rintro e w3 ⟨rfl, hB4⟩
            go_wp2_with fail
            refine hK.out _ _ ⟨⟨by rw [hB4.cell hb0]; exact e0, by rw [hB4.cell hb0]; exact e1, by rw [hB4.cell hb0]; exact e2, by rw [hB4.cell hb0]; exact e3⟩, ⟨by rw [hB4.cell hb1]; exact x0, by rw [hB4.cell hb1]; exact x1, by rw [hB4.cell hb1]; exact x2⟩, by rw [hB4.cell hb2]; exact y0, by rw [hB4.cell hb2]; exact y1, by rw [hB4.cell hb2]; exact y2⟩ (fun hHeld => ?_)
            clear hK KK
            try simp only [Act.put, List.setIfInBounds_toArray, List.set_cons_zero, List.set_cons_succ]
            refine' wpAnyH_take (i := 18) (v := _) rfl (by kernel_rfl) (by kernel_rfl) (by kernel_rfl) (fun _ _ _ h => h) (Or.inl ⟨by kernel_rfl, ?hb18⟩) (by assumption) ?rb18
            case hb18 => intro W hW; obtain ⟨⟨a0, a1, a2, a3⟩, ⟨d0, d1, d2⟩, g0, g1, g2⟩ := hW; go_simp; all_goals with_reducible rfl
            change wpAnyH _ _ _ _ _ _ _ (Act.put _ (some 48) _) _
            simp only [Act.put, List.setIfInBounds_toArray, List.set_cons_zero, List.set_cons_succ]
            refine' wpAnyH_take (i := 19) (v := _) rfl (by kernel_rfl) (by kernel_rfl) (by kernel_rfl) (fun _ _ _ h => h) (Or.inl ⟨by kernel_rfl, ?hb19⟩) (by assumption) ?rb19
            case hb19 => intro W hW; obtain ⟨⟨a0, a1, a2, a3⟩, ⟨d0, d1, d2⟩, g0, g1, g2⟩ := hW; go_simp; all_goals with_reducible rfl
            change wpAnyH _ _ _ _ _ _ _ (Act.put _ (some 6) _) _
            simp only [Act.put, List.setIfInBounds_toArray, List.set_cons_zero, List.set_cons_succ]
            refine wpAnyH_done (by kernel_rfl) ?_ _
            have hB5 : Hid (Below w.heap.size w w3) := hB3.out.trans (Below.trans (Below.drew (Below.refl _ _)) (hB4.mono (by have := hB3.out.size; exact this)))
            clear hHeld x0 x1 x2 y0 y1 y2 e0 e1 e2 e3 hP
            go_wp2
            go_ret
            exact ⟨by rw [HO2.out]; rfl, hB5.out⟩
          · have hkn' : ¬ (k : Int) < (n : Int) := by omega
            rw [decide_eq_false hkn, Bool.false_and] at HO2
            clear hpl
            go_wp2_with fail
            refine wp_region_held_drew (S := fun W => (W.cell? ⟨b1, o1 + k * 3, none⟩ = some (.int .i64 q0) ∧ W.cell? ⟨b1, o1 + k * 3 + 1, none⟩ = some (.int .i64 q1) ∧ W.cell? ⟨b1, o1 + k * 3 + 2, none⟩ = some (.string q2)) ∧ (W.cell? ⟨b2, o2 + k * 3, none⟩ = some (.int .i64 r0) ∧ W.cell? ⟨b2, o2 + k * 3 + 1, none⟩ = some (.int .i64 r1) ∧ W.cell? ⟨b2, o2 + k * 3 + 2, none⟩ = some (.string r2))) (by kernel_rfl) (⟨⟨x0, x1, x2⟩, y0, y1, y2⟩) (fun hHeld => ?_)
            refine' wpAnyH_take (i := 0) (v := _) rfl (by kernel_rfl) (by kernel_rfl) (by kernel_rfl) (fun _ _ _ h => h) (Or.inl ⟨by kernel_rfl, ?hc0⟩) (by assumption) ?rc0
            case hc0 => intro W hW; obtain ⟨⟨d0, d1, d2⟩, g0, g1, g2⟩ := hW; go_simp; all_goals with_reducible rfl
            change wpAnyH _ _ _ _ _ _ _ (Act.put _ (some 30) _) _
            simp only [Act.put, List.setIfInBounds_toArray, List.set_cons_zero, List.set_cons_succ]
            refine' wpAnyH_take (i := 1) (v := _) rfl (by kernel_rfl) (by kernel_rfl) (by kernel_rfl) (fun _ _ _ h => h) (Or.inl ⟨by kernel_rfl, ?hc1⟩) (by assumption) ?rc1
            case hc1 => intro W hW; obtain ⟨⟨d0, d1, d2⟩, g0, g1, g2⟩ := hW; go_simp; all_goals with_reducible rfl
            change wpAnyH _ _ _ _ _ _ _ (Act.put _ (some 31) _) _
            simp only [Act.put, List.setIfInBounds_toArray, List.set_cons_zero, List.set_cons_succ]
            refine' wpAnyH_take (i := 2) (v := _) rfl (by kernel_rfl) (by kernel_rfl) (by kernel_rfl) (fun _ _ _ h => h) (Or.inl ⟨by kernel_rfl, ?hc2⟩) (by assumption) ?rc2
            case hc2 => intro W hW; obtain ⟨⟨d0, d1, d2⟩, g0, g1, g2⟩ := hW; go_simp; all_goals with_reducible rfl
            change wpAnyH _ _ _ _ _ _ _ (Act.put _ (some 32) _) _
            simp only [Act.put, List.setIfInBounds_toArray, List.set_cons_zero, List.set_cons_succ]
            refine' wpAnyH_take (i := 3) (v := _) rfl (by kernel_rfl) (by kernel_rfl) (by kernel_rfl) (fun _ _ _ h => h) (Or.inl ⟨by kernel_rfl, ?hc3⟩) (by assumption) ?rc3
            case hc3 => intro W hW; obtain ⟨⟨d0, d1, d2⟩, g0, g1, g2⟩ := hW; go_simp; all_goals with_reducible rfl
            change wpAnyH _ _ _ _ _ _ _ (Act.put _ (some 33) _) _
            simp only [Act.put, List.setIfInBounds_toArray, List.set_cons_zero, List.set_cons_succ]
            refine' wpAnyH_take (i := 4) (v := _) rfl (by kernel_rfl) (by kernel_rfl) (by kernel_rfl) (fun _ _ _ h => h) (Or.inl ⟨by kernel_rfl, ?hc4⟩) (by assumption) ?rc4
            case hc4 => intro W hW; obtain ⟨⟨d0, d1, d2⟩, g0, g1, g2⟩ := hW; go_simp; all_goals with_reducible rfl
            change wpAnyH _ _ _ _ _ _ _ (Act.put _ (some 34) _) _
            simp only [Act.put, List.setIfInBounds_toArray, List.set_cons_zero, List.set_cons_succ]
            refine wpAnyH_take (i := 5) (v := undef) rfl (by kernel_rfl) (by kernel_rfl) (by kernel_rfl) (fun _ _ _ h => h) (Or.inr ⟨by kernel_rfl, rfl⟩) (by assumption) ?_
            change wpAnyH _ _ _ _ _ _ _ (Act.put _ (some 35) _) _
            simp only [Act.put, List.setIfInBounds_toArray, List.set_cons_zero, List.set_cons_succ]
            refine wpAnyH_take (i := 6) (v := undef) rfl (by kernel_rfl) (by kernel_rfl) (by kernel_rfl) (fun _ _ _ h => h) (Or.inr ⟨by kernel_rfl, rfl⟩) (by assumption) ?_
            change wpAnyH _ _ _ _ _ _ _ (Act.put _ (some 36) _) _
            simp only [Act.put, List.setIfInBounds_toArray, List.set_cons_zero, List.set_cons_succ]
            refine wpAnyH_take (i := 7) (v := undef) rfl (by kernel_rfl) (by kernel_rfl) (by kernel_rfl) (fun _ _ _ h => h) (Or.inr ⟨by kernel_rfl, rfl⟩) (by assumption) ?_
            change wpAnyH _ _ _ _ _ _ _ (Act.put _ (some 37) _) _
            simp only [Act.put, List.setIfInBounds_toArray, List.set_cons_zero, List.set_cons_succ]
            refine wpAnyH_take (i := 8) (v := undef) rfl (by kernel_rfl) (by kernel_rfl) (by kernel_rfl) (fun _ _ _ h => h) (Or.inr ⟨by kernel_rfl, rfl⟩) (by assumption) ?_
            change wpAnyH _ _ _ _ _ _ _ (Act.put _ (some 38) _) _
            simp only [Act.put, List.setIfInBounds_toArray, List.set_cons_zero, List.set_cons_succ]
            refine wpAnyH_take (i := 9) (v := undef) rfl (by kernel_rfl) (by kernel_rfl) (by kernel_rfl) (fun _ _ _ h => h) (Or.inr ⟨by kernel_rfl, rfl⟩) (by assumption) ?_
            change wpAnyH _ _ _ _ _ _ _ (Act.put _ (some 39) _) _
            simp only [Act.put, List.setIfInBounds_toArray, List.set_cons_zero, List.set_cons_succ]
            refine wpAnyH_take (i := 10) (v := undef) rfl (by kernel_rfl) (by kernel_rfl) (by kernel_rfl) (fun _ _ _ h => h) (Or.inr ⟨by kernel_rfl, rfl⟩) (by assumption) ?_
            change wpAnyH _ _ _ _ _ _ _ (Act.put _ (some 40) _) _
            simp only [Act.put, List.setIfInBounds_toArray, List.set_cons_zero, List.set_cons_succ]
            refine wpAnyH_take (i := 11) (v := undef) rfl (by kernel_rfl) (by kernel_rfl) (by kernel_rfl) (fun _ _ _ h => h) (Or.inr ⟨by kernel_rfl, rfl⟩) (by assumption) ?_
            change wpAnyH _ _ _ _ _ _ _ (Act.put _ (some 41) _) _
            simp only [Act.put, List.setIfInBounds_toArray, List.set_cons_zero, List.set_cons_succ]
            refine wpAnyH_take (i := 12) (v := undef) rfl (by kernel_rfl) (by kernel_rfl) (by kernel_rfl) (fun _ _ _ h => h) (Or.inr ⟨by kernel_rfl, rfl⟩) (by assumption) ?_
            change wpAnyH _ _ _ _ _ _ _ (Act.put _ (some 42) _) _
            simp only [Act.put, List.setIfInBounds_toArray, List.set_cons_zero, List.set_cons_succ]
            refine wpAnyH_take (i := 13) (v := undef) rfl (by kernel_rfl) (by kernel_rfl) (by kernel_rfl) (fun _ _ _ h => h) (Or.inr ⟨by kernel_rfl, rfl⟩) (by assumption) ?_
            change wpAnyH _ _ _ _ _ _ _ (Act.put _ (some 43) _) _
            simp only [Act.put, List.setIfInBounds_toArray, List.set_cons_zero, List.set_cons_succ]
            refine wpAnyH_take (i := 14) (v := undef) rfl (by kernel_rfl) (by kernel_rfl) (by kernel_rfl) (fun _ _ _ h => h) (Or.inr ⟨by kernel_rfl, rfl⟩) (by assumption) ?_
            change wpAnyH _ _ _ _ _ _ _ (Act.put _ (some 44) _) _
            simp only [Act.put, List.setIfInBounds_toArray, List.set_cons_zero, List.set_cons_succ]
            refine wpAnyH_take (i := 15) (v := undef) rfl (by kernel_rfl) (by kernel_rfl) (by kernel_rfl) (fun _ _ _ h => h) (Or.inr ⟨by kernel_rfl, rfl⟩) (by assumption) ?_
            change wpAnyH _ _ _ _ _ _ _ (Act.put _ (some 45) _) _
            simp only [Act.put, List.setIfInBounds_toArray, List.set_cons_zero, List.set_cons_succ]
            refine wpAnyH_take (i := 16) (v := undef) rfl (by kernel_rfl) (by kernel_rfl) (by kernel_rfl) (fun _ _ _ h => h) (Or.inr ⟨by kernel_rfl, rfl⟩) (by assumption) ?_
            change wpAnyH _ _ _ _ _ _ _ (Act.put _ (some 46) _) _
            simp only [Act.put, List.setIfInBounds_toArray, List.set_cons_zero, List.set_cons_succ]
            refine wpAnyH_take (i := 17) (v := undef) rfl (by kernel_rfl) (by kernel_rfl) (by kernel_rfl) (fun _ _ _ h => h) (Or.inr ⟨by kernel_rfl, rfl⟩) (by assumption) ?_
            change wpAnyH _ _ _ _ _ _ _ (Act.put _ (some 47) _) _
            simp only [Act.put, List.setIfInBounds_toArray, List.set_cons_zero, List.set_cons_succ]
            refine' wpAnyH_take (i := 18) (v := _) rfl (by kernel_rfl) (by kernel_rfl) (by kernel_rfl) (fun _ _ _ h => h) (Or.inl ⟨by kernel_rfl, ?hc18⟩) (by assumption) ?rc18
            case hc18 => intro W hW; obtain ⟨⟨d0, d1, d2⟩, g0, g1, g2⟩ := hW; go_simp; all_goals with_reducible rfl
            change wpAnyH _ _ _ _ _ _ _ (Act.put _ (some 48) _) _
            simp only [Act.put, List.setIfInBounds_toArray, List.set_cons_zero, List.set_cons_succ]
            refine' wpAnyH_take (i := 19) (v := _) rfl (by kernel_rfl) (by kernel_rfl) (by kernel_rfl) (fun _ _ _ h => h) (Or.inl ⟨by kernel_rfl, ?hc19⟩) (by assumption) ?rc19
            case hc19 => intro W hW; obtain ⟨⟨d0, d1, d2⟩, g0, g1, g2⟩ := hW; go_simp; all_goals with_reducible rfl
            change wpAnyH _ _ _ _ _ _ _ (Act.put _ (some 6) _) _
            simp only [Act.put, List.setIfInBounds_toArray, List.set_cons_zero, List.set_cons_succ]
            refine wpAnyH_done (by kernel_rfl) ?_ _
            have hB5 : Hid (Below w.heap.size w w2.drew) := hB3.out.drew
            clear hHeld x0 x1 x2 y0 y1 y2 hP
            go_wp2
            go_ret
            exact ⟨by rw [HO2.out]; rfl, hB5.out⟩
      · have hkz' : ¬ (k : Int) < (m' : Int) := by omega
        have HT : Hid (lessK n fd m fk fn fs m' fk' fn' fs' = decide (m < m')) := lessK_same (fun j hj => HA.out j (by omega))
        have hmm : ¬ (m : Int) < (m' : Int) := by omega
        have HD : Hid (decide (m < m') = false) := decide_eq_false (by omega)
        clear HA
        go_wp2
        go_ret
        exact ⟨by rw [HT.out, HD.out]; rfl, hB⟩
    · have hkz : ¬ (k : Int) < (m : Int) := by omega
      have HT : Hid (lessK n fd m fk fn fs m' fk' fn' fs' = decide (m < m')) := lessK_same (fun j hj => HA.out j (by omega))
      clear HA
      by_cases hmm : m < m'
      · have hmm' : (m : Int) < (m' : Int) := by omega
        have HD : Hid (decide (m < m') = true) := decide_eq_true hmm
        go_wp2
        go_ret
        exact ⟨by rw [HT.out, HD.out]; rfl, hB⟩
      · have hmm' : ¬ (m : Int) < (m' : Int) := by omega
        have HD : Hid (decide (m < m') = false) := decide_eq_false hmm
        go_wp2
        go_ret
        exact ⟨by rw [HT.out, HD.out]; rfl, hB⟩
end Go.Proofs.Ytclegljalndaear

/-
  What the law's own helper over parts comes to.
-/
namespace Go.Proofs.Ytclegljalndaear
open Go.RowKit
set_option maxRecDepth 4000

set_option maxHeartbeats 1000000 in
theorem toPart_any (c t : Int) (nul d : Bool) (w : World) :
    Calls Try.prog 35 #[.agg #[.int .i64 c, .int .i64 t, .bool nul, .bool d]] w fun e w' => e = .returned (.agg #[.int .i64 c, .int .i64 t, .bool nul, .bool d]) ∧ Below w.heap.size w w' := by
  go_enter Try.func35, Try.ntmps35
  go_wp2
  refine bodyPost_ret (v := .agg #[.int .i64 c, .int .i64 t, .bool nul, .bool d]) (by simp [results, Try.results35, go_sem]) rfl ⟨rfl, ?_⟩
  repeat (first | exact Below.refl _ _ | refine Below.alloc ?_ (by simp <;> omega) _ | refine Below.drew ?_)
end Go.Proofs.Ytclegljalndaear

/-
  A list of parts: how much it holds as the law counts it, and its copy in a new row.
-/
namespace Go.Proofs.Ytclegljalndaear
open Go.RowKit
set_option maxRecDepth 4000

set_option maxHeartbeats 1000000 in
theorem szPartS_any (a : Option Addr) (n cap : Nat) (left : Int) (w : World) (hn : n ≤ maxLen) (h0 : 0 ≤ left) (hl : left ≤ 1048576) :
    Calls Try.prog 9 #[.slice a n cap, .int .i64 left] w fun e w' => ∃ L : Int, e = .returned (.int .i64 L) ∧ w = w' ∧ (L = -1 ∨ (0 ≤ L ∧ L = left - n)) := by
  have hn' : (n : Int) ≤ 9223372036854775807 := by unfold maxLen at hn; omega
  by_cases hb : left - (n : Int) < 0
  · go_enter Try.func9, Try.ntmps9
    go_wp2
    go_ret
    exact ⟨_, rfl, rfl, .inl rfl⟩
  · go_enter Try.func9, Try.ntmps9
    go_wp2
    go_ret
    exact ⟨_, rfl, rfl, .inr ⟨by omega, rfl⟩⟩

def cellP (fc ft : Nat → Int) (fu fd : Nat → Bool) (j : Nat) : Value := if j % 4 = 0 then .int .i64 (fc (j / 4)) else if j % 4 = 1 then .int .i64 (ft (j / 4)) else if j % 4 = 2 then .bool (fu (j / 4)) else .bool (fd (j / 4))
def zeroP (j : Nat) : Value := if j % 4 = 0 then .int .i64 0 else if j % 4 = 1 then .int .i64 0 else .bool false

theorem Try.infoPart : (Try.prog.info? 51).map (fun i => (i.zero, i.size, i.bytes)) = some (some (.agg #[.int .i64 0, .int .i64 0, .bool false, .bool false]), 4, 24) := by kernel_rfl

theorem make_parts (n : Nat) (h : n ≤ 1048576) (w : World) : (Instr.makeSlice 25 (.int .i64 (n : Int)) (.int .i64 (n : Int))).run Try.prog w = .ok (.slice (some ⟨w.heap.size, 0, none⟩) n n) (w.alloc (.cells (madeCells #[.int .i64 0, .int .i64 0, .bool false, .bool false] (n * 4)) 51)) := by
  obtain ⟨i, hi, hzz⟩ := Option.map_eq_some_iff.1 Try.infoPart
  simp only [Prod.mk.injEq] at hzz
  obtain ⟨hz, hs, hb⟩ := hzz
  have hr := run_make (P := Try.prog) w 25 51 i _ Try.underlying25 hi hz .i64 .i64 n n (by omega) (Int.le_refl _) (by rw [hb]; omega) (by omega)
  simp only [Int.toNat_natCast, hs] at hr
  exact hr

/-- k of the n parts are copied into the new row. -/
structure CopiedP (w wr : World) (n : Nat) (fc ft : Nat → Int) (fu fd : Nat → Bool) (k : Nat) : Prop where
  below : Below w.heap.size w wr
  size : w.heap.size < wr.heap.size
  row : wr.rowIs w.heap.size 51 (n * 4) (fun j => if j < k * 4 then cellP fc ft fu fd j else zeroP j)

theorem copiedP_start (w : World) (n : Nat) (fc ft : Nat → Int) (fu fd : Nat → Bool) : CopiedP w (w.alloc (.cells (madeCells #[.int .i64 0, .int .i64 0, .bool false, .bool false] (n * 4)) 51)) n fc ft fu fd 0 := by
  have hr := World.rowIs_alloc w (madeCells #[.int .i64 0, .int .i64 0, .bool false, .bool false] (n * 4)) 51 zeroP (fun i hi => by
    rw [size_madeCells] at hi
    simp [madeCells, hi, zeroP]
    have h3 : i % 4 = 0 ∨ i % 4 = 1 ∨ i % 4 = 2 ∨ i % 4 = 3 := by omega
    rcases h3 with h | h | h | h <;> simp [h])
  rw [size_madeCells] at hr
  exact ⟨(Below.refl _ _).alloc (Nat.le_refl _) _, by simp, hr.congr (fun i _ => by simp)⟩

theorem rowIs_belowP {w w' : World} {b : Nat} {t : TypeId} {m : Nat} {f : Nat → Value} (h : w.rowIs b t m f) (hb : Below w.heap.size w w') (hlt : b < w.heap.size) : w'.rowIs b t m f := by
  obtain ⟨c, h1, h2, h3⟩ := h
  exact ⟨c, by rw [hb.block b hlt]; exact h1, h2, h3⟩

theorem CopiedP.step {w wr w2 : World} {n : Nat} {fc ft : Nat → Int} {fu fd : Nat → Bool} {k : Nat} (h : CopiedP w wr n fc ft fu fd k) (hb : Below wr.heap.size wr w2) : CopiedP w w2 n fc ft fu fd k :=
  ⟨h.below.trans (hb.mono h.below.size), Nat.lt_of_lt_of_le h.size hb.size, rowIs_belowP h.row hb h.size⟩

theorem CopiedP.put {w wr : World} {n : Nat} {fc ft : Nat → Int} {fu fd : Nat → Bool} {k : Nat} (h : CopiedP w wr n fc ft fu fd k) :
    CopiedP w ((((wr.setCell ⟨w.heap.size, k * 4, none⟩ (.int .i64 (fc k))).setCell ⟨w.heap.size, k * 4 + 1, none⟩ (.int .i64 (ft k))).setCell ⟨w.heap.size, k * 4 + 2, none⟩ (.bool (fu k))).setCell ⟨w.heap.size, k * 4 + 3, none⟩ (.bool (fd k))) n fc ft fu fd (k + 1) := by
  refine ⟨(((h.below.setCell (Nat.le_refl _) _).setCell (Nat.le_refl _) _).setCell (Nat.le_refl _) _).setCell (Nat.le_refl _) _, by simpa using h.size, (((((h.row.set _ _).set _ _).set _ _).set _ _).congr (fun i _ => ?_))⟩
  by_cases e3 : i = k * 4 + 3
  · subst e3
    have : (k * 4 + 3) % 4 = 3 := by omega
    have d : (k * 4 + 3) / 4 = k := by omega
    simp [cellP, this, d, show k * 4 + 3 < (k + 1) * 4 by omega]
  by_cases e2 : i = k * 4 + 2
  · subst e2
    have : (k * 4 + 2) % 4 = 2 := by omega
    have d : (k * 4 + 2) / 4 = k := by omega
    simp [cellP, this, d, show k * 4 + 2 < (k + 1) * 4 by omega]
  by_cases e1 : i = k * 4 + 1
  · subst e1
    have : (k * 4 + 1) % 4 = 1 := by omega
    have d : (k * 4 + 1) / 4 = k := by omega
    simp [cellP, this, d, show k * 4 + 1 < (k + 1) * 4 by omega]
  by_cases e0 : i = k * 4
  · subst e0
    have : (k * 4) % 4 = 0 := by omega
    have d : (k * 4) / 4 = k := by omega
    simp [cellP, this, d, show k * 4 < (k + 1) * 4 by omega]
  · simp only [e0, e1, e2, e3, if_false]
    by_cases hlt : i < k * 4
    · rw [if_pos hlt, if_pos (by omega)]
    · rw [if_neg hlt, if_neg (by omega)]

theorem CopiedP.view {w wr : World} {n : Nat} {fc ft : Nat → Int} {fu fd : Nat → Bool} (h : CopiedP w wr n fc ft fu fd n) : PView wr (some ⟨w.heap.size, 0, none⟩) n n fc ft fu fd := by
  refine ⟨Nat.le_refl _, fun _ => ⟨_, 0, rfl, h.size, fun i hi => ?_⟩⟩
  have c0 := h.row.cell (i := i * 4) (by omega)
  have c1 := h.row.cell (i := i * 4 + 1) (by omega)
  have c2 := h.row.cell (i := i * 4 + 2) (by omega)
  have c3 := h.row.cell (i := i * 4 + 3) (by omega)
  simp only [show i * 4 < n * 4 by omega, show i * 4 + 1 < n * 4 by omega, show i * 4 + 2 < n * 4 by omega, show i * 4 + 3 < n * 4 by omega, if_true, cellP] at c0 c1 c2 c3
  have m0 : (i * 4) % 4 = 0 := by omega
  have m1 : (i * 4 + 1) % 4 = 1 := by omega
  have m2 : (i * 4 + 2) % 4 = 2 := by omega
  have m3 : (i * 4 + 3) % 4 = 3 := by omega
  have d0 : (i * 4) / 4 = i := by omega
  have d1 : (i * 4 + 1) / 4 = i := by omega
  have d2 : (i * 4 + 2) / 4 = i := by omega
  have d3 : (i * 4 + 3) / 4 = i := by omega
  simp only [m0, m1, m2, m3, d0, d1, d2, d3] at c0 c1 c2 c3
  rw [Nat.zero_add]
  exact ⟨by simpa using c0, by simpa using c1, by simpa using c2, by simpa using c3⟩

set_option maxHeartbeats 2000000 in
theorem toPartS_any (a : Option Addr) (n cap : Nat) (fc ft : Nat → Int) (fu fd : Nat → Bool) (w : World) (h : PView w a n cap fc ft fu fd) (hn : n ≤ 1048576) :
    Calls Try.prog 11 #[.slice a n cap] w fun e w' => e = .returned (.slice (some ⟨w.heap.size, 0, none⟩) n n) ∧ CopiedP w w' n fc ft fu fd n := by
  have hmk := fun W => make_parts n hn W
  go_enter Try.func11, Try.ntmps11
  go_wp2
  clear hmk
  go_loopg [4] n (fun q i wr => ∃ k : Nat, k ≤ n ∧ q = n - k ∧ i = .int .i64 k ∧ CopiedP w wr n fc ft fu fd k)
  case atStart => exact ⟨0, Nat.zero_le _, rfl, rfl, copiedP_start w n fc ft fu fd⟩
  case round =>
    obtain ⟨k, hk, rfl, rfl, hC⟩ := hrel
    by_cases hlt : k < n
    · obtain ⟨b1, o1, rfl, hb1, hc1⟩ := (h.below hC.below).cells (by omega)
      obtain ⟨x0, x1, x2, x3⟩ := hc1 k hlt
      have hkz : (k : Int) < (n : Int) := by omega
      have hV := fun W => toPart_any (fc k) (ft k) (fu k) (fd k) W
      go_wp2_with fail
      refine (hV _).mono ?_
      rintro e w2 ⟨rfl, hB2⟩
      have hC2 := hC.step hB2
      have hS : Hid _ := hC2.put
      have z0 := hC2.row.cell (i := k * 4) (by omega)
      have z1 := hC2.row.cell (i := k * 4 + 1) (by omega)
      have z2 := hC2.row.cell (i := k * 4 + 2) (by omega)
      have z3 := hC2.row.cell (i := k * 4 + 3) (by omega)
      have f0 := hC2.row.frozen (k * 4)
      have f1 := hC2.row.frozen (k * 4 + 1)
      have f2 := hC2.row.frozen (k * 4 + 2)
      have f3 := hC2.row.frozen (k * 4 + 3)
      clear hc1 hC hC2 hB2 hV x0 x1 x2 x3 h
      go_wp2
      go_roundg (n - (k + 1))
      case measure => omega
      case rel => exact ⟨k + 1, by omega, rfl, by go_num, hS.out⟩
    · have hkn : k = n := by omega
      have hkz : ¬ (k : Int) < (n : Int) := by omega
      rw [hkn] at hC
      have hS : Hid (CopiedP w wr n fc ft fu fd n) := hC
      clear hC
      go_wp2
      go_ret
      exact ⟨rfl, hS.out⟩
end Go.Proofs.Ytclegljalndaear

/-
  Two lists of parts that read alike are alike, as the law holds them against each other.
-/
namespace Go.Proofs.Ytclegljalndaear
open Go.RowKit
set_option maxRecDepth 4000

set_option maxHeartbeats 1000000 in
theorem eqPart_same (c t : Int) (nul d : Bool) (w : World) :
    Calls Try.prog 37 #[.agg #[.int .i64 c, .int .i64 t, .bool nul, .bool d], .agg #[.int .i64 c, .int .i64 t, .bool nul, .bool d]] w fun e w' => e = .returned (.bool true) ∧ Below w.heap.size w w' := by
  have q1 : (c != c) = false := by simp
  have q2 : (t != t) = false := by simp
  have q3 : (nul != nul) = false := by cases nul <;> rfl
  have q4 : (d != d) = false := by cases d <;> rfl
  have hb : ∀ o o', Below w.heap.size w ((w.alloc o).alloc o') := fun o o' => ((Below.refl _ _).alloc (Nat.le_refl _) _).alloc (by simp) _
  go_enter Try.func37, Try.ntmps37
  go_wp2
  go_ret
  exact ⟨rfl, hb _ _⟩

set_option maxHeartbeats 2000000 in
theorem eqPartS_same (a1 a2 : Option Addr) (n c1 c2 : Nat) (fc ft : Nat → Int) (fu fd : Nat → Bool) (w : World) (h1 : PView w a1 n c1 fc ft fu fd) (h2 : PView w a2 n c2 fc ft fu fd) (hn : n ≤ 1048576) :
    Calls Try.prog 13 #[.slice a1 n c1, .slice a2 n c2] w fun e w' => e = .returned (.bool true) ∧ Below w.heap.size w w' := by
  have hnn : ((n : Int) != (n : Int)) = false := by simp
  have hc1 := h1.le
  have hc2 := h2.le
  go_enter Try.func13, Try.ntmps13
  go_wp2
  go_loopg [5] n (fun q i wr => ∃ k : Nat, k ≤ n ∧ q = n - k ∧ i = .int .i64 k ∧ Below w.heap.size w wr)
  case atStart => exact ⟨0, Nat.zero_le _, rfl, rfl, Below.refl _ _⟩
  case round =>
    obtain ⟨k, hk, rfl, rfl, hB⟩ := hrel
    by_cases hlt : k < n
    · obtain ⟨b1, o1, rfl, hb1, hd1⟩ := (h1.below hB).cells (by omega)
      obtain ⟨b2, o2, rfl, hb2, hd2⟩ := (h2.below hB).cells (by omega)
      obtain ⟨x0, x1, x2, x3⟩ := hd1 k hlt
      obtain ⟨y0, y1, y2, y3⟩ := hd2 k hlt
      have hkz : (k : Int) < (n : Int) := by omega
      clear hd1 hd2 h1 h2
      generalize fc k = p0 at *
      generalize ft k = p1 at *
      generalize fu k = p2 at *
      generalize fd k = p3 at *
      have hV := fun W => eqPart_same p0 p1 p2 p3 W
      go_wp2_with fail
      go_region_held3 (fun W => (W.cell? ⟨b1, o1 + k * 4, none⟩ = some (.int .i64 p0) ∧ W.cell? ⟨b1, o1 + k * 4 + 1, none⟩ = some (.int .i64 p1) ∧ W.cell? ⟨b1, o1 + k * 4 + 2, none⟩ = some (.bool p2) ∧ W.cell? ⟨b1, o1 + k * 4 + 3, none⟩ = some (.bool p3)) ∧ (W.cell? ⟨b2, o2 + k * 4, none⟩ = some (.int .i64 p0) ∧ W.cell? ⟨b2, o2 + k * 4 + 1, none⟩ = some (.int .i64 p1) ∧ W.cell? ⟨b2, o2 + k * 4 + 2, none⟩ = some (.bool p2) ∧ W.cell? ⟨b2, o2 + k * 4 + 3, none⟩ = some (.bool p3))) (first | assumption | go_keep) (first | (go_at_call 37; refine (hV _).mono ?_; rintro e w2 ⟨rfl, hB2⟩; have hcells : (w2.cell? ⟨b1, o1 + k * 4, none⟩ = some (.int .i64 p0) ∧ w2.cell? ⟨b1, o1 + k * 4 + 1, none⟩ = some (.int .i64 p1) ∧ w2.cell? ⟨b1, o1 + k * 4 + 2, none⟩ = some (.bool p2) ∧ w2.cell? ⟨b1, o1 + k * 4 + 3, none⟩ = some (.bool p3)) ∧ (w2.cell? ⟨b2, o2 + k * 4, none⟩ = some (.int .i64 p0) ∧ w2.cell? ⟨b2, o2 + k * 4 + 1, none⟩ = some (.int .i64 p1) ∧ w2.cell? ⟨b2, o2 + k * 4 + 2, none⟩ = some (.bool p2) ∧ w2.cell? ⟨b2, o2 + k * 4 + 3, none⟩ = some (.bool p3)) := (by (refine ⟨⟨?_, ?_, ?_, ?_⟩, ?_, ?_, ?_, ?_⟩ <;> (rw [hB2.cell (by first | exact hb1 | exact hb2)]; assumption)))))
      all_goals
        have hB3 : Hid (Below w.heap.size w w2) := hB.trans (Below.trans (by repeat (first | exact Below.refl _ _ | refine Below.drew ?_)) (hB2.mono (by have := hB.size; exact this)))
        go_wp2
        go_roundg (n - (k + 1))
        case measure => omega
        case rel => exact ⟨k + 1, by omega, rfl, by go_num, by first | exact hB3.out | exact hB3.out.drew⟩
    · have hkz : ¬ (k : Int) < (n : Int) := by omega
      go_wp2
      go_ret
      exact ⟨rfl, hB⟩
end Go.Proofs.Ytclegljalndaear

/-
  What the frame of a row hands over of a slice of values that came in.
-/
namespace Go.Proofs.Ytclegljalndaear
open Go.RowKit Go.Deep

/-- What the frame of a row hands over of a slice of values that came in. -/
theorem valsIn {H : Type} {enc : TypeId × Value → H} {W : World} {sp : Nat → Bool} {a : Option Addr} {len cap : Nat} {d : DataW H} {p : List MemPlace} {T : TypeId}
    (ht : Try.prog.underlying T = some (.slice 57)) (h : DataW.Trod enc Try.prog W 0 sp true T (.slice a len cap) d p) :
    ∃ fk fn fs, VView W a len cap fk fn fs ∧ (∀ i, i < len → (fs i).size ≤ maxLen) ∧ cap ≤ maxLen := by
  obtain ⟨fuel, hf⟩ := h
  have c3 : Try.prog.cellsOf 57 = 3 := by kernel_rfl
  rcases DataW.trod_slice ht hf with ⟨hcs, _⟩ | ⟨x, l, c, elems, rest, n, _, hcs, _, _, hl, hm, hlen, hel, _, _⟩
  · simp [Value.cells] at hcs
    obtain ⟨rfl, rfl, rfl⟩ := hcs
    exact ⟨fun _ => 0, fun _ => 0, fun _ => ⟨#[]⟩, ⟨Nat.le_refl _, fun h => absurd h (Nat.lt_irrefl _)⟩, fun i hi => absurd hi (Nat.not_lt_zero _), Nat.zero_le _⟩
  · simp [Value.cells] at hcs
    obtain ⟨rfl, rfl, rfl⟩ := hcs
    have each : ∀ i, i < len → ∃ (k m : Int) (s : ByteArray), W.cell? (x.add (i * 3)) = some (.int .i64 k) ∧ W.cell? ((x.add (i * 3)).add 1) = some (.int .i64 m) ∧ W.cell? ((x.add (i * 3)).add 2) = some (.string s) ∧ s.size ≤ maxLen := by
      intro i hi
      have h1 := hel i hi
      rw [c3] at h1
      have h2 : elems[i]? = some elems[i] := List.getElem?_eq_getElem (by omega)
      rw [h2] at h1
      obtain ⟨cs, hcs, htr⟩ := Option.bind_eq_some_iff.1 h1
      obtain ⟨_, hl3, hcell⟩ := World.cells?_some hcs
      obtain ⟨y0, y1, y2, m, _, _, t0, t1, t2⟩ := trod_struct3 Try.underlying57 htr
      have o1 : Try.prog.cellsOf 3 = 1 := by kernel_rfl
      have o2 : Try.prog.cellsOf 9 = 1 := by kernel_rfl
      simp only [o1, o2] at t0 t1 t2
      match cs, hl3 with
      | [c0, c1, c2], _ =>
        simp only [List.drop_zero, List.drop_succ_cons, List.take_succ_cons, List.take_zero] at t0 t1 t2
        obtain ⟨k, e0, _, _⟩ := DataW.trod_int Try.underlying3 t0
        obtain ⟨m, e1, _, _⟩ := DataW.trod_int Try.underlying3 t1
        obtain ⟨s, e2, _, hs⟩ := DataW.trod_string Try.underlying9 t2
        simp only [List.cons.injEq, and_true] at e0 e1 e2
        subst e0 e1 e2
        refine ⟨k, m, s, ?_, ?_, ?_, hs⟩
        · have := hcell 0 (by omega)
          simpa [Addr.add] using this
        · exact hcell 1 (by omega)
        · exact hcell 2 (by omega)
    refine ⟨fun i => if h : i < len then (each i h).choose else 0, fun i => if h : i < len then (each i h).choose_spec.choose else 0, fun i => if h : i < len then (each i h).choose_spec.choose_spec.choose else ⟨#[]⟩, ⟨hl, fun hn => ?_⟩, fun i hi => ?_, hm⟩
    · obtain ⟨b, off, spot⟩ := x
      obtain ⟨k0, m0, s0, h0, _⟩ := each 0 hn
      have hs : spot = none := by simpa [Addr.add] using World.cell?_spot h0
      subst hs
      refine ⟨b, off, rfl, World.block_lt_of_cell? _ _ h0, fun i hi => ?_⟩
      have hsp := (each i hi).choose_spec.choose_spec.choose_spec
      have ea : (⟨b, off, none⟩ : Addr).add (i * 3) = ⟨b, off + i * 3, none⟩ := by unfold Addr.add; split <;> simp_all
      have eb : ∀ j, (⟨b, off + i * 3, none⟩ : Addr).add j = ⟨b, off + i * 3 + j, none⟩ := fun j => by unfold Addr.add; split <;> simp_all
      have e1 : (⟨b, off + i * 3 + 1, none⟩ : Addr) = ((⟨b, off, none⟩ : Addr).add (i * 3)).add 1 := by rw [ea, eb]
      have e2 : (⟨b, off + i * 3 + 2, none⟩ : Addr) = ((⟨b, off, none⟩ : Addr).add (i * 3)).add 2 := by rw [ea, eb]
      simp only [dif_pos hi]
      exact ⟨by rw [← ea]; exact hsp.1, by rw [e1]; exact hsp.2.1, by rw [e2]; exact hsp.2.2.1⟩
    · simp only [dif_pos hi]
      exact (each i hi).choose_spec.choose_spec.choose_spec.2.2.2
end Go.Proofs.Ytclegljalndaear

/-
  What the law's own helpers over values come to.
-/
namespace Go.Proofs.Ytclegljalndaear
open Go.RowKit
set_option maxRecDepth 4000

set_option maxHeartbeats 1000000 in
theorem szVal_small (k n : Int) (s : ByteArray) (left : Int) (w : World) (h : (s.size : Int) ≤ left) (hl : left ≤ 1048576) :
    Calls Try.prog 38 #[.agg #[.int .i64 k, .int .i64 n, .string s], .int .i64 left] w fun e w' => e = .returned (.int .i64 (left - s.size)) ∧ Below w.heap.size w w' := by
  have h1 : ¬ left - (s.size : Int) < 0 := by omega
  go_enter Try.func38, Try.ntmps38
  go_wp2
  go_ret
  exact ⟨rfl, (Below.refl _ _).alloc (Nat.le_refl _) _⟩

set_option maxHeartbeats 1000000 in
theorem szVal_big (k n : Int) (s : ByteArray) (left : Int) (w : World) (h : left < (s.size : Int)) (h0 : 0 ≤ left) (hs : s.size ≤ maxLen) :
    Calls Try.prog 38 #[.agg #[.int .i64 k, .int .i64 n, .string s], .int .i64 left] w fun e w' => e = .returned (.int .i64 (-1)) ∧ Below w.heap.size w w' := by
  have h1 : left - (s.size : Int) < 0 := by omega
  have hs : (s.size : Int) ≤ 9223372036854775807 := by unfold maxLen at hs; omega
  go_enter Try.func38, Try.ntmps38
  go_wp2
  go_ret
  exact ⟨rfl, (Below.refl _ _).alloc (Nat.le_refl _) _⟩

set_option maxHeartbeats 1000000 in
theorem toVal_any (k n : Int) (s : ByteArray) (w : World) :
    Calls Try.prog 40 #[.agg #[.int .i64 k, .int .i64 n, .string s]] w fun e w' => e = .returned (.agg #[.int .i64 k, .int .i64 n, .string s]) ∧ Below w.heap.size w w' := by
  go_enter Try.func40, Try.ntmps40
  go_wp2
  refine bodyPost_ret (v := valAgg k n s) (by simp [results, Try.results40, go_sem, valAgg]) rfl ⟨rfl, ?_⟩
  repeat (first | exact Below.refl _ _ | refine Below.alloc ?_ (by simp <;> omega) _ | refine Below.drew ?_)
end Go.Proofs.Ytclegljalndaear

/-
  How much a row of values holds, as the law counts it.
-/
namespace Go.Proofs.Ytclegljalndaear
open Go.RowKit
set_option maxRecDepth 4000

set_option maxHeartbeats 2000000 in
theorem szValS_any (a : Option Addr) (n cap : Nat) (fk fn : Nat → Int) (fs : Nat → ByteArray) (left : Int) (w : World) (h : VView w a n cap fk fn fs) (hn : n ≤ maxLen) (hz : ∀ i, i < n → (fs i).size ≤ maxLen) (h0 : 0 ≤ left) (hl : left ≤ 1048576) :
    Calls Try.prog 14 #[.slice a n cap, .int .i64 left] w fun e w' => ∃ L : Int, e = .returned (.int .i64 L) ∧ Below w.heap.size w w' ∧ (L = -1 ∨ (0 ≤ L ∧ L ≤ left - n)) := by
  have hn' : (n : Int) ≤ 9223372036854775807 := by unfold maxLen at hn; omega
  by_cases hb : left - (n : Int) < 0
  · go_enter Try.func14, Try.ntmps14
    go_wp2
    go_ret
    exact ⟨_, rfl, Below.refl _ _, .inl rfl⟩
  go_enter Try.func14, Try.ntmps14
  go_wp2
  go_loopg [1, 5] n (fun q l i wr => ∃ (k : Nat) (L : Int), k ≤ n ∧ q = n - k ∧ l = .int .i64 L ∧ i = .int .i64 k ∧ Below w.heap.size w wr ∧ 0 ≤ L ∧ L ≤ left - n)
  case atStart => exact ⟨0, left - n, Nat.zero_le _, rfl, rfl, rfl, Below.refl _ _, by omega, by omega⟩
  case round =>
    obtain ⟨k, L, hk, rfl, rfl, rfl, hB, hL0, hL1⟩ := hrel
    by_cases hlt : k < n
    · obtain ⟨b1, o1, rfl, hb1, hc1⟩ := (h.below hB).cells (by omega)
      obtain ⟨x0, x1, x2⟩ := hc1 k hlt
      have hkz : (k : Int) < (n : Int) := by omega
      have hzk := hz k hlt
      have hLm : L ≤ 1048576 := by omega
      clear hc1 h hz
      generalize fk k = p0 at *
      generalize fn k = p1 at *
      generalize fs k = p2 at *
      by_cases hc : (p2.size : Int) ≤ L
      · have hV := fun W => szVal_small p0 p1 p2 L W hc hLm
        have hnn : ¬ L - (p2.size : Int) < 0 := by omega
        go_wp2_with fail
        refine (hV _).mono ?_
        rintro e w2 ⟨rfl, hB2⟩
        have hB3 := hB.trans (hB2.mono hB.size)
        clear hB2 hV
        go_wp2
        go_roundg (n - (k + 1))
        case measure => omega
        case rel => exact ⟨k + 1, L - p2.size, by omega, rfl, rfl, by go_num, hB3, by omega, by omega⟩
      · have hV := fun W => szVal_big p0 p1 p2 L W (by omega) hL0 hzk
        go_wp2_with fail
        refine (hV _).mono ?_
        rintro e w2 ⟨rfl, hB2⟩
        have hB3 := hB.trans (hB2.mono hB.size)
        clear hB2 hV
        go_wp2
        go_ret
        exact ⟨_, rfl, hB3, .inl rfl⟩
    · have hkz : ¬ (k : Int) < (n : Int) := by omega
      go_wp2
      go_ret
      exact ⟨_, rfl, hB, .inr ⟨hL0, hL1⟩⟩
end Go.Proofs.Ytclegljalndaear

