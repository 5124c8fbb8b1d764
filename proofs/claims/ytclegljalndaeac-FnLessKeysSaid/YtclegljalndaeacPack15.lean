/-
  Together: SameSpec, KeyLessSpec, FlipOwn
-/
import Derived.Test.YtclegljalndaeacPack14
import Derived.Test.YtclegljalndaeacPack4
import Derived.Test.YtclegljalndaeacPack7
import Derived.Test.YtclegljalndaeacPack5
import Derived.Deep.LoopGhost
import Derived.Deep.RegionHeld3
import Derived.Test.YtclegljalndaeacPack2
/-
  The model's SameVal.
-/
namespace Go.Proofs.Ytclegljalndaeac
open Go.RowKit
set_option maxRecDepth 4000

set_option maxHeartbeats 1000000 in
theorem sameVal_spec (k n : Int) (s : ByteArray) (k' n' : Int) (s' : ByteArray) (w : World) :
    Calls Try.prog 73 #[.agg #[.int .i64 k, .int .i64 n, .string s], .agg #[.int .i64 k', .int .i64 n', .string s']] w fun e w' => e = .returned (.bool (eqV k n s k' n' s')) ∧ Below w.heap.size w w' := by
  have q := eqVal_run k n s k' n' s'
  go_enter Try.func73, Try.ntmps73
  go_wp2
  go_ret
  refine ⟨rfl, ?_⟩
  repeat (first | exact Below.refl _ _ | refine Below.alloc ?_ (by simp <;> omega) _ | refine Below.drew ?_)
end Go.Proofs.Ytclegljalndaeac

/-
  The model's LessKey comes to the plain one.
-/
namespace Go.Proofs.Ytclegljalndaeac
open Go.RowKit
set_option maxRecDepth 4000

set_option linter.unusedSimpArgs false in
set_option maxHeartbeats 4000000 in
theorem specLessKey_any (a : Option Addr) (n cap : Nat) (fc ft : Nat → Int) (fu fd : Nat → Bool) (a1 : Option Addr) (m c1 : Nat) (fk fn : Nat → Int) (fs : Nat → ByteArray) (a2 : Option Addr) (m' c2 : Nat) (fk' fn' : Nat → Int) (fs' : Nat → ByteArray) (w : World) (h : PView w a n cap fc ft fu fd) (h1 : VView w a1 m c1 fk fn fs) (h2 : VView w a2 m' c2 fk' fn' fs') (hn : n ≤ 281474976710656) (hm : m ≤ 281474976710656) (hm' : m' ≤ 281474976710656) :
    Calls Try.prog 38 #[.slice a n cap, .slice a1 m c1, .slice a2 m' c2] w fun e w' => e = .returned (.bool (lessK n fd m fk fn fs m' fk' fn' fs')) ∧ Below w.heap.size w w' := by
  go_enter Try.func38, Try.ntmps38
  go_wp2
  go_loopg [7] m (fun q i wr => ∃ k : Nat, k ≤ m ∧ k ≤ m' ∧ q = m - k ∧ i = .int .i64 k ∧ Below w.heap.size w wr ∧ ∀ j, j < k → sameAt fk fn fs fk' fn' fs' j = true)
  case atStart => exact ⟨0, Nat.zero_le _, Nat.zero_le _, rfl, rfl, Below.refl _ _, fun j hj => absurd hj (Nat.not_lt_zero _)⟩
  case round =>
    obtain ⟨k, hk, hk', rfl, rfl, hB, hall⟩ := hrel
    have HA : Hid (∀ j, j < k → sameAt fk fn fs fk' fn' fs' j = true) := hall
    clear hall
    by_cases hlt : k < m
    · have hkz : (k : Int) < (m : Int) := by omega
      by_cases hlt' : k < m'
      · have hkz' : (k : Int) < (m' : Int) := by omega
        obtain ⟨b1, o1, rfl, hb1, hd1⟩ := (h1.below hB).cells (by omega)
        obtain ⟨b2, o2, rfl, hb2, hd2⟩ := (h2.below hB).cells (by omega)
        obtain ⟨x0, x1, x2⟩ := hd1 k hlt
        obtain ⟨y0, y1, y2⟩ := hd2 k hlt'
        obtain ⟨o, ho⟩ : ∃ o, Hid (sameAt fk fn fs fk' fn' fs' k = o) := ⟨_, rfl⟩
        have hS := fun W => sameVal_spec (fk k) (fn k) (fs k) (fk' k) (fn' k) (fs' k) W
        have ho' : eqV (fk k) (fn k) (fs k) (fk' k) (fn' k) (fs' k) = o := ho.out
        rw [ho'] at hS
        have HO : Hid (o = false → lessK n fd m fk fn fs m' fk' fn' fs' = (decide (k < n) && lessP (fd k) (fk k) (fn k) (fs k) (fk' k) (fn' k) (fs' k))) := by
          intro e
          exact lessK_at hlt hlt' (ho.out.trans e) HA.out
        have HN : Hid (o = true → ∀ j, j < k + 1 → sameAt fk fn fs fk' fn' fs' j = true) := by
          intro e j hj
          by_cases ej : j < k
          · exact HA.out j ej
          · obtain rfl : j = k := by omega
            rw [ho.out, e]
        have hP := fun W => specLessPart_any (fc k) (ft k) (fu k) (fd k) (fk k) (fn k) (fs k) (fk' k) (fn' k) (fs' k) W
        have hpl : Hid (k < n → ∃ b0 o0, a = some ⟨b0, o0, none⟩ ∧ b0 < wr.heap.size ∧ wr.cell? ⟨b0, o0 + k * 4, none⟩ = some (.int .i64 (fc k)) ∧ wr.cell? ⟨b0, o0 + k * 4 + 1, none⟩ = some (.int .i64 (ft k)) ∧ wr.cell? ⟨b0, o0 + k * 4 + 2, none⟩ = some (.bool (fu k)) ∧ wr.cell? ⟨b0, o0 + k * 4 + 3, none⟩ = some (.bool (fd k))) := by
          intro e
          obtain ⟨b0, o0, e0, hb0, hd0⟩ := (h.below hB).cells (by omega)
          exact ⟨b0, o0, e0, hb0, hd0 k e⟩
        clear hd1 hd2 h h1 h2 ho ho' HA
        obtain ⟨p0, hp0⟩ : ∃ p, Hid (fc k = p) := ⟨_, rfl⟩
        obtain ⟨p1, hp1⟩ : ∃ p, Hid (ft k = p) := ⟨_, rfl⟩
        obtain ⟨p2, hp2⟩ : ∃ p, Hid (fu k = p) := ⟨_, rfl⟩
        obtain ⟨p3, hp3⟩ : ∃ p, Hid (fd k = p) := ⟨_, rfl⟩
        obtain ⟨q0, hq0⟩ : ∃ p, Hid (fk k = p) := ⟨_, rfl⟩
        obtain ⟨q1, hq1⟩ : ∃ p, Hid (fn k = p) := ⟨_, rfl⟩
        obtain ⟨q2, hq2⟩ : ∃ p, Hid (fs k = p) := ⟨_, rfl⟩
        obtain ⟨r0, hr0⟩ : ∃ p, Hid (fk' k = p) := ⟨_, rfl⟩
        obtain ⟨r1, hr1⟩ : ∃ p, Hid (fn' k = p) := ⟨_, rfl⟩
        obtain ⟨r2, hr2⟩ : ∃ p, Hid (fs' k = p) := ⟨_, rfl⟩
        rw [hp0.out, hp1.out, hp2.out, hp3.out] at hpl
        rw [hp0.out, hp1.out, hp2.out, hp3.out, hq0.out, hq1.out, hq2.out, hr0.out, hr1.out, hr2.out] at hP
        rw [hq0.out, hq1.out, hq2.out, hr0.out, hr1.out, hr2.out] at hS
        rw [hp3.out, hq0.out, hq1.out, hq2.out, hr0.out, hr1.out, hr2.out] at HO
        rw [hq0.out] at x0
        rw [hq1.out] at x1
        rw [hq2.out] at x2
        rw [hr0.out] at y0
        rw [hr1.out] at y1
        rw [hr2.out] at y2
        go_wp2_with fail
        refine wp_region_held_drew (S := fun W => (W.cell? ⟨b1, o1 + k * 3, none⟩ = some (.int .i64 q0) ∧ W.cell? ⟨b1, o1 + k * 3 + 1, none⟩ = some (.int .i64 q1) ∧ W.cell? ⟨b1, o1 + k * 3 + 2, none⟩ = some (.string q2)) ∧ (W.cell? ⟨b2, o2 + k * 3, none⟩ = some (.int .i64 r0) ∧ W.cell? ⟨b2, o2 + k * 3 + 1, none⟩ = some (.int .i64 r1) ∧ W.cell? ⟨b2, o2 + k * 3 + 2, none⟩ = some (.string r2))) (by kernel_rfl) (⟨⟨x0, x1, x2⟩, y0, y1, y2⟩) (fun hHeld => ?_)
        refine' wpAnyH_take (i := 0) (v := _) rfl (by kernel_rfl) (by kernel_rfl) (by kernel_rfl) (fun _ _ _ h => h) (Or.inl ⟨by kernel_rfl, ?ha0⟩) (by assumption) ?ra0
        case ha0 => intro W hW; obtain ⟨⟨d0, d1, d2⟩, g0, g1, g2⟩ := hW; go_simp; all_goals with_reducible rfl
        change wpAnyH _ _ _ _ _ _ _ (Act.put _ (some 20) _) _
        simp only [Act.put, List.setIfInBounds_toArray, List.set_cons_zero, List.set_cons_succ]
        refine' wpAnyH_take (i := 1) (v := _) rfl (by kernel_rfl) (by kernel_rfl) (by kernel_rfl) (fun _ _ _ h => h) (Or.inl ⟨by kernel_rfl, ?ha1⟩) (by assumption) ?ra1
        case ha1 => intro W hW; obtain ⟨⟨d0, d1, d2⟩, g0, g1, g2⟩ := hW; go_simp; all_goals with_reducible rfl
        change wpAnyH _ _ _ _ _ _ _ (Act.put _ (some 21) _) _
        simp only [Act.put, List.setIfInBounds_toArray, List.set_cons_zero, List.set_cons_succ]
        refine' wpAnyH_take (i := 2) (v := _) rfl (by kernel_rfl) (by kernel_rfl) (by kernel_rfl) (fun _ _ _ h => h) (Or.inl ⟨by kernel_rfl, ?ha2⟩) (by assumption) ?ra2
        case ha2 => intro W hW; obtain ⟨⟨d0, d1, d2⟩, g0, g1, g2⟩ := hW; go_simp; all_goals with_reducible rfl
        change wpAnyH _ _ _ _ _ _ _ (Act.put _ (some 22) _) _
        simp only [Act.put, List.setIfInBounds_toArray, List.set_cons_zero, List.set_cons_succ]
        refine' wpAnyH_take (i := 3) (v := _) rfl (by kernel_rfl) (by kernel_rfl) (by kernel_rfl) (fun _ _ _ h => h) (Or.inl ⟨by kernel_rfl, ?ha3⟩) (by assumption) ?ra3
        case ha3 => intro W hW; obtain ⟨⟨d0, d1, d2⟩, g0, g1, g2⟩ := hW; go_simp; all_goals with_reducible rfl
        change wpAnyH _ _ _ _ _ _ _ (Act.put _ (some 23) _) _
        simp only [Act.put, List.setIfInBounds_toArray, List.set_cons_zero, List.set_cons_succ]
        refine' wpAnyH_take (i := 4) (v := _) rfl (by kernel_rfl) (by kernel_rfl) (by kernel_rfl) (fun _ _ _ h => h) (Or.inl ⟨by kernel_rfl, ?ha4⟩) (by assumption) ?ra4
        case ha4 => intro W hW; obtain ⟨⟨d0, d1, d2⟩, g0, g1, g2⟩ := hW; go_simp; all_goals with_reducible rfl
        change wpAnyH _ _ _ _ _ _ _ (Act.put _ (some 24) _) _
        simp only [Act.put, List.setIfInBounds_toArray, List.set_cons_zero, List.set_cons_succ]
        refine' wpAnyH_take (i := 5) (v := _) rfl (by kernel_rfl) (by kernel_rfl) (by kernel_rfl) (fun _ _ _ h => h) (Or.inl ⟨by kernel_rfl, ?ha5⟩) (by assumption) ?ra5
        case ha5 => intro W hW; obtain ⟨⟨d0, d1, d2⟩, g0, g1, g2⟩ := hW; go_simp; all_goals with_reducible rfl
        change wpAnyH _ _ _ _ _ _ _ (Act.put _ (some 25) _) _
        simp only [Act.put, List.setIfInBounds_toArray, List.set_cons_zero, List.set_cons_succ]
        refine' wpAnyH_take (i := 6) (v := _) rfl (by kernel_rfl) (by kernel_rfl) (by kernel_rfl) (fun _ _ _ h => h) (Or.inl ⟨by kernel_rfl, ?ha6⟩) (by assumption) ?ra6
        case ha6 => intro W hW; obtain ⟨⟨d0, d1, d2⟩, g0, g1, g2⟩ := hW; go_simp; all_goals with_reducible rfl
        change wpAnyH _ _ _ _ _ _ _ (Act.put _ (some 26) _) _
        simp only [Act.put, List.setIfInBounds_toArray, List.set_cons_zero, List.set_cons_succ]
        refine' wpAnyH_take (i := 7) (v := _) rfl (by kernel_rfl) (by kernel_rfl) (by kernel_rfl) (fun _ _ _ h => h) (Or.inl ⟨by kernel_rfl, ?ha7⟩) (by assumption) ?ra7
        case ha7 => intro W hW; obtain ⟨⟨d0, d1, d2⟩, g0, g1, g2⟩ := hW; go_simp; all_goals with_reducible rfl
        change wpAnyH _ _ _ _ _ _ _ (Act.put _ (some 27) _) _
        simp only [Act.put, List.setIfInBounds_toArray, List.set_cons_zero, List.set_cons_succ]
        refine wpAnyH_ready (rs := [8]) (by kernel_rfl) (by simp) ?_
        refine AllReadyH.cons rfl (fun KK hK => ?_) AllReadyH.nil
        go_simp
        refine (hS _).mono ?_
        rintro e w2 ⟨rfl, hB2⟩
        go_wp2_with fail
        refine hK.out _ _ ⟨⟨by rw [hB2.cell hb1]; exact x0, by rw [hB2.cell hb1]; exact x1, by rw [hB2.cell hb1]; exact x2⟩, by rw [hB2.cell hb2]; exact y0, by rw [hB2.cell hb2]; exact y1, by rw [hB2.cell hb2]; exact y2⟩ (fun hHeld => ?_)
        clear hK KK
        try simp only [Act.put, List.setIfInBounds_toArray, List.set_cons_zero, List.set_cons_succ]
        refine' wpAnyH_take (i := 9) (v := _) rfl (by kernel_rfl) (by kernel_rfl) (by kernel_rfl) (fun _ _ _ h => h) (Or.inl ⟨by kernel_rfl, ?ha9⟩) (by assumption) ?ra9
        case ha9 => intro W hW; obtain ⟨⟨d0, d1, d2⟩, g0, g1, g2⟩ := hW; go_simp; all_goals with_reducible rfl
        change wpAnyH _ _ _ _ _ _ _ (Act.put _ (some 29) _) _
        simp only [Act.put, List.setIfInBounds_toArray, List.set_cons_zero, List.set_cons_succ]
        refine wpAnyH_done (by kernel_rfl) ?_ _
        have hB3 : Hid (Below w.heap.size w w2) := hB.trans (Below.trans (Below.drew (Below.refl _ _)) (hB2.mono (by have := hB.size; exact this)))
        obtain ⟨⟨x0, x1, x2⟩, y0, y1, y2⟩ := hHeld
        replace hb1 : b1 < w2.heap.size := Nat.lt_of_lt_of_le hb1 hB2.size
        replace hb2 : b2 < w2.heap.size := Nat.lt_of_lt_of_le hb2 hB2.size
        clear hS
        cases o with
        | true =>
          go_wp2
          go_roundg (m - (k + 1))
          case measure => omega
          case rel => exact ⟨k + 1, by omega, by omega, rfl, by go_num, hB3.out, HN.out (by simp)⟩
        | false =>
          have HO2 : Hid (lessK n fd m fk fn fs m' fk' fn' fs' = (decide (k < n) && lessP p3 q0 q1 q2 r0 r1 r2)) := HO.out (by simp)
          clear HO HN
          by_cases hkn : k < n
          · have hkn' : (k : Int) < (n : Int) := by omega
            obtain ⟨b0, o0, rfl, hb0, t0, t1, t2, t3⟩ := hpl.out hkn
            have e0 : w2.cell? ⟨b0, o0 + k * 4, none⟩ = some (.int .i64 p0) := by rw [hB2.cell hb0]; exact t0
            have e1 : w2.cell? ⟨b0, o0 + k * 4 + 1, none⟩ = some (.int .i64 p1) := by rw [hB2.cell hb0]; exact t1
            have e2 : w2.cell? ⟨b0, o0 + k * 4 + 2, none⟩ = some (.bool p2) := by rw [hB2.cell hb0]; exact t2
            have e3 : w2.cell? ⟨b0, o0 + k * 4 + 3, none⟩ = some (.bool p3) := by rw [hB2.cell hb0]; exact t3
            replace hb0 : b0 < w2.heap.size := Nat.lt_of_lt_of_le hb0 hB2.size
            obtain ⟨z, hz⟩ : ∃ z, Hid (lessP p3 q0 q1 q2 r0 r1 r2 = z) := ⟨_, rfl⟩
            rw [hz.out] at hP HO2
            rw [decide_eq_true hkn, Bool.true_and] at HO2
            clear t0 t1 t2 t3 hpl hz
            go_wp2_with fail
            refine wp_region_held_drew (S := fun W => (W.cell? ⟨b0, o0 + k * 4, none⟩ = some (.int .i64 p0) ∧ W.cell? ⟨b0, o0 + k * 4 + 1, none⟩ = some (.int .i64 p1) ∧ W.cell? ⟨b0, o0 + k * 4 + 2, none⟩ = some (.bool p2) ∧ W.cell? ⟨b0, o0 + k * 4 + 3, none⟩ = some (.bool p3)) ∧ (W.cell? ⟨b1, o1 + k * 3, none⟩ = some (.int .i64 q0) ∧ W.cell? ⟨b1, o1 + k * 3 + 1, none⟩ = some (.int .i64 q1) ∧ W.cell? ⟨b1, o1 + k * 3 + 2, none⟩ = some (.string q2)) ∧ (W.cell? ⟨b2, o2 + k * 3, none⟩ = some (.int .i64 r0) ∧ W.cell? ⟨b2, o2 + k * 3 + 1, none⟩ = some (.int .i64 r1) ∧ W.cell? ⟨b2, o2 + k * 3 + 2, none⟩ = some (.string r2))) (by kernel_rfl) (⟨⟨e0, e1, e2, e3⟩, ⟨x0, x1, x2⟩, y0, y1, y2⟩) (fun hHeld => ?_)
            refine' wpAnyH_take (i := 0) (v := _) rfl (by kernel_rfl) (by kernel_rfl) (by kernel_rfl) (fun _ _ _ h => h) (Or.inl ⟨by kernel_rfl, ?hb0⟩) (by assumption) ?rb0
            case hb0 => intro W hW; obtain ⟨⟨a0, a1, a2, a3⟩, ⟨d0, d1, d2⟩, g0, g1, g2⟩ := hW; go_simp; all_goals with_reducible rfl
            change wpAnyH _ _ _ _ _ _ _ (Act.put _ (some 30) _) _
            simp only [Act.put, List.setIfInBounds_toArray, List.set_cons_zero, List.set_cons_succ]
            refine' wpAnyH_take (i := 1) (v := _) rfl (by kernel_rfl) (by kernel_rfl) (by kernel_rfl) (fun _ _ _ h => h) (Or.inl ⟨by kernel_rfl, ?hb1⟩) (by assumption) ?rb1
            case hb1 => intro W hW; obtain ⟨⟨a0, a1, a2, a3⟩, ⟨d0, d1, d2⟩, g0, g1, g2⟩ := hW; go_simp; all_goals with_reducible rfl
            change wpAnyH _ _ _ _ _ _ _ (Act.put _ (some 31) _) _
            simp only [Act.put, List.setIfInBounds_toArray, List.set_cons_zero, List.set_cons_succ]
            refine' wpAnyH_take (i := 2) (v := _) rfl (by kernel_rfl) (by kernel_rfl) (by kernel_rfl) (fun _ _ _ h => h) (Or.inl ⟨by kernel_rfl, ?hb2⟩) (by assumption) ?rb2
            case hb2 => intro W hW; obtain ⟨⟨a0, a1, a2, a3⟩, ⟨d0, d1, d2⟩, g0, g1, g2⟩ := hW; go_simp; all_goals with_reducible rfl
            change wpAnyH _ _ _ _ _ _ _ (Act.put _ (some 32) _) _
            simp only [Act.put, List.setIfInBounds_toArray, List.set_cons_zero, List.set_cons_succ]
            refine' wpAnyH_take (i := 3) (v := _) rfl (by kernel_rfl) (by kernel_rfl) (by kernel_rfl) (fun _ _ _ h => h) (Or.inl ⟨by kernel_rfl, ?hb3⟩) (by assumption) ?rb3
            case hb3 => intro W hW; obtain ⟨⟨a0, a1, a2, a3⟩, ⟨d0, d1, d2⟩, g0, g1, g2⟩ := hW; go_simp; all_goals with_reducible rfl
            change wpAnyH _ _ _ _ _ _ _ (Act.put _ (some 33) _) _
            simp only [Act.put, List.setIfInBounds_toArray, List.set_cons_zero, List.set_cons_succ]
            refine' wpAnyH_take (i := 4) (v := _) rfl (by kernel_rfl) (by kernel_rfl) (by kernel_rfl) (fun _ _ _ h => h) (Or.inl ⟨by kernel_rfl, ?hb4⟩) (by assumption) ?rb4
            case hb4 => intro W hW; obtain ⟨⟨a0, a1, a2, a3⟩, ⟨d0, d1, d2⟩, g0, g1, g2⟩ := hW; go_simp; all_goals with_reducible rfl
            change wpAnyH _ _ _ _ _ _ _ (Act.put _ (some 34) _) _
            simp only [Act.put, List.setIfInBounds_toArray, List.set_cons_zero, List.set_cons_succ]
            refine' wpAnyH_take (i := 5) (v := _) rfl (by kernel_rfl) (by kernel_rfl) (by kernel_rfl) (fun _ _ _ h => h) (Or.inl ⟨by kernel_rfl, ?hb5⟩) (by assumption) ?rb5
            case hb5 => intro W hW; obtain ⟨⟨a0, a1, a2, a3⟩, ⟨d0, d1, d2⟩, g0, g1, g2⟩ := hW; go_simp; all_goals with_reducible rfl
            change wpAnyH _ _ _ _ _ _ _ (Act.put _ (some 35) _) _
            simp only [Act.put, List.setIfInBounds_toArray, List.set_cons_zero, List.set_cons_succ]
            refine' wpAnyH_take (i := 6) (v := _) rfl (by kernel_rfl) (by kernel_rfl) (by kernel_rfl) (fun _ _ _ h => h) (Or.inl ⟨by kernel_rfl, ?hb6⟩) (by assumption) ?rb6
            case hb6 => intro W hW; obtain ⟨⟨a0, a1, a2, a3⟩, ⟨d0, d1, d2⟩, g0, g1, g2⟩ := hW; go_simp; all_goals with_reducible rfl
            change wpAnyH _ _ _ _ _ _ _ (Act.put _ (some 36) _) _
            simp only [Act.put, List.setIfInBounds_toArray, List.set_cons_zero, List.set_cons_succ]
            refine' wpAnyH_take (i := 7) (v := _) rfl (by kernel_rfl) (by kernel_rfl) (by kernel_rfl) (fun _ _ _ h => h) (Or.inl ⟨by kernel_rfl, ?hb7⟩) (by assumption) ?rb7
            case hb7 => intro W hW; obtain ⟨⟨a0, a1, a2, a3⟩, ⟨d0, d1, d2⟩, g0, g1, g2⟩ := hW; go_simp; all_goals with_reducible rfl
            change wpAnyH _ _ _ _ _ _ _ (Act.put _ (some 37) _) _
            simp only [Act.put, List.setIfInBounds_toArray, List.set_cons_zero, List.set_cons_succ]
            refine' wpAnyH_take (i := 8) (v := _) rfl (by kernel_rfl) (by kernel_rfl) (by kernel_rfl) (fun _ _ _ h => h) (Or.inl ⟨by kernel_rfl, ?hb8⟩) (by assumption) ?rb8
            case hb8 => intro W hW; obtain ⟨⟨a0, a1, a2, a3⟩, ⟨d0, d1, d2⟩, g0, g1, g2⟩ := hW; go_simp; all_goals with_reducible rfl
            change wpAnyH _ _ _ _ _ _ _ (Act.put _ (some 38) _) _
            simp only [Act.put, List.setIfInBounds_toArray, List.set_cons_zero, List.set_cons_succ]
            refine' wpAnyH_take (i := 9) (v := _) rfl (by kernel_rfl) (by kernel_rfl) (by kernel_rfl) (fun _ _ _ h => h) (Or.inl ⟨by kernel_rfl, ?hb9⟩) (by assumption) ?rb9
            case hb9 => intro W hW; obtain ⟨⟨a0, a1, a2, a3⟩, ⟨d0, d1, d2⟩, g0, g1, g2⟩ := hW; go_simp; all_goals with_reducible rfl
            change wpAnyH _ _ _ _ _ _ _ (Act.put _ (some 39) _) _
            simp only [Act.put, List.setIfInBounds_toArray, List.set_cons_zero, List.set_cons_succ]
            refine' wpAnyH_take (i := 10) (v := _) rfl (by kernel_rfl) (by kernel_rfl) (by kernel_rfl) (fun _ _ _ h => h) (Or.inl ⟨by kernel_rfl, ?hb10⟩) (by assumption) ?rb10
            case hb10 => intro W hW; obtain ⟨⟨a0, a1, a2, a3⟩, ⟨d0, d1, d2⟩, g0, g1, g2⟩ := hW; go_simp; all_goals with_reducible rfl
            change wpAnyH _ _ _ _ _ _ _ (Act.put _ (some 40) _) _
            simp only [Act.put, List.setIfInBounds_toArray, List.set_cons_zero, List.set_cons_succ]
            refine' wpAnyH_take (i := 11) (v := _) rfl (by kernel_rfl) (by kernel_rfl) (by kernel_rfl) (fun _ _ _ h => h) (Or.inl ⟨by kernel_rfl, ?hb11⟩) (by assumption) ?rb11
            case hb11 => intro W hW; obtain ⟨⟨a0, a1, a2, a3⟩, ⟨d0, d1, d2⟩, g0, g1, g2⟩ := hW; go_simp; all_goals with_reducible rfl
            change wpAnyH _ _ _ _ _ _ _ (Act.put _ (some 41) _) _
            simp only [Act.put, List.setIfInBounds_toArray, List.set_cons_zero, List.set_cons_succ]
            refine' wpAnyH_take (i := 12) (v := _) rfl (by kernel_rfl) (by kernel_rfl) (by kernel_rfl) (fun _ _ _ h => h) (Or.inl ⟨by kernel_rfl, ?hb12⟩) (by assumption) ?rb12
            case hb12 => intro W hW; obtain ⟨⟨a0, a1, a2, a3⟩, ⟨d0, d1, d2⟩, g0, g1, g2⟩ := hW; go_simp; all_goals with_reducible rfl
            change wpAnyH _ _ _ _ _ _ _ (Act.put _ (some 42) _) _
            simp only [Act.put, List.setIfInBounds_toArray, List.set_cons_zero, List.set_cons_succ]
            refine' wpAnyH_take (i := 13) (v := _) rfl (by kernel_rfl) (by kernel_rfl) (by kernel_rfl) (fun _ _ _ h => h) (Or.inl ⟨by kernel_rfl, ?hb13⟩) (by assumption) ?rb13
            case hb13 => intro W hW; obtain ⟨⟨a0, a1, a2, a3⟩, ⟨d0, d1, d2⟩, g0, g1, g2⟩ := hW; go_simp; all_goals with_reducible rfl
            change wpAnyH _ _ _ _ _ _ _ (Act.put _ (some 43) _) _
            simp only [Act.put, List.setIfInBounds_toArray, List.set_cons_zero, List.set_cons_succ]
            refine' wpAnyH_take (i := 14) (v := _) rfl (by kernel_rfl) (by kernel_rfl) (by kernel_rfl) (fun _ _ _ h => h) (Or.inl ⟨by kernel_rfl, ?hb14⟩) (by assumption) ?rb14
            case hb14 => intro W hW; obtain ⟨⟨a0, a1, a2, a3⟩, ⟨d0, d1, d2⟩, g0, g1, g2⟩ := hW; go_simp; all_goals with_reducible rfl
            change wpAnyH _ _ _ _ _ _ _ (Act.put _ (some 44) _) _
            simp only [Act.put, List.setIfInBounds_toArray, List.set_cons_zero, List.set_cons_succ]
            refine' wpAnyH_take (i := 15) (v := _) rfl (by kernel_rfl) (by kernel_rfl) (by kernel_rfl) (fun _ _ _ h => h) (Or.inl ⟨by kernel_rfl, ?hb15⟩) (by assumption) ?rb15
            case hb15 => intro W hW; obtain ⟨⟨a0, a1, a2, a3⟩, ⟨d0, d1, d2⟩, g0, g1, g2⟩ := hW; go_simp; all_goals with_reducible rfl
            change wpAnyH _ _ _ _ _ _ _ (Act.put _ (some 45) _) _
            simp only [Act.put, List.setIfInBounds_toArray, List.set_cons_zero, List.set_cons_succ]
            refine' wpAnyH_take (i := 16) (v := _) rfl (by kernel_rfl) (by kernel_rfl) (by kernel_rfl) (fun _ _ _ h => h) (Or.inl ⟨by kernel_rfl, ?hb16⟩) (by assumption) ?rb16
            case hb16 => intro W hW; obtain ⟨⟨a0, a1, a2, a3⟩, ⟨d0, d1, d2⟩, g0, g1, g2⟩ := hW; go_simp; all_goals with_reducible rfl
            change wpAnyH _ _ _ _ _ _ _ (Act.put _ (some 46) _) _
            simp only [Act.put, List.setIfInBounds_toArray, List.set_cons_zero, List.set_cons_succ]
            refine wpAnyH_ready (rs := [17]) (by kernel_rfl) (by simp) ?_
            refine AllReadyH.cons rfl (fun KK hK => ?_) AllReadyH.nil
            go_simp
            refine (hP _).mono ?_
            rintro e w3 ⟨rfl, hB4⟩
            go_wp2_with fail
            refine hK.out _ _ ⟨⟨by rw [hB4.cell hb0]; exact e0, by rw [hB4.cell hb0]; exact e1, by rw [hB4.cell hb0]; exact e2, by rw [hB4.cell hb0]; exact e3⟩, ⟨by rw [hB4.cell hb1]; exact x0, by rw [hB4.cell hb1]; exact x1, by rw [hB4.cell hb1]; exact x2⟩, by rw [hB4.cell hb2]; exact y0, by rw [hB4.cell hb2]; exact y1, by rw [hB4.cell hb2]; exact y2⟩ (fun hHeld => ?_)
            clear hK KK
            try simp only [Act.put, List.setIfInBounds_toArray, List.set_cons_zero, List.set_cons_succ]
            refine' wpAnyH_take (i := 18) (v := _) rfl (by kernel_rfl) (by kernel_rfl) (by kernel_rfl) (fun _ _ _ h => h) (Or.inl ⟨by kernel_rfl, ?hb18⟩) (by assumption) ?rb18
            case hb18 => intro W hW; obtain ⟨⟨a0, a1, a2, a3⟩, ⟨d0, d1, d2⟩, g0, g1, g2⟩ := hW; go_simp; all_goals with_reducible rfl
            change wpAnyH _ _ _ _ _ _ _ (Act.put _ (some 48) _) _
            simp only [Act.put, List.setIfInBounds_toArray, List.set_cons_zero, List.set_cons_succ]
            refine' wpAnyH_take (i := 19) (v := _) rfl (by kernel_rfl) (by kernel_rfl) (by kernel_rfl) (fun _ _ _ h => h) (Or.inl ⟨by kernel_rfl, ?hb19⟩) (by assumption) ?rb19
            case hb19 => intro W hW; obtain ⟨⟨a0, a1, a2, a3⟩, ⟨d0, d1, d2⟩, g0, g1, g2⟩ := hW; go_simp; all_goals with_reducible rfl
            change wpAnyH _ _ _ _ _ _ _ (Act.put _ (some 6) _) _
            simp only [Act.put, List.setIfInBounds_toArray, List.set_cons_zero, List.set_cons_succ]
            refine wpAnyH_done (by kernel_rfl) ?_ _
            have hB5 : Hid (Below w.heap.size w w3) := hB3.out.trans (Below.trans (Below.drew (Below.refl _ _)) (hB4.mono (by have := hB3.out.size; exact this)))
            clear hHeld x0 x1 x2 y0 y1 y2 e0 e1 e2 e3 hP
            go_wp2
            go_ret
            exact ⟨by rw [HO2.out]; rfl, hB5.out⟩
          · have hkn' : ¬ (k : Int) < (n : Int) := by omega
            rw [decide_eq_false hkn, Bool.false_and] at HO2
            clear hpl
            go_wp2_with fail
            refine wp_region_held_drew (S := fun W => (W.cell? ⟨b1, o1 + k * 3, none⟩ = some (.int .i64 q0) ∧ W.cell? ⟨b1, o1 + k * 3 + 1, none⟩ = some (.int .i64 q1) ∧ W.cell? ⟨b1, o1 + k * 3 + 2, none⟩ = some (.string q2)) ∧ (W.cell? ⟨b2, o2 + k * 3, none⟩ = some (.int .i64 r0) ∧ W.cell? ⟨b2, o2 + k * 3 + 1, none⟩ = some (.int .i64 r1) ∧ W.cell? ⟨b2, o2 + k * 3 + 2, none⟩ = some (.string r2))) (by kernel_rfl) (⟨⟨x0, x1, x2⟩, y0, y1, y2⟩) (fun hHeld => ?_)
            refine' wpAnyH_take (i := 0) (v := _) rfl (by kernel_rfl) (by kernel_rfl) (by kernel_rfl) (fun _ _ _ h => h) (Or.inl ⟨by kernel_rfl, ?hc0⟩) (by assumption) ?rc0
            case hc0 => intro W hW; obtain ⟨⟨d0, d1, d2⟩, g0, g1, g2⟩ := hW; go_simp; all_goals with_reducible rfl
            change wpAnyH _ _ _ _ _ _ _ (Act.put _ (some 30) _) _
            simp only [Act.put, List.setIfInBounds_toArray, List.set_cons_zero, List.set_cons_succ]
            refine' wpAnyH_take (i := 1) (v := _) rfl (by kernel_rfl) (by kernel_rfl) (by kernel_rfl) (fun _ _ _ h => h) (Or.inl ⟨by kernel_rfl, ?hc1⟩) (by assumption) ?rc1
            case hc1 => intro W hW; obtain ⟨⟨d0, d1, d2⟩, g0, g1, g2⟩ := hW; go_simp; all_goals with_reducible rfl
            change wpAnyH _ _ _ _ _ _ _ (Act.put _ (some 31) _) _
            simp only [Act.put, List.setIfInBounds_toArray, List.set_cons_zero, List.set_cons_succ]
            refine' wpAnyH_take (i := 2) (v := _) rfl (by kernel_rfl) (by kernel_rfl) (by kernel_rfl) (fun _ _ _ h => h) (Or.inl ⟨by kernel_rfl, ?hc2⟩) (by assumption) ?rc2
            case hc2 => intro W hW; obtain ⟨⟨d0, d1, d2⟩, g0, g1, g2⟩ := hW; go_simp; all_goals with_reducible rfl
            change wpAnyH _ _ _ _ _ _ _ (Act.put _ (some 32) _) _
            simp only [Act.put, List.setIfInBounds_toArray, List.set_cons_zero, List.set_cons_succ]
            refine' wpAnyH_take (i := 3) (v := _) rfl (by kernel_rfl) (by kernel_rfl) (by kernel_rfl) (fun _ _ _ h => h) (Or.inl ⟨by kernel_rfl, ?hc3⟩) (by assumption) ?rc3
            case hc3 => intro W hW; obtain ⟨⟨d0, d1, d2⟩, g0, g1, g2⟩ := hW; go_simp; all_goals with_reducible rfl
            change wpAnyH _ _ _ _ _ _ _ (Act.put _ (some 33) _) _
            simp only [Act.put, List.setIfInBounds_toArray, List.set_cons_zero, List.set_cons_succ]
            refine' wpAnyH_take (i := 4) (v := _) rfl (by kernel_rfl) (by kernel_rfl) (by kernel_rfl) (fun _ _ _ h => h) (Or.inl ⟨by kernel_rfl, ?hc4⟩) (by assumption) ?rc4
            case hc4 => intro W hW; obtain ⟨⟨d0, d1, d2⟩, g0, g1, g2⟩ := hW; go_simp; all_goals with_reducible rfl
            change wpAnyH _ _ _ _ _ _ _ (Act.put _ (some 34) _) _
            simp only [Act.put, List.setIfInBounds_toArray, List.set_cons_zero, List.set_cons_succ]
            refine wpAnyH_take (i := 5) (v := undef) rfl (by kernel_rfl) (by kernel_rfl) (by kernel_rfl) (fun _ _ _ h => h) (Or.inr ⟨by kernel_rfl, rfl⟩) (by assumption) ?_
            change wpAnyH _ _ _ _ _ _ _ (Act.put _ (some 35) _) _
            simp only [Act.put, List.setIfInBounds_toArray, List.set_cons_zero, List.set_cons_succ]
            refine wpAnyH_take (i := 6) (v := undef) rfl (by kernel_rfl) (by kernel_rfl) (by kernel_rfl) (fun _ _ _ h => h) (Or.inr ⟨by kernel_rfl, rfl⟩) (by assumption) ?_
            change wpAnyH _ _ _ _ _ _ _ (Act.put _ (some 36) _) _
            simp only [Act.put, List.setIfInBounds_toArray, List.set_cons_zero, List.set_cons_succ]
            refine wpAnyH_take (i := 7) (v := undef) rfl (by kernel_rfl) (by kernel_rfl) (by kernel_rfl) (fun _ _ _ h => h) (Or.inr ⟨by kernel_rfl, rfl⟩) (by assumption) ?_
            change wpAnyH _ _ _ _ _ _ _ (Act.put _ (some 37) _) _
            simp only [Act.put, List.setIfInBounds_toArray, List.set_cons_zero, List.set_cons_succ]
            refine wpAnyH_take (i := 8) (v := undef) rfl (by kernel_rfl) (by kernel_rfl) (by kernel_rfl) (fun _ _ _ h => h) (Or.inr ⟨by kernel_rfl, rfl⟩) (by assumption) ?_
            change wpAnyH _ _ _ _ _ _ _ (Act.put _ (some 38) _) _
            simp only [Act.put, List.setIfInBounds_toArray, List.set_cons_zero, List.set_cons_succ]
            refine wpAnyH_take (i := 9) (v := undef) rfl (by kernel_rfl) (by kernel_rfl) (by kernel_rfl) (fun _ _ _ h => h) (Or.inr ⟨by kernel_rfl, rfl⟩) (by assumption) ?_
            change wpAnyH _ _ _ _ _ _ _ (Act.put _ (some 39) _) _
            simp only [Act.put, List.setIfInBounds_toArray, List.set_cons_zero, List.set_cons_succ]
            refine wpAnyH_take (i := 10) (v := undef) rfl (by kernel_rfl) (by kernel_rfl) (by kernel_rfl) (fun _ _ _ h => h) (Or.inr ⟨by kernel_rfl, rfl⟩) (by assumption) ?_
            change wpAnyH _ _ _ _ _ _ _ (Act.put _ (some 40) _) _
            simp only [Act.put, List.setIfInBounds_toArray, List.set_cons_zero, List.set_cons_succ]
            refine wpAnyH_take (i := 11) (v := undef) rfl (by kernel_rfl) (by kernel_rfl) (by kernel_rfl) (fun _ _ _ h => h) (Or.inr ⟨by kernel_rfl, rfl⟩) (by assumption) ?_
            change wpAnyH _ _ _ _ _ _ _ (Act.put _ (some 41) _) _
            simp only [Act.put, List.setIfInBounds_toArray, List.set_cons_zero, List.set_cons_succ]
            refine wpAnyH_take (i := 12) (v := undef) rfl (by kernel_rfl) (by kernel_rfl) (by kernel_rfl) (fun _ _ _ h => h) (Or.inr ⟨by kernel_rfl, rfl⟩) (by assumption) ?_
            change wpAnyH _ _ _ _ _ _ _ (Act.put _ (some 42) _) _
            simp only [Act.put, List.setIfInBounds_toArray, List.set_cons_zero, List.set_cons_succ]
            refine wpAnyH_take (i := 13) (v := undef) rfl (by kernel_rfl) (by kernel_rfl) (by kernel_rfl) (fun _ _ _ h => h) (Or.inr ⟨by kernel_rfl, rfl⟩) (by assumption) ?_
            change wpAnyH _ _ _ _ _ _ _ (Act.put _ (some 43) _) _
            simp only [Act.put, List.setIfInBounds_toArray, List.set_cons_zero, List.set_cons_succ]
            refine wpAnyH_take (i := 14) (v := undef) rfl (by kernel_rfl) (by kernel_rfl) (by kernel_rfl) (fun _ _ _ h => h) (Or.inr ⟨by kernel_rfl, rfl⟩) (by assumption) ?_
            change wpAnyH _ _ _ _ _ _ _ (Act.put _ (some 44) _) _
            simp only [Act.put, List.setIfInBounds_toArray, List.set_cons_zero, List.set_cons_succ]
            refine wpAnyH_take (i := 15) (v := undef) rfl (by kernel_rfl) (by kernel_rfl) (by kernel_rfl) (fun _ _ _ h => h) (Or.inr ⟨by kernel_rfl, rfl⟩) (by assumption) ?_
            change wpAnyH _ _ _ _ _ _ _ (Act.put _ (some 45) _) _
            simp only [Act.put, List.setIfInBounds_toArray, List.set_cons_zero, List.set_cons_succ]
            refine wpAnyH_take (i := 16) (v := undef) rfl (by kernel_rfl) (by kernel_rfl) (by kernel_rfl) (fun _ _ _ h => h) (Or.inr ⟨by kernel_rfl, rfl⟩) (by assumption) ?_
            change wpAnyH _ _ _ _ _ _ _ (Act.put _ (some 46) _) _
            simp only [Act.put, List.setIfInBounds_toArray, List.set_cons_zero, List.set_cons_succ]
            refine wpAnyH_take (i := 17) (v := undef) rfl (by kernel_rfl) (by kernel_rfl) (by kernel_rfl) (fun _ _ _ h => h) (Or.inr ⟨by kernel_rfl, rfl⟩) (by assumption) ?_
            change wpAnyH _ _ _ _ _ _ _ (Act.put _ (some 47) _) _
            simp only [Act.put, List.setIfInBounds_toArray, List.set_cons_zero, List.set_cons_succ]
            refine' wpAnyH_take (i := 18) (v := _) rfl (by kernel_rfl) (by kernel_rfl) (by kernel_rfl) (fun _ _ _ h => h) (Or.inl ⟨by kernel_rfl, ?hc18⟩) (by assumption) ?rc18
            case hc18 => intro W hW; obtain ⟨⟨d0, d1, d2⟩, g0, g1, g2⟩ := hW; go_simp; all_goals with_reducible rfl
            change wpAnyH _ _ _ _ _ _ _ (Act.put _ (some 48) _) _
            simp only [Act.put, List.setIfInBounds_toArray, List.set_cons_zero, List.set_cons_succ]
            refine' wpAnyH_take (i := 19) (v := _) rfl (by kernel_rfl) (by kernel_rfl) (by kernel_rfl) (fun _ _ _ h => h) (Or.inl ⟨by kernel_rfl, ?hc19⟩) (by assumption) ?rc19
            case hc19 => intro W hW; obtain ⟨⟨d0, d1, d2⟩, g0, g1, g2⟩ := hW; go_simp; all_goals with_reducible rfl
            change wpAnyH _ _ _ _ _ _ _ (Act.put _ (some 6) _) _
            simp only [Act.put, List.setIfInBounds_toArray, List.set_cons_zero, List.set_cons_succ]
            refine wpAnyH_done (by kernel_rfl) ?_ _
            have hB5 : Hid (Below w.heap.size w w2.drew) := hB3.out.drew
            clear hHeld x0 x1 x2 y0 y1 y2 hP
            go_wp2
            go_ret
            exact ⟨by rw [HO2.out]; rfl, hB5.out⟩
      · have hkz' : ¬ (k : Int) < (m' : Int) := by omega
        have HT : Hid (lessK n fd m fk fn fs m' fk' fn' fs' = decide (m < m')) := lessK_same (fun j hj => HA.out j (by omega))
        have hmm : ¬ (m : Int) < (m' : Int) := by omega
        have HD : Hid (decide (m < m') = false) := decide_eq_false (by omega)
        clear HA
        go_wp2
        go_ret
        exact ⟨by rw [HT.out, HD.out]; rfl, hB⟩
    · have hkz : ¬ (k : Int) < (m : Int) := by omega
      have HT : Hid (lessK n fd m fk fn fs m' fk' fn' fs' = decide (m < m')) := lessK_same (fun j hj => HA.out j (by omega))
      clear HA
      by_cases hmm : m < m'
      · have hmm' : (m : Int) < (m' : Int) := by omega
        have HD : Hid (decide (m < m') = true) := decide_eq_true hmm
        go_wp2
        go_ret
        exact ⟨by rw [HT.out, HD.out]; rfl, hB⟩
      · have hmm' : ¬ (m : Int) < (m' : Int) := by omega
        have HD : Hid (decide (m < m') = false) := decide_eq_false hmm
        go_wp2
        go_ret
        exact ⟨by rw [HT.out, HD.out]; rfl, hB⟩
end Go.Proofs.Ytclegljalndaeac

/-
  The model's Flip once more: what it answers is a row of the call's own.
-/
namespace Go.Proofs.Ytclegljalndaeac
open Go.RowKit
set_option maxRecDepth 4000

/-- Block b is a row of bytes of the call's own, none frozen, with room for c of them; the first n are f 0 up to f (n - 1). -/
def RowC (t : TypeId) (w : World) (b n c : Nat) (f : Nat → Int) : Prop :=
  ∃ cur : Array Value, w.heap[b]? = some (.cells cur t (0, 0)) ∧ cur.size = c ∧ n ≤ c ∧ c ≤ maxLen ∧ ∀ i, i < n → cur[i]? = some (.int .u8 (f i))
namespace RowC
variable {t : TypeId} {w w' : World} {b n c : Nat} {f g : Nat → Int}
theorem row (h : RowC t w b n c f) : Row t w b n f := by
  obtain ⟨cur, h1, h2, h3, _, h5⟩ := h
  exact ⟨cur, h1, by omega, h5⟩
theorem congr (h : RowC t w b n c f) (e : ∀ i, i < n → f i = g i) : RowC t w b n c g := by
  obtain ⟨cur, h1, h2, h3, h4, h5⟩ := h
  exact ⟨cur, h1, h2, h3, h4, fun i hi => by rw [h5 i hi, e i hi]⟩
theorem of_block (h : RowC t w b n c f) (e : w'.heap[b]? = w.heap[b]?) : RowC t w' b n c f := by
  obtain ⟨cur, h1, r⟩ := h
  exact ⟨cur, e.trans h1, r⟩
theorem set (h : RowC t w b n c f) (i : Nat) (x : Int) : RowC t (w.setCell ⟨b, i, none⟩ (.int .u8 x)) b n c (fun j => if j = i then x else f j) := by
  obtain ⟨cur, hb, hs, hn, hm, hc⟩ := h
  refine ⟨cur.setIfInBounds i (.int .u8 x), ?_, by simpa using hs, hn, hm, fun j hj => ?_⟩
  · simp [World.setCell, Array.getElem?_modify, hb]
  · rw [Array.getElem?_setIfInBounds]
    by_cases e : j = i
    · subst e
      have : j < cur.size := by omega
      simp [this]
    · rw [if_neg (fun h => e h.symm)]
      show cur[j]? = some (.int .u8 (if j = i then x else f j))
      rw [if_neg e]
      exact hc j hj
theorem own (h : RowC t w b n c f) {base : Nat} (hb : base ≤ b) : w.ownsRow base t 1 (.slice (some ⟨b, 0, none⟩) n c) n (bl (lof n f)) := by
  obtain ⟨cur, h1, h2, h3, h4, h5⟩ := h
  refine ⟨by rw [bl_len, lof_len]; omega, Or.inr ⟨b, c, cur, rfl, hb, h1, h3, h4, by omega, ?_⟩⟩
  apply List.ext_getElem?
  intro i
  rw [Nat.mul_one, List.getElem?_take]
  by_cases hi : i < n
  · rw [if_pos hi, Array.getElem?_toList, h5 i hi]
    simp [bl, lof, hi]
  · rw [if_neg hi, List.getElem?_eq_none (by rw [bl_len, lof_len]; omega)]
theorem ofOwn {base : Nat} {v : Value} {l : List Int} (h : w.ownsRow base t 1 v n (bl l)) (hv : v ≠ .slice none 0 0) : ∃ b c, v = .slice (some ⟨b, 0, none⟩) n c ∧ base ≤ b ∧ RowC t w b n c (fun i => l.getD i 0) := by
  obtain ⟨hl, h⟩ := h
  rcases h with ⟨h0, _⟩ | ⟨g, c, cur, rfl, hb, hg, hnc, hcm, hcs, ht⟩
  · exact absurd h0 hv
  · refine ⟨g, c, rfl, hb, cur, hg, by omega, hnc, hcm, fun i hi => ?_⟩
    have e : (bl l)[i]? = some (.int .u8 (l.getD i 0)) := by
      have : i < l.length := by rw [bl_len] at hl; omega
      simp [bl, this]
    rw [← ht, List.getElem?_take, if_pos (by omega)] at e
    simpa using e
end RowC

/-- k of the n bytes are turned, as far as they are to be. -/
structure FlippedC (t : TypeId) (w wr : World) (g n c : Nat) (f : Nat → Int) (p : Int) (k : Nat) : Prop where
  row : RowC t wr g n c (fun i => if i < k then flipF f p i else f i)
  below : Below w.heap.size w wr

theorem flippedC_turn {t : TypeId} {w wr : World} {g n c : Nat} {f : Nat → Int} {p : Int} {k : Nat} (h : FlippedC t w wr g n c f p k) (hg : w.heap.size ≤ g) (hp : p ≤ k) : FlippedC t w (wr.setCell ⟨g, k, none⟩ (.int .u8 (255 - f k))) g n c f p (k + 1) := by
  refine ⟨(h.row.set k _).congr (fun i _ => ?_), h.below.setCell hg _⟩
  by_cases e : i = k
  · subst e; simp [flipF, hp]
  · rw [if_neg e]
    by_cases hlt : i < k
    · rw [if_pos hlt, if_pos (by omega)]
    · rw [if_neg hlt, if_neg (by omega)]
theorem flippedC_keep {t : TypeId} {w wr : World} {g n c : Nat} {f : Nat → Int} {p : Int} {k : Nat} (h : FlippedC t w wr g n c f p k) (hp : ¬ p ≤ k) : FlippedC t w wr g n c f p (k + 1) := by
  refine ⟨h.row.congr (fun i _ => ?_), h.below⟩
  by_cases e : i = k
  · subst e; simp [flipF, hp]
  · by_cases hlt : i < k
    · rw [if_pos hlt, if_pos (by omega)]
    · rw [if_neg hlt, if_neg (by omega)]

set_option maxHeartbeats 1000000 in
theorem flip_own (b off n cap : Nat) (f : Nat → Int) (p : Int) (w : World) (hv : View w (some ⟨b, off, none⟩) n cap f) (hn : n ≤ 70368744177664) :
    Calls Try.prog 51 #[.slice (some ⟨b, off, none⟩) n cap, .int .i64 p] w fun e w' => ∃ g c, e = .returned (.slice (some ⟨g, 0, none⟩) n c) ∧ w.heap.size ≤ g ∧ RowC 5 w' g n c (flipF f p) ∧ Below w.heap.size w w' := by
  obtain ⟨i0, hi, hz0, hz1, hz2⟩ := info_parts Try.info5
  have hown0 := World.ownsRow_lit (base := w.heap.size) (e := 5) (size := 1) w #[] 0 (Nat.le_refl _) (Nat.zero_le _) rfl
  have hb0 : Below w.heap.size w (w.alloc (.cells #[] 5)) := (Below.refl _ _).alloc (Nat.le_refl _) _
  have hcl := cells_of_view (hv.below hb0)
  have hsz : (w.alloc (.cells #[] 5)).heap.size = w.heap.size + 1 := by simp
  have hby := hv.byte
  go_enter Try.func51, Try.ntmps51
  go_wp2_with (at_builtin; go_must (refine wpList_append_own _ rfl (.tmp 7) (.tmp 8) 22 rfl w.heap.size 5 i0 (.int .u8 0) 1 1 Try.underlying22 hi hz0 hz1 hz2 rfl (by decide) (.slice (some ⟨w.heap.size, 0, none⟩) 0 0) 0 [] rfl hown0 ⟨b, off, none⟩ n cap (bl (lof n f)) rfl (by rw [bl_len, lof_len]; omega) hcl (bl_one _) (by unfold maxLen; omega) (by omega) (by rw [hsz]; omega) ?_); intro v1 w1 hown1 hgr1 hnil; simp only [Nat.zero_add, List.nil_append] at hown1; obtain ⟨g, c, rfl, hg, hrow⟩ := RowC.ofOwn hown1 (by intro h; have := (hnil.1 h).1; cases this))
  have hb1 : Below w.heap.size w w1 := hb0.grown hgr1 (by simp) (fun k hk => by simp only [Value.ownBlock, Option.some.injEq] at hk; omega)
  have hF0 : FlippedC 5 w w1 g n c f p 0 := ⟨hrow.congr (fun i hi => by rw [lof_get n f i hi]; simp), hb1⟩
  clear hown0 hcl hsz hgr1 hb0 hv hown1 hnil hrow hb1
  go_loopg [6] n (fun q i wr => ∃ k : Nat, k ≤ n ∧ q = n - k ∧ i = .int .i64 k ∧ FlippedC 5 w wr g n c f p k)
  case atStart => exact ⟨0, Nat.zero_le _, rfl, rfl, hF0⟩
  case round =>
    obtain ⟨k, hk, rfl, rfl, hF⟩ := hrel
    clear hF0
    by_cases hlt : k < n
    · have hkz : (k : Int) < (n : Int) := by omega
      by_cases hp : p ≤ (k : Int)
      · have hS : Hid (FlippedC 5 w (wr.setCell ⟨g, k, none⟩ (.int .u8 (255 - f k))) g n c f p (k + 1)) := flippedC_turn hF hg hp
        have hc : wr.cell? ⟨g, k, none⟩ = some (.int .u8 (f k)) := by rw [hF.row.row.cell hlt, if_neg (Nat.lt_irrefl _)]
        have hf := hF.row.row.frozen k
        have hx : bits .xor .u8 IntKind.u8.max (f k) = 255 - f k := u8_not _ (hby k hlt).1 (hby k hlt).2
        clear hF hby
        go_wp2
        go_roundg (n - (k + 1))
        case measure => omega
        case rel => exact ⟨k + 1, by omega, rfl, by go_num, hS.out⟩
      · have hS : Hid (FlippedC 5 w wr g n c f p (k + 1)) := flippedC_keep hF hp
        clear hF hby
        go_wp2
        go_roundg (n - (k + 1))
        case measure => omega
        case rel => exact ⟨k + 1, by omega, rfl, by go_num, hS.out⟩
    · obtain rfl : k = n := by omega
      have hR : Hid (RowC 5 wr g k c (flipF f p)) := hF.row.congr (fun i hi => by rw [if_pos hi])
      have hB := hF.below
      clear hF hby
      go_wp2
      go_ret
      exact ⟨g, c, rfl, hg, hR.out, hB⟩
end Go.Proofs.Ytclegljalndaeac

