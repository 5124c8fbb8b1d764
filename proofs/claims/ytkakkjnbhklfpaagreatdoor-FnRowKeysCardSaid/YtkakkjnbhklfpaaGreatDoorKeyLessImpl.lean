/-
  KeyLessImpl
-/
import Derived.Test.YtkakkjnbhklfpaaGreatDoorPackR3
import Derived.Test.YtkakkjnbhklfpaaGreatDoorPackR4
import Derived.Test.YtkakkjnbhklfpaaGreatDoorPackR6
import Derived.Test.YtkakkjnbhklfpaaGreatDoorPackR15
import Derived.Deep.LoopGhost
import Derived.Deep.RegionHeld3
/-
  The program's LessKey comes to the plain one.
-/
namespace Go.Proofs.YtkakkjnbhklfpaaGreatDoor
open Go.RowKit
set_option maxRecDepth 4000

set_option linter.unusedSimpArgs false in
set_option maxHeartbeats 4000000 in
theorem implLessKey_any (a : Option Addr) (n cap : Nat) (fc ft : Nat → Int) (fu fd : Nat → Bool) (a1 : Option Addr) (m c1 : Nat) (fk fn : Nat → Int) (fs : Nat → ByteArray) (a2 : Option Addr) (m' c2 : Nat) (fk' fn' : Nat → Int) (fs' : Nat → ByteArray) (w : World) (hpv : PView w a n cap fc ft fu fd) (h1 : VView w a1 m c1 fk fn fs) (h2 : VView w a2 m' c2 fk' fn' fs') (hn : n ≤ 281474976710656) (hm : m ≤ 281474976710656) (hm' : m' ≤ 281474976710656) :
    Calls Tryz.prog 15 #[.slice a n cap, .slice a1 m c1, .slice a2 m' c2] w fun e w' => e = .returned (.bool (lessK n fd m fk fn fs m' fk' fn' fs')) ∧ Below w.heap.size w w' := by
  rcases Nat.lt_or_ge m' m with hmin | hmin
  · have hminz : (m' : Int) < (m : Int) := by omega
    go_enter Tryz.func15, Tryz.ntmps15
    go_wp2
    go_loopg [13] m (fun q i wr => ∃ k : Nat, k ≤ m ∧ k ≤ m' ∧ q = m - k ∧ i = .int .i64 k ∧ Below w.heap.size w wr ∧ ∀ j, j < k → sameAt fk fn fs fk' fn' fs' j = true)
    case atStart => exact ⟨0, Nat.zero_le _, Nat.zero_le _, rfl, rfl, Below.refl _ _, fun j hj => absurd hj (Nat.not_lt_zero _)⟩
    case round =>
      obtain ⟨k, hk, hk', rfl, rfl, hB, hall⟩ := hrel
      have HA : Hid (∀ j, j < k → sameAt fk fn fs fk' fn' fs' j = true) := hall
      clear hall
      by_cases hlt : k < m
      · have hkz : (k : Int) < (m : Int) := by omega
        by_cases hlt' : k < m'
        · have hkz' : (k : Int) < (m' : Int) := by omega
          obtain ⟨b1, o1, rfl, hb1, hd1⟩ := (h1.below hB).cells (by omega)
          obtain ⟨b2, o2, rfl, hb2, hd2⟩ := (h2.below hB).cells (by omega)
          obtain ⟨x0, x1, x2⟩ := hd1 k hlt
          obtain ⟨y0, y1, y2⟩ := hd2 k hlt'
          obtain ⟨o, ho⟩ : ∃ o, Hid (sameAt fk fn fs fk' fn' fs' k = o) := ⟨_, rfl⟩
          have hS := fun W => sameVal_impl (fk k) (fn k) (fs k) (fk' k) (fn' k) (fs' k) W
          have ho' : eqV (fk k) (fn k) (fs k) (fk' k) (fn' k) (fs' k) = o := ho.out
          rw [ho'] at hS
          have HO : Hid (o = false → lessK n fd m fk fn fs m' fk' fn' fs' = (decide (k < n) && lessP (fd k) (fk k) (fn k) (fs k) (fk' k) (fn' k) (fs' k))) := by
            intro e
            exact lessK_at hlt hlt' (ho.out.trans e) HA.out
          have HN : Hid (o = true → ∀ j, j < k + 1 → sameAt fk fn fs fk' fn' fs' j = true) := by
            intro e j hj
            by_cases ej : j < k
            · exact HA.out j ej
            · obtain rfl : j = k := by omega
              rw [ho.out, e]
          have hP := fun W => implLessPart_any (fc k) (ft k) (fu k) (fd k) (fk k) (fn k) (fs k) (fk' k) (fn' k) (fs' k) W
          have hpl : Hid (k < n → ∃ b0 o0, a = some ⟨b0, o0, none⟩ ∧ b0 < wr.heap.size ∧ wr.cell? ⟨b0, o0 + k * 4, none⟩ = some (.int .i64 (fc k)) ∧ wr.cell? ⟨b0, o0 + k * 4 + 1, none⟩ = some (.int .i64 (ft k)) ∧ wr.cell? ⟨b0, o0 + k * 4 + 2, none⟩ = some (.bool (fu k)) ∧ wr.cell? ⟨b0, o0 + k * 4 + 3, none⟩ = some (.bool (fd k))) := by
            intro e
            obtain ⟨b0, o0, e0, hb0, hd0⟩ := (hpv.below hB).cells (by omega)
            exact ⟨b0, o0, e0, hb0, hd0 k e⟩
          clear hd1 hd2 hpv h1 h2 ho ho' HA
          obtain ⟨p0, hp0⟩ : ∃ p, Hid (fc k = p) := ⟨_, rfl⟩
          obtain ⟨p1, hp1⟩ : ∃ p, Hid (ft k = p) := ⟨_, rfl⟩
          obtain ⟨p2, hp2⟩ : ∃ p, Hid (fu k = p) := ⟨_, rfl⟩
          obtain ⟨p3, hp3⟩ : ∃ p, Hid (fd k = p) := ⟨_, rfl⟩
          obtain ⟨q0, hq0⟩ : ∃ p, Hid (fk k = p) := ⟨_, rfl⟩
          obtain ⟨q1, hq1⟩ : ∃ p, Hid (fn k = p) := ⟨_, rfl⟩
          obtain ⟨q2, hq2⟩ : ∃ p, Hid (fs k = p) := ⟨_, rfl⟩
          obtain ⟨r0, hr0⟩ : ∃ p, Hid (fk' k = p) := ⟨_, rfl⟩
          obtain ⟨r1, hr1⟩ : ∃ p, Hid (fn' k = p) := ⟨_, rfl⟩
          obtain ⟨r2, hr2⟩ : ∃ p, Hid (fs' k = p) := ⟨_, rfl⟩
          rw [hp0.out, hp1.out, hp2.out, hp3.out] at hpl
          rw [hp0.out, hp1.out, hp2.out, hp3.out, hq0.out, hq1.out, hq2.out, hr0.out, hr1.out, hr2.out] at hP
          rw [hq0.out, hq1.out, hq2.out, hr0.out, hr1.out, hr2.out] at hS
          rw [hp3.out, hq0.out, hq1.out, hq2.out, hr0.out, hr1.out, hr2.out] at HO
          rw [hq0.out] at x0
          rw [hq1.out] at x1
          rw [hq2.out] at x2
          rw [hr0.out] at y0
          rw [hr1.out] at y1
          rw [hr2.out] at y2
          go_wp2_with fail
          refine wp_region_held_drew (S := fun W => (W.cell? ⟨b1, o1 + k * 3, none⟩ = some (.int .i64 q0) ∧ W.cell? ⟨b1, o1 + k * 3 + 1, none⟩ = some (.int .i64 q1) ∧ W.cell? ⟨b1, o1 + k * 3 + 2, none⟩ = some (.string q2)) ∧ (W.cell? ⟨b2, o2 + k * 3, none⟩ = some (.int .i64 r0) ∧ W.cell? ⟨b2, o2 + k * 3 + 1, none⟩ = some (.int .i64 r1) ∧ W.cell? ⟨b2, o2 + k * 3 + 2, none⟩ = some (.string r2))) (by kernel_rfl) (⟨⟨x0, x1, x2⟩, y0, y1, y2⟩) (fun hHeld => ?_)
          refine' wpAnyH_take (i := 0) (v := _) rfl (by kernel_rfl) (by kernel_rfl) (by kernel_rfl) (fun _ _ _ h => h) (Or.inl ⟨by kernel_rfl, ?ha0⟩) (by assumption) ?ra0
          case ha0 => intro W hW; obtain ⟨⟨d0, d1, d2⟩, g0, g1, g2⟩ := hW; go_simp; all_goals with_reducible rfl
          change wpAnyH _ _ _ _ _ _ _ (Act.put _ (some 16) _) _
          simp only [Act.put, List.setIfInBounds_toArray, List.set_cons_zero, List.set_cons_succ]
          refine' wpAnyH_take (i := 1) (v := _) rfl (by kernel_rfl) (by kernel_rfl) (by kernel_rfl) (fun _ _ _ h => h) (Or.inl ⟨by kernel_rfl, ?ha1⟩) (by assumption) ?ra1
          case ha1 => intro W hW; obtain ⟨⟨d0, d1, d2⟩, g0, g1, g2⟩ := hW; go_simp; all_goals with_reducible rfl
          change wpAnyH _ _ _ _ _ _ _ (Act.put _ (some 17) _) _
          simp only [Act.put, List.setIfInBounds_toArray, List.set_cons_zero, List.set_cons_succ]
          refine' wpAnyH_take (i := 2) (v := _) rfl (by kernel_rfl) (by kernel_rfl) (by kernel_rfl) (fun _ _ _ h => h) (Or.inl ⟨by kernel_rfl, ?ha2⟩) (by assumption) ?ra2
          case ha2 => intro W hW; obtain ⟨⟨d0, d1, d2⟩, g0, g1, g2⟩ := hW; go_simp; all_goals with_reducible rfl
          change wpAnyH _ _ _ _ _ _ _ (Act.put _ (some 18) _) _
          simp only [Act.put, List.setIfInBounds_toArray, List.set_cons_zero, List.set_cons_succ]
          refine' wpAnyH_take (i := 3) (v := _) rfl (by kernel_rfl) (by kernel_rfl) (by kernel_rfl) (fun _ _ _ h => h) (Or.inl ⟨by kernel_rfl, ?ha3⟩) (by assumption) ?ra3
          case ha3 => intro W hW; obtain ⟨⟨d0, d1, d2⟩, g0, g1, g2⟩ := hW; go_simp; all_goals with_reducible rfl
          change wpAnyH _ _ _ _ _ _ _ (Act.put _ (some 19) _) _
          simp only [Act.put, List.setIfInBounds_toArray, List.set_cons_zero, List.set_cons_succ]
          refine' wpAnyH_take (i := 4) (v := _) rfl (by kernel_rfl) (by kernel_rfl) (by kernel_rfl) (fun _ _ _ h => h) (Or.inl ⟨by kernel_rfl, ?ha4⟩) (by assumption) ?ra4
          case ha4 => intro W hW; obtain ⟨⟨d0, d1, d2⟩, g0, g1, g2⟩ := hW; go_simp; all_goals with_reducible rfl
          change wpAnyH _ _ _ _ _ _ _ (Act.put _ (some 20) _) _
          simp only [Act.put, List.setIfInBounds_toArray, List.set_cons_zero, List.set_cons_succ]
          refine' wpAnyH_take (i := 5) (v := _) rfl (by kernel_rfl) (by kernel_rfl) (by kernel_rfl) (fun _ _ _ h => h) (Or.inl ⟨by kernel_rfl, ?ha5⟩) (by assumption) ?ra5
          case ha5 => intro W hW; obtain ⟨⟨d0, d1, d2⟩, g0, g1, g2⟩ := hW; go_simp; all_goals with_reducible rfl
          change wpAnyH _ _ _ _ _ _ _ (Act.put _ (some 21) _) _
          simp only [Act.put, List.setIfInBounds_toArray, List.set_cons_zero, List.set_cons_succ]
          refine' wpAnyH_take (i := 6) (v := _) rfl (by kernel_rfl) (by kernel_rfl) (by kernel_rfl) (fun _ _ _ h => h) (Or.inl ⟨by kernel_rfl, ?ha6⟩) (by assumption) ?ra6
          case ha6 => intro W hW; obtain ⟨⟨d0, d1, d2⟩, g0, g1, g2⟩ := hW; go_simp; all_goals with_reducible rfl
          change wpAnyH _ _ _ _ _ _ _ (Act.put _ (some 22) _) _
          simp only [Act.put, List.setIfInBounds_toArray, List.set_cons_zero, List.set_cons_succ]
          refine' wpAnyH_take (i := 7) (v := _) rfl (by kernel_rfl) (by kernel_rfl) (by kernel_rfl) (fun _ _ _ h => h) (Or.inl ⟨by kernel_rfl, ?ha7⟩) (by assumption) ?ra7
          case ha7 => intro W hW; obtain ⟨⟨d0, d1, d2⟩, g0, g1, g2⟩ := hW; go_simp; all_goals with_reducible rfl
          change wpAnyH _ _ _ _ _ _ _ (Act.put _ (some 23) _) _
          simp only [Act.put, List.setIfInBounds_toArray, List.set_cons_zero, List.set_cons_succ]
          refine wpAnyH_ready (rs := [8]) (by kernel_rfl) (by simp) ?_
          refine AllReadyH.cons rfl (fun KK hK => ?_) AllReadyH.nil
          go_simp
          refine (hS _).mono ?_
          rintro e w2 ⟨rfl, hB2⟩
          go_wp2_with fail
          refine hK.out _ _ ⟨⟨by rw [hB2.cell hb1]; exact x0, by rw [hB2.cell hb1]; exact x1, by rw [hB2.cell hb1]; exact x2⟩, by rw [hB2.cell hb2]; exact y0, by rw [hB2.cell hb2]; exact y1, by rw [hB2.cell hb2]; exact y2⟩ (fun hHeld => ?_)
          clear hK KK
          try simp only [Act.put, List.setIfInBounds_toArray, List.set_cons_zero, List.set_cons_succ]
          refine' wpAnyH_take (i := 9) (v := _) rfl (by kernel_rfl) (by kernel_rfl) (by kernel_rfl) (fun _ _ _ h => h) (Or.inl ⟨by kernel_rfl, ?ha9⟩) (by assumption) ?ra9
          case ha9 => intro W hW; obtain ⟨⟨d0, d1, d2⟩, g0, g1, g2⟩ := hW; go_simp; all_goals with_reducible rfl
          change wpAnyH _ _ _ _ _ _ _ (Act.put _ (some 25) _) _
          simp only [Act.put, List.setIfInBounds_toArray, List.set_cons_zero, List.set_cons_succ]
          refine wpAnyH_done (by kernel_rfl) ?_ _
          have hB3 : Hid (Below w.heap.size w w2) := hB.trans (Below.trans (Below.drew (Below.refl _ _)) (hB2.mono (by have := hB.size; exact this)))
          obtain ⟨⟨x0, x1, x2⟩, y0, y1, y2⟩ := hHeld
          replace hb1 : b1 < w2.heap.size := Nat.lt_of_lt_of_le hb1 hB2.size
          replace hb2 : b2 < w2.heap.size := Nat.lt_of_lt_of_le hb2 hB2.size
          clear hS
          cases o with
          | true =>
            go_wp2
            go_roundg (m - (k + 1))
            case measure => omega
            case rel => exact ⟨k + 1, by omega, by omega, rfl, by go_num, hB3.out, HN.out (by simp)⟩
          | false =>
            have HO2 : Hid (lessK n fd m fk fn fs m' fk' fn' fs' = (decide (k < n) && lessP p3 q0 q1 q2 r0 r1 r2)) := HO.out (by simp)
            clear HO HN
            by_cases hkn : k < n
            · have hkn' : (k : Int) < (n : Int) := by omega
              obtain ⟨b0, o0, rfl, hb0, t0, t1, t2, t3⟩ := hpl.out hkn
              have e0 : w2.cell? ⟨b0, o0 + k * 4, none⟩ = some (.int .i64 p0) := by rw [hB2.cell hb0]; exact t0
              have e1 : w2.cell? ⟨b0, o0 + k * 4 + 1, none⟩ = some (.int .i64 p1) := by rw [hB2.cell hb0]; exact t1
              have e2 : w2.cell? ⟨b0, o0 + k * 4 + 2, none⟩ = some (.bool p2) := by rw [hB2.cell hb0]; exact t2
              have e3 : w2.cell? ⟨b0, o0 + k * 4 + 3, none⟩ = some (.bool p3) := by rw [hB2.cell hb0]; exact t3
              replace hb0 : b0 < w2.heap.size := Nat.lt_of_lt_of_le hb0 hB2.size
              obtain ⟨z, hz⟩ : ∃ z, Hid (lessP p3 q0 q1 q2 r0 r1 r2 = z) := ⟨_, rfl⟩
              rw [hz.out] at hP HO2
              rw [decide_eq_true hkn, Bool.true_and] at HO2
              clear t0 t1 t2 t3 hpl hz
              go_wp2_with fail
              refine wp_region_held_drew (S := fun W => (W.cell? ⟨b0, o0 + k * 4, none⟩ = some (.int .i64 p0) ∧ W.cell? ⟨b0, o0 + k * 4 + 1, none⟩ = some (.int .i64 p1) ∧ W.cell? ⟨b0, o0 + k * 4 + 2, none⟩ = some (.bool p2) ∧ W.cell? ⟨b0, o0 + k * 4 + 3, none⟩ = some (.bool p3)) ∧ (W.cell? ⟨b1, o1 + k * 3, none⟩ = some (.int .i64 q0) ∧ W.cell? ⟨b1, o1 + k * 3 + 1, none⟩ = some (.int .i64 q1) ∧ W.cell? ⟨b1, o1 + k * 3 + 2, none⟩ = some (.string q2)) ∧ (W.cell? ⟨b2, o2 + k * 3, none⟩ = some (.int .i64 r0) ∧ W.cell? ⟨b2, o2 + k * 3 + 1, none⟩ = some (.int .i64 r1) ∧ W.cell? ⟨b2, o2 + k * 3 + 2, none⟩ = some (.string r2))) (by kernel_rfl) (⟨⟨e0, e1, e2, e3⟩, ⟨x0, x1, x2⟩, y0, y1, y2⟩) (fun hHeld => ?_)
              refine' wpAnyH_take (i := 0) (v := _) rfl (by kernel_rfl) (by kernel_rfl) (by kernel_rfl) (fun _ _ _ h => h) (Or.inl ⟨by kernel_rfl, ?hb0⟩) (by assumption) ?rb0
              case hb0 => intro W hW; obtain ⟨⟨a0, a1, a2, a3⟩, ⟨d0, d1, d2⟩, g0, g1, g2⟩ := hW; go_simp; all_goals with_reducible rfl
              change wpAnyH _ _ _ _ _ _ _ (Act.put _ (some 26) _) _
              simp only [Act.put, List.setIfInBounds_toArray, List.set_cons_zero, List.set_cons_succ]
              refine' wpAnyH_take (i := 1) (v := _) rfl (by kernel_rfl) (by kernel_rfl) (by kernel_rfl) (fun _ _ _ h => h) (Or.inl ⟨by kernel_rfl, ?hb1⟩) (by assumption) ?rb1
              case hb1 => intro W hW; obtain ⟨⟨a0, a1, a2, a3⟩, ⟨d0, d1, d2⟩, g0, g1, g2⟩ := hW; go_simp; all_goals with_reducible rfl
              change wpAnyH _ _ _ _ _ _ _ (Act.put _ (some 27) _) _
              simp only [Act.put, List.setIfInBounds_toArray, List.set_cons_zero, List.set_cons_succ]
              refine' wpAnyH_take (i := 2) (v := _) rfl (by kernel_rfl) (by kernel_rfl) (by kernel_rfl) (fun _ _ _ h => h) (Or.inl ⟨by kernel_rfl, ?hb2⟩) (by assumption) ?rb2
              case hb2 => intro W hW; obtain ⟨⟨a0, a1, a2, a3⟩, ⟨d0, d1, d2⟩, g0, g1, g2⟩ := hW; go_simp; all_goals with_reducible rfl
              change wpAnyH _ _ _ _ _ _ _ (Act.put _ (some 28) _) _
              simp only [Act.put, List.setIfInBounds_toArray, List.set_cons_zero, List.set_cons_succ]
              refine' wpAnyH_take (i := 3) (v := _) rfl (by kernel_rfl) (by kernel_rfl) (by kernel_rfl) (fun _ _ _ h => h) (Or.inl ⟨by kernel_rfl, ?hb3⟩) (by assumption) ?rb3
              case hb3 => intro W hW; obtain ⟨⟨a0, a1, a2, a3⟩, ⟨d0, d1, d2⟩, g0, g1, g2⟩ := hW; go_simp; all_goals with_reducible rfl
              change wpAnyH _ _ _ _ _ _ _ (Act.put _ (some 29) _) _
              simp only [Act.put, List.setIfInBounds_toArray, List.set_cons_zero, List.set_cons_succ]
              refine' wpAnyH_take (i := 4) (v := _) rfl (by kernel_rfl) (by kernel_rfl) (by kernel_rfl) (fun _ _ _ h => h) (Or.inl ⟨by kernel_rfl, ?hb4⟩) (by assumption) ?rb4
              case hb4 => intro W hW; obtain ⟨⟨a0, a1, a2, a3⟩, ⟨d0, d1, d2⟩, g0, g1, g2⟩ := hW; go_simp; all_goals with_reducible rfl
              change wpAnyH _ _ _ _ _ _ _ (Act.put _ (some 30) _) _
              simp only [Act.put, List.setIfInBounds_toArray, List.set_cons_zero, List.set_cons_succ]
              refine' wpAnyH_take (i := 5) (v := _) rfl (by kernel_rfl) (by kernel_rfl) (by kernel_rfl) (fun _ _ _ h => h) (Or.inl ⟨by kernel_rfl, ?hb5⟩) (by assumption) ?rb5
              case hb5 => intro W hW; obtain ⟨⟨a0, a1, a2, a3⟩, ⟨d0, d1, d2⟩, g0, g1, g2⟩ := hW; go_simp; all_goals with_reducible rfl
              change wpAnyH _ _ _ _ _ _ _ (Act.put _ (some 31) _) _
              simp only [Act.put, List.setIfInBounds_toArray, List.set_cons_zero, List.set_cons_succ]
              refine' wpAnyH_take (i := 6) (v := _) rfl (by kernel_rfl) (by kernel_rfl) (by kernel_rfl) (fun _ _ _ h => h) (Or.inl ⟨by kernel_rfl, ?hb6⟩) (by assumption) ?rb6
              case hb6 => intro W hW; obtain ⟨⟨a0, a1, a2, a3⟩, ⟨d0, d1, d2⟩, g0, g1, g2⟩ := hW; go_simp; all_goals with_reducible rfl
              change wpAnyH _ _ _ _ _ _ _ (Act.put _ (some 32) _) _
              simp only [Act.put, List.setIfInBounds_toArray, List.set_cons_zero, List.set_cons_succ]
              refine' wpAnyH_take (i := 7) (v := _) rfl (by kernel_rfl) (by kernel_rfl) (by kernel_rfl) (fun _ _ _ h => h) (Or.inl ⟨by kernel_rfl, ?hb7⟩) (by assumption) ?rb7
              case hb7 => intro W hW; obtain ⟨⟨a0, a1, a2, a3⟩, ⟨d0, d1, d2⟩, g0, g1, g2⟩ := hW; go_simp; all_goals with_reducible rfl
              change wpAnyH _ _ _ _ _ _ _ (Act.put _ (some 33) _) _
              simp only [Act.put, List.setIfInBounds_toArray, List.set_cons_zero, List.set_cons_succ]
              refine' wpAnyH_take (i := 8) (v := _) rfl (by kernel_rfl) (by kernel_rfl) (by kernel_rfl) (fun _ _ _ h => h) (Or.inl ⟨by kernel_rfl, ?hb8⟩) (by assumption) ?rb8
              case hb8 => intro W hW; obtain ⟨⟨a0, a1, a2, a3⟩, ⟨d0, d1, d2⟩, g0, g1, g2⟩ := hW; go_simp; all_goals with_reducible rfl
              change wpAnyH _ _ _ _ _ _ _ (Act.put _ (some 34) _) _
              simp only [Act.put, List.setIfInBounds_toArray, List.set_cons_zero, List.set_cons_succ]
              refine' wpAnyH_take (i := 9) (v := _) rfl (by kernel_rfl) (by kernel_rfl) (by kernel_rfl) (fun _ _ _ h => h) (Or.inl ⟨by kernel_rfl, ?hb9⟩) (by assumption) ?rb9
              case hb9 => intro W hW; obtain ⟨⟨a0, a1, a2, a3⟩, ⟨d0, d1, d2⟩, g0, g1, g2⟩ := hW; go_simp; all_goals with_reducible rfl
              change wpAnyH _ _ _ _ _ _ _ (Act.put _ (some 35) _) _
              simp only [Act.put, List.setIfInBounds_toArray, List.set_cons_zero, List.set_cons_succ]
              refine' wpAnyH_take (i := 10) (v := _) rfl (by kernel_rfl) (by kernel_rfl) (by kernel_rfl) (fun _ _ _ h => h) (Or.inl ⟨by kernel_rfl, ?hb10⟩) (by assumption) ?rb10
              case hb10 => intro W hW; obtain ⟨⟨a0, a1, a2, a3⟩, ⟨d0, d1, d2⟩, g0, g1, g2⟩ := hW; go_simp; all_goals with_reducible rfl
              change wpAnyH _ _ _ _ _ _ _ (Act.put _ (some 36) _) _
              simp only [Act.put, List.setIfInBounds_toArray, List.set_cons_zero, List.set_cons_succ]
              refine' wpAnyH_take (i := 11) (v := _) rfl (by kernel_rfl) (by kernel_rfl) (by kernel_rfl) (fun _ _ _ h => h) (Or.inl ⟨by kernel_rfl, ?hb11⟩) (by assumption) ?rb11
              case hb11 => intro W hW; obtain ⟨⟨a0, a1, a2, a3⟩, ⟨d0, d1, d2⟩, g0, g1, g2⟩ := hW; go_simp; all_goals with_reducible rfl
              change wpAnyH _ _ _ _ _ _ _ (Act.put _ (some 37) _) _
              simp only [Act.put, List.setIfInBounds_toArray, List.set_cons_zero, List.set_cons_succ]
              refine' wpAnyH_take (i := 12) (v := _) rfl (by kernel_rfl) (by kernel_rfl) (by kernel_rfl) (fun _ _ _ h => h) (Or.inl ⟨by kernel_rfl, ?hb12⟩) (by assumption) ?rb12
              case hb12 => intro W hW; obtain ⟨⟨a0, a1, a2, a3⟩, ⟨d0, d1, d2⟩, g0, g1, g2⟩ := hW; go_simp; all_goals with_reducible rfl
              change wpAnyH _ _ _ _ _ _ _ (Act.put _ (some 38) _) _
              simp only [Act.put, List.setIfInBounds_toArray, List.set_cons_zero, List.set_cons_succ]
              refine' wpAnyH_take (i := 13) (v := _) rfl (by kernel_rfl) (by kernel_rfl) (by kernel_rfl) (fun _ _ _ h => h) (Or.inl ⟨by kernel_rfl, ?hb13⟩) (by assumption) ?rb13
              case hb13 => intro W hW; obtain ⟨⟨a0, a1, a2, a3⟩, ⟨d0, d1, d2⟩, g0, g1, g2⟩ := hW; go_simp; all_goals with_reducible rfl
              change wpAnyH _ _ _ _ _ _ _ (Act.put _ (some 39) _) _
              simp only [Act.put, List.setIfInBounds_toArray, List.set_cons_zero, List.set_cons_succ]
              refine' wpAnyH_take (i := 14) (v := _) rfl (by kernel_rfl) (by kernel_rfl) (by kernel_rfl) (fun _ _ _ h => h) (Or.inl ⟨by kernel_rfl, ?hb14⟩) (by assumption) ?rb14
              case hb14 => intro W hW; obtain ⟨⟨a0, a1, a2, a3⟩, ⟨d0, d1, d2⟩, g0, g1, g2⟩ := hW; go_simp; all_goals with_reducible rfl
              change wpAnyH _ _ _ _ _ _ _ (Act.put _ (some 40) _) _
              simp only [Act.put, List.setIfInBounds_toArray, List.set_cons_zero, List.set_cons_succ]
              refine' wpAnyH_take (i := 15) (v := _) rfl (by kernel_rfl) (by kernel_rfl) (by kernel_rfl) (fun _ _ _ h => h) (Or.inl ⟨by kernel_rfl, ?hb15⟩) (by assumption) ?rb15
              case hb15 => intro W hW; obtain ⟨⟨a0, a1, a2, a3⟩, ⟨d0, d1, d2⟩, g0, g1, g2⟩ := hW; go_simp; all_goals with_reducible rfl
              change wpAnyH _ _ _ _ _ _ _ (Act.put _ (some 41) _) _
              simp only [Act.put, List.setIfInBounds_toArray, List.set_cons_zero, List.set_cons_succ]
              refine' wpAnyH_take (i := 16) (v := _) rfl (by kernel_rfl) (by kernel_rfl) (by kernel_rfl) (fun _ _ _ h => h) (Or.inl ⟨by kernel_rfl, ?hb16⟩) (by assumption) ?rb16
              case hb16 => intro W hW; obtain ⟨⟨a0, a1, a2, a3⟩, ⟨d0, d1, d2⟩, g0, g1, g2⟩ := hW; go_simp; all_goals with_reducible rfl
              change wpAnyH _ _ _ _ _ _ _ (Act.put _ (some 42) _) _
              simp only [Act.put, List.setIfInBounds_toArray, List.set_cons_zero, List.set_cons_succ]
              refine wpAnyH_ready (rs := [17]) (by kernel_rfl) (by simp) ?_
              refine AllReadyH.cons rfl (fun KK hK => ?_) AllReadyH.nil
              go_simp
              refine (hP _).mono ?_
              rintro e w3 ⟨rfl, hB4⟩
              go_wp2_with fail
              refine hK.out _ _ ⟨⟨by rw [hB4.cell hb0]; exact e0, by rw [hB4.cell hb0]; exact e1, by rw [hB4.cell hb0]; exact e2, by rw [hB4.cell hb0]; exact e3⟩, ⟨by rw [hB4.cell hb1]; exact x0, by rw [hB4.cell hb1]; exact x1, by rw [hB4.cell hb1]; exact x2⟩, by rw [hB4.cell hb2]; exact y0, by rw [hB4.cell hb2]; exact y1, by rw [hB4.cell hb2]; exact y2⟩ (fun hHeld => ?_)
              clear hK KK
              try simp only [Act.put, List.setIfInBounds_toArray, List.set_cons_zero, List.set_cons_succ]
              refine' wpAnyH_take (i := 18) (v := _) rfl (by kernel_rfl) (by kernel_rfl) (by kernel_rfl) (fun _ _ _ h => h) (Or.inl ⟨by kernel_rfl, ?hb18⟩) (by assumption) ?rb18
              case hb18 => intro W hW; obtain ⟨⟨a0, a1, a2, a3⟩, ⟨d0, d1, d2⟩, g0, g1, g2⟩ := hW; go_simp; all_goals with_reducible rfl
              change wpAnyH _ _ _ _ _ _ _ (Act.put _ (some 44) _) _
              simp only [Act.put, List.setIfInBounds_toArray, List.set_cons_zero, List.set_cons_succ]
              refine' wpAnyH_take (i := 19) (v := _) rfl (by kernel_rfl) (by kernel_rfl) (by kernel_rfl) (fun _ _ _ h => h) (Or.inl ⟨by kernel_rfl, ?hb19⟩) (by assumption) ?rb19
              case hb19 => intro W hW; obtain ⟨⟨a0, a1, a2, a3⟩, ⟨d0, d1, d2⟩, g0, g1, g2⟩ := hW; go_simp; all_goals with_reducible rfl
              change wpAnyH _ _ _ _ _ _ _ (Act.put _ (some 6) _) _
              simp only [Act.put, List.setIfInBounds_toArray, List.set_cons_zero, List.set_cons_succ]
              refine wpAnyH_done (by kernel_rfl) ?_ _
              have hB5 : Hid (Below w.heap.size w w3) := hB3.out.trans (Below.trans (Below.drew (Below.refl _ _)) (hB4.mono (by have := hB3.out.size; exact this)))
              clear hHeld x0 x1 x2 y0 y1 y2 e0 e1 e2 e3 hP
              go_wp2
              go_ret
              exact ⟨by rw [HO2.out]; rfl, hB5.out⟩
            · have hkn' : ¬ (k : Int) < (n : Int) := by omega
              rw [decide_eq_false hkn, Bool.false_and] at HO2
              clear hpl
              go_wp2_with fail
              refine wp_region_held_drew (S := fun W => (W.cell? ⟨b1, o1 + k * 3, none⟩ = some (.int .i64 q0) ∧ W.cell? ⟨b1, o1 + k * 3 + 1, none⟩ = some (.int .i64 q1) ∧ W.cell? ⟨b1, o1 + k * 3 + 2, none⟩ = some (.string q2)) ∧ (W.cell? ⟨b2, o2 + k * 3, none⟩ = some (.int .i64 r0) ∧ W.cell? ⟨b2, o2 + k * 3 + 1, none⟩ = some (.int .i64 r1) ∧ W.cell? ⟨b2, o2 + k * 3 + 2, none⟩ = some (.string r2))) (by kernel_rfl) (⟨⟨x0, x1, x2⟩, y0, y1, y2⟩) (fun hHeld => ?_)
              refine' wpAnyH_take (i := 0) (v := _) rfl (by kernel_rfl) (by kernel_rfl) (by kernel_rfl) (fun _ _ _ h => h) (Or.inl ⟨by kernel_rfl, ?hc0⟩) (by assumption) ?rc0
              case hc0 => intro W hW; obtain ⟨⟨d0, d1, d2⟩, g0, g1, g2⟩ := hW; go_simp; all_goals with_reducible rfl
              change wpAnyH _ _ _ _ _ _ _ (Act.put _ (some 26) _) _
              simp only [Act.put, List.setIfInBounds_toArray, List.set_cons_zero, List.set_cons_succ]
              refine' wpAnyH_take (i := 1) (v := _) rfl (by kernel_rfl) (by kernel_rfl) (by kernel_rfl) (fun _ _ _ h => h) (Or.inl ⟨by kernel_rfl, ?hc1⟩) (by assumption) ?rc1
              case hc1 => intro W hW; obtain ⟨⟨d0, d1, d2⟩, g0, g1, g2⟩ := hW; go_simp; all_goals with_reducible rfl
              change wpAnyH _ _ _ _ _ _ _ (Act.put _ (some 27) _) _
              simp only [Act.put, List.setIfInBounds_toArray, List.set_cons_zero, List.set_cons_succ]
              refine' wpAnyH_take (i := 2) (v := _) rfl (by kernel_rfl) (by kernel_rfl) (by kernel_rfl) (fun _ _ _ h => h) (Or.inl ⟨by kernel_rfl, ?hc2⟩) (by assumption) ?rc2
              case hc2 => intro W hW; obtain ⟨⟨d0, d1, d2⟩, g0, g1, g2⟩ := hW; go_simp; all_goals with_reducible rfl
              change wpAnyH _ _ _ _ _ _ _ (Act.put _ (some 28) _) _
              simp only [Act.put, List.setIfInBounds_toArray, List.set_cons_zero, List.set_cons_succ]
              refine' wpAnyH_take (i := 3) (v := _) rfl (by kernel_rfl) (by kernel_rfl) (by kernel_rfl) (fun _ _ _ h => h) (Or.inl ⟨by kernel_rfl, ?hc3⟩) (by assumption) ?rc3
              case hc3 => intro W hW; obtain ⟨⟨d0, d1, d2⟩, g0, g1, g2⟩ := hW; go_simp; all_goals with_reducible rfl
              change wpAnyH _ _ _ _ _ _ _ (Act.put _ (some 29) _) _
              simp only [Act.put, List.setIfInBounds_toArray, List.set_cons_zero, List.set_cons_succ]
              refine' wpAnyH_take (i := 4) (v := _) rfl (by kernel_rfl) (by kernel_rfl) (by kernel_rfl) (fun _ _ _ h => h) (Or.inl ⟨by kernel_rfl, ?hc4⟩) (by assumption) ?rc4
              case hc4 => intro W hW; obtain ⟨⟨d0, d1, d2⟩, g0, g1, g2⟩ := hW; go_simp; all_goals with_reducible rfl
              change wpAnyH _ _ _ _ _ _ _ (Act.put _ (some 30) _) _
              simp only [Act.put, List.setIfInBounds_toArray, List.set_cons_zero, List.set_cons_succ]
              refine wpAnyH_take (i := 5) (v := undef) rfl (by kernel_rfl) (by kernel_rfl) (by kernel_rfl) (fun _ _ _ h => h) (Or.inr ⟨by kernel_rfl, rfl⟩) (by assumption) ?_
              change wpAnyH _ _ _ _ _ _ _ (Act.put _ (some 31) _) _
              simp only [Act.put, List.setIfInBounds_toArray, List.set_cons_zero, List.set_cons_succ]
              refine wpAnyH_take (i := 6) (v := undef) rfl (by kernel_rfl) (by kernel_rfl) (by kernel_rfl) (fun _ _ _ h => h) (Or.inr ⟨by kernel_rfl, rfl⟩) (by assumption) ?_
              change wpAnyH _ _ _ _ _ _ _ (Act.put _ (some 32) _) _
              simp only [Act.put, List.setIfInBounds_toArray, List.set_cons_zero, List.set_cons_succ]
              refine wpAnyH_take (i := 7) (v := undef) rfl (by kernel_rfl) (by kernel_rfl) (by kernel_rfl) (fun _ _ _ h => h) (Or.inr ⟨by kernel_rfl, rfl⟩) (by assumption) ?_
              change wpAnyH _ _ _ _ _ _ _ (Act.put _ (some 33) _) _
              simp only [Act.put, List.setIfInBounds_toArray, List.set_cons_zero, List.set_cons_succ]
              refine wpAnyH_take (i := 8) (v := undef) rfl (by kernel_rfl) (by kernel_rfl) (by kernel_rfl) (fun _ _ _ h => h) (Or.inr ⟨by kernel_rfl, rfl⟩) (by assumption) ?_
              change wpAnyH _ _ _ _ _ _ _ (Act.put _ (some 34) _) _
              simp only [Act.put, List.setIfInBounds_toArray, List.set_cons_zero, List.set_cons_succ]
              refine wpAnyH_take (i := 9) (v := undef) rfl (by kernel_rfl) (by kernel_rfl) (by kernel_rfl) (fun _ _ _ h => h) (Or.inr ⟨by kernel_rfl, rfl⟩) (by assumption) ?_
              change wpAnyH _ _ _ _ _ _ _ (Act.put _ (some 35) _) _
              simp only [Act.put, List.setIfInBounds_toArray, List.set_cons_zero, List.set_cons_succ]
              refine wpAnyH_take (i := 10) (v := undef) rfl (by kernel_rfl) (by kernel_rfl) (by kernel_rfl) (fun _ _ _ h => h) (Or.inr ⟨by kernel_rfl, rfl⟩) (by assumption) ?_
              change wpAnyH _ _ _ _ _ _ _ (Act.put _ (some 36) _) _
              simp only [Act.put, List.setIfInBounds_toArray, List.set_cons_zero, List.set_cons_succ]
              refine wpAnyH_take (i := 11) (v := undef) rfl (by kernel_rfl) (by kernel_rfl) (by kernel_rfl) (fun _ _ _ h => h) (Or.inr ⟨by kernel_rfl, rfl⟩) (by assumption) ?_
              change wpAnyH _ _ _ _ _ _ _ (Act.put _ (some 37) _) _
              simp only [Act.put, List.setIfInBounds_toArray, List.set_cons_zero, List.set_cons_succ]
              refine wpAnyH_take (i := 12) (v := undef) rfl (by kernel_rfl) (by kernel_rfl) (by kernel_rfl) (fun _ _ _ h => h) (Or.inr ⟨by kernel_rfl, rfl⟩) (by assumption) ?_
              change wpAnyH _ _ _ _ _ _ _ (Act.put _ (some 38) _) _
              simp only [Act.put, List.setIfInBounds_toArray, List.set_cons_zero, List.set_cons_succ]
              refine wpAnyH_take (i := 13) (v := undef) rfl (by kernel_rfl) (by kernel_rfl) (by kernel_rfl) (fun _ _ _ h => h) (Or.inr ⟨by kernel_rfl, rfl⟩) (by assumption) ?_
              change wpAnyH _ _ _ _ _ _ _ (Act.put _ (some 39) _) _
              simp only [Act.put, List.setIfInBounds_toArray, List.set_cons_zero, List.set_cons_succ]
              refine wpAnyH_take (i := 14) (v := undef) rfl (by kernel_rfl) (by kernel_rfl) (by kernel_rfl) (fun _ _ _ h => h) (Or.inr ⟨by kernel_rfl, rfl⟩) (by assumption) ?_
              change wpAnyH _ _ _ _ _ _ _ (Act.put _ (some 40) _) _
              simp only [Act.put, List.setIfInBounds_toArray, List.set_cons_zero, List.set_cons_succ]
              refine wpAnyH_take (i := 15) (v := undef) rfl (by kernel_rfl) (by kernel_rfl) (by kernel_rfl) (fun _ _ _ h => h) (Or.inr ⟨by kernel_rfl, rfl⟩) (by assumption) ?_
              change wpAnyH _ _ _ _ _ _ _ (Act.put _ (some 41) _) _
              simp only [Act.put, List.setIfInBounds_toArray, List.set_cons_zero, List.set_cons_succ]
              refine wpAnyH_take (i := 16) (v := undef) rfl (by kernel_rfl) (by kernel_rfl) (by kernel_rfl) (fun _ _ _ h => h) (Or.inr ⟨by kernel_rfl, rfl⟩) (by assumption) ?_
              change wpAnyH _ _ _ _ _ _ _ (Act.put _ (some 42) _) _
              simp only [Act.put, List.setIfInBounds_toArray, List.set_cons_zero, List.set_cons_succ]
              refine wpAnyH_take (i := 17) (v := undef) rfl (by kernel_rfl) (by kernel_rfl) (by kernel_rfl) (fun _ _ _ h => h) (Or.inr ⟨by kernel_rfl, rfl⟩) (by assumption) ?_
              change wpAnyH _ _ _ _ _ _ _ (Act.put _ (some 43) _) _
              simp only [Act.put, List.setIfInBounds_toArray, List.set_cons_zero, List.set_cons_succ]
              refine' wpAnyH_take (i := 18) (v := _) rfl (by kernel_rfl) (by kernel_rfl) (by kernel_rfl) (fun _ _ _ h => h) (Or.inl ⟨by kernel_rfl, ?hc18⟩) (by assumption) ?rc18
              case hc18 => intro W hW; obtain ⟨⟨d0, d1, d2⟩, g0, g1, g2⟩ := hW; go_simp; all_goals with_reducible rfl
              change wpAnyH _ _ _ _ _ _ _ (Act.put _ (some 44) _) _
              simp only [Act.put, List.setIfInBounds_toArray, List.set_cons_zero, List.set_cons_succ]
              refine' wpAnyH_take (i := 19) (v := _) rfl (by kernel_rfl) (by kernel_rfl) (by kernel_rfl) (fun _ _ _ h => h) (Or.inl ⟨by kernel_rfl, ?hc19⟩) (by assumption) ?rc19
              case hc19 => intro W hW; obtain ⟨⟨d0, d1, d2⟩, g0, g1, g2⟩ := hW; go_simp; all_goals with_reducible rfl
              change wpAnyH _ _ _ _ _ _ _ (Act.put _ (some 6) _) _
              simp only [Act.put, List.setIfInBounds_toArray, List.set_cons_zero, List.set_cons_succ]
              refine wpAnyH_done (by kernel_rfl) ?_ _
              have hB5 : Hid (Below w.heap.size w w2.drew) := hB3.out.drew
              clear hHeld x0 x1 x2 y0 y1 y2 hP
              go_wp2
              go_ret
              exact ⟨by rw [HO2.out]; rfl, hB5.out⟩
        · have hkz' : ¬ (k : Int) < (m' : Int) := by omega
          have HT : Hid (lessK n fd m fk fn fs m' fk' fn' fs' = decide (m < m')) := lessK_same (fun j hj => HA.out j (by omega))
          have hmm : ¬ (m : Int) < (m' : Int) := by omega
          have HD : Hid (decide (m < m') = false) := decide_eq_false (by omega)
          clear HA
          go_wp2
          go_ret
          exact ⟨by rw [HT.out, HD.out]; rfl, hB⟩
      · exfalso; omega
  · have hminz : ¬ (m' : Int) < (m : Int) := by omega
    go_enter Tryz.func15, Tryz.ntmps15
    go_wp2
    go_loopg [13] m (fun q i wr => ∃ k : Nat, k ≤ m ∧ k ≤ m' ∧ q = m - k ∧ i = .int .i64 k ∧ Below w.heap.size w wr ∧ ∀ j, j < k → sameAt fk fn fs fk' fn' fs' j = true)
    case atStart => exact ⟨0, Nat.zero_le _, Nat.zero_le _, rfl, rfl, Below.refl _ _, fun j hj => absurd hj (Nat.not_lt_zero _)⟩
    case round =>
      obtain ⟨k, hk, hk', rfl, rfl, hB, hall⟩ := hrel
      have HA : Hid (∀ j, j < k → sameAt fk fn fs fk' fn' fs' j = true) := hall
      clear hall
      by_cases hlt : k < m
      · have hkz : (k : Int) < (m : Int) := by omega
        by_cases hlt' : k < m'
        · have hkz' : (k : Int) < (m' : Int) := by omega
          obtain ⟨b1, o1, rfl, hb1, hd1⟩ := (h1.below hB).cells (by omega)
          obtain ⟨b2, o2, rfl, hb2, hd2⟩ := (h2.below hB).cells (by omega)
          obtain ⟨x0, x1, x2⟩ := hd1 k hlt
          obtain ⟨y0, y1, y2⟩ := hd2 k hlt'
          obtain ⟨o, ho⟩ : ∃ o, Hid (sameAt fk fn fs fk' fn' fs' k = o) := ⟨_, rfl⟩
          have hS := fun W => sameVal_impl (fk k) (fn k) (fs k) (fk' k) (fn' k) (fs' k) W
          have ho' : eqV (fk k) (fn k) (fs k) (fk' k) (fn' k) (fs' k) = o := ho.out
          rw [ho'] at hS
          have HO : Hid (o = false → lessK n fd m fk fn fs m' fk' fn' fs' = (decide (k < n) && lessP (fd k) (fk k) (fn k) (fs k) (fk' k) (fn' k) (fs' k))) := by
            intro e
            exact lessK_at hlt hlt' (ho.out.trans e) HA.out
          have HN : Hid (o = true → ∀ j, j < k + 1 → sameAt fk fn fs fk' fn' fs' j = true) := by
            intro e j hj
            by_cases ej : j < k
            · exact HA.out j ej
            · obtain rfl : j = k := by omega
              rw [ho.out, e]
          have hP := fun W => implLessPart_any (fc k) (ft k) (fu k) (fd k) (fk k) (fn k) (fs k) (fk' k) (fn' k) (fs' k) W
          have hpl : Hid (k < n → ∃ b0 o0, a = some ⟨b0, o0, none⟩ ∧ b0 < wr.heap.size ∧ wr.cell? ⟨b0, o0 + k * 4, none⟩ = some (.int .i64 (fc k)) ∧ wr.cell? ⟨b0, o0 + k * 4 + 1, none⟩ = some (.int .i64 (ft k)) ∧ wr.cell? ⟨b0, o0 + k * 4 + 2, none⟩ = some (.bool (fu k)) ∧ wr.cell? ⟨b0, o0 + k * 4 + 3, none⟩ = some (.bool (fd k))) := by
            intro e
            obtain ⟨b0, o0, e0, hb0, hd0⟩ := (hpv.below hB).cells (by omega)
            exact ⟨b0, o0, e0, hb0, hd0 k e⟩
          clear hd1 hd2 hpv h1 h2 ho ho' HA
          obtain ⟨p0, hp0⟩ : ∃ p, Hid (fc k = p) := ⟨_, rfl⟩
          obtain ⟨p1, hp1⟩ : ∃ p, Hid (ft k = p) := ⟨_, rfl⟩
          obtain ⟨p2, hp2⟩ : ∃ p, Hid (fu k = p) := ⟨_, rfl⟩
          obtain ⟨p3, hp3⟩ : ∃ p, Hid (fd k = p) := ⟨_, rfl⟩
          obtain ⟨q0, hq0⟩ : ∃ p, Hid (fk k = p) := ⟨_, rfl⟩
          obtain ⟨q1, hq1⟩ : ∃ p, Hid (fn k = p) := ⟨_, rfl⟩
          obtain ⟨q2, hq2⟩ : ∃ p, Hid (fs k = p) := ⟨_, rfl⟩
          obtain ⟨r0, hr0⟩ : ∃ p, Hid (fk' k = p) := ⟨_, rfl⟩
          obtain ⟨r1, hr1⟩ : ∃ p, Hid (fn' k = p) := ⟨_, rfl⟩
          obtain ⟨r2, hr2⟩ : ∃ p, Hid (fs' k = p) := ⟨_, rfl⟩
          rw [hp0.out, hp1.out, hp2.out, hp3.out] at hpl
          rw [hp0.out, hp1.out, hp2.out, hp3.out, hq0.out, hq1.out, hq2.out, hr0.out, hr1.out, hr2.out] at hP
          rw [hq0.out, hq1.out, hq2.out, hr0.out, hr1.out, hr2.out] at hS
          rw [hp3.out, hq0.out, hq1.out, hq2.out, hr0.out, hr1.out, hr2.out] at HO
          rw [hq0.out] at x0
          rw [hq1.out] at x1
          rw [hq2.out] at x2
          rw [hr0.out] at y0
          rw [hr1.out] at y1
          rw [hr2.out] at y2
          go_wp2_with fail
          refine wp_region_held_drew (S := fun W => (W.cell? ⟨b1, o1 + k * 3, none⟩ = some (.int .i64 q0) ∧ W.cell? ⟨b1, o1 + k * 3 + 1, none⟩ = some (.int .i64 q1) ∧ W.cell? ⟨b1, o1 + k * 3 + 2, none⟩ = some (.string q2)) ∧ (W.cell? ⟨b2, o2 + k * 3, none⟩ = some (.int .i64 r0) ∧ W.cell? ⟨b2, o2 + k * 3 + 1, none⟩ = some (.int .i64 r1) ∧ W.cell? ⟨b2, o2 + k * 3 + 2, none⟩ = some (.string r2))) (by kernel_rfl) (⟨⟨x0, x1, x2⟩, y0, y1, y2⟩) (fun hHeld => ?_)
          refine' wpAnyH_take (i := 0) (v := _) rfl (by kernel_rfl) (by kernel_rfl) (by kernel_rfl) (fun _ _ _ h => h) (Or.inl ⟨by kernel_rfl, ?hax0⟩) (by assumption) ?rax0
          case hax0 => intro W hW; obtain ⟨⟨d0, d1, d2⟩, g0, g1, g2⟩ := hW; go_simp; all_goals with_reducible rfl
          change wpAnyH _ _ _ _ _ _ _ (Act.put _ (some 16) _) _
          simp only [Act.put, List.setIfInBounds_toArray, List.set_cons_zero, List.set_cons_succ]
          refine' wpAnyH_take (i := 1) (v := _) rfl (by kernel_rfl) (by kernel_rfl) (by kernel_rfl) (fun _ _ _ h => h) (Or.inl ⟨by kernel_rfl, ?hax1⟩) (by assumption) ?rax1
          case hax1 => intro W hW; obtain ⟨⟨d0, d1, d2⟩, g0, g1, g2⟩ := hW; go_simp; all_goals with_reducible rfl
          change wpAnyH _ _ _ _ _ _ _ (Act.put _ (some 17) _) _
          simp only [Act.put, List.setIfInBounds_toArray, List.set_cons_zero, List.set_cons_succ]
          refine' wpAnyH_take (i := 2) (v := _) rfl (by kernel_rfl) (by kernel_rfl) (by kernel_rfl) (fun _ _ _ h => h) (Or.inl ⟨by kernel_rfl, ?hax2⟩) (by assumption) ?rax2
          case hax2 => intro W hW; obtain ⟨⟨d0, d1, d2⟩, g0, g1, g2⟩ := hW; go_simp; all_goals with_reducible rfl
          change wpAnyH _ _ _ _ _ _ _ (Act.put _ (some 18) _) _
          simp only [Act.put, List.setIfInBounds_toArray, List.set_cons_zero, List.set_cons_succ]
          refine' wpAnyH_take (i := 3) (v := _) rfl (by kernel_rfl) (by kernel_rfl) (by kernel_rfl) (fun _ _ _ h => h) (Or.inl ⟨by kernel_rfl, ?hax3⟩) (by assumption) ?rax3
          case hax3 => intro W hW; obtain ⟨⟨d0, d1, d2⟩, g0, g1, g2⟩ := hW; go_simp; all_goals with_reducible rfl
          change wpAnyH _ _ _ _ _ _ _ (Act.put _ (some 19) _) _
          simp only [Act.put, List.setIfInBounds_toArray, List.set_cons_zero, List.set_cons_succ]
          refine' wpAnyH_take (i := 4) (v := _) rfl (by kernel_rfl) (by kernel_rfl) (by kernel_rfl) (fun _ _ _ h => h) (Or.inl ⟨by kernel_rfl, ?hax4⟩) (by assumption) ?rax4
          case hax4 => intro W hW; obtain ⟨⟨d0, d1, d2⟩, g0, g1, g2⟩ := hW; go_simp; all_goals with_reducible rfl
          change wpAnyH _ _ _ _ _ _ _ (Act.put _ (some 20) _) _
          simp only [Act.put, List.setIfInBounds_toArray, List.set_cons_zero, List.set_cons_succ]
          refine' wpAnyH_take (i := 5) (v := _) rfl (by kernel_rfl) (by kernel_rfl) (by kernel_rfl) (fun _ _ _ h => h) (Or.inl ⟨by kernel_rfl, ?hax5⟩) (by assumption) ?rax5
          case hax5 => intro W hW; obtain ⟨⟨d0, d1, d2⟩, g0, g1, g2⟩ := hW; go_simp; all_goals with_reducible rfl
          change wpAnyH _ _ _ _ _ _ _ (Act.put _ (some 21) _) _
          simp only [Act.put, List.setIfInBounds_toArray, List.set_cons_zero, List.set_cons_succ]
          refine' wpAnyH_take (i := 6) (v := _) rfl (by kernel_rfl) (by kernel_rfl) (by kernel_rfl) (fun _ _ _ h => h) (Or.inl ⟨by kernel_rfl, ?hax6⟩) (by assumption) ?rax6
          case hax6 => intro W hW; obtain ⟨⟨d0, d1, d2⟩, g0, g1, g2⟩ := hW; go_simp; all_goals with_reducible rfl
          change wpAnyH _ _ _ _ _ _ _ (Act.put _ (some 22) _) _
          simp only [Act.put, List.setIfInBounds_toArray, List.set_cons_zero, List.set_cons_succ]
          refine' wpAnyH_take (i := 7) (v := _) rfl (by kernel_rfl) (by kernel_rfl) (by kernel_rfl) (fun _ _ _ h => h) (Or.inl ⟨by kernel_rfl, ?hax7⟩) (by assumption) ?rax7
          case hax7 => intro W hW; obtain ⟨⟨d0, d1, d2⟩, g0, g1, g2⟩ := hW; go_simp; all_goals with_reducible rfl
          change wpAnyH _ _ _ _ _ _ _ (Act.put _ (some 23) _) _
          simp only [Act.put, List.setIfInBounds_toArray, List.set_cons_zero, List.set_cons_succ]
          refine wpAnyH_ready (rs := [8]) (by kernel_rfl) (by simp) ?_
          refine AllReadyH.cons rfl (fun KK hK => ?_) AllReadyH.nil
          go_simp
          refine (hS _).mono ?_
          rintro e w2 ⟨rfl, hB2⟩
          go_wp2_with fail
          refine hK.out _ _ ⟨⟨by rw [hB2.cell hb1]; exact x0, by rw [hB2.cell hb1]; exact x1, by rw [hB2.cell hb1]; exact x2⟩, by rw [hB2.cell hb2]; exact y0, by rw [hB2.cell hb2]; exact y1, by rw [hB2.cell hb2]; exact y2⟩ (fun hHeld => ?_)
          clear hK KK
          try simp only [Act.put, List.setIfInBounds_toArray, List.set_cons_zero, List.set_cons_succ]
          refine' wpAnyH_take (i := 9) (v := _) rfl (by kernel_rfl) (by kernel_rfl) (by kernel_rfl) (fun _ _ _ h => h) (Or.inl ⟨by kernel_rfl, ?hax9⟩) (by assumption) ?rax9
          case hax9 => intro W hW; obtain ⟨⟨d0, d1, d2⟩, g0, g1, g2⟩ := hW; go_simp; all_goals with_reducible rfl
          change wpAnyH _ _ _ _ _ _ _ (Act.put _ (some 25) _) _
          simp only [Act.put, List.setIfInBounds_toArray, List.set_cons_zero, List.set_cons_succ]
          refine wpAnyH_done (by kernel_rfl) ?_ _
          have hB3 : Hid (Below w.heap.size w w2) := hB.trans (Below.trans (Below.drew (Below.refl _ _)) (hB2.mono (by have := hB.size; exact this)))
          obtain ⟨⟨x0, x1, x2⟩, y0, y1, y2⟩ := hHeld
          replace hb1 : b1 < w2.heap.size := Nat.lt_of_lt_of_le hb1 hB2.size
          replace hb2 : b2 < w2.heap.size := Nat.lt_of_lt_of_le hb2 hB2.size
          clear hS
          cases o with
          | true =>
            go_wp2
            go_roundg (m - (k + 1))
            case measure => omega
            case rel => exact ⟨k + 1, by omega, by omega, rfl, by go_num, hB3.out, HN.out (by simp)⟩
          | false =>
            have HO2 : Hid (lessK n fd m fk fn fs m' fk' fn' fs' = (decide (k < n) && lessP p3 q0 q1 q2 r0 r1 r2)) := HO.out (by simp)
            clear HO HN
            by_cases hkn : k < n
            · have hkn' : (k : Int) < (n : Int) := by omega
              obtain ⟨b0, o0, rfl, hb0, t0, t1, t2, t3⟩ := hpl.out hkn
              have e0 : w2.cell? ⟨b0, o0 + k * 4, none⟩ = some (.int .i64 p0) := by rw [hB2.cell hb0]; exact t0
              have e1 : w2.cell? ⟨b0, o0 + k * 4 + 1, none⟩ = some (.int .i64 p1) := by rw [hB2.cell hb0]; exact t1
              have e2 : w2.cell? ⟨b0, o0 + k * 4 + 2, none⟩ = some (.bool p2) := by rw [hB2.cell hb0]; exact t2
              have e3 : w2.cell? ⟨b0, o0 + k * 4 + 3, none⟩ = some (.bool p3) := by rw [hB2.cell hb0]; exact t3
              replace hb0 : b0 < w2.heap.size := Nat.lt_of_lt_of_le hb0 hB2.size
              obtain ⟨z, hz⟩ : ∃ z, Hid (lessP p3 q0 q1 q2 r0 r1 r2 = z) := ⟨_, rfl⟩
              rw [hz.out] at hP HO2
              rw [decide_eq_true hkn, Bool.true_and] at HO2
              clear t0 t1 t2 t3 hpl hz
              go_wp2_with fail
              refine wp_region_held_drew (S := fun W => (W.cell? ⟨b0, o0 + k * 4, none⟩ = some (.int .i64 p0) ∧ W.cell? ⟨b0, o0 + k * 4 + 1, none⟩ = some (.int .i64 p1) ∧ W.cell? ⟨b0, o0 + k * 4 + 2, none⟩ = some (.bool p2) ∧ W.cell? ⟨b0, o0 + k * 4 + 3, none⟩ = some (.bool p3)) ∧ (W.cell? ⟨b1, o1 + k * 3, none⟩ = some (.int .i64 q0) ∧ W.cell? ⟨b1, o1 + k * 3 + 1, none⟩ = some (.int .i64 q1) ∧ W.cell? ⟨b1, o1 + k * 3 + 2, none⟩ = some (.string q2)) ∧ (W.cell? ⟨b2, o2 + k * 3, none⟩ = some (.int .i64 r0) ∧ W.cell? ⟨b2, o2 + k * 3 + 1, none⟩ = some (.int .i64 r1) ∧ W.cell? ⟨b2, o2 + k * 3 + 2, none⟩ = some (.string r2))) (by kernel_rfl) (⟨⟨e0, e1, e2, e3⟩, ⟨x0, x1, x2⟩, y0, y1, y2⟩) (fun hHeld => ?_)
              refine' wpAnyH_take (i := 0) (v := _) rfl (by kernel_rfl) (by kernel_rfl) (by kernel_rfl) (fun _ _ _ h => h) (Or.inl ⟨by kernel_rfl, ?hbx0⟩) (by assumption) ?rbx0
              case hbx0 => intro W hW; obtain ⟨⟨a0, a1, a2, a3⟩, ⟨d0, d1, d2⟩, g0, g1, g2⟩ := hW; go_simp; all_goals with_reducible rfl
              change wpAnyH _ _ _ _ _ _ _ (Act.put _ (some 26) _) _
              simp only [Act.put, List.setIfInBounds_toArray, List.set_cons_zero, List.set_cons_succ]
              refine' wpAnyH_take (i := 1) (v := _) rfl (by kernel_rfl) (by kernel_rfl) (by kernel_rfl) (fun _ _ _ h => h) (Or.inl ⟨by kernel_rfl, ?hbx1⟩) (by assumption) ?rbx1
              case hbx1 => intro W hW; obtain ⟨⟨a0, a1, a2, a3⟩, ⟨d0, d1, d2⟩, g0, g1, g2⟩ := hW; go_simp; all_goals with_reducible rfl
              change wpAnyH _ _ _ _ _ _ _ (Act.put _ (some 27) _) _
              simp only [Act.put, List.setIfInBounds_toArray, List.set_cons_zero, List.set_cons_succ]
              refine' wpAnyH_take (i := 2) (v := _) rfl (by kernel_rfl) (by kernel_rfl) (by kernel_rfl) (fun _ _ _ h => h) (Or.inl ⟨by kernel_rfl, ?hbx2⟩) (by assumption) ?rbx2
              case hbx2 => intro W hW; obtain ⟨⟨a0, a1, a2, a3⟩, ⟨d0, d1, d2⟩, g0, g1, g2⟩ := hW; go_simp; all_goals with_reducible rfl
              change wpAnyH _ _ _ _ _ _ _ (Act.put _ (some 28) _) _
              simp only [Act.put, List.setIfInBounds_toArray, List.set_cons_zero, List.set_cons_succ]
              refine' wpAnyH_take (i := 3) (v := _) rfl (by kernel_rfl) (by kernel_rfl) (by kernel_rfl) (fun _ _ _ h => h) (Or.inl ⟨by kernel_rfl, ?hbx3⟩) (by assumption) ?rbx3
              case hbx3 => intro W hW; obtain ⟨⟨a0, a1, a2, a3⟩, ⟨d0, d1, d2⟩, g0, g1, g2⟩ := hW; go_simp; all_goals with_reducible rfl
              change wpAnyH _ _ _ _ _ _ _ (Act.put _ (some 29) _) _
              simp only [Act.put, List.setIfInBounds_toArray, List.set_cons_zero, List.set_cons_succ]
              refine' wpAnyH_take (i := 4) (v := _) rfl (by kernel_rfl) (by kernel_rfl) (by kernel_rfl) (fun _ _ _ h => h) (Or.inl ⟨by kernel_rfl, ?hbx4⟩) (by assumption) ?rbx4
              case hbx4 => intro W hW; obtain ⟨⟨a0, a1, a2, a3⟩, ⟨d0, d1, d2⟩, g0, g1, g2⟩ := hW; go_simp; all_goals with_reducible rfl
              change wpAnyH _ _ _ _ _ _ _ (Act.put _ (some 30) _) _
              simp only [Act.put, List.setIfInBounds_toArray, List.set_cons_zero, List.set_cons_succ]
              refine' wpAnyH_take (i := 5) (v := _) rfl (by kernel_rfl) (by kernel_rfl) (by kernel_rfl) (fun _ _ _ h => h) (Or.inl ⟨by kernel_rfl, ?hbx5⟩) (by assumption) ?rbx5
              case hbx5 => intro W hW; obtain ⟨⟨a0, a1, a2, a3⟩, ⟨d0, d1, d2⟩, g0, g1, g2⟩ := hW; go_simp; all_goals with_reducible rfl
              change wpAnyH _ _ _ _ _ _ _ (Act.put _ (some 31) _) _
              simp only [Act.put, List.setIfInBounds_toArray, List.set_cons_zero, List.set_cons_succ]
              refine' wpAnyH_take (i := 6) (v := _) rfl (by kernel_rfl) (by kernel_rfl) (by kernel_rfl) (fun _ _ _ h => h) (Or.inl ⟨by kernel_rfl, ?hbx6⟩) (by assumption) ?rbx6
              case hbx6 => intro W hW; obtain ⟨⟨a0, a1, a2, a3⟩, ⟨d0, d1, d2⟩, g0, g1, g2⟩ := hW; go_simp; all_goals with_reducible rfl
              change wpAnyH _ _ _ _ _ _ _ (Act.put _ (some 32) _) _
              simp only [Act.put, List.setIfInBounds_toArray, List.set_cons_zero, List.set_cons_succ]
              refine' wpAnyH_take (i := 7) (v := _) rfl (by kernel_rfl) (by kernel_rfl) (by kernel_rfl) (fun _ _ _ h => h) (Or.inl ⟨by kernel_rfl, ?hbx7⟩) (by assumption) ?rbx7
              case hbx7 => intro W hW; obtain ⟨⟨a0, a1, a2, a3⟩, ⟨d0, d1, d2⟩, g0, g1, g2⟩ := hW; go_simp; all_goals with_reducible rfl
              change wpAnyH _ _ _ _ _ _ _ (Act.put _ (some 33) _) _
              simp only [Act.put, List.setIfInBounds_toArray, List.set_cons_zero, List.set_cons_succ]
              refine' wpAnyH_take (i := 8) (v := _) rfl (by kernel_rfl) (by kernel_rfl) (by kernel_rfl) (fun _ _ _ h => h) (Or.inl ⟨by kernel_rfl, ?hbx8⟩) (by assumption) ?rbx8
              case hbx8 => intro W hW; obtain ⟨⟨a0, a1, a2, a3⟩, ⟨d0, d1, d2⟩, g0, g1, g2⟩ := hW; go_simp; all_goals with_reducible rfl
              change wpAnyH _ _ _ _ _ _ _ (Act.put _ (some 34) _) _
              simp only [Act.put, List.setIfInBounds_toArray, List.set_cons_zero, List.set_cons_succ]
              refine' wpAnyH_take (i := 9) (v := _) rfl (by kernel_rfl) (by kernel_rfl) (by kernel_rfl) (fun _ _ _ h => h) (Or.inl ⟨by kernel_rfl, ?hbx9⟩) (by assumption) ?rbx9
              case hbx9 => intro W hW; obtain ⟨⟨a0, a1, a2, a3⟩, ⟨d0, d1, d2⟩, g0, g1, g2⟩ := hW; go_simp; all_goals with_reducible rfl
              change wpAnyH _ _ _ _ _ _ _ (Act.put _ (some 35) _) _
              simp only [Act.put, List.setIfInBounds_toArray, List.set_cons_zero, List.set_cons_succ]
              refine' wpAnyH_take (i := 10) (v := _) rfl (by kernel_rfl) (by kernel_rfl) (by kernel_rfl) (fun _ _ _ h => h) (Or.inl ⟨by kernel_rfl, ?hbx10⟩) (by assumption) ?rbx10
              case hbx10 => intro W hW; obtain ⟨⟨a0, a1, a2, a3⟩, ⟨d0, d1, d2⟩, g0, g1, g2⟩ := hW; go_simp; all_goals with_reducible rfl
              change wpAnyH _ _ _ _ _ _ _ (Act.put _ (some 36) _) _
              simp only [Act.put, List.setIfInBounds_toArray, List.set_cons_zero, List.set_cons_succ]
              refine' wpAnyH_take (i := 11) (v := _) rfl (by kernel_rfl) (by kernel_rfl) (by kernel_rfl) (fun _ _ _ h => h) (Or.inl ⟨by kernel_rfl, ?hbx11⟩) (by assumption) ?rbx11
              case hbx11 => intro W hW; obtain ⟨⟨a0, a1, a2, a3⟩, ⟨d0, d1, d2⟩, g0, g1, g2⟩ := hW; go_simp; all_goals with_reducible rfl
              change wpAnyH _ _ _ _ _ _ _ (Act.put _ (some 37) _) _
              simp only [Act.put, List.setIfInBounds_toArray, List.set_cons_zero, List.set_cons_succ]
              refine' wpAnyH_take (i := 12) (v := _) rfl (by kernel_rfl) (by kernel_rfl) (by kernel_rfl) (fun _ _ _ h => h) (Or.inl ⟨by kernel_rfl, ?hbx12⟩) (by assumption) ?rbx12
              case hbx12 => intro W hW; obtain ⟨⟨a0, a1, a2, a3⟩, ⟨d0, d1, d2⟩, g0, g1, g2⟩ := hW; go_simp; all_goals with_reducible rfl
              change wpAnyH _ _ _ _ _ _ _ (Act.put _ (some 38) _) _
              simp only [Act.put, List.setIfInBounds_toArray, List.set_cons_zero, List.set_cons_succ]
              refine' wpAnyH_take (i := 13) (v := _) rfl (by kernel_rfl) (by kernel_rfl) (by kernel_rfl) (fun _ _ _ h => h) (Or.inl ⟨by kernel_rfl, ?hbx13⟩) (by assumption) ?rbx13
              case hbx13 => intro W hW; obtain ⟨⟨a0, a1, a2, a3⟩, ⟨d0, d1, d2⟩, g0, g1, g2⟩ := hW; go_simp; all_goals with_reducible rfl
              change wpAnyH _ _ _ _ _ _ _ (Act.put _ (some 39) _) _
              simp only [Act.put, List.setIfInBounds_toArray, List.set_cons_zero, List.set_cons_succ]
              refine' wpAnyH_take (i := 14) (v := _) rfl (by kernel_rfl) (by kernel_rfl) (by kernel_rfl) (fun _ _ _ h => h) (Or.inl ⟨by kernel_rfl, ?hbx14⟩) (by assumption) ?rbx14
              case hbx14 => intro W hW; obtain ⟨⟨a0, a1, a2, a3⟩, ⟨d0, d1, d2⟩, g0, g1, g2⟩ := hW; go_simp; all_goals with_reducible rfl
              change wpAnyH _ _ _ _ _ _ _ (Act.put _ (some 40) _) _
              simp only [Act.put, List.setIfInBounds_toArray, List.set_cons_zero, List.set_cons_succ]
              refine' wpAnyH_take (i := 15) (v := _) rfl (by kernel_rfl) (by kernel_rfl) (by kernel_rfl) (fun _ _ _ h => h) (Or.inl ⟨by kernel_rfl, ?hbx15⟩) (by assumption) ?rbx15
              case hbx15 => intro W hW; obtain ⟨⟨a0, a1, a2, a3⟩, ⟨d0, d1, d2⟩, g0, g1, g2⟩ := hW; go_simp; all_goals with_reducible rfl
              change wpAnyH _ _ _ _ _ _ _ (Act.put _ (some 41) _) _
              simp only [Act.put, List.setIfInBounds_toArray, List.set_cons_zero, List.set_cons_succ]
              refine' wpAnyH_take (i := 16) (v := _) rfl (by kernel_rfl) (by kernel_rfl) (by kernel_rfl) (fun _ _ _ h => h) (Or.inl ⟨by kernel_rfl, ?hbx16⟩) (by assumption) ?rbx16
              case hbx16 => intro W hW; obtain ⟨⟨a0, a1, a2, a3⟩, ⟨d0, d1, d2⟩, g0, g1, g2⟩ := hW; go_simp; all_goals with_reducible rfl
              change wpAnyH _ _ _ _ _ _ _ (Act.put _ (some 42) _) _
              simp only [Act.put, List.setIfInBounds_toArray, List.set_cons_zero, List.set_cons_succ]
              refine wpAnyH_ready (rs := [17]) (by kernel_rfl) (by simp) ?_
              refine AllReadyH.cons rfl (fun KK hK => ?_) AllReadyH.nil
              go_simp
              refine (hP _).mono ?_
              rintro e w3 ⟨rfl, hB4⟩
              go_wp2_with fail
              refine hK.out _ _ ⟨⟨by rw [hB4.cell hb0]; exact e0, by rw [hB4.cell hb0]; exact e1, by rw [hB4.cell hb0]; exact e2, by rw [hB4.cell hb0]; exact e3⟩, ⟨by rw [hB4.cell hb1]; exact x0, by rw [hB4.cell hb1]; exact x1, by rw [hB4.cell hb1]; exact x2⟩, by rw [hB4.cell hb2]; exact y0, by rw [hB4.cell hb2]; exact y1, by rw [hB4.cell hb2]; exact y2⟩ (fun hHeld => ?_)
              clear hK KK
              try simp only [Act.put, List.setIfInBounds_toArray, List.set_cons_zero, List.set_cons_succ]
              refine' wpAnyH_take (i := 18) (v := _) rfl (by kernel_rfl) (by kernel_rfl) (by kernel_rfl) (fun _ _ _ h => h) (Or.inl ⟨by kernel_rfl, ?hbx18⟩) (by assumption) ?rbx18
              case hbx18 => intro W hW; obtain ⟨⟨a0, a1, a2, a3⟩, ⟨d0, d1, d2⟩, g0, g1, g2⟩ := hW; go_simp; all_goals with_reducible rfl
              change wpAnyH _ _ _ _ _ _ _ (Act.put _ (some 44) _) _
              simp only [Act.put, List.setIfInBounds_toArray, List.set_cons_zero, List.set_cons_succ]
              refine' wpAnyH_take (i := 19) (v := _) rfl (by kernel_rfl) (by kernel_rfl) (by kernel_rfl) (fun _ _ _ h => h) (Or.inl ⟨by kernel_rfl, ?hbx19⟩) (by assumption) ?rbx19
              case hbx19 => intro W hW; obtain ⟨⟨a0, a1, a2, a3⟩, ⟨d0, d1, d2⟩, g0, g1, g2⟩ := hW; go_simp; all_goals with_reducible rfl
              change wpAnyH _ _ _ _ _ _ _ (Act.put _ (some 6) _) _
              simp only [Act.put, List.setIfInBounds_toArray, List.set_cons_zero, List.set_cons_succ]
              refine wpAnyH_done (by kernel_rfl) ?_ _
              have hB5 : Hid (Below w.heap.size w w3) := hB3.out.trans (Below.trans (Below.drew (Below.refl _ _)) (hB4.mono (by have := hB3.out.size; exact this)))
              clear hHeld x0 x1 x2 y0 y1 y2 e0 e1 e2 e3 hP
              go_wp2
              go_ret
              exact ⟨by rw [HO2.out]; rfl, hB5.out⟩
            · have hkn' : ¬ (k : Int) < (n : Int) := by omega
              rw [decide_eq_false hkn, Bool.false_and] at HO2
              clear hpl
              go_wp2_with fail
              refine wp_region_held_drew (S := fun W => (W.cell? ⟨b1, o1 + k * 3, none⟩ = some (.int .i64 q0) ∧ W.cell? ⟨b1, o1 + k * 3 + 1, none⟩ = some (.int .i64 q1) ∧ W.cell? ⟨b1, o1 + k * 3 + 2, none⟩ = some (.string q2)) ∧ (W.cell? ⟨b2, o2 + k * 3, none⟩ = some (.int .i64 r0) ∧ W.cell? ⟨b2, o2 + k * 3 + 1, none⟩ = some (.int .i64 r1) ∧ W.cell? ⟨b2, o2 + k * 3 + 2, none⟩ = some (.string r2))) (by kernel_rfl) (⟨⟨x0, x1, x2⟩, y0, y1, y2⟩) (fun hHeld => ?_)
              refine' wpAnyH_take (i := 0) (v := _) rfl (by kernel_rfl) (by kernel_rfl) (by kernel_rfl) (fun _ _ _ h => h) (Or.inl ⟨by kernel_rfl, ?hcx0⟩) (by assumption) ?rcx0
              case hcx0 => intro W hW; obtain ⟨⟨d0, d1, d2⟩, g0, g1, g2⟩ := hW; go_simp; all_goals with_reducible rfl
              change wpAnyH _ _ _ _ _ _ _ (Act.put _ (some 26) _) _
              simp only [Act.put, List.setIfInBounds_toArray, List.set_cons_zero, List.set_cons_succ]
              refine' wpAnyH_take (i := 1) (v := _) rfl (by kernel_rfl) (by kernel_rfl) (by kernel_rfl) (fun _ _ _ h => h) (Or.inl ⟨by kernel_rfl, ?hcx1⟩) (by assumption) ?rcx1
              case hcx1 => intro W hW; obtain ⟨⟨d0, d1, d2⟩, g0, g1, g2⟩ := hW; go_simp; all_goals with_reducible rfl
              change wpAnyH _ _ _ _ _ _ _ (Act.put _ (some 27) _) _
              simp only [Act.put, List.setIfInBounds_toArray, List.set_cons_zero, List.set_cons_succ]
              refine' wpAnyH_take (i := 2) (v := _) rfl (by kernel_rfl) (by kernel_rfl) (by kernel_rfl) (fun _ _ _ h => h) (Or.inl ⟨by kernel_rfl, ?hcx2⟩) (by assumption) ?rcx2
              case hcx2 => intro W hW; obtain ⟨⟨d0, d1, d2⟩, g0, g1, g2⟩ := hW; go_simp; all_goals with_reducible rfl
              change wpAnyH _ _ _ _ _ _ _ (Act.put _ (some 28) _) _
              simp only [Act.put, List.setIfInBounds_toArray, List.set_cons_zero, List.set_cons_succ]
              refine' wpAnyH_take (i := 3) (v := _) rfl (by kernel_rfl) (by kernel_rfl) (by kernel_rfl) (fun _ _ _ h => h) (Or.inl ⟨by kernel_rfl, ?hcx3⟩) (by assumption) ?rcx3
              case hcx3 => intro W hW; obtain ⟨⟨d0, d1, d2⟩, g0, g1, g2⟩ := hW; go_simp; all_goals with_reducible rfl
              change wpAnyH _ _ _ _ _ _ _ (Act.put _ (some 29) _) _
              simp only [Act.put, List.setIfInBounds_toArray, List.set_cons_zero, List.set_cons_succ]
              refine' wpAnyH_take (i := 4) (v := _) rfl (by kernel_rfl) (by kernel_rfl) (by kernel_rfl) (fun _ _ _ h => h) (Or.inl ⟨by kernel_rfl, ?hcx4⟩) (by assumption) ?rcx4
              case hcx4 => intro W hW; obtain ⟨⟨d0, d1, d2⟩, g0, g1, g2⟩ := hW; go_simp; all_goals with_reducible rfl
              change wpAnyH _ _ _ _ _ _ _ (Act.put _ (some 30) _) _
              simp only [Act.put, List.setIfInBounds_toArray, List.set_cons_zero, List.set_cons_succ]
              refine wpAnyH_take (i := 5) (v := undef) rfl (by kernel_rfl) (by kernel_rfl) (by kernel_rfl) (fun _ _ _ h => h) (Or.inr ⟨by kernel_rfl, rfl⟩) (by assumption) ?_
              change wpAnyH _ _ _ _ _ _ _ (Act.put _ (some 31) _) _
              simp only [Act.put, List.setIfInBounds_toArray, List.set_cons_zero, List.set_cons_succ]
              refine wpAnyH_take (i := 6) (v := undef) rfl (by kernel_rfl) (by kernel_rfl) (by kernel_rfl) (fun _ _ _ h => h) (Or.inr ⟨by kernel_rfl, rfl⟩) (by assumption) ?_
              change wpAnyH _ _ _ _ _ _ _ (Act.put _ (some 32) _) _
              simp only [Act.put, List.setIfInBounds_toArray, List.set_cons_zero, List.set_cons_succ]
              refine wpAnyH_take (i := 7) (v := undef) rfl (by kernel_rfl) (by kernel_rfl) (by kernel_rfl) (fun _ _ _ h => h) (Or.inr ⟨by kernel_rfl, rfl⟩) (by assumption) ?_
              change wpAnyH _ _ _ _ _ _ _ (Act.put _ (some 33) _) _
              simp only [Act.put, List.setIfInBounds_toArray, List.set_cons_zero, List.set_cons_succ]
              refine wpAnyH_take (i := 8) (v := undef) rfl (by kernel_rfl) (by kernel_rfl) (by kernel_rfl) (fun _ _ _ h => h) (Or.inr ⟨by kernel_rfl, rfl⟩) (by assumption) ?_
              change wpAnyH _ _ _ _ _ _ _ (Act.put _ (some 34) _) _
              simp only [Act.put, List.setIfInBounds_toArray, List.set_cons_zero, List.set_cons_succ]
              refine wpAnyH_take (i := 9) (v := undef) rfl (by kernel_rfl) (by kernel_rfl) (by kernel_rfl) (fun _ _ _ h => h) (Or.inr ⟨by kernel_rfl, rfl⟩) (by assumption) ?_
              change wpAnyH _ _ _ _ _ _ _ (Act.put _ (some 35) _) _
              simp only [Act.put, List.setIfInBounds_toArray, List.set_cons_zero, List.set_cons_succ]
              refine wpAnyH_take (i := 10) (v := undef) rfl (by kernel_rfl) (by kernel_rfl) (by kernel_rfl) (fun _ _ _ h => h) (Or.inr ⟨by kernel_rfl, rfl⟩) (by assumption) ?_
              change wpAnyH _ _ _ _ _ _ _ (Act.put _ (some 36) _) _
              simp only [Act.put, List.setIfInBounds_toArray, List.set_cons_zero, List.set_cons_succ]
              refine wpAnyH_take (i := 11) (v := undef) rfl (by kernel_rfl) (by kernel_rfl) (by kernel_rfl) (fun _ _ _ h => h) (Or.inr ⟨by kernel_rfl, rfl⟩) (by assumption) ?_
              change wpAnyH _ _ _ _ _ _ _ (Act.put _ (some 37) _) _
              simp only [Act.put, List.setIfInBounds_toArray, List.set_cons_zero, List.set_cons_succ]
              refine wpAnyH_take (i := 12) (v := undef) rfl (by kernel_rfl) (by kernel_rfl) (by kernel_rfl) (fun _ _ _ h => h) (Or.inr ⟨by kernel_rfl, rfl⟩) (by assumption) ?_
              change wpAnyH _ _ _ _ _ _ _ (Act.put _ (some 38) _) _
              simp only [Act.put, List.setIfInBounds_toArray, List.set_cons_zero, List.set_cons_succ]
              refine wpAnyH_take (i := 13) (v := undef) rfl (by kernel_rfl) (by kernel_rfl) (by kernel_rfl) (fun _ _ _ h => h) (Or.inr ⟨by kernel_rfl, rfl⟩) (by assumption) ?_
              change wpAnyH _ _ _ _ _ _ _ (Act.put _ (some 39) _) _
              simp only [Act.put, List.setIfInBounds_toArray, List.set_cons_zero, List.set_cons_succ]
              refine wpAnyH_take (i := 14) (v := undef) rfl (by kernel_rfl) (by kernel_rfl) (by kernel_rfl) (fun _ _ _ h => h) (Or.inr ⟨by kernel_rfl, rfl⟩) (by assumption) ?_
              change wpAnyH _ _ _ _ _ _ _ (Act.put _ (some 40) _) _
              simp only [Act.put, List.setIfInBounds_toArray, List.set_cons_zero, List.set_cons_succ]
              refine wpAnyH_take (i := 15) (v := undef) rfl (by kernel_rfl) (by kernel_rfl) (by kernel_rfl) (fun _ _ _ h => h) (Or.inr ⟨by kernel_rfl, rfl⟩) (by assumption) ?_
              change wpAnyH _ _ _ _ _ _ _ (Act.put _ (some 41) _) _
              simp only [Act.put, List.setIfInBounds_toArray, List.set_cons_zero, List.set_cons_succ]
              refine wpAnyH_take (i := 16) (v := undef) rfl (by kernel_rfl) (by kernel_rfl) (by kernel_rfl) (fun _ _ _ h => h) (Or.inr ⟨by kernel_rfl, rfl⟩) (by assumption) ?_
              change wpAnyH _ _ _ _ _ _ _ (Act.put _ (some 42) _) _
              simp only [Act.put, List.setIfInBounds_toArray, List.set_cons_zero, List.set_cons_succ]
              refine wpAnyH_take (i := 17) (v := undef) rfl (by kernel_rfl) (by kernel_rfl) (by kernel_rfl) (fun _ _ _ h => h) (Or.inr ⟨by kernel_rfl, rfl⟩) (by assumption) ?_
              change wpAnyH _ _ _ _ _ _ _ (Act.put _ (some 43) _) _
              simp only [Act.put, List.setIfInBounds_toArray, List.set_cons_zero, List.set_cons_succ]
              refine' wpAnyH_take (i := 18) (v := _) rfl (by kernel_rfl) (by kernel_rfl) (by kernel_rfl) (fun _ _ _ h => h) (Or.inl ⟨by kernel_rfl, ?hcx18⟩) (by assumption) ?rcx18
              case hcx18 => intro W hW; obtain ⟨⟨d0, d1, d2⟩, g0, g1, g2⟩ := hW; go_simp; all_goals with_reducible rfl
              change wpAnyH _ _ _ _ _ _ _ (Act.put _ (some 44) _) _
              simp only [Act.put, List.setIfInBounds_toArray, List.set_cons_zero, List.set_cons_succ]
              refine' wpAnyH_take (i := 19) (v := _) rfl (by kernel_rfl) (by kernel_rfl) (by kernel_rfl) (fun _ _ _ h => h) (Or.inl ⟨by kernel_rfl, ?hcx19⟩) (by assumption) ?rcx19
              case hcx19 => intro W hW; obtain ⟨⟨d0, d1, d2⟩, g0, g1, g2⟩ := hW; go_simp; all_goals with_reducible rfl
              change wpAnyH _ _ _ _ _ _ _ (Act.put _ (some 6) _) _
              simp only [Act.put, List.setIfInBounds_toArray, List.set_cons_zero, List.set_cons_succ]
              refine wpAnyH_done (by kernel_rfl) ?_ _
              have hB5 : Hid (Below w.heap.size w w2.drew) := hB3.out.drew
              clear hHeld x0 x1 x2 y0 y1 y2 hP
              go_wp2
              go_ret
              exact ⟨by rw [HO2.out]; rfl, hB5.out⟩
        · exfalso; omega
      · have hkz : ¬ (k : Int) < (m : Int) := by omega
        have HT : Hid (lessK n fd m fk fn fs m' fk' fn' fs' = decide (m < m')) := lessK_same (fun j hj => HA.out j (by omega))
        clear HA
        by_cases hmm : m < m'
        · have hmm' : (m : Int) < (m' : Int) := by omega
          have HD : Hid (decide (m < m') = true) := decide_eq_true hmm
          go_wp2
          go_ret
          exact ⟨by rw [HT.out, HD.out]; rfl, hB⟩
        · have hmm' : ¬ (m : Int) < (m' : Int) := by omega
          have HD : Hid (decide (m < m') = false) := decide_eq_false hmm
          go_wp2
          go_ret
          exact ⟨by rw [HT.out, HD.out]; rfl, hB⟩
end Go.Proofs.YtkakkjnbhklfpaaGreatDoor

