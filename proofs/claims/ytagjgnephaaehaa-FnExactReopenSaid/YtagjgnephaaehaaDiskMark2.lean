/-
  The laws' markDisk and heldDisk, walked.
-/
import Derived.Test.YtagjgnephaaehaaDiskMark
import Derived.Test.YtagjgnephaaehaaDiskCopy2
import Derived.Test.YtagjgnephaaehaaDiskSize
import Derived.Deep.LoopGhost
namespace Go.Proofs.Ytagjgnephaaehaa
open Go.RowKit
set_option maxRecDepth 4000

set_option maxHeartbeats 2000000 in
theorem markByteSS_any (a : Option Addr) (cap B H : Nat) (ss cs : List Value) (l ms : List (List Int)) (k : Int) (w : World) (hR : RL 49 w B a ss) (hB : Bs w B (ss ++ cs) (l ++ ms)) (hl : ss.length = l.length) (hH : ∀ v, v ∈ ss → ∀ g, v.ownBlock = some g → g < H) (hn : l.length ≤ 1048576) (hk : 0 ≤ k) (hk1 : k + szS l ≤ 4611686018427387904) :
    Calls Try.prog 28 #[.slice a l.length cap, .int .i64 k] w fun e w' => e = .returned (.int .i64 (k + szS l)) ∧ Bs w' B (ss ++ cs) (l.mapIdx (fS k l) ++ ms) ∧ Out B H w w' ∧ w'.heap.size = w.heap.size ∧ Keep8 w w' := by
  go_enter Try.func28, Try.ntmps28
  go_wp2
  go_loopg [1, 5] l.length (fun q s i wr => ∃ j : Nat, j ≤ l.length ∧ q = l.length - j ∧ s = .int .i64 (k + szS (l.take j)) ∧ i = .int .i64 j ∧ Bs wr B (ss ++ cs) (upto (fS k l) l j ++ ms) ∧ Out B H w wr ∧ wr.heap.size = w.heap.size ∧ Keep8 w wr)
  case atStart => exact ⟨0, Nat.zero_le _, rfl, by simp [szS], rfl, by rw [upto_zero]; exact hB, Out.refl _ _ _, rfl, fun _ _ _ _ _ _ => rfl⟩
  case round =>
    clear hB
    obtain ⟨j, hj, rfl, rfl, rfl, hB, hO, hsz, ho⟩ := hrel
    by_cases hlt : j < l.length
    · have hjz : (j : Int) < (l.length : Int) := by omega
      have hR2 : RL 49 wr B a ss := hR.keep ho (by decide)
      obtain ⟨g, rfl, hg0, hg1, hgc⟩ := hR2.cell (by omega)
      have hv := List.getElem?_eq_getElem (l := ss) (i := j) (by omega)
      have hc := hgc j _ hv
      have hvs : (ss ++ cs)[j]? = some ss[j] := by rw [List.getElem?_append_left (by omega)]; exact hv
      have hls : (upto (fS k l) l j ++ ms)[j]? = some l[j] := by
        rw [List.getElem?_append_left (by rw [upto_len]; exact hlt), upto_get, List.getElem?_eq_getElem hlt]
        simp
      have hOB := hB.ob j _ _ hvs hls
      have hst := szS_take hlt
      have hsl := szS_le l (j + 1)
      have hV := markOB hOB (k + szS (l.take j)) (by omega) (by omega)
      have HS : Hid ((upto (fS k l) l j ++ ms).set j (mkB (k + szS (l.take j)) (l[j]).length) = upto (fS k l) l (j + 1) ++ ms) := by
        show _ = _
        rw [List.set_append_left _ _ (by rw [upto_len]; exact hlt)]
        rw [← upto_set _ _ _ hlt]
        rfl
      have HK : Hid (k + szS (l.take j) + (l[j]).length = k + szS (l.take (j + 1))) := by
        show _ = _
        rw [hst]; omega
      have HH : Hid (∀ g, ss[j].ownBlock = some g → B ≤ g ∧ g < H) := fun g e => ⟨(hB.lt _ (List.mem_of_getElem? hvs) g e).1, hH _ (List.mem_of_getElem? hv) g e⟩
      have HB : Hid (Bs wr B (ss ++ cs) (upto (fS k l) l j ++ ms) ∧ Out B H w wr ∧ Keep8 w wr ∧ (ss ++ cs)[j]? = some ss[j]) := ⟨hB, hO, ho, hvs⟩
      clear hB hO ho hvs hls hOB hst hsl hR hR2 hgc hv
      obtain ⟨k0, hk0⟩ := hidEx (k + (szS (l.take j) : Int))
      obtain ⟨k2, hk2⟩ := hidEx (k + (szS (l.take (j + 1)) : Int))
      obtain ⟨n0, hn0⟩ := hidEx (l[j]).length
      obtain ⟨v0, hv0⟩ := hidEx ss[j]
      rw [hv0.out] at hc hV HH HB
      rw [hn0.out, hk0.out] at hV HS
      rw [hn0.out, hk0.out, hk2.out] at HK
      have hHs := hH
      clear hH
      rw [hk0.out]
      go_wp2_with fail
      refine hV.mono ?_
      rintro e w2 ⟨rfl, hm, hov⟩
      have HR : Hid (Bs w2 B (ss ++ cs) (upto (fS k l) l (j + 1) ++ ms) ∧ Out B H w w2 ∧ w2.heap.size = w.heap.size ∧ Keep8 w w2) := by
        refine ⟨?_, HB.out.2.1.trans (Out.ofOnlyV hov HH.out), by rw [hov.size, hsz], HB.out.2.2.1.trans hov.keep⟩
        rw [← HS.out]
        exact HB.out.1.mark HB.out.2.2.2 hm hov
      rw [HK.out]
      clear hV hm hov HB HS HH HK
      go_wp2
      go_roundg (l.length - (j + 1))
      case measure => omega
      case rel => exact ⟨j + 1, by omega, rfl, by rw [hk2.out], by go_num, HR.out⟩
    · obtain rfl : j = l.length := by omega
      have hjz : ¬ (l.length : Int) < (l.length : Int) := by omega
      rw [List.take_length]
      have HB : Hid (Bs wr B (ss ++ cs) (l.mapIdx (fS k l) ++ ms)) := by
        show Bs _ _ _ _
        rw [← upto_all (fS k l) l l.length (Nat.le_refl _)]
        exact hB
      clear hB hR
      go_wp2
      go_ret
      exact ⟨rfl, HB.out, hO, hsz, ho⟩

set_option maxHeartbeats 2000000 in
theorem heldByteSS_any (a : Option Addr) (cap : Nat) (l : List (List Int)) (k : Int) (w : World) (h : SView w a cap (l.mapIdx (fS k l))) (hn : l.length ≤ 1048576) (hk : 0 ≤ k) (hk1 : k + szS l ≤ 4611686018427387904) :
    Calls Try.prog 31 #[.slice a l.length cap, .int .i64 k] w fun e w' => e = .returned (.int .i64 (k + szS l)) ∧ Below w.heap.size w w' := by
  go_enter Try.func31, Try.ntmps31
  go_wp2
  go_loopg [1, 5] l.length (fun q s i wr => ∃ j : Nat, j ≤ l.length ∧ q = l.length - j ∧ s = .int .i64 (k + szS (l.take j)) ∧ i = .int .i64 j ∧ Below w.heap.size w wr)
  case atStart => exact ⟨0, Nat.zero_le _, rfl, by simp [szS], rfl, Below.refl _ _⟩
  case round =>
    obtain ⟨j, hj, rfl, rfl, rfl, hB⟩ := hrel
    by_cases hlt : j < l.length
    · have hjz : (j : Int) < (l.length : Int) := by omega
      obtain ⟨b1, o1, a', c', rfl, hb1, x0, v0, -⟩ := sview_at (sview_below h hB) (i := j) (by simpa using hlt)
      have eL : (l.mapIdx (fS k l))[j]'(by simpa using hlt) = mkB (k + szS (l.take j)) (l[j]).length := by simp [fS]
      rw [eL, mkB_len] at x0 v0
      have hst := szS_take hlt
      have hsl := szS_le l (j + 1)
      have hV := held_any a' (l[j]).length c' _ (k + szS (l.take j)) wr v0 (fun i hi => mkB_get _ _ i hi) (by omega) (by omega)
      have HK : Hid (k + szS (l.take j) + (l[j]).length = k + szS (l.take (j + 1))) := by
        show _ = _
        rw [hst]; omega
      have hp : ¬ k + szS (l.take (j + 1)) < (0 : Int) := by omega
      clear h v0 eL hst hsl
      obtain ⟨k0, hk0⟩ := hidEx (k + (szS (l.take j) : Int))
      obtain ⟨k2, hk2⟩ := hidEx (k + (szS (l.take (j + 1)) : Int))
      obtain ⟨n0, hn0⟩ := hidEx (l[j]).length
      rw [hn0.out] at x0
      rw [hn0.out, hk0.out] at hV
      rw [hn0.out, hk0.out, hk2.out] at HK
      rw [hk2.out] at hp
      rw [hk0.out]
      go_wp2_with fail
      refine hV.mono ?_
      rintro e w2 ⟨rfl, hb2⟩
      have HB : Hid (Below w.heap.size w w2) := hB.trans (hb2.mono hB.size)
      rw [HK.out]
      clear hV hb2 HK hB
      go_wp2
      go_roundg (l.length - (j + 1))
      case measure => omega
      case rel => exact ⟨j + 1, by omega, rfl, by rw [hk2.out], by go_num, HB.out⟩
    · obtain rfl : j = l.length := by omega
      have hjz : ¬ (l.length : Int) < (l.length : Int) := by omega
      rw [List.take_length]
      clear h
      go_wp2
      go_ret
      exact ⟨rfl, hB⟩
end Go.Proofs.Ytagjgnephaaehaa
