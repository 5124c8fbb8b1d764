/-
  Together: DiskMark4, LawReadSecOf
-/
import Derived.Test.YtphipmhibegbnaaPkR5
import Derived.Test.YtphipmhibegbnaaPkR3
import Derived.Test.YtphipmhibegbnaaPkR4
import Derived.Deep.RegionHeld3
/-
  Marks in faults and in a whole disk, and what finds them.
-/
namespace Go.Proofs.Ytphipmhibegbnaa
open Go.RowKit
set_option maxRecDepth 4000

theorem fcells_at {l : List PFault} (i j : Nat) (hj : j < 3) : (fcells l)[i * 3 + j]? = (l[i]?).bind (fun x => (fEl x)[j]?) := flat_get fEl 3 (fun _ => rfl) _ i j hj
theorem fcells_set {l : List PFault} {j : Nat} (hj : j < l.length) (x : PFault) : (((fcells l).set (j * 3) (.int .i64 x.pos)).set (j * 3 + 1) (.int .i64 x.keep)).set (j * 3 + 2) (.int .i64 x.cut) = fcells (l.set j x) := by
  have hw := fcells_len l
  refine List.ext_getElem? (fun q => ?_)
  have hq : q = q / 3 * 3 + q % 3 := by omega
  have hm : q % 3 < 3 := by omega
  rw [List.getElem?_set, List.getElem?_set, List.getElem?_set]
  simp only [List.length_set]
  have R : (fcells (l.set j x))[q]? = ((l.set j x)[q / 3]?).bind (fun x => (fEl x)[q % 3]?) := by
    have := fcells_at (l := l.set j x) (q / 3) (q % 3) hm
    rw [← hq] at this; exact this
  rw [R, List.getElem?_set]
  by_cases e2 : j * 3 + 2 = q
  · rw [if_pos e2, if_pos (by omega), if_pos (by omega), if_pos (by omega), show q % 3 = 2 by omega]; rfl
  rw [if_neg e2]
  by_cases e1 : j * 3 + 1 = q
  · rw [if_pos e1, if_pos (by omega), if_pos (by omega), if_pos (by omega), show q % 3 = 1 by omega]; rfl
  rw [if_neg e1]
  by_cases e0 : j * 3 = q
  · rw [if_pos e0, if_pos (by omega), if_pos (by omega), if_pos (by omega), show q % 3 = 0 by omega]; rfl
  rw [if_neg e0, if_neg (by omega)]
  have := fcells_at (l := l) (q / 3) (q % 3) hm
  rw [← hq] at this; exact this

set_option maxHeartbeats 4000000 in
theorem markFaultS_any (a : Option Addr) (cap B H : Nat) (l : List PFault) (k : Int) (w : World) (hR : RL 78 w B a (fcells l)) (hA : 0 < l.length → ∀ g, a = some ⟨g, 0, none⟩ → g < H) (hn : l.length ≤ 1048576) (hk : 0 ≤ k) (hk1 : k + 3 * l.length ≤ 4611686018427387904) :
    Calls Try.prog 45 #[.slice a l.length cap, .int .i64 k] w fun e w' => e = .returned (.int .i64 (k + 3 * l.length)) ∧ RL 78 w' B a (fcells (l.mapIdx (fF k))) ∧ Out B H w w' ∧ w'.heap.size = w.heap.size ∧ KeepT (fun t => t = 78) w w' := by
  go_enter Try.func45, Try.ntmps45
  go_wp2
  go_loopg [1, 5] l.length (fun q s i wr => ∃ j : Nat, j ≤ l.length ∧ q = l.length - j ∧ s = .int .i64 (k + 3 * (j : Int)) ∧ i = .int .i64 j ∧ RL 78 wr B a (fcells (upto (fF k) l j)) ∧ Out B H w wr ∧ wr.heap.size = w.heap.size ∧ KeepT (fun t => t = 78) w wr)
  case atStart => exact ⟨0, Nat.zero_le _, rfl, by simp, rfl, by rw [upto_zero]; exact hR, Out.refl _ _ _, rfl, KeepT.refl _ _⟩
  case round =>
    clear hR
    obtain ⟨j, hj, rfl, rfl, rfl, hR, hO, hsz, ho⟩ := hrel
    by_cases hlt : j < l.length
    · have hjz : (j : Int) < (l.length : Int) := by omega
      have hul := upto_len (fF k) l j
      have hwl := fcells_len (upto (fF k) l j)
      obtain ⟨g, rfl, hg0, hg1, hgc⟩ := hR.cell (by omega)
      have hgH := hA (by omega) g rfl
      have hu : (upto (fF k) l j)[j]? = some l[j] := by rw [upto_get, List.getElem?_eq_getElem hlt]; simp
      obtain ⟨N, hN⟩ := hidEx (k + 3 * (j : Int))
      have hNe := hN.out
      have c0 := hgc (j * 3) (.int .i64 (l[j]).pos) (by have := fcells_get hu (j := 0) (by decide); simpa [fEl] using this)
      have c1 := hgc (j * 3 + 1) (.int .i64 (l[j]).keep) (by have := fcells_get hu (j := 1) (by decide); simpa [fEl] using this)
      have c2 := hgc (j * 3 + 2) (.int .i64 (l[j]).cut) (by have := fcells_get hu (j := 2) (by decide); simpa [fEl] using this)
      have q0 := hR.cellFz (by omega) (j * 3)
      have q1 := hR.cellFz (by omega) (j * 3 + 1)
      have q2 := hR.cellFz (by omega) (j * 3 + 2)
      have R1 := hR.set (j * 3) (.int .i64 N) (by omega)
      have K1 : KeepT (fun t => t = 78) w (wr.setCell ⟨g, j * 3, none⟩ (.int .i64 N)) := ho.trans (KeepT.set hR (by omega) rfl)
      have R2 := R1.set (j * 3 + 1) (.int .i64 (N + 1)) (by simp; omega)
      have K2 : KeepT (fun t => t = 78) w ((wr.setCell ⟨g, j * 3, none⟩ (.int .i64 N)).setCell ⟨g, j * 3 + 1, none⟩ (.int .i64 (N + 1))) := K1.trans (KeepT.set R1 (by simp; omega) rfl)
      have R3 := R2.set (j * 3 + 2) (.int .i64 (N + 2)) (by simp; omega)
      have K3 : KeepT (fun t => t = 78) w (((wr.setCell ⟨g, j * 3, none⟩ (.int .i64 N)).setCell ⟨g, j * 3 + 1, none⟩ (.int .i64 (N + 1))).setCell ⟨g, j * 3 + 2, none⟩ (.int .i64 (N + 2))) := K2.trans (KeepT.set R2 (by simp; omega) rfl)
      have O3 : Out B H w (((wr.setCell ⟨g, j * 3, none⟩ (.int .i64 N)).setCell ⟨g, j * 3 + 1, none⟩ (.int .i64 (N + 1))).setCell ⟨g, j * 3 + 2, none⟩ (.int .i64 (N + 2))) := ((hO.trans (Out.set ⟨hg0, hgH⟩)).trans (Out.set ⟨hg0, hgH⟩)).trans (Out.set ⟨hg0, hgH⟩)
      rw [fcells_set (x := ⟨N, N + 1, N + 2⟩) (by omega)] at R3
      have HS : (upto (fF k) l j).set j ⟨N, N + 1, N + 2⟩ = upto (fF k) l (j + 1) := by
        rw [← upto_set _ _ _ hlt, ← hN.out]
        rfl
      rw [HS] at R3
      have HR : Hid (RL 78 (((wr.setCell ⟨g, j * 3, none⟩ (.int .i64 N)).setCell ⟨g, j * 3 + 1, none⟩ (.int .i64 (N + 1))).setCell ⟨g, j * 3 + 2, none⟩ (.int .i64 (N + 2))) B (some ⟨g, 0, none⟩) (fcells (upto (fF k) l (j + 1))) ∧ Out B H w (((wr.setCell ⟨g, j * 3, none⟩ (.int .i64 N)).setCell ⟨g, j * 3 + 1, none⟩ (.int .i64 (N + 1))).setCell ⟨g, j * 3 + 2, none⟩ (.int .i64 (N + 2))) ∧ (((wr.setCell ⟨g, j * 3, none⟩ (.int .i64 N)).setCell ⟨g, j * 3 + 1, none⟩ (.int .i64 (N + 1))).setCell ⟨g, j * 3 + 2, none⟩ (.int .i64 (N + 2))).heap.size = w.heap.size ∧ KeepT (fun t => t = 78) w (((wr.setCell ⟨g, j * 3, none⟩ (.int .i64 N)).setCell ⟨g, j * 3 + 1, none⟩ (.int .i64 (N + 1))).setCell ⟨g, j * 3 + 2, none⟩ (.int .i64 (N + 2)))) := ⟨R3, O3, by simpa using hsz, K3⟩
      have hw1 : IntKind.i64.wrap (N + 1) = N + 1 := by rw [IntKind.wrap_i64]; omega
      have hw2 : IntKind.i64.wrap (N + 1 + 1) = N + 2 := by rw [IntKind.wrap_i64]; omega
      have hw3 : IntKind.i64.wrap (N + 2 + 1) = N + 3 := by rw [IntKind.wrap_i64]; omega
      have hw4 : IntKind.i64.wrap ((j : Int) + 1) = (j : Int) + 1 := by rw [IntKind.wrap_i64]; omega
      obtain ⟨n0, hn0⟩ := hidEx (l[j]).pos
      obtain ⟨n1, hn1⟩ := hidEx (l[j]).keep
      obtain ⟨n2, hn2⟩ := hidEx (l[j]).cut
      rw [hn0.out] at c0
      rw [hn1.out] at c1
      rw [hn2.out] at c2
      clear hR hO ho hgc hu R1 R2 R3 K1 K2 K3 O3 HS
      rw [hN.out]
      go_wp2
      go_roundg (l.length - (j + 1))
      case measure => omega
      case rel => exact ⟨j + 1, by omega, rfl, by go_num, by go_num, HR.out⟩
    · obtain rfl : j = l.length := by omega
      have hjz : ¬ (l.length : Int) < (l.length : Int) := by omega
      have HB : Hid (RL 78 wr B a (fcells (l.mapIdx (fF k)))) := by
        show RL _ _ _ _ _
        rw [← upto_all (fF k) l l.length (Nat.le_refl _)]
        exact hR
      clear hR
      go_wp2
      go_ret
      exact ⟨rfl, HB.out, hO, hsz, ho⟩

set_option maxHeartbeats 2000000 in
theorem heldWriteS_any (a : Option Addr) (cap : Nat) (l : List (Int × List Int)) (k : Int) (w : World) (h : WView w a cap (l.mapIdx (fC k l))) (hn : l.length ≤ 1048576) (hk : 0 ≤ k) (hk1 : k + szC l ≤ 4611686018427387904) :
    Calls Try.prog 56 #[.slice a l.length cap, .int .i64 k] w fun e w' => e = .returned (.int .i64 (k + szC l)) ∧ Below w.heap.size w w' := by
  go_enter Try.func56, Try.ntmps56
  go_wp2
  go_loopg [1, 5] l.length (fun q s i wr => ∃ j : Nat, j ≤ l.length ∧ q = l.length - j ∧ s = .int .i64 (k + szC (l.take j)) ∧ i = .int .i64 j ∧ Below w.heap.size w wr)
  case atStart => exact ⟨0, Nat.zero_le _, rfl, by simp [szC], rfl, Below.refl _ _⟩
  case round =>
    obtain ⟨j, hj, rfl, rfl, rfl, hB⟩ := hrel
    by_cases hlt : j < l.length
    · have hjz : (j : Int) < (l.length : Int) := by omega
      obtain ⟨b1, o1, a', c', rfl, hb1, x0, x1, v0, -⟩ := wview_at (wview_below h hB) (i := j) (by simpa using hlt)
      have eL : (l.mapIdx (fC k l))[j]'(by simpa using hlt) = (k + szC (l.take j), mkB (k + szC (l.take j) + 1) (l[j]).2.length) := by simp [fC]
      simp only [eL, mkB_len] at x0 x1 v0
      have hst := szC_take hlt
      have hsl := szC_le l (j + 1)
      have hV := held_any a' (l[j]).2.length c' _ (k + szC (l.take j) + 1) wr v0 (fun i hi => mkB_get _ _ i hi) (by omega) (by omega)
      have HK : Hid (k + szC (l.take j) + 1 + (l[j]).2.length = k + szC (l.take (j + 1))) := by
        show _ = _
        rw [hst]; omega
      have hp : ¬ k + szC (l.take (j + 1)) < (0 : Int) := by omega
      have hw1 : IntKind.i64.wrap (k + szC (l.take j) + 1) = k + szC (l.take j) + 1 := by rw [IntKind.wrap_i64]; omega
      clear h v0 eL hst hsl
      obtain ⟨k0, hk0⟩ := hidEx (k + (szC (l.take j) : Int))
      obtain ⟨k2, hk2⟩ := hidEx (k + (szC (l.take (j + 1)) : Int))
      obtain ⟨n0, hn0⟩ := hidEx (l[j]).2.length
      rw [hn0.out] at x1
      rw [hn0.out, hk0.out] at hV
      rw [hn0.out, hk0.out, hk2.out] at HK
      rw [hk2.out] at hp
      rw [hk0.out] at x0 hw1
      have hq : (k0 != k0) = false := bne_self_eq_false _
      rw [hk0.out]
      go_wp2_with fail
      refine hV.mono ?_
      rintro e w2 ⟨rfl, hb2⟩
      have HB : Hid (Below w.heap.size w w2) := hB.trans (hb2.mono hB.size)
      rw [HK.out]
      clear hV hb2 HK hB
      go_wp2
      go_roundg (l.length - (j + 1))
      case measure => omega
      case rel => exact ⟨j + 1, by omega, rfl, by rw [hk2.out], by go_num, HB.out⟩
    · obtain rfl : j = l.length := by omega
      have hjz : ¬ (l.length : Int) < (l.length : Int) := by omega
      rw [List.take_length]
      clear h
      go_wp2
      go_ret
      exact ⟨rfl, hB⟩

set_option maxHeartbeats 2000000 in
theorem heldFaultS_any (a : Option Addr) (cap : Nat) (l : List PFault) (k : Int) (w : World) (h : FView w a cap (l.mapIdx (fF k))) (hn : l.length ≤ 1048576) (hk : 0 ≤ k) (hk1 : k + 3 * l.length ≤ 4611686018427387904) :
    Calls Try.prog 57 #[.slice a l.length cap, .int .i64 k] w fun e w' => e = .returned (.int .i64 (k + 3 * l.length)) ∧ Below w.heap.size w w' := by
  go_enter Try.func57, Try.ntmps57
  go_wp2
  go_loopg [1, 5] l.length (fun q s i wr => ∃ j : Nat, j ≤ l.length ∧ q = l.length - j ∧ s = .int .i64 (k + 3 * (j : Int)) ∧ i = .int .i64 j ∧ Below w.heap.size w wr)
  case atStart => exact ⟨0, Nat.zero_le _, rfl, by simp, rfl, Below.refl _ _⟩
  case round =>
    obtain ⟨j, hj, rfl, rfl, rfl, hB⟩ := hrel
    by_cases hlt : j < l.length
    · have hjz : (j : Int) < (l.length : Int) := by omega
      obtain ⟨b1, o1, rfl, hb1, x0, x1, x2⟩ := fview_at (fview_below h hB) (i := j) (by simpa using hlt)
      have eL : (l.mapIdx (fF k))[j]'(by simpa using hlt) = ⟨k + 3 * (j : Int), k + 3 * (j : Int) + 1, k + 3 * (j : Int) + 2⟩ := by simp [fF]
      simp only [eL] at x0 x1 x2
      obtain ⟨N, hN⟩ := hidEx (k + 3 * (j : Int))
      have hNe := hN.out
      rw [hN.out] at x0 x1 x2
      have hw1 : IntKind.i64.wrap (N + 1) = N + 1 := by rw [IntKind.wrap_i64]; omega
      have hw2 : IntKind.i64.wrap (N + 1 + 1) = N + 2 := by rw [IntKind.wrap_i64]; omega
      have hw3 : IntKind.i64.wrap (N + 2 + 1) = N + 3 := by rw [IntKind.wrap_i64]; omega
      have hw4 : IntKind.i64.wrap ((j : Int) + 1) = (j : Int) + 1 := by rw [IntKind.wrap_i64]; omega
      have hq0 : (N != N) = false := bne_self_eq_false _
      have hq1 : (N + 1 != N + 1) = false := bne_self_eq_false _
      have hq2 : (N + 2 != N + 2) = false := bne_self_eq_false _
      clear h eL
      rw [hN.out]
      go_wp2
      go_roundg (l.length - (j + 1))
      case measure => omega
      case rel => exact ⟨j + 1, by omega, rfl, by go_num, by go_num, hB⟩
    · obtain rfl : j = l.length := by omega
      have hjz : ¬ (l.length : Int) < (l.length : Int) := by omega
      clear h
      go_wp2
      go_ret
      exact ⟨rfl, hB⟩

/-- A disk of the call's own whose rows lie from B on, below H. -/
def KIn (w : World) (B H : Nat) (v : Value) (D : PDisk) : Prop := ∃ sa sc ca cc fa fc ss cs, v = dval D sa sc ca cc fa fc ∧ KO w B sa sc ca cc fa fc ss cs D ∧ (∀ u, u ∈ ss ++ cs → ∀ g, u.ownBlock = some g → g < H) ∧ (0 < D.cache.length → ∀ g, ca = some ⟨g, 0, none⟩ → g < H) ∧ (0 < D.faults.length → ∀ g, fa = some ⟨g, 0, none⟩ → g < H)
theorem KOwn.kin {w : World} {B : Nat} {v : Value} {D : PDisk} (h : KOwn w B v D) : KIn w B w.heap.size v D := by
  obtain ⟨sa, sc, ca, cc, fa, fc, ss, cs, e, hk⟩ := h
  refine ⟨sa, sc, ca, cc, fa, fc, ss, cs, e, hk, fun u hu g hg => (hk.bytes.lt u hu g hg).2, fun hn g hg => ?_, fun hn g hg => ?_⟩
  · obtain ⟨g', e', -, hlt, -⟩ := hk.cache.cell (by rw [wcells_len hk.nc]; omega)
    rw [hg] at e'; cases e'; exact hlt
  · obtain ⟨g', e', -, hlt, -⟩ := hk.faults.cell (by rw [fcells_len]; omega)
    rw [hg] at e'; cases e'; exact hlt
theorem KIn.up {w w' : World} {B H : Nat} {v : Value} {D : PDisk} (h : KIn w B H v D) (hu : Up B w w') : KIn w' B H v D := by
  obtain ⟨sa, sc, ca, cc, fa, fc, ss, cs, e, hk, h1⟩ := h
  exact ⟨sa, sc, ca, cc, fa, fc, ss, cs, e, hk.up hu, h1⟩
theorem KIn.own {w : World} {B H : Nat} {v : Value} {D : PDisk} (h : KIn w B H v D) : KOwn w B v D := by
  obtain ⟨sa, sc, ca, cc, fa, fc, ss, cs, e, hk, h1⟩ := h
  exact ⟨sa, sc, ca, cc, fa, fc, ss, cs, e, hk⟩
theorem KFine.sum {D : PDisk} (h : KFine D) : szS D.secs ≤ 1099511627776 ∧ szC D.cache ≤ 1099512676352 ∧ D.faults.length ≤ 1048576 := ⟨szS_bound h.ns h.sec, szC_bound h.nc h.cache, h.nf⟩

set_option maxHeartbeats 4000000 in
theorem markDisk_any (v : Value) (D : PDisk) (B H : Nat) (k : Int) (w : World) (h : KIn w B H v D) (hf : KFine D) (hk : 0 ≤ k) (hk1 : k ≤ 1000000000) :
    Calls Try.prog 15 #[v, .int .i64 k] w fun e w' => e = .returned (.int .i64 (k + szD D)) ∧ KIn w' B H v (mkD k D) ∧ Out B H w w' := by
  obtain ⟨sa, sc, ca, cc, fa, fc, ss, cs, rfl, hk0, hH, hC, hF⟩ := h
  obtain ⟨z1, z2, z3⟩ := hf.sum
  unfold dval
  have hbA : Below w.heap.size w (w.alloc (.cells #[.slice sa D.secs.length sc, .slice ca D.cache.length cc, .int .i64 D.ops, .slice fa D.faults.length fc, .bool D.down] 34)) := (Below.refl _ _).alloc (Nat.le_refl _) _
  have V0 := VN.new w 34 [.slice sa D.secs.length sc, .slice ca D.cache.length cc, .int .i64 D.ops, .slice fa D.faults.length fc, .bool D.down]
  obtain ⟨W0, hW0⟩ := hidEx (w.alloc (.cells #[.slice sa D.secs.length sc, .slice ca D.cache.length cc, .int .i64 D.ops, .slice fa D.faults.length fc, .bool D.down] 34))
  have hk2 := hk0.up (Up.ofBelow hbA)
  rw [hW0.out] at hk2 hbA
  replace V0 : VN W0 w.heap.size 34 [.slice sa D.secs.length sc, .slice ca D.cache.length cc, .int .i64 D.ops, .slice fa D.faults.length fc, .bool D.down] := by rw [← hW0.out]; exact V0
  have hV := markByteSS_any sa sc B H ss cs D.secs (D.cache.map (·.2)) k W0 hk2.secs hk2.bytes hk2.ns (fun v hv => hH v (List.mem_append_left _ hv)) hf.ns hk (by omega)
  have x0 := V0.cell 0
  simp at x0
  go_enter Try.func15, Try.ntmps15
  go_wp2_with (rw [hW0.out])
  refine hV.mono ?_
  rintro e w1 ⟨rfl, B1, O1, S1, K1⟩
  have V1 := V0.block (K1 _ _ _ _ V0 (by decide))
  have x1 := V1.cell 1
  simp at x1
  have C1 := hk2.cache.keep K1 (by decide)
  have R1 := hk2.secs.keep K1 (by decide)
  have F1 := hk2.faults.keep K1 (by decide)
  obtain ⟨k1, hk1e⟩ := hidEx (k + (szS D.secs : Int))
  have hk1v := hk1e.out
  rw [hk1e.out]
  have hV := markWriteS_any ca cc B H ss cs (D.secs.mapIdx (fS k D.secs)) D.cache k1 w1 C1 B1 hk2.nc (by simp [hk2.ns]) (fun v hv => hH v (List.mem_append_right _ hv)) hC hf.nc (by omega) (by omega)
  go_wp2_with fail
  refine hV.mono ?_
  rintro e w2 ⟨rfl, C2, B2, O2, S2, K2⟩
  have V2 := V1.block (K2 _ _ _ _ V1 (by decide))
  have x3 := V2.cell 3
  simp at x3
  have R2 := R1.keepT K2 (by decide)
  have F2 := F1.keepT K2 (by decide)
  obtain ⟨k3, hk3e⟩ := hidEx (k1 + (szC D.cache : Int))
  have hk3v := hk3e.out
  rw [hk3e.out]
  have hV := markFaultS_any fa fc B H D.faults k3 w2 F2 hF hf.nf (by omega) (by omega)
  go_wp2_with fail
  refine hV.mono ?_
  rintro e w3 ⟨rfl, F3, O3, S3, K3⟩
  have R3 := R2.keepT K3 (by decide)
  have C3 := C2.keepT K3 (by decide)
  have B3 := B2.keepT K3 (by omega) (by decide)
  have HR : Hid (KIn w3 B H (dval D sa sc ca cc fa fc) (mkD k D) ∧ Out B H w w3) := by
    have hl1 : (D.secs.mapIdx (fS k D.secs)).length = D.secs.length := by simp
    have hl2 : (D.cache.mapIdx (fC k1 D.cache)).length = D.cache.length := by simp
    have hl3 : (D.faults.mapIdx (fF k3)).length = D.faults.length := by simp
    have em : mkD k D = ⟨D.secs.mapIdx (fS k D.secs), D.cache.mapIdx (fC k1 D.cache), D.ops, D.faults.mapIdx (fF k3), D.down⟩ := by
      unfold mkD
      rw [hk1v, hk3v]
    rw [em]
    refine ⟨⟨sa, sc, ca, cc, fa, fc, ss, cs, ?_, ⟨by simpa using hk2.sle, hk2.snil, by simpa using hk2.cle, hk2.cnil, by simpa using hk2.fle, hk2.fnil, by simpa using hk2.ns, by simpa using hk2.nc, R3, C3, F3, B3⟩, hH, by simpa using hC, by simpa using hF⟩, ((Out.ofBelow hbA).trans O1).trans (O2.trans O3)⟩
    unfold dval
    simp only [hl1, hl2, hl3]
  have hres : k3 + 3 * (D.faults.length : Int) = k + szD D := by
    unfold szD
    rw [← hk3v, ← hk1v]
    simp only [Int.natCast_add, Int.natCast_mul]
    omega
  rw [hres]
  clear hV R3 C3 B3 F3 R2 C2 F2 B2 R1 C1 F1 B1 K1 K2 K3 O1 O2 O3 hk2 hk0 hH hC hF V0 V1 V2 x0 x1 x3
  go_wp2
  go_ret
  exact ⟨rfl, HR.out.1, HR.out.2⟩

set_option maxHeartbeats 4000000 in
theorem heldDisk_any (v : Value) (D : PDisk) (k : Int) (w : World) (h : KView w v (mkD k D)) (hf : KFine D) (hk : 0 ≤ k) (hk1 : k ≤ 1000000000) :
    Calls Try.prog 21 #[v, .int .i64 k] w fun e w' => e = .returned (.int .i64 (k + szD D)) ∧ Below w.heap.size w w' := by
  obtain ⟨z1, z2, z3⟩ := hf.sum
  obtain ⟨sa, sc, ca, cc, fa, fc, rfl, hs, hc, hfv⟩ := h.is
  clear h
  have hl1 : (mkD k D).secs.length = D.secs.length := by simp [mkD]
  have hl2 : (mkD k D).cache.length = D.cache.length := by simp [mkD]
  have hl3 : (mkD k D).faults.length = D.faults.length := by simp [mkD]
  have hl4 : (mkD k D).ops = D.ops := rfl
  have hl5 : (mkD k D).down = D.down := rfl
  rw [hl1, hl2, hl3, hl4, hl5]
  have hB0 := box5_start w (.cells #[.slice sa D.secs.length sc, .slice ca D.cache.length cc, .int .i64 D.ops, .slice fa D.faults.length fc, .bool D.down] 34)
  obtain ⟨hBw0, -⟩ := box5_below hB0
  have hV := heldByteSS_any sa sc D.secs k _ (sview_below hs hBw0) hf.ns hk (by omega)
  go_enter Try.func21, Try.ntmps21
  go_wp2_with fail
  refine hV.mono ?_
  rintro e w1 ⟨rfl, hb1⟩
  have hB1 := box5_on hB0 hb1
  obtain ⟨hBw1, -⟩ := box5_below hB1
  obtain ⟨x0, x1, x2, x3, x4⟩ := box5 hB1
  clear hV hB0 hBw0 hb1
  obtain ⟨k1, hk1e⟩ := hidEx (k + (szS D.secs : Int))
  have hk1v := hk1e.out
  rw [hk1e.out]
  have hp1 : ¬ k1 < 0 := by omega
  have hV := heldWriteS_any ca cc D.cache k1 w1 (by rw [← hk1v]; exact wview_below hc hBw1) hf.nc (by omega) (by omega)
  go_wp2_with fail
  refine hV.mono ?_
  rintro e w2 ⟨rfl, hb2⟩
  have hB2 := box5_on hB1 hb2
  obtain ⟨hBw2, -⟩ := box5_below hB2
  clear x0 x1 x2 x3 x4
  obtain ⟨x0, x1, x2, x3, x4⟩ := box5 hB2
  clear hV hB1 hBw1 hb2
  obtain ⟨k3, hk3e⟩ := hidEx (k1 + (szC D.cache : Int))
  have hk3v := hk3e.out
  rw [hk3e.out]
  have hp3 : ¬ k3 < 0 := by omega
  have hV := heldFaultS_any fa fc D.faults k3 w2 (by rw [← hk3v, ← hk1v]; exact fview_below hfv hBw2) hf.nf (by omega) (by omega)
  go_wp2_with fail
  refine hV.mono ?_
  rintro e w3 ⟨rfl, hb3⟩
  have hB3 := box5_on hB2 hb3
  obtain ⟨hBw3, -⟩ := box5_below hB3
  clear x0 x1 x2 x3 x4
  have hres : k3 + 3 * (D.faults.length : Int) = k + szD D := by
    unfold szD
    rw [← hk3v, ← hk1v]
    simp only [Int.natCast_add, Int.natCast_mul]
    omega
  rw [hres]
  have hp4 : ¬ k + szD D < (0 : Int) := by omega
  clear hV hB2 hBw2 hb3 hs hc hfv hf
  go_wp2
  go_ret
  exact ⟨rfl, hBw3⟩
end Go.Proofs.Ytphipmhibegbnaa

/-
  The law FnExactReadSec, walked, out of what both sides come to.
-/
namespace Go.Proofs.Ytphipmhibegbnaa
open Go.RowKit
set_option maxRecDepth 4000

set_option maxHeartbeats 16000000 in
theorem lawReadSecOf (v : Value) (D : PDisk) (n : Int) (l : List Int) (ok : Bool) (w : World) (h : KView w v D) (hm : KLim D) (hS : ∀ W u, KFine D → KView W u D → Calls Try.prog 10 #[u, .int .i64 n] W (BTo W l ok)) (hP : ∀ W u, KFine D → KView W u D → Calls Try.prog 12 #[u, .int .i64 n] W (BTo W l ok)) (hl : KFine D → l.length ≤ 1048576) :
    Calls Try.prog 3 #[v, .int .i64 n] w fun e w' => e = .returned (.bool true) ∧ Below w.heap.size w w' := by
  have hv := h
  obtain ⟨sa, sc, ca, cc, fa, fc, rfl, -, -, -⟩ := h.is
  clear h
  have hBw : Below w.heap.size w (w.alloc (.cells #[.slice sa D.secs.length sc, .slice ca D.cache.length cc, .int .i64 D.ops, .slice fa D.faults.length fc, .bool D.down] 26)) := (Below.refl _ _).alloc (Nat.le_refl _) _
  have nA : VN (w.alloc (.cells #[.slice sa D.secs.length sc, .slice ca D.cache.length cc, .int .i64 D.ops, .slice fa D.faults.length fc, .bool D.down] 26)) w.heap.size 26 [.slice sa D.secs.length sc, .slice ca D.cache.length cc, .int .i64 D.ops, .slice fa D.faults.length fc, .bool D.down] := VN.new w 26 [.slice sa D.secs.length sc, .slice ca D.cache.length cc, .int .i64 D.ops, .slice fa D.faults.length fc, .bool D.down]
  have zA : (w.alloc (.cells #[.slice sa D.secs.length sc, .slice ca D.cache.length cc, .int .i64 D.ops, .slice fa D.faults.length fc, .bool D.down] 26)).heap.size = w.heap.size + 1 := by simp
  have hZ := szDisk_fine _ D 1048576 _ (hv.below hBw) hm (by omega) (by omega)
  clear hm
  go_enter Try.func3, Try.ntmps3
  go_wp2_with fail
  refine hZ.mono ?_
  rintro e w1 ⟨L, rfl, hb1, hL⟩
  clear hZ
  have zw1 := hb1.size
  replace nA := nA.below hb1
  replace hBw := hBw.trans (hb1.mono hBw.size)
  rcases hL with rfl | ⟨hL0, hL1, hf⟩
  · have HB : Hid (Below w.heap.size w w1) := hBw
    clear hv nA hBw hb1
    go_wp2
    go_ret
    exact ⟨rfl, HB.out⟩
  have hLn : ¬ L < 0 := by omega
  have hl := hl hf
  have hqq : (ok != ok) = false := bne_self_eq_false _
  clear hb1
  have hC := toDisk_any _ D w1 (hv.below hBw) hf
  have nA0 : w1.cell? ⟨w.heap.size, 0, none⟩ = some (.slice sa D.secs.length sc) := nA.cell 0
  have nA1 : w1.cell? ⟨w.heap.size, 1, none⟩ = some (.slice ca D.cache.length cc) := nA.cell 1
  have nA2 : w1.cell? ⟨w.heap.size, 2, none⟩ = some (.int .i64 D.ops) := nA.cell 2
  have nA3 : w1.cell? ⟨w.heap.size, 3, none⟩ = some (.slice fa D.faults.length fc) := nA.cell 3
  have nA4 : w1.cell? ⟨w.heap.size, 4, none⟩ = some (.bool D.down) := nA.cell 4
  go_wp2_with fail
  refine hC.mono ?_
  rintro e w2 ⟨v2, rfl, hO2, hb2⟩
  clear hC
  clear nA0 nA1 nA2 nA3 nA4
  have zw2 := hb2.size
  replace nA := nA.below hb2
  replace hBw := hBw.trans (hb2.mono hBw.size)
  clear hb2
  have hC := hS w2 v2 hf hO2.view
  go_wp2_with fail
  refine hC.mono ?_
  rintro e w3 ⟨v3, rfl, hO3, hb3⟩
  clear hC hO2 hS
  have zw3 := hb3.size
  replace nA := nA.below hb3
  replace hBw := hBw.trans (hb3.mono hBw.size)
  clear hb3
  have hV0 : LV w3 v3 l := hO3.lv
  clear hO3
  have hB0 : Below w3.heap.size w3 w3 := Below.refl _ _
  have hC := toDisk_any _ D w3 (hv.below hBw) hf
  have nA0 : w3.cell? ⟨w.heap.size, 0, none⟩ = some (.slice sa D.secs.length sc) := nA.cell 0
  have nA1 : w3.cell? ⟨w.heap.size, 1, none⟩ = some (.slice ca D.cache.length cc) := nA.cell 1
  have nA2 : w3.cell? ⟨w.heap.size, 2, none⟩ = some (.int .i64 D.ops) := nA.cell 2
  have nA3 : w3.cell? ⟨w.heap.size, 3, none⟩ = some (.slice fa D.faults.length fc) := nA.cell 3
  have nA4 : w3.cell? ⟨w.heap.size, 4, none⟩ = some (.bool D.down) := nA.cell 4
  go_wp2_with fail
  refine hC.mono ?_
  rintro e w4 ⟨v4, rfl, hO4, hb4⟩
  clear hC
  clear nA0 nA1 nA2 nA3 nA4
  have zw4 := hb4.size
  replace nA := nA.below hb4
  replace hBw := hBw.trans (hb4.mono hBw.size)
  replace hB0 := hB0.trans (hb4.mono hB0.size)
  clear hb4
  have hIx := hO4.kin
  clear hO4
  have hVx := hIx.own.view
  obtain ⟨x1, x2, x3, x4, x5, x6, cx1, cx2, ex, -⟩ := id hIx
  subst ex
  unfold dval at hIx hVx ⊢
  have hBx : Below w4.heap.size w4 w4 := Below.refl _ _
  have hbA : Below w4.heap.size w4 (w4.alloc (.cells #[.slice x1 D.secs.length x2, .slice x3 D.cache.length x4, .int .i64 D.ops, .slice x5 D.faults.length x6, .bool D.down] 34)) := (Below.refl _ _).alloc (Nat.le_refl _) _
  have nx : VN (w4.alloc (.cells #[.slice x1 D.secs.length x2, .slice x3 D.cache.length x4, .int .i64 D.ops, .slice x5 D.faults.length x6, .bool D.down] 34)) w4.heap.size 34 [.slice x1 D.secs.length x2, .slice x3 D.cache.length x4, .int .i64 D.ops, .slice x5 D.faults.length x6, .bool D.down] := VN.new w4 34 [.slice x1 D.secs.length x2, .slice x3 D.cache.length x4, .int .i64 D.ops, .slice x5 D.faults.length x6, .bool D.down]
  have zanx : (w4.alloc (.cells #[.slice x1 D.secs.length x2, .slice x3 D.cache.length x4, .int .i64 D.ops, .slice x5 D.faults.length x6, .bool D.down] 34)).heap.size = w4.heap.size + 1 := by simp
  replace nA := nA.below hbA
  replace hBw := hBw.trans (hbA.mono hBw.size)
  replace hB0 := hB0.trans (hbA.mono hB0.size)
  replace hBx := hBx.trans (hbA.mono hBx.size)
  replace hIx := hIx.up (Up.ofBelow hbA)
  clear hbA
  have hC := hP (w4.alloc (.cells #[.slice x1 D.secs.length x2, .slice x3 D.cache.length x4, .int .i64 D.ops, .slice x5 D.faults.length x6, .bool D.down] 34)) _ hf (hVx.below hBx)
  have nx0 : (w4.alloc (.cells #[.slice x1 D.secs.length x2, .slice x3 D.cache.length x4, .int .i64 D.ops, .slice x5 D.faults.length x6, .bool D.down] 34)).cell? ⟨w4.heap.size, 0, none⟩ = some (.slice x1 D.secs.length x2) := nx.cell 0
  have nx1 : (w4.alloc (.cells #[.slice x1 D.secs.length x2, .slice x3 D.cache.length x4, .int .i64 D.ops, .slice x5 D.faults.length x6, .bool D.down] 34)).cell? ⟨w4.heap.size, 1, none⟩ = some (.slice x3 D.cache.length x4) := nx.cell 1
  have nx2 : (w4.alloc (.cells #[.slice x1 D.secs.length x2, .slice x3 D.cache.length x4, .int .i64 D.ops, .slice x5 D.faults.length x6, .bool D.down] 34)).cell? ⟨w4.heap.size, 2, none⟩ = some (.int .i64 D.ops) := nx.cell 2
  have nx3 : (w4.alloc (.cells #[.slice x1 D.secs.length x2, .slice x3 D.cache.length x4, .int .i64 D.ops, .slice x5 D.faults.length x6, .bool D.down] 34)).cell? ⟨w4.heap.size, 3, none⟩ = some (.slice x5 D.faults.length x6) := nx.cell 3
  have nx4 : (w4.alloc (.cells #[.slice x1 D.secs.length x2, .slice x3 D.cache.length x4, .int .i64 D.ops, .slice x5 D.faults.length x6, .bool D.down] 34)).cell? ⟨w4.heap.size, 4, none⟩ = some (.bool D.down) := nx.cell 4
  go_wp2_with fail
  refine hC.mono ?_
  rintro e w5 ⟨v5, rfl, hIg, hb5⟩
  clear hC
  clear nx0 nx1 nx2 nx3 nx4
  have zw5 := hb5.size
  replace nA := nA.below hb5
  replace nx := nx.below hb5
  replace hBw := hBw.trans (hb5.mono hBw.size)
  replace hB0 := hB0.trans (hb5.mono hB0.size)
  replace hBx := hBx.trans (hb5.mono hBx.size)
  replace hIx := hIx.up (Up.ofBelow hb5)
  clear hb5
  rw [zanx] at hIg zw5
  have hC := eqLV_any _ _ l w5 hIg.lv (hV0.below hB0) hl
  go_wp2_with fail
  refine hC.mono ?_
  rintro e w6 ⟨rfl, hb6⟩
  clear hC
  have zw6 := hb6.size
  replace nA := nA.below hb6
  replace nx := nx.below hb6
  replace hBw := hBw.trans (hb6.mono hBw.size)
  replace hB0 := hB0.trans (hb6.mono hB0.size)
  replace hBx := hBx.trans (hb6.mono hBx.size)
  replace hIx := hIx.up (Up.ofBelow hb6)
  replace hIg := hIg.up (Up.ofBelow hb6)
  clear hb6
  go_wp2_with fail
  refine wp_region_held_drew (S := fun WW => (WW.cell? ⟨w.heap.size, 0, none⟩ = some (.slice sa D.secs.length sc) ∧ WW.cell? ⟨w.heap.size, 1, none⟩ = some (.slice ca D.cache.length cc) ∧ WW.cell? ⟨w.heap.size, 2, none⟩ = some (.int .i64 D.ops) ∧ WW.cell? ⟨w.heap.size, 3, none⟩ = some (.slice fa D.faults.length fc) ∧ WW.cell? ⟨w.heap.size, 4, none⟩ = some (.bool D.down)) ∧ (WW.cell? ⟨w4.heap.size, 0, none⟩ = some (.slice x1 D.secs.length x2) ∧ WW.cell? ⟨w4.heap.size, 1, none⟩ = some (.slice x3 D.cache.length x4) ∧ WW.cell? ⟨w4.heap.size, 2, none⟩ = some (.int .i64 D.ops) ∧ WW.cell? ⟨w4.heap.size, 3, none⟩ = some (.slice x5 D.faults.length x6) ∧ WW.cell? ⟨w4.heap.size, 4, none⟩ = some (.bool D.down))) (by kernel_rfl) ⟨⟨nA.cell 0, nA.cell 1, nA.cell 2, nA.cell 3, nA.cell 4⟩, nx.cell 0, nx.cell 1, nx.cell 2, nx.cell 3, nx.cell 4⟩ (fun hHeld => ?_)
  have hbd : Below w6.heap.size w6 w6.drew := (Below.refl _ _).drew
  obtain ⟨wd, hwd⟩ := hidEx w6.drew
  rw [hwd.out] at hbd hHeld ⊢
  have zwd := hbd.size
  replace nA := nA.below hbd
  replace nx := nx.below hbd
  replace hBw := hBw.trans (hbd.mono hBw.size)
  replace hB0 := hB0.trans (hbd.mono hB0.size)
  replace hBx := hBx.trans (hbd.mono hBx.size)
  replace hIx := hIx.up (Up.ofBelow hbd)
  replace hIg := hIg.up (Up.ofBelow hbd)
  clear hbd
  refine' wpAnyH_take (i := 0) (v := _) rfl (by kernel_rfl) (by kernel_rfl) (by kernel_rfl) (fun _ _ _ h => h) (Or.inl ⟨by kernel_rfl, ?hdd1⟩) (by assumption) ?rdd1
  case hdd1 => intro W hW; obtain ⟨⟨a0, a1, a2, a3, a4⟩, y0, y1, y2, y3, y4⟩ := hW; go_simp; all_goals with_reducible rfl
  change wpAnyH _ _ _ _ _ _ _ (Act.put _ (some 45) _) _
  simp only [Act.put, List.setIfInBounds_toArray, List.set_cons_zero, List.set_cons_succ]
  refine' wpAnyH_take (i := 1) (v := _) rfl (by kernel_rfl) (by kernel_rfl) (by kernel_rfl) (fun _ _ _ h => h) (Or.inl ⟨by kernel_rfl, ?hdd2⟩) (by assumption) ?rdd2
  case hdd2 => intro W hW; obtain ⟨⟨a0, a1, a2, a3, a4⟩, y0, y1, y2, y3, y4⟩ := hW; go_simp; all_goals with_reducible rfl
  change wpAnyH _ _ _ _ _ _ _ (Act.put _ (some 46) _) _
  simp only [Act.put, List.setIfInBounds_toArray, List.set_cons_zero, List.set_cons_succ]
  refine wpAnyH_ready (rs := [2]) (by kernel_rfl) (by simp) ?_
  refine AllReadyH.cons rfl (fun KK hK => ?_) AllReadyH.nil
  go_simp
  refine (toDisk_any _ D wd (hv.below hBw) hf).mono ?_
  rintro e w7 ⟨v7, rfl, hO7, hb7⟩
  have zw7 := hb7.size
  replace nA := nA.below hb7
  replace nx := nx.below hb7
  replace hBw := hBw.trans (hb7.mono hBw.size)
  replace hB0 := hB0.trans (hb7.mono hB0.size)
  replace hBx := hBx.trans (hb7.mono hBx.size)
  replace hIx := hIx.up (Up.ofBelow hb7)
  replace hIg := hIg.up (Up.ofBelow hb7)
  clear hb7
  go_wp2_with fail
  refine hK.out _ _ ⟨⟨nA.cell 0, nA.cell 1, nA.cell 2, nA.cell 3, nA.cell 4⟩, nx.cell 0, nx.cell 1, nx.cell 2, nx.cell 3, nx.cell 4⟩ (fun hHeld => ?_)
  clear hK KK
  try simp only [Act.put, List.setIfInBounds_toArray, List.set_cons_zero, List.set_cons_succ]
  refine wpAnyH_ready (rs := [3]) (by kernel_rfl) (by simp) ?_
  refine AllReadyH.cons rfl (fun KK hK => ?_) AllReadyH.nil
  go_simp
  refine (eqDisk_same _ _ D w7 (hIx.own.view) hO7.view hf).mono ?_
  rintro e w8 ⟨rfl, hb8⟩
  clear hO7
  have zw8 := hb8.size
  replace nA := nA.below hb8
  replace nx := nx.below hb8
  replace hBw := hBw.trans (hb8.mono hBw.size)
  replace hB0 := hB0.trans (hb8.mono hB0.size)
  replace hBx := hBx.trans (hb8.mono hBx.size)
  replace hIx := hIx.up (Up.ofBelow hb8)
  replace hIg := hIg.up (Up.ofBelow hb8)
  clear hb8
  go_wp2_with fail
  refine hK.out _ _ ⟨⟨nA.cell 0, nA.cell 1, nA.cell 2, nA.cell 3, nA.cell 4⟩, nx.cell 0, nx.cell 1, nx.cell 2, nx.cell 3, nx.cell 4⟩ (fun hHeld => ?_)
  clear hK KK
  try simp only [Act.put, List.setIfInBounds_toArray, List.set_cons_zero, List.set_cons_succ]
  refine' wpAnyH_take (i := 4) (v := _) rfl (by kernel_rfl) (by kernel_rfl) (by kernel_rfl) (fun _ _ _ h => h) (Or.inl ⟨by kernel_rfl, ?hdd3⟩) (by assumption) ?rdd3
  case hdd3 => intro W hW; obtain ⟨⟨a0, a1, a2, a3, a4⟩, y0, y1, y2, y3, y4⟩ := hW; go_simp; all_goals with_reducible rfl
  change wpAnyH _ _ _ _ _ _ _ (Act.put _ (some 49) _) _
  simp only [Act.put, List.setIfInBounds_toArray, List.set_cons_zero, List.set_cons_succ]
  refine wpAnyH_done (by kernel_rfl) ?_ _
  clear hHeld
  clear hBx hVx
  have hC := markDisk_any _ D (w3.heap.size) (w4.heap.size) 1 w8 hIx hf (by omega) (by omega)
  have nx0 : w8.cell? ⟨w4.heap.size, 0, none⟩ = some (.slice x1 D.secs.length x2) := nx.cell 0
  have nx1 : w8.cell? ⟨w4.heap.size, 1, none⟩ = some (.slice x3 D.cache.length x4) := nx.cell 1
  have nx2 : w8.cell? ⟨w4.heap.size, 2, none⟩ = some (.int .i64 D.ops) := nx.cell 2
  have nx3 : w8.cell? ⟨w4.heap.size, 3, none⟩ = some (.slice x5 D.faults.length x6) := nx.cell 3
  have nx4 : w8.cell? ⟨w4.heap.size, 4, none⟩ = some (.bool D.down) := nx.cell 4
  go_wp2_with fail
  refine hC.mono ?_
  rintro e w9 ⟨rfl, hI, hO⟩
  clear hC
  clear nx0 nx1 nx2 nx3 nx4
  have zw9 := hO.size
  replace nA := nA.block (hO.block _ nA.lt (by omega))
  replace nx := nx.block (hO.block _ nx.lt (by omega))
  replace hBw := hBw.trans ((hO.below (by omega)).mono (by omega))
  replace hB0 := hB0.trans ((hO.below (by omega)).mono (by omega))
  replace hIg := hIg.up ((hO.up).mono (by omega))
  clear hIx
  clear hO
  obtain ⟨km, hkm⟩ := hidEx (1 + (szD D : Int))
  have hkmp : ¬ km < 0 := by have := hkm.out; omega
  rw [hkm.out]
  clear hI
  have hC := eqLV_any _ _ l w9 hIg.lv (hV0.below hB0) hl
  go_wp2_with fail
  refine hC.mono ?_
  rintro e w10 ⟨rfl, hb10⟩
  clear hC
  have zw10 := hb10.size
  replace nA := nA.below hb10
  replace nx := nx.below hb10
  replace hBw := hBw.trans (hb10.mono hBw.size)
  replace hB0 := hB0.trans (hb10.mono hB0.size)
  replace hIg := hIg.up (Up.ofBelow hb10)
  clear hb10
  have hC := markOZ_any _ l (w4.heap.size + 1) 1 w10 hIg (by omega) (by omega) (by omega)
  go_wp2_with fail
  refine hC.mono ?_
  rintro e w11 ⟨rfl, hIh, hO⟩
  clear hC
  have zw11 := hO.size
  replace nA := nA.block (hO.block _ (by omega))
  replace nx := nx.block (hO.block _ (by omega))
  replace hBw := hBw.trans (hO.mono (by omega))
  replace hB0 := hB0.trans (hO.mono (by omega))
  clear hIg hO
  obtain ⟨kg, hkg⟩ := hidEx (1 + (l.length : Int))
  have hkgp : ¬ kg < 0 := by have := hkg.out; omega
  rw [hkg.out]
  have hq : (kg != kg) = false := bne_self_eq_false _
  have hC := heldOZ_any _ (w4.heap.size + 1) l.length 1 w11 hIh (by omega) (by omega)
  rw [hkg.out] at hC
  go_wp2_with fail
  refine hC.mono ?_
  rintro e w12 ⟨rfl, hbw12⟩
  clear hC
  have zw12 := hbw12.size
  replace nA := nA.below hbw12
  replace nx := nx.below hbw12
  replace hBw := hBw.trans (hbw12.mono hBw.size)
  replace hB0 := hB0.trans (hbw12.mono hB0.size)
  replace hIh := hIh.up (Up.ofBelow hbw12)
  clear hbw12
  have hC := toDisk_any _ D w12 (hv.below hBw) hf
  have nA0 : w12.cell? ⟨w.heap.size, 0, none⟩ = some (.slice sa D.secs.length sc) := nA.cell 0
  have nA1 : w12.cell? ⟨w.heap.size, 1, none⟩ = some (.slice ca D.cache.length cc) := nA.cell 1
  have nA2 : w12.cell? ⟨w.heap.size, 2, none⟩ = some (.int .i64 D.ops) := nA.cell 2
  have nA3 : w12.cell? ⟨w.heap.size, 3, none⟩ = some (.slice fa D.faults.length fc) := nA.cell 3
  have nA4 : w12.cell? ⟨w.heap.size, 4, none⟩ = some (.bool D.down) := nA.cell 4
  go_wp2_with fail
  refine hC.mono ?_
  rintro e w13 ⟨v13, rfl, hO13, hb13⟩
  clear hC
  clear nA0 nA1 nA2 nA3 nA4
  have zw13 := hb13.size
  replace nA := nA.below hb13
  replace nx := nx.below hb13
  replace hBw := hBw.trans (hb13.mono hBw.size)
  replace hB0 := hB0.trans (hb13.mono hB0.size)
  replace hIh := hIh.up (Up.ofBelow hb13)
  clear hb13
  have hC := hP w13 v13 hf hO13.view
  go_wp2_with fail
  refine hC.mono ?_
  rintro e w14 ⟨v14, rfl, hO14, hb14⟩
  clear hC hO13 hP
  have zw14 := hb14.size
  replace nA := nA.below hb14
  replace nx := nx.below hb14
  replace hBw := hBw.trans (hb14.mono hBw.size)
  replace hB0 := hB0.trans (hb14.mono hB0.size)
  replace hIh := hIh.up (Up.ofBelow hb14)
  clear hb14
  have hC := eqLV_any _ _ l w14 hO14.lv (hV0.below hB0) hl
  go_wp2_with fail
  refine hC.mono ?_
  rintro e w15 ⟨rfl, hb15⟩
  clear hC
  clear hO14
  have zw15 := hb15.size
  replace nA := nA.below hb15
  replace nx := nx.below hb15
  replace hBw := hBw.trans (hb15.mono hBw.size)
  replace hB0 := hB0.trans (hb15.mono hB0.size)
  replace hIh := hIh.up (Up.ofBelow hb15)
  clear hb15
  have hC := heldOZ_any _ (w4.heap.size + 1) l.length 1 w15 hIh (by omega) (by omega)
  rw [hkg.out] at hC
  go_wp2_with fail
  refine hC.mono ?_
  rintro e w16 ⟨rfl, hbw16⟩
  clear hC
  have zw16 := hbw16.size
  replace nA := nA.below hbw16
  replace nx := nx.below hbw16
  replace hBw := hBw.trans (hbw16.mono hBw.size)
  replace hB0 := hB0.trans (hbw16.mono hB0.size)
  replace hIh := hIh.up (Up.ofBelow hbw16)
  clear hbw16
  have HB : Hid (Below w.heap.size w w16) := hBw
  clear nA nx hIh hB0 hV0 hv hBw
  go_wp2
  go_ret
  exact ⟨rfl, HB.out⟩
end Go.Proofs.Ytphipmhibegbnaa

