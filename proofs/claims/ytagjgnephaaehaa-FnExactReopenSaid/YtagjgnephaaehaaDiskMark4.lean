/-
  Marks in faults and in a whole disk, and what finds them.
-/
import Derived.Test.YtagjgnephaaehaaDiskMark3
namespace Go.Proofs.Ytagjgnephaaehaa
open Go.RowKit
set_option maxRecDepth 4000

theorem fcells_at {l : List PFault} (i j : Nat) (hj : j < 3) : (fcells l)[i * 3 + j]? = (l[i]?).bind (fun x => (fEl x)[j]?) := flat_get fEl 3 (fun _ => rfl) _ i j hj
theorem fcells_set {l : List PFault} {j : Nat} (hj : j < l.length) (x : PFault) : (((fcells l).set (j * 3) (.int .i64 x.pos)).set (j * 3 + 1) (.int .i64 x.keep)).set (j * 3 + 2) (.int .i64 x.cut) = fcells (l.set j x) := by
  have hw := fcells_len l
  refine List.ext_getElem? (fun q => ?_)
  have hq : q = q / 3 * 3 + q % 3 := by omega
  have hm : q % 3 < 3 := by omega
  rw [List.getElem?_set, List.getElem?_set, List.getElem?_set]
  simp only [List.length_set]
  have R : (fcells (l.set j x))[q]? = ((l.set j x)[q / 3]?).bind (fun x => (fEl x)[q % 3]?) := by
    have := fcells_at (l := l.set j x) (q / 3) (q % 3) hm
    rw [← hq] at this; exact this
  rw [R, List.getElem?_set]
  by_cases e2 : j * 3 + 2 = q
  · rw [if_pos e2, if_pos (by omega), if_pos (by omega), if_pos (by omega), show q % 3 = 2 by omega]; rfl
  rw [if_neg e2]
  by_cases e1 : j * 3 + 1 = q
  · rw [if_pos e1, if_pos (by omega), if_pos (by omega), if_pos (by omega), show q % 3 = 1 by omega]; rfl
  rw [if_neg e1]
  by_cases e0 : j * 3 = q
  · rw [if_pos e0, if_pos (by omega), if_pos (by omega), if_pos (by omega), show q % 3 = 0 by omega]; rfl
  rw [if_neg e0, if_neg (by omega)]
  have := fcells_at (l := l) (q / 3) (q % 3) hm
  rw [← hq] at this; exact this

set_option maxHeartbeats 4000000 in
theorem markFaultS_any (a : Option Addr) (cap B H : Nat) (l : List PFault) (k : Int) (w : World) (hR : RL 63 w B a (fcells l)) (hA : 0 < l.length → ∀ g, a = some ⟨g, 0, none⟩ → g < H) (hn : l.length ≤ 1048576) (hk : 0 ≤ k) (hk1 : k + 3 * l.length ≤ 4611686018427387904) :
    Calls Try.prog 30 #[.slice a l.length cap, .int .i64 k] w fun e w' => e = .returned (.int .i64 (k + 3 * l.length)) ∧ RL 63 w' B a (fcells (l.mapIdx (fF k))) ∧ Out B H w w' ∧ w'.heap.size = w.heap.size ∧ KeepT (fun t => t = 63) w w' := by
  go_enter Try.func30, Try.ntmps30
  go_wp2
  go_loopg [1, 5] l.length (fun q s i wr => ∃ j : Nat, j ≤ l.length ∧ q = l.length - j ∧ s = .int .i64 (k + 3 * (j : Int)) ∧ i = .int .i64 j ∧ RL 63 wr B a (fcells (upto (fF k) l j)) ∧ Out B H w wr ∧ wr.heap.size = w.heap.size ∧ KeepT (fun t => t = 63) w wr)
  case atStart => exact ⟨0, Nat.zero_le _, rfl, by simp, rfl, by rw [upto_zero]; exact hR, Out.refl _ _ _, rfl, KeepT.refl _ _⟩
  case round =>
    clear hR
    obtain ⟨j, hj, rfl, rfl, rfl, hR, hO, hsz, ho⟩ := hrel
    by_cases hlt : j < l.length
    · have hjz : (j : Int) < (l.length : Int) := by omega
      have hul := upto_len (fF k) l j
      have hwl := fcells_len (upto (fF k) l j)
      obtain ⟨g, rfl, hg0, hg1, hgc⟩ := hR.cell (by omega)
      have hgH := hA (by omega) g rfl
      have hu : (upto (fF k) l j)[j]? = some l[j] := by rw [upto_get, List.getElem?_eq_getElem hlt]; simp
      obtain ⟨N, hN⟩ := hidEx (k + 3 * (j : Int))
      have hNe := hN.out
      have c0 := hgc (j * 3) (.int .i64 (l[j]).pos) (by have := fcells_get hu (j := 0) (by decide); simpa [fEl] using this)
      have c1 := hgc (j * 3 + 1) (.int .i64 (l[j]).keep) (by have := fcells_get hu (j := 1) (by decide); simpa [fEl] using this)
      have c2 := hgc (j * 3 + 2) (.int .i64 (l[j]).cut) (by have := fcells_get hu (j := 2) (by decide); simpa [fEl] using this)
      have q0 := hR.cellFz (by omega) (j * 3)
      have q1 := hR.cellFz (by omega) (j * 3 + 1)
      have q2 := hR.cellFz (by omega) (j * 3 + 2)
      have R1 := hR.set (j * 3) (.int .i64 N) (by omega)
      have K1 : KeepT (fun t => t = 63) w (wr.setCell ⟨g, j * 3, none⟩ (.int .i64 N)) := ho.trans (KeepT.set hR (by omega) rfl)
      have R2 := R1.set (j * 3 + 1) (.int .i64 (N + 1)) (by simp; omega)
      have K2 : KeepT (fun t => t = 63) w ((wr.setCell ⟨g, j * 3, none⟩ (.int .i64 N)).setCell ⟨g, j * 3 + 1, none⟩ (.int .i64 (N + 1))) := K1.trans (KeepT.set R1 (by simp; omega) rfl)
      have R3 := R2.set (j * 3 + 2) (.int .i64 (N + 2)) (by simp; omega)
      have K3 : KeepT (fun t => t = 63) w (((wr.setCell ⟨g, j * 3, none⟩ (.int .i64 N)).setCell ⟨g, j * 3 + 1, none⟩ (.int .i64 (N + 1))).setCell ⟨g, j * 3 + 2, none⟩ (.int .i64 (N + 2))) := K2.trans (KeepT.set R2 (by simp; omega) rfl)
      have O3 : Out B H w (((wr.setCell ⟨g, j * 3, none⟩ (.int .i64 N)).setCell ⟨g, j * 3 + 1, none⟩ (.int .i64 (N + 1))).setCell ⟨g, j * 3 + 2, none⟩ (.int .i64 (N + 2))) := ((hO.trans (Out.set ⟨hg0, hgH⟩)).trans (Out.set ⟨hg0, hgH⟩)).trans (Out.set ⟨hg0, hgH⟩)
      rw [fcells_set (x := ⟨N, N + 1, N + 2⟩) (by omega)] at R3
      have HS : (upto (fF k) l j).set j ⟨N, N + 1, N + 2⟩ = upto (fF k) l (j + 1) := by
        rw [← upto_set _ _ _ hlt, ← hN.out]
        rfl
      rw [HS] at R3
      have HR : Hid (RL 63 (((wr.setCell ⟨g, j * 3, none⟩ (.int .i64 N)).setCell ⟨g, j * 3 + 1, none⟩ (.int .i64 (N + 1))).setCell ⟨g, j * 3 + 2, none⟩ (.int .i64 (N + 2))) B (some ⟨g, 0, none⟩) (fcells (upto (fF k) l (j + 1))) ∧ Out B H w (((wr.setCell ⟨g, j * 3, none⟩ (.int .i64 N)).setCell ⟨g, j * 3 + 1, none⟩ (.int .i64 (N + 1))).setCell ⟨g, j * 3 + 2, none⟩ (.int .i64 (N + 2))) ∧ (((wr.setCell ⟨g, j * 3, none⟩ (.int .i64 N)).setCell ⟨g, j * 3 + 1, none⟩ (.int .i64 (N + 1))).setCell ⟨g, j * 3 + 2, none⟩ (.int .i64 (N + 2))).heap.size = w.heap.size ∧ KeepT (fun t => t = 63) w (((wr.setCell ⟨g, j * 3, none⟩ (.int .i64 N)).setCell ⟨g, j * 3 + 1, none⟩ (.int .i64 (N + 1))).setCell ⟨g, j * 3 + 2, none⟩ (.int .i64 (N + 2)))) := ⟨R3, O3, by simpa using hsz, K3⟩
      have hw1 : IntKind.i64.wrap (N + 1) = N + 1 := by rw [IntKind.wrap_i64]; omega
      have hw2 : IntKind.i64.wrap (N + 1 + 1) = N + 2 := by rw [IntKind.wrap_i64]; omega
      have hw3 : IntKind.i64.wrap (N + 2 + 1) = N + 3 := by rw [IntKind.wrap_i64]; omega
      have hw4 : IntKind.i64.wrap ((j : Int) + 1) = (j : Int) + 1 := by rw [IntKind.wrap_i64]; omega
      obtain ⟨n0, hn0⟩ := hidEx (l[j]).pos
      obtain ⟨n1, hn1⟩ := hidEx (l[j]).keep
      obtain ⟨n2, hn2⟩ := hidEx (l[j]).cut
      rw [hn0.out] at c0
      rw [hn1.out] at c1
      rw [hn2.out] at c2
      clear hR hO ho hgc hu R1 R2 R3 K1 K2 K3 O3 HS
      rw [hN.out]
      go_wp2
      go_roundg (l.length - (j + 1))
      case measure => omega
      case rel => exact ⟨j + 1, by omega, rfl, by go_num, by go_num, HR.out⟩
    · obtain rfl : j = l.length := by omega
      have hjz : ¬ (l.length : Int) < (l.length : Int) := by omega
      have HB : Hid (RL 63 wr B a (fcells (l.mapIdx (fF k)))) := by
        show RL _ _ _ _ _
        rw [← upto_all (fF k) l l.length (Nat.le_refl _)]
        exact hR
      clear hR
      go_wp2
      go_ret
      exact ⟨rfl, HB.out, hO, hsz, ho⟩

set_option maxHeartbeats 2000000 in
theorem heldWriteS_any (a : Option Addr) (cap : Nat) (l : List (Int × List Int)) (k : Int) (w : World) (h : WView w a cap (l.mapIdx (fC k l))) (hn : l.length ≤ 1048576) (hk : 0 ≤ k) (hk1 : k + szC l ≤ 4611686018427387904) :
    Calls Try.prog 32 #[.slice a l.length cap, .int .i64 k] w fun e w' => e = .returned (.int .i64 (k + szC l)) ∧ Below w.heap.size w w' := by
  go_enter Try.func32, Try.ntmps32
  go_wp2
  go_loopg [1, 5] l.length (fun q s i wr => ∃ j : Nat, j ≤ l.length ∧ q = l.length - j ∧ s = .int .i64 (k + szC (l.take j)) ∧ i = .int .i64 j ∧ Below w.heap.size w wr)
  case atStart => exact ⟨0, Nat.zero_le _, rfl, by simp [szC], rfl, Below.refl _ _⟩
  case round =>
    obtain ⟨j, hj, rfl, rfl, rfl, hB⟩ := hrel
    by_cases hlt : j < l.length
    · have hjz : (j : Int) < (l.length : Int) := by omega
      obtain ⟨b1, o1, a', c', rfl, hb1, x0, x1, v0, -⟩ := wview_at (wview_below h hB) (i := j) (by simpa using hlt)
      have eL : (l.mapIdx (fC k l))[j]'(by simpa using hlt) = (k + szC (l.take j), mkB (k + szC (l.take j) + 1) (l[j]).2.length) := by simp [fC]
      simp only [eL, mkB_len] at x0 x1 v0
      have hst := szC_take hlt
      have hsl := szC_le l (j + 1)
      have hV := held_any a' (l[j]).2.length c' _ (k + szC (l.take j) + 1) wr v0 (fun i hi => mkB_get _ _ i hi) (by omega) (by omega)
      have HK : Hid (k + szC (l.take j) + 1 + (l[j]).2.length = k + szC (l.take (j + 1))) := by
        show _ = _
        rw [hst]; omega
      have hp : ¬ k + szC (l.take (j + 1)) < (0 : Int) := by omega
      have hw1 : IntKind.i64.wrap (k + szC (l.take j) + 1) = k + szC (l.take j) + 1 := by rw [IntKind.wrap_i64]; omega
      clear h v0 eL hst hsl
      obtain ⟨k0, hk0⟩ := hidEx (k + (szC (l.take j) : Int))
      obtain ⟨k2, hk2⟩ := hidEx (k + (szC (l.take (j + 1)) : Int))
      obtain ⟨n0, hn0⟩ := hidEx (l[j]).2.length
      rw [hn0.out] at x1
      rw [hn0.out, hk0.out] at hV
      rw [hn0.out, hk0.out, hk2.out] at HK
      rw [hk2.out] at hp
      rw [hk0.out] at x0 hw1
      have hq : (k0 != k0) = false := bne_self_eq_false _
      rw [hk0.out]
      go_wp2_with fail
      refine hV.mono ?_
      rintro e w2 ⟨rfl, hb2⟩
      have HB : Hid (Below w.heap.size w w2) := hB.trans (hb2.mono hB.size)
      rw [HK.out]
      clear hV hb2 HK hB
      go_wp2
      go_roundg (l.length - (j + 1))
      case measure => omega
      case rel => exact ⟨j + 1, by omega, rfl, by rw [hk2.out], by go_num, HB.out⟩
    · obtain rfl : j = l.length := by omega
      have hjz : ¬ (l.length : Int) < (l.length : Int) := by omega
      rw [List.take_length]
      clear h
      go_wp2
      go_ret
      exact ⟨rfl, hB⟩

set_option maxHeartbeats 2000000 in
theorem heldFaultS_any (a : Option Addr) (cap : Nat) (l : List PFault) (k : Int) (w : World) (h : FView w a cap (l.mapIdx (fF k))) (hn : l.length ≤ 1048576) (hk : 0 ≤ k) (hk1 : k + 3 * l.length ≤ 4611686018427387904) :
    Calls Try.prog 33 #[.slice a l.length cap, .int .i64 k] w fun e w' => e = .returned (.int .i64 (k + 3 * l.length)) ∧ Below w.heap.size w w' := by
  go_enter Try.func33, Try.ntmps33
  go_wp2
  go_loopg [1, 5] l.length (fun q s i wr => ∃ j : Nat, j ≤ l.length ∧ q = l.length - j ∧ s = .int .i64 (k + 3 * (j : Int)) ∧ i = .int .i64 j ∧ Below w.heap.size w wr)
  case atStart => exact ⟨0, Nat.zero_le _, rfl, by simp, rfl, Below.refl _ _⟩
  case round =>
    obtain ⟨j, hj, rfl, rfl, rfl, hB⟩ := hrel
    by_cases hlt : j < l.length
    · have hjz : (j : Int) < (l.length : Int) := by omega
      obtain ⟨b1, o1, rfl, hb1, x0, x1, x2⟩ := fview_at (fview_below h hB) (i := j) (by simpa using hlt)
      have eL : (l.mapIdx (fF k))[j]'(by simpa using hlt) = ⟨k + 3 * (j : Int), k + 3 * (j : Int) + 1, k + 3 * (j : Int) + 2⟩ := by simp [fF]
      simp only [eL] at x0 x1 x2
      obtain ⟨N, hN⟩ := hidEx (k + 3 * (j : Int))
      have hNe := hN.out
      rw [hN.out] at x0 x1 x2
      have hw1 : IntKind.i64.wrap (N + 1) = N + 1 := by rw [IntKind.wrap_i64]; omega
      have hw2 : IntKind.i64.wrap (N + 1 + 1) = N + 2 := by rw [IntKind.wrap_i64]; omega
      have hw3 : IntKind.i64.wrap (N + 2 + 1) = N + 3 := by rw [IntKind.wrap_i64]; omega
      have hw4 : IntKind.i64.wrap ((j : Int) + 1) = (j : Int) + 1 := by rw [IntKind.wrap_i64]; omega
      have hq0 : (N != N) = false := bne_self_eq_false _
      have hq1 : (N + 1 != N + 1) = false := bne_self_eq_false _
      have hq2 : (N + 2 != N + 2) = false := bne_self_eq_false _
      clear h eL
      rw [hN.out]
      go_wp2
      go_roundg (l.length - (j + 1))
      case measure => omega
      case rel => exact ⟨j + 1, by omega, rfl, by go_num, by go_num, hB⟩
    · obtain rfl : j = l.length := by omega
      have hjz : ¬ (l.length : Int) < (l.length : Int) := by omega
      clear h
      go_wp2
      go_ret
      exact ⟨rfl, hB⟩

/-- A disk of the call's own whose rows lie from B on, below H. -/
def KIn (w : World) (B H : Nat) (v : Value) (D : PDisk) : Prop := ∃ sa sc ca cc fa fc ss cs, v = dval D sa sc ca cc fa fc ∧ KO w B sa sc ca cc fa fc ss cs D ∧ (∀ u, u ∈ ss ++ cs → ∀ g, u.ownBlock = some g → g < H) ∧ (0 < D.cache.length → ∀ g, ca = some ⟨g, 0, none⟩ → g < H) ∧ (0 < D.faults.length → ∀ g, fa = some ⟨g, 0, none⟩ → g < H)
theorem KOwn.kin {w : World} {B : Nat} {v : Value} {D : PDisk} (h : KOwn w B v D) : KIn w B w.heap.size v D := by
  obtain ⟨sa, sc, ca, cc, fa, fc, ss, cs, e, hk⟩ := h
  refine ⟨sa, sc, ca, cc, fa, fc, ss, cs, e, hk, fun u hu g hg => (hk.bytes.lt u hu g hg).2, fun hn g hg => ?_, fun hn g hg => ?_⟩
  · obtain ⟨g', e', -, hlt, -⟩ := hk.cache.cell (by rw [wcells_len hk.nc]; omega)
    rw [hg] at e'; cases e'; exact hlt
  · obtain ⟨g', e', -, hlt, -⟩ := hk.faults.cell (by rw [fcells_len]; omega)
    rw [hg] at e'; cases e'; exact hlt
theorem KIn.up {w w' : World} {B H : Nat} {v : Value} {D : PDisk} (h : KIn w B H v D) (hu : Up B w w') : KIn w' B H v D := by
  obtain ⟨sa, sc, ca, cc, fa, fc, ss, cs, e, hk, h1⟩ := h
  exact ⟨sa, sc, ca, cc, fa, fc, ss, cs, e, hk.up hu, h1⟩
theorem KIn.own {w : World} {B H : Nat} {v : Value} {D : PDisk} (h : KIn w B H v D) : KOwn w B v D := by
  obtain ⟨sa, sc, ca, cc, fa, fc, ss, cs, e, hk, h1⟩ := h
  exact ⟨sa, sc, ca, cc, fa, fc, ss, cs, e, hk⟩
theorem KFine.sum {D : PDisk} (h : KFine D) : szS D.secs ≤ 1099511627776 ∧ szC D.cache ≤ 1099512676352 ∧ D.faults.length ≤ 1048576 := ⟨szS_bound h.ns h.sec, szC_bound h.nc h.cache, h.nf⟩

set_option maxHeartbeats 4000000 in
theorem markDisk_any (v : Value) (D : PDisk) (B H : Nat) (k : Int) (w : World) (h : KIn w B H v D) (hf : KFine D) (hk : 0 ≤ k) (hk1 : k ≤ 1000000000) :
    Calls Try.prog 11 #[v, .int .i64 k] w fun e w' => e = .returned (.int .i64 (k + szD D)) ∧ KIn w' B H v (mkD k D) ∧ Out B H w w' := by
  obtain ⟨sa, sc, ca, cc, fa, fc, ss, cs, rfl, hk0, hH, hC, hF⟩ := h
  obtain ⟨z1, z2, z3⟩ := hf.sum
  unfold dval
  have hbA : Below w.heap.size w (w.alloc (.cells #[.slice sa D.secs.length sc, .slice ca D.cache.length cc, .int .i64 D.ops, .slice fa D.faults.length fc, .bool D.down] 31)) := (Below.refl _ _).alloc (Nat.le_refl _) _
  have V0 := VN.new w 31 [.slice sa D.secs.length sc, .slice ca D.cache.length cc, .int .i64 D.ops, .slice fa D.faults.length fc, .bool D.down]
  obtain ⟨W0, hW0⟩ := hidEx (w.alloc (.cells #[.slice sa D.secs.length sc, .slice ca D.cache.length cc, .int .i64 D.ops, .slice fa D.faults.length fc, .bool D.down] 31))
  have hk2 := hk0.up (Up.ofBelow hbA)
  rw [hW0.out] at hk2 hbA
  replace V0 : VN W0 w.heap.size 31 [.slice sa D.secs.length sc, .slice ca D.cache.length cc, .int .i64 D.ops, .slice fa D.faults.length fc, .bool D.down] := by rw [← hW0.out]; exact V0
  have hV := markByteSS_any sa sc B H ss cs D.secs (D.cache.map (·.2)) k W0 hk2.secs hk2.bytes hk2.ns (fun v hv => hH v (List.mem_append_left _ hv)) hf.ns hk (by omega)
  have x0 := V0.cell 0
  simp at x0
  go_enter Try.func11, Try.ntmps11
  go_wp2_with (rw [hW0.out])
  refine hV.mono ?_
  rintro e w1 ⟨rfl, B1, O1, S1, K1⟩
  have V1 := V0.block (K1 _ _ _ _ V0 (by decide))
  have x1 := V1.cell 1
  simp at x1
  have C1 := hk2.cache.keep K1 (by decide)
  have R1 := hk2.secs.keep K1 (by decide)
  have F1 := hk2.faults.keep K1 (by decide)
  obtain ⟨k1, hk1e⟩ := hidEx (k + (szS D.secs : Int))
  have hk1v := hk1e.out
  rw [hk1e.out]
  have hV := markWriteS_any ca cc B H ss cs (D.secs.mapIdx (fS k D.secs)) D.cache k1 w1 C1 B1 hk2.nc (by simp [hk2.ns]) (fun v hv => hH v (List.mem_append_right _ hv)) hC hf.nc (by omega) (by omega)
  go_wp2_with fail
  refine hV.mono ?_
  rintro e w2 ⟨rfl, C2, B2, O2, S2, K2⟩
  have V2 := V1.block (K2 _ _ _ _ V1 (by decide))
  have x3 := V2.cell 3
  simp at x3
  have R2 := R1.keepT K2 (by decide)
  have F2 := F1.keepT K2 (by decide)
  obtain ⟨k3, hk3e⟩ := hidEx (k1 + (szC D.cache : Int))
  have hk3v := hk3e.out
  rw [hk3e.out]
  have hV := markFaultS_any fa fc B H D.faults k3 w2 F2 hF hf.nf (by omega) (by omega)
  go_wp2_with fail
  refine hV.mono ?_
  rintro e w3 ⟨rfl, F3, O3, S3, K3⟩
  have R3 := R2.keepT K3 (by decide)
  have C3 := C2.keepT K3 (by decide)
  have B3 := B2.keepT K3 (by omega) (by decide)
  have HR : Hid (KIn w3 B H (dval D sa sc ca cc fa fc) (mkD k D) ∧ Out B H w w3) := by
    have hl1 : (D.secs.mapIdx (fS k D.secs)).length = D.secs.length := by simp
    have hl2 : (D.cache.mapIdx (fC k1 D.cache)).length = D.cache.length := by simp
    have hl3 : (D.faults.mapIdx (fF k3)).length = D.faults.length := by simp
    have em : mkD k D = ⟨D.secs.mapIdx (fS k D.secs), D.cache.mapIdx (fC k1 D.cache), D.ops, D.faults.mapIdx (fF k3), D.down⟩ := by
      unfold mkD
      rw [hk1v, hk3v]
    rw [em]
    refine ⟨⟨sa, sc, ca, cc, fa, fc, ss, cs, ?_, ⟨by simpa using hk2.sle, hk2.snil, by simpa using hk2.cle, hk2.cnil, by simpa using hk2.fle, hk2.fnil, by simpa using hk2.ns, by simpa using hk2.nc, R3, C3, F3, B3⟩, hH, by simpa using hC, by simpa using hF⟩, ((Out.ofBelow hbA).trans O1).trans (O2.trans O3)⟩
    unfold dval
    simp only [hl1, hl2, hl3]
  have hres : k3 + 3 * (D.faults.length : Int) = k + szD D := by
    unfold szD
    rw [← hk3v, ← hk1v]
    simp only [Int.natCast_add, Int.natCast_mul]
    omega
  rw [hres]
  clear hV R3 C3 B3 F3 R2 C2 F2 B2 R1 C1 F1 B1 K1 K2 K3 O1 O2 O3 hk2 hk0 hH hC hF V0 V1 V2 x0 x1 x3
  go_wp2
  go_ret
  exact ⟨rfl, HR.out.1, HR.out.2⟩

set_option maxHeartbeats 4000000 in
theorem heldDisk_any (v : Value) (D : PDisk) (k : Int) (w : World) (h : KView w v (mkD k D)) (hf : KFine D) (hk : 0 ≤ k) (hk1 : k ≤ 1000000000) :
    Calls Try.prog 12 #[v, .int .i64 k] w fun e w' => e = .returned (.int .i64 (k + szD D)) ∧ Below w.heap.size w w' := by
  obtain ⟨z1, z2, z3⟩ := hf.sum
  obtain ⟨sa, sc, ca, cc, fa, fc, rfl, hs, hc, hfv⟩ := h.is
  clear h
  have hl1 : (mkD k D).secs.length = D.secs.length := by simp [mkD]
  have hl2 : (mkD k D).cache.length = D.cache.length := by simp [mkD]
  have hl3 : (mkD k D).faults.length = D.faults.length := by simp [mkD]
  have hl4 : (mkD k D).ops = D.ops := rfl
  have hl5 : (mkD k D).down = D.down := rfl
  rw [hl1, hl2, hl3, hl4, hl5]
  have hB0 := box5_start w (.cells #[.slice sa D.secs.length sc, .slice ca D.cache.length cc, .int .i64 D.ops, .slice fa D.faults.length fc, .bool D.down] 31)
  obtain ⟨hBw0, -⟩ := box5_below hB0
  have hV := heldByteSS_any sa sc D.secs k _ (sview_below hs hBw0) hf.ns hk (by omega)
  go_enter Try.func12, Try.ntmps12
  go_wp2_with fail
  refine hV.mono ?_
  rintro e w1 ⟨rfl, hb1⟩
  have hB1 := box5_on hB0 hb1
  obtain ⟨hBw1, -⟩ := box5_below hB1
  obtain ⟨x0, x1, x2, x3, x4⟩ := box5 hB1
  clear hV hB0 hBw0 hb1
  obtain ⟨k1, hk1e⟩ := hidEx (k + (szS D.secs : Int))
  have hk1v := hk1e.out
  rw [hk1e.out]
  have hp1 : ¬ k1 < 0 := by omega
  have hV := heldWriteS_any ca cc D.cache k1 w1 (by rw [← hk1v]; exact wview_below hc hBw1) hf.nc (by omega) (by omega)
  go_wp2_with fail
  refine hV.mono ?_
  rintro e w2 ⟨rfl, hb2⟩
  have hB2 := box5_on hB1 hb2
  obtain ⟨hBw2, -⟩ := box5_below hB2
  clear x0 x1 x2 x3 x4
  obtain ⟨x0, x1, x2, x3, x4⟩ := box5 hB2
  clear hV hB1 hBw1 hb2
  obtain ⟨k3, hk3e⟩ := hidEx (k1 + (szC D.cache : Int))
  have hk3v := hk3e.out
  rw [hk3e.out]
  have hp3 : ¬ k3 < 0 := by omega
  have hV := heldFaultS_any fa fc D.faults k3 w2 (by rw [← hk3v, ← hk1v]; exact fview_below hfv hBw2) hf.nf (by omega) (by omega)
  go_wp2_with fail
  refine hV.mono ?_
  rintro e w3 ⟨rfl, hb3⟩
  have hB3 := box5_on hB2 hb3
  obtain ⟨hBw3, -⟩ := box5_below hB3
  clear x0 x1 x2 x3 x4
  have hres : k3 + 3 * (D.faults.length : Int) = k + szD D := by
    unfold szD
    rw [← hk3v, ← hk1v]
    simp only [Int.natCast_add, Int.natCast_mul]
    omega
  rw [hres]
  have hp4 : ¬ k + szD D < (0 : Int) := by omega
  clear hV hB2 hBw2 hb3 hs hc hfv hf
  go_wp2
  go_ret
  exact ⟨rfl, hBw3⟩
end Go.Proofs.Ytagjgnephaaehaa
