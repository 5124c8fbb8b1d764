/-
  Together: DiskMark3, DiskMark4, PutBytes, PutBOpt, DiskGrow, DiskApp
-/
import Derived.Test.YtdhfbblameiloaaFF3
import Derived.Test.YtdhfbblameiloaaFF1
import Derived.WalkSpells
import Derived.Laws.OwnMore
/-
  The laws' markWriteS, markFaultS, markDisk and what finds the marks, walked.
-/
namespace Go.Proofs.Ytdhfbblameiloaa
open Go.RowKit
set_option maxRecDepth 4000

/-- Rows of types without P are as they were. -/
def KeepT (P : TypeId → Prop) (w w' : World) : Prop := ∀ (b : Nat) (c : Array Value) (t : TypeId) (z : Nat × Nat), w.heap[b]? = some (Obj.cells c t z) → ¬ P t → w'.heap[b]? = w.heap[b]?
theorem KeepT.refl (P : TypeId → Prop) (w : World) : KeepT P w w := fun _ _ _ _ _ _ => rfl
theorem KeepT.trans {P : TypeId → Prop} {a b c : World} (h : KeepT P a b) (k : KeepT P b c) : KeepT P a c := fun i x t z h1 h2 => (k i x t z ((h i x t z h1 h2).trans h1) h2).trans (h i x t z h1 h2)
theorem KeepT.of8 {P : TypeId → Prop} {a b : World} (h : Keep8 a b) (hP : P 5) : KeepT P a b := fun i x t z h1 h2 => h i x t z h1 (fun e => h2 (by rw [e]; exact hP))
theorem KeepT.set {P : TypeId → Prop} {T : TypeId} {w : World} {B g i : Nat} {xs : List Value} {u : Value} (h : RL T w B (some ⟨g, 0, none⟩) xs) (hx : 0 < xs.length) (hP : P T) : KeepT P w (w.setCell ⟨g, i, none⟩ u) := by
  intro b c t z hb ht
  refine Below.heap_setCell _ _ _ _ (fun e => ?_)
  rcases h with h | ⟨g', cur, ea, hb', hg, hc⟩
  · subst h; simp at hx
  · cases ea
    have e' : b = g := e
    rw [e', hg] at hb
    cases hb
    exact ht hP
theorem RL.keepT {P : TypeId → Prop} {T : TypeId} {w w' : World} {B : Nat} {a : Option Addr} {xs : List Value} (h : RL T w B a xs) (ho : KeepT P w w') (hT : ¬ P T) : RL T w' B a xs := by
  rcases h with h | ⟨g, cur, ea, hb, hg, hc⟩
  · exact .inl h
  · exact .inr ⟨g, cur, ea, hb, (ho g _ _ _ hg hT).trans hg, hc⟩
theorem Bs.keepT {P : TypeId → Prop} {w w' : World} {B : Nat} {vs : List Value} {ls : List (List Int)} (h : Bs w B vs ls) (ho : KeepT P w w') (hs : w.heap.size ≤ w'.heap.size) (hT : ¬ P 5) : Bs w' B vs ls := by
  refine ⟨h.len, fun q v l h1 h2 => ?_, fun v hv q hq => ?_, h.apt⟩
  · obtain ⟨a, c, rfl, k1, k2, k3, k4⟩ := (h.ob q v l h1 h2).is
    refine ⟨a, c, rfl, k1, k2, k3, ?_⟩
    rcases k4 with k4 | ⟨g1, rfl, hb, hr⟩
    · exact .inl k4
    · obtain ⟨c0, hb0, hn0, hc0⟩ := hr
      exact .inr ⟨g1, rfl, hb, c0, (ho g1 _ _ _ hb0 hT).trans hb0, hn0, hc0⟩
  · have := h.lt v hv q hq
    exact ⟨this.1, by omega⟩
theorem wcells_at {l : List (Int × List Int)} {cs : List Value} (i j : Nat) (hj : j < 2) : (wcells l cs)[i * 2 + j]? = (((l.map (·.1)).zip cs)[i]?).bind (fun x => (wEl x)[j]?) := flat_get wEl 2 (fun _ => rfl) _ i j hj
theorem wcells_set {l : List (Int × List Int)} {cs : List Value} (h : cs.length = l.length) {j : Nat} (hj : j < l.length) (x : Int) (y : List Int) : (wcells l cs).set (j * 2) (.int .i64 x) = wcells (l.set j (x, y)) cs := by
  have hw := wcells_len h
  refine List.ext_getElem? (fun q => ?_)
  rw [List.getElem?_set]
  have hz : ∀ i, j ≠ i → ((l.set j (x, y)).map (·.1)).zip cs = ((l.map (·.1)).set j x).zip cs := by intro i _; rw [List.map_set]
  have hq : q = q / 2 * 2 + q % 2 := by omega
  have hm : q % 2 < 2 := by omega
  by_cases e : j * 2 = q
  · rw [if_pos e, if_pos (by omega)]
    have e2 : q / 2 = j := by omega
    have e3 : q % 2 = 0 := by omega
    rw [hq, wcells_at _ _ hm, e2, e3]
    have : ((List.map (fun x => x.1) (l.set j (x, y))).zip cs)[j]? = some (x, cs[j]) := by
      simp [hj, h]
    rw [this]
    rfl
  · rw [if_neg e]
    rw [hq, wcells_at _ _ hm, wcells_at _ _ hm]
    by_cases e2 : q / 2 = j
    · have e3 : q % 2 = 1 := by omega
      rw [e2, e3]
      have a1 : ((List.map (fun x => x.1) (l.set j (x, y))).zip cs)[j]? = some (x, cs[j]) := by
        simp [hj, h]
      have a2 : ((List.map (fun x => x.1) l).zip cs)[j]? = some ((l[j]).1, cs[j]) := by
        simp [hj, h]
      rw [a1, a2]
      rfl
    · congr 1
      by_cases hi : q / 2 < l.length
      · simp [hi, h, Ne.symm e2]
      · rw [List.getElem?_eq_none (by simp [h]; omega), List.getElem?_eq_none (by simp [h]; omega)]

set_option maxHeartbeats 4000000 in
theorem markWriteS_any (a : Option Addr) (cap B H : Nat) (ss cs : List Value) (ms : List (List Int)) (l : List (Int × List Int)) (k : Int) (w : World) (hR : RL 51 w B a (wcells l cs)) (hB : Bs w B (ss ++ cs) (ms ++ l.map (·.2))) (hl : cs.length = l.length) (hss : ss.length = ms.length) (hH : ∀ v, v ∈ cs → ∀ g, v.ownBlock = some g → g < H) (hA : 0 < l.length → ∀ g, a = some ⟨g, 0, none⟩ → g < H) (hn : l.length ≤ 1048576) (hk : 0 ≤ k) (hk1 : k + szC l ≤ 4611686018427387904) :
    Calls Try.prog 72 #[.slice a l.length cap, .int .i64 k] w fun e w' => e = .returned (.int .i64 (k + szC l)) ∧ RL 51 w' B a (wcells (l.mapIdx (fC k l)) cs) ∧ Bs w' B (ss ++ cs) (ms ++ (l.mapIdx (fC k l)).map (·.2)) ∧ Out B H w w' ∧ w'.heap.size = w.heap.size ∧ KeepT (fun t => t = 5 ∨ t = 51) w w' := by
  go_enter Try.func72, Try.ntmps72
  go_wp2
  go_loopg [1, 5] l.length (fun q s i wr => ∃ j : Nat, j ≤ l.length ∧ q = l.length - j ∧ s = .int .i64 (k + szC (l.take j)) ∧ i = .int .i64 j ∧ RL 51 wr B a (wcells (upto (fC k l) l j) cs) ∧ Bs wr B (ss ++ cs) (ms ++ (upto (fC k l) l j).map (·.2)) ∧ Out B H w wr ∧ wr.heap.size = w.heap.size ∧ KeepT (fun t => t = 5 ∨ t = 51) w wr)
  case atStart => exact ⟨0, Nat.zero_le _, rfl, by simp [szC], rfl, by rw [upto_zero]; exact hR, by rw [upto_zero]; exact hB, Out.refl _ _ _, rfl, KeepT.refl _ _⟩
  case round =>
    clear hB hR
    obtain ⟨j, hj, rfl, rfl, rfl, hR, hB, hO, hsz, ho⟩ := hrel
    by_cases hlt : j < l.length
    · have hjz : (j : Int) < (l.length : Int) := by omega
      have hul := upto_len (fC k l) l j
      have hwl := wcells_len (l := upto (fC k l) l j) (cs := cs) (by omega)
      obtain ⟨g, rfl, hg0, hg1, hgc⟩ := hR.cell (by omega)
      have hgH := hA (by omega) g rfl
      have hv := List.getElem?_eq_getElem (l := cs) (i := j) (by omega)
      have hu : (upto (fC k l) l j)[j]? = some l[j] := by rw [upto_get, List.getElem?_eq_getElem hlt]; simp
      obtain ⟨w0, w1⟩ := wcells_get hu hv
      have c0 := hgc _ _ w0
      have c1 := hgc _ _ w1
      have q0 := hR.cellFz (by omega) (j * 2)
      obtain ⟨N, hN⟩ := hidEx (k + (szC (l.take j) : Int))
      obtain ⟨m, hm⟩ := hidEx (upto (fC k l) l j)
      rw [hm.out] at hul hwl hR hB hu hgc
      -- the number
      have R1 := hR.set (j * 2) (.int .i64 N) (by omega)
      rw [wcells_set (by omega) (by omega) N (l[j]).2] at R1
      have B1 : Bs (wr.setCell ⟨g, j * 2, none⟩ (.int .i64 N)) B (ss ++ cs) (ms ++ m.map (·.2)) := hB.other (i := j * 2) (u := .int .i64 N) hR (by omega) (by decide)
      have O1 : Out B H w (wr.setCell ⟨g, j * 2, none⟩ (.int .i64 N)) := hO.trans (Out.set ⟨hg0, hgH⟩)
      have K1 : KeepT (fun t => t = 5 ∨ t = 51) w (wr.setCell ⟨g, j * 2, none⟩ (.int .i64 N)) := ho.trans (KeepT.set hR (by omega) (.inr rfl))
      have S1 : (wr.setCell ⟨g, j * 2, none⟩ (.int .i64 N)).heap.size = w.heap.size := by simpa using hsz
      obtain ⟨W1, hW1⟩ := hidEx (wr.setCell ⟨g, j * 2, none⟩ (.int .i64 N))
      rw [hW1.out] at R1 B1 O1 K1 S1
      have hvs : (ss ++ cs)[ms.length + j]? = some cs[j] := by rw [← hss, List.getElem?_append_right (by omega), Nat.add_sub_cancel_left]; exact hv
      have hls : (ms ++ m.map (·.2))[ms.length + j]? = some (l[j]).2 := by rw [List.getElem?_append_right (by omega), Nat.add_sub_cancel_left]; simp [hu]
      have hOB := B1.ob _ _ _ hvs hls
      have hst := szC_take hlt
      have hsl := szC_le l (j + 1)
      have hNe := hN.out
      have hV := markOB hOB (N + 1) (by omega) (by omega)
      have d1 : W1.cell? ⟨g, j * 2 + 1, none⟩ = some cs[j] := by
        obtain ⟨g', e', -, -, hgc'⟩ := R1.cell (by rw [wcells_len (by simp; omega)]; simp; omega)
        cases e'
        have hu2 : (m.set j (N, (l[j]).2))[j]? = some (N, (l[j]).2) := by simp [show j < m.length by omega]
        exact hgc' _ _ (wcells_get hu2 hv).2
      have HS : Hid (m.set j (N, mkB (N + 1) (l[j]).2.length) = upto (fC k l) l (j + 1)) := by
        show _ = _
        rw [← hm.out, ← upto_set _ _ _ hlt, ← hN.out]
        rfl
      have HK : Hid (N + 1 + (l[j]).2.length = k + szC (l.take (j + 1))) := by
        show _ = _
        rw [hst, ← hNe]; omega
      have HH : Hid (∀ g, cs[j].ownBlock = some g → B ≤ g ∧ g < H) := fun g e => ⟨(B1.lt _ (List.mem_of_getElem? hvs) g e).1, hH _ (List.mem_of_getElem? hv) g e⟩
      have HB : Hid (RL 51 W1 B (some ⟨g, 0, none⟩) (wcells (m.set j (N, (l[j]).2)) cs) ∧ Bs W1 B (ss ++ cs) (ms ++ m.map (·.2)) ∧ Out B H w W1 ∧ KeepT (fun t => t = 5 ∨ t = 51) w W1 ∧ (ss ++ cs)[ms.length + j]? = some cs[j]) := ⟨R1, B1, O1, K1, hvs⟩
      have HW : Hid (wcells (m.set j (N, (l[j]).2)) cs = wcells (m.set j (N, mkB (N + 1) (l[j]).2.length)) cs) := by
        show _ = _
        rw [← wcells_set (by omega) (by omega), ← wcells_set (by omega) (by omega)]
      have HX : Hid ((ms ++ m.map (·.2)).set (ms.length + j) (mkB (N + 1) (l[j]).2.length) = ms ++ (m.set j (N, mkB (N + 1) (l[j]).2.length)).map (·.2)) := by
        show _ = _
        rw [List.set_append_right _ _ (by omega), Nat.add_sub_cancel_left, List.map_set]
      have hw1 : IntKind.i64.wrap (N + 1) = N + 1 := by rw [IntKind.wrap_i64]; omega
      clear hB hO ho hvs hls hOB hst hsl hR hgc hv R1 B1 O1 K1 w0 w1 hu
      obtain ⟨k2, hk2⟩ := hidEx (k + (szC (l.take (j + 1)) : Int))
      obtain ⟨n0, hn0⟩ := hidEx (l[j]).2.length
      obtain ⟨v0, hv0⟩ := hidEx cs[j]
      obtain ⟨n1, hn1⟩ := hidEx (l[j]).1
      rw [hn1.out] at c0
      rw [hv0.out] at c1 hV HH HB d1
      rw [hn0.out] at hV HS HW HX
      rw [hn0.out, hk2.out] at HK
      rw [hN.out]
      go_wp2_with (rw [hW1.out])
      refine hV.mono ?_
      rintro e w2 ⟨rfl, hmm, hov⟩
      have HR : Hid (RL 51 w2 B (some ⟨g, 0, none⟩) (wcells (upto (fC k l) l (j + 1)) cs) ∧ Bs w2 B (ss ++ cs) (ms ++ (upto (fC k l) l (j + 1)).map (·.2)) ∧ Out B H w w2 ∧ w2.heap.size = w.heap.size ∧ KeepT (fun t => t = 5 ∨ t = 51) w w2) := by
        refine ⟨?_, ?_, HB.out.2.2.1.trans (Out.ofOnlyV hov HH.out), by rw [hov.size, S1], HB.out.2.2.2.1.trans (KeepT.of8 hov.keep (.inl rfl))⟩
        · rw [← HS.out, ← HW.out]
          exact HB.out.1.keep hov.keep (by decide)
        · rw [← HS.out, ← HX.out]
          exact HB.out.2.1.mark HB.out.2.2.2.2 hmm hov
      rw [HK.out]
      clear hV hmm hov HB HS HH HK HW HX d1 c0 c1 q0
      go_wp2
      go_roundg (l.length - (j + 1))
      case measure => omega
      case rel => exact ⟨j + 1, by omega, rfl, by rw [hk2.out], by go_num, HR.out⟩
    · obtain rfl : j = l.length := by omega
      have hjz : ¬ (l.length : Int) < (l.length : Int) := by omega
      rw [List.take_length]
      have HB : Hid (RL 51 wr B a (wcells (l.mapIdx (fC k l)) cs) ∧ Bs wr B (ss ++ cs) (ms ++ (l.mapIdx (fC k l)).map (·.2))) := by
        show _ ∧ _
        rw [← upto_all (fC k l) l l.length (Nat.le_refl _)]
        exact ⟨hR, hB⟩
      clear hB hR
      go_wp2
      go_ret
      exact ⟨rfl, HB.out.1, HB.out.2, hO, hsz, ho⟩
end Go.Proofs.Ytdhfbblameiloaa

/-
  Marks in faults and in a whole disk, and what finds them.
-/
namespace Go.Proofs.Ytdhfbblameiloaa
open Go.RowKit
set_option maxRecDepth 4000

theorem fcells_at {l : List PFault} (i j : Nat) (hj : j < 3) : (fcells l)[i * 3 + j]? = (l[i]?).bind (fun x => (fEl x)[j]?) := flat_get fEl 3 (fun _ => rfl) _ i j hj
theorem fcells_set {l : List PFault} {j : Nat} (hj : j < l.length) (x : PFault) : (((fcells l).set (j * 3) (.int .i64 x.pos)).set (j * 3 + 1) (.int .i64 x.keep)).set (j * 3 + 2) (.int .i64 x.cut) = fcells (l.set j x) := by
  have hw := fcells_len l
  refine List.ext_getElem? (fun q => ?_)
  have hq : q = q / 3 * 3 + q % 3 := by omega
  have hm : q % 3 < 3 := by omega
  rw [List.getElem?_set, List.getElem?_set, List.getElem?_set]
  simp only [List.length_set]
  have R : (fcells (l.set j x))[q]? = ((l.set j x)[q / 3]?).bind (fun x => (fEl x)[q % 3]?) := by
    have := fcells_at (l := l.set j x) (q / 3) (q % 3) hm
    rw [← hq] at this; exact this
  rw [R, List.getElem?_set]
  by_cases e2 : j * 3 + 2 = q
  · rw [if_pos e2, if_pos (by omega), if_pos (by omega), if_pos (by omega), show q % 3 = 2 by omega]; rfl
  rw [if_neg e2]
  by_cases e1 : j * 3 + 1 = q
  · rw [if_pos e1, if_pos (by omega), if_pos (by omega), if_pos (by omega), show q % 3 = 1 by omega]; rfl
  rw [if_neg e1]
  by_cases e0 : j * 3 = q
  · rw [if_pos e0, if_pos (by omega), if_pos (by omega), if_pos (by omega), show q % 3 = 0 by omega]; rfl
  rw [if_neg e0, if_neg (by omega)]
  have := fcells_at (l := l) (q / 3) (q % 3) hm
  rw [← hq] at this; exact this

set_option maxHeartbeats 4000000 in
theorem markFaultS_any (a : Option Addr) (cap B H : Nat) (l : List PFault) (k : Int) (w : World) (hR : RL 79 w B a (fcells l)) (hA : 0 < l.length → ∀ g, a = some ⟨g, 0, none⟩ → g < H) (hn : l.length ≤ 1048576) (hk : 0 ≤ k) (hk1 : k + 3 * l.length ≤ 4611686018427387904) :
    Calls Try.prog 73 #[.slice a l.length cap, .int .i64 k] w fun e w' => e = .returned (.int .i64 (k + 3 * l.length)) ∧ RL 79 w' B a (fcells (l.mapIdx (fF k))) ∧ Out B H w w' ∧ w'.heap.size = w.heap.size ∧ KeepT (fun t => t = 79) w w' := by
  go_enter Try.func73, Try.ntmps73
  go_wp2
  go_loopg [1, 5] l.length (fun q s i wr => ∃ j : Nat, j ≤ l.length ∧ q = l.length - j ∧ s = .int .i64 (k + 3 * (j : Int)) ∧ i = .int .i64 j ∧ RL 79 wr B a (fcells (upto (fF k) l j)) ∧ Out B H w wr ∧ wr.heap.size = w.heap.size ∧ KeepT (fun t => t = 79) w wr)
  case atStart => exact ⟨0, Nat.zero_le _, rfl, by simp, rfl, by rw [upto_zero]; exact hR, Out.refl _ _ _, rfl, KeepT.refl _ _⟩
  case round =>
    clear hR
    obtain ⟨j, hj, rfl, rfl, rfl, hR, hO, hsz, ho⟩ := hrel
    by_cases hlt : j < l.length
    · have hjz : (j : Int) < (l.length : Int) := by omega
      have hul := upto_len (fF k) l j
      have hwl := fcells_len (upto (fF k) l j)
      obtain ⟨g, rfl, hg0, hg1, hgc⟩ := hR.cell (by omega)
      have hgH := hA (by omega) g rfl
      have hu : (upto (fF k) l j)[j]? = some l[j] := by rw [upto_get, List.getElem?_eq_getElem hlt]; simp
      obtain ⟨N, hN⟩ := hidEx (k + 3 * (j : Int))
      have hNe := hN.out
      have c0 := hgc (j * 3) (.int .i64 (l[j]).pos) (by have := fcells_get hu (j := 0) (by decide); simpa [fEl] using this)
      have c1 := hgc (j * 3 + 1) (.int .i64 (l[j]).keep) (by have := fcells_get hu (j := 1) (by decide); simpa [fEl] using this)
      have c2 := hgc (j * 3 + 2) (.int .i64 (l[j]).cut) (by have := fcells_get hu (j := 2) (by decide); simpa [fEl] using this)
      have q0 := hR.cellFz (by omega) (j * 3)
      have q1 := hR.cellFz (by omega) (j * 3 + 1)
      have q2 := hR.cellFz (by omega) (j * 3 + 2)
      have R1 := hR.set (j * 3) (.int .i64 N) (by omega)
      have K1 : KeepT (fun t => t = 79) w (wr.setCell ⟨g, j * 3, none⟩ (.int .i64 N)) := ho.trans (KeepT.set hR (by omega) rfl)
      have R2 := R1.set (j * 3 + 1) (.int .i64 (N + 1)) (by simp; omega)
      have K2 : KeepT (fun t => t = 79) w ((wr.setCell ⟨g, j * 3, none⟩ (.int .i64 N)).setCell ⟨g, j * 3 + 1, none⟩ (.int .i64 (N + 1))) := K1.trans (KeepT.set R1 (by simp; omega) rfl)
      have R3 := R2.set (j * 3 + 2) (.int .i64 (N + 2)) (by simp; omega)
      have K3 : KeepT (fun t => t = 79) w (((wr.setCell ⟨g, j * 3, none⟩ (.int .i64 N)).setCell ⟨g, j * 3 + 1, none⟩ (.int .i64 (N + 1))).setCell ⟨g, j * 3 + 2, none⟩ (.int .i64 (N + 2))) := K2.trans (KeepT.set R2 (by simp; omega) rfl)
      have O3 : Out B H w (((wr.setCell ⟨g, j * 3, none⟩ (.int .i64 N)).setCell ⟨g, j * 3 + 1, none⟩ (.int .i64 (N + 1))).setCell ⟨g, j * 3 + 2, none⟩ (.int .i64 (N + 2))) := ((hO.trans (Out.set ⟨hg0, hgH⟩)).trans (Out.set ⟨hg0, hgH⟩)).trans (Out.set ⟨hg0, hgH⟩)
      rw [fcells_set (x := ⟨N, N + 1, N + 2⟩) (by omega)] at R3
      have HS : (upto (fF k) l j).set j ⟨N, N + 1, N + 2⟩ = upto (fF k) l (j + 1) := by
        rw [← upto_set _ _ _ hlt, ← hN.out]
        rfl
      rw [HS] at R3
      have HR : Hid (RL 79 (((wr.setCell ⟨g, j * 3, none⟩ (.int .i64 N)).setCell ⟨g, j * 3 + 1, none⟩ (.int .i64 (N + 1))).setCell ⟨g, j * 3 + 2, none⟩ (.int .i64 (N + 2))) B (some ⟨g, 0, none⟩) (fcells (upto (fF k) l (j + 1))) ∧ Out B H w (((wr.setCell ⟨g, j * 3, none⟩ (.int .i64 N)).setCell ⟨g, j * 3 + 1, none⟩ (.int .i64 (N + 1))).setCell ⟨g, j * 3 + 2, none⟩ (.int .i64 (N + 2))) ∧ (((wr.setCell ⟨g, j * 3, none⟩ (.int .i64 N)).setCell ⟨g, j * 3 + 1, none⟩ (.int .i64 (N + 1))).setCell ⟨g, j * 3 + 2, none⟩ (.int .i64 (N + 2))).heap.size = w.heap.size ∧ KeepT (fun t => t = 79) w (((wr.setCell ⟨g, j * 3, none⟩ (.int .i64 N)).setCell ⟨g, j * 3 + 1, none⟩ (.int .i64 (N + 1))).setCell ⟨g, j * 3 + 2, none⟩ (.int .i64 (N + 2)))) := ⟨R3, O3, by simpa using hsz, K3⟩
      have hw1 : IntKind.i64.wrap (N + 1) = N + 1 := by rw [IntKind.wrap_i64]; omega
      have hw2 : IntKind.i64.wrap (N + 1 + 1) = N + 2 := by rw [IntKind.wrap_i64]; omega
      have hw3 : IntKind.i64.wrap (N + 2 + 1) = N + 3 := by rw [IntKind.wrap_i64]; omega
      have hw4 : IntKind.i64.wrap ((j : Int) + 1) = (j : Int) + 1 := by rw [IntKind.wrap_i64]; omega
      obtain ⟨n0, hn0⟩ := hidEx (l[j]).pos
      obtain ⟨n1, hn1⟩ := hidEx (l[j]).keep
      obtain ⟨n2, hn2⟩ := hidEx (l[j]).cut
      rw [hn0.out] at c0
      rw [hn1.out] at c1
      rw [hn2.out] at c2
      clear hR hO ho hgc hu R1 R2 R3 K1 K2 K3 O3 HS
      rw [hN.out]
      go_wp2
      go_roundg (l.length - (j + 1))
      case measure => omega
      case rel => exact ⟨j + 1, by omega, rfl, by go_num, by go_num, HR.out⟩
    · obtain rfl : j = l.length := by omega
      have hjz : ¬ (l.length : Int) < (l.length : Int) := by omega
      have HB : Hid (RL 79 wr B a (fcells (l.mapIdx (fF k)))) := by
        show RL _ _ _ _ _
        rw [← upto_all (fF k) l l.length (Nat.le_refl _)]
        exact hR
      clear hR
      go_wp2
      go_ret
      exact ⟨rfl, HB.out, hO, hsz, ho⟩

set_option maxHeartbeats 2000000 in
theorem heldWriteS_any (a : Option Addr) (cap : Nat) (l : List (Int × List Int)) (k : Int) (w : World) (h : WView w a cap (l.mapIdx (fC k l))) (hn : l.length ≤ 1048576) (hk : 0 ≤ k) (hk1 : k + szC l ≤ 4611686018427387904) :
    Calls Try.prog 75 #[.slice a l.length cap, .int .i64 k] w fun e w' => e = .returned (.int .i64 (k + szC l)) ∧ Below w.heap.size w w' := by
  go_enter Try.func75, Try.ntmps75
  go_wp2
  go_loopg [1, 5] l.length (fun q s i wr => ∃ j : Nat, j ≤ l.length ∧ q = l.length - j ∧ s = .int .i64 (k + szC (l.take j)) ∧ i = .int .i64 j ∧ Below w.heap.size w wr)
  case atStart => exact ⟨0, Nat.zero_le _, rfl, by simp [szC], rfl, Below.refl _ _⟩
  case round =>
    obtain ⟨j, hj, rfl, rfl, rfl, hB⟩ := hrel
    by_cases hlt : j < l.length
    · have hjz : (j : Int) < (l.length : Int) := by omega
      obtain ⟨b1, o1, a', c', rfl, hb1, x0, x1, v0, -⟩ := wview_at (wview_below h hB) (i := j) (by simpa using hlt)
      have eL : (l.mapIdx (fC k l))[j]'(by simpa using hlt) = (k + szC (l.take j), mkB (k + szC (l.take j) + 1) (l[j]).2.length) := by simp [fC]
      simp only [eL, mkB_len] at x0 x1 v0
      have hst := szC_take hlt
      have hsl := szC_le l (j + 1)
      have hV := held_any a' (l[j]).2.length c' _ (k + szC (l.take j) + 1) wr v0 (fun i hi => mkB_get _ _ i hi) (by omega) (by omega)
      have HK : Hid (k + szC (l.take j) + 1 + (l[j]).2.length = k + szC (l.take (j + 1))) := by
        show _ = _
        rw [hst]; omega
      have hp : ¬ k + szC (l.take (j + 1)) < (0 : Int) := by omega
      have hw1 : IntKind.i64.wrap (k + szC (l.take j) + 1) = k + szC (l.take j) + 1 := by rw [IntKind.wrap_i64]; omega
      clear h v0 eL hst hsl
      obtain ⟨k0, hk0⟩ := hidEx (k + (szC (l.take j) : Int))
      obtain ⟨k2, hk2⟩ := hidEx (k + (szC (l.take (j + 1)) : Int))
      obtain ⟨n0, hn0⟩ := hidEx (l[j]).2.length
      rw [hn0.out] at x1
      rw [hn0.out, hk0.out] at hV
      rw [hn0.out, hk0.out, hk2.out] at HK
      rw [hk2.out] at hp
      rw [hk0.out] at x0 hw1
      have hq : (k0 != k0) = false := bne_self_eq_false _
      rw [hk0.out]
      go_wp2_with fail
      refine hV.mono ?_
      rintro e w2 ⟨rfl, hb2⟩
      have HB : Hid (Below w.heap.size w w2) := hB.trans (hb2.mono hB.size)
      rw [HK.out]
      clear hV hb2 HK hB
      go_wp2
      go_roundg (l.length - (j + 1))
      case measure => omega
      case rel => exact ⟨j + 1, by omega, rfl, by rw [hk2.out], by go_num, HB.out⟩
    · obtain rfl : j = l.length := by omega
      have hjz : ¬ (l.length : Int) < (l.length : Int) := by omega
      rw [List.take_length]
      clear h
      go_wp2
      go_ret
      exact ⟨rfl, hB⟩

set_option maxHeartbeats 2000000 in
theorem heldFaultS_any (a : Option Addr) (cap : Nat) (l : List PFault) (k : Int) (w : World) (h : FView w a cap (l.mapIdx (fF k))) (hn : l.length ≤ 1048576) (hk : 0 ≤ k) (hk1 : k + 3 * l.length ≤ 4611686018427387904) :
    Calls Try.prog 76 #[.slice a l.length cap, .int .i64 k] w fun e w' => e = .returned (.int .i64 (k + 3 * l.length)) ∧ Below w.heap.size w w' := by
  go_enter Try.func76, Try.ntmps76
  go_wp2
  go_loopg [1, 5] l.length (fun q s i wr => ∃ j : Nat, j ≤ l.length ∧ q = l.length - j ∧ s = .int .i64 (k + 3 * (j : Int)) ∧ i = .int .i64 j ∧ Below w.heap.size w wr)
  case atStart => exact ⟨0, Nat.zero_le _, rfl, by simp, rfl, Below.refl _ _⟩
  case round =>
    obtain ⟨j, hj, rfl, rfl, rfl, hB⟩ := hrel
    by_cases hlt : j < l.length
    · have hjz : (j : Int) < (l.length : Int) := by omega
      obtain ⟨b1, o1, rfl, hb1, x0, x1, x2⟩ := fview_at (fview_below h hB) (i := j) (by simpa using hlt)
      have eL : (l.mapIdx (fF k))[j]'(by simpa using hlt) = ⟨k + 3 * (j : Int), k + 3 * (j : Int) + 1, k + 3 * (j : Int) + 2⟩ := by simp [fF]
      simp only [eL] at x0 x1 x2
      obtain ⟨N, hN⟩ := hidEx (k + 3 * (j : Int))
      have hNe := hN.out
      rw [hN.out] at x0 x1 x2
      have hw1 : IntKind.i64.wrap (N + 1) = N + 1 := by rw [IntKind.wrap_i64]; omega
      have hw2 : IntKind.i64.wrap (N + 1 + 1) = N + 2 := by rw [IntKind.wrap_i64]; omega
      have hw3 : IntKind.i64.wrap (N + 2 + 1) = N + 3 := by rw [IntKind.wrap_i64]; omega
      have hw4 : IntKind.i64.wrap ((j : Int) + 1) = (j : Int) + 1 := by rw [IntKind.wrap_i64]; omega
      have hq0 : (N != N) = false := bne_self_eq_false _
      have hq1 : (N + 1 != N + 1) = false := bne_self_eq_false _
      have hq2 : (N + 2 != N + 2) = false := bne_self_eq_false _
      clear h eL
      rw [hN.out]
      go_wp2
      go_roundg (l.length - (j + 1))
      case measure => omega
      case rel => exact ⟨j + 1, by omega, rfl, by go_num, by go_num, hB⟩
    · obtain rfl : j = l.length := by omega
      have hjz : ¬ (l.length : Int) < (l.length : Int) := by omega
      clear h
      go_wp2
      go_ret
      exact ⟨rfl, hB⟩

/-- A disk of the call's own whose rows lie from B on, below H. -/
def KIn (w : World) (B H : Nat) (v : Value) (D : PDisk) : Prop := ∃ sa sc ca cc fa fc ss cs, v = dval D sa sc ca cc fa fc ∧ KO w B sa sc ca cc fa fc ss cs D ∧ (∀ u, u ∈ ss ++ cs → ∀ g, u.ownBlock = some g → g < H) ∧ (0 < D.cache.length → ∀ g, ca = some ⟨g, 0, none⟩ → g < H) ∧ (0 < D.faults.length → ∀ g, fa = some ⟨g, 0, none⟩ → g < H)
theorem KOwn.kin {w : World} {B : Nat} {v : Value} {D : PDisk} (h : KOwn w B v D) : KIn w B w.heap.size v D := by
  obtain ⟨sa, sc, ca, cc, fa, fc, ss, cs, e, hk⟩ := h
  refine ⟨sa, sc, ca, cc, fa, fc, ss, cs, e, hk, fun u hu g hg => (hk.bytes.lt u hu g hg).2, fun hn g hg => ?_, fun hn g hg => ?_⟩
  · obtain ⟨g', e', -, hlt, -⟩ := hk.cache.cell (by rw [wcells_len hk.nc]; omega)
    rw [hg] at e'; cases e'; exact hlt
  · obtain ⟨g', e', -, hlt, -⟩ := hk.faults.cell (by rw [fcells_len]; omega)
    rw [hg] at e'; cases e'; exact hlt
theorem KIn.up {w w' : World} {B H : Nat} {v : Value} {D : PDisk} (h : KIn w B H v D) (hu : Up B w w') : KIn w' B H v D := by
  obtain ⟨sa, sc, ca, cc, fa, fc, ss, cs, e, hk, h1⟩ := h
  exact ⟨sa, sc, ca, cc, fa, fc, ss, cs, e, hk.up hu, h1⟩
theorem KIn.own {w : World} {B H : Nat} {v : Value} {D : PDisk} (h : KIn w B H v D) : KOwn w B v D := by
  obtain ⟨sa, sc, ca, cc, fa, fc, ss, cs, e, hk, h1⟩ := h
  exact ⟨sa, sc, ca, cc, fa, fc, ss, cs, e, hk⟩
theorem KFine.sum {D : PDisk} (h : KFine D) : szS D.secs ≤ 1099511627776 ∧ szC D.cache ≤ 1099512676352 ∧ D.faults.length ≤ 1048576 := ⟨szS_bound h.ns h.sec, szC_bound h.nc h.cache, h.nf⟩

set_option maxHeartbeats 4000000 in
theorem markDisk_any (v : Value) (D : PDisk) (B H : Nat) (k : Int) (w : World) (h : KIn w B H v D) (hf : KFine D) (hk : 0 ≤ k) (hk1 : k ≤ 1000000000) :
    Calls Try.prog 16 #[v, .int .i64 k] w fun e w' => e = .returned (.int .i64 (k + szD D)) ∧ KIn w' B H v (mkD k D) ∧ Out B H w w' := by
  obtain ⟨sa, sc, ca, cc, fa, fc, ss, cs, rfl, hk0, hH, hC, hF⟩ := h
  obtain ⟨z1, z2, z3⟩ := hf.sum
  unfold dval
  have hbA : Below w.heap.size w (w.alloc (.cells #[.slice sa D.secs.length sc, .slice ca D.cache.length cc, .int .i64 D.ops, .slice fa D.faults.length fc, .bool D.down] 32)) := (Below.refl _ _).alloc (Nat.le_refl _) _
  have V0 := VN.new w 32 [.slice sa D.secs.length sc, .slice ca D.cache.length cc, .int .i64 D.ops, .slice fa D.faults.length fc, .bool D.down]
  obtain ⟨W0, hW0⟩ := hidEx (w.alloc (.cells #[.slice sa D.secs.length sc, .slice ca D.cache.length cc, .int .i64 D.ops, .slice fa D.faults.length fc, .bool D.down] 32))
  have hk2 := hk0.up (Up.ofBelow hbA)
  rw [hW0.out] at hk2 hbA
  replace V0 : VN W0 w.heap.size 32 [.slice sa D.secs.length sc, .slice ca D.cache.length cc, .int .i64 D.ops, .slice fa D.faults.length fc, .bool D.down] := by rw [← hW0.out]; exact V0
  have hV := markByteSS_any sa sc B H ss cs D.secs (D.cache.map (·.2)) k W0 hk2.secs hk2.bytes hk2.ns (fun v hv => hH v (List.mem_append_left _ hv)) hf.ns hk (by omega)
  have x0 := V0.cell 0
  simp at x0
  go_enter Try.func16, Try.ntmps16
  go_wp2_with (rw [hW0.out])
  refine hV.mono ?_
  rintro e w1 ⟨rfl, B1, O1, S1, K1⟩
  have V1 := V0.block (K1 _ _ _ _ V0 (by decide))
  have x1 := V1.cell 1
  simp at x1
  have C1 := hk2.cache.keep K1 (by decide)
  have R1 := hk2.secs.keep K1 (by decide)
  have F1 := hk2.faults.keep K1 (by decide)
  obtain ⟨k1, hk1e⟩ := hidEx (k + (szS D.secs : Int))
  have hk1v := hk1e.out
  rw [hk1e.out]
  have hV := markWriteS_any ca cc B H ss cs (D.secs.mapIdx (fS k D.secs)) D.cache k1 w1 C1 B1 hk2.nc (by simp [hk2.ns]) (fun v hv => hH v (List.mem_append_right _ hv)) hC hf.nc (by omega) (by omega)
  go_wp2_with fail
  refine hV.mono ?_
  rintro e w2 ⟨rfl, C2, B2, O2, S2, K2⟩
  have V2 := V1.block (K2 _ _ _ _ V1 (by decide))
  have x3 := V2.cell 3
  simp at x3
  have R2 := R1.keepT K2 (by decide)
  have F2 := F1.keepT K2 (by decide)
  obtain ⟨k3, hk3e⟩ := hidEx (k1 + (szC D.cache : Int))
  have hk3v := hk3e.out
  rw [hk3e.out]
  have hV := markFaultS_any fa fc B H D.faults k3 w2 F2 hF hf.nf (by omega) (by omega)
  go_wp2_with fail
  refine hV.mono ?_
  rintro e w3 ⟨rfl, F3, O3, S3, K3⟩
  have R3 := R2.keepT K3 (by decide)
  have C3 := C2.keepT K3 (by decide)
  have B3 := B2.keepT K3 (by omega) (by decide)
  have HR : Hid (KIn w3 B H (dval D sa sc ca cc fa fc) (mkD k D) ∧ Out B H w w3) := by
    have hl1 : (D.secs.mapIdx (fS k D.secs)).length = D.secs.length := by simp
    have hl2 : (D.cache.mapIdx (fC k1 D.cache)).length = D.cache.length := by simp
    have hl3 : (D.faults.mapIdx (fF k3)).length = D.faults.length := by simp
    have em : mkD k D = ⟨D.secs.mapIdx (fS k D.secs), D.cache.mapIdx (fC k1 D.cache), D.ops, D.faults.mapIdx (fF k3), D.down⟩ := by
      unfold mkD
      rw [hk1v, hk3v]
    rw [em]
    refine ⟨⟨sa, sc, ca, cc, fa, fc, ss, cs, ?_, ⟨by simpa using hk2.sle, hk2.snil, by simpa using hk2.cle, hk2.cnil, by simpa using hk2.fle, hk2.fnil, by simpa using hk2.ns, by simpa using hk2.nc, R3, C3, F3, B3⟩, hH, by simpa using hC, by simpa using hF⟩, ((Out.ofBelow hbA).trans O1).trans (O2.trans O3)⟩
    unfold dval
    simp only [hl1, hl2, hl3]
  have hres : k3 + 3 * (D.faults.length : Int) = k + szD D := by
    unfold szD
    rw [← hk3v, ← hk1v]
    simp only [Int.natCast_add, Int.natCast_mul]
    omega
  rw [hres]
  clear hV R3 C3 B3 F3 R2 C2 F2 B2 R1 C1 F1 B1 K1 K2 K3 O1 O2 O3 hk2 hk0 hH hC hF V0 V1 V2 x0 x1 x3
  go_wp2
  go_ret
  exact ⟨rfl, HR.out.1, HR.out.2⟩

set_option maxHeartbeats 4000000 in
theorem heldDisk_any (v : Value) (D : PDisk) (k : Int) (w : World) (h : KView w v (mkD k D)) (hf : KFine D) (hk : 0 ≤ k) (hk1 : k ≤ 1000000000) :
    Calls Try.prog 18 #[v, .int .i64 k] w fun e w' => e = .returned (.int .i64 (k + szD D)) ∧ Below w.heap.size w w' := by
  obtain ⟨z1, z2, z3⟩ := hf.sum
  obtain ⟨sa, sc, ca, cc, fa, fc, rfl, hs, hc, hfv⟩ := h.is
  clear h
  have hl1 : (mkD k D).secs.length = D.secs.length := by simp [mkD]
  have hl2 : (mkD k D).cache.length = D.cache.length := by simp [mkD]
  have hl3 : (mkD k D).faults.length = D.faults.length := by simp [mkD]
  have hl4 : (mkD k D).ops = D.ops := rfl
  have hl5 : (mkD k D).down = D.down := rfl
  rw [hl1, hl2, hl3, hl4, hl5]
  have hB0 := box5_start w (.cells #[.slice sa D.secs.length sc, .slice ca D.cache.length cc, .int .i64 D.ops, .slice fa D.faults.length fc, .bool D.down] 32)
  obtain ⟨hBw0, -⟩ := box5_below hB0
  have hV := heldByteSS_any sa sc D.secs k _ (sview_below hs hBw0) hf.ns hk (by omega)
  go_enter Try.func18, Try.ntmps18
  go_wp2_with fail
  refine hV.mono ?_
  rintro e w1 ⟨rfl, hb1⟩
  have hB1 := box5_on hB0 hb1
  obtain ⟨hBw1, -⟩ := box5_below hB1
  obtain ⟨x0, x1, x2, x3, x4⟩ := box5 hB1
  clear hV hB0 hBw0 hb1
  obtain ⟨k1, hk1e⟩ := hidEx (k + (szS D.secs : Int))
  have hk1v := hk1e.out
  rw [hk1e.out]
  have hp1 : ¬ k1 < 0 := by omega
  have hV := heldWriteS_any ca cc D.cache k1 w1 (by rw [← hk1v]; exact wview_below hc hBw1) hf.nc (by omega) (by omega)
  go_wp2_with fail
  refine hV.mono ?_
  rintro e w2 ⟨rfl, hb2⟩
  have hB2 := box5_on hB1 hb2
  obtain ⟨hBw2, -⟩ := box5_below hB2
  clear x0 x1 x2 x3 x4
  obtain ⟨x0, x1, x2, x3, x4⟩ := box5 hB2
  clear hV hB1 hBw1 hb2
  obtain ⟨k3, hk3e⟩ := hidEx (k1 + (szC D.cache : Int))
  have hk3v := hk3e.out
  rw [hk3e.out]
  have hp3 : ¬ k3 < 0 := by omega
  have hV := heldFaultS_any fa fc D.faults k3 w2 (by rw [← hk3v, ← hk1v]; exact fview_below hfv hBw2) hf.nf (by omega) (by omega)
  go_wp2_with fail
  refine hV.mono ?_
  rintro e w3 ⟨rfl, hb3⟩
  have hB3 := box5_on hB2 hb3
  obtain ⟨hBw3, -⟩ := box5_below hB3
  clear x0 x1 x2 x3 x4
  have hres : k3 + 3 * (D.faults.length : Int) = k + szD D := by
    unfold szD
    rw [← hk3v, ← hk1v]
    simp only [Int.natCast_add, Int.natCast_mul]
    omega
  rw [hres]
  have hp4 : ¬ k + szD D < (0 : Int) := by omega
  clear hV hB2 hBw2 hb3 hs hc hfv hf
  go_wp2
  go_ret
  exact ⟨rfl, hBw3⟩
end Go.Proofs.Ytdhfbblameiloaa

/-
  The program's putBytes: both slices of bytes, one behind the other, in one new row that holds just them.
-/
namespace Go.Proofs.Ytdhfbblameiloaa
open Go.RowKit
set_option maxRecDepth 4000

theorem cells_of_any {w : World} {ao : Option Addr} {n cap : Nat} {f : Nat → Int} (h : View w ao n cap f) : ∀ ad, ao = some ad → ∀ j u, (bl (lof n f))[j]? = some u → w.cell? (ad.add j) = some u := by
  rintro ad rfl j u hu
  have hj : j < n := by
    by_cases hj : j < n
    · exact hj
    · rw [List.getElem?_eq_none (by rw [bl_len, lof_len]; omega)] at hu; cases hu
  obtain ⟨b', off', e, _, _⟩ := h.cells (by omega)
  simp only [Option.some.injEq] at e
  subst e
  exact cells_of_view h j u hu

theorem below_new {w w1 : World} (h : w.grownBy w1 none) : Below w.heap.size w w1 := (Below.refl _ _).grown h (Nat.le_refl _) (by intro k hk; cases hk)
theorem below_app {w w1 w2 : World} (h : w.grownBy w1 none) (h2 : w1.grownBy w2 (some w.heap.size)) : Below w.heap.size w w2 :=
  (below_new h).grown h2 h.size (by intro k hk; cases hk; exact Nat.le_refl _)

set_option maxHeartbeats 1000000 in
theorem putBytes_any (b off n cap : Nat) (f : Nat → Int) (ao : Option Addr) (m c : Nat) (g : Nat → Int) (w : World) (hv : View w (some ⟨b, off, none⟩) n cap f) (hg : View w ao m c g) (hno : ao = none → m = 0 ∧ c = 0) (hn : n + m ≤ 70368744177664) :
    Calls Try.prog 66 #[.slice (some ⟨b, off, none⟩) n cap, .slice ao m c] w fun e w' => e = .returned (.slice (some ⟨w.heap.size, 0, none⟩) (n + m) (n + m)) ∧ w'.ownsRow w.heap.size 5 1 (.slice (some ⟨w.heap.size, 0, none⟩) (n + m) (n + m)) (n + m) (bl (lof n f ++ lof m g)) ∧ Below w.heap.size w w' := by
  obtain ⟨i0, hi, hz0, hz1, hz2⟩ := info_parts Try.info5
  go_enter Try.func66, Try.ntmps66
  go_wp2_with (first | (at_make; go_must (refine wpList_make_own _ rfl (.const (.int .i64 0)) (.tmp 10) 27 rfl w.heap.size 5 i0 (.int .u8 0) 1 Try.underlying27 hi hz0 hz1 .i64 .i64 ((n : Int) + (m : Int)) (n + m) rfl rfl (by omega) (by rw [hz2]; omega) (by unfold maxLen; omega) (Nat.le_refl _) ?_); intro w1 hown1 hgr1) | (at_builtin; refine wpList_append_fits_any _ rfl (.tmp 12) (.tmp 13) 27 rfl w.heap.size 5 i0 1 Try.underlying27 hi hz1 w.heap.size 0 (n + m) [] rfl hown1 (some ⟨b, off, none⟩) n cap (bl (lof n f)) rfl (by rw [bl_len, lof_len]; omega) (by intro h; cases h) (cells_of_any (hv.below (below_new hgr1))) (bl_one _) (by omega) ?_; intro w2 hown2 hgr2; simp only [Nat.zero_add, List.nil_append] at hown2) | (at_builtin; refine wpList_append_fits_any _ rfl (.tmp 15) (.tmp 16) 27 rfl w.heap.size 5 i0 1 Try.underlying27 hi hz1 w.heap.size n (n + m) (bl (lof n f)) rfl hown2 ao m c (bl (lof m g)) rfl (by rw [bl_len, lof_len]; omega) hno (cells_of_any (hg.below (below_app hgr1 hgr2))) (bl_one _) (by omega) ?_; intro w3 hown3 hgr3))
  go_ret
  exact ⟨rfl, by rw [bl_append]; exact hown3, (below_app hgr1 hgr2).grown hgr3 (Nat.le_trans hgr1.size hgr2.size) (by intro k hk; cases hk; exact Nat.le_refl _)⟩
end Go.Proofs.Ytdhfbblameiloaa

/-
  The program's putBytes behind bytes that may be nil.
-/
namespace Go.Proofs.Ytdhfbblameiloaa
open Go.RowKit
set_option maxRecDepth 4000

set_option maxHeartbeats 1000000 in
theorem putBytes_opt (ai : Option Addr) (n cap : Nat) (f : Nat → Int) (ao : Option Addr) (m c : Nat) (g : Nat → Int) (w : World) (hv : View w ai n cap f) (hni : ai = none → n = 0 ∧ cap = 0) (hg : View w ao m c g) (hno : ao = none → m = 0 ∧ c = 0) (hn : n + m ≤ 70368744177664) :
    Calls Try.prog 66 #[.slice ai n cap, .slice ao m c] w fun e w' => e = .returned (.slice (some ⟨w.heap.size, 0, none⟩) (n + m) (n + m)) ∧ w'.ownsRow w.heap.size 5 1 (.slice (some ⟨w.heap.size, 0, none⟩) (n + m) (n + m)) (n + m) (bl (lof n f ++ lof m g)) ∧ Below w.heap.size w w' := by
  obtain ⟨i0, hi, hz0, hz1, hz2⟩ := info_parts Try.info5
  go_enter Try.func66, Try.ntmps66
  go_wp2_with (first | (at_make; go_must (refine wpList_make_own _ rfl (.const (.int .i64 0)) (.tmp 10) 27 rfl w.heap.size 5 i0 (.int .u8 0) 1 Try.underlying27 hi hz0 hz1 .i64 .i64 ((n : Int) + (m : Int)) (n + m) rfl rfl (by omega) (by rw [hz2]; omega) (by unfold maxLen; omega) (Nat.le_refl _) ?_); intro w1 hown1 hgr1) | (at_builtin; refine wpList_append_fits_any _ rfl (.tmp 12) (.tmp 13) 27 rfl w.heap.size 5 i0 1 Try.underlying27 hi hz1 w.heap.size 0 (n + m) [] rfl hown1 ai n cap (bl (lof n f)) rfl (by rw [bl_len, lof_len]; omega) hni (cells_of_any (hv.below (below_new hgr1))) (bl_one _) (by omega) ?_; intro w2 hown2 hgr2; simp only [Nat.zero_add, List.nil_append] at hown2) | (at_builtin; refine wpList_append_fits_any _ rfl (.tmp 15) (.tmp 16) 27 rfl w.heap.size 5 i0 1 Try.underlying27 hi hz1 w.heap.size n (n + m) (bl (lof n f)) rfl hown2 ao m c (bl (lof m g)) rfl (by rw [bl_len, lof_len]; omega) hno (cells_of_any (hg.below (below_app hgr1 hgr2))) (bl_one _) (by omega) ?_; intro w3 hown3 hgr3))
  go_ret
  exact ⟨rfl, by rw [bl_append]; exact hown3, (below_app hgr1 hgr2).grown hgr3 (Nat.le_trans hgr1.size hgr2.size) (by intro k hk; cases hk; exact Nat.le_refl _)⟩
end Go.Proofs.Ytdhfbblameiloaa

/-
  Rows of a disk that grow: what an append turns, and what it leaves.
-/
namespace Go.Proofs.Ytdhfbblameiloaa
open Go.RowKit
set_option maxRecDepth 4000

theorem keep_grown {w w' : World} {base T c n : Nat} {v : Value} {xs : List Value} (h : w.ownsRow base T c v n xs) (hg : w.grownBy w' v.ownBlock) : KeepT (fun t => t = T) w w' := by
  intro b cur t z hb ht
  refine hg.block b (Array.getElem?_eq_some_iff.1 hb).1 (fun e => ?_)
  rcases h.2 with ⟨rfl, _⟩ | ⟨g, cap, cur', rfl, _, hg', _⟩
  · cases e
  · cases e
    rw [hg'] at hb
    cases hb
    exact ht rfl
theorem own_geK {W : World} {base T c N : Nat} {v : Value} {xs : List Value} (h : W.ownsRow base T c v N xs) : ∀ j, v.ownBlock = some j → base ≤ j := by
  intro j hj
  rcases h.2 with ⟨rfl, _⟩ | ⟨g, cap, cur, rfl, hb, _⟩
  · cases hj
  · cases hj; exact hb
theorem own_succK {W : World} {base T c k : Nat} {v : Value} {xs : List Value} (h : W.ownsRow base T c v (k + 1) xs) : ∃ g cap, v = .slice (some ⟨g, 0, none⟩) (k + 1) cap := by
  rcases h.2 with ⟨_, h0⟩ | ⟨g, cap, cur, e, _⟩
  · omega
  · exact ⟨g, cap, e⟩
theorem own_upK {W W' : World} {base T c N : Nat} {v : Value} {xs : List Value} (h : W.ownsRow base T c v N xs) (hu : Up base W W') : W'.ownsRow base T c v N xs := by
  refine ⟨h.1, ?_⟩
  rcases h.2 with h0 | ⟨g, cap, cur, e, hb, hg, hr⟩
  · exact .inl h0
  · exact .inr ⟨g, cap, cur, e, hb, (hu.2 g hb (Array.getElem?_eq_some_iff.1 hg).1).trans hg, hr⟩
theorem own_keepT {P : TypeId → Prop} {W W' : World} {base T c N : Nat} {v : Value} {xs : List Value} (h : W.ownsRow base T c v N xs) (hu : KeepT P W W') (hT : ¬ P T) : W'.ownsRow base T c v N xs := by
  refine ⟨h.1, ?_⟩
  rcases h.2 with h0 | ⟨g, cap, cur, e, hb, hg, hr⟩
  · exact .inl h0
  · exact .inr ⟨g, cap, cur, e, hb, (hu g _ _ _ hg hT).trans hg, hr⟩
theorem own_monoK {W : World} {base base' T c N : Nat} {v : Value} {xs : List Value} (h : W.ownsRow base T c v N xs) (hB : base' ≤ base) : W.ownsRow base' T c v N xs := by
  refine ⟨h.1, ?_⟩
  rcases h.2 with h0 | ⟨g, cap, cur, e, hb, hr⟩
  · exact .inl h0
  · exact .inr ⟨g, cap, cur, e, Nat.le_trans hB hb, hr⟩
theorem own_rl {W : World} {base T c N : Nat} {v : Value} {xs : List Value} (h : W.ownsRow base T c v N xs) : ∃ a cap, v = .slice a N cap ∧ N ≤ cap ∧ (a = none → cap = 0) ∧ RL T W base a xs := by
  rcases h.2 with ⟨rfl, rfl⟩ | ⟨g, cap, cur, rfl, hb, hg, hnc, _, _, ht⟩
  · refine ⟨none, 0, rfl, Nat.le_refl _, fun _ => rfl, .inl ?_⟩
    have := h.1
    rw [Nat.zero_mul] at this
    exact List.eq_nil_of_length_eq_zero this
  · refine ⟨_, cap, rfl, hnc, (fun e => by cases e), .inr ⟨g, cur, rfl, hb, hg, fun i u hi => ?_⟩⟩
    rw [← ht, List.getElem?_take] at hi
    split at hi
    · simpa using hi
    · cases hi
theorem own_nilK (W : World) (base T c : Nat) : W.ownsRow base T c (.slice none 0 0) 0 [] := ⟨by simp, .inl ⟨rfl, rfl⟩⟩
theorem own_emptyK (w : World) (T c : Nat) : (w.alloc (.cells #[] T)).ownsRow w.heap.size T c (.slice (some ⟨w.heap.size, 0, none⟩) 0 0) 0 [] := World.ownsRow_lit (base := w.heap.size) (e := T) (size := c) w #[] 0 (Nat.le_refl _) (Nat.zero_le _) (by simp)
/-- Bytes that were put into a new row. -/
theorem ob_of_own {w : World} {B g n c : Nat} {l : List Int} (h : w.ownsRow B 5 1 (.slice (some ⟨g, 0, none⟩) n c) n (bl l)) (hn : n = l.length) (hb : ∀ x ∈ l, 0 ≤ x ∧ x ≤ 255) : OB w B (.slice (some ⟨g, 0, none⟩) n c) l := by
  subst hn
  rcases h.2 with ⟨e, _⟩ | ⟨g', cap, cur, e, hB, hg, hnc, _, hcs, ht⟩
  · cases e
  · cases e
    refine ⟨_, c, rfl, hnc, (fun e => by cases e), hb, .inr ⟨g, rfl, hB, cur, hg, by omega, fun i hi => ?_⟩⟩
    have h1 : (bl l)[i]? = some (.int .u8 (bf l i)) := by simp [bl, bf, hi]
    rw [← ht, List.getElem?_take, if_pos (by omega)] at h1
    simpa using h1
theorem lv_bytes {w : World} {a : Option Addr} {c : Nat} {l : List Int} (h : View w a l.length c (bf l)) : ∀ x ∈ l, 0 ≤ x ∧ x ≤ 255 := by
  intro x hx
  obtain ⟨i, hi, rfl⟩ := List.getElem_of_mem hx
  have := h.byte i hi
  have e : bf l i = l[i] := by simp [bf, hi]
  rw [e] at this
  exact this

/-- The program's putBytes with nothing behind. -/
theorem putSec_any (a : Option Addr) (c : Nat) (l : List Int) (w : World) (hv : View w a l.length c (bf l)) (hn : a = none → c = 0) (hl : l.length ≤ 1048576) :
    Calls Try.prog 66 #[.slice a l.length c, .slice none 0 0] w fun e w' => e = .returned (.slice (some ⟨w.heap.size, 0, none⟩) l.length l.length) ∧ OB w' w.heap.size (.slice (some ⟨w.heap.size, 0, none⟩) l.length l.length) l ∧ Below w.heap.size w w' ∧ w.heap.size < w'.heap.size := by
  have h0 : View w none 0 0 (fun _ => 0) := ⟨Nat.le_refl _, fun i hi => absurd hi (Nat.not_lt_zero _), fun h => absurd h (Nat.lt_irrefl _)⟩
  refine (putBytes_opt a l.length c (bf l) none 0 0 (fun _ => 0) w hv (fun e => by have := hn e; have := hv.le; omega) h0 (fun _ => ⟨rfl, rfl⟩) (by omega)).mono ?_
  rintro e w' ⟨rfl, hO, hb⟩
  simp only [Nat.add_zero, lof_bf] at hO
  have e0 : lof 0 (fun _ => 0) = [] := rfl
  rw [e0, List.append_nil] at hO
  refine ⟨rfl, ob_of_own hO rfl (lv_bytes hv), hb, ?_⟩
  rcases hO.2 with ⟨e, _⟩ | ⟨g', cap, cur, e, hB, hg, _⟩
  · cases e
  · cases e; exact (Array.getElem?_eq_some_iff.1 hg).1

set_option maxHeartbeats 2000000 in
/-- slices.Clone of faults. -/
theorem cloneFaults_any (a : Option Addr) (cap : Nat) (l : List PFault) (w : World) (h : FView w a cap l) (hn : l.length ≤ 1048576) :
    Calls Try.prog 94 #[.slice a l.length cap] w fun e w' => ∃ fa fc, e = .returned (.slice fa l.length fc) ∧ l.length ≤ fc ∧ (fa = none → fc = 0) ∧ RL 79 w' w.heap.size fa (fcells l) ∧ Below w.heap.size w w' := by
  obtain ⟨i0, hi, hz0, hz1, hz2⟩ := infoFault
  cases a with
  | none =>
    have hc := h.nil rfl
    have hl0 : l.length = 0 := by have := h.le; omega
    have hl : l = [] := List.eq_nil_of_length_eq_zero hl0
    subst hl
    subst hc
    have he : ∀ W : World, (binOp .eql 30 (.slice none 0 0) (.slice none 0 0)).run Try.prog W = .ok (.bool true) W := by intro W; kernel_rfl
    go_enter Try.func94, Try.ntmps94
    go_wp2
    go_ret
    exact ⟨none, 0, rfl, Nat.le_refl _, fun _ => rfl, .inl rfl, Below.refl _ _⟩
  | some ad =>
    have hbE : Below w.heap.size w (w.alloc (.cells #[] 79)) := (Below.refl _ _).alloc (Nat.le_refl _) _
    have hO0 := own_emptyK w 79 3
    have hcl : ∀ j u, (fcells l)[j]? = some u → (w.alloc (.cells #[] 79)).cell? (ad.add j) = some u := by
      intro j u hj
      have hlen : j < l.length * 3 := by rw [← fcells_len]; exact (List.getElem?_eq_some_iff.1 hj).1
      obtain ⟨b, off, e, hlt, hc⟩ := h.cells (by omega)
      cases e
      have ea : (⟨b, off, none⟩ : Addr).add j = ⟨b, off + j, none⟩ := by unfold Addr.add; split <;> simp_all
      rw [ea, hbE.cell (p := ⟨b, off + j, none⟩) hlt]
      have hq : j = j / 3 * 3 + j % 3 := by omega
      have hi3 : j / 3 < l.length := by omega
      obtain ⟨us, rfl, hus⟩ := hc (j / 3) l[j / 3] (List.getElem?_eq_getElem hi3)
      have h1 := fcells_at (l := l) (j / 3) (j % 3) (by omega)
      rw [← hq, hj, List.getElem?_eq_getElem hi3] at h1
      have h2 := hus (j % 3) u h1.symm
      have e3 : off + j / 3 * 3 + j % 3 = off + j := by omega
      rw [e3] at h2
      exact h2
    have hone : ∀ u ∈ fcells l, u.oneCell' = true := by
      intro u hu
      simp only [fcells, List.mem_flatMap] at hu
      obtain ⟨x, -, hx⟩ := hu
      simp [fEl] at hx
      rcases hx with rfl | rfl | rfl <;> rfl
    clear h
    have he : ∀ W : World, (binOp .eql 30 (.slice (some ad) l.length cap) (.slice none 0 0)).run Try.prog W = .ok (.bool false) W := by intro W; kernel_rfl
    go_enter Try.func94, Try.ntmps94
    go_wp2_with (at_builtin; refine wpList_append_own _ rfl (.tmp 5) (.tmp 6) 30 rfl w.heap.size 79 i0 (.agg #[.int .i64 0, .int .i64 0, .int .i64 0]) 3 24 Try.underlying30 hi hz0 hz1 hz2 rfl (by decide) _ _ _ rfl hO0 ad l.length cap (fcells l) rfl (fcells_len l) hcl hone (by unfold maxLen; omega) (by omega) (by simp) ?_)
    intro v5 w2 hown5 hgr hnil
    obtain ⟨fa, fc, rfl, h1, h2, h3⟩ := own_rl hown5
    have HR : Hid (RL 79 w2 w.heap.size fa (fcells l) ∧ Below w.heap.size w w2) := ⟨h3, hbE.grown hgr (by simp) (own_geK hO0)⟩
    clear hown5 hgr hnil hO0 hcl hone hbE h3
    go_wp2
    go_ret
    exact ⟨fa, fc, rfl, h1, h2, HR.out.1, HR.out.2⟩
/-- Three variables of disks: what came in, the answer, the new one. -/
structure TC (w W : World) (xs zs ys : List Value) : Prop where
  below : Below w.heap.size w W
  size : w.heap.size + 3 ≤ W.heap.size
  a : VN W w.heap.size 32 xs
  r : VN W (w.heap.size + 1) 32 zs
  o : VN W (w.heap.size + 1 + 1) 32 ys
theorem tc_new (w : World) (xs zs ys : List Value) : TC w (((w.alloc (.cells ⟨xs⟩ 32)).alloc (.cells ⟨zs⟩ 32)).alloc (.cells ⟨ys⟩ 32)) xs zs ys := by
  have V0 := VN.new w 32 xs
  have V1 := VN.new (w.alloc (.cells ⟨xs⟩ 32)) 32 zs
  have V2 := VN.new ((w.alloc (.cells ⟨xs⟩ 32)).alloc (.cells ⟨zs⟩ 32)) 32 ys
  simp only [alloc_sizeK] at V1 V2
  refine ⟨(((Below.refl _ _).alloc (Nat.le_refl _) _).alloc (by simp) _).alloc (by simp; omega) _, by simp, (V0.below ((Below.refl _ _).alloc (Nat.le_refl _) _)).below ((Below.refl _ _).alloc (Nat.le_refl _) _), V1.below ((Below.refl _ _).alloc (Nat.le_refl _) _), V2⟩
theorem TC.under {w W W' : World} {xs zs ys : List Value} (h : TC w W xs zs ys) (hb : Below (w.heap.size + 3) W W') : TC w W' xs zs ys :=
  ⟨h.below.trans (hb.mono (by omega)), Nat.le_trans h.size hb.size, h.a.block (hb.block _ (by omega)), h.r.block (hb.block _ (by omega)), h.o.block (hb.block _ (by omega))⟩
theorem TC.on {w W W' : World} {xs zs ys : List Value} (h : TC w W xs zs ys) (hb : Below W.heap.size W W') : TC w W' xs zs ys := h.under (hb.mono h.size)
theorem TC.grow {w W W' : World} {xs zs ys : List Value} {row : Option Nat} (h : TC w W xs zs ys) (hg : W.grownBy W' row) (hr : ∀ k, row = some k → w.heap.size + 1 + 1 + 1 ≤ k) : TC w W' xs zs ys := h.under ((Below.refl _ _).grown hg h.size (fun k e => by have := hr k e; omega))
theorem TC.drew {w W : World} {xs zs ys : List Value} (h : TC w W xs zs ys) : TC w W.drew xs zs ys := h.on (Below.refl _ _).drew
theorem TC.set {w W : World} {xs zs ys : List Value} (h : TC w W xs zs ys) (i : Nat) (u : Value) : TC w (W.setCell ⟨w.heap.size + 1 + 1, i, none⟩ u) xs zs (ys.set i u) :=
  ⟨h.below.setCell (p := ⟨w.heap.size + 1 + 1, i, none⟩) (by simp; omega) _, by simpa using h.size, h.a.other (by omega), h.r.other (by omega), h.o.set i u⟩
theorem TC.ret {w W : World} {xs zs ys : List Value} (h : TC w W xs zs ys) (i : Nat) (u : Value) : TC w (W.setCell ⟨w.heap.size + 1, i, none⟩ u) xs (zs.set i u) ys :=
  ⟨h.below.setCell (p := ⟨w.heap.size + 1, i, none⟩) (by simp) _, by simpa using h.size, h.a.other (by omega), h.r.set i u, h.o.other (by omega)⟩
theorem TC.cells {w W : World} {x0 x1 x2 x3 x4 : Value} {zs : List Value} {y0 y1 y2 y3 y4 : Value} (h : TC w W [x0, x1, x2, x3, x4] zs [y0, y1, y2, y3, y4]) :
    (W.cell? ⟨w.heap.size, 0, none⟩ = some x0 ∧ W.cell? ⟨w.heap.size, 1, none⟩ = some x1 ∧ W.cell? ⟨w.heap.size, 2, none⟩ = some x2 ∧ W.cell? ⟨w.heap.size, 3, none⟩ = some x3 ∧ W.cell? ⟨w.heap.size, 4, none⟩ = some x4)
    ∧ (W.cell? ⟨w.heap.size + 1 + 1, 0, none⟩ = some y0 ∧ W.cell? ⟨w.heap.size + 1 + 1, 1, none⟩ = some y1 ∧ W.cell? ⟨w.heap.size + 1 + 1, 2, none⟩ = some y2 ∧ W.cell? ⟨w.heap.size + 1 + 1, 3, none⟩ = some y3 ∧ W.cell? ⟨w.heap.size + 1 + 1, 4, none⟩ = some y4)
    ∧ ∀ i, W.frozen? ⟨w.heap.size + 1 + 1, i, none⟩ = false :=
  ⟨⟨h.a.cell 0, h.a.cell 1, h.a.cell 2, h.a.cell 3, h.a.cell 4⟩, ⟨h.o.cell 0, h.o.cell 1, h.o.cell 2, h.o.cell 3, h.o.cell 4⟩, fun i => h.o.fz i⟩
theorem TC.rcells {w W : World} {xs : List Value} {y0 y1 y2 y3 y4 : Value} {ys : List Value} (h : TC w W xs [y0, y1, y2, y3, y4] ys) :
    (W.cell? ⟨w.heap.size + 1, 0, none⟩ = some y0 ∧ W.cell? ⟨w.heap.size + 1, 1, none⟩ = some y1 ∧ W.cell? ⟨w.heap.size + 1, 2, none⟩ = some y2 ∧ W.cell? ⟨w.heap.size + 1, 3, none⟩ = some y3 ∧ W.cell? ⟨w.heap.size + 1, 4, none⟩ = some y4)
    ∧ ∀ i, W.frozen? ⟨w.heap.size + 1, i, none⟩ = false :=
  ⟨⟨h.r.cell 0, h.r.cell 1, h.r.cell 2, h.r.cell 3, h.r.cell 4⟩, fun i => h.r.fz i⟩
end Go.Proofs.Ytdhfbblameiloaa

/-
  An append to a row of the call's own, of a slice that may be nil; variables of the model's copy.
-/
namespace Go.Proofs.Ytdhfbblameiloaa
open Go.RowKit
set_option maxRecDepth 4000

theorem wp_append_opt {w : World} {o : Oper} {a : Act} {K : Act → World → Prop} {Q : Exit → Act → World → Prop} (s x : Operand) (t : TypeId)
    (ho : o.op = .call { callee := .builtin .append, args := #[s, x], argTypes := #[t, t] })
    (base : Nat) (e : TypeId) (i : TypeInfo) (z : Value) (size bytes : Nat) (ht : Try.prog.underlying t = some (.slice e)) (hi : Try.prog.info? e = some i) (hz : i.zero = some z)
    (hsize : i.size = size) (hby : i.bytes = bytes) (hzs : z.cells.size = size) (hsz : 0 < size)
    (v : Value) (n : Nat) (xs : List Value) (hs : a.eval s = v) (hown : w.ownsRow base e size v n xs)
    (ao : Option Addr) (m c : Nat) (news : List Value) (hx : a.eval x = .slice ao m c) (hno : ao = none → m = 0 ∧ c = 0) (hl : news.length = m * size) (hnews : ∀ ad, ao = some ad → ∀ j u, news[j]? = some u → w.cell? (ad.add j) = some u) (h1 : ∀ u ∈ news, u.oneCell' = true)
    (h63 : n + m ≤ maxLen) (hbytes : (n + m) * bytes ≤ 140737488355328) (hbase : base ≤ w.heap.size)
    (h : ∀ v' w', w'.ownsRow base e size v' (n + m) (xs ++ news) → w.grownBy w' v.ownBlock → K (a.put o.dst v') w') : o.wp Try.prog a w K Q := by
  cases ao with
  | some ad => exact wp_append_own w s x t ho base e i z size bytes ht hi hz hsize hby hzs hsz v n xs hs hown ad m c news hx hl (hnews ad rfl) h1 h63 hbytes hbase (fun v' w' h2 h3 _ => h v' w' h2 h3)
  | none =>
    obtain ⟨rfl, rfl⟩ := hno rfl
    have hn : news = [] := List.eq_nil_of_length_eq_zero (by simpa using hl)
    subst hn
    have hrun := run_append_owned_none (P := Try.prog) (w := w) base t o.type e i size ht hi v n xs hown
    have hk := h v w (by simpa using hown) ⟨rfl, rfl, rfl, Nat.le_refl _, fun _ _ _ => rfl⟩
    unfold Oper.wp
    simp [execOp, ho, resolve, invoke, builtin, hs, hx, hrun, Result.andThen]
    exact hk

theorem wpList_append_opt {w : World} {ops : Array Oper} {rest : List Oper} {o : Oper} {a : Act} {Q : Exit → Act → World → Prop} (hgd : o.guard = none) (s x : Operand) (t : TypeId)
    (ho : o.op = .call { callee := .builtin .append, args := #[s, x], argTypes := #[t, t] })
    (base : Nat) (e : TypeId) (i : TypeInfo) (z : Value) (size bytes : Nat) (ht : Try.prog.underlying t = some (.slice e)) (hi : Try.prog.info? e = some i) (hz : i.zero = some z)
    (hsize : i.size = size) (hby : i.bytes = bytes) (hzs : z.cells.size = size) (hsz : 0 < size)
    (v : Value) (n : Nat) (xs : List Value) (hs : a.eval s = v) (hown : w.ownsRow base e size v n xs)
    (ao : Option Addr) (m c : Nat) (news : List Value) (hx : a.eval x = .slice ao m c) (hno : ao = none → m = 0 ∧ c = 0) (hl : news.length = m * size) (hnews : ∀ ad, ao = some ad → ∀ j u, news[j]? = some u → w.cell? (ad.add j) = some u) (h1 : ∀ u ∈ news, u.oneCell' = true)
    (h63 : n + m ≤ maxLen) (hbytes : (n + m) * bytes ≤ 140737488355328) (hbase : base ≤ w.heap.size)
    (h : ∀ v' w', w'.ownsRow base e size v' (n + m) (xs ++ news) → w.grownBy w' v.ownBlock → wpList Try.prog ops Q rest (a.put o.dst v') w') : wpList Try.prog ops Q (o :: rest) a w :=
  wpList_plain hgd fun _ hK => wp_append_opt s x t ho base e i z size bytes ht hi hz hsize hby hzs hsz v n xs hs hown ao m c news hx hno hl hnews h1 h63 hbytes hbase fun v' w' h2 h3 => hK _ _ (h v' w' h2 h3)

/-- Variables of disks: what came in, the answer, the new one, which lies somewhere. -/
structure TS (w W : World) (X : Nat) (xs zs ys : List Value) : Prop where
  below : Below w.heap.size w W
  a : VN W w.heap.size 32 xs
  r : VN W (w.heap.size + 1) 32 zs
  o : VN W X 32 ys
  ge : w.heap.size + 1 < X
theorem TS.on {w W W' : World} {X : Nat} {xs zs ys : List Value} (h : TS w W X xs zs ys) (hb : Below W.heap.size W W') : TS w W' X xs zs ys :=
  ⟨h.below.trans (hb.mono h.below.size), h.a.below hb, h.r.below hb, h.o.below hb, h.ge⟩
theorem TS.grow {w W W' : World} {X T : Nat} {xs zs ys : List Value} {row : Option Nat} (h : TS w W X xs zs ys) (hg : W.grownBy W' row) (hr : ∀ k, row = some k → w.heap.size ≤ k) (hk : KeepT (fun t => t = T) W W') (hT : 32 ≠ T) : TS w W' X xs zs ys :=
  ⟨h.below.grown hg h.below.size hr, h.a.block (hk _ _ _ _ h.a hT), h.r.block (hk _ _ _ _ h.r hT), h.o.block (hk _ _ _ _ h.o hT), h.ge⟩
theorem TS.set {w W : World} {X : Nat} {xs zs ys : List Value} (h : TS w W X xs zs ys) (i : Nat) (u : Value) : TS w (W.setCell ⟨X, i, none⟩ u) X xs zs (ys.set i u) :=
  have hge := h.ge
  ⟨h.below.setCell (p := ⟨X, i, none⟩) (by simp; omega) _, h.a.other (by omega), h.r.other (by omega), h.o.set i u, h.ge⟩
theorem TS.ret {w W : World} {X : Nat} {xs zs ys : List Value} (h : TS w W X xs zs ys) (i : Nat) (u : Value) : TS w (W.setCell ⟨w.heap.size + 1, i, none⟩ u) X xs (zs.set i u) ys :=
  have hge := h.ge
  ⟨h.below.setCell (p := ⟨w.heap.size + 1, i, none⟩) (by simp) _, h.a.other (by omega), h.r.set i u, h.o.other (by omega), h.ge⟩
theorem keep_vn {P : TypeId → Prop} {W : World} {X T i : Nat} {ys : List Value} {u : Value} (h : VN W X T ys) (hP : P T) : KeepT P W (W.setCell ⟨X, i, none⟩ u) := by
  intro b c t z hb ht
  refine Below.heap_setCell _ _ _ _ (fun e => ?_)
  have e' : b = X := e
  unfold VN at h
  rw [e', h] at hb
  cases hb
  exact ht hP
theorem TS.cells {w W : World} {X : Nat} {x0 x1 x2 x3 x4 : Value} {zs : List Value} {y0 y1 y2 y3 y4 : Value} (h : TS w W X [x0, x1, x2, x3, x4] zs [y0, y1, y2, y3, y4]) :
    (W.cell? ⟨w.heap.size, 0, none⟩ = some x0 ∧ W.cell? ⟨w.heap.size, 1, none⟩ = some x1 ∧ W.cell? ⟨w.heap.size, 2, none⟩ = some x2 ∧ W.cell? ⟨w.heap.size, 3, none⟩ = some x3 ∧ W.cell? ⟨w.heap.size, 4, none⟩ = some x4)
    ∧ (W.cell? ⟨X, 0, none⟩ = some y0 ∧ W.cell? ⟨X, 1, none⟩ = some y1 ∧ W.cell? ⟨X, 2, none⟩ = some y2 ∧ W.cell? ⟨X, 3, none⟩ = some y3 ∧ W.cell? ⟨X, 4, none⟩ = some y4)
    ∧ ∀ i, W.frozen? ⟨X, i, none⟩ = false :=
  ⟨⟨h.a.cell 0, h.a.cell 1, h.a.cell 2, h.a.cell 3, h.a.cell 4⟩, ⟨h.o.cell 0, h.o.cell 1, h.o.cell 2, h.o.cell 3, h.o.cell 4⟩, fun i => h.o.fz i⟩
theorem TS.rcells {w W : World} {X : Nat} {xs : List Value} {y0 y1 y2 y3 y4 : Value} {ys : List Value} (h : TS w W X xs [y0, y1, y2, y3, y4] ys) :
    (W.cell? ⟨w.heap.size + 1, 0, none⟩ = some y0 ∧ W.cell? ⟨w.heap.size + 1, 1, none⟩ = some y1 ∧ W.cell? ⟨w.heap.size + 1, 2, none⟩ = some y2 ∧ W.cell? ⟨w.heap.size + 1, 3, none⟩ = some y3 ∧ W.cell? ⟨w.heap.size + 1, 4, none⟩ = some y4)
    ∧ ∀ i, W.frozen? ⟨w.heap.size + 1, i, none⟩ = false :=
  ⟨⟨h.r.cell 0, h.r.cell 1, h.r.cell 2, h.r.cell 3, h.r.cell 4⟩, fun i => h.r.fz i⟩
/-- The cells of faults, and of bytes, that read. -/
theorem fview_news {W : World} {a : Option Addr} {cap : Nat} {l : List PFault} (h : FView W a cap l) : ∀ ad, a = some ad → ∀ j u, (fcells l)[j]? = some u → W.cell? (ad.add j) = some u := by
  intro ad ea j u hj
  subst ea
  have hlen : j < l.length * 3 := by rw [← fcells_len]; exact (List.getElem?_eq_some_iff.1 hj).1
  obtain ⟨b, off, e, hlt, hc⟩ := h.cells (by omega)
  cases e
  have ea : (⟨b, off, none⟩ : Addr).add j = ⟨b, off + j, none⟩ := by unfold Addr.add; split <;> simp_all
  rw [ea]
  have hq : j = j / 3 * 3 + j % 3 := by omega
  have hi3 : j / 3 < l.length := by omega
  obtain ⟨us, rfl, hus⟩ := hc (j / 3) l[j / 3] (List.getElem?_eq_getElem hi3)
  have h1 := fcells_at (l := l) (j / 3) (j % 3) (by omega)
  rw [← hq, hj, List.getElem?_eq_getElem hi3] at h1
  have h2 := hus (j % 3) u h1.symm
  have e3 : off + j / 3 * 3 + j % 3 = off + j := by omega
  rw [e3] at h2
  exact h2
theorem fcells_one (l : List PFault) : ∀ u ∈ fcells l, u.oneCell' = true := by
  intro u hu
  simp only [fcells, List.mem_flatMap] at hu
  obtain ⟨x, -, hx⟩ := hu
  simp [fEl] at hx
  rcases hx with rfl | rfl | rfl <;> rfl
theorem view_news {W : World} {a : Option Addr} {c : Nat} {l : List Int} (h : View W a l.length c (bf l)) : ∀ ad, a = some ad → ∀ j u, (bl l)[j]? = some u → W.cell? (ad.add j) = some u := by
  intro ad ea j u hj
  have := cells_of_any h ad ea j u
  rw [lof_bf] at this
  exact this hj
/-- Bytes put into a new row by an append: the row, by itself. -/
theorem ob_own_any {w : World} {B n : Nat} {v : Value} {l : List Int} (h : w.ownsRow B 5 1 v n (bl l)) (hn : n = l.length) (hb : ∀ x ∈ l, 0 ≤ x ∧ x ≤ 255) : OB w B v l := by
  subst hn
  obtain ⟨a, cap, rfl, h1, h2, h3⟩ := own_rl h
  refine ⟨a, cap, rfl, h1, h2, hb, ?_⟩
  rcases h3 with h3 | ⟨g, cur, rfl, hB, hg, hc⟩
  · left
    simpa [bl] using h3
  · refine .inr ⟨g, rfl, hB, cur, hg, ?_, fun i hi => hc i _ (by simp [bl, bf, hi])⟩
    rcases h.2 with ⟨e, _⟩ | ⟨g', cap', cur', e, _, hg', hnc, _, hcs, _⟩
    · cases e
    · cases e
      rw [hg] at hg'; cases hg'
      omega
end Go.Proofs.Ytdhfbblameiloaa

