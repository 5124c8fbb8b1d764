/-
  The laws' markWriteS, markFaultS, markDisk and what finds the marks, walked.
-/
import Derived.Test.YtagjgnephaaehaaDiskMark2
import Derived.Test.YtagjgnephaaehaaDiskCopy3
namespace Go.Proofs.Ytagjgnephaaehaa
open Go.RowKit
set_option maxRecDepth 4000

/-- Rows of types without P are as they were. -/
def KeepT (P : TypeId → Prop) (w w' : World) : Prop := ∀ (b : Nat) (c : Array Value) (t : TypeId) (z : Nat × Nat), w.heap[b]? = some (Obj.cells c t z) → ¬ P t → w'.heap[b]? = w.heap[b]?
theorem KeepT.refl (P : TypeId → Prop) (w : World) : KeepT P w w := fun _ _ _ _ _ _ => rfl
theorem KeepT.trans {P : TypeId → Prop} {a b c : World} (h : KeepT P a b) (k : KeepT P b c) : KeepT P a c := fun i x t z h1 h2 => (k i x t z ((h i x t z h1 h2).trans h1) h2).trans (h i x t z h1 h2)
theorem KeepT.of8 {P : TypeId → Prop} {a b : World} (h : Keep8 a b) (hP : P 5) : KeepT P a b := fun i x t z h1 h2 => h i x t z h1 (fun e => h2 (by rw [e]; exact hP))
theorem KeepT.set {P : TypeId → Prop} {T : TypeId} {w : World} {B g i : Nat} {xs : List Value} {u : Value} (h : RL T w B (some ⟨g, 0, none⟩) xs) (hx : 0 < xs.length) (hP : P T) : KeepT P w (w.setCell ⟨g, i, none⟩ u) := by
  intro b c t z hb ht
  refine Below.heap_setCell _ _ _ _ (fun e => ?_)
  rcases h with h | ⟨g', cur, ea, hb', hg, hc⟩
  · subst h; simp at hx
  · cases ea
    have e' : b = g := e
    rw [e', hg] at hb
    cases hb
    exact ht hP
theorem RL.keepT {P : TypeId → Prop} {T : TypeId} {w w' : World} {B : Nat} {a : Option Addr} {xs : List Value} (h : RL T w B a xs) (ho : KeepT P w w') (hT : ¬ P T) : RL T w' B a xs := by
  rcases h with h | ⟨g, cur, ea, hb, hg, hc⟩
  · exact .inl h
  · exact .inr ⟨g, cur, ea, hb, (ho g _ _ _ hg hT).trans hg, hc⟩
theorem Bs.keepT {P : TypeId → Prop} {w w' : World} {B : Nat} {vs : List Value} {ls : List (List Int)} (h : Bs w B vs ls) (ho : KeepT P w w') (hs : w.heap.size ≤ w'.heap.size) (hT : ¬ P 5) : Bs w' B vs ls := by
  refine ⟨h.len, fun q v l h1 h2 => ?_, fun v hv q hq => ?_, h.apt⟩
  · obtain ⟨a, c, rfl, k1, k2, k3, k4⟩ := (h.ob q v l h1 h2).is
    refine ⟨a, c, rfl, k1, k2, k3, ?_⟩
    rcases k4 with k4 | ⟨g1, rfl, hb, hr⟩
    · exact .inl k4
    · obtain ⟨c0, hb0, hn0, hc0⟩ := hr
      exact .inr ⟨g1, rfl, hb, c0, (ho g1 _ _ _ hb0 hT).trans hb0, hn0, hc0⟩
  · have := h.lt v hv q hq
    exact ⟨this.1, by omega⟩
theorem wcells_at {l : List (Int × List Int)} {cs : List Value} (i j : Nat) (hj : j < 2) : (wcells l cs)[i * 2 + j]? = (((l.map (·.1)).zip cs)[i]?).bind (fun x => (wEl x)[j]?) := flat_get wEl 2 (fun _ => rfl) _ i j hj
theorem wcells_set {l : List (Int × List Int)} {cs : List Value} (h : cs.length = l.length) {j : Nat} (hj : j < l.length) (x : Int) (y : List Int) : (wcells l cs).set (j * 2) (.int .i64 x) = wcells (l.set j (x, y)) cs := by
  have hw := wcells_len h
  refine List.ext_getElem? (fun q => ?_)
  rw [List.getElem?_set]
  have hz : ∀ i, j ≠ i → ((l.set j (x, y)).map (·.1)).zip cs = ((l.map (·.1)).set j x).zip cs := by intro i _; rw [List.map_set]
  have hq : q = q / 2 * 2 + q % 2 := by omega
  have hm : q % 2 < 2 := by omega
  by_cases e : j * 2 = q
  · rw [if_pos e, if_pos (by omega)]
    have e2 : q / 2 = j := by omega
    have e3 : q % 2 = 0 := by omega
    rw [hq, wcells_at _ _ hm, e2, e3]
    have : ((List.map (fun x => x.1) (l.set j (x, y))).zip cs)[j]? = some (x, cs[j]) := by
      simp [hj, h]
    rw [this]
    rfl
  · rw [if_neg e]
    rw [hq, wcells_at _ _ hm, wcells_at _ _ hm]
    by_cases e2 : q / 2 = j
    · have e3 : q % 2 = 1 := by omega
      rw [e2, e3]
      have a1 : ((List.map (fun x => x.1) (l.set j (x, y))).zip cs)[j]? = some (x, cs[j]) := by
        simp [hj, h]
      have a2 : ((List.map (fun x => x.1) l).zip cs)[j]? = some ((l[j]).1, cs[j]) := by
        simp [hj, h]
      rw [a1, a2]
      rfl
    · congr 1
      by_cases hi : q / 2 < l.length
      · simp [hi, h, Ne.symm e2]
      · rw [List.getElem?_eq_none (by simp [h]; omega), List.getElem?_eq_none (by simp [h]; omega)]

set_option maxHeartbeats 4000000 in
theorem markWriteS_any (a : Option Addr) (cap B H : Nat) (ss cs : List Value) (ms : List (List Int)) (l : List (Int × List Int)) (k : Int) (w : World) (hR : RL 52 w B a (wcells l cs)) (hB : Bs w B (ss ++ cs) (ms ++ l.map (·.2))) (hl : cs.length = l.length) (hss : ss.length = ms.length) (hH : ∀ v, v ∈ cs → ∀ g, v.ownBlock = some g → g < H) (hA : 0 < l.length → ∀ g, a = some ⟨g, 0, none⟩ → g < H) (hn : l.length ≤ 1048576) (hk : 0 ≤ k) (hk1 : k + szC l ≤ 4611686018427387904) :
    Calls Try.prog 29 #[.slice a l.length cap, .int .i64 k] w fun e w' => e = .returned (.int .i64 (k + szC l)) ∧ RL 52 w' B a (wcells (l.mapIdx (fC k l)) cs) ∧ Bs w' B (ss ++ cs) (ms ++ (l.mapIdx (fC k l)).map (·.2)) ∧ Out B H w w' ∧ w'.heap.size = w.heap.size ∧ KeepT (fun t => t = 5 ∨ t = 52) w w' := by
  go_enter Try.func29, Try.ntmps29
  go_wp2
  go_loopg [1, 5] l.length (fun q s i wr => ∃ j : Nat, j ≤ l.length ∧ q = l.length - j ∧ s = .int .i64 (k + szC (l.take j)) ∧ i = .int .i64 j ∧ RL 52 wr B a (wcells (upto (fC k l) l j) cs) ∧ Bs wr B (ss ++ cs) (ms ++ (upto (fC k l) l j).map (·.2)) ∧ Out B H w wr ∧ wr.heap.size = w.heap.size ∧ KeepT (fun t => t = 5 ∨ t = 52) w wr)
  case atStart => exact ⟨0, Nat.zero_le _, rfl, by simp [szC], rfl, by rw [upto_zero]; exact hR, by rw [upto_zero]; exact hB, Out.refl _ _ _, rfl, KeepT.refl _ _⟩
  case round =>
    clear hB hR
    obtain ⟨j, hj, rfl, rfl, rfl, hR, hB, hO, hsz, ho⟩ := hrel
    by_cases hlt : j < l.length
    · have hjz : (j : Int) < (l.length : Int) := by omega
      have hul := upto_len (fC k l) l j
      have hwl := wcells_len (l := upto (fC k l) l j) (cs := cs) (by omega)
      obtain ⟨g, rfl, hg0, hg1, hgc⟩ := hR.cell (by omega)
      have hgH := hA (by omega) g rfl
      have hv := List.getElem?_eq_getElem (l := cs) (i := j) (by omega)
      have hu : (upto (fC k l) l j)[j]? = some l[j] := by rw [upto_get, List.getElem?_eq_getElem hlt]; simp
      obtain ⟨w0, w1⟩ := wcells_get hu hv
      have c0 := hgc _ _ w0
      have c1 := hgc _ _ w1
      have q0 := hR.cellFz (by omega) (j * 2)
      obtain ⟨N, hN⟩ := hidEx (k + (szC (l.take j) : Int))
      obtain ⟨m, hm⟩ := hidEx (upto (fC k l) l j)
      rw [hm.out] at hul hwl hR hB hu hgc
      -- the number
      have R1 := hR.set (j * 2) (.int .i64 N) (by omega)
      rw [wcells_set (by omega) (by omega) N (l[j]).2] at R1
      have B1 : Bs (wr.setCell ⟨g, j * 2, none⟩ (.int .i64 N)) B (ss ++ cs) (ms ++ m.map (·.2)) := hB.other (i := j * 2) (u := .int .i64 N) hR (by omega) (by decide)
      have O1 : Out B H w (wr.setCell ⟨g, j * 2, none⟩ (.int .i64 N)) := hO.trans (Out.set ⟨hg0, hgH⟩)
      have K1 : KeepT (fun t => t = 5 ∨ t = 52) w (wr.setCell ⟨g, j * 2, none⟩ (.int .i64 N)) := ho.trans (KeepT.set hR (by omega) (.inr rfl))
      have S1 : (wr.setCell ⟨g, j * 2, none⟩ (.int .i64 N)).heap.size = w.heap.size := by simpa using hsz
      obtain ⟨W1, hW1⟩ := hidEx (wr.setCell ⟨g, j * 2, none⟩ (.int .i64 N))
      rw [hW1.out] at R1 B1 O1 K1 S1
      have hvs : (ss ++ cs)[ms.length + j]? = some cs[j] := by rw [← hss, List.getElem?_append_right (by omega), Nat.add_sub_cancel_left]; exact hv
      have hls : (ms ++ m.map (·.2))[ms.length + j]? = some (l[j]).2 := by rw [List.getElem?_append_right (by omega), Nat.add_sub_cancel_left]; simp [hu]
      have hOB := B1.ob _ _ _ hvs hls
      have hst := szC_take hlt
      have hsl := szC_le l (j + 1)
      have hNe := hN.out
      have hV := markOB hOB (N + 1) (by omega) (by omega)
      have d1 : W1.cell? ⟨g, j * 2 + 1, none⟩ = some cs[j] := by
        obtain ⟨g', e', -, -, hgc'⟩ := R1.cell (by rw [wcells_len (by simp; omega)]; simp; omega)
        cases e'
        have hu2 : (m.set j (N, (l[j]).2))[j]? = some (N, (l[j]).2) := by simp [show j < m.length by omega]
        exact hgc' _ _ (wcells_get hu2 hv).2
      have HS : Hid (m.set j (N, mkB (N + 1) (l[j]).2.length) = upto (fC k l) l (j + 1)) := by
        show _ = _
        rw [← hm.out, ← upto_set _ _ _ hlt, ← hN.out]
        rfl
      have HK : Hid (N + 1 + (l[j]).2.length = k + szC (l.take (j + 1))) := by
        show _ = _
        rw [hst, ← hNe]; omega
      have HH : Hid (∀ g, cs[j].ownBlock = some g → B ≤ g ∧ g < H) := fun g e => ⟨(B1.lt _ (List.mem_of_getElem? hvs) g e).1, hH _ (List.mem_of_getElem? hv) g e⟩
      have HB : Hid (RL 52 W1 B (some ⟨g, 0, none⟩) (wcells (m.set j (N, (l[j]).2)) cs) ∧ Bs W1 B (ss ++ cs) (ms ++ m.map (·.2)) ∧ Out B H w W1 ∧ KeepT (fun t => t = 5 ∨ t = 52) w W1 ∧ (ss ++ cs)[ms.length + j]? = some cs[j]) := ⟨R1, B1, O1, K1, hvs⟩
      have HW : Hid (wcells (m.set j (N, (l[j]).2)) cs = wcells (m.set j (N, mkB (N + 1) (l[j]).2.length)) cs) := by
        show _ = _
        rw [← wcells_set (by omega) (by omega), ← wcells_set (by omega) (by omega)]
      have HX : Hid ((ms ++ m.map (·.2)).set (ms.length + j) (mkB (N + 1) (l[j]).2.length) = ms ++ (m.set j (N, mkB (N + 1) (l[j]).2.length)).map (·.2)) := by
        show _ = _
        rw [List.set_append_right _ _ (by omega), Nat.add_sub_cancel_left, List.map_set]
      have hw1 : IntKind.i64.wrap (N + 1) = N + 1 := by rw [IntKind.wrap_i64]; omega
      clear hB hO ho hvs hls hOB hst hsl hR hgc hv R1 B1 O1 K1 w0 w1 hu
      obtain ⟨k2, hk2⟩ := hidEx (k + (szC (l.take (j + 1)) : Int))
      obtain ⟨n0, hn0⟩ := hidEx (l[j]).2.length
      obtain ⟨v0, hv0⟩ := hidEx cs[j]
      obtain ⟨n1, hn1⟩ := hidEx (l[j]).1
      rw [hn1.out] at c0
      rw [hv0.out] at c1 hV HH HB d1
      rw [hn0.out] at hV HS HW HX
      rw [hn0.out, hk2.out] at HK
      rw [hN.out]
      go_wp2_with (rw [hW1.out])
      refine hV.mono ?_
      rintro e w2 ⟨rfl, hmm, hov⟩
      have HR : Hid (RL 52 w2 B (some ⟨g, 0, none⟩) (wcells (upto (fC k l) l (j + 1)) cs) ∧ Bs w2 B (ss ++ cs) (ms ++ (upto (fC k l) l (j + 1)).map (·.2)) ∧ Out B H w w2 ∧ w2.heap.size = w.heap.size ∧ KeepT (fun t => t = 5 ∨ t = 52) w w2) := by
        refine ⟨?_, ?_, HB.out.2.2.1.trans (Out.ofOnlyV hov HH.out), by rw [hov.size, S1], HB.out.2.2.2.1.trans (KeepT.of8 hov.keep (.inl rfl))⟩
        · rw [← HS.out, ← HW.out]
          exact HB.out.1.keep hov.keep (by decide)
        · rw [← HS.out, ← HX.out]
          exact HB.out.2.1.mark HB.out.2.2.2.2 hmm hov
      rw [HK.out]
      clear hV hmm hov HB HS HH HK HW HX d1 c0 c1 q0
      go_wp2
      go_roundg (l.length - (j + 1))
      case measure => omega
      case rel => exact ⟨j + 1, by omega, rfl, by rw [hk2.out], by go_num, HR.out⟩
    · obtain rfl : j = l.length := by omega
      have hjz : ¬ (l.length : Int) < (l.length : Int) := by omega
      rw [List.take_length]
      have HB : Hid (RL 52 wr B a (wcells (l.mapIdx (fC k l)) cs) ∧ Bs wr B (ss ++ cs) (ms ++ (l.mapIdx (fC k l)).map (·.2))) := by
        show _ ∧ _
        rw [← upto_all (fC k l) l l.length (Nat.le_refl _)]
        exact ⟨hR, hB⟩
      clear hB hR
      go_wp2
      go_ret
      exact ⟨rfl, HB.out.1, HB.out.2, hO, hsz, ho⟩
end Go.Proofs.Ytagjgnephaaehaa
