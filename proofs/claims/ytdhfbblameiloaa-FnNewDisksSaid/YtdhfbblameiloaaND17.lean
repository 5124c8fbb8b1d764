/-
  Together: ClearI, SettleI
-/
import Derived.Test.YtdhfbblameiloaaND7
import Derived.Lib.SliceRun
import Derived.Deep.Upon
import Derived.Test.YtdhfbblameiloaaND3
import Derived.Test.YtdhfbblameiloaaND10
import Derived.Deep.LoopGhost
import Derived.Deep.RegionHeld3
/-
  clear(l) of a row of writes: its cells alone have turned.
-/
namespace Go.Proofs.Ytdhfbblameiloaa
open Go.RowKit
set_option maxRecDepth 4000

theorem setCells_size (b : Nat) : ∀ (vs : List Value) (o : Nat) (w : World), (w.setCells b o vs).heap.size = w.heap.size
  | [], _, _ => rfl
  | v :: r, o, w => by
    show ((w.setCell ⟨b, o, none⟩ v).setCells b (o + 1) r).heap.size = _
    rw [setCells_size b r]
    simp
theorem setCells_io (b : Nat) : ∀ (vs : List Value) (o : Nat) (w : World), (w.setCells b o vs).os = w.os ∧ (w.setCells b o vs).tape = w.tape ∧ (w.setCells b o vs).output = w.output
  | [], _, _ => ⟨rfl, rfl, rfl⟩
  | v :: r, o, w => by
    show (((w.setCell ⟨b, o, none⟩ v).setCells b (o + 1) r).os = _ ∧ ((w.setCell ⟨b, o, none⟩ v).setCells b (o + 1) r).tape = _ ∧ ((w.setCell ⟨b, o, none⟩ v).setCells b (o + 1) r).output = _)
    exact setCells_io b r (o + 1) _
/-- What clearing may have turned: one block. -/
structure ClearTo (g : Nat) (w w' : World) : Prop where
  os : w'.os = w.os
  tape : w'.tape = w.tape
  output : w'.output = w.output
  size : w'.heap.size = w.heap.size
  block : ∀ k, k < w.heap.size → k ≠ g → w'.heap[k]? = w.heap[k]?
theorem run_clearW (ty : TypeId) (w : World) (B g n c : Nat) (xs : List Value) (h : RL 51 w B (some ⟨g, 0, none⟩) xs) (hl : xs.length = n * 2) (hn : 0 < n) :
    ∃ w', (Builtin.clear_ #[29] ty #[.slice (some ⟨g, 0, none⟩) n c]).run Try.prog w = .ok (.tuple #[]) w' ∧ ClearTo g w w' := by
  obtain ⟨g', ea, -, hlt, hc⟩ := h.cell (by omega)
  cases ea
  have hv : ∀ w, (zeroValue 51).run Try.prog w = .ok (.agg #[.int .i64 0, .slice none 0 0]) w := fun w => by kernel_rfl
  have hsz : (Builtin.zeroCells (Value.agg #[.int .i64 0, .slice none 0 0]).cells n).toList.length = n * 2 := by simp [Builtin.zeroCells, Value.cells]
  have hst := run_storeCells_cells (P := Try.prog) g 0 (Builtin.zeroCells (Value.agg #[.int .i64 0, .slice none 0 0]).cells n).toList 0 w
    (fun j hj => by rw [hsz] at hj; have e0 : 0 + 0 + j = j := (by omega); rw [e0, hc j xs[j] (List.getElem?_eq_getElem (by omega))]; rfl)
    (fun j _ => h.cellFz (by omega) _)
    (fun v hv' => by
      simp [Builtin.zeroCells, Value.cells] at hv'
      obtain ⟨i, hi, rfl⟩ := hv'
      have h2 : i % 2 = 0 ∨ i % 2 = 1 := by omega
      rcases h2 with h2 | h2 <;> simp [h2] <;> rfl)
  refine ⟨w.setCells g 0 (Builtin.zeroCells (Value.agg #[.int .i64 0, .slice none 0 0]).cells n).toList, ?_, ?_⟩
  · obtain ⟨m, rfl⟩ : ∃ m, n = m + 1 := ⟨n - 1, by omega⟩
    simp only [Nat.add_zero] at hst
    have ht : Try.prog.underlying 29 = some (.slice 51) := Try.underlying29
    simp [Builtin.clear_, run_underlying ht, hv, hst]
  · obtain ⟨h1, h2, h3⟩ := setCells_io g (Builtin.zeroCells (Value.agg #[.int .i64 0, .slice none 0 0]).cells n).toList 0 w
    exact ⟨h1, h2, h3, setCells_size g _ 0 w, fun k hk hne => World.heap_setCells_other w g 0 _ hk hne⟩
theorem run_clear0 (ty : TypeId) (w : World) (a : Option Addr) (c : Nat) : (Builtin.clear_ #[29] ty #[.slice a 0 c]).run Try.prog w = .ok (.tuple #[]) w := by
  have ht : Try.prog.underlying 29 = some (.slice 51) := Try.underlying29
  cases a <;> simp [Builtin.clear_, run_underlying ht]
end Go.Proofs.Ytdhfbblameiloaa

/-
  The program's settle.
-/
namespace Go.Proofs.Ytdhfbblameiloaa
open Go.RowKit
set_option maxRecDepth 4000

theorem ButX.keepR {g B : Nat} {T : TypeId} {w w' : World} {xs : List Value} (h : ButX g w w') (hr : RL T w B (some ⟨g, 0, none⟩) xs) (hx : 0 < xs.length) : KeepT (fun t => t = T) w w' := by
  intro b c t z hb ht
  refine h.block b (Array.getElem?_eq_some_iff.1 hb).1 (fun e => ?_)
  rcases hr with hr | ⟨g', cur, ea, hb', hg, hc⟩
  · subst hr; simp at hx
  · cases ea
    rw [e, hg] at hb
    cases hb
    exact ht rfl
theorem rl_ne {T T' : TypeId} {w : World} {B g X : Nat} {xs ys : List Value} (hr : RL T w B (some ⟨g, 0, none⟩) xs) (hx : 0 < xs.length) (hX : VN w X T' ys) (hT : T' ≠ T) : X ≠ g := by
  intro e
  rcases hr with hr | ⟨g', cur, ea, hb', hg, hc⟩
  · subst hr; simp at hx
  · cases ea
    unfold VN at hX
    rw [e, hg] at hX
    cases hX
    exact hT rfl
/-- What settle comes to: the sectors' row, and the cache's variable. -/
structure SettleTo (w : World) (B X gs ns sc : Nat) (ca : Option Addr) (o f b : Value) (rows : List Value) (w' : World) : Prop where
  x : VN w' X 32 [.slice (some ⟨gs, 0, none⟩) ns sc, .slice ca 0 0, o, f, b]
  secs : RL 27 w' B (some ⟨gs, 0, none⟩) rows
  size : w.heap.size ≤ w'.heap.size
  io : w'.os = w.os ∧ w'.tape = w.tape ∧ w'.output = w.output
  keep : ∀ k, k < w.heap.size → k ≠ X → k ≠ gs → (∀ c z, w.heap[k]? ≠ some (Obj.cells c 51 z)) → w'.heap[k]? = w.heap[k]?
  low : ∀ k, k < w.heap.size → k < B → k ≠ X → w'.heap[k]? = w.heap[k]?

set_option maxHeartbeats 8000000 in
theorem settle_any (B X gs ns sc : Nat) (ca : Option Addr) (nc cc : Nat) (o f b : Value) (ss us xs : List Value) (la : Option Addr) (lc : Nat) (L : List (Int × List Int)) (w : World) (hX : VN w X 32 [.slice (some ⟨gs, 0, none⟩) ns sc, .slice ca nc cc, o, f, b]) (hS : RL 27 w B (some ⟨gs, 0, none⟩) ss) (hss : ss.length = ns) (hns : 0 < ns) (hL : RL 51 w B la (wcells L us)) (hus : us.length = L.length) (hC : RL 51 w B ca xs) (hxs : xs.length = nc * 2) (hnc : ca = none → nc = 0) (hu : ∀ (i : Nat) v, us[i]? = some v → ∃ a n c, v = .slice a n c) (hN : ∀ i (h : i < L.length), 0 ≤ (L[i]).1 ∧ (L[i]).1 < ns) (hl : L.length ≤ 1048576) (hnl : nc ≤ 1048576) (hnsl : ns ≤ 1048576) :
    Calls Try.prog 88 #[.pointer (some ⟨X, 0, none⟩), .slice la L.length lc] w fun e w' => e = .returned (.tuple #[]) ∧ SettleTo w B X gs ns sc ca o f b (settleL ss ((L.map (·.1)).zip us)) w' := by
  have hXg := rl_ne hS (by omega) hX (by decide)
  have hXlt := hX.lt
  have HL : Hid (RL 51 w B la (wcells L us) ∧ RL 51 w B ca xs ∧ RL 27 w B (some ⟨gs, 0, none⟩) ss) := ⟨hL, hC, hS⟩
  have HU : Hid (∀ (i : Nat) v, us[i]? = some v → ∃ a n c, v = .slice a n c) := hu
  have HNN : Hid (∀ i (h : i < L.length), 0 ≤ (L[i]).1 ∧ (L[i]).1 < ns) := hN
  clear hL hC hu hN
  go_enter Try.func88, Try.ntmps88
  go_wp2
  go_loopg [8] L.length (fun q i wr => ∃ k : Nat, k ≤ L.length ∧ q = L.length - k ∧ i = .int .i64 k ∧ RL 27 wr B (some ⟨gs, 0, none⟩) (settleL ss (((L.map (·.1)).zip us).take k)) ∧ ButX gs w wr ∧ VN wr X 32 [.slice (some ⟨gs, 0, none⟩) ns sc, .slice ca nc cc, o, f, b])
  case atStart => exact ⟨0, Nat.zero_le _, rfl, rfl, by simpa [settleL] using hS, ButX.refl _ _, hX⟩
  case round =>
    clear hX hS
    obtain ⟨k, hk, rfl, rfl, hS, hB, hX⟩ := hrel
    by_cases hlt : k < L.length
    · have hkz : (k : Int) < (L.length : Int) := by omega
      have hLr := HL.out.1.keepT (hB.keepR HL.out.2.2 (by omega)) (by decide)
      have hwl := wcells_len hus
      obtain ⟨gl, el, -, hgl, hcl⟩ := hLr.cell (by omega)
      subst el
      have hv := List.getElem?_eq_getElem (l := us) (i := k) (by omega)
      obtain ⟨w0, w1⟩ := wcells_get (List.getElem?_eq_getElem hlt) hv
      have x0 := hcl _ _ w0
      have x1 := hcl _ _ w1
      obtain ⟨ua, un, uc, eu⟩ := HU.out k _ hv
      obtain ⟨hN0, hN1⟩ := HNN.out k hlt
      obtain ⟨m, hm⟩ : ∃ m : Nat, (L[k]).1 = m := ⟨(L[k]).1.toNat, by omega⟩
      have HSET : Hid (settleL ss (((L.map (·.1)).zip us).take (k + 1)) = (settleL ss (((L.map (·.1)).zip us).take k)).set m (.slice ua un uc)) := by
        show _ = _
        have hzl : k < ((L.map (·.1)).zip us).length := by simp; omega
        rw [settleL_one hzl]
        simp [hm, eu]
      rw [hm] at x0
      rw [eu] at x1
      have hmn : m < ns := by omega
      have hmz : (m : Int) < (ns : Int) := by omega
      clear hLr hcl w0 w1 hv hN0 hN1
      have hbA : Below wr.heap.size wr (wr.alloc (.cells #[.int .i64 (m : Int), .slice ua un uc] 51)) := (Below.refl _ _).alloc (Nat.le_refl _) _
      have hglt : gs < wr.heap.size := by
        obtain ⟨g9, e9, -, h9, -⟩ := hS.cell (by rw [settleL_len]; omega)
        cases e9; exact h9
      have HNE : Hid (X ≠ gs ∧ wr.heap.size ≠ gs) := ⟨hXg, by omega⟩
      have hbx0 := VN.new wr 51 [.int .i64 (m : Int), .slice ua un uc]
      have hbx : VN (wr.alloc (.cells #[.int .i64 (m : Int), .slice ua un uc] 51)).drew wr.heap.size 51 [.int .i64 (m : Int), .slice ua un uc] := hbx0.block rfl
      have hX2 := hX.below hbA.drew
      have hS2 := hS.up (Up.ofBelow hbA.drew)
      have hB2 := hB.on hbA.drew
      clear hX hS hB hbA hbx0
      go_wp2_with fail
      refine wp_region_held_drew (S := fun W => W.cell? ⟨X, 0, none⟩ = some (.slice (some ⟨gs, 0, none⟩) ns sc) ∧ W.cell? ⟨wr.heap.size, 0, none⟩ = some (.int .i64 (m : Int)) ∧ W.cell? ⟨wr.heap.size, 1, none⟩ = some (.slice ua un uc)) (by kernel_rfl) ⟨hX2.cell 0, hbx.cell 0, hbx.cell 1⟩ (fun hHeld => ?_)
      obtain ⟨wd, hwd⟩ := hidEx (wr.alloc (.cells #[.int .i64 (m : Int), .slice ua un uc] 51)).drew
      rw [hwd.out] at hX2 hS2 hB2 hbx hHeld ⊢
      refine' wpAnyH_take (i := 0) (v := _) rfl (by kernel_rfl) (by kernel_rfl) (by kernel_rfl) (fun _ _ _ h => h) (Or.inl ⟨by kernel_rfl, ?hse1⟩) (by assumption) ?rse1
      case hse1 => intro W hW; obtain ⟨c0, c1, c2⟩ := hW; go_simp; all_goals with_reducible rfl
      change wpAnyH _ _ _ _ _ _ _ (Act.put _ (some 12) _) _
      simp only [Act.put, List.setIfInBounds_toArray, List.set_cons_zero, List.set_cons_succ]
      refine' wpAnyH_take (i := 1) (v := _) rfl (by kernel_rfl) (by kernel_rfl) (by kernel_rfl) (fun _ _ _ h => h) (Or.inl ⟨by kernel_rfl, ?hse2⟩) (by assumption) ?rse2
      case hse2 => intro W hW; obtain ⟨c0, c1, c2⟩ := hW; go_simp; all_goals with_reducible rfl
      change wpAnyH _ _ _ _ _ _ _ (Act.put _ (some 13) _) _
      simp only [Act.put, List.setIfInBounds_toArray, List.set_cons_zero, List.set_cons_succ]
      refine' wpAnyH_take (i := 2) (v := _) rfl (by kernel_rfl) (by kernel_rfl) (by kernel_rfl) (fun _ _ _ h => h) (Or.inl ⟨by kernel_rfl, ?hse3⟩) (by assumption) ?rse3
      case hse3 => intro W hW; obtain ⟨c0, c1, c2⟩ := hW; go_simp; all_goals with_reducible rfl
      change wpAnyH _ _ _ _ _ _ _ (Act.put _ (some 14) _) _
      simp only [Act.put, List.setIfInBounds_toArray, List.set_cons_zero, List.set_cons_succ]
      refine' wpAnyH_take (i := 3) (v := _) rfl (by kernel_rfl) (by kernel_rfl) (by kernel_rfl) (fun _ _ _ h => h) (Or.inl ⟨by kernel_rfl, ?hse4⟩) (by assumption) ?rse4
      case hse4 => intro W hW; obtain ⟨c0, c1, c2⟩ := hW; go_simp; all_goals with_reducible rfl
      change wpAnyH _ _ _ _ _ _ _ (Act.put _ (some 15) _) _
      simp only [Act.put, List.setIfInBounds_toArray, List.set_cons_zero, List.set_cons_succ]
      refine' wpAnyH_take (i := 4) (v := _) rfl (by kernel_rfl) (by kernel_rfl) (by kernel_rfl) (fun _ _ _ h => h) (Or.inl ⟨by kernel_rfl, ?hse5⟩) (by assumption) ?rse5
      case hse5 => intro W hW; obtain ⟨c0, c1, c2⟩ := hW; go_simp; all_goals with_reducible rfl
      change wpAnyH _ _ _ _ _ _ _ (Act.put _ (some 16) _) _
      simp only [Act.put, List.setIfInBounds_toArray, List.set_cons_zero, List.set_cons_succ]
      refine' wpAnyH_take (i := 5) (v := _) rfl (by kernel_rfl) (by kernel_rfl) (by kernel_rfl) (fun _ _ _ h => h) (Or.inl ⟨by kernel_rfl, ?hse6⟩) (by assumption) ?rse6
      case hse6 => intro W hW; obtain ⟨c0, c1, c2⟩ := hW; go_simp; all_goals with_reducible rfl
      change wpAnyH _ _ _ _ _ _ _ (Act.put _ (some 17) _) _
      simp only [Act.put, List.setIfInBounds_toArray, List.set_cons_zero, List.set_cons_succ]
      refine' wpAnyH_take (i := 6) (v := _) rfl (by kernel_rfl) (by kernel_rfl) (by kernel_rfl) (fun _ _ _ h => h) (Or.inl ⟨by kernel_rfl, ?hse7⟩) (by assumption) ?rse7
      case hse7 => intro W hW; obtain ⟨c0, c1, c2⟩ := hW; go_simp; all_goals with_reducible rfl
      change wpAnyH _ _ _ _ _ _ _ (Act.put _ (some 18) _) _
      simp only [Act.put, List.setIfInBounds_toArray, List.set_cons_zero, List.set_cons_succ]
      refine' wpAnyH_take (i := 7) (v := _) rfl (by kernel_rfl) (by kernel_rfl) (by kernel_rfl) (fun _ _ _ h => h) (Or.inl ⟨by kernel_rfl, ?hse8⟩) (by assumption) ?rse8
      case hse8 => intro W hW; obtain ⟨c0, c1, c2⟩ := hW; go_simp; all_goals with_reducible rfl
      change wpAnyH _ _ _ _ _ _ _ (Act.put _ (some 19) _) _
      simp only [Act.put, List.setIfInBounds_toArray, List.set_cons_zero, List.set_cons_succ]
      refine' wpAnyH_take (i := 8) (v := _) rfl (by kernel_rfl) (by kernel_rfl) (by kernel_rfl) (fun _ _ _ h => h) (Or.inl ⟨by kernel_rfl, ?hse9⟩) (by assumption) ?rse9
      case hse9 => intro W hW; obtain ⟨c0, c1, c2⟩ := hW; go_simp; all_goals with_reducible rfl
      change wpAnyH _ _ _ _ _ _ _ (Act.put _ (some 20) _) _
      simp only [Act.put, List.setIfInBounds_toArray, List.set_cons_zero, List.set_cons_succ]
      refine wpAnyH_ready (rs := [9]) (by kernel_rfl) (by simp) ?_
      refine AllReadyH.cons rfl (fun KK hK => ?_) AllReadyH.nil
      have hz := hS2.cellFz (by rw [settleL_len]; omega) m
      obtain ⟨g9, e9, -, -, hc9⟩ := hS2.cell (by rw [settleL_len]; omega)
      cases e9
      have hcm := hc9 m _ (List.getElem?_eq_getElem (by rw [settleL_len]; omega))
      go_simp
      have hS3 := hS2.set m (.slice ua un uc) (by rw [settleL_len]; omega)
      have hB3 := hB2.set (i := m) (.slice ua un uc)
      have hX3 := hX2.other (C := gs) (i := m) (u := .slice ua un uc) HNE.out.1
      have hbx3 := hbx.other (C := gs) (i := m) (u := .slice ua un uc) HNE.out.2
      clear hz hc9 hcm hS2 hB2 hX2 hbx
      refine hK.out _ _ ⟨hX3.cell 0, hbx3.cell 0, hbx3.cell 1⟩ (fun hHeld => ?_)
      clear hK KK
      try simp only [Act.put, List.setIfInBounds_toArray, List.set_cons_zero, List.set_cons_succ]
      refine wpAnyH_done (by kernel_rfl) ?_ _
      have HR : Hid (RL 27 (wd.setCell ⟨gs, m, none⟩ (.slice ua un uc)) B (some ⟨gs, 0, none⟩) (settleL ss (((L.map (·.1)).zip us).take (k + 1))) ∧ ButX gs w (wd.setCell ⟨gs, m, none⟩ (.slice ua un uc)) ∧ VN (wd.setCell ⟨gs, m, none⟩ (.slice ua un uc)) X 32 [.slice (some ⟨gs, 0, none⟩) ns sc, .slice ca nc cc, o, f, b]) := ⟨by rw [HSET.out]; exact hS3, hB3, hX3⟩
      clear hS3 hB3 hX3 hbx3 hHeld
      go_wp2
      go_roundg (L.length - (k + 1))
      case measure => omega
      case rel => exact ⟨k + 1, by omega, rfl, by go_num, HR.out.1, HR.out.2.1, HR.out.2.2⟩
    · obtain rfl : k = L.length := by omega
      have hkz : ¬ (L.length : Int) < (L.length : Int) := by omega
      have htk : ((L.map (·.1)).zip us).take L.length = (L.map (·.1)).zip us := List.take_of_length_le (by rw [List.length_zip, List.length_map]; omega)
      rw [htk] at hS
      have hgB : B ≤ gs := by
        obtain ⟨g9, e9, h9, -, -⟩ := hS.cell (by rw [settleL_len]; omega)
        cases e9; exact h9
      have x1 : wr.cell? ⟨X, 1, none⟩ = some (.slice ca nc cc) := hX.cell 1
      have q1 := hX.fz 1
      by_cases hn0 : nc = 0
      · subst hn0
        have hcr := fun W => run_clear0 0 W ca cc
        have hX3 := hX.set 1 (.slice ca 0 0)
        simp only [List.set] at hX3
        have hkp := keep_vn (P := fun t => t = 32) (i := 1) (u := .slice ca 0 0) hX rfl
        have HR : Hid (SettleTo w B X gs ns sc ca o f b (settleL ss ((L.map (·.1)).zip us)) (wr.setCell ⟨X, 1, none⟩ (.slice ca 0 0))) :=
          ⟨hX3, hS.keepT hkp (by decide), by simpa using hB.size, ⟨hB.os, hB.tape, hB.output⟩, fun k hk h1 h2 _ => (Below.heap_setCell _ _ _ _ (show k ≠ X from h1)).trans (hB.block k hk h2), fun k hk h2 h1 => (Below.heap_setCell _ _ _ _ (show k ≠ X from h1)).trans (hB.block k hk (by omega))⟩
        clear hX hX3 hS hB hkp HL HU HNN
        cases ca with
        | none =>
          go_wp2
          go_end0
          exact ⟨rfl, HR.out⟩
        | some ad =>
          go_wp2
          go_end0
          exact ⟨rfl, HR.out⟩
      · have hCr := HL.out.2.1.keepT (hB.keepR HL.out.2.2 (by omega)) (by decide)
        obtain ⟨gc, ec, hgcB, hgc, -⟩ := hCr.cell (by omega)
        subst ec
        obtain ⟨w2, hcr, hct⟩ := run_clearW 0 wr B gc nc cc xs hCr hxs (by omega)
        have hXc := rl_ne hCr (by omega) hX (by decide)
        have HTY : Hid (∃ c z, wr.heap[gc]? = some (Obj.cells c 51 z)) := by
          rcases hCr with h0 | ⟨g', cur, ea, -, hg, -⟩
          · have : xs.length = 0 := by rw [h0]; rfl
            omega
          · cases ea; exact ⟨_, _, hg⟩
        have hgs2 : gs ≠ gc := by
          rintro rfl
          obtain ⟨c9, z9, h9⟩ := HTY.out
          rcases hS with h0 | ⟨g', cur, ea, -, hg, -⟩
          · have h1 := settleL_len ((L.map (·.1)).zip us) ss
            rw [h0] at h1
            simp at h1
            omega
          · cases ea
            rw [hg] at h9; cases h9
        have hX2 : VN w2 X 32 [.slice (some ⟨gs, 0, none⟩) ns sc, .slice (some ⟨gc, 0, none⟩) nc cc, o, f, b] := hX.block (hct.block X hX.lt hXc)
        have hS2 : RL 27 w2 B (some ⟨gs, 0, none⟩) (settleL ss ((L.map (·.1)).zip us)) := by
          rcases hS with h0 | ⟨g', cur, ea, hb, hg, hc⟩
          · exact .inl h0
          · cases ea
            exact .inr ⟨gs, cur, rfl, hb, (hct.block gs (Array.getElem?_eq_some_iff.1 hg).1 hgs2).trans hg, hc⟩
        have y1 : w2.cell? ⟨X, 1, none⟩ = some (.slice (some ⟨gc, 0, none⟩) nc cc) := hX2.cell 1
        have z1 := hX2.fz 1
        have hX3 := hX2.set 1 (.slice (some ⟨gc, 0, none⟩) 0 0)
        simp only [List.set] at hX3
        have hkp := keep_vn (P := fun t => t = 32) (i := 1) (u := .slice (some ⟨gc, 0, none⟩) 0 0) hX2 rfl
        have HR : Hid (SettleTo w B X gs ns sc (some ⟨gc, 0, none⟩) o f b (settleL ss ((L.map (·.1)).zip us)) (w2.setCell ⟨X, 1, none⟩ (.slice (some ⟨gc, 0, none⟩) 0 0))) := by
          refine ⟨hX3, hS2.keepT hkp (by decide), ?_, ⟨hct.os.trans hB.os, hct.tape.trans hB.tape, hct.output.trans hB.output⟩, fun k hk h1 h2 h3 => ?_, fun k hk h2 h1 => ((Below.heap_setCell _ _ _ _ (show k ≠ X from h1)).trans (hct.block k (Nat.lt_of_lt_of_le hk hB.size) (by omega))).trans (hB.block k hk (by omega))⟩
          · have := hB.size
            simp [hct.size]; omega
          · have e1 := hB.block k hk h2
            have hne : k ≠ gc := by
              rintro rfl
              obtain ⟨c9, z9, h9⟩ := HTY.out
              rw [e1] at h9
              exact h3 _ _ h9
            exact ((Below.heap_setCell _ _ _ _ (show k ≠ X from h1)).trans (hct.block k (Nat.lt_of_lt_of_le hk hB.size) hne)).trans e1
        clear hX hX2 hX3 hS hS2 hB hkp HL HU HNN hct hCr HTY
        go_wp2
        go_end0
        exact ⟨rfl, HR.out⟩
end Go.Proofs.Ytdhfbblameiloaa

