/-
  Together: ClearI, SettleI, PowerI, FlushOwn, Ret5, DrawBytes
-/
import Derived.Test.YtdhfbblameiloaaUP2
import Derived.Lib.SliceRun
import Derived.Deep.Upon
import Derived.Test.YtdhfbblameiloaaUP1
import Derived.Test.YtdhfbblameiloaaUP3
import Derived.Deep.LoopGhost
import Derived.Deep.RegionHeld3
/-
  clear(l) of a row of writes: its cells alone have turned.
-/
namespace Go.Proofs.Ytdhfbblameiloaa
open Go.RowKit
set_option maxRecDepth 4000

theorem setCells_size (b : Nat) : ∀ (vs : List Value) (o : Nat) (w : World), (w.setCells b o vs).heap.size = w.heap.size
  | [], _, _ => rfl
  | v :: r, o, w => by
    show ((w.setCell ⟨b, o, none⟩ v).setCells b (o + 1) r).heap.size = _
    rw [setCells_size b r]
    simp
theorem setCells_io (b : Nat) : ∀ (vs : List Value) (o : Nat) (w : World), (w.setCells b o vs).os = w.os ∧ (w.setCells b o vs).tape = w.tape ∧ (w.setCells b o vs).output = w.output
  | [], _, _ => ⟨rfl, rfl, rfl⟩
  | v :: r, o, w => by
    show (((w.setCell ⟨b, o, none⟩ v).setCells b (o + 1) r).os = _ ∧ ((w.setCell ⟨b, o, none⟩ v).setCells b (o + 1) r).tape = _ ∧ ((w.setCell ⟨b, o, none⟩ v).setCells b (o + 1) r).output = _)
    exact setCells_io b r (o + 1) _
/-- What clearing may have turned: one block. -/
structure ClearTo (g : Nat) (w w' : World) : Prop where
  os : w'.os = w.os
  tape : w'.tape = w.tape
  output : w'.output = w.output
  size : w'.heap.size = w.heap.size
  block : ∀ k, k < w.heap.size → k ≠ g → w'.heap[k]? = w.heap[k]?
theorem run_clearW (ty : TypeId) (w : World) (B g n c : Nat) (xs : List Value) (h : RL 51 w B (some ⟨g, 0, none⟩) xs) (hl : xs.length = n * 2) (hn : 0 < n) :
    ∃ w', (Builtin.clear_ #[29] ty #[.slice (some ⟨g, 0, none⟩) n c]).run Try.prog w = .ok (.tuple #[]) w' ∧ ClearTo g w w' := by
  obtain ⟨g', ea, -, hlt, hc⟩ := h.cell (by omega)
  cases ea
  have hv : ∀ w, (zeroValue 51).run Try.prog w = .ok (.agg #[.int .i64 0, .slice none 0 0]) w := fun w => by kernel_rfl
  have hsz : (Builtin.zeroCells (Value.agg #[.int .i64 0, .slice none 0 0]).cells n).toList.length = n * 2 := by simp [Builtin.zeroCells, Value.cells]
  have hst := run_storeCells_cells (P := Try.prog) g 0 (Builtin.zeroCells (Value.agg #[.int .i64 0, .slice none 0 0]).cells n).toList 0 w
    (fun j hj => by rw [hsz] at hj; have e0 : 0 + 0 + j = j := (by omega); rw [e0, hc j xs[j] (List.getElem?_eq_getElem (by omega))]; rfl)
    (fun j _ => h.cellFz (by omega) _)
    (fun v hv' => by
      simp [Builtin.zeroCells, Value.cells] at hv'
      obtain ⟨i, hi, rfl⟩ := hv'
      have h2 : i % 2 = 0 ∨ i % 2 = 1 := by omega
      rcases h2 with h2 | h2 <;> simp [h2] <;> rfl)
  refine ⟨w.setCells g 0 (Builtin.zeroCells (Value.agg #[.int .i64 0, .slice none 0 0]).cells n).toList, ?_, ?_⟩
  · obtain ⟨m, rfl⟩ : ∃ m, n = m + 1 := ⟨n - 1, by omega⟩
    simp only [Nat.add_zero] at hst
    have ht : Try.prog.underlying 29 = some (.slice 51) := Try.underlying29
    simp [Builtin.clear_, run_underlying ht, hv, hst]
  · obtain ⟨h1, h2, h3⟩ := setCells_io g (Builtin.zeroCells (Value.agg #[.int .i64 0, .slice none 0 0]).cells n).toList 0 w
    exact ⟨h1, h2, h3, setCells_size g _ 0 w, fun k hk hne => World.heap_setCells_other w g 0 _ hk hne⟩
theorem run_clear0 (ty : TypeId) (w : World) (a : Option Addr) (c : Nat) : (Builtin.clear_ #[29] ty #[.slice a 0 c]).run Try.prog w = .ok (.tuple #[]) w := by
  have ht : Try.prog.underlying 29 = some (.slice 51) := Try.underlying29
  cases a <;> simp [Builtin.clear_, run_underlying ht]
end Go.Proofs.Ytdhfbblameiloaa

/-
  The program's settle.
-/
namespace Go.Proofs.Ytdhfbblameiloaa
open Go.RowKit
set_option maxRecDepth 4000

theorem ButX.keepR {g B : Nat} {T : TypeId} {w w' : World} {xs : List Value} (h : ButX g w w') (hr : RL T w B (some ⟨g, 0, none⟩) xs) (hx : 0 < xs.length) : KeepT (fun t => t = T) w w' := by
  intro b c t z hb ht
  refine h.block b (Array.getElem?_eq_some_iff.1 hb).1 (fun e => ?_)
  rcases hr with hr | ⟨g', cur, ea, hb', hg, hc⟩
  · subst hr; simp at hx
  · cases ea
    rw [e, hg] at hb
    cases hb
    exact ht rfl
theorem rl_ne {T T' : TypeId} {w : World} {B g X : Nat} {xs ys : List Value} (hr : RL T w B (some ⟨g, 0, none⟩) xs) (hx : 0 < xs.length) (hX : VN w X T' ys) (hT : T' ≠ T) : X ≠ g := by
  intro e
  rcases hr with hr | ⟨g', cur, ea, hb', hg, hc⟩
  · subst hr; simp at hx
  · cases ea
    unfold VN at hX
    rw [e, hg] at hX
    cases hX
    exact hT rfl
/-- What settle comes to: the sectors' row, and the cache's variable. -/
structure SettleTo (w : World) (B X gs ns sc : Nat) (ca : Option Addr) (o f b : Value) (rows : List Value) (w' : World) : Prop where
  x : VN w' X 32 [.slice (some ⟨gs, 0, none⟩) ns sc, .slice ca 0 0, o, f, b]
  secs : RL 27 w' B (some ⟨gs, 0, none⟩) rows
  size : w.heap.size ≤ w'.heap.size
  io : w'.os = w.os ∧ w'.tape = w.tape ∧ w'.output = w.output
  keep : ∀ k, k < w.heap.size → k ≠ X → k ≠ gs → (∀ c z, w.heap[k]? ≠ some (Obj.cells c 51 z)) → w'.heap[k]? = w.heap[k]?
  low : ∀ k, k < w.heap.size → k < B → k ≠ X → w'.heap[k]? = w.heap[k]?

set_option maxHeartbeats 8000000 in
theorem settle_any (B X gs ns sc : Nat) (ca : Option Addr) (nc cc : Nat) (o f b : Value) (ss us xs : List Value) (la : Option Addr) (lc : Nat) (L : List (Int × List Int)) (w : World) (hX : VN w X 32 [.slice (some ⟨gs, 0, none⟩) ns sc, .slice ca nc cc, o, f, b]) (hS : RL 27 w B (some ⟨gs, 0, none⟩) ss) (hss : ss.length = ns) (hns : 0 < ns) (hL : RL 51 w B la (wcells L us)) (hus : us.length = L.length) (hC : RL 51 w B ca xs) (hxs : xs.length = nc * 2) (hnc : ca = none → nc = 0) (hu : ∀ (i : Nat) v, us[i]? = some v → ∃ a n c, v = .slice a n c) (hN : ∀ i (h : i < L.length), 0 ≤ (L[i]).1 ∧ (L[i]).1 < ns) (hl : L.length ≤ 1048576) (hnl : nc ≤ 1048576) (hnsl : ns ≤ 1048576) :
    Calls Try.prog 88 #[.pointer (some ⟨X, 0, none⟩), .slice la L.length lc] w fun e w' => e = .returned (.tuple #[]) ∧ SettleTo w B X gs ns sc ca o f b (settleL ss ((L.map (·.1)).zip us)) w' := by
  have hXg := rl_ne hS (by omega) hX (by decide)
  have hXlt := hX.lt
  have HL : Hid (RL 51 w B la (wcells L us) ∧ RL 51 w B ca xs ∧ RL 27 w B (some ⟨gs, 0, none⟩) ss) := ⟨hL, hC, hS⟩
  have HU : Hid (∀ (i : Nat) v, us[i]? = some v → ∃ a n c, v = .slice a n c) := hu
  have HNN : Hid (∀ i (h : i < L.length), 0 ≤ (L[i]).1 ∧ (L[i]).1 < ns) := hN
  clear hL hC hu hN
  go_enter Try.func88, Try.ntmps88
  go_wp2
  go_loopg [8] L.length (fun q i wr => ∃ k : Nat, k ≤ L.length ∧ q = L.length - k ∧ i = .int .i64 k ∧ RL 27 wr B (some ⟨gs, 0, none⟩) (settleL ss (((L.map (·.1)).zip us).take k)) ∧ ButX gs w wr ∧ VN wr X 32 [.slice (some ⟨gs, 0, none⟩) ns sc, .slice ca nc cc, o, f, b])
  case atStart => exact ⟨0, Nat.zero_le _, rfl, rfl, by simpa [settleL] using hS, ButX.refl _ _, hX⟩
  case round =>
    clear hX hS
    obtain ⟨k, hk, rfl, rfl, hS, hB, hX⟩ := hrel
    by_cases hlt : k < L.length
    · have hkz : (k : Int) < (L.length : Int) := by omega
      have hLr := HL.out.1.keepT (hB.keepR HL.out.2.2 (by omega)) (by decide)
      have hwl := wcells_len hus
      obtain ⟨gl, el, -, hgl, hcl⟩ := hLr.cell (by omega)
      subst el
      have hv := List.getElem?_eq_getElem (l := us) (i := k) (by omega)
      obtain ⟨w0, w1⟩ := wcells_get (List.getElem?_eq_getElem hlt) hv
      have x0 := hcl _ _ w0
      have x1 := hcl _ _ w1
      obtain ⟨ua, un, uc, eu⟩ := HU.out k _ hv
      obtain ⟨hN0, hN1⟩ := HNN.out k hlt
      obtain ⟨m, hm⟩ : ∃ m : Nat, (L[k]).1 = m := ⟨(L[k]).1.toNat, by omega⟩
      have HSET : Hid (settleL ss (((L.map (·.1)).zip us).take (k + 1)) = (settleL ss (((L.map (·.1)).zip us).take k)).set m (.slice ua un uc)) := by
        show _ = _
        have hzl : k < ((L.map (·.1)).zip us).length := by simp; omega
        rw [settleL_one hzl]
        simp [hm, eu]
      rw [hm] at x0
      rw [eu] at x1
      have hmn : m < ns := by omega
      have hmz : (m : Int) < (ns : Int) := by omega
      clear hLr hcl w0 w1 hv hN0 hN1
      have hbA : Below wr.heap.size wr (wr.alloc (.cells #[.int .i64 (m : Int), .slice ua un uc] 51)) := (Below.refl _ _).alloc (Nat.le_refl _) _
      have hglt : gs < wr.heap.size := by
        obtain ⟨g9, e9, -, h9, -⟩ := hS.cell (by rw [settleL_len]; omega)
        cases e9; exact h9
      have HNE : Hid (X ≠ gs ∧ wr.heap.size ≠ gs) := ⟨hXg, by omega⟩
      have hbx0 := VN.new wr 51 [.int .i64 (m : Int), .slice ua un uc]
      have hbx : VN (wr.alloc (.cells #[.int .i64 (m : Int), .slice ua un uc] 51)).drew wr.heap.size 51 [.int .i64 (m : Int), .slice ua un uc] := hbx0.block rfl
      have hX2 := hX.below hbA.drew
      have hS2 := hS.up (Up.ofBelow hbA.drew)
      have hB2 := hB.on hbA.drew
      clear hX hS hB hbA hbx0
      go_wp2_with fail
      refine wp_region_held_drew (S := fun W => W.cell? ⟨X, 0, none⟩ = some (.slice (some ⟨gs, 0, none⟩) ns sc) ∧ W.cell? ⟨wr.heap.size, 0, none⟩ = some (.int .i64 (m : Int)) ∧ W.cell? ⟨wr.heap.size, 1, none⟩ = some (.slice ua un uc)) (by kernel_rfl) ⟨hX2.cell 0, hbx.cell 0, hbx.cell 1⟩ (fun hHeld => ?_)
      obtain ⟨wd, hwd⟩ := hidEx (wr.alloc (.cells #[.int .i64 (m : Int), .slice ua un uc] 51)).drew
      rw [hwd.out] at hX2 hS2 hB2 hbx hHeld ⊢
      refine' wpAnyH_take (i := 0) (v := _) rfl (by kernel_rfl) (by kernel_rfl) (by kernel_rfl) (fun _ _ _ h => h) (Or.inl ⟨by kernel_rfl, ?hse1⟩) (by assumption) ?rse1
      case hse1 => intro W hW; obtain ⟨c0, c1, c2⟩ := hW; go_simp; all_goals with_reducible rfl
      change wpAnyH _ _ _ _ _ _ _ (Act.put _ (some 12) _) _
      simp only [Act.put, List.setIfInBounds_toArray, List.set_cons_zero, List.set_cons_succ]
      refine' wpAnyH_take (i := 1) (v := _) rfl (by kernel_rfl) (by kernel_rfl) (by kernel_rfl) (fun _ _ _ h => h) (Or.inl ⟨by kernel_rfl, ?hse2⟩) (by assumption) ?rse2
      case hse2 => intro W hW; obtain ⟨c0, c1, c2⟩ := hW; go_simp; all_goals with_reducible rfl
      change wpAnyH _ _ _ _ _ _ _ (Act.put _ (some 13) _) _
      simp only [Act.put, List.setIfInBounds_toArray, List.set_cons_zero, List.set_cons_succ]
      refine' wpAnyH_take (i := 2) (v := _) rfl (by kernel_rfl) (by kernel_rfl) (by kernel_rfl) (fun _ _ _ h => h) (Or.inl ⟨by kernel_rfl, ?hse3⟩) (by assumption) ?rse3
      case hse3 => intro W hW; obtain ⟨c0, c1, c2⟩ := hW; go_simp; all_goals with_reducible rfl
      change wpAnyH _ _ _ _ _ _ _ (Act.put _ (some 14) _) _
      simp only [Act.put, List.setIfInBounds_toArray, List.set_cons_zero, List.set_cons_succ]
      refine' wpAnyH_take (i := 3) (v := _) rfl (by kernel_rfl) (by kernel_rfl) (by kernel_rfl) (fun _ _ _ h => h) (Or.inl ⟨by kernel_rfl, ?hse4⟩) (by assumption) ?rse4
      case hse4 => intro W hW; obtain ⟨c0, c1, c2⟩ := hW; go_simp; all_goals with_reducible rfl
      change wpAnyH _ _ _ _ _ _ _ (Act.put _ (some 15) _) _
      simp only [Act.put, List.setIfInBounds_toArray, List.set_cons_zero, List.set_cons_succ]
      refine' wpAnyH_take (i := 4) (v := _) rfl (by kernel_rfl) (by kernel_rfl) (by kernel_rfl) (fun _ _ _ h => h) (Or.inl ⟨by kernel_rfl, ?hse5⟩) (by assumption) ?rse5
      case hse5 => intro W hW; obtain ⟨c0, c1, c2⟩ := hW; go_simp; all_goals with_reducible rfl
      change wpAnyH _ _ _ _ _ _ _ (Act.put _ (some 16) _) _
      simp only [Act.put, List.setIfInBounds_toArray, List.set_cons_zero, List.set_cons_succ]
      refine' wpAnyH_take (i := 5) (v := _) rfl (by kernel_rfl) (by kernel_rfl) (by kernel_rfl) (fun _ _ _ h => h) (Or.inl ⟨by kernel_rfl, ?hse6⟩) (by assumption) ?rse6
      case hse6 => intro W hW; obtain ⟨c0, c1, c2⟩ := hW; go_simp; all_goals with_reducible rfl
      change wpAnyH _ _ _ _ _ _ _ (Act.put _ (some 17) _) _
      simp only [Act.put, List.setIfInBounds_toArray, List.set_cons_zero, List.set_cons_succ]
      refine' wpAnyH_take (i := 6) (v := _) rfl (by kernel_rfl) (by kernel_rfl) (by kernel_rfl) (fun _ _ _ h => h) (Or.inl ⟨by kernel_rfl, ?hse7⟩) (by assumption) ?rse7
      case hse7 => intro W hW; obtain ⟨c0, c1, c2⟩ := hW; go_simp; all_goals with_reducible rfl
      change wpAnyH _ _ _ _ _ _ _ (Act.put _ (some 18) _) _
      simp only [Act.put, List.setIfInBounds_toArray, List.set_cons_zero, List.set_cons_succ]
      refine' wpAnyH_take (i := 7) (v := _) rfl (by kernel_rfl) (by kernel_rfl) (by kernel_rfl) (fun _ _ _ h => h) (Or.inl ⟨by kernel_rfl, ?hse8⟩) (by assumption) ?rse8
      case hse8 => intro W hW; obtain ⟨c0, c1, c2⟩ := hW; go_simp; all_goals with_reducible rfl
      change wpAnyH _ _ _ _ _ _ _ (Act.put _ (some 19) _) _
      simp only [Act.put, List.setIfInBounds_toArray, List.set_cons_zero, List.set_cons_succ]
      refine' wpAnyH_take (i := 8) (v := _) rfl (by kernel_rfl) (by kernel_rfl) (by kernel_rfl) (fun _ _ _ h => h) (Or.inl ⟨by kernel_rfl, ?hse9⟩) (by assumption) ?rse9
      case hse9 => intro W hW; obtain ⟨c0, c1, c2⟩ := hW; go_simp; all_goals with_reducible rfl
      change wpAnyH _ _ _ _ _ _ _ (Act.put _ (some 20) _) _
      simp only [Act.put, List.setIfInBounds_toArray, List.set_cons_zero, List.set_cons_succ]
      refine wpAnyH_ready (rs := [9]) (by kernel_rfl) (by simp) ?_
      refine AllReadyH.cons rfl (fun KK hK => ?_) AllReadyH.nil
      have hz := hS2.cellFz (by rw [settleL_len]; omega) m
      obtain ⟨g9, e9, -, -, hc9⟩ := hS2.cell (by rw [settleL_len]; omega)
      cases e9
      have hcm := hc9 m _ (List.getElem?_eq_getElem (by rw [settleL_len]; omega))
      go_simp
      have hS3 := hS2.set m (.slice ua un uc) (by rw [settleL_len]; omega)
      have hB3 := hB2.set (i := m) (.slice ua un uc)
      have hX3 := hX2.other (C := gs) (i := m) (u := .slice ua un uc) HNE.out.1
      have hbx3 := hbx.other (C := gs) (i := m) (u := .slice ua un uc) HNE.out.2
      clear hz hc9 hcm hS2 hB2 hX2 hbx
      refine hK.out _ _ ⟨hX3.cell 0, hbx3.cell 0, hbx3.cell 1⟩ (fun hHeld => ?_)
      clear hK KK
      try simp only [Act.put, List.setIfInBounds_toArray, List.set_cons_zero, List.set_cons_succ]
      refine wpAnyH_done (by kernel_rfl) ?_ _
      have HR : Hid (RL 27 (wd.setCell ⟨gs, m, none⟩ (.slice ua un uc)) B (some ⟨gs, 0, none⟩) (settleL ss (((L.map (·.1)).zip us).take (k + 1))) ∧ ButX gs w (wd.setCell ⟨gs, m, none⟩ (.slice ua un uc)) ∧ VN (wd.setCell ⟨gs, m, none⟩ (.slice ua un uc)) X 32 [.slice (some ⟨gs, 0, none⟩) ns sc, .slice ca nc cc, o, f, b]) := ⟨by rw [HSET.out]; exact hS3, hB3, hX3⟩
      clear hS3 hB3 hX3 hbx3 hHeld
      go_wp2
      go_roundg (L.length - (k + 1))
      case measure => omega
      case rel => exact ⟨k + 1, by omega, rfl, by go_num, HR.out.1, HR.out.2.1, HR.out.2.2⟩
    · obtain rfl : k = L.length := by omega
      have hkz : ¬ (L.length : Int) < (L.length : Int) := by omega
      have htk : ((L.map (·.1)).zip us).take L.length = (L.map (·.1)).zip us := List.take_of_length_le (by rw [List.length_zip, List.length_map]; omega)
      rw [htk] at hS
      have hgB : B ≤ gs := by
        obtain ⟨g9, e9, h9, -, -⟩ := hS.cell (by rw [settleL_len]; omega)
        cases e9; exact h9
      have x1 : wr.cell? ⟨X, 1, none⟩ = some (.slice ca nc cc) := hX.cell 1
      have q1 := hX.fz 1
      by_cases hn0 : nc = 0
      · subst hn0
        have hcr := fun W => run_clear0 0 W ca cc
        have hX3 := hX.set 1 (.slice ca 0 0)
        simp only [List.set] at hX3
        have hkp := keep_vn (P := fun t => t = 32) (i := 1) (u := .slice ca 0 0) hX rfl
        have HR : Hid (SettleTo w B X gs ns sc ca o f b (settleL ss ((L.map (·.1)).zip us)) (wr.setCell ⟨X, 1, none⟩ (.slice ca 0 0))) :=
          ⟨hX3, hS.keepT hkp (by decide), by simpa using hB.size, ⟨hB.os, hB.tape, hB.output⟩, fun k hk h1 h2 _ => (Below.heap_setCell _ _ _ _ (show k ≠ X from h1)).trans (hB.block k hk h2), fun k hk h2 h1 => (Below.heap_setCell _ _ _ _ (show k ≠ X from h1)).trans (hB.block k hk (by omega))⟩
        clear hX hX3 hS hB hkp HL HU HNN
        cases ca with
        | none =>
          go_wp2
          go_end0
          exact ⟨rfl, HR.out⟩
        | some ad =>
          go_wp2
          go_end0
          exact ⟨rfl, HR.out⟩
      · have hCr := HL.out.2.1.keepT (hB.keepR HL.out.2.2 (by omega)) (by decide)
        obtain ⟨gc, ec, hgcB, hgc, -⟩ := hCr.cell (by omega)
        subst ec
        obtain ⟨w2, hcr, hct⟩ := run_clearW 0 wr B gc nc cc xs hCr hxs (by omega)
        have hXc := rl_ne hCr (by omega) hX (by decide)
        have HTY : Hid (∃ c z, wr.heap[gc]? = some (Obj.cells c 51 z)) := by
          rcases hCr with h0 | ⟨g', cur, ea, -, hg, -⟩
          · have : xs.length = 0 := by rw [h0]; rfl
            omega
          · cases ea; exact ⟨_, _, hg⟩
        have hgs2 : gs ≠ gc := by
          rintro rfl
          obtain ⟨c9, z9, h9⟩ := HTY.out
          rcases hS with h0 | ⟨g', cur, ea, -, hg, -⟩
          · have h1 := settleL_len ((L.map (·.1)).zip us) ss
            rw [h0] at h1
            simp at h1
            omega
          · cases ea
            rw [hg] at h9; cases h9
        have hX2 : VN w2 X 32 [.slice (some ⟨gs, 0, none⟩) ns sc, .slice (some ⟨gc, 0, none⟩) nc cc, o, f, b] := hX.block (hct.block X hX.lt hXc)
        have hS2 : RL 27 w2 B (some ⟨gs, 0, none⟩) (settleL ss ((L.map (·.1)).zip us)) := by
          rcases hS with h0 | ⟨g', cur, ea, hb, hg, hc⟩
          · exact .inl h0
          · cases ea
            exact .inr ⟨gs, cur, rfl, hb, (hct.block gs (Array.getElem?_eq_some_iff.1 hg).1 hgs2).trans hg, hc⟩
        have y1 : w2.cell? ⟨X, 1, none⟩ = some (.slice (some ⟨gc, 0, none⟩) nc cc) := hX2.cell 1
        have z1 := hX2.fz 1
        have hX3 := hX2.set 1 (.slice (some ⟨gc, 0, none⟩) 0 0)
        simp only [List.set] at hX3
        have hkp := keep_vn (P := fun t => t = 32) (i := 1) (u := .slice (some ⟨gc, 0, none⟩) 0 0) hX2 rfl
        have HR : Hid (SettleTo w B X gs ns sc (some ⟨gc, 0, none⟩) o f b (settleL ss ((L.map (·.1)).zip us)) (w2.setCell ⟨X, 1, none⟩ (.slice (some ⟨gc, 0, none⟩) 0 0))) := by
          refine ⟨hX3, hS2.keepT hkp (by decide), ?_, ⟨hct.os.trans hB.os, hct.tape.trans hB.tape, hct.output.trans hB.output⟩, fun k hk h1 h2 h3 => ?_, fun k hk h2 h1 => ((Below.heap_setCell _ _ _ _ (show k ≠ X from h1)).trans (hct.block k (Nat.lt_of_lt_of_le hk hB.size) (by omega))).trans (hB.block k hk (by omega))⟩
          · have := hB.size
            simp [hct.size]; omega
          · have e1 := hB.block k hk h2
            have hne : k ≠ gc := by
              rintro rfl
              obtain ⟨c9, z9, h9⟩ := HTY.out
              rw [e1] at h9
              exact h3 _ _ h9
            exact ((Below.heap_setCell _ _ _ _ (show k ≠ X from h1)).trans (hct.block k (Nat.lt_of_lt_of_le hk hB.size) hne)).trans e1
        clear hX hX2 hX3 hS hS2 hB hkp HL HU HNN hct hCr HTY
        go_wp2
        go_end0
        exact ⟨rfl, HR.out⟩
end Go.Proofs.Ytdhfbblameiloaa

/-
  The program's powerOff.
-/
namespace Go.Proofs.Ytdhfbblameiloaa
open Go.RowKit
set_option maxRecDepth 4000

/-- A slice that is cut. -/
def cutVal (c : Nat) : Value → Value
  | .slice a n _ => .slice a (min c n) (min c n)
  | v => v
theorem SettleTo.fin {w wr w2 : World} {B X gs ns sc : Nat} {ca : Option Addr} {o f b : Value} {rows : List Value} (h : SettleTo wr B X gs ns sc ca o f b rows w2) (hB : Below w.heap.size w wr) : SettleTo w B X gs ns sc ca o f (.bool true) rows (w2.setCell ⟨X, 4, none⟩ (.bool true)) := by
  have h4 := h.x.set 4 (.bool true)
  simp only [List.set] at h4
  refine ⟨h4, h.secs.keepT (keep_vn (P := fun t => t = 32) h.x rfl) (by decide), ?_, ⟨h.io.1.trans hB.os, h.io.2.1.trans hB.tape, h.io.2.2.trans hB.output⟩, fun k hk h1 h2 h3 => ?_, fun k hk h2 h1 => ((Below.heap_setCell _ _ _ _ (show k ≠ X from h1)).trans (h.low k (Nat.lt_of_lt_of_le hk hB.size) h2 h1)).trans (hB.block k hk)⟩
  · have g1 := h.size
    have g2 := hB.size
    simp; omega
  · have e1 := hB.block k hk
    exact ((Below.heap_setCell _ _ _ _ (show k ≠ X from h1)).trans (h.keep k (Nat.lt_of_lt_of_le hk hB.size) h1 h2 (fun c z e => h3 c z (by rw [← e1]; exact e)))).trans e1
set_option maxHeartbeats 8000000 in
theorem powerOff_any (X B gs ns sc : Nat) (p q : Int) (r : Nat) (ca : Option Addr) (cc : Nat) (o f b : Value) (L : List (Int × List Int)) (ss cs : List Value) (w : World) (hX : VN w X 32 [.slice (some ⟨gs, 0, none⟩) ns sc, .slice ca L.length cc, o, f, b]) (hS : RL 27 w B (some ⟨gs, 0, none⟩) ss) (hss : ss.length = ns) (hns : 0 < ns) (hnsl : ns ≤ 1048576) (hC : RL 51 w B ca (wcells L cs)) (hcs : cs.length = L.length) (hnil : ca = none → L.length = 0) (hu : ∀ (i : Nat) v, cs[i]? = some v → ∃ a n c, v = .slice a n c ∧ n ≤ c ∧ n ≤ 256 ∧ (a = none → c = 0)) (hN : ∀ x, x ∈ L → 0 ≤ x.1 ∧ x.1 < ns) (hp0 : 0 ≤ q) (hp1 : q ≤ 1048575) (hn : L.length ≤ 60) (hr : r ≤ 256) (hBw : B ≤ w.heap.size) :
    Calls Try.prog 67 #[.pointer (some ⟨X, 0, none⟩), .agg #[.int .i64 p, .int .i64 q, .int .i64 r]] w fun e w' => e = .returned (.tuple #[]) ∧ SettleTo w B X gs ns sc ca o f (.bool true) (settleL ss (((keptG q L L.length).map (·.1)).zip (cutLast (cutVal r) (keptG q cs L.length)))) w' := by
  have hXlt := hX.lt
  have hbA : Below w.heap.size w ((w.alloc (.cells #[.int .i64 p, .int .i64 q, .int .i64 r] 79)).alloc (.cells #[] 51)) := ((Below.refl _ _).alloc (Nat.le_refl _) _).alloc (by simp) _
  have F0 := (VN.new w 79 [.int .i64 p, .int .i64 q, .int .i64 r]).below ((Below.refl _ _).alloc (Nat.le_refl _) (.cells #[] 51))
  have O0 := own_monoK (base' := w.heap.size) (own_emptyK (w.alloc (.cells #[.int .i64 p, .int .i64 q, .int .i64 r] 79)) 51 2) (by simp)
  rw [alloc_sizeK] at O0
  have x1 : ((w.alloc (.cells #[.int .i64 p, .int .i64 q, .int .i64 r] 79)).alloc (.cells #[] 51)).cell? ⟨X, 1, none⟩ = some (.slice ca L.length cc) := (hX.below hbA).cell 1
  have HC : Hid (RL 51 w B ca (wcells L cs) ∧ VN w X 32 [.slice (some ⟨gs, 0, none⟩) ns sc, .slice ca L.length cc, o, f, b] ∧ RL 27 w B (some ⟨gs, 0, none⟩) ss) := ⟨hC, hX, hS⟩
  have HU : Hid (∀ (i : Nat) v, cs[i]? = some v → ∃ a n c, v = .slice a n c ∧ n ≤ c ∧ n ≤ 256 ∧ (a = none → c = 0)) := hu
  have HNN : Hid (∀ x, x ∈ L → 0 ≤ x.1 ∧ x.1 < ns) := hN
  clear hX hC hu hS hN
  go_enter Try.func67, Try.ntmps67
  go_wp2
  go_loopg [15, 4] L.length (fun u i v wr => ∃ k : Nat, k ≤ L.length ∧ u = L.length - k ∧ i = .int .i64 k ∧ Below w.heap.size w wr ∧ VN wr w.heap.size 79 [.int .i64 p, .int .i64 q, .int .i64 r] ∧ wr.ownsRow w.heap.size 51 2 v (keptG q L k).length (wcells (keptG q L k) (keptG q cs k)))
  case atStart => exact ⟨0, Nat.zero_le _, rfl, rfl, hbA, F0, by simpa [keptG, wcells] using O0⟩
  case round =>
    clear hbA F0 O0 x1
    obtain ⟨k, hk, rfl, rfl, hB, hF, hO⟩ := hrel
    obtain ⟨i0, hi, hz0, hz1, hz2⟩ := infoWrite
    have hkl := keptG_len q L k
    by_cases hlt : k < L.length
    · have hkz : (k : Int) < (L.length : Int) := by omega
      have hk64 : (k : Int) ≤ 64 := by omega
      obtain ⟨gl, el, -, hgl, hcl⟩ := HC.out.1.cell (by rw [wcells_len hcs]; omega)
      subst el
      have hv := List.getElem?_eq_getElem (l := cs) (i := k) (by omega)
      obtain ⟨w0, w1⟩ := wcells_get (List.getElem?_eq_getElem hlt) hv
      obtain ⟨ua, un, uc, eu, -⟩ := HU.out k _ hv
      have x0 : wr.cell? ⟨gl, k * 2, none⟩ = some (.int .i64 (L[k]).1) := by rw [hB.cell (p := ⟨gl, k * 2, none⟩) hgl]; exact hcl _ _ w0
      have x1 : wr.cell? ⟨gl, k * 2 + 1, none⟩ = some (.slice ua un uc) := by rw [hB.cell (p := ⟨gl, k * 2 + 1, none⟩) hgl, hcl _ _ w1, eu]
      obtain ⟨n0, hn0⟩ := hidEx (L[k]).1
      rw [hn0.out] at x0
      have hbB : Below wr.heap.size wr (wr.alloc (.cells #[.int .i64 n0, .slice ua un uc] 51)) := (Below.refl _ _).alloc (Nat.le_refl _) _
      have y1 : (wr.alloc (.cells #[.int .i64 n0, .slice ua un uc] 51)).cell? ⟨w.heap.size, 1, none⟩ = some (.int .i64 q) := (hF.below hbB).cell 1
      have hbit := bit_and hp0 hp1 k
      have hsz := hB.size
      clear hcl w0 w1 hv
      by_cases hb1 : q / 2 ^ k % 2 = 1
      · rw [hb1] at hbit
        have hbO : bitOf q k = true := decide_eq_true hb1
        have HNX : Hid ((keptG q L (k + 1)).length = (keptG q L k).length + 1 ∧ wcells (keptG q L (k + 1)) (keptG q cs (k + 1)) = wcells (keptG q L k) (keptG q cs k) ++ [.int .i64 n0, .slice ua un uc]) := by
          have hck : k < cs.length := by omega
          rw [keptG_yes hbO hlt, keptG_yes hbO hck, wcells_push (keptG_len_eq hcs k), hn0.out, eu]
          exact ⟨by simp, rfl⟩
        have hbC : Below wr.heap.size wr ((wr.alloc (.cells #[.int .i64 n0, .slice ua un uc] 51)).alloc (.cells #[.int .i64 n0, .slice ua un uc] 51)) := hbB.alloc (by simp) _
        have hO2 := own_upK hO (Up.ofBelow hbC)
        have hF2 := hF.below hbC
        have hB2 := hB.trans (hbC.mono hsz)
        have hcl : ∀ j u, [Value.int .i64 n0, .slice ua un uc][j]? = some u → ((wr.alloc (.cells #[.int .i64 n0, .slice ua un uc] 51)).alloc (.cells #[.int .i64 n0, .slice ua un uc] 51)).cell? ((⟨wr.heap.size + 1, 0, none⟩ : Addr).add j) = some u := by
          have ea : ∀ j, (⟨wr.heap.size + 1, 0, none⟩ : Addr).add j = ⟨wr.heap.size + 1, 0 + j, none⟩ := fun j => by unfold Addr.add; split <;> simp_all
          intro j u hj
          match j, hj with
          | 0, hj => cases hj; rw [ea]; simp
          | 1, hj => cases hj; rw [ea]; simp [go_sem]
        obtain ⟨nk, hnk⟩ := hidEx (keptG q L k).length
        rw [hnk.out] at hO2 HNX hkl
        have hszC : w.heap.size ≤ ((wr.alloc (.cells #[.int .i64 n0, .slice ua un uc] 51)).alloc (.cells #[.int .i64 n0, .slice ua un uc] 51)).heap.size := hB2.size
        clear hO hF hB hbB hbC
        go_wp2_with (at_builtin; refine wpList_append_own _ rfl (.tmp 26) (.tmp 28) 29 rfl w.heap.size 51 i0 (.agg #[.int .i64 0, .slice none 0 0]) 2 32 Try.underlying29 hi hz0 hz1 hz2 rfl (by decide) _ _ _ rfl hO2 ⟨wr.heap.size + 1, 0, none⟩ 1 1 [.int .i64 n0, .slice ua un uc] rfl rfl hcl (by intro u hu; simp at hu; rcases hu with rfl | rfl <;> rfl) (by unfold maxLen; omega) (by omega) hszC ?_)
        intro v6 w6 hO6 hgr6 hnil6
        have hK6 := keep_grown hO2 hgr6
        have HR : Hid (Below w.heap.size w w6 ∧ VN w6 w.heap.size 79 [.int .i64 p, .int .i64 q, .int .i64 r] ∧ w6.ownsRow w.heap.size 51 2 v6 (keptG q L (k + 1)).length (wcells (keptG q L (k + 1)) (keptG q cs (k + 1)))) := ⟨hB2.grown hgr6 hszC (own_geK hO2), hF2.block (hK6 _ _ _ _ hF2 (by decide)), by rw [HNX.out.1, HNX.out.2]; exact hO6⟩
        clear hO2 hO6 hgr6 hnil6 hK6 hcl hF2 hB2
        go_wp2
        go_roundg (L.length - (k + 1))
        case measure => omega
        case rel => exact ⟨k + 1, by omega, rfl, by go_num, HR.out.1, HR.out.2.1, HR.out.2.2⟩
      · have hbO : bitOf q k = false := decide_eq_false hb1
        have hb0 : q / 2 ^ k % 2 = 0 := by omega
        rw [hb0] at hbit
        have hO2 := own_upK hO (Up.ofBelow hbB)
        have hF2 := hF.below hbB
        have hB2 := hB.trans (hbB.mono hsz)
        rw [← keptG_no (l := L) hbO, ← keptG_no (l := cs) hbO] at hO2
        clear hO hF hB hbB hb1 hb0
        go_wp2
        go_roundg (L.length - (k + 1))
        case measure => omega
        case rel => exact ⟨k + 1, by omega, rfl, by go_num, hB2, hF2, hO2⟩
    · obtain rfl : k = L.length := by omega
      have hkz : ¬ (L.length : Int) < (L.length : Int) := by omega
      obtain ⟨Lk, hLk⟩ := hidEx (keptG q L L.length)
      obtain ⟨uk, huk⟩ := hidEx (keptG q cs L.length)
      have hlen : uk.length = Lk.length := by rw [← hLk.out, ← huk.out]; exact keptG_len_eq hcs _
      have HMEM : Hid (∀ x, x ∈ Lk → x ∈ L) := by
        intro x hx
        rw [← hLk.out] at hx
        exact keptG_mem hx
      have HMU : Hid (∀ v, v ∈ uk → ∃ a n c, v = .slice a n c ∧ n ≤ c ∧ n ≤ 256 ∧ (a = none → c = 0)) := by
        intro v hv
        rw [← huk.out] at hv
        obtain ⟨i, hi', rfl⟩ := List.getElem_of_mem (keptG_mem hv)
        exact HU.out i _ (List.getElem?_eq_getElem hi')
      rw [hLk.out, huk.out] at hO
      rw [hLk.out] at hkl
      obtain ⟨la, lc, rfl, hl1, hl2, hRL⟩ := own_rl hO
      have hX1 := HC.out.2.1.below hB
      have hS1 := HC.out.2.2.up (Up.ofBelow hB)
      have hC1 := HC.out.1.up (Up.ofBelow hB)
      have hL1 := hRL.mono hBw
      rcases List.eq_nil_or_concat Lk with rfl | ⟨L0, x, rfl⟩
      · obtain rfl : uk = [] := List.eq_nil_of_length_eq_zero hlen
        have hV := settle_any B X gs ns sc ca L.length cc o f b ss [] (wcells L cs) la lc [] wr hX1 hS1 hss hns (.inl rfl) rfl hC1 (wcells_len hcs) hnil (fun i v h => by simp at h) (fun i h => by simp at h) (by simp) (by omega) hnsl
        have HE : Hid (settleL ss (((keptG q L L.length).map (·.1)).zip (cutLast (cutVal r) (keptG q cs L.length))) = settleL ss ((([] : List (Int × List Int)).map (·.1)).zip [])) := by
          show _ = _
          rw [hLk.out, huk.out]
          rfl
        clear hO hL1 hRL hC1 hS1
        go_wp2_with fail
        refine hV.mono ?_
        rintro e w2 ⟨rfl, hT⟩
        have x4 : w2.cell? ⟨X, 4, none⟩ = some b := hT.x.cell 4
        have q4 := hT.x.fz 4
        have HR : Hid (SettleTo w B X gs ns sc ca o f (.bool true) (settleL ss (((keptG q L L.length).map (·.1)).zip (cutLast (cutVal r) (keptG q cs L.length)))) (w2.setCell ⟨X, 4, none⟩ (.bool true))) := by
          show SettleTo _ _ _ _ _ _ _ _ _ _ _ _
          rw [HE.out]
          exact hT.fin hB
        clear hT hV hX1 hB hF HE
        go_wp2
        go_end0
        exact ⟨rfl, HR.out⟩
      · obtain ⟨u0, u, rfl⟩ : ∃ u0 u, uk = u0 ++ [u] := by
          rcases List.eq_nil_or_concat uk with rfl | ⟨a9, b9, rfl⟩
          · simp at hlen
          · exact ⟨a9, b9, by simp⟩
        have hl0 : u0.length = L0.length := by simpa using hlen
        obtain ⟨ua, un, uc, rfl, hu1, hu2, hu3⟩ := HMU.out u (by simp)
        have hwl := wcells_len hl0
        have hpush : wcells (L0 ++ [x]) (u0 ++ [.slice ua un uc]) = wcells L0 u0 ++ [.int .i64 x.1, .slice ua un uc] := wcells_push hl0 x _
        have ecc : L0.concat x = L0 ++ [x] := by simp
        simp only [List.concat_eq_append] at hRL hL1 hO hLk hlen hl1 HMEM ⊢
        rw [hpush] at hRL hL1
        obtain ⟨g, rfl, hg0, hg1, hgc⟩ := hRL.cell (by simp)
        have y0 : wr.cell? ⟨g, L0.length * 2, none⟩ = some (.int .i64 x.1) := hgc _ _ (by rw [List.getElem?_append_right (by omega), hwl]; simp)
        have y1 : wr.cell? ⟨g, L0.length * 2 + 1, none⟩ = some (.slice ua un uc) := hgc _ _ (by rw [List.getElem?_append_right (by omega), hwl]; simp)
        have z2 : wr.cell? ⟨w.heap.size, 2, none⟩ = some (.int .i64 (r : Int)) := hF.cell 2
        have eL : (L0 ++ [x]).length = L0.length + 1 := by simp
        rw [eL]
        have hl60 : L0.length + 1 ≤ 60 := by have h9 := hkl; simp at h9; omega
        have hs1 : IntKind.i64.wrap (((L0.length + 1 : Nat) : Int) - 1) = (L0.length : Int) := by rw [IntKind.wrap_i64]; omega
        have hpos : (0 : Int) < ((L0.length + 1 : Nat) : Int) := by omega
        have hlt1 : (L0.length : Int) < ((L0.length + 1 : Nat) : Int) := by omega
        have HALL : Hid (RL 51 wr B (some ⟨g, 0, none⟩) (wcells L0 u0 ++ [.int .i64 x.1, .slice ua un uc]) ∧ VN wr X 32 [.slice (some ⟨gs, 0, none⟩) ns sc, .slice ca L.length cc, o, f, b] ∧ RL 27 wr B (some ⟨gs, 0, none⟩) ss ∧ RL 51 wr B ca (wcells L cs)) := ⟨hL1, hX1, hS1, hC1⟩
        clear hgc hO hRL hL1 hC1 hS1 hX1
        go_wp2_with fail
        refine wp_region_held_drew (S := fun W => W.cell? ⟨w.heap.size, 2, none⟩ = some (.int .i64 (r : Int)) ∧ W.cell? ⟨g, L0.length * 2 + 1, none⟩ = some (.slice ua un uc)) (by kernel_rfl) ⟨z2, y1⟩ (fun hHeld => ?_)
        have hbd : Below wr.heap.size wr wr.drew := (Below.refl _ _).drew
        obtain ⟨wd, hwd⟩ := hidEx wr.drew
        rw [hwd.out] at hbd hHeld ⊢
        replace hB := hB.trans (hbd.mono hB.size)
        replace HALL : Hid (RL 51 wd B (some ⟨g, 0, none⟩) (wcells L0 u0 ++ [.int .i64 x.1, .slice ua un uc]) ∧ VN wd X 32 [.slice (some ⟨gs, 0, none⟩) ns sc, .slice ca L.length cc, o, f, b] ∧ RL 27 wd B (some ⟨gs, 0, none⟩) ss ∧ RL 51 wd B ca (wcells L cs)) := ⟨HALL.out.1.up (Up.ofBelow hbd), HALL.out.2.1.below hbd, HALL.out.2.2.1.up (Up.ofBelow hbd), HALL.out.2.2.2.up (Up.ofBelow hbd)⟩
        have y1d : wd.cell? ⟨g, L0.length * 2 + 1, none⟩ = some (.slice ua un uc) := by rw [hbd.cell (p := ⟨g, L0.length * 2 + 1, none⟩) hg1]; exact y1
        have q1d := HALL.out.1.cellFz (by simp) (L0.length * 2 + 1)
        clear y0 y1 z2 hF hbd
        have HEND : ∀ ct : Nat, ct = min r un → Calls Try.prog 88 #[.pointer (some ⟨X, 0, none⟩), .slice (some ⟨g, 0, none⟩) (L0.length + 1) lc] (wd.setCell ⟨g, L0.length * 2 + 1, none⟩ (.slice ua ct ct)) fun e w' => e = .returned (.tuple #[]) ∧ SettleTo (wd.setCell ⟨g, L0.length * 2 + 1, none⟩ (.slice ua ct ct)) B X gs ns sc ca o f b (settleL ss (((keptG q L L.length).map (·.1)).zip (cutLast (cutVal r) (keptG q cs L.length)))) w' ∧ Below w.heap.size w (wd.setCell ⟨g, L0.length * 2 + 1, none⟩ (.slice ua ct ct)) := by
          intro ct hct
          have hB3 : Below w.heap.size w (wd.setCell ⟨g, L0.length * 2 + 1, none⟩ (.slice ua ct ct)) := hB.setCell (p := ⟨g, L0.length * 2 + 1, none⟩) hg0 _
          have hL3 := HALL.out.1.set (L0.length * 2 + 1) (.slice ua ct ct) (by simp; omega)
          have es : (wcells L0 u0 ++ [Value.int .i64 x.1, Value.slice ua un uc]).set (L0.length * 2 + 1) (Value.slice ua ct ct) = wcells (L0 ++ [x]) (u0 ++ [.slice ua ct ct]) := by
            rw [wcells_push hl0, List.set_append_right _ _ (by omega), hwl]
            simp
          rw [es] at hL3
          have hv := settle_any B X gs ns sc ca L.length cc o f b ss (u0 ++ [.slice ua ct ct]) (wcells L cs) (some ⟨g, 0, none⟩) lc (L0 ++ [x]) _ (HC.out.2.1.below hB3) (HC.out.2.2.up (Up.ofBelow hB3)) hss hns hL3 (by simp [hl0]) (HC.out.1.up (Up.ofBelow hB3)) (wcells_len hcs) hnil (fun i v h => by
              rcases List.mem_append.1 (List.mem_of_getElem? h) with h5 | h5
              · obtain ⟨a5, n5, c5, e5, -⟩ := HMU.out v (List.mem_append_left _ h5)
                exact ⟨a5, n5, c5, e5⟩
              · simp at h5; exact ⟨_, _, _, h5⟩) (fun i h => HNN.out _ (HMEM.out _ (List.getElem_mem h))) (by simp; omega) (by omega) hnsl
          rw [eL] at hv
          have er : (((keptG q L L.length).map (·.1)).zip (cutLast (cutVal r) (keptG q cs L.length))) = (((L0 ++ [x]).map (·.1)).zip (u0 ++ [.slice ua ct ct])) := by
            rw [hLk.out, huk.out, cutLast_app, hct]
            rfl
          rw [er]
          refine hv.mono ?_
          rintro e w' ⟨rfl, hT⟩
          exact ⟨rfl, hT, hB3⟩
        refine' wpAnyH_take (i := 0) (v := _) rfl (by kernel_rfl) (by kernel_rfl) (by kernel_rfl) (fun _ _ _ h => h) (Or.inl ⟨by kernel_rfl, ?hpo1⟩) (by assumption) ?rpo1
        case hpo1 => intro W hW; obtain ⟨c0, c1⟩ := hW; go_simp; all_goals with_reducible rfl
        change wpAnyH _ _ _ _ _ _ _ (Act.put _ (some 39) _) _
        simp only [Act.put, List.setIfInBounds_toArray, List.set_cons_zero, List.set_cons_succ]
        refine' wpAnyH_take (i := 1) (v := _) rfl (by kernel_rfl) (by kernel_rfl) (by kernel_rfl) (fun _ _ _ h => h) (Or.inl ⟨by kernel_rfl, ?hpo2⟩) (by assumption) ?rpo2
        case hpo2 => intro W hW; obtain ⟨c0, c1⟩ := hW; go_simp; all_goals with_reducible rfl
        change wpAnyH _ _ _ _ _ _ _ (Act.put _ (some 40) _) _
        simp only [Act.put, List.setIfInBounds_toArray, List.set_cons_zero, List.set_cons_succ]
        refine' wpAnyH_take (i := 2) (v := _) rfl (by kernel_rfl) (by kernel_rfl) (by kernel_rfl) (fun _ _ _ h => h) (Or.inl ⟨by kernel_rfl, ?hpo3⟩) (by assumption) ?rpo3
        case hpo3 => intro W hW; obtain ⟨c0, c1⟩ := hW; go_simp; all_goals with_reducible rfl
        change wpAnyH _ _ _ _ _ _ _ (Act.put _ (some 41) _) _
        simp only [Act.put, List.setIfInBounds_toArray, List.set_cons_zero, List.set_cons_succ]
        refine' wpAnyH_take (i := 3) (v := _) rfl (by kernel_rfl) (by kernel_rfl) (by kernel_rfl) (fun _ _ _ h => h) (Or.inl ⟨by kernel_rfl, ?hpo4⟩) (by assumption) ?rpo4
        case hpo4 => intro W hW; obtain ⟨c0, c1⟩ := hW; go_simp; all_goals with_reducible rfl
        change wpAnyH _ _ _ _ _ _ _ (Act.put _ (some 42) _) _
        simp only [Act.put, List.setIfInBounds_toArray, List.set_cons_zero, List.set_cons_succ]
        refine' wpAnyH_take (i := 4) (v := _) rfl (by kernel_rfl) (by kernel_rfl) (by kernel_rfl) (fun _ _ _ h => h) (Or.inl ⟨by kernel_rfl, ?hpo5⟩) (by assumption) ?rpo5
        case hpo5 => intro W hW; obtain ⟨c0, c1⟩ := hW; go_simp; all_goals with_reducible rfl
        change wpAnyH _ _ _ _ _ _ _ (Act.put _ (some 43) _) _
        simp only [Act.put, List.setIfInBounds_toArray, List.set_cons_zero, List.set_cons_succ]
        refine' wpAnyH_take (i := 5) (v := _) rfl (by kernel_rfl) (by kernel_rfl) (by kernel_rfl) (fun _ _ _ h => h) (Or.inl ⟨by kernel_rfl, ?hpo6⟩) (by assumption) ?rpo6
        case hpo6 => intro W hW; obtain ⟨c0, c1⟩ := hW; go_simp; all_goals with_reducible rfl
        change wpAnyH _ _ _ _ _ _ _ (Act.put _ (some 44) _) _
        simp only [Act.put, List.setIfInBounds_toArray, List.set_cons_zero, List.set_cons_succ]
        refine' wpAnyH_take (i := 6) (v := _) rfl (by kernel_rfl) (by kernel_rfl) (by kernel_rfl) (fun _ _ _ h => h) (Or.inl ⟨by kernel_rfl, ?hpo7⟩) (by assumption) ?rpo7
        case hpo7 => intro W hW; obtain ⟨c0, c1⟩ := hW; go_simp; all_goals with_reducible rfl
        change wpAnyH _ _ _ _ _ _ _ (Act.put _ (some 45) _) _
        simp only [Act.put, List.setIfInBounds_toArray, List.set_cons_zero, List.set_cons_succ]
        refine' wpAnyH_take (i := 7) (v := _) rfl (by kernel_rfl) (by kernel_rfl) (by kernel_rfl) (fun _ _ _ h => h) (Or.inl ⟨by kernel_rfl, ?hpo8⟩) (by assumption) ?rpo8
        case hpo8 => intro W hW; obtain ⟨c0, c1⟩ := hW; go_simp; all_goals with_reducible rfl
        change wpAnyH _ _ _ _ _ _ _ (Act.put _ (some 46) _) _
        simp only [Act.put, List.setIfInBounds_toArray, List.set_cons_zero, List.set_cons_succ]
        refine' wpAnyH_take (i := 8) (v := _) rfl (by kernel_rfl) (by kernel_rfl) (by kernel_rfl) (fun _ _ _ h => h) (Or.inl ⟨by kernel_rfl, ?hpo9⟩) (by assumption) ?rpo9
        case hpo9 => intro W hW; obtain ⟨c0, c1⟩ := hW; go_simp; all_goals with_reducible rfl
        change wpAnyH _ _ _ _ _ _ _ (Act.put _ (some 8) _) _
        simp only [Act.put, List.setIfInBounds_toArray, List.set_cons_zero, List.set_cons_succ]
        refine wpAnyH_done (by kernel_rfl) ?_ _
        clear hHeld
        go_wp2_with fail
        all_goals
          first
          | refine (HEND r (by omega)).mono ?_
          | refine (HEND un (by omega)).mono ?_
          rintro e w2 ⟨rfl, hT⟩
          have x4 : w2.cell? ⟨X, 4, none⟩ = some b := hT.1.x.cell 4
          have q4 := hT.1.x.fz 4
          have HR : Hid (SettleTo w B X gs ns sc ca o f (.bool true) (settleL ss (((keptG q L L.length).map (·.1)).zip (cutLast (cutVal r) (keptG q cs L.length)))) (w2.setCell ⟨X, 4, none⟩ (.bool true))) := hT.1.fin hT.2
          clear hT HEND HALL HC HU HNN HMEM HMU
          go_wp2
          go_end0
          exact ⟨rfl, HR.out⟩
end Go.Proofs.Ytdhfbblameiloaa

/-
  Disks of the call's own behind settle and powerOff.
-/
namespace Go.Proofs.Ytdhfbblameiloaa
open Go.RowKit
set_option maxRecDepth 4000

theorem KO.keepT {P : TypeId → Prop} {w w' : World} {B : Nat} {sa : Option Addr} {sc : Nat} {ca : Option Addr} {cc : Nat} {fa : Option Addr} {fc : Nat} {ss cs : List Value} {D : PDisk} (h : KO w B sa sc ca cc fa fc ss cs D) (ho : KeepT P w w') (hs : w.heap.size ≤ w'.heap.size) (h1 : ¬ P 27) (h2 : ¬ P 51) (h3 : ¬ P 79) (h4 : ¬ P 5) : KO w' B sa sc ca cc fa fc ss cs D :=
  ⟨h.sle, h.snil, h.cle, h.cnil, h.fle, h.fnil, h.ns, h.nc, h.secs.keepT ho h1, h.cache.keepT ho h2, h.faults.keepT ho h3, h.bytes.keepT ho hs h4⟩
theorem KO.opsUp {w : World} {B : Nat} {sa : Option Addr} {sc : Nat} {ca : Option Addr} {cc : Nat} {fa : Option Addr} {fc : Nat} {ss cs : List Value} {D : PDisk} (h : KO w B sa sc ca cc fa fc ss cs D) (x : Int) : KO w B sa sc ca cc fa fc ss cs { D with ops := x } :=
  ⟨h.sle, h.snil, h.cle, h.cnil, h.fle, h.fnil, h.ns, h.nc, h.secs, h.cache, h.faults, h.bytes⟩
theorem SettleTo.keepT {w w' : World} {B X gs ns sc : Nat} {ca : Option Addr} {o f b : Value} {rows ys ss : List Value} (h : SettleTo w B X gs ns sc ca o f b rows w') (hX : VN w X 32 ys) (hS : RL 27 w B (some ⟨gs, 0, none⟩) ss) (hss : 0 < ss.length) : KeepT (fun t => t = 32 ∨ t = 27 ∨ t = 51) w w' := by
  intro k c t z hk ht
  refine h.keep k (Array.getElem?_eq_some_iff.1 hk).1 (fun e => ht (.inl ?_)) (fun e => ht (.inr (.inl ?_))) (fun c' z' e => ht (.inr (.inr ?_)))
  · unfold VN at hX
    rw [← e, hk] at hX
    cases hX; rfl
  · rcases hS with h0 | ⟨g', cur, ea, -, hg, -⟩
    · rw [h0] at hss; simp at hss
    · cases ea
      rw [← e, hk] at hg
      cases hg; rfl
  · rw [hk] at e
    cases e; rfl
theorem zip_cache (l : List (Int × List Int)) : (l.map (·.1)).zip (l.map (·.2)) = l := by
  induction l with
  | nil => rfl
  | cons x l ih => simp [ih]
/-- A disk whose cache came into its sectors. -/
theorem KO.settled {w w' : World} {B X gs sc : Nat} {ca : Option Addr} {cc : Nat} {fa : Option Addr} {fc : Nat} {ss cs : List Value} {D : PDisk} {o f b : Value} {ys : List Value} (h : KO w B (some ⟨gs, 0, none⟩) sc ca cc fa fc ss cs D) (hX : VN w X 32 ys) (hp : 0 < D.secs.length) (us : List Value) (L : List (Int × List Int)) (hB : Bs w B (ss ++ us) (D.secs ++ L.map (·.2))) (hu : us.length = L.length) (hT : SettleTo w B X gs D.secs.length sc ca o f b (settleL ss ((L.map (·.1)).zip us)) w') (dn : Bool) : KO w' B (some ⟨gs, 0, none⟩) sc ca 0 fa fc (settleL ss ((L.map (·.1)).zip us)) [] { D with secs := settleL D.secs L, cache := [], down := dn } := by
  have hk := hT.keepT hX h.secs (by rw [h.ns]; exact hp)
  have hb := (Bs.settle (ns := L.map (·.1)) hB h.ns (by simp [hu])).keepT hk hT.size (by decide)
  rw [zip_cache] at hb
  refine ⟨?_, (fun e => by cases e), Nat.le_refl _, fun _ => rfl, h.fle, h.fnil, ?_, rfl, hT.secs, .inl rfl, h.faults.keepT hk (by decide), ?_⟩
  · show (settleL D.secs L).length ≤ sc
    rw [settleL_len]; exact h.sle
  · show _ = (settleL D.secs L).length
    rw [settleL_len, settleL_len]; exact h.ns
  · rw [List.append_nil]
    show Bs w' B _ (settleL D.secs L ++ [])
    rw [List.append_nil]
    exact hb

theorem keptG_sub {α : Type} (keep : Int) (l : List α) : ∀ k, (keptG keep l k).Sublist (l.take k)
  | 0 => by simp [keptG]
  | k + 1 => by
    rw [keptG, List.take_add_one]
    refine (keptG_sub keep l k).append ?_
    split
    · exact List.Sublist.refl _
    · exact List.nil_sublist _
theorem keptG_zip {α β : Type} (keep : Int) {l : List α} {m : List β} (h : l.length = m.length) : ∀ k, (keptG keep l k).zip (keptG keep m k) = keptG keep (l.zip m) k
  | 0 => rfl
  | k + 1 => by
    rw [keptG, keptG, keptG, List.zip_append (keptG_len_eq h k), keptG_zip keep h k]
    congr 1
    split
    · by_cases hk : k < l.length
      · rw [List.getElem?_eq_getElem hk, List.getElem?_eq_getElem (show k < m.length by omega), List.getElem?_eq_getElem (show k < (l.zip m).length by simp; omega)]
        simp
      · rw [List.getElem?_eq_none (by omega), List.getElem?_eq_none (show m.length ≤ k by omega), List.getElem?_eq_none (show (l.zip m).length ≤ k by simp; omega)]
        rfl
    · rfl
theorem OB.cut {w : World} {B r : Nat} {v : Value} {l : List Int} (h : OB w B v l) : OB w B (cutVal r v) (l.take r) := by
  obtain ⟨a, c, rfl, h1, h2, h3, h4⟩ := h.is
  have e : (l.take r).length = min r l.length := List.length_take
  refine ⟨a, min r l.length, by rw [e]; rfl, by rw [e]; exact Nat.le_refl _, fun ea => ?_, fun x hx => h3 x (List.mem_of_mem_take hx), ?_⟩
  · have := h2 ea; omega
  · rcases h4 with h4 | ⟨g, ea, hb, hr⟩
    · exact .inl (by rw [h4]; simp)
    · obtain ⟨cur, hc, hn, hx⟩ := hr
      refine .inr ⟨g, ea, hb, cur, hc, by rw [e]; omega, fun i hi => ?_⟩
      rw [e] at hi
      rw [hx i (by omega)]
      unfold bf
      rw [List.getD_eq_getElem?_getD, List.getD_eq_getElem?_getD, List.getElem?_take, if_pos (by omega)]
theorem own_cut (r : Nat) (v : Value) : (cutVal r v).ownBlock = v.ownBlock := by
  unfold cutVal
  split
  · rename_i a n c
    cases a <;> rfl
  · rfl
/-- Byte rows of which some are kept, the last one cut. -/
theorem Bs.lost {w : World} {B : Nat} {ss cs : List Value} {s : List (List Int)} {L : List (Int × List Int)} (h : Bs w B (ss ++ cs) (s ++ L.map (·.2))) (hs : ss.length = s.length) (q : Int) (r : Nat) : Bs w B (ss ++ cutLast (cutVal r) (keptG q cs L.length)) (s ++ (cutLast (cutW r) (keptG q L L.length)).map (·.2)) ∧ (cutLast (cutVal r) (keptG q cs L.length)).length = (cutLast (cutW r) (keptG q L L.length)).length := by
  have hc : cs.length = L.length := by have := h.len; simp at this; omega
  have hbase : Bs w B (ss ++ keptG q cs L.length) (s ++ (keptG q L L.length).map (·.2)) := by
    have hl2 := keptG_len_eq (keep := q) (l := cs) (m := L) hc L.length
    refine ⟨by simp [hs, hl2], fun i v l h1 h2 => ?_, fun v hv g hg => ?_, ?_⟩
    · by_cases hi : i < ss.length
      · rw [List.getElem?_append_left hi] at h1
        rw [List.getElem?_append_left (by omega)] at h2
        exact h.ob i v l (by rw [List.getElem?_append_left hi]; exact h1) (by rw [List.getElem?_append_left (by omega)]; exact h2)
      · rw [List.getElem?_append_right (by omega)] at h1
        rw [List.getElem?_append_right (by omega), ← hs] at h2
        rw [keptG_map] at h2
        have hz : ((keptG q cs L.length).zip (keptG q (L.map (·.2)) L.length))[i - ss.length]? = some (v, l) := by
          rw [List.getElem?_zip_eq_some]
          exact ⟨h1, h2⟩
        rw [keptG_zip q (by simp [hc])] at hz
        have hm := keptG_mem (List.mem_of_getElem? hz)
        obtain ⟨j, hj, ej⟩ := List.getElem_of_mem hm
        have hj' : (cs.zip (L.map (·.2)))[j]? = some (v, l) := by rw [List.getElem?_eq_getElem hj, ej]
        rw [List.getElem?_zip_eq_some] at hj'
        exact h.ob (ss.length + j) v l (by rw [List.getElem?_append_right (by omega), Nat.add_sub_cancel_left]; exact hj'.1) (by rw [hs, List.getElem?_append_right (by omega), Nat.add_sub_cancel_left]; exact hj'.2)
    · rcases List.mem_append.1 hv with hv | hv
      · exact h.lt v (List.mem_append_left _ hv) g hg
      · exact h.lt v (List.mem_append_right _ (keptG_mem hv)) g hg
    · exact h.apt.sublist ((List.Sublist.refl ss).append ((keptG_sub q cs L.length).trans (List.take_sublist _ _)))
  have hl2 := keptG_len_eq (keep := q) (l := cs) (m := L) hc L.length
  rcases List.eq_nil_or_concat (keptG q L L.length) with e | ⟨L0, x, e⟩
  · have e2 : keptG q cs L.length = [] := List.eq_nil_of_length_eq_zero (by rw [hl2, e]; rfl)
    rw [e, e2] at hbase ⊢
    exact ⟨hbase, rfl⟩
  · rw [List.concat_eq_append] at e
    obtain ⟨u0, u, e2⟩ : ∃ u0 u, keptG q cs L.length = u0 ++ [u] := by
      rcases List.eq_nil_or_concat (keptG q cs L.length) with e3 | ⟨a, b, e3⟩
      · rw [e3, e] at hl2; simp at hl2
      · exact ⟨a, b, by rw [e3, List.concat_eq_append]⟩
    rw [e, e2] at hbase hl2
    rw [e, e2, cutLast_app, cutLast_app]
    have hl3 : u0.length = L0.length := by simpa using hl2
    refine ⟨?_, by simp [hl3]⟩
    rw [List.map_append, List.map_singleton] at hbase
    rw [List.map_append, List.map_singleton]
    refine ⟨by simp [hs, hl3], fun i v l h1 h2 => ?_, fun v hv g hg => ?_, ?_⟩
    · by_cases hi : i < (ss ++ u0).length
      · rw [← List.append_assoc, List.getElem?_append_left hi] at h1
        rw [← List.append_assoc, List.getElem?_append_left (by simp [← hs, ← hl3] at hi ⊢; omega)] at h2
        exact hbase.ob i v l (by rw [← List.append_assoc, List.getElem?_append_left hi]; exact h1) (by rw [← List.append_assoc, List.getElem?_append_left (by simp [← hs, ← hl3] at hi ⊢; omega)]; exact h2)
      · have e0 : (s ++ L0.map (·.2)).length = (ss ++ u0).length := by simp [hs, hl3]
        rw [← List.append_assoc, List.getElem?_append_right (by omega)] at h1
        rw [← List.append_assoc, List.getElem?_append_right (by omega), e0] at h2
        have ei : i - (ss ++ u0).length = 0 := by
          have := (List.getElem?_eq_some_iff.1 h1).1
          simp at this ⊢; omega
        rw [ei] at h1 h2
        simp at h1 h2
        subst h1 h2
        exact (hbase.ob ((ss ++ u0).length) u x.2 (by rw [← List.append_assoc, List.getElem?_append_right (Nat.le_refl _)]; simp) (by rw [← List.append_assoc, ← e0, List.getElem?_append_right (Nat.le_refl _)]; simp)).cut
    · rw [← List.append_assoc] at hv
      rcases List.mem_append.1 hv with hv | hv
      · exact hbase.lt v (by rw [← List.append_assoc]; exact List.mem_append_left _ hv) g hg
      · simp at hv
        subst hv
        rw [own_cut] at hg
        exact hbase.lt u (by simp) g hg
    · have ha := hbase.apt
      rw [← List.append_assoc, List.pairwise_append] at ha ⊢
      refine ⟨ha.1, by simp, fun a h1 b h2 => ?_⟩
      simp at h2
      subst h2
      intro g g1 g2
      rw [own_cut] at g2
      exact ha.2.2 a h1 u (by simp) g g1 g2
end Go.Proofs.Ytdhfbblameiloaa

/-
  A disk's five cells laid into the result's variable.
-/
namespace Go.Proofs.Ytdhfbblameiloaa
open Go.RowKit
set_option maxRecDepth 4000

theorem ret5_vn {W : World} {R : Nat} {z0 z1 z2 z3 z4 : Value} (v0 v1 v2 v3 v4 : Value) (h : VN W R 32 [z0, z1, z2, z3, z4]) : VN (((((W.setCell ⟨R, 0, none⟩ v0).setCell ⟨R, 1, none⟩ v1).setCell ⟨R, 2, none⟩ v2).setCell ⟨R, 3, none⟩ v3).setCell ⟨R, 4, none⟩ v4) R 32 [v0, v1, v2, v3, v4] := by
  have := ((((h.set 0 v0).set 1 v1).set 2 v2).set 3 v3).set 4 v4
  simpa only [List.set] using this
theorem ret5_keep {W : World} {R : Nat} {z0 z1 z2 z3 z4 : Value} (v0 v1 v2 v3 v4 : Value) (h : VN W R 32 [z0, z1, z2, z3, z4]) : KeepT (fun t => t = 32) W (((((W.setCell ⟨R, 0, none⟩ v0).setCell ⟨R, 1, none⟩ v1).setCell ⟨R, 2, none⟩ v2).setCell ⟨R, 3, none⟩ v3).setCell ⟨R, 4, none⟩ v4) := by
  have k0 := keep_vn (P := fun t => t = 32) (i := 0) (u := v0) h rfl
  have k1 := keep_vn (P := fun t => t = 32) (i := 1) (u := v1) (h.set 0 v0) rfl
  have k2 := keep_vn (P := fun t => t = 32) (i := 2) (u := v2) ((h.set 0 v0).set 1 v1) rfl
  have k3 := keep_vn (P := fun t => t = 32) (i := 3) (u := v3) (((h.set 0 v0).set 1 v1).set 2 v2) rfl
  have k4 := keep_vn (P := fun t => t = 32) (i := 4) (u := v4) ((((h.set 0 v0).set 1 v1).set 2 v2).set 3 v3) rfl
  exact (((k0.trans k1).trans k2).trans k3).trans k4
theorem ret5_below {w W : World} {n R : Nat} (v0 v1 v2 v3 v4 : Value) (h : Below n w W) (hR : n ≤ R) : Below n w (((((W.setCell ⟨R, 0, none⟩ v0).setCell ⟨R, 1, none⟩ v1).setCell ⟨R, 2, none⟩ v2).setCell ⟨R, 3, none⟩ v3).setCell ⟨R, 4, none⟩ v4) :=
  ((((h.setCell (p := ⟨R, 0, none⟩) hR _).setCell (p := ⟨R, 1, none⟩) hR _).setCell (p := ⟨R, 2, none⟩) hR _).setCell (p := ⟨R, 3, none⟩) hR _).setCell (p := ⟨R, 4, none⟩) hR _
theorem ret5_size (W : World) (R : Nat) (v0 v1 v2 v3 v4 : Value) : (((((W.setCell ⟨R, 0, none⟩ v0).setCell ⟨R, 1, none⟩ v1).setCell ⟨R, 2, none⟩ v2).setCell ⟨R, 3, none⟩ v3).setCell ⟨R, 4, none⟩ v4).heap.size = W.heap.size := by simp
/-- The rows of a disk, the variable's turned. -/
theorem MS.keepX {w w' : World} {B X gs sc : Nat} {ca : Option Addr} {cc : Nat} {fa : Option Addr} {fc : Nat} {ss cs : List Value} {D : PDisk} {S : List (List Int)} (h : MS w B X gs sc ca cc fa fc ss cs D S) (hk : KeepT (fun t => t = 32) w w') (Y : Nat) (hX : VN w' Y 32 [.slice (some ⟨gs, 0, none⟩) D.secs.length sc, .slice ca D.cache.length cc, .int .i64 D.ops, .slice fa D.faults.length fc, .bool D.down]) : MS w' B Y gs sc ca cc fa fc ss cs D S :=
  ⟨hX, h.secs.keepT hk (by decide), h.ns, h.len, fun i v l h1 h2 => (h.ob i v l h1 h2).keepT hk (by decide), own_keepT h.own hk (by decide), h.nc, fun i v l h1 h2 => (h.cb i v l h1 h2).keepT hk (by decide), own_keepT h.fown hk (by decide)⟩
end Go.Proofs.Ytdhfbblameiloaa

/-
  Drawn bytes: as many as asked, in memory of their own; nothing that was there turns but the cursor.
-/
namespace Go.Proofs.Ytdhfbblameiloaa
open Go.RowKit
set_option maxRecDepth 4000

set_option maxHeartbeats 2000000 in
theorem l1Bytes_any (g : Nat) (ao : Option Addr) (n cap : Nat) (f : Nat → Int) (m : Nat) (w : World) (hn : n ≤ 1048576) (hm : m ≤ 1048576) (hC : Cur w g ao n cap f) :
    Calls Try.prog 123 #[.pointer (some ⟨g, 0, none⟩), .int .i64 (m : Int)] w fun e w' => ∃ (b c : Nat) (l : List Int), e = .returned (.slice (some ⟨b, 0, none⟩) m c) ∧ l.length = m ∧ (∀ y ∈ l, 0 ≤ y ∧ y ≤ 255) ∧ w.heap.size ≤ b ∧ m ≤ c ∧ Row 5 w' b m (fun i => l.getD i 0) ∧ Cur w' g ao n cap f ∧ But g w w' := by
  obtain ⟨i0, hi, hz0, hz1, hz2⟩ := info_parts Try.info5
  have hown0 := World.ownsRow_lit (base := w.heap.size) (e := 5) (size := 1) w #[] 0 (Nat.le_refl _) (Nat.zero_le _) rfl
  have hb0 : Below w.heap.size w (w.alloc (.cells #[] 5)) := (Below.refl _ _).alloc (Nat.le_refl _) _
  have hgl := hC.lt
  have HC : Hid (∀ a, ao = some a → 0 < n → a.block < w.heap.size) := hC.code
  go_enter Try.func123, Try.ntmps123
  go_wp2
  go_loopg [5, 6] m (fun q v i wr => ∃ (k : Nat) (l : List Int), k ≤ m ∧ q = m - k ∧ i = .int .i64 k ∧ l.length = k ∧ (∀ y ∈ l, 0 ≤ y ∧ y ≤ 255) ∧ wr.ownsRow w.heap.size 5 1 v k (bl l) ∧ v ≠ .slice none 0 0 ∧ Cur wr g ao n cap f ∧ But g w wr)
  case atStart => exact ⟨0, [], Nat.zero_le _, rfl, rfl, rfl, (by intro y hy; cases hy), hown0, (by intro h; cases h), hC.below hb0, But.ofBelow hb0⟩
  case round =>
    obtain ⟨k, l, hk, rfl, rfl, hl, hby, hown, hv, hCr, hB⟩ := hrel
    clear hown0 hb0
    have HV : Hid (u5 ≠ .slice none 0 0) := hv
    have HY : Hid (∀ y ∈ l, 0 ≤ y ∧ y ≤ 255) := hby
    have HL : Hid (l.length = k) := hl
    clear hv hby hl
    by_cases hlt : k < m
    · have hkz : (k : Int) < (m : Int) := by omega
      go_wp2_with fail
      refine (l1Byte_any g ao n cap f wr hn hCr).mono ?_
      rintro e w1 ⟨x, rfl, hx0, hx1, hC1, hO1⟩
      have hown1 := hown.kept hO1.grown (Or.inr (fun e => by have := (hown.lt g e).1; omega))
      have hs1 : w.heap.size ≤ w1.heap.size := by rw [hO1.size]; exact hB.size
      go_wp2_with (at_builtin; go_must (refine wpList_append_own _ rfl (.tmp 13) (.tmp 17) 27 rfl w.heap.size 5 i0 (.int .u8 0) 1 1 Try.underlying27 hi hz0 hz1 hz2 rfl (by decide) u5 _ _ rfl (hown1.alloc _) ⟨w1.heap.size, 0, none⟩ 1 1 [.int .u8 x] rfl rfl (cellNew _ _ _) (bl_one [x]) (by unfold maxLen; omega) (by omega) (by simp; omega) ?_); intro v2 w2 hown2 hgr2 hnil)
      have hb2 : Below w1.heap.size w1 (w1.alloc (.cells #[.int .u8 x] 5)) := (Below.refl _ _).alloc (Nat.le_refl _) _
      have hB1 : But g w w1 := hB.trans (But.ofOnly hO1)
      have hB2 : But g w w2 := by
        refine ⟨hgr2.os.trans hB1.os, hgr2.tape.trans hB1.tape, hgr2.output.trans hB1.output, Nat.le_trans hs1 (Nat.le_trans (by simp) hgr2.size), fun j hj hg => ?_⟩
        rw [hgr2.block j (by simp; omega) (fun e => by have := (hown.lt j e.symm).1; omega), Below.heap_alloc _ _ _ (by omega)]
        exact hB1.block j hj hg
      have hC2 : Cur w2 g ao n cap f := (hC1.below hb2).grown hgr2 (fun e => by have := (hown.lt g e).1; omega) (fun a ha h0 e => by have := (hown.lt _ e).1; have := HC.out a ha h0; omega)
      have hO2 : w2.ownsRow w.heap.size 5 1 v2 (k + 1) (bl (l ++ [x])) := by rw [bl_append]; exact hown2
      have HV2 : Hid (v2 ≠ .slice none 0 0) := fun e => HV.out (hnil.1 e).1
      have HY2 : Hid (∀ y ∈ l ++ [x], 0 ≤ y ∧ y ≤ 255) := by
        intro y hy
        rcases List.mem_append.1 hy with hy | hy
        · exact HY.out y hy
        · simp at hy; omega
      have HL2 : Hid ((l ++ [x]).length = k + 1) := by show (l ++ [x]).length = k + 1; rw [List.length_append, HL.out]; rfl
      clear hgr2 hnil hown hown1 hown2 hB hB1 hC1 hCr hO1 hb2
      go_wp2
      go_roundg (m - (k + 1))
      case measure => omega
      case rel => exact ⟨k + 1, l ++ [x], by omega, rfl, by go_num, HL2.out, HY2.out, hO2, HV2.out, hC2, hB2⟩
    · obtain rfl : k = m := by omega
      obtain ⟨b, c, hv5, hb, hc, hrow⟩ := row_of_own' hown HV.out
      clear hown HV
      rw [hv5]
      clear hv5
      go_wp2
      go_ret
      exact ⟨b, c, l, rfl, HL.out, HY.out, hb, hc, hrow, hCr, hB⟩
end Go.Proofs.Ytdhfbblameiloaa

