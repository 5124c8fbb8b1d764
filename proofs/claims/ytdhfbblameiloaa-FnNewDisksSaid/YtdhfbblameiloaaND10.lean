/-
  Together: FaultS, BeginI, DiskPlain
-/
import Derived.Test.YtdhfbblameiloaaND9
import Derived.Deep.LoopGhost
import Derived.Deep.RegionHeld3
import Derived.Test.YtdhfbblameiloaaND5
import Derived.Test.YtdhfbblameiloaaND2
/-
  The model's l12Fault.
-/
namespace Go.Proofs.Ytdhfbblameiloaa
open Go.RowKit
set_option maxRecDepth 4000

/-- The fault of this operation. -/
def findF (l : List PFault) (x : Int) : Option PFault := l.find? (fun f => f.pos == x)
theorem findF_hit {l : List PFault} {x : Int} {k : Nat} (h : k < l.length) (e : (l[k]).pos = x) (hn : ∀ i (h : i < l.length), i < k → (l[i]).pos ≠ x) : findF l x = some l[k] := by
  unfold findF
  rw [List.find?_eq_some_iff_getElem]
  exact ⟨by simpa using e, k, h, rfl, fun j hj => by simpa using hn j (by omega) hj⟩
theorem findF_none {l : List PFault} {x : Int} (hn : ∀ i (h : i < l.length), (l[i]).pos ≠ x) : findF l x = none := by
  unfold findF
  rw [List.find?_eq_none]
  intro f hf
  obtain ⟨i, hi, rfl⟩ := List.getElem_of_mem hf
  simpa using hn i hi
/-- What asking for the fault comes to. -/
def FaultTo (w : World) (D : PDisk) (e : Ending) (w' : World) : Prop := Below w.heap.size w w' ∧ ((∃ f : PFault, findF D.faults D.ops = some f ∧ e = .returned (.tuple #[.agg #[.int .i64 f.pos, .int .i64 f.keep, .int .i64 f.cut], .bool true])) ∨ (findF D.faults D.ops = none ∧ e = .returned (.tuple #[.agg #[.int .i64 0, .int .i64 0, .int .i64 0], .bool false])))

set_option maxHeartbeats 8000000 in
theorem l12Fault_any (v : Value) (D : PDisk) (w : World) (h : KView w v D) (hf : KFine D) :
    Calls Try.prog 116 #[v] w (FaultTo w D) := by
  obtain ⟨sa, sc, ca, cc, fa, fc, rfl, -, -, hfv⟩ := h.is
  clear h
  have hnf := hf.nf
  clear hf
  have HFV : Hid (FView w fa fc D.faults) := hfv
  clear hfv
  have hbel : Below w.heap.size w ((w.alloc (.cells #[.slice sa D.secs.length sc, .slice ca D.cache.length cc, .int .i64 D.ops, .slice fa D.faults.length fc, .bool D.down] 32)).alloc (.cells #[.int .i64 0, .int .i64 0, .int .i64 0] 79)) := ((Below.refl _ _).alloc (Nat.le_refl _) _).alloc (by simp) _
  have hA0 := (VN.new w 32 [.slice sa D.secs.length sc, .slice ca D.cache.length cc, .int .i64 D.ops, .slice fa D.faults.length fc, .bool D.down]).below ((Below.refl _ _).alloc (Nat.le_refl _) (.cells #[.int .i64 0, .int .i64 0, .int .i64 0] 79))
  have hR0 := VN.new (w.alloc (.cells #[.slice sa D.secs.length sc, .slice ca D.cache.length cc, .int .i64 D.ops, .slice fa D.faults.length fc, .bool D.down] 32)) 79 [.int .i64 0, .int .i64 0, .int .i64 0]
  rw [alloc_sizeK] at hR0
  go_enter Try.func116, Try.ntmps116
  go_wp2
  go_loopg [4] D.faults.length (fun q i wr => ∃ k : Nat, k ≤ D.faults.length ∧ q = D.faults.length - k ∧ i = .int .i64 k ∧ Below w.heap.size w wr ∧ VN wr w.heap.size 32 [.slice sa D.secs.length sc, .slice ca D.cache.length cc, .int .i64 D.ops, .slice fa D.faults.length fc, .bool D.down] ∧ VN wr (w.heap.size + 1) 79 [.int .i64 0, .int .i64 0, .int .i64 0] ∧ Hid (∀ i (h : i < D.faults.length), i < k → (D.faults[i]).pos ≠ D.ops))
  case atStart => exact ⟨0, Nat.zero_le _, rfl, rfl, hbel, hA0, hR0, fun i _ hi => absurd hi (Nat.not_lt_zero _)⟩
  case round =>
    clear hbel hA0 hR0
    obtain ⟨k, hk, rfl, rfl, hB, hA, hR, HN⟩ := hrel
    have y2 : wr.cell? ⟨w.heap.size, 2, none⟩ = some (.int .i64 D.ops) := hA.cell 2
    have y3 : wr.cell? ⟨w.heap.size, 3, none⟩ = some (.slice fa D.faults.length fc) := hA.cell 3
    by_cases hlt : k < D.faults.length
    · obtain ⟨b1, o1, e1, hb1, x0, x1, x2⟩ := fview_at (fview_below HFV.out hB) hlt
      subst e1
      have hkz : (k : Int) < (D.faults.length : Int) := by omega
      have HHIT : Hid ((D.faults[k]).pos = D.ops → findF D.faults D.ops = some D.faults[k]) := fun e => findF_hit hlt e HN.out
      have HMISS : Hid (¬ (D.faults[k]).pos = D.ops → ∀ i (h : i < D.faults.length), i < k + 1 → (D.faults[i]).pos ≠ D.ops) := by
        intro hp i h hi
        by_cases e : i < k
        · exact HN.out i h e
        · obtain rfl : i = k := by omega
          exact hp
      obtain ⟨p0, hp0⟩ := hidEx (D.faults[k]).pos
      obtain ⟨p1, hp1⟩ := hidEx (D.faults[k]).keep
      obtain ⟨p2, hp2⟩ := hidEx (D.faults[k]).cut
      have HP : Hid ((D.faults[k]).pos = p0 ∧ (D.faults[k]).keep = p1 ∧ (D.faults[k]).cut = p2) := ⟨hp0.out, hp1.out, hp2.out⟩
      rw [hp0.out] at x0 HHIT HMISS
      rw [hp1.out] at x1
      rw [hp2.out] at x2
      have hRd : VN wr.drew (w.heap.size + 1) 79 [.int .i64 0, .int .i64 0, .int .i64 0] := hR.block rfl
      clear HN hR
      go_wp2_with fail
      refine wp_region_held_drew (S := fun W => W.cell? ⟨w.heap.size, 2, none⟩ = some (.int .i64 D.ops) ∧ W.cell? ⟨w.heap.size, 3, none⟩ = some (.slice (some ⟨b1, o1, none⟩) D.faults.length fc) ∧ W.cell? ⟨b1, o1 + k * 3, none⟩ = some (.int .i64 p0)) (by kernel_rfl) ⟨y2, y3, x0⟩ (fun hHeld => ?_)
      have hBd : Below w.heap.size w wr.drew := hB.drew
      have hAd : VN wr.drew w.heap.size 32 [.slice sa D.secs.length sc, .slice ca D.cache.length cc, .int .i64 D.ops, .slice (some ⟨b1, o1, none⟩) D.faults.length fc, .bool D.down] := hA.block rfl
      obtain ⟨wd, hwd⟩ := hidEx wr.drew
      rw [hwd.out] at hRd hBd hAd hHeld ⊢
      refine' wpAnyH_take (i := 0) (v := _) rfl (by kernel_rfl) (by kernel_rfl) (by kernel_rfl) (fun _ _ _ h => h) (Or.inl ⟨by kernel_rfl, ?hfl1⟩) (by assumption) ?rfl1
      case hfl1 => intro W hW; obtain ⟨c0, c1, c2⟩ := hW; go_simp; all_goals with_reducible rfl
      change wpAnyH _ _ _ _ _ _ _ (Act.put _ (some 12) _) _
      simp only [Act.put, List.setIfInBounds_toArray, List.set_cons_zero, List.set_cons_succ]
      refine' wpAnyH_take (i := 1) (v := _) rfl (by kernel_rfl) (by kernel_rfl) (by kernel_rfl) (fun _ _ _ h => h) (Or.inl ⟨by kernel_rfl, ?hfl2⟩) (by assumption) ?rfl2
      case hfl2 => intro W hW; obtain ⟨c0, c1, c2⟩ := hW; go_simp; all_goals with_reducible rfl
      change wpAnyH _ _ _ _ _ _ _ (Act.put _ (some 13) _) _
      simp only [Act.put, List.setIfInBounds_toArray, List.set_cons_zero, List.set_cons_succ]
      refine' wpAnyH_take (i := 2) (v := _) rfl (by kernel_rfl) (by kernel_rfl) (by kernel_rfl) (fun _ _ _ h => h) (Or.inl ⟨by kernel_rfl, ?hfl3⟩) (by assumption) ?rfl3
      case hfl3 => intro W hW; obtain ⟨c0, c1, c2⟩ := hW; go_simp; all_goals with_reducible rfl
      change wpAnyH _ _ _ _ _ _ _ (Act.put _ (some 14) _) _
      simp only [Act.put, List.setIfInBounds_toArray, List.set_cons_zero, List.set_cons_succ]
      refine' wpAnyH_take (i := 3) (v := _) rfl (by kernel_rfl) (by kernel_rfl) (by kernel_rfl) (fun _ _ _ h => h) (Or.inl ⟨by kernel_rfl, ?hfl4⟩) (by assumption) ?rfl4
      case hfl4 => intro W hW; obtain ⟨c0, c1, c2⟩ := hW; go_simp; all_goals with_reducible rfl
      change wpAnyH _ _ _ _ _ _ _ (Act.put _ (some 15) _) _
      simp only [Act.put, List.setIfInBounds_toArray, List.set_cons_zero, List.set_cons_succ]
      refine' wpAnyH_take (i := 4) (v := _) rfl (by kernel_rfl) (by kernel_rfl) (by kernel_rfl) (fun _ _ _ h => h) (Or.inl ⟨by kernel_rfl, ?hfl5⟩) (by assumption) ?rfl5
      case hfl5 => intro W hW; obtain ⟨c0, c1, c2⟩ := hW; go_simp; all_goals with_reducible rfl
      change wpAnyH _ _ _ _ _ _ _ (Act.put _ (some 16) _) _
      simp only [Act.put, List.setIfInBounds_toArray, List.set_cons_zero, List.set_cons_succ]
      refine' wpAnyH_take (i := 5) (v := _) rfl (by kernel_rfl) (by kernel_rfl) (by kernel_rfl) (fun _ _ _ h => h) (Or.inl ⟨by kernel_rfl, ?hfl6⟩) (by assumption) ?rfl6
      case hfl6 => intro W hW; obtain ⟨c0, c1, c2⟩ := hW; go_simp; all_goals with_reducible rfl
      change wpAnyH _ _ _ _ _ _ _ (Act.put _ (some 17) _) _
      simp only [Act.put, List.setIfInBounds_toArray, List.set_cons_zero, List.set_cons_succ]
      refine' wpAnyH_take (i := 6) (v := _) rfl (by kernel_rfl) (by kernel_rfl) (by kernel_rfl) (fun _ _ _ h => h) (Or.inl ⟨by kernel_rfl, ?hfl7⟩) (by assumption) ?rfl7
      case hfl7 => intro W hW; obtain ⟨c0, c1, c2⟩ := hW; go_simp; all_goals with_reducible rfl
      change wpAnyH _ _ _ _ _ _ _ (Act.put _ (some 18) _) _
      simp only [Act.put, List.setIfInBounds_toArray, List.set_cons_zero, List.set_cons_succ]
      refine' wpAnyH_take (i := 7) (v := _) rfl (by kernel_rfl) (by kernel_rfl) (by kernel_rfl) (fun _ _ _ h => h) (Or.inl ⟨by kernel_rfl, ?hfl8⟩) (by assumption) ?rfl8
      case hfl8 => intro W hW; obtain ⟨c0, c1, c2⟩ := hW; go_simp; all_goals with_reducible rfl
      change wpAnyH _ _ _ _ _ _ _ (Act.put _ (some 19) _) _
      simp only [Act.put, List.setIfInBounds_toArray, List.set_cons_zero, List.set_cons_succ]
      refine' wpAnyH_take (i := 8) (v := _) rfl (by kernel_rfl) (by kernel_rfl) (by kernel_rfl) (fun _ _ _ h => h) (Or.inl ⟨by kernel_rfl, ?hfl9⟩) (by assumption) ?rfl9
      case hfl9 => intro W hW; obtain ⟨c0, c1, c2⟩ := hW; go_simp; all_goals with_reducible rfl
      change wpAnyH _ _ _ _ _ _ _ (Act.put _ (some 20) _) _
      simp only [Act.put, List.setIfInBounds_toArray, List.set_cons_zero, List.set_cons_succ]
      refine wpAnyH_done (by kernel_rfl) ?_ _
      clear hHeld
      by_cases hN : p0 = D.ops
      · have HR : Hid (findF D.faults D.ops = some D.faults[k]) := HHIT.out hN
        subst hN
        have hq : (D.ops == D.ops) = true := beq_self_eq_true _
        clear HHIT HMISS
        have R1 := hRd.set 0 (.int .i64 D.ops)
        have R2 := R1.set 1 (.int .i64 p1)
        have R3 := R2.set 2 (.int .i64 p2)
        simp only [List.set] at R3
        have r0 : wd.cell? ⟨w.heap.size + 1, 0, none⟩ = some (.int .i64 0) := hRd.cell 0
        have r1 : wd.cell? ⟨w.heap.size + 1, 1, none⟩ = some (.int .i64 0) := hRd.cell 1
        have r2 : wd.cell? ⟨w.heap.size + 1, 2, none⟩ = some (.int .i64 0) := hRd.cell 2
        have q0 := hRd.fz 0
        have q1 := hRd.fz 1
        have q2 := hRd.fz 2
        have m0 : (((wd.setCell ⟨w.heap.size + 1, 0, none⟩ (.int .i64 D.ops)).setCell ⟨w.heap.size + 1, 1, none⟩ (.int .i64 p1)).setCell ⟨w.heap.size + 1, 2, none⟩ (.int .i64 p2)).cell? ⟨w.heap.size + 1, 0, none⟩ = some (.int .i64 D.ops) := R3.cell 0
        have m1 : (((wd.setCell ⟨w.heap.size + 1, 0, none⟩ (.int .i64 D.ops)).setCell ⟨w.heap.size + 1, 1, none⟩ (.int .i64 p1)).setCell ⟨w.heap.size + 1, 2, none⟩ (.int .i64 p2)).cell? ⟨w.heap.size + 1, 1, none⟩ = some (.int .i64 p1) := R3.cell 1
        have m2 : (((wd.setCell ⟨w.heap.size + 1, 0, none⟩ (.int .i64 D.ops)).setCell ⟨w.heap.size + 1, 1, none⟩ (.int .i64 p1)).setCell ⟨w.heap.size + 1, 2, none⟩ (.int .i64 p2)).cell? ⟨w.heap.size + 1, 2, none⟩ = some (.int .i64 p2) := R3.cell 2
        have HB : Hid (Below w.heap.size w (((wd.setCell ⟨w.heap.size + 1, 0, none⟩ (.int .i64 D.ops)).setCell ⟨w.heap.size + 1, 1, none⟩ (.int .i64 p1)).setCell ⟨w.heap.size + 1, 2, none⟩ (.int .i64 p2))) := ((hBd.setCell (p := ⟨w.heap.size + 1, 0, none⟩) (by simp) _).setCell (p := ⟨w.heap.size + 1, 1, none⟩) (by simp) _).setCell (p := ⟨w.heap.size + 1, 2, none⟩) (by simp) _
        have y2d : wd.cell? ⟨w.heap.size, 2, none⟩ = some (.int .i64 D.ops) := by rw [← hwd.out]; exact y2
        have y3d : wd.cell? ⟨w.heap.size, 3, none⟩ = some (.slice (some ⟨b1, o1, none⟩) D.faults.length fc) := by rw [← hwd.out]; exact y3
        have x0d : wd.cell? ⟨b1, o1 + k * 3, none⟩ = some (.int .i64 D.ops) := by rw [← hwd.out]; exact x0
        have x1d : wd.cell? ⟨b1, o1 + k * 3 + 1, none⟩ = some (.int .i64 p1) := by rw [← hwd.out]; exact x1
        have x2d : wd.cell? ⟨b1, o1 + k * 3 + 2, none⟩ = some (.int .i64 p2) := by rw [← hwd.out]; exact x2
        clear R1 R2 R3 hRd hA hB hBd y2 y3 x0 x1 x2
        go_wp2
        exact bodyPost_ret (v := .tuple #[.agg #[.int .i64 D.ops, .int .i64 p1, .int .i64 p2], .bool true]) (by simp [results, Try.results116, go_sem, m0, m1, m2]) rfl ⟨HB.out, .inl ⟨D.faults[k], HR.out, by rw [HP.out.1, HP.out.2.1, HP.out.2.2]⟩⟩
      · have HN2 : Hid (∀ i (h : i < D.faults.length), i < k + 1 → (D.faults[i]).pos ≠ D.ops) := HMISS.out hN
        have hq : (p0 == D.ops) = false := beq_eq_false_iff_ne.2 hN
        clear HHIT HMISS
        go_wp2
        go_roundg (D.faults.length - (k + 1))
        case measure => omega
        case rel => exact ⟨k + 1, by omega, rfl, by go_num, hBd, hAd, hRd, HN2⟩
    · have hkz : ¬ (k : Int) < (D.faults.length : Int) := by omega
      have HR : Hid (findF D.faults D.ops = none) := findF_none (fun i h => HN.out i h (by omega))
      have R3 := ((hR.set 0 (.int .i64 0)).set 1 (.int .i64 0)).set 2 (.int .i64 0)
      simp only [List.set] at R3
      have r0 : wr.cell? ⟨w.heap.size + 1, 0, none⟩ = some (.int .i64 0) := hR.cell 0
      have r1 : wr.cell? ⟨w.heap.size + 1, 1, none⟩ = some (.int .i64 0) := hR.cell 1
      have r2 : wr.cell? ⟨w.heap.size + 1, 2, none⟩ = some (.int .i64 0) := hR.cell 2
      have q0 := hR.fz 0
      have q1 := hR.fz 1
      have q2 := hR.fz 2
      have m0 : (((wr.setCell ⟨w.heap.size + 1, 0, none⟩ (.int .i64 0)).setCell ⟨w.heap.size + 1, 1, none⟩ (.int .i64 0)).setCell ⟨w.heap.size + 1, 2, none⟩ (.int .i64 0)).cell? ⟨w.heap.size + 1, 0, none⟩ = some (.int .i64 0) := R3.cell 0
      have m1 : (((wr.setCell ⟨w.heap.size + 1, 0, none⟩ (.int .i64 0)).setCell ⟨w.heap.size + 1, 1, none⟩ (.int .i64 0)).setCell ⟨w.heap.size + 1, 2, none⟩ (.int .i64 0)).cell? ⟨w.heap.size + 1, 1, none⟩ = some (.int .i64 0) := R3.cell 1
      have m2 : (((wr.setCell ⟨w.heap.size + 1, 0, none⟩ (.int .i64 0)).setCell ⟨w.heap.size + 1, 1, none⟩ (.int .i64 0)).setCell ⟨w.heap.size + 1, 2, none⟩ (.int .i64 0)).cell? ⟨w.heap.size + 1, 2, none⟩ = some (.int .i64 0) := R3.cell 2
      have HB : Hid (Below w.heap.size w (((wr.setCell ⟨w.heap.size + 1, 0, none⟩ (.int .i64 0)).setCell ⟨w.heap.size + 1, 1, none⟩ (.int .i64 0)).setCell ⟨w.heap.size + 1, 2, none⟩ (.int .i64 0))) := ((hB.setCell (p := ⟨w.heap.size + 1, 0, none⟩) (by simp) _).setCell (p := ⟨w.heap.size + 1, 1, none⟩) (by simp) _).setCell (p := ⟨w.heap.size + 1, 2, none⟩) (by simp) _
      clear R3 hR hA hB HN
      go_wp2
      exact bodyPost_ret (v := .tuple #[.agg #[.int .i64 0, .int .i64 0, .int .i64 0], .bool false]) (by simp [results, Try.results116, go_sem, m0, m1, m2]) rfl ⟨HB.out, .inr ⟨HR.out, rfl⟩⟩
end Go.Proofs.Ytdhfbblameiloaa

/-
  The program's begin and isStopped.
-/
namespace Go.Proofs.Ytdhfbblameiloaa
open Go.RowKit
set_option maxRecDepth 4000

/-- Of what was there block X alone may have turned. -/
structure ButX (X : Nat) (w w' : World) : Prop where
  os : w'.os = w.os
  tape : w'.tape = w.tape
  output : w'.output = w.output
  size : w.heap.size ≤ w'.heap.size
  block : ∀ k, k < w.heap.size → k ≠ X → w'.heap[k]? = w.heap[k]?
theorem ButX.refl (X : Nat) (w : World) : ButX X w w := ⟨rfl, rfl, rfl, Nat.le_refl _, fun _ _ _ => rfl⟩
theorem ButX.trans {X : Nat} {a b c : World} (h : ButX X a b) (k : ButX X b c) : ButX X a c := ⟨k.os.trans h.os, k.tape.trans h.tape, k.output.trans h.output, Nat.le_trans h.size k.size, fun i hi ho => (k.block i (Nat.lt_of_lt_of_le hi h.size) ho).trans (h.block i hi ho)⟩
theorem ButX.on {X : Nat} {w w' w2 : World} (h : ButX X w w') (hb : Below w'.heap.size w' w2) : ButX X w w2 := h.trans ⟨hb.os, hb.tape, hb.output, hb.size, fun k hk _ => hb.block k hk⟩
theorem ButX.set {X i : Nat} {w w' : World} (h : ButX X w w') (u : Value) : ButX X w (w'.setCell ⟨X, i, none⟩ u) := ⟨h.os, h.tape, h.output, by simpa using h.size, fun k hk ho => (Below.heap_setCell _ _ _ _ (show k ≠ X from ho)).trans (h.block k hk ho)⟩
theorem ButX.new {X C i : Nat} {w w' : World} (h : ButX X w w') (hC : w.heap.size ≤ C) (u : Value) : ButX X w (w'.setCell ⟨C, i, none⟩ u) := ⟨h.os, h.tape, h.output, by simpa using h.size, fun k hk ho => (Below.heap_setCell _ _ _ _ (show k ≠ C by omega)).trans (h.block k hk ho)⟩
theorem ButX.keep {X : Nat} {w w' : World} {ys : List Value} (h : ButX X w w') (hX : VN w X 32 ys) : KeepT (fun t => t = 32) w w' := by
  intro b c t z hb ht
  refine h.block b (Array.getElem?_eq_some_iff.1 hb).1 (fun e => ?_)
  unfold VN at hX
  rw [e, hX] at hb
  cases hb
  exact ht rfl
theorem fview_rl {w : World} {B : Nat} {a : Option Addr} {cap : Nat} {l : List PFault} (h : RL 79 w B a (fcells l)) (hl : l.length ≤ cap) (hn : a = none → cap = 0) : FView w a cap l := by
  refine ⟨hl, hn, fun hp => ?_⟩
  obtain ⟨g', ea, -, hlt, hc⟩ := h.cell (by rw [fcells_len]; omega)
  subst ea
  refine ⟨g', 0, rfl, hlt, fun i x hi => ⟨fEl x, rfl, fun j u hj => ?_⟩⟩
  have hj3 : j < 3 := (List.getElem?_eq_some_iff.1 hj).1
  have g0 := fcells_get hi hj3
  rw [hj] at g0
  simpa using hc _ _ g0

set_option maxHeartbeats 1000000 in
theorem isStopped_any (v : Value) (D : PDisk) (w : World) (h : KView w v D) :
    Calls Try.prog 64 #[v] w fun e w' => ∃ r : Bool, e = .returned (.bool r) ∧ (r = true ↔ D.down = true ∨ 100000 ≤ D.ops) ∧ Below w.heap.size w w' := by
  obtain ⟨sa, sc, ca, cc, fa, fc, rfl, -, -, -⟩ := h.is
  clear h
  have hb : Below w.heap.size w (w.alloc (.cells #[.slice sa D.secs.length sc, .slice ca D.cache.length cc, .int .i64 D.ops, .slice fa D.faults.length fc, .bool D.down] 32)) := (Below.refl _ _).alloc (Nat.le_refl _) _
  obtain ⟨dn, hdn⟩ := hidEx D.down
  rw [hdn.out] at hb ⊢
  cases dn
  · go_enter Try.func64, Try.ntmps64
    go_wp2
    go_ret
    exact ⟨decide (100000 ≤ D.ops), rfl, by simp, hb⟩
  · go_enter Try.func64, Try.ntmps64
    go_wp2
    go_ret
    exact ⟨true, rfl, by simp, hb⟩

/-- What begin comes to. -/
def BeginTo (w : World) (X : Nat) (s c : Value) (ops : Int) (fa : Option Addr) (fc : Nat) (l : List PFault) (b : Value) (e : Ending) (w' : World) : Prop :=
  ButX X w w' ∧ VN w' X 32 [s, c, .int .i64 (ops + 1), .slice fa l.length fc, b] ∧ ((∃ f : PFault, findF l ops = some f ∧ e = .returned (.tuple #[.agg #[.int .i64 f.pos, .int .i64 f.keep, .int .i64 f.cut], .bool true])) ∨ (findF l ops = none ∧ e = .returned (.tuple #[.agg #[.int .i64 0, .int .i64 0, .int .i64 0], .bool false])))

set_option maxHeartbeats 8000000 in
theorem begin_any (X B : Nat) (s c : Value) (ops : Int) (fa : Option Addr) (fc : Nat) (l : List PFault) (b : Value) (w : World) (hX : VN w X 32 [s, c, .int .i64 ops, .slice fa l.length fc, b]) (hF : RL 79 w B fa (fcells l)) (hle : l.length ≤ fc) (hnil : fa = none → fc = 0) (hn : l.length ≤ 1048576) (h0 : 0 ≤ ops) (h1 : ops ≤ 1000000) :
    Calls Try.prog 65 #[.pointer (some ⟨X, 0, none⟩)] w (BeginTo w X s c ops fa fc l b) := by
  have hXlt := hX.lt
  have x2 : w.cell? ⟨X, 2, none⟩ = some (.int .i64 ops) := hX.cell 2
  have q2 := hX.fz 2
  have X1 := hX.set 2 (.int .i64 (ops + 1))
  simp only [List.set] at X1
  have hsz1 : (w.setCell ⟨X, 2, none⟩ (.int .i64 (ops + 1))).heap.size = w.heap.size := by simp
  have hbA : Below (w.setCell ⟨X, 2, none⟩ (.int .i64 (ops + 1))).heap.size (w.setCell ⟨X, 2, none⟩ (.int .i64 (ops + 1))) ((w.setCell ⟨X, 2, none⟩ (.int .i64 (ops + 1))).alloc (.cells #[.int .i64 0, .int .i64 0, .int .i64 0] 79)) := (Below.refl _ _).alloc (Nat.le_refl _) _
  have X2 := X1.below hbA
  have R2 := VN.new (w.setCell ⟨X, 2, none⟩ (.int .i64 (ops + 1))) 79 [.int .i64 0, .int .i64 0, .int .i64 0]
  rw [hsz1] at R2
  have hw1 : IntKind.i64.wrap (ops + 1) = ops + 1 := by rw [IntKind.wrap_i64]; omega
  have hBX : ButX X w ((w.setCell ⟨X, 2, none⟩ (.int .i64 (ops + 1))).alloc (.cells #[.int .i64 0, .int .i64 0, .int .i64 0] 79)) := ((ButX.refl X w).set _).on hbA
  have x3 : ((w.setCell ⟨X, 2, none⟩ (.int .i64 (ops + 1))).alloc (.cells #[.int .i64 0, .int .i64 0, .int .i64 0] 79)).cell? ⟨X, 3, none⟩ = some (.slice fa l.length fc) := X2.cell 3
  have HF : Hid (∀ W, ButX X w W → FView W fa fc l) := fun W hb => fview_rl (hF.keepT (hb.keep hX) (by decide)) hle hnil
  clear X1 hX hF hbA
  have x2a : (w.alloc (.cells #[.int .i64 0, .int .i64 0, .int .i64 0] 79)).cell? ⟨X, 2, none⟩ = some (.int .i64 ops) := by
    rw [((Below.refl w.heap.size w).alloc (Nat.le_refl _) (.cells #[.int .i64 0, .int .i64 0, .int .i64 0] 79)).cell (p := ⟨X, 2, none⟩) hXlt]
    exact x2
  have q2a : (w.alloc (.cells #[.int .i64 0, .int .i64 0, .int .i64 0] 79)).frozen? ⟨X, 2, none⟩ = false := by
    rw [((Below.refl w.heap.size w).alloc (Nat.le_refl _) (.cells #[.int .i64 0, .int .i64 0, .int .i64 0] 79)).frozen (p := ⟨X, 2, none⟩) hXlt]
    exact q2
  go_enter Try.func65, Try.ntmps65
  go_wp2
  go_loopg [23] l.length (fun q i wr => ∃ k : Nat, k ≤ l.length ∧ q = l.length - k ∧ i = .int .i64 k ∧ ButX X w wr ∧ VN wr X 32 [s, c, .int .i64 (ops + 1), .slice fa l.length fc, b] ∧ VN wr w.heap.size 79 [.int .i64 0, .int .i64 0, .int .i64 0] ∧ Hid (∀ i (h : i < l.length), i < k → (l[i]).pos ≠ ops))
  case atStart => exact ⟨0, Nat.zero_le _, rfl, rfl, hBX, X2, R2, fun i _ hi => absurd hi (Nat.not_lt_zero _)⟩
  case round =>
    clear hBX X2 R2 x3 x2 q2 x2a q2a
    obtain ⟨k, hk, rfl, rfl, hB, hX, hR, HN⟩ := hrel
    by_cases hlt : k < l.length
    · obtain ⟨b1, o1, e1, hb1, x0, x1, x2⟩ := fview_at (HF.out wr hB) hlt
      subst e1
      have hkz : (k : Int) < (l.length : Int) := by omega
      have HHIT : Hid ((l[k]).pos = ops → findF l ops = some l[k]) := fun e => findF_hit hlt e HN.out
      have HMISS : Hid (¬ (l[k]).pos = ops → ∀ i (h : i < l.length), i < k + 1 → (l[i]).pos ≠ ops) := by
        intro hp i h hi
        by_cases e : i < k
        · exact HN.out i h e
        · obtain rfl : i = k := by omega
          exact hp
      obtain ⟨p0, hp0⟩ := hidEx (l[k]).pos
      obtain ⟨p1, hp1⟩ := hidEx (l[k]).keep
      obtain ⟨p2, hp2⟩ := hidEx (l[k]).cut
      have HP : Hid ((l[k]).pos = p0 ∧ (l[k]).keep = p1 ∧ (l[k]).cut = p2) := ⟨hp0.out, hp1.out, hp2.out⟩
      rw [hp0.out] at x0 HHIT HMISS
      rw [hp1.out] at x1
      rw [hp2.out] at x2
      clear HN
      have hbB : Below wr.heap.size wr (wr.alloc (.cells #[.int .i64 p0, .int .i64 p1, .int .i64 p2] 79)) := (Below.refl _ _).alloc (Nat.le_refl _) _
      replace hR := hR.below hbB
      replace hX := hX.below hbB
      replace hB := hB.on hbB
      by_cases hN : p0 = ops
      · subst hN
        have hq : (p0 == p0) = true := beq_self_eq_true _
        have HR : Hid (findF l p0 = some l[k]) := HHIT.out rfl
        have r0 : (wr.alloc (.cells #[.int .i64 p0, .int .i64 p1, .int .i64 p2] 79)).cell? ⟨w.heap.size, 0, none⟩ = some (.int .i64 0) := hR.cell 0
        have r1 : (wr.alloc (.cells #[.int .i64 p0, .int .i64 p1, .int .i64 p2] 79)).cell? ⟨w.heap.size, 1, none⟩ = some (.int .i64 0) := hR.cell 1
        have r2 : (wr.alloc (.cells #[.int .i64 p0, .int .i64 p1, .int .i64 p2] 79)).cell? ⟨w.heap.size, 2, none⟩ = some (.int .i64 0) := hR.cell 2
        have q0 := hR.fz 0
        have q1 := hR.fz 1
        have q2 := hR.fz 2
        have R3 := ((hR.set 0 (.int .i64 p0)).set 1 (.int .i64 p1)).set 2 (.int .i64 p2)
        simp only [List.set] at R3
        have X3 := ((hX.other (C := w.heap.size) (i := 0) (u := .int .i64 p0) (by omega)).other (C := w.heap.size) (i := 1) (u := .int .i64 p1) (by omega)).other (C := w.heap.size) (i := 2) (u := .int .i64 p2) (by omega)
        have B3 := ((hB.new (C := w.heap.size) (i := 0) (Nat.le_refl _) (.int .i64 p0)).new (C := w.heap.size) (i := 1) (Nat.le_refl _) (.int .i64 p1)).new (C := w.heap.size) (i := 2) (Nat.le_refl _) (.int .i64 p2)
        have m0 : ((((wr.alloc (.cells #[.int .i64 p0, .int .i64 p1, .int .i64 p2] 79)).setCell ⟨w.heap.size, 0, none⟩ (.int .i64 p0)).setCell ⟨w.heap.size, 1, none⟩ (.int .i64 p1)).setCell ⟨w.heap.size, 2, none⟩ (.int .i64 p2)).cell? ⟨w.heap.size, 0, none⟩ = some (.int .i64 p0) := R3.cell 0
        have m1 : ((((wr.alloc (.cells #[.int .i64 p0, .int .i64 p1, .int .i64 p2] 79)).setCell ⟨w.heap.size, 0, none⟩ (.int .i64 p0)).setCell ⟨w.heap.size, 1, none⟩ (.int .i64 p1)).setCell ⟨w.heap.size, 2, none⟩ (.int .i64 p2)).cell? ⟨w.heap.size, 1, none⟩ = some (.int .i64 p1) := R3.cell 1
        have m2 : ((((wr.alloc (.cells #[.int .i64 p0, .int .i64 p1, .int .i64 p2] 79)).setCell ⟨w.heap.size, 0, none⟩ (.int .i64 p0)).setCell ⟨w.heap.size, 1, none⟩ (.int .i64 p1)).setCell ⟨w.heap.size, 2, none⟩ (.int .i64 p2)).cell? ⟨w.heap.size, 2, none⟩ = some (.int .i64 p2) := R3.cell 2
        have HE : Hid (ButX X w ((((wr.alloc (.cells #[.int .i64 p0, .int .i64 p1, .int .i64 p2] 79)).setCell ⟨w.heap.size, 0, none⟩ (.int .i64 p0)).setCell ⟨w.heap.size, 1, none⟩ (.int .i64 p1)).setCell ⟨w.heap.size, 2, none⟩ (.int .i64 p2)) ∧ VN ((((wr.alloc (.cells #[.int .i64 p0, .int .i64 p1, .int .i64 p2] 79)).setCell ⟨w.heap.size, 0, none⟩ (.int .i64 p0)).setCell ⟨w.heap.size, 1, none⟩ (.int .i64 p1)).setCell ⟨w.heap.size, 2, none⟩ (.int .i64 p2)) X 32 [s, c, .int .i64 (p0 + 1), .slice (some ⟨b1, o1, none⟩) l.length fc, b]) := ⟨B3, X3⟩
        clear R3 X3 B3 hR hX hB hbB HHIT HMISS HF
        go_wp2
        exact bodyPost_ret (v := .tuple #[.agg #[.int .i64 p0, .int .i64 p1, .int .i64 p2], .bool true]) (by simp [results, Try.results65, go_sem, m0, m1, m2]) rfl ⟨HE.out.1, HE.out.2, .inl ⟨l[k], HR.out, by rw [HP.out.1, HP.out.2.1, HP.out.2.2]⟩⟩
      · have HN2 : Hid (∀ i (h : i < l.length), i < k + 1 → (l[i]).pos ≠ ops) := HMISS.out hN
        have hq : (p0 == ops) = false := beq_eq_false_iff_ne.2 hN
        clear HHIT HMISS
        go_wp2
        go_roundg (l.length - (k + 1))
        case measure => omega
        case rel => exact ⟨k + 1, by omega, rfl, by go_num, hB, hX, hR, HN2⟩
    · have hkz : ¬ (k : Int) < (l.length : Int) := by omega
      have HR : Hid (findF l ops = none) := findF_none (fun i h => HN.out i h (by omega))
      have r0 : wr.cell? ⟨w.heap.size, 0, none⟩ = some (.int .i64 0) := hR.cell 0
      have r1 : wr.cell? ⟨w.heap.size, 1, none⟩ = some (.int .i64 0) := hR.cell 1
      have r2 : wr.cell? ⟨w.heap.size, 2, none⟩ = some (.int .i64 0) := hR.cell 2
      have q0 := hR.fz 0
      have q1 := hR.fz 1
      have q2 := hR.fz 2
      have R3 := ((hR.set 0 (.int .i64 0)).set 1 (.int .i64 0)).set 2 (.int .i64 0)
      simp only [List.set] at R3
      have X3 := ((hX.other (C := w.heap.size) (i := 0) (u := .int .i64 0) (by omega)).other (C := w.heap.size) (i := 1) (u := .int .i64 0) (by omega)).other (C := w.heap.size) (i := 2) (u := .int .i64 0) (by omega)
      have B3 := ((hB.new (C := w.heap.size) (i := 0) (Nat.le_refl _) (.int .i64 0)).new (C := w.heap.size) (i := 1) (Nat.le_refl _) (.int .i64 0)).new (C := w.heap.size) (i := 2) (Nat.le_refl _) (.int .i64 0)
      have m0 : (((wr.setCell ⟨w.heap.size, 0, none⟩ (.int .i64 0)).setCell ⟨w.heap.size, 1, none⟩ (.int .i64 0)).setCell ⟨w.heap.size, 2, none⟩ (.int .i64 0)).cell? ⟨w.heap.size, 0, none⟩ = some (.int .i64 0) := R3.cell 0
      have m1 : (((wr.setCell ⟨w.heap.size, 0, none⟩ (.int .i64 0)).setCell ⟨w.heap.size, 1, none⟩ (.int .i64 0)).setCell ⟨w.heap.size, 2, none⟩ (.int .i64 0)).cell? ⟨w.heap.size, 1, none⟩ = some (.int .i64 0) := R3.cell 1
      have m2 : (((wr.setCell ⟨w.heap.size, 0, none⟩ (.int .i64 0)).setCell ⟨w.heap.size, 1, none⟩ (.int .i64 0)).setCell ⟨w.heap.size, 2, none⟩ (.int .i64 0)).cell? ⟨w.heap.size, 2, none⟩ = some (.int .i64 0) := R3.cell 2
      have HE : Hid (ButX X w (((wr.setCell ⟨w.heap.size, 0, none⟩ (.int .i64 0)).setCell ⟨w.heap.size, 1, none⟩ (.int .i64 0)).setCell ⟨w.heap.size, 2, none⟩ (.int .i64 0)) ∧ VN (((wr.setCell ⟨w.heap.size, 0, none⟩ (.int .i64 0)).setCell ⟨w.heap.size, 1, none⟩ (.int .i64 0)).setCell ⟨w.heap.size, 2, none⟩ (.int .i64 0)) X 32 [s, c, .int .i64 (ops + 1), .slice fa l.length fc, b]) := ⟨B3, X3⟩
      clear R3 X3 B3 hR hX hB HN HF
      go_wp2
      exact bodyPost_ret (v := .tuple #[.agg #[.int .i64 0, .int .i64 0, .int .i64 0], .bool false]) (by simp [results, Try.results65, go_sem, m0, m1, m2]) rfl ⟨HE.out.1, HE.out.2, .inr ⟨HR.out, rfl⟩⟩
end Go.Proofs.Ytdhfbblameiloaa

/-
  What a right disk is, plainly.
-/
namespace Go.Proofs.Ytdhfbblameiloaa
open Go.RowKit
set_option maxRecDepth 4000

def Short (l : List (List Int)) : Prop := ∀ i (h : i < l.length), (l[i]).length ≤ 256
def SecsOk (l : List (List Int)) : Prop := 4 ≤ l.length ∧ l.length ≤ 48 ∧ Short l
def CacheOk (n : Nat) (l : List (Int × List Int)) : Prop := l.length ≤ 60 ∧ ∀ i (h : i < l.length), 0 ≤ (l[i]).1 ∧ (l[i]).1 < n ∧ (l[i]).2.length ≤ 256
def FOk (x : PFault) : Prop := (0 ≤ x.pos ∧ x.pos ≤ 100000) ∧ (0 ≤ x.keep ∧ x.keep ≤ 1048575) ∧ (0 ≤ x.cut ∧ x.cut ≤ 256)
def FAt (l : List PFault) (i : Nat) : Prop := ∀ h : i < l.length, FOk l[i] ∧ ∀ h1 : 0 < i, (l[i - 1]).pos < (l[i]).pos
def FaultsOk (l : List PFault) : Prop := l.length ≤ 20 ∧ ∀ i, FAt l i
def OpsOk (x : Int) : Prop := 0 ≤ x ∧ x ≤ 100000
def OkD (D : PDisk) : Prop := SecsOk D.secs ∧ CacheOk D.secs.length D.cache ∧ OpsOk D.ops ∧ FaultsOk D.faults ∧ ¬ (D.down = true ∧ 0 < D.cache.length)
/-- A question is answered. -/
def Says (w : World) (P : Prop) (e : Ending) (w' : World) : Prop := ∃ r : Bool, e = .returned (.bool r) ∧ (r = true ↔ P) ∧ Below w.heap.size w w'
theorem Says.yes {w w' : World} {P : Prop} (h : P) (hb : Below w.heap.size w w') : Says w P (.returned (.bool true)) w' := ⟨true, rfl, by simp [h], hb⟩
theorem Says.no {w w' : World} {P : Prop} (h : ¬ P) (hb : Below w.heap.size w w') : Says w P (.returned (.bool false)) w' := ⟨false, rfl, by simp [h], hb⟩
end Go.Proofs.Ytdhfbblameiloaa

