/-
  FlushS
-/
import Derived.Test.YtdhfbblameiloaaUP6
import Derived.Test.YtdhfbblameiloaaUP3
/-
  The model's l12Flush.
-/
namespace Go.Proofs.Ytdhfbblameiloaa
open Go.RowKit
set_option maxRecDepth 4000

/-- What an operation on a disk in a variable comes to. -/
def OpTo (w : World) (B X gs sc : Nat) (fa : Option Addr) (fc : Nat) (D : PDisk) (code : Int) (e : Ending) (w' : World) : Prop := e = .returned (.int .i64 code) ∧ (∃ ca cc ss cs, MS w' B X gs sc ca cc fa fc ss cs D D.secs ∧ ML D sc ca cc fa fc) ∧ Below B w w'

set_option maxHeartbeats 8000000 in
theorem l12Flush_any (B X gs sc : Nat) (ca : Option Addr) (cc : Nat) (fa : Option Addr) (fc : Nat) (ss cs : List Value) (D0 : PDisk) (w : World) (h : MS w B X gs sc ca cc fa fc ss cs D0 D0.secs) (hl : ML D0 sc ca cc fa fc) (hok : OkD D0) (hBw : B ≤ w.heap.size) (hBX : B ≤ X) :
    Calls Try.prog 90 #[.pointer (some ⟨X, 0, none⟩)] w (OpTo w B X gs sc fa fc (flushF D0).1 (flushF D0).2) := by
  have hf := hok.fine
  have HOK : Hid (OkD D0) := hok
  have hp : 0 < D0.secs.length := by have := hok.1.1; omega
  have hops : 0 ≤ D0.ops ∧ D0.ops ≤ 100000 := hok.2.2.1
  have x2 : w.cell? ⟨X, 2, none⟩ = some (.int .i64 D0.ops) := h.x.cell 2
  have x4 : w.cell? ⟨X, 4, none⟩ = some (.bool D0.down) := h.x.cell 4
  clear hok
  by_cases hdn : D0.down = true ∨ 100000 ≤ D0.ops
  · have HF : Hid (flushF D0 = (D0, 9)) := flushF_down hdn
    have HR : Hid (OpTo w B X gs sc fa fc (flushF D0).1 (flushF D0).2 (.returned (.int .i64 9)) w) := by
      rw [HF.out]
      exact ⟨rfl, ⟨ca, cc, ss, cs, h, hl⟩, Below.refl _ _⟩
    clear h hl hf
    by_cases hd1 : D0.down = true
    · rw [hd1] at x4
      go_enter Try.func90, Try.ntmps90
      go_wp2
      go_ret
      exact HR.out
    · have hd2 : D0.down = false := by simpa using hd1
      have hd3 : (100000 : Int) ≤ D0.ops := hdn.resolve_left hd1
      rw [hd2] at x4
      go_enter Try.func90, Try.ntmps90
      go_wp2
      go_ret
      exact HR.out
  have hd2 : D0.down = false := by
    cases hx : D0.down with
    | false => rfl
    | true => exact absurd (.inl hx) hdn
  have hd3 : ¬ (100000 : Int) ≤ D0.ops := fun hx => hdn (.inr hx)
  have x0 : w.cell? ⟨X, 0, none⟩ = some (.slice (some ⟨gs, 0, none⟩) D0.secs.length sc) := h.x.cell 0
  have x1 : w.cell? ⟨X, 1, none⟩ = some (.slice ca D0.cache.length cc) := h.x.cell 1
  have x3 : w.cell? ⟨X, 3, none⟩ = some (.slice fa D0.faults.length fc) := h.x.cell 3
  have hFt := l12Fault_any _ D0 w (h.kview hl hp) hf
  have HM : Hid (MS w B X gs sc ca cc fa fc ss cs D0 D0.secs ∧ ML D0 sc ca cc fa fc) := ⟨h, hl⟩
  have HDN : Hid (¬ (D0.down = true ∨ 100000 ≤ D0.ops)) := hdn
  have hw1 : IntKind.i64.wrap (D0.ops + 1) = D0.ops + 1 := by rw [IntKind.wrap_i64]; omega
  clear h hl hdn hf
  obtain ⟨dv, hdv⟩ := hidEx D0.down
  rw [hd2] at hdv
  rw [hd2] at x4 hFt
  go_enter Try.func90, Try.ntmps90
  go_wp2_with fail
  refine hFt.mono ?_
  rintro e w1 ⟨hb1, hres⟩
  clear hFt x0 x1 x2 x3 x4
  rcases hres with ⟨f, hff, rfl⟩ | ⟨hff, rfl⟩
  · have HF : Hid (flushF D0 = (loseD { D0 with ops := D0.ops + 1 } f, 9)) := flushF_lose HDN.out hff
    have hfo := findF_ok HOK.out hff
    obtain ⟨p, q, c⟩ := f
    obtain ⟨-, ⟨hq0, hq1⟩, hc0, hc1⟩ := hfo
    dsimp only at hq0 hq1 hc0 hc1 ⊢
    obtain ⟨r, rfl⟩ := Int.eq_ofNat_of_zero_le hc0
    have hbA : Below w1.heap.size w1 (w1.alloc (.cells #[.int .i64 p, .int .i64 q, .int .i64 (r : Int)] 79)) := (Below.refl _ _).alloc (Nat.le_refl _) _
    have hMA := (HM.out.1.on hb1).on hbA
    have hBA : Below B w (w1.alloc (.cells #[.int .i64 p, .int .i64 q, .int .i64 (r : Int)] 79)) := (hb1.mono hBw).trans (hbA.mono (by have := hb1.size; omega))
    have hFA := VN.new w1 79 [.int .i64 p, .int .i64 q, .int .i64 (r : Int)]
    have y2 : (w1.alloc (.cells #[.int .i64 p, .int .i64 q, .int .i64 (r : Int)] 79)).cell? ⟨X, 2, none⟩ = some (.int .i64 D0.ops) := hMA.x.cell 2
    have z2 := hMA.x.fz 2
    have hM2 := hMA.ops (D0.ops + 1)
    have hB2 : Below B w ((w1.alloc (.cells #[.int .i64 p, .int .i64 q, .int .i64 (r : Int)] 79)).setCell ⟨X, 2, none⟩ (.int .i64 (D0.ops + 1))) := hBA.setCell (p := ⟨X, 2, none⟩) hBX _
    have hF2 := hFA.block ((keep_vn (P := fun t => t = 32) (i := 2) (u := .int .i64 (D0.ops + 1)) hMA.x rfl) _ _ _ _ hFA (by decide))
    have hsz2 : B ≤ ((w1.alloc (.cells #[.int .i64 p, .int .i64 q, .int .i64 (r : Int)] 79)).setCell ⟨X, 2, none⟩ (.int .i64 (D0.ops + 1))).heap.size := by have h1 := hb1.size; simp; omega
    obtain ⟨W2, hW2⟩ := hidEx ((w1.alloc (.cells #[.int .i64 p, .int .i64 q, .int .i64 (r : Int)] 79)).setCell ⟨X, 2, none⟩ (.int .i64 (D0.ops + 1)))
    rw [hW2.out] at hM2 hB2 hF2 hsz2
    have f0 : W2.cell? ⟨w1.heap.size, 0, none⟩ = some (.int .i64 p) := hF2.cell 0
    have f1 : W2.cell? ⟨w1.heap.size, 1, none⟩ = some (.int .i64 q) := hF2.cell 1
    have f2 : W2.cell? ⟨w1.heap.size, 2, none⟩ = some (.int .i64 (r : Int)) := hF2.cell 2
    have hL := l12Lose_any B X gs sc ca cc fa fc ss cs { D0 with ops := D0.ops + 1 } p q r W2 hM2 hp (fun i hi => ⟨(HOK.out.2.1.2 i hi).1, (HOK.out.2.1.2 i hi).2.1⟩) (by have := HOK.out.2.1.1; show D0.cache.length ≤ _; omega) HOK.out.fine.cache hq0 hq1 (by omega) hsz2 hBX
    have HML : Hid (ML D0 sc ca cc fa fc) := HM.out.2
    clear hMA hBA hFA hM2 hF2 HM hb1 hbA
    go_wp2_with (rw [hW2.out])
    refine hL.mono ?_
    rintro e w3 ⟨rfl, ⟨ga, s3, hM3⟩, hb3⟩
    have HR : Hid (OpTo w B X gs sc fa fc (flushF D0).1 (flushF D0).2 (.returned (.int .i64 9)) w3) := by
      rw [HF.out]
      refine ⟨rfl, ⟨ga, 0, s3, [], hM3, ?_, Nat.le_refl _, fun _ => rfl, HML.out.f, HML.out.fn⟩, hB2.trans hb3⟩
      show (settleL D0.secs _).length ≤ sc
      rw [settleL_len]; exact HML.out.s
    clear hL hM3 hb3 hB2
    go_wp2
    go_ret
    exact HR.out
  · have HF : Hid (flushF D0 = (calmD { D0 with ops := D0.ops + 1 }, 0)) := flushF_calm HDN.out hff
    have hbA : Below w1.heap.size w1 (w1.alloc (.cells #[.int .i64 0, .int .i64 0, .int .i64 0] 79)) := (Below.refl _ _).alloc (Nat.le_refl _) _
    have hMA := (HM.out.1.on hb1).on hbA
    have hBA : Below B w (w1.alloc (.cells #[.int .i64 0, .int .i64 0, .int .i64 0] 79)) := (hb1.mono hBw).trans (hbA.mono (by have := hb1.size; omega))
    have y2 : (w1.alloc (.cells #[.int .i64 0, .int .i64 0, .int .i64 0] 79)).cell? ⟨X, 2, none⟩ = some (.int .i64 D0.ops) := hMA.x.cell 2
    have z2 := hMA.x.fz 2
    have hM2 := hMA.ops (D0.ops + 1)
    have hB2 : Below B w ((w1.alloc (.cells #[.int .i64 0, .int .i64 0, .int .i64 0] 79)).setCell ⟨X, 2, none⟩ (.int .i64 (D0.ops + 1))) := hBA.setCell (p := ⟨X, 2, none⟩) hBX _
    obtain ⟨W2, hW2⟩ := hidEx ((w1.alloc (.cells #[.int .i64 0, .int .i64 0, .int .i64 0] 79)).setCell ⟨X, 2, none⟩ (.int .i64 (D0.ops + 1)))
    rw [hW2.out] at hM2 hB2
    have HML : Hid (ML D0 sc ca cc fa fc) := HM.out.2
    have HNN : Hid (∀ i (h : i < D0.cache.length), 0 ≤ (D0.cache[i]).1 ∧ (D0.cache[i]).1 < D0.secs.length) := fun i hi => ⟨(HOK.out.2.1.2 i hi).1, (HOK.out.2.1.2 i hi).2.1⟩
    have hcl : D0.cache.length ≤ 60 := HOK.out.2.1.1
    obtain ⟨D, hD⟩ := hidEx ({ D0 with ops := D0.ops + 1 } : PDisk)
    have e1 : D0.cache = D.cache := by rw [← hD.out]
    have e2 : D0.secs = D.secs := by rw [← hD.out]
    have e3 : D0.faults = D.faults := by rw [← hD.out]
    rw [hD.out] at hM2 HF
    rw [e1] at hcl
    rw [e1, e2] at HNN
    rw [e2] at hp
    have hM2' : MS W2 B X gs sc ca cc fa fc ss cs D D.secs := by rw [← e2]; exact hM2
    replace HML : Hid (ML D sc ca cc fa fc) := ⟨by rw [← e2]; exact HML.out.s, by rw [← e1]; exact HML.out.c, HML.out.cn, by rw [← e3]; exact HML.out.f, HML.out.fn⟩
    clear hMA hBA hM2 HM hb1 hbA e1 e2 e3
    go_wp2_with (rw [hW2.out])
    go_loopg [5] D.cache.length (fun g i wr => ∃ k : Nat, k ≤ D.cache.length ∧ g = D.cache.length - k ∧ i = .int .i64 k ∧ ∃ s1, MS wr B X gs sc ca cc fa fc s1 cs D (settleL D.secs (D.cache.take k)) ∧ Below B w wr)
    case atStart => exact ⟨0, Nat.zero_le _, rfl, rfl, ss, hM2', hB2⟩
    case round =>
      clear hM2' hB2
      obtain ⟨k, hk, rfl, rfl, s1, hM, hB⟩ := hrel
      have hx1 : wr.cell? ⟨X, 1, none⟩ = some (.slice ca D.cache.length cc) := hM.x.cell 1
      by_cases hlt : k < D.cache.length
      · have hkz : (k : Int) < (D.cache.length : Int) := by omega
        obtain ⟨gl, el, -, hgl, hcl'⟩ := hM.cache.cell (by rw [wcells_len hM.nc]; omega)
        subst el
        have hv := List.getElem?_eq_getElem (l := cs) (i := k) (by rw [hM.nc]; omega)
        obtain ⟨w0, w1'⟩ := wcells_get (List.getElem?_eq_getElem hlt) hv
        have hOB := hM.cb k _ (D.cache[k]).2 hv (by simp [hlt])
        obtain ⟨ua, uc, eu, -, -, -, -⟩ := hOB.is
        obtain ⟨hN0, hN1⟩ := HNN.out k hlt
        obtain ⟨mi, hmi⟩ : ∃ m : Nat, (D.cache[k]).1 = m := ⟨(D.cache[k]).1.toNat, by omega⟩
        have hmn : mi < D.secs.length := by omega
        have hmz : (mi : Int) < (D.secs.length : Int) := by omega
        have HNX : Hid (settleL D.secs (D.cache.take (k + 1)) = (settleL D.secs (D.cache.take k)).set mi (D.cache[k]).2) := by
          show _ = _
          rw [settleL_one hlt, hmi]
          simp
        rw [hmi] at w0
        rw [eu] at w1' hOB
        obtain ⟨pl, hpl⟩ := hidEx (D.cache[k]).2
        rw [hpl.out] at hOB HNX w1'
        obtain ⟨un, hun⟩ := hidEx pl.length
        rw [hun.out] at hOB w1'
        have HWC : Hid ((wcells D.cache cs)[k * 2]? = some (.int .i64 (mi : Int)) ∧ (wcells D.cache cs)[k * 2 + 1]? = some (.slice ua un uc)) := ⟨w0, w1'⟩
        have y0 := hcl' _ _ w0
        have y1 := hcl' _ _ w1'
        clear hcl' w0 w1' hv eu hmi hN0 hN1
        go_wp2_with fail
        refine wp_region_held_drew (S := fun W => W.cell? ⟨X, 0, none⟩ = some (.slice (some ⟨gs, 0, none⟩) D.secs.length sc) ∧ W.cell? ⟨X, 1, none⟩ = some (.slice (some ⟨gl, 0, none⟩) D.cache.length cc) ∧ W.cell? ⟨gl, k * 2, none⟩ = some (.int .i64 (mi : Int)) ∧ W.cell? ⟨gl, k * 2 + 1, none⟩ = some (.slice ua un uc)) (by kernel_rfl) ⟨hM.x.cell 0, hM.x.cell 1, y0, y1⟩ (fun hHeld => ?_)
        have hbd : Below wr.heap.size wr wr.drew := (Below.refl _ _).drew
        replace hM := hM.on hbd
        replace hB := hB.trans (hbd.mono (by have := hB.size; omega))
        replace hOB := hOB.up (Up.ofBelow hbd)
        clear hbd y0 y1 hx1
        obtain ⟨wd, hwd⟩ := hidEx wr.drew
        rw [hwd.out] at hM hB hOB hHeld ⊢
        refine' wpAnyH_take (i := 0) (v := _) rfl (by kernel_rfl) (by kernel_rfl) (by kernel_rfl) (fun _ _ _ h => h) (Or.inl ⟨by kernel_rfl, ?hfl1⟩) (by assumption) ?rfl1
        case hfl1 => intro W hW; obtain ⟨c0, c1, c2, c3⟩ := hW; go_simp; all_goals with_reducible rfl
        change wpAnyH _ _ _ _ _ _ _ (Act.put _ (some 45) _) _
        simp only [Act.put, List.setIfInBounds_toArray, List.set_cons_zero, List.set_cons_succ]
        refine' wpAnyH_take (i := 1) (v := _) rfl (by kernel_rfl) (by kernel_rfl) (by kernel_rfl) (fun _ _ _ h => h) (Or.inl ⟨by kernel_rfl, ?hfl2⟩) (by assumption) ?rfl2
        case hfl2 => intro W hW; obtain ⟨c0, c1, c2, c3⟩ := hW; go_simp; all_goals with_reducible rfl
        change wpAnyH _ _ _ _ _ _ _ (Act.put _ (some 46) _) _
        simp only [Act.put, List.setIfInBounds_toArray, List.set_cons_zero, List.set_cons_succ]
        refine' wpAnyH_take (i := 2) (v := _) rfl (by kernel_rfl) (by kernel_rfl) (by kernel_rfl) (fun _ _ _ h => h) (Or.inl ⟨by kernel_rfl, ?hfl3⟩) (by assumption) ?rfl3
        case hfl3 => intro W hW; obtain ⟨c0, c1, c2, c3⟩ := hW; go_simp; all_goals with_reducible rfl
        change wpAnyH _ _ _ _ _ _ _ (Act.put _ (some 47) _) _
        simp only [Act.put, List.setIfInBounds_toArray, List.set_cons_zero, List.set_cons_succ]
        refine' wpAnyH_take (i := 3) (v := _) rfl (by kernel_rfl) (by kernel_rfl) (by kernel_rfl) (fun _ _ _ h => h) (Or.inl ⟨by kernel_rfl, ?hfl4⟩) (by assumption) ?rfl4
        case hfl4 => intro W hW; obtain ⟨c0, c1, c2, c3⟩ := hW; go_simp; all_goals with_reducible rfl
        change wpAnyH _ _ _ _ _ _ _ (Act.put _ (some 48) _) _
        simp only [Act.put, List.setIfInBounds_toArray, List.set_cons_zero, List.set_cons_succ]
        refine' wpAnyH_take (i := 4) (v := _) rfl (by kernel_rfl) (by kernel_rfl) (by kernel_rfl) (fun _ _ _ h => h) (Or.inl ⟨by kernel_rfl, ?hfl5⟩) (by assumption) ?rfl5
        case hfl5 => intro W hW; obtain ⟨c0, c1, c2, c3⟩ := hW; go_simp; all_goals with_reducible rfl
        change wpAnyH _ _ _ _ _ _ _ (Act.put _ (some 49) _) _
        simp only [Act.put, List.setIfInBounds_toArray, List.set_cons_zero, List.set_cons_succ]
        refine' wpAnyH_take (i := 5) (v := _) rfl (by kernel_rfl) (by kernel_rfl) (by kernel_rfl) (fun _ _ _ h => h) (Or.inl ⟨by kernel_rfl, ?hfl6⟩) (by assumption) ?rfl6
        case hfl6 => intro W hW; obtain ⟨c0, c1, c2, c3⟩ := hW; go_simp; all_goals with_reducible rfl
        change wpAnyH _ _ _ _ _ _ _ (Act.put _ (some 50) _) _
        simp only [Act.put, List.setIfInBounds_toArray, List.set_cons_zero, List.set_cons_succ]
        refine' wpAnyH_take (i := 6) (v := _) rfl (by kernel_rfl) (by kernel_rfl) (by kernel_rfl) (fun _ _ _ h => h) (Or.inl ⟨by kernel_rfl, ?hfl7⟩) (by assumption) ?rfl7
        case hfl7 => intro W hW; obtain ⟨c0, c1, c2, c3⟩ := hW; go_simp; all_goals with_reducible rfl
        change wpAnyH _ _ _ _ _ _ _ (Act.put _ (some 51) _) _
        simp only [Act.put, List.setIfInBounds_toArray, List.set_cons_zero, List.set_cons_succ]
        refine' wpAnyH_take (i := 7) (v := _) rfl (by kernel_rfl) (by kernel_rfl) (by kernel_rfl) (fun _ _ _ h => h) (Or.inl ⟨by kernel_rfl, ?hfl8⟩) (by assumption) ?rfl8
        case hfl8 => intro W hW; obtain ⟨c0, c1, c2, c3⟩ := hW; go_simp; all_goals with_reducible rfl
        change wpAnyH _ _ _ _ _ _ _ (Act.put _ (some 52) _) _
        simp only [Act.put, List.setIfInBounds_toArray, List.set_cons_zero, List.set_cons_succ]
        refine' wpAnyH_take (i := 8) (v := _) rfl (by kernel_rfl) (by kernel_rfl) (by kernel_rfl) (fun _ _ _ h => h) (Or.inl ⟨by kernel_rfl, ?hfl9⟩) (by assumption) ?rfl9
        case hfl9 => intro W hW; obtain ⟨c0, c1, c2, c3⟩ := hW; go_simp; all_goals with_reducible rfl
        change wpAnyH _ _ _ _ _ _ _ (Act.put _ (some 53) _) _
        simp only [Act.put, List.setIfInBounds_toArray, List.set_cons_zero, List.set_cons_succ]
        refine' wpAnyH_take (i := 9) (v := _) rfl (by kernel_rfl) (by kernel_rfl) (by kernel_rfl) (fun _ _ _ h => h) (Or.inl ⟨by kernel_rfl, ?hfl10⟩) (by assumption) ?rfl10
        case hfl10 => intro W hW; obtain ⟨c0, c1, c2, c3⟩ := hW; go_simp; all_goals with_reducible rfl
        change wpAnyH _ _ _ _ _ _ _ (Act.put _ (some 54) _) _
        simp only [Act.put, List.setIfInBounds_toArray, List.set_cons_zero, List.set_cons_succ]
        refine' wpAnyH_take (i := 10) (v := _) rfl (by kernel_rfl) (by kernel_rfl) (by kernel_rfl) (fun _ _ _ h => h) (Or.inl ⟨by kernel_rfl, ?hfl11⟩) (by assumption) ?rfl11
        case hfl11 => intro W hW; obtain ⟨c0, c1, c2, c3⟩ := hW; go_simp; all_goals with_reducible rfl
        change wpAnyH _ _ _ _ _ _ _ (Act.put _ (some 55) _) _
        simp only [Act.put, List.setIfInBounds_toArray, List.set_cons_zero, List.set_cons_succ]
        refine' wpAnyH_take (i := 11) (v := _) rfl (by kernel_rfl) (by kernel_rfl) (by kernel_rfl) (fun _ _ _ h => h) (Or.inl ⟨by kernel_rfl, ?hfl12⟩) (by assumption) ?rfl12
        case hfl12 => intro W hW; obtain ⟨c0, c1, c2, c3⟩ := hW; go_simp; all_goals with_reducible rfl
        change wpAnyH _ _ _ _ _ _ _ (Act.put _ (some 56) _) _
        simp only [Act.put, List.setIfInBounds_toArray, List.set_cons_zero, List.set_cons_succ]
        refine' wpAnyH_take (i := 12) (v := _) rfl (by kernel_rfl) (by kernel_rfl) (by kernel_rfl) (fun _ _ _ h => h) (Or.inl ⟨by kernel_rfl, ?hfl13⟩) (by assumption) ?rfl13
        case hfl13 => intro W hW; obtain ⟨c0, c1, c2, c3⟩ := hW; go_simp; all_goals with_reducible rfl
        change wpAnyH _ _ _ _ _ _ _ (Act.put _ (some 57) _) _
        simp only [Act.put, List.setIfInBounds_toArray, List.set_cons_zero, List.set_cons_succ]
        refine' wpAnyH_take (i := 13) (v := _) rfl (by kernel_rfl) (by kernel_rfl) (by kernel_rfl) (fun _ _ _ h => h) (Or.inl ⟨by kernel_rfl, ?hfl14⟩) (by assumption) ?rfl14
        case hfl14 => intro W hW; obtain ⟨c0, c1, c2, c3⟩ := hW; go_simp; all_goals with_reducible rfl
        change wpAnyH _ _ _ _ _ _ _ (Act.put _ (some 58) _) _
        simp only [Act.put, List.setIfInBounds_toArray, List.set_cons_zero, List.set_cons_succ]
        refine' wpAnyH_take (i := 14) (v := _) rfl (by kernel_rfl) (by kernel_rfl) (by kernel_rfl) (fun _ _ _ h => h) (Or.inl ⟨by kernel_rfl, ?hfl15⟩) (by assumption) ?rfl15
        case hfl15 => intro W hW; obtain ⟨c0, c1, c2, c3⟩ := hW; go_simp; all_goals with_reducible rfl
        change wpAnyH _ _ _ _ _ _ _ (Act.put _ (some 59) _) _
        simp only [Act.put, List.setIfInBounds_toArray, List.set_cons_zero, List.set_cons_succ]
        refine' wpAnyH_take (i := 15) (v := _) rfl (by kernel_rfl) (by kernel_rfl) (by kernel_rfl) (fun _ _ _ h => h) (Or.inl ⟨by kernel_rfl, ?hfl16⟩) (by assumption) ?rfl16
        case hfl16 => intro W hW; obtain ⟨c0, c1, c2, c3⟩ := hW; go_simp; all_goals with_reducible rfl
        change wpAnyH _ _ _ _ _ _ _ (Act.put _ (some 60) _) _
        simp only [Act.put, List.setIfInBounds_toArray, List.set_cons_zero, List.set_cons_succ]
        refine' wpAnyH_take (i := 16) (v := _) rfl (by kernel_rfl) (by kernel_rfl) (by kernel_rfl) (fun _ _ _ h => h) (Or.inl ⟨by kernel_rfl, ?hfl17⟩) (by assumption) ?rfl17
        case hfl17 => intro W hW; obtain ⟨c0, c1, c2, c3⟩ := hW; go_simp; all_goals with_reducible rfl
        change wpAnyH _ _ _ _ _ _ _ (Act.put _ (some 61) _) _
        simp only [Act.put, List.setIfInBounds_toArray, List.set_cons_zero, List.set_cons_succ]
        refine' wpAnyH_take (i := 17) (v := _) rfl (by kernel_rfl) (by kernel_rfl) (by kernel_rfl) (fun _ _ _ h => h) (Or.inl ⟨by kernel_rfl, ?hfl18⟩) (by assumption) ?rfl18
        case hfl18 => intro W hW; obtain ⟨c0, c1, c2, c3⟩ := hW; go_simp; all_goals with_reducible rfl
        change wpAnyH _ _ _ _ _ _ _ (Act.put _ (some 62) _) _
        simp only [Act.put, List.setIfInBounds_toArray, List.set_cons_zero, List.set_cons_succ]
        refine' wpAnyH_take (i := 18) (v := _) rfl (by kernel_rfl) (by kernel_rfl) (by kernel_rfl) (fun _ _ _ h => h) (Or.inl ⟨by kernel_rfl, ?hfl19⟩) (by assumption) ?rfl19
        case hfl19 => intro W hW; obtain ⟨c0, c1, c2, c3⟩ := hW; go_simp; all_goals with_reducible rfl
        change wpAnyH _ _ _ _ _ _ _ (Act.put _ (some 63) _) _
        simp only [Act.put, List.setIfInBounds_toArray, List.set_cons_zero, List.set_cons_succ]
        refine' wpAnyH_take (i := 19) (v := _) rfl (by kernel_rfl) (by kernel_rfl) (by kernel_rfl) (fun _ _ _ h => h) (Or.inl ⟨by kernel_rfl, ?hfl20⟩) (by assumption) ?rfl20
        case hfl20 => intro W hW; obtain ⟨c0, c1, c2, c3⟩ := hW; go_simp; all_goals with_reducible rfl
        change wpAnyH _ _ _ _ _ _ _ (Act.put _ (some 64) _) _
        simp only [Act.put, List.setIfInBounds_toArray, List.set_cons_zero, List.set_cons_succ]
        refine' wpAnyH_take (i := 20) (v := _) rfl (by kernel_rfl) (by kernel_rfl) (by kernel_rfl) (fun _ _ _ h => h) (Or.inl ⟨by kernel_rfl, ?hfl21⟩) (by assumption) ?rfl21
        case hfl21 => intro W hW; obtain ⟨c0, c1, c2, c3⟩ := hW; go_simp; all_goals with_reducible rfl
        change wpAnyH _ _ _ _ _ _ _ (Act.put _ (some 65) _) _
        simp only [Act.put, List.setIfInBounds_toArray, List.set_cons_zero, List.set_cons_succ]
        refine wpAnyH_ready (rs := [21]) (by kernel_rfl) (by simp) ?_
        refine AllReadyH.cons rfl (fun KK hK => ?_) AllReadyH.nil
        have hz := hM.secs.cellFz (by rw [hM.ns]; omega) mi
        obtain ⟨g9, e9, hg9, -, hc9⟩ := hM.secs.cell (by rw [hM.ns]; omega)
        cases e9
        have hcm := hc9 mi _ (List.getElem?_eq_getElem (by rw [hM.ns]; omega))
        go_simp
        have hM9 := hM.put hmn hOB
        have hB9 : Below B w (wd.setCell ⟨gs, mi, none⟩ (.slice ua un uc)) := hB.setCell (p := ⟨gs, mi, none⟩) hg9 _
        obtain ⟨gl2, el2, -, -, hcl2⟩ := hM9.cache.cell (by rw [wcells_len hM9.nc]; omega)
        cases el2
        have y0 := hcl2 _ _ HWC.out.1
        have y1 := hcl2 _ _ HWC.out.2
        clear hz hc9 hcm hcl2
        refine hK.out _ _ ⟨hM9.x.cell 0, hM9.x.cell 1, y0, y1⟩ (fun hHeld => ?_)
        clear hK KK
        try simp only [Act.put, List.setIfInBounds_toArray, List.set_cons_zero, List.set_cons_succ]
        refine wpAnyH_done (by kernel_rfl) ?_ _
        have HR : Hid (MS (wd.setCell ⟨gs, mi, none⟩ (.slice ua un uc)) B X gs sc (some ⟨gl, 0, none⟩) cc fa fc (s1.set mi (.slice ua un uc)) cs D (settleL D.secs (D.cache.take (k + 1))) ∧ Below B w (wd.setCell ⟨gs, mi, none⟩ (.slice ua un uc))) := ⟨by rw [HNX.out]; exact hM9, hB9⟩
        clear hM hM9 hB hB9 hOB y0 y1 hHeld
        go_wp2
        go_roundg (D.cache.length - (k + 1))
        case measure => omega
        case rel => exact ⟨k + 1, by omega, rfl, by go_num, _, HR.out.1, HR.out.2⟩
      · obtain rfl : k = D.cache.length := by omega
        have hkz : ¬ (D.cache.length : Int) < (D.cache.length : Int) := by omega
        have hbW : Below wr.heap.size wr (wr.alloc (.cells #[] 51)) := (Below.refl _ _).alloc (Nat.le_refl _) _
        have hMW := hM.on hbW
        have hBW := hB.trans (hbW.mono (by have := hB.size; omega))
        have x1' : (wr.alloc (.cells #[] 51)).cell? ⟨X, 1, none⟩ = some (.slice ca D.cache.length cc) := hMW.x.cell 1
        have z1' := hMW.x.fz 1
        have hX2 := hMW.x.set 1 (.slice (some ⟨wr.heap.size, 0, none⟩) 0 0)
        simp only [List.set] at hX2
        have hkk := keep_vn (P := fun t => t = 32) (i := 1) (u := .slice (some ⟨wr.heap.size, 0, none⟩) 0 0) hMW.x rfl
        have hBZ : Below B w ((wr.alloc (.cells #[] 51)).setCell ⟨X, 1, none⟩ (.slice (some ⟨wr.heap.size, 0, none⟩) 0 0)) := hBW.setCell (p := ⟨X, 1, none⟩) hBX _
        have hlS : (calmD D).secs = settleL D.secs (D.cache.take D.cache.length) := by rw [List.take_length]; rfl
        have HR : Hid (OpTo w B X gs sc fa fc (flushF D0).1 (flushF D0).2 (.returned (.int .i64 0)) ((wr.alloc (.cells #[] 51)).setCell ⟨X, 1, none⟩ (.slice (some ⟨wr.heap.size, 0, none⟩) 0 0))) := by
          rw [HF.out]
          refine ⟨rfl, ⟨some ⟨wr.heap.size, 0, none⟩, 0, s1, [], ⟨?_, hMW.secs.keepT hkk (by decide), ?_, rfl, fun i v l h1 h2 => ?_, own_keepT (World.ownsRow_lit (base := B) (e := 51) (size := 2) wr #[] 0 (by have := hB.size; omega) (Nat.zero_le _) rfl) hkk (by decide), rfl, fun i v l h1 h2 => by simp at h1, own_keepT hMW.fown hkk (by decide)⟩, ?_, Nat.le_refl _, fun _ => rfl, HML.out.f, HML.out.fn⟩, hBZ⟩
          · have e : (calmD D).secs.length = D.secs.length := by rw [hlS]; exact settleL_len _ _
            rw [e]
            exact hX2
          · rw [hlS, settleL_len]; exact hMW.ns
          · rw [hlS] at h2
            exact (hMW.ob i v l h1 h2).keepT hkk (by decide)
          · rw [hlS, settleL_len]; exact HML.out.s
        clear hM hB hMW hBW hX2 hkk hBZ hlS
        go_wp2
        go_ret
        exact HR.out
end Go.Proofs.Ytdhfbblameiloaa

