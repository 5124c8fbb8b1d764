/-
  DiskNewI
-/
import Derived.Test.YtdhfbblameiloaaBE8
import Derived.Test.YtdhfbblameiloaaBE23
import Derived.Deep.RegionHeld3
/-
  The program's DiskNew.
-/
namespace Go.Proofs.Ytdhfbblameiloaa
open Go.RowKit
set_option maxRecDepth 4000

theorem made_rl (W : World) (m : Nat) {B : Nat} (hB : B ≤ W.heap.size) : RL 27 (W.alloc (.cells (madeCells #[.slice none 0 0] m) 27)) B (some ⟨W.heap.size, 0, none⟩) (List.replicate m (.slice none 0 0)) := by
  have hr := World.rowIs_alloc W (madeCells #[.slice none 0 0] m) 27 (fun _ => .slice none 0 0) (fun i hi => by
    rw [size_madeCells] at hi
    simp [madeCells, hi, Nat.mod_one])
  rw [size_madeCells] at hr
  refine RL.ofIs hr hB (fun i u hi => ?_)
  rw [List.getElem?_replicate] at hi
  split at hi
  · cases hi
    exact ⟨by assumption, rfl⟩
  · cases hi
theorem nil_bs (W : World) (B m : Nat) : Bs W B (List.replicate m (.slice none 0 0)) (List.replicate m []) := by
  refine ⟨by simp, fun i v l h1 h2 => ?_, fun v hv g hg => ?_, ?_⟩
  · rw [List.getElem?_replicate] at h1 h2
    split at h1
    · rename_i hlt
      rw [if_pos hlt] at h2
      cases h1; cases h2
      exact ⟨none, 0, rfl, Nat.le_refl _, fun _ => rfl, by simp, .inl rfl⟩
    · cases h1
  · obtain ⟨-, rfl⟩ := List.mem_replicate.1 hv
    cases hg
  · rw [List.pairwise_replicate]
    right
    intro g hg
    cases hg
theorem okMade {m : Nat} {l : List PFault} (h4 : 4 ≤ m) (h48 : m ≤ 48) : OkD (madeD m l) ↔ FaultsOk l := by
  refine ⟨fun h => h.2.2.2.1, fun h => ⟨⟨by simpa [madeD] using h4, by simpa [madeD] using h48, fun i hi => by simp [madeD]⟩, ⟨by simp [madeD], fun i hi => by simp [madeD] at hi⟩, ⟨by simp [madeD], by simp [madeD]⟩, h, fun hd => by simp [madeD] at hd⟩⟩

set_option maxHeartbeats 16000000 in
theorem implDiskNew_any (n : Int) (a : Option Addr) (cap : Nat) (l : List PFault) (w : World) (h : FView w a cap l) (hn : l.length ≤ 1048576) :
    Calls Try.prog 31 #[.int .i64 n, .slice a l.length cap] w (NewTo w n l) := by
  have hbel : Below w.heap.size w (w.alloc (.cells #[.slice none 0 0, .slice none 0 0, .int .i64 0, .slice none 0 0, .bool false] 32)) := (Below.refl _ _).alloc (Nat.le_refl _) _
  by_cases hr4 : n < 4
  · clear h
    go_enter Try.func31, Try.ntmps31
    go_wp2
    refine bodyPost_ret (v := .agg #[.slice none 0 0, .slice none 0 0, .int .i64 0, .slice none 0 0, .bool false]) (by simp [results, Try.results31, go_sem]) rfl ⟨_, rfl, hbel, .inr ⟨fun h => by have := h.1; omega, zero_own _ _⟩⟩
  by_cases hr48 : 48 < n
  · clear h
    go_enter Try.func31, Try.ntmps31
    go_wp2
    refine bodyPost_ret (v := .agg #[.slice none 0 0, .slice none 0 0, .int .i64 0, .slice none 0 0, .bool false]) (by simp [results, Try.results31, go_sem]) rfl ⟨_, rfl, hbel, .inr ⟨fun h => by have := h.1; omega, zero_own _ _⟩⟩
  obtain ⟨m, rfl⟩ : ∃ m : Nat, n = m := ⟨n.toNat, by omega⟩
  have hm4 : 4 ≤ m := by omega
  have hm48 : m ≤ 48 := by omega
  have HFV : Hid (FView w a cap l) := h
  have hR := VN.new w 32 [.slice none 0 0, .slice none 0 0, .int .i64 0, .slice none 0 0, .bool false]
  clear h
  go_enter Try.func31, Try.ntmps31
  go_wp2_with fail
  rename_i K1 hK1
  have HREST : ∀ (X gs : Nat) (ga : Option Addr) (gc : Nat) (t13 t14 t15 t16 t17 : Value) (W : World), (TN w W X [.slice none 0 0, .slice none 0 0, .int .i64 0, .slice none 0 0, .bool false] [.slice (some ⟨gs, 0, none⟩) m m, .slice none 0 0, .int .i64 0, .slice ga l.length gc, .bool false] ∧ RL 27 W w.heap.size (some ⟨gs, 0, none⟩) (List.replicate m (.slice none 0 0)) ∧ RL 79 W w.heap.size ga (fcells l)) → l.length ≤ gc → (ga = none → gc = 0) → K1 { tmps := #[.int .i64 m, .slice a l.length cap, undef, undef, .pointer (some ⟨w.heap.size, 0, none⟩), .pointer (some ⟨X, 0, none⟩), .int .i64 m, .bool false, .bool false, .int .i64 m, .bool false, .bool false, undef, t13, t14, t15, t16, t17, undef, undef, undef, undef, undef], defers := [] } W := by
    intro X gs ga gc t13 t14 t15 t16 t17 W hE hgl hgn
    obtain ⟨hT, hRS, hFc⟩ := hE
    clear hR hbel
    apply hK1
    clear hK1
    have hKO : KO W w.heap.size (some ⟨gs, 0, none⟩) m none 0 ga gc (List.replicate m (.slice none 0 0)) [] (madeD m l) := ⟨by simp [madeD], (fun e => by cases e), Nat.le_refl _, fun _ => rfl, hgl, hgn, by simp [madeD], rfl, hRS, .inl rfl, hFc, by simpa [madeD] using nil_bs W w.heap.size m⟩
    have hKV : KView W (.agg #[.slice (some ⟨gs, 0, none⟩) m m, .slice none 0 0, .int .i64 0, .slice ga l.length gc, .bool false]) (madeD m l) := by
      obtain ⟨k1, k2, k3⟩ := hKO.view
      exact ⟨_, _, _, _, _, _, by simp [madeD], k1, k2, k3⟩
    have hV := implDiskOk_any _ (madeD m l) W hKV ⟨by simp [madeD]; omega, fun x hx => by simp [madeD] at hx; simp [hx], by simp [madeD], fun x hx => by simp [madeD] at hx, hn⟩
    have y0 : W.cell? ⟨X, 0, none⟩ = some (.slice (some ⟨gs, 0, none⟩) m m) := hT.o.cell 0
    have y1 : W.cell? ⟨X, 1, none⟩ = some (.slice none 0 0) := hT.o.cell 1
    have y2 : W.cell? ⟨X, 2, none⟩ = some (.int .i64 0) := hT.o.cell 2
    have y3 : W.cell? ⟨X, 3, none⟩ = some (.slice ga l.length gc) := hT.o.cell 3
    have y4 : W.cell? ⟨X, 4, none⟩ = some (.bool false) := hT.o.cell 4
    go_wp2_with fail
    refine hV.mono ?_
    rintro e w6 ⟨r, rfl, hrf, hb6⟩
    have HRF : Hid (r = true ↔ FaultsOk l) := hrf.trans (okMade hm4 hm48)
    replace hT := hT.on hb6
    replace hKO := hKO.up (Up.ofBelow hb6)
    clear y0 y1 y2 y3 y4 hV hrf hb6 hKV hRS hFc
    cases r
    · have hdummy : True := trivial
      have r0 : w6.cell? ⟨w.heap.size, 0, none⟩ = some (.slice none 0 0) := hT.r.cell 0
      have z0 := hT.r.fz 0
      have r1 : w6.cell? ⟨w.heap.size, 1, none⟩ = some (.slice none 0 0) := hT.r.cell 1
      have z1 := hT.r.fz 1
      have r2 : w6.cell? ⟨w.heap.size, 2, none⟩ = some (.int .i64 0) := hT.r.cell 2
      have z2 := hT.r.fz 2
      have r3 : w6.cell? ⟨w.heap.size, 3, none⟩ = some (.slice none 0 0) := hT.r.cell 3
      have z3 := hT.r.fz 3
      have r4 : w6.cell? ⟨w.heap.size, 4, none⟩ = some (.bool false) := hT.r.cell 4
      have z4 := hT.r.fz 4
      have T9 := ((((hT.ret 0 (.slice none 0 0)).ret 1 (.slice none 0 0)).ret 2 (.int .i64 0)).ret 3 (.slice none 0 0)).ret 4 (.bool false)
      simp only [List.set] at T9
      have m0 : (((((w6.setCell ⟨w.heap.size, 0, none⟩ (.slice none 0 0)).setCell ⟨w.heap.size, 1, none⟩ (.slice none 0 0)).setCell ⟨w.heap.size, 2, none⟩ (.int .i64 0)).setCell ⟨w.heap.size, 3, none⟩ (.slice none 0 0)).setCell ⟨w.heap.size, 4, none⟩ (.bool false)).cell? ⟨w.heap.size, 0, none⟩ = some (.slice none 0 0) := T9.r.cell 0
      have m1 : (((((w6.setCell ⟨w.heap.size, 0, none⟩ (.slice none 0 0)).setCell ⟨w.heap.size, 1, none⟩ (.slice none 0 0)).setCell ⟨w.heap.size, 2, none⟩ (.int .i64 0)).setCell ⟨w.heap.size, 3, none⟩ (.slice none 0 0)).setCell ⟨w.heap.size, 4, none⟩ (.bool false)).cell? ⟨w.heap.size, 1, none⟩ = some (.slice none 0 0) := T9.r.cell 1
      have m2 : (((((w6.setCell ⟨w.heap.size, 0, none⟩ (.slice none 0 0)).setCell ⟨w.heap.size, 1, none⟩ (.slice none 0 0)).setCell ⟨w.heap.size, 2, none⟩ (.int .i64 0)).setCell ⟨w.heap.size, 3, none⟩ (.slice none 0 0)).setCell ⟨w.heap.size, 4, none⟩ (.bool false)).cell? ⟨w.heap.size, 2, none⟩ = some (.int .i64 0) := T9.r.cell 2
      have m3 : (((((w6.setCell ⟨w.heap.size, 0, none⟩ (.slice none 0 0)).setCell ⟨w.heap.size, 1, none⟩ (.slice none 0 0)).setCell ⟨w.heap.size, 2, none⟩ (.int .i64 0)).setCell ⟨w.heap.size, 3, none⟩ (.slice none 0 0)).setCell ⟨w.heap.size, 4, none⟩ (.bool false)).cell? ⟨w.heap.size, 3, none⟩ = some (.slice none 0 0) := T9.r.cell 3
      have m4 : (((((w6.setCell ⟨w.heap.size, 0, none⟩ (.slice none 0 0)).setCell ⟨w.heap.size, 1, none⟩ (.slice none 0 0)).setCell ⟨w.heap.size, 2, none⟩ (.int .i64 0)).setCell ⟨w.heap.size, 3, none⟩ (.slice none 0 0)).setCell ⟨w.heap.size, 4, none⟩ (.bool false)).cell? ⟨w.heap.size, 4, none⟩ = some (.bool false) := T9.r.cell 4
      have KB : KeepT (fun t => t = 32) w6 (((((w6.setCell ⟨w.heap.size, 0, none⟩ (.slice none 0 0)).setCell ⟨w.heap.size, 1, none⟩ (.slice none 0 0)).setCell ⟨w.heap.size, 2, none⟩ (.int .i64 0)).setCell ⟨w.heap.size, 3, none⟩ (.slice none 0 0)).setCell ⟨w.heap.size, 4, none⟩ (.bool false)) := (KeepT.trans (KeepT.trans (KeepT.trans (KeepT.trans (keep_vn (P := fun t => t = 32) (i := 0) (u := .slice none 0 0) hT.r rfl) (keep_vn (P := fun t => t = 32) (i := 1) (u := .slice none 0 0) (hT.ret 0 (.slice none 0 0)).r rfl)) (keep_vn (P := fun t => t = 32) (i := 2) (u := .int .i64 0) ((hT.ret 0 (.slice none 0 0)).ret 1 (.slice none 0 0)).r rfl)) (keep_vn (P := fun t => t = 32) (i := 3) (u := .slice none 0 0) (((hT.ret 0 (.slice none 0 0)).ret 1 (.slice none 0 0)).ret 2 (.int .i64 0)).r rfl)) (keep_vn (P := fun t => t = 32) (i := 4) (u := .bool false) ((((hT.ret 0 (.slice none 0 0)).ret 1 (.slice none 0 0)).ret 2 (.int .i64 0)).ret 3 (.slice none 0 0)).r rfl))
      have hsz9 : w6.heap.size ≤ (((((w6.setCell ⟨w.heap.size, 0, none⟩ (.slice none 0 0)).setCell ⟨w.heap.size, 1, none⟩ (.slice none 0 0)).setCell ⟨w.heap.size, 2, none⟩ (.int .i64 0)).setCell ⟨w.heap.size, 3, none⟩ (.slice none 0 0)).setCell ⟨w.heap.size, 4, none⟩ (.bool false)).heap.size := by simp
      have HR : Hid (Below w.heap.size w (((((w6.setCell ⟨w.heap.size, 0, none⟩ (.slice none 0 0)).setCell ⟨w.heap.size, 1, none⟩ (.slice none 0 0)).setCell ⟨w.heap.size, 2, none⟩ (.int .i64 0)).setCell ⟨w.heap.size, 3, none⟩ (.slice none 0 0)).setCell ⟨w.heap.size, 4, none⟩ (.bool false))) := T9.below
      clear T9 hT KB hKO
      go_wp2
      refine bodyPost_ret (v := .agg #[.slice none 0 0, .slice none 0 0, .int .i64 0, .slice none 0 0, .bool false]) (by simp [results, Try.results31, go_sem, m0, m1, m2, m3, m4]) rfl ⟨_, rfl, HR.out, .inr ⟨fun h => (by have := HRF.out.2 h.2; cases this), zero_own _ _⟩⟩
    · have y0 : w6.cell? ⟨X, 0, none⟩ = some (.slice (some ⟨gs, 0, none⟩) m m) := hT.o.cell 0
      have y1 : w6.cell? ⟨X, 1, none⟩ = some (.slice none 0 0) := hT.o.cell 1
      have y2 : w6.cell? ⟨X, 2, none⟩ = some (.int .i64 0) := hT.o.cell 2
      have y3 : w6.cell? ⟨X, 3, none⟩ = some (.slice ga l.length gc) := hT.o.cell 3
      have y4 : w6.cell? ⟨X, 4, none⟩ = some (.bool false) := hT.o.cell 4
      have r0 : w6.cell? ⟨w.heap.size, 0, none⟩ = some (.slice none 0 0) := hT.r.cell 0
      have z0 := hT.r.fz 0
      have r1 : w6.cell? ⟨w.heap.size, 1, none⟩ = some (.slice none 0 0) := hT.r.cell 1
      have z1 := hT.r.fz 1
      have r2 : w6.cell? ⟨w.heap.size, 2, none⟩ = some (.int .i64 0) := hT.r.cell 2
      have z2 := hT.r.fz 2
      have r3 : w6.cell? ⟨w.heap.size, 3, none⟩ = some (.slice none 0 0) := hT.r.cell 3
      have z3 := hT.r.fz 3
      have r4 : w6.cell? ⟨w.heap.size, 4, none⟩ = some (.bool false) := hT.r.cell 4
      have z4 := hT.r.fz 4
      have T9 := ((((hT.ret 0 (.slice (some ⟨gs, 0, none⟩) m m)).ret 1 (.slice none 0 0)).ret 2 (.int .i64 0)).ret 3 (.slice ga l.length gc)).ret 4 (.bool false)
      simp only [List.set] at T9
      have m0 : (((((w6.setCell ⟨w.heap.size, 0, none⟩ (.slice (some ⟨gs, 0, none⟩) m m)).setCell ⟨w.heap.size, 1, none⟩ (.slice none 0 0)).setCell ⟨w.heap.size, 2, none⟩ (.int .i64 0)).setCell ⟨w.heap.size, 3, none⟩ (.slice ga l.length gc)).setCell ⟨w.heap.size, 4, none⟩ (.bool false)).cell? ⟨w.heap.size, 0, none⟩ = some (.slice (some ⟨gs, 0, none⟩) m m) := T9.r.cell 0
      have m1 : (((((w6.setCell ⟨w.heap.size, 0, none⟩ (.slice (some ⟨gs, 0, none⟩) m m)).setCell ⟨w.heap.size, 1, none⟩ (.slice none 0 0)).setCell ⟨w.heap.size, 2, none⟩ (.int .i64 0)).setCell ⟨w.heap.size, 3, none⟩ (.slice ga l.length gc)).setCell ⟨w.heap.size, 4, none⟩ (.bool false)).cell? ⟨w.heap.size, 1, none⟩ = some (.slice none 0 0) := T9.r.cell 1
      have m2 : (((((w6.setCell ⟨w.heap.size, 0, none⟩ (.slice (some ⟨gs, 0, none⟩) m m)).setCell ⟨w.heap.size, 1, none⟩ (.slice none 0 0)).setCell ⟨w.heap.size, 2, none⟩ (.int .i64 0)).setCell ⟨w.heap.size, 3, none⟩ (.slice ga l.length gc)).setCell ⟨w.heap.size, 4, none⟩ (.bool false)).cell? ⟨w.heap.size, 2, none⟩ = some (.int .i64 0) := T9.r.cell 2
      have m3 : (((((w6.setCell ⟨w.heap.size, 0, none⟩ (.slice (some ⟨gs, 0, none⟩) m m)).setCell ⟨w.heap.size, 1, none⟩ (.slice none 0 0)).setCell ⟨w.heap.size, 2, none⟩ (.int .i64 0)).setCell ⟨w.heap.size, 3, none⟩ (.slice ga l.length gc)).setCell ⟨w.heap.size, 4, none⟩ (.bool false)).cell? ⟨w.heap.size, 3, none⟩ = some (.slice ga l.length gc) := T9.r.cell 3
      have m4 : (((((w6.setCell ⟨w.heap.size, 0, none⟩ (.slice (some ⟨gs, 0, none⟩) m m)).setCell ⟨w.heap.size, 1, none⟩ (.slice none 0 0)).setCell ⟨w.heap.size, 2, none⟩ (.int .i64 0)).setCell ⟨w.heap.size, 3, none⟩ (.slice ga l.length gc)).setCell ⟨w.heap.size, 4, none⟩ (.bool false)).cell? ⟨w.heap.size, 4, none⟩ = some (.bool false) := T9.r.cell 4
      have KB : KeepT (fun t => t = 32) w6 (((((w6.setCell ⟨w.heap.size, 0, none⟩ (.slice (some ⟨gs, 0, none⟩) m m)).setCell ⟨w.heap.size, 1, none⟩ (.slice none 0 0)).setCell ⟨w.heap.size, 2, none⟩ (.int .i64 0)).setCell ⟨w.heap.size, 3, none⟩ (.slice ga l.length gc)).setCell ⟨w.heap.size, 4, none⟩ (.bool false)) := (KeepT.trans (KeepT.trans (KeepT.trans (KeepT.trans (keep_vn (P := fun t => t = 32) (i := 0) (u := .slice (some ⟨gs, 0, none⟩) m m) hT.r rfl) (keep_vn (P := fun t => t = 32) (i := 1) (u := .slice none 0 0) (hT.ret 0 (.slice (some ⟨gs, 0, none⟩) m m)).r rfl)) (keep_vn (P := fun t => t = 32) (i := 2) (u := .int .i64 0) ((hT.ret 0 (.slice (some ⟨gs, 0, none⟩) m m)).ret 1 (.slice none 0 0)).r rfl)) (keep_vn (P := fun t => t = 32) (i := 3) (u := .slice ga l.length gc) (((hT.ret 0 (.slice (some ⟨gs, 0, none⟩) m m)).ret 1 (.slice none 0 0)).ret 2 (.int .i64 0)).r rfl)) (keep_vn (P := fun t => t = 32) (i := 4) (u := .bool false) ((((hT.ret 0 (.slice (some ⟨gs, 0, none⟩) m m)).ret 1 (.slice none 0 0)).ret 2 (.int .i64 0)).ret 3 (.slice ga l.length gc)).r rfl))
      have hsz9 : w6.heap.size ≤ (((((w6.setCell ⟨w.heap.size, 0, none⟩ (.slice (some ⟨gs, 0, none⟩) m m)).setCell ⟨w.heap.size, 1, none⟩ (.slice none 0 0)).setCell ⟨w.heap.size, 2, none⟩ (.int .i64 0)).setCell ⟨w.heap.size, 3, none⟩ (.slice ga l.length gc)).setCell ⟨w.heap.size, 4, none⟩ (.bool false)).heap.size := by simp
      have HR : Hid (KOwn (((((w6.setCell ⟨w.heap.size, 0, none⟩ (.slice (some ⟨gs, 0, none⟩) m m)).setCell ⟨w.heap.size, 1, none⟩ (.slice none 0 0)).setCell ⟨w.heap.size, 2, none⟩ (.int .i64 0)).setCell ⟨w.heap.size, 3, none⟩ (.slice ga l.length gc)).setCell ⟨w.heap.size, 4, none⟩ (.bool false)) w.heap.size (.agg #[.slice (some ⟨gs, 0, none⟩) m m, .slice none 0 0, .int .i64 0, .slice ga l.length gc, .bool false]) (madeD m l) ∧ Below w.heap.size w (((((w6.setCell ⟨w.heap.size, 0, none⟩ (.slice (some ⟨gs, 0, none⟩) m m)).setCell ⟨w.heap.size, 1, none⟩ (.slice none 0 0)).setCell ⟨w.heap.size, 2, none⟩ (.int .i64 0)).setCell ⟨w.heap.size, 3, none⟩ (.slice ga l.length gc)).setCell ⟨w.heap.size, 4, none⟩ (.bool false))) :=
        ⟨⟨_, _, _, _, _, _, _, _, by simp [dval, madeD], ⟨hKO.sle, hKO.snil, hKO.cle, hKO.cnil, hKO.fle, hKO.fnil, hKO.ns, hKO.nc, hKO.secs.keepT KB (by decide), hKO.cache.keepT KB (by decide), hKO.faults.keepT KB (by decide), hKO.bytes.keepT KB hsz9 (by decide)⟩⟩, T9.below⟩
      clear T9 hT KB hKO
      go_wp2
      refine bodyPost_ret (v := .agg #[.slice (some ⟨gs, 0, none⟩) m m, .slice none 0 0, .int .i64 0, .slice ga l.length gc, .bool false]) (by simp [results, Try.results31, go_sem, m0, m1, m2, m3, m4]) rfl ⟨_, rfl, HR.out.2, .inl ⟨⟨by omega, HRF.out.1 (by simp)⟩, HR.out.1⟩⟩
  clear hK1
  refine wp_region_held_drew (S := fun _ => True) (by kernel_rfl) trivial (fun hHeld => ?_)
  replace hR := hR.below (show Below _ _ (w.alloc (.cells #[.slice none 0 0, .slice none 0 0, .int .i64 0, .slice none 0 0, .bool false] 32)).drew from (Below.refl (w.alloc (.cells #[.slice none 0 0, .slice none 0 0, .int .i64 0, .slice none 0 0, .bool false] 32)).heap.size (w.alloc (.cells #[.slice none 0 0, .slice none 0 0, .int .i64 0, .slice none 0 0, .bool false] 32))).drew)
  replace hbel := hbel.drew
  obtain ⟨wd, hwd⟩ := hidEx (w.alloc (.cells #[.slice none 0 0, .slice none 0 0, .int .i64 0, .slice none 0 0, .bool false] 32)).drew
  rw [hwd.out] at hR hbel ⊢
  refine' wpAnyH_take (i := 0) (v := _) rfl (by kernel_rfl) (by kernel_rfl) (by kernel_rfl) (fun _ _ _ h => h) (Or.inl ⟨by kernel_rfl, ?hna1⟩) (by assumption) ?rna1
  case hna1 => intro W hW; go_simp; all_goals with_reducible rfl
  change wpAnyH _ _ _ _ _ _ _ (Act.put _ (some 13) _) _
  simp only [Act.put, List.setIfInBounds_toArray, List.set_cons_zero, List.set_cons_succ]
  refine' wpAnyH_take (i := 2) (v := _) rfl (by kernel_rfl) (by kernel_rfl) (by kernel_rfl) (fun _ _ _ h => h) (Or.inl ⟨by kernel_rfl, ?hna2⟩) (by assumption) ?rna2
  case hna2 => intro W hW; go_simp; all_goals with_reducible rfl
  change wpAnyH _ _ _ _ _ _ _ (Act.put _ (some 15) _) _
  simp only [Act.put, List.setIfInBounds_toArray, List.set_cons_zero, List.set_cons_succ]
  refine wpAnyH_ready (rs := [1, 3, 5]) (by kernel_rfl) (by simp) ?_
  refine AllReadyH.cons rfl (fun KK hK => ?_) (AllReadyH.cons rfl (fun KK hK => ?_) (AllReadyH.cons rfl (fun KK hK => ?_) AllReadyH.nil))
  ·
    have hmk := makeSecs m (by omega) wd
    go_simp
    clear hmk
    have hbA : Below wd.heap.size wd (wd.alloc (.cells (madeCells #[.slice none 0 0] m) 27)) := (Below.refl _ _).alloc (Nat.le_refl _) _
    have hRS := made_rl wd m hbel.size
    obtain ⟨gs, hgs⟩ := hidEx wd.heap.size
    rw [hgs.out] at hRS ⊢
    replace hR := hR.below hbA
    replace hbel := hbel.trans (hbA.mono hbel.size)
    clear hbA
    refine hK.out _ _ trivial (fun hHeld => ?_)
    clear hK KK
    try simp only [Act.put, List.setIfInBounds_toArray, List.set_cons_zero, List.set_cons_succ]
    obtain ⟨q1, hq1⟩ := hidEx (wd.alloc (.cells (madeCells #[.slice none 0 0] m) 27))
    rw [hq1.out] at hR hbel hRS ⊢
    refine wpAnyH_ready (rs := [3, 5]) (by kernel_rfl) (by simp) ?_
    refine AllReadyH.cons rfl (fun KK hK => ?_) (AllReadyH.cons rfl (fun KK hK => ?_) AllReadyH.nil)
    ·
      go_simp
      refine (cloneFaults_any a cap l q1 (fview_below HFV.out hbel) hn).mono ?_
      rintro e w5 ⟨ga, gc, rfl, hg1, hg2, hFc, hb5⟩
      replace hFc := hFc.mono hbel.size
      replace hR := hR.below hb5
      replace hRS := hRS.up (Up.ofBelow hb5)
      replace hbel := hbel.trans (hb5.mono hbel.size)
      clear hb5
      go_wp2_with fail
      refine hK.out _ _ trivial (fun hHeld => ?_)
      clear hK KK
      try simp only [Act.put, List.setIfInBounds_toArray, List.set_cons_zero, List.set_cons_succ]
      refine' wpAnyH_take (i := 4) (v := _) rfl (by kernel_rfl) (by kernel_rfl) (by kernel_rfl) (fun _ _ _ h => h) (Or.inl ⟨by kernel_rfl, ?hna3⟩) (by assumption) ?rna3
      case hna3 => intro W hW; go_simp; all_goals with_reducible rfl
      change wpAnyH _ _ _ _ _ _ _ (Act.put _ (some 17) _) _
      simp only [Act.put, List.setIfInBounds_toArray, List.set_cons_zero, List.set_cons_succ]
      refine wpAnyH_ready (rs := [5]) (by kernel_rfl) (by simp) ?_
      refine AllReadyH.cons rfl (fun KK hK => ?_) AllReadyH.nil
      go_simp
      have hbA : Below w5.heap.size w5 (w5.alloc (.cells #[.slice none 0 0, .slice none 0 0, .int .i64 0, .slice none 0 0, .bool false] 32)) := (Below.refl _ _).alloc (Nat.le_refl _) _
      have hX0 := VN.new w5 32 [.slice none 0 0, .slice none 0 0, .int .i64 0, .slice none 0 0, .bool false]
      have hXge : w.heap.size < w5.heap.size := hR.lt
      obtain ⟨X, hXe⟩ := hidEx w5.heap.size
      rw [hXe.out] at hX0 hXge ⊢
      replace hR := hR.below hbA
      replace hRS := hRS.up (Up.ofBelow hbA)
      replace hFc := hFc.up (Up.ofBelow hbA)
      replace hbel := hbel.trans (hbA.mono hbel.size)
      have hX : VN (w5.alloc (.cells #[.slice none 0 0, .slice none 0 0, .int .i64 0, .slice none 0 0, .bool false] 32)) X 32 [.slice none 0 0, .slice none 0 0, .int .i64 0, .slice none 0 0, .bool false] := hX0
      clear hbA hX0
      refine hK.out _ _ trivial (fun hHeld => ?_)
      clear hK KK
      try simp only [Act.put, List.setIfInBounds_toArray, List.set_cons_zero, List.set_cons_succ]
      obtain ⟨q2, hq2⟩ := hidEx (w5.alloc (.cells #[.slice none 0 0, .slice none 0 0, .int .i64 0, .slice none 0 0, .bool false] 32))
      rw [hq2.out] at hR hbel hX hRS hFc ⊢
      refine wpAnyH_ready (rs := [6]) (by kernel_rfl) (by simp) ?_
      refine AllReadyH.cons rfl (fun KK hK => ?_) AllReadyH.nil
      have hT : TN w q2 X [.slice none 0 0, .slice none 0 0, .int .i64 0, .slice none 0 0, .bool false] [.slice none 0 0, .slice none 0 0, .int .i64 0, .slice none 0 0, .bool false] := ⟨hbel, hR, hX, hXge⟩
      have e0 : q2.cell? ⟨X, 0, none⟩ = some (.slice none 0 0) := hX.cell 0
      have z0 := hX.fz 0
      have e1 : q2.cell? ⟨X, 1, none⟩ = some (.slice none 0 0) := hX.cell 1
      have z1 := hX.fz 1
      have e2 : q2.cell? ⟨X, 2, none⟩ = some (.int .i64 0) := hX.cell 2
      have z2 := hX.fz 2
      have e3 : q2.cell? ⟨X, 3, none⟩ = some (.slice none 0 0) := hX.cell 3
      have z3 := hX.fz 3
      have e4 : q2.cell? ⟨X, 4, none⟩ = some (.bool false) := hX.cell 4
      have z4 := hX.fz 4
      go_simp
      clear e0 e1 e2 e3 e4 z0 z1 z2 z3 z4 hbel hR hX
      have hkk := (KeepT.trans (KeepT.trans (KeepT.trans (KeepT.trans (keep_vn (P := fun t => t = 32) (i := 0) (u := .slice (some ⟨gs, 0, none⟩) m m) hT.o rfl) (keep_vn (P := fun t => t = 32) (i := 1) (u := .slice none 0 0) (hT.set 0 (.slice (some ⟨gs, 0, none⟩) m m)).o rfl)) (keep_vn (P := fun t => t = 32) (i := 2) (u := .int .i64 0) ((hT.set 0 (.slice (some ⟨gs, 0, none⟩) m m)).set 1 (.slice none 0 0)).o rfl)) (keep_vn (P := fun t => t = 32) (i := 3) (u := .slice ga l.length gc) (((hT.set 0 (.slice (some ⟨gs, 0, none⟩) m m)).set 1 (.slice none 0 0)).set 2 (.int .i64 0)).o rfl)) (keep_vn (P := fun t => t = 32) (i := 4) (u := .bool false) ((((hT.set 0 (.slice (some ⟨gs, 0, none⟩) m m)).set 1 (.slice none 0 0)).set 2 (.int .i64 0)).set 3 (.slice ga l.length gc)).o rfl))
      have hF7 := hFc.keepT hkk (by decide)
      have hS7 := hRS.keepT hkk (by decide)
      have hT7 := (((((hT.set 0 (.slice (some ⟨gs, 0, none⟩) m m)).set 1 (.slice none 0 0)).set 2 (.int .i64 0)).set 3 (.slice ga l.length gc)).set 4 (.bool false))
      simp only [List.set] at hT7
      clear hT hFc hRS hkk
      refine hK.out _ _ trivial (fun hHeld => ?_)
      clear hK KK
      try simp only [Act.put, List.setIfInBounds_toArray, List.set_cons_zero, List.set_cons_succ]
      refine wpAnyH_done (by kernel_rfl) ?_ _
      exact HREST _ _ _ _ _ _ _ _ _ _ ⟨hT7, hS7, hF7⟩ hg1 hg2
    ·
      go_simp
      have hbA : Below q1.heap.size q1 (q1.alloc (.cells #[.slice none 0 0, .slice none 0 0, .int .i64 0, .slice none 0 0, .bool false] 32)) := (Below.refl _ _).alloc (Nat.le_refl _) _
      have hX0 := VN.new q1 32 [.slice none 0 0, .slice none 0 0, .int .i64 0, .slice none 0 0, .bool false]
      have hXge : w.heap.size < q1.heap.size := hR.lt
      obtain ⟨X, hXe⟩ := hidEx q1.heap.size
      rw [hXe.out] at hX0 hXge ⊢
      replace hR := hR.below hbA
      replace hRS := hRS.up (Up.ofBelow hbA)
      replace hbel := hbel.trans (hbA.mono hbel.size)
      have hX : VN (q1.alloc (.cells #[.slice none 0 0, .slice none 0 0, .int .i64 0, .slice none 0 0, .bool false] 32)) X 32 [.slice none 0 0, .slice none 0 0, .int .i64 0, .slice none 0 0, .bool false] := hX0
      clear hbA hX0
      refine hK.out _ _ trivial (fun hHeld => ?_)
      clear hK KK
      try simp only [Act.put, List.setIfInBounds_toArray, List.set_cons_zero, List.set_cons_succ]
      obtain ⟨q2, hq2⟩ := hidEx (q1.alloc (.cells #[.slice none 0 0, .slice none 0 0, .int .i64 0, .slice none 0 0, .bool false] 32))
      rw [hq2.out] at hR hbel hX hRS ⊢
      refine wpAnyH_ready (rs := [3]) (by kernel_rfl) (by simp) ?_
      refine AllReadyH.cons rfl (fun KK hK => ?_) AllReadyH.nil
      go_simp
      refine (cloneFaults_any a cap l q2 (fview_below HFV.out hbel) hn).mono ?_
      rintro e w5 ⟨ga, gc, rfl, hg1, hg2, hFc, hb5⟩
      replace hFc := hFc.mono hbel.size
      replace hR := hR.below hb5
      replace hX := hX.below hb5
      replace hRS := hRS.up (Up.ofBelow hb5)
      replace hbel := hbel.trans (hb5.mono hbel.size)
      clear hb5
      go_wp2_with fail
      refine hK.out _ _ trivial (fun hHeld => ?_)
      clear hK KK
      try simp only [Act.put, List.setIfInBounds_toArray, List.set_cons_zero, List.set_cons_succ]
      refine' wpAnyH_take (i := 4) (v := _) rfl (by kernel_rfl) (by kernel_rfl) (by kernel_rfl) (fun _ _ _ h => h) (Or.inl ⟨by kernel_rfl, ?hna4⟩) (by assumption) ?rna4
      case hna4 => intro W hW; go_simp; all_goals with_reducible rfl
      change wpAnyH _ _ _ _ _ _ _ (Act.put _ (some 17) _) _
      simp only [Act.put, List.setIfInBounds_toArray, List.set_cons_zero, List.set_cons_succ]
      refine wpAnyH_ready (rs := [6]) (by kernel_rfl) (by simp) ?_
      refine AllReadyH.cons rfl (fun KK hK => ?_) AllReadyH.nil
      have hT : TN w w5 X [.slice none 0 0, .slice none 0 0, .int .i64 0, .slice none 0 0, .bool false] [.slice none 0 0, .slice none 0 0, .int .i64 0, .slice none 0 0, .bool false] := ⟨hbel, hR, hX, hXge⟩
      have e0 : w5.cell? ⟨X, 0, none⟩ = some (.slice none 0 0) := hX.cell 0
      have z0 := hX.fz 0
      have e1 : w5.cell? ⟨X, 1, none⟩ = some (.slice none 0 0) := hX.cell 1
      have z1 := hX.fz 1
      have e2 : w5.cell? ⟨X, 2, none⟩ = some (.int .i64 0) := hX.cell 2
      have z2 := hX.fz 2
      have e3 : w5.cell? ⟨X, 3, none⟩ = some (.slice none 0 0) := hX.cell 3
      have z3 := hX.fz 3
      have e4 : w5.cell? ⟨X, 4, none⟩ = some (.bool false) := hX.cell 4
      have z4 := hX.fz 4
      go_simp
      clear e0 e1 e2 e3 e4 z0 z1 z2 z3 z4 hbel hR hX
      have hkk := (KeepT.trans (KeepT.trans (KeepT.trans (KeepT.trans (keep_vn (P := fun t => t = 32) (i := 0) (u := .slice (some ⟨gs, 0, none⟩) m m) hT.o rfl) (keep_vn (P := fun t => t = 32) (i := 1) (u := .slice none 0 0) (hT.set 0 (.slice (some ⟨gs, 0, none⟩) m m)).o rfl)) (keep_vn (P := fun t => t = 32) (i := 2) (u := .int .i64 0) ((hT.set 0 (.slice (some ⟨gs, 0, none⟩) m m)).set 1 (.slice none 0 0)).o rfl)) (keep_vn (P := fun t => t = 32) (i := 3) (u := .slice ga l.length gc) (((hT.set 0 (.slice (some ⟨gs, 0, none⟩) m m)).set 1 (.slice none 0 0)).set 2 (.int .i64 0)).o rfl)) (keep_vn (P := fun t => t = 32) (i := 4) (u := .bool false) ((((hT.set 0 (.slice (some ⟨gs, 0, none⟩) m m)).set 1 (.slice none 0 0)).set 2 (.int .i64 0)).set 3 (.slice ga l.length gc)).o rfl))
      have hF7 := hFc.keepT hkk (by decide)
      have hS7 := hRS.keepT hkk (by decide)
      have hT7 := (((((hT.set 0 (.slice (some ⟨gs, 0, none⟩) m m)).set 1 (.slice none 0 0)).set 2 (.int .i64 0)).set 3 (.slice ga l.length gc)).set 4 (.bool false))
      simp only [List.set] at hT7
      clear hT hFc hRS hkk
      refine hK.out _ _ trivial (fun hHeld => ?_)
      clear hK KK
      try simp only [Act.put, List.setIfInBounds_toArray, List.set_cons_zero, List.set_cons_succ]
      refine wpAnyH_done (by kernel_rfl) ?_ _
      exact HREST _ _ _ _ _ _ _ _ _ _ ⟨hT7, hS7, hF7⟩ hg1 hg2
  ·
    go_simp
    refine (cloneFaults_any a cap l wd (fview_below HFV.out hbel) hn).mono ?_
    rintro e w5 ⟨ga, gc, rfl, hg1, hg2, hFc, hb5⟩
    replace hFc := hFc.mono hbel.size
    replace hR := hR.below hb5
    replace hbel := hbel.trans (hb5.mono hbel.size)
    clear hb5
    go_wp2_with fail
    refine hK.out _ _ trivial (fun hHeld => ?_)
    clear hK KK
    try simp only [Act.put, List.setIfInBounds_toArray, List.set_cons_zero, List.set_cons_succ]
    refine wpAnyH_ready (rs := [1, 5]) (by kernel_rfl) (by simp) ?_
    refine AllReadyH.cons rfl (fun KK hK => ?_) (AllReadyH.cons rfl (fun KK hK => ?_) AllReadyH.nil)
    ·
      have hmk := makeSecs m (by omega) w5
      go_simp
      clear hmk
      have hbA : Below w5.heap.size w5 (w5.alloc (.cells (madeCells #[.slice none 0 0] m) 27)) := (Below.refl _ _).alloc (Nat.le_refl _) _
      have hRS := made_rl w5 m hbel.size
      obtain ⟨gs, hgs⟩ := hidEx w5.heap.size
      rw [hgs.out] at hRS ⊢
      replace hR := hR.below hbA
      replace hFc := hFc.up (Up.ofBelow hbA)
      replace hbel := hbel.trans (hbA.mono hbel.size)
      clear hbA
      refine hK.out _ _ trivial (fun hHeld => ?_)
      clear hK KK
      try simp only [Act.put, List.setIfInBounds_toArray, List.set_cons_zero, List.set_cons_succ]
      obtain ⟨q1, hq1⟩ := hidEx (w5.alloc (.cells (madeCells #[.slice none 0 0] m) 27))
      rw [hq1.out] at hR hbel hRS hFc ⊢
      refine' wpAnyH_take (i := 4) (v := _) rfl (by kernel_rfl) (by kernel_rfl) (by kernel_rfl) (fun _ _ _ h => h) (Or.inl ⟨by kernel_rfl, ?hna5⟩) (by assumption) ?rna5
      case hna5 => intro W hW; go_simp; all_goals with_reducible rfl
      change wpAnyH _ _ _ _ _ _ _ (Act.put _ (some 17) _) _
      simp only [Act.put, List.setIfInBounds_toArray, List.set_cons_zero, List.set_cons_succ]
      refine wpAnyH_ready (rs := [5]) (by kernel_rfl) (by simp) ?_
      refine AllReadyH.cons rfl (fun KK hK => ?_) AllReadyH.nil
      go_simp
      have hbA : Below q1.heap.size q1 (q1.alloc (.cells #[.slice none 0 0, .slice none 0 0, .int .i64 0, .slice none 0 0, .bool false] 32)) := (Below.refl _ _).alloc (Nat.le_refl _) _
      have hX0 := VN.new q1 32 [.slice none 0 0, .slice none 0 0, .int .i64 0, .slice none 0 0, .bool false]
      have hXge : w.heap.size < q1.heap.size := hR.lt
      obtain ⟨X, hXe⟩ := hidEx q1.heap.size
      rw [hXe.out] at hX0 hXge ⊢
      replace hR := hR.below hbA
      replace hRS := hRS.up (Up.ofBelow hbA)
      replace hFc := hFc.up (Up.ofBelow hbA)
      replace hbel := hbel.trans (hbA.mono hbel.size)
      have hX : VN (q1.alloc (.cells #[.slice none 0 0, .slice none 0 0, .int .i64 0, .slice none 0 0, .bool false] 32)) X 32 [.slice none 0 0, .slice none 0 0, .int .i64 0, .slice none 0 0, .bool false] := hX0
      clear hbA hX0
      refine hK.out _ _ trivial (fun hHeld => ?_)
      clear hK KK
      try simp only [Act.put, List.setIfInBounds_toArray, List.set_cons_zero, List.set_cons_succ]
      obtain ⟨q2, hq2⟩ := hidEx (q1.alloc (.cells #[.slice none 0 0, .slice none 0 0, .int .i64 0, .slice none 0 0, .bool false] 32))
      rw [hq2.out] at hR hbel hX hRS hFc ⊢
      refine wpAnyH_ready (rs := [6]) (by kernel_rfl) (by simp) ?_
      refine AllReadyH.cons rfl (fun KK hK => ?_) AllReadyH.nil
      have hT : TN w q2 X [.slice none 0 0, .slice none 0 0, .int .i64 0, .slice none 0 0, .bool false] [.slice none 0 0, .slice none 0 0, .int .i64 0, .slice none 0 0, .bool false] := ⟨hbel, hR, hX, hXge⟩
      have e0 : q2.cell? ⟨X, 0, none⟩ = some (.slice none 0 0) := hX.cell 0
      have z0 := hX.fz 0
      have e1 : q2.cell? ⟨X, 1, none⟩ = some (.slice none 0 0) := hX.cell 1
      have z1 := hX.fz 1
      have e2 : q2.cell? ⟨X, 2, none⟩ = some (.int .i64 0) := hX.cell 2
      have z2 := hX.fz 2
      have e3 : q2.cell? ⟨X, 3, none⟩ = some (.slice none 0 0) := hX.cell 3
      have z3 := hX.fz 3
      have e4 : q2.cell? ⟨X, 4, none⟩ = some (.bool false) := hX.cell 4
      have z4 := hX.fz 4
      go_simp
      clear e0 e1 e2 e3 e4 z0 z1 z2 z3 z4 hbel hR hX
      have hkk := (KeepT.trans (KeepT.trans (KeepT.trans (KeepT.trans (keep_vn (P := fun t => t = 32) (i := 0) (u := .slice (some ⟨gs, 0, none⟩) m m) hT.o rfl) (keep_vn (P := fun t => t = 32) (i := 1) (u := .slice none 0 0) (hT.set 0 (.slice (some ⟨gs, 0, none⟩) m m)).o rfl)) (keep_vn (P := fun t => t = 32) (i := 2) (u := .int .i64 0) ((hT.set 0 (.slice (some ⟨gs, 0, none⟩) m m)).set 1 (.slice none 0 0)).o rfl)) (keep_vn (P := fun t => t = 32) (i := 3) (u := .slice ga l.length gc) (((hT.set 0 (.slice (some ⟨gs, 0, none⟩) m m)).set 1 (.slice none 0 0)).set 2 (.int .i64 0)).o rfl)) (keep_vn (P := fun t => t = 32) (i := 4) (u := .bool false) ((((hT.set 0 (.slice (some ⟨gs, 0, none⟩) m m)).set 1 (.slice none 0 0)).set 2 (.int .i64 0)).set 3 (.slice ga l.length gc)).o rfl))
      have hF7 := hFc.keepT hkk (by decide)
      have hS7 := hRS.keepT hkk (by decide)
      have hT7 := (((((hT.set 0 (.slice (some ⟨gs, 0, none⟩) m m)).set 1 (.slice none 0 0)).set 2 (.int .i64 0)).set 3 (.slice ga l.length gc)).set 4 (.bool false))
      simp only [List.set] at hT7
      clear hT hFc hRS hkk
      refine hK.out _ _ trivial (fun hHeld => ?_)
      clear hK KK
      try simp only [Act.put, List.setIfInBounds_toArray, List.set_cons_zero, List.set_cons_succ]
      refine wpAnyH_done (by kernel_rfl) ?_ _
      exact HREST _ _ _ _ _ _ _ _ _ _ ⟨hT7, hS7, hF7⟩ hg1 hg2
    ·
      go_simp
      have hbA : Below w5.heap.size w5 (w5.alloc (.cells #[.slice none 0 0, .slice none 0 0, .int .i64 0, .slice none 0 0, .bool false] 32)) := (Below.refl _ _).alloc (Nat.le_refl _) _
      have hX0 := VN.new w5 32 [.slice none 0 0, .slice none 0 0, .int .i64 0, .slice none 0 0, .bool false]
      have hXge : w.heap.size < w5.heap.size := hR.lt
      obtain ⟨X, hXe⟩ := hidEx w5.heap.size
      rw [hXe.out] at hX0 hXge ⊢
      replace hR := hR.below hbA
      replace hFc := hFc.up (Up.ofBelow hbA)
      replace hbel := hbel.trans (hbA.mono hbel.size)
      have hX : VN (w5.alloc (.cells #[.slice none 0 0, .slice none 0 0, .int .i64 0, .slice none 0 0, .bool false] 32)) X 32 [.slice none 0 0, .slice none 0 0, .int .i64 0, .slice none 0 0, .bool false] := hX0
      clear hbA hX0
      refine hK.out _ _ trivial (fun hHeld => ?_)
      clear hK KK
      try simp only [Act.put, List.setIfInBounds_toArray, List.set_cons_zero, List.set_cons_succ]
      obtain ⟨q1, hq1⟩ := hidEx (w5.alloc (.cells #[.slice none 0 0, .slice none 0 0, .int .i64 0, .slice none 0 0, .bool false] 32))
      rw [hq1.out] at hR hbel hX hFc ⊢
      refine wpAnyH_ready (rs := [1]) (by kernel_rfl) (by simp) ?_
      refine AllReadyH.cons rfl (fun KK hK => ?_) AllReadyH.nil
      have hmk := makeSecs m (by omega) q1
      go_simp
      clear hmk
      have hbA : Below q1.heap.size q1 (q1.alloc (.cells (madeCells #[.slice none 0 0] m) 27)) := (Below.refl _ _).alloc (Nat.le_refl _) _
      have hRS := made_rl q1 m hbel.size
      obtain ⟨gs, hgs⟩ := hidEx q1.heap.size
      rw [hgs.out] at hRS ⊢
      replace hR := hR.below hbA
      replace hX := hX.below hbA
      replace hFc := hFc.up (Up.ofBelow hbA)
      replace hbel := hbel.trans (hbA.mono hbel.size)
      clear hbA
      refine hK.out _ _ trivial (fun hHeld => ?_)
      clear hK KK
      try simp only [Act.put, List.setIfInBounds_toArray, List.set_cons_zero, List.set_cons_succ]
      obtain ⟨q2, hq2⟩ := hidEx (q1.alloc (.cells (madeCells #[.slice none 0 0] m) 27))
      rw [hq2.out] at hR hbel hX hRS hFc ⊢
      refine' wpAnyH_take (i := 4) (v := _) rfl (by kernel_rfl) (by kernel_rfl) (by kernel_rfl) (fun _ _ _ h => h) (Or.inl ⟨by kernel_rfl, ?hna6⟩) (by assumption) ?rna6
      case hna6 => intro W hW; go_simp; all_goals with_reducible rfl
      change wpAnyH _ _ _ _ _ _ _ (Act.put _ (some 17) _) _
      simp only [Act.put, List.setIfInBounds_toArray, List.set_cons_zero, List.set_cons_succ]
      refine wpAnyH_ready (rs := [6]) (by kernel_rfl) (by simp) ?_
      refine AllReadyH.cons rfl (fun KK hK => ?_) AllReadyH.nil
      have hT : TN w q2 X [.slice none 0 0, .slice none 0 0, .int .i64 0, .slice none 0 0, .bool false] [.slice none 0 0, .slice none 0 0, .int .i64 0, .slice none 0 0, .bool false] := ⟨hbel, hR, hX, hXge⟩
      have e0 : q2.cell? ⟨X, 0, none⟩ = some (.slice none 0 0) := hX.cell 0
      have z0 := hX.fz 0
      have e1 : q2.cell? ⟨X, 1, none⟩ = some (.slice none 0 0) := hX.cell 1
      have z1 := hX.fz 1
      have e2 : q2.cell? ⟨X, 2, none⟩ = some (.int .i64 0) := hX.cell 2
      have z2 := hX.fz 2
      have e3 : q2.cell? ⟨X, 3, none⟩ = some (.slice none 0 0) := hX.cell 3
      have z3 := hX.fz 3
      have e4 : q2.cell? ⟨X, 4, none⟩ = some (.bool false) := hX.cell 4
      have z4 := hX.fz 4
      go_simp
      clear e0 e1 e2 e3 e4 z0 z1 z2 z3 z4 hbel hR hX
      have hkk := (KeepT.trans (KeepT.trans (KeepT.trans (KeepT.trans (keep_vn (P := fun t => t = 32) (i := 0) (u := .slice (some ⟨gs, 0, none⟩) m m) hT.o rfl) (keep_vn (P := fun t => t = 32) (i := 1) (u := .slice none 0 0) (hT.set 0 (.slice (some ⟨gs, 0, none⟩) m m)).o rfl)) (keep_vn (P := fun t => t = 32) (i := 2) (u := .int .i64 0) ((hT.set 0 (.slice (some ⟨gs, 0, none⟩) m m)).set 1 (.slice none 0 0)).o rfl)) (keep_vn (P := fun t => t = 32) (i := 3) (u := .slice ga l.length gc) (((hT.set 0 (.slice (some ⟨gs, 0, none⟩) m m)).set 1 (.slice none 0 0)).set 2 (.int .i64 0)).o rfl)) (keep_vn (P := fun t => t = 32) (i := 4) (u := .bool false) ((((hT.set 0 (.slice (some ⟨gs, 0, none⟩) m m)).set 1 (.slice none 0 0)).set 2 (.int .i64 0)).set 3 (.slice ga l.length gc)).o rfl))
      have hF7 := hFc.keepT hkk (by decide)
      have hS7 := hRS.keepT hkk (by decide)
      have hT7 := (((((hT.set 0 (.slice (some ⟨gs, 0, none⟩) m m)).set 1 (.slice none 0 0)).set 2 (.int .i64 0)).set 3 (.slice ga l.length gc)).set 4 (.bool false))
      simp only [List.set] at hT7
      clear hT hFc hRS hkk
      refine hK.out _ _ trivial (fun hHeld => ?_)
      clear hK KK
      try simp only [Act.put, List.setIfInBounds_toArray, List.set_cons_zero, List.set_cons_succ]
      refine wpAnyH_done (by kernel_rfl) ?_ _
      exact HREST _ _ _ _ _ _ _ _ _ _ ⟨hT7, hS7, hF7⟩ hg1 hg2
  ·
    go_simp
    have hbA : Below wd.heap.size wd (wd.alloc (.cells #[.slice none 0 0, .slice none 0 0, .int .i64 0, .slice none 0 0, .bool false] 32)) := (Below.refl _ _).alloc (Nat.le_refl _) _
    have hX0 := VN.new wd 32 [.slice none 0 0, .slice none 0 0, .int .i64 0, .slice none 0 0, .bool false]
    have hXge : w.heap.size < wd.heap.size := hR.lt
    obtain ⟨X, hXe⟩ := hidEx wd.heap.size
    rw [hXe.out] at hX0 hXge ⊢
    replace hR := hR.below hbA
    replace hbel := hbel.trans (hbA.mono hbel.size)
    have hX : VN (wd.alloc (.cells #[.slice none 0 0, .slice none 0 0, .int .i64 0, .slice none 0 0, .bool false] 32)) X 32 [.slice none 0 0, .slice none 0 0, .int .i64 0, .slice none 0 0, .bool false] := hX0
    clear hbA hX0
    refine hK.out _ _ trivial (fun hHeld => ?_)
    clear hK KK
    try simp only [Act.put, List.setIfInBounds_toArray, List.set_cons_zero, List.set_cons_succ]
    obtain ⟨q1, hq1⟩ := hidEx (wd.alloc (.cells #[.slice none 0 0, .slice none 0 0, .int .i64 0, .slice none 0 0, .bool false] 32))
    rw [hq1.out] at hR hbel hX ⊢
    refine wpAnyH_ready (rs := [1, 3]) (by kernel_rfl) (by simp) ?_
    refine AllReadyH.cons rfl (fun KK hK => ?_) (AllReadyH.cons rfl (fun KK hK => ?_) AllReadyH.nil)
    ·
      have hmk := makeSecs m (by omega) q1
      go_simp
      clear hmk
      have hbA : Below q1.heap.size q1 (q1.alloc (.cells (madeCells #[.slice none 0 0] m) 27)) := (Below.refl _ _).alloc (Nat.le_refl _) _
      have hRS := made_rl q1 m hbel.size
      obtain ⟨gs, hgs⟩ := hidEx q1.heap.size
      rw [hgs.out] at hRS ⊢
      replace hR := hR.below hbA
      replace hX := hX.below hbA
      replace hbel := hbel.trans (hbA.mono hbel.size)
      clear hbA
      refine hK.out _ _ trivial (fun hHeld => ?_)
      clear hK KK
      try simp only [Act.put, List.setIfInBounds_toArray, List.set_cons_zero, List.set_cons_succ]
      obtain ⟨q2, hq2⟩ := hidEx (q1.alloc (.cells (madeCells #[.slice none 0 0] m) 27))
      rw [hq2.out] at hR hbel hX hRS ⊢
      refine wpAnyH_ready (rs := [3]) (by kernel_rfl) (by simp) ?_
      refine AllReadyH.cons rfl (fun KK hK => ?_) AllReadyH.nil
      go_simp
      refine (cloneFaults_any a cap l q2 (fview_below HFV.out hbel) hn).mono ?_
      rintro e w5 ⟨ga, gc, rfl, hg1, hg2, hFc, hb5⟩
      replace hFc := hFc.mono hbel.size
      replace hR := hR.below hb5
      replace hX := hX.below hb5
      replace hRS := hRS.up (Up.ofBelow hb5)
      replace hbel := hbel.trans (hb5.mono hbel.size)
      clear hb5
      go_wp2_with fail
      refine hK.out _ _ trivial (fun hHeld => ?_)
      clear hK KK
      try simp only [Act.put, List.setIfInBounds_toArray, List.set_cons_zero, List.set_cons_succ]
      refine' wpAnyH_take (i := 4) (v := _) rfl (by kernel_rfl) (by kernel_rfl) (by kernel_rfl) (fun _ _ _ h => h) (Or.inl ⟨by kernel_rfl, ?hna7⟩) (by assumption) ?rna7
      case hna7 => intro W hW; go_simp; all_goals with_reducible rfl
      change wpAnyH _ _ _ _ _ _ _ (Act.put _ (some 17) _) _
      simp only [Act.put, List.setIfInBounds_toArray, List.set_cons_zero, List.set_cons_succ]
      refine wpAnyH_ready (rs := [6]) (by kernel_rfl) (by simp) ?_
      refine AllReadyH.cons rfl (fun KK hK => ?_) AllReadyH.nil
      have hT : TN w w5 X [.slice none 0 0, .slice none 0 0, .int .i64 0, .slice none 0 0, .bool false] [.slice none 0 0, .slice none 0 0, .int .i64 0, .slice none 0 0, .bool false] := ⟨hbel, hR, hX, hXge⟩
      have e0 : w5.cell? ⟨X, 0, none⟩ = some (.slice none 0 0) := hX.cell 0
      have z0 := hX.fz 0
      have e1 : w5.cell? ⟨X, 1, none⟩ = some (.slice none 0 0) := hX.cell 1
      have z1 := hX.fz 1
      have e2 : w5.cell? ⟨X, 2, none⟩ = some (.int .i64 0) := hX.cell 2
      have z2 := hX.fz 2
      have e3 : w5.cell? ⟨X, 3, none⟩ = some (.slice none 0 0) := hX.cell 3
      have z3 := hX.fz 3
      have e4 : w5.cell? ⟨X, 4, none⟩ = some (.bool false) := hX.cell 4
      have z4 := hX.fz 4
      go_simp
      clear e0 e1 e2 e3 e4 z0 z1 z2 z3 z4 hbel hR hX
      have hkk := (KeepT.trans (KeepT.trans (KeepT.trans (KeepT.trans (keep_vn (P := fun t => t = 32) (i := 0) (u := .slice (some ⟨gs, 0, none⟩) m m) hT.o rfl) (keep_vn (P := fun t => t = 32) (i := 1) (u := .slice none 0 0) (hT.set 0 (.slice (some ⟨gs, 0, none⟩) m m)).o rfl)) (keep_vn (P := fun t => t = 32) (i := 2) (u := .int .i64 0) ((hT.set 0 (.slice (some ⟨gs, 0, none⟩) m m)).set 1 (.slice none 0 0)).o rfl)) (keep_vn (P := fun t => t = 32) (i := 3) (u := .slice ga l.length gc) (((hT.set 0 (.slice (some ⟨gs, 0, none⟩) m m)).set 1 (.slice none 0 0)).set 2 (.int .i64 0)).o rfl)) (keep_vn (P := fun t => t = 32) (i := 4) (u := .bool false) ((((hT.set 0 (.slice (some ⟨gs, 0, none⟩) m m)).set 1 (.slice none 0 0)).set 2 (.int .i64 0)).set 3 (.slice ga l.length gc)).o rfl))
      have hF7 := hFc.keepT hkk (by decide)
      have hS7 := hRS.keepT hkk (by decide)
      have hT7 := (((((hT.set 0 (.slice (some ⟨gs, 0, none⟩) m m)).set 1 (.slice none 0 0)).set 2 (.int .i64 0)).set 3 (.slice ga l.length gc)).set 4 (.bool false))
      simp only [List.set] at hT7
      clear hT hFc hRS hkk
      refine hK.out _ _ trivial (fun hHeld => ?_)
      clear hK KK
      try simp only [Act.put, List.setIfInBounds_toArray, List.set_cons_zero, List.set_cons_succ]
      refine wpAnyH_done (by kernel_rfl) ?_ _
      exact HREST _ _ _ _ _ _ _ _ _ _ ⟨hT7, hS7, hF7⟩ hg1 hg2
    ·
      go_simp
      refine (cloneFaults_any a cap l q1 (fview_below HFV.out hbel) hn).mono ?_
      rintro e w5 ⟨ga, gc, rfl, hg1, hg2, hFc, hb5⟩
      replace hFc := hFc.mono hbel.size
      replace hR := hR.below hb5
      replace hX := hX.below hb5
      replace hbel := hbel.trans (hb5.mono hbel.size)
      clear hb5
      go_wp2_with fail
      refine hK.out _ _ trivial (fun hHeld => ?_)
      clear hK KK
      try simp only [Act.put, List.setIfInBounds_toArray, List.set_cons_zero, List.set_cons_succ]
      refine wpAnyH_ready (rs := [1]) (by kernel_rfl) (by simp) ?_
      refine AllReadyH.cons rfl (fun KK hK => ?_) AllReadyH.nil
      have hmk := makeSecs m (by omega) w5
      go_simp
      clear hmk
      have hbA : Below w5.heap.size w5 (w5.alloc (.cells (madeCells #[.slice none 0 0] m) 27)) := (Below.refl _ _).alloc (Nat.le_refl _) _
      have hRS := made_rl w5 m hbel.size
      obtain ⟨gs, hgs⟩ := hidEx w5.heap.size
      rw [hgs.out] at hRS ⊢
      replace hR := hR.below hbA
      replace hX := hX.below hbA
      replace hFc := hFc.up (Up.ofBelow hbA)
      replace hbel := hbel.trans (hbA.mono hbel.size)
      clear hbA
      refine hK.out _ _ trivial (fun hHeld => ?_)
      clear hK KK
      try simp only [Act.put, List.setIfInBounds_toArray, List.set_cons_zero, List.set_cons_succ]
      obtain ⟨q2, hq2⟩ := hidEx (w5.alloc (.cells (madeCells #[.slice none 0 0] m) 27))
      rw [hq2.out] at hR hbel hX hRS hFc ⊢
      refine' wpAnyH_take (i := 4) (v := _) rfl (by kernel_rfl) (by kernel_rfl) (by kernel_rfl) (fun _ _ _ h => h) (Or.inl ⟨by kernel_rfl, ?hna8⟩) (by assumption) ?rna8
      case hna8 => intro W hW; go_simp; all_goals with_reducible rfl
      change wpAnyH _ _ _ _ _ _ _ (Act.put _ (some 17) _) _
      simp only [Act.put, List.setIfInBounds_toArray, List.set_cons_zero, List.set_cons_succ]
      refine wpAnyH_ready (rs := [6]) (by kernel_rfl) (by simp) ?_
      refine AllReadyH.cons rfl (fun KK hK => ?_) AllReadyH.nil
      have hT : TN w q2 X [.slice none 0 0, .slice none 0 0, .int .i64 0, .slice none 0 0, .bool false] [.slice none 0 0, .slice none 0 0, .int .i64 0, .slice none 0 0, .bool false] := ⟨hbel, hR, hX, hXge⟩
      have e0 : q2.cell? ⟨X, 0, none⟩ = some (.slice none 0 0) := hX.cell 0
      have z0 := hX.fz 0
      have e1 : q2.cell? ⟨X, 1, none⟩ = some (.slice none 0 0) := hX.cell 1
      have z1 := hX.fz 1
      have e2 : q2.cell? ⟨X, 2, none⟩ = some (.int .i64 0) := hX.cell 2
      have z2 := hX.fz 2
      have e3 : q2.cell? ⟨X, 3, none⟩ = some (.slice none 0 0) := hX.cell 3
      have z3 := hX.fz 3
      have e4 : q2.cell? ⟨X, 4, none⟩ = some (.bool false) := hX.cell 4
      have z4 := hX.fz 4
      go_simp
      clear e0 e1 e2 e3 e4 z0 z1 z2 z3 z4 hbel hR hX
      have hkk := (KeepT.trans (KeepT.trans (KeepT.trans (KeepT.trans (keep_vn (P := fun t => t = 32) (i := 0) (u := .slice (some ⟨gs, 0, none⟩) m m) hT.o rfl) (keep_vn (P := fun t => t = 32) (i := 1) (u := .slice none 0 0) (hT.set 0 (.slice (some ⟨gs, 0, none⟩) m m)).o rfl)) (keep_vn (P := fun t => t = 32) (i := 2) (u := .int .i64 0) ((hT.set 0 (.slice (some ⟨gs, 0, none⟩) m m)).set 1 (.slice none 0 0)).o rfl)) (keep_vn (P := fun t => t = 32) (i := 3) (u := .slice ga l.length gc) (((hT.set 0 (.slice (some ⟨gs, 0, none⟩) m m)).set 1 (.slice none 0 0)).set 2 (.int .i64 0)).o rfl)) (keep_vn (P := fun t => t = 32) (i := 4) (u := .bool false) ((((hT.set 0 (.slice (some ⟨gs, 0, none⟩) m m)).set 1 (.slice none 0 0)).set 2 (.int .i64 0)).set 3 (.slice ga l.length gc)).o rfl))
      have hF7 := hFc.keepT hkk (by decide)
      have hS7 := hRS.keepT hkk (by decide)
      have hT7 := (((((hT.set 0 (.slice (some ⟨gs, 0, none⟩) m m)).set 1 (.slice none 0 0)).set 2 (.int .i64 0)).set 3 (.slice ga l.length gc)).set 4 (.bool false))
      simp only [List.set] at hT7
      clear hT hFc hRS hkk
      refine hK.out _ _ trivial (fun hHeld => ?_)
      clear hK KK
      try simp only [Act.put, List.setIfInBounds_toArray, List.set_cons_zero, List.set_cons_succ]
      refine wpAnyH_done (by kernel_rfl) ?_ _
      exact HREST _ _ _ _ _ _ _ _ _ _ ⟨hT7, hS7, hF7⟩ hg1 hg2
end Go.Proofs.Ytdhfbblameiloaa

