/-
  Together: DiskMS, FaultS, BeginI, DiskPlain, DiskMS2, FineD, ReadPlainD, WritePlain, DiskKeepOk, DrawFaults12, L1In
-/
import Derived.Test.YtdhfbblameiloaaUP2
import Derived.Deep.LoopGhost
import Derived.Deep.RegionHeld3
import Derived.Test.YtdhfbblameiloaaUP1
/-
  A disk in a variable of the model's, whose rows are the call's own.
-/
namespace Go.Proofs.Ytdhfbblameiloaa
open Go.RowKit
set_option maxRecDepth 4000

theorem OB.keepT {P : TypeId → Prop} {w w' : World} {B : Nat} {v : Value} {l : List Int} (h : OB w B v l) (ho : KeepT P w w') (hT : ¬ P 5) : OB w' B v l := by
  obtain ⟨a, c, e, h1, h2, h3, h4⟩ := h.is
  refine ⟨a, c, e, h1, h2, h3, ?_⟩
  rcases h4 with h4 | ⟨g, ea, hb, hr⟩
  · exact .inl h4
  · obtain ⟨cur, hc, hx⟩ := hr
    exact .inr ⟨g, ea, hb, cur, (ho g _ _ _ hc hT).trans hc, hx⟩
/-- The disk D in the variable X, whose sectors have S. -/
structure MS (w : World) (B X gs sc : Nat) (ca : Option Addr) (cc : Nat) (fa : Option Addr) (fc : Nat) (ss cs : List Value) (D : PDisk) (S : List (List Int)) : Prop where
  x : VN w X 32 [.slice (some ⟨gs, 0, none⟩) D.secs.length sc, .slice ca D.cache.length cc, .int .i64 D.ops, .slice fa D.faults.length fc, .bool D.down]
  secs : RL 27 w B (some ⟨gs, 0, none⟩) ss
  ns : ss.length = D.secs.length
  len : S.length = D.secs.length
  ob : ∀ (i : Nat) v l, ss[i]? = some v → S[i]? = some l → OB w B v l
  own : w.ownsRow B 51 2 (.slice ca D.cache.length cc) D.cache.length (wcells D.cache cs)
  nc : cs.length = D.cache.length
  cb : ∀ (i : Nat) v l, cs[i]? = some v → (D.cache.map (·.2))[i]? = some l → OB w B v l
  fown : w.ownsRow B 79 3 (.slice fa D.faults.length fc) D.faults.length (fcells D.faults)
/-- The faults' row. -/
theorem MS.faults {w : World} {B X gs sc : Nat} {ca : Option Addr} {cc : Nat} {fa : Option Addr} {fc : Nat} {ss cs : List Value} {D : PDisk} {S : List (List Int)} (h : MS w B X gs sc ca cc fa fc ss cs D S) : RL 79 w B fa (fcells D.faults) := by
  obtain ⟨a, c, e, -, -, h3⟩ := own_rl h.fown
  cases e
  exact h3
/-- The cache's row. -/
theorem MS.cache {w : World} {B X gs sc : Nat} {ca : Option Addr} {cc : Nat} {fa : Option Addr} {fc : Nat} {ss cs : List Value} {D : PDisk} {S : List (List Int)} (h : MS w B X gs sc ca cc fa fc ss cs D S) : RL 51 w B ca (wcells D.cache cs) := by
  obtain ⟨a, c, e, -, -, h3⟩ := own_rl h.own
  cases e
  exact h3
theorem MS.on {w w' : World} {B X gs sc : Nat} {ca : Option Addr} {cc : Nat} {fa : Option Addr} {fc : Nat} {ss cs : List Value} {D : PDisk} {S : List (List Int)} (h : MS w B X gs sc ca cc fa fc ss cs D S) (hb : Below w.heap.size w w') : MS w' B X gs sc ca cc fa fc ss cs D S :=
  ⟨h.x.below hb, h.secs.up (Up.ofBelow hb), h.ns, h.len, fun i v l h1 h2 => (h.ob i v l h1 h2).up (Up.ofBelow hb), own_upK h.own (Up.ofBelow hb), h.nc, fun i v l h1 h2 => (h.cb i v l h1 h2).up (Up.ofBelow hb), own_upK h.fown (Up.ofBelow hb)⟩
/-- A variable of another type turns. -/
theorem MS.other {w : World} {B X gs sc : Nat} {ca : Option Addr} {cc : Nat} {fa : Option Addr} {fc : Nat} {ss cs : List Value} {D : PDisk} {S : List (List Int)} {Y i : Nat} {u : Value} (h : MS w B X gs sc ca cc fa fc ss cs D S) (hY : w.heap.size ≤ Y) : MS (w.setCell ⟨Y, i, none⟩ u) B X gs sc ca cc fa fc ss cs D S :=
  h.on ((Below.refl _ _).setCell (p := ⟨Y, i, none⟩) hY u)
/-- A byte row comes into a sector. -/
theorem MS.put {w : World} {B X gs sc : Nat} {ca : Option Addr} {cc : Nat} {fa : Option Addr} {fc : Nat} {ss cs : List Value} {D : PDisk} {S : List (List Int)} (h : MS w B X gs sc ca cc fa fc ss cs D S) {m : Nat} (hm : m < D.secs.length) {v : Value} {l : List Int} (hv : OB w B v l) : MS (w.setCell ⟨gs, m, none⟩ v) B X gs sc ca cc fa fc (ss.set m v) cs D (S.set m l) := by
  have hk : KeepT (fun t => t = 27) w (w.setCell ⟨gs, m, none⟩ v) := KeepT.set h.secs (by rw [h.ns]; omega) rfl
  have hne : X ≠ gs := by
    rintro rfl
    obtain ⟨g, e, -, -, -⟩ := h.secs.cell (by rw [h.ns]; omega)
    rcases h.secs with h0 | ⟨g', cur, ea, -, hg, -⟩
    · have := h.ns; rw [h0] at this; simp at this; omega
    · cases ea
      have := h.x
      unfold VN at this
      rw [hg] at this
      cases this
  refine ⟨h.x.other hne, h.secs.set m v (by rw [h.ns]; exact hm), by simp [h.ns], by simp [h.len], fun i u x h1 h2 => ?_, own_keepT h.own hk (by decide), h.nc, fun i u x h1 h2 => (h.cb i u x h1 h2).keepT hk (by decide), own_keepT h.fown hk (by decide)⟩
  rw [List.getElem?_set] at h1 h2
  by_cases e : m = i
  · subst e
    rw [if_pos rfl, if_pos (by rw [h.ns]; exact hm)] at h1
    rw [if_pos rfl, if_pos (by rw [h.len]; exact hm)] at h2
    cases h1; cases h2
    exact hv.keepT hk (by decide)
  · rw [if_neg e] at h1 h2
    exact (h.ob i u x h1 h2).keepT hk (by decide)
/-- An owned disk that was put into a variable. -/
theorem MS.start {w : World} {B X gs sc : Nat} {ca : Option Addr} {cc : Nat} {fa : Option Addr} {fc : Nat} {ss cs : List Value} {D : PDisk} (h : KO w B (some ⟨gs, 0, none⟩) sc ca cc fa fc ss cs D) (hX : VN w X 32 [.slice (some ⟨gs, 0, none⟩) D.secs.length sc, .slice ca D.cache.length cc, .int .i64 D.ops, .slice fa D.faults.length fc, .bool D.down]) (hO : w.ownsRow B 51 2 (.slice ca D.cache.length cc) D.cache.length (wcells D.cache cs)) (hF : w.ownsRow B 79 3 (.slice fa D.faults.length fc) D.faults.length (fcells D.faults)) : MS w B X gs sc ca cc fa fc ss cs D D.secs :=
  ⟨hX, h.secs, h.ns, rfl, fun i v l h1 h2 => h.bytes.ob i v l (by rw [List.getElem?_append_left (List.getElem?_eq_some_iff.1 h1).1]; exact h1) (by rw [List.getElem?_append_left (List.getElem?_eq_some_iff.1 h2).1]; exact h2), hO, h.nc, fun i v l h1 h2 => h.bytes.ob (ss.length + i) v l (by rw [List.getElem?_append_right (by omega), Nat.add_sub_cancel_left]; exact h1) (by rw [h.ns, List.getElem?_append_right (by omega), Nat.add_sub_cancel_left]; exact h2), hF⟩
/-- The sectors and the faults read. -/
theorem MS.view {w : World} {B X gs sc : Nat} {ca : Option Addr} {cc : Nat} {fa : Option Addr} {fc : Nat} {ss cs : List Value} {D : PDisk} {S : List (List Int)} (h : MS w B X gs sc ca cc fa fc ss cs D S) (hs : D.secs.length ≤ sc) (hp : 0 < D.secs.length) : SView w (some ⟨gs, 0, none⟩) sc S := by
  refine ⟨by rw [h.len]; exact hs, (fun e => by cases e), fun hn => ?_⟩
  obtain ⟨g, ea, -, hlt, hc⟩ := h.secs.cell (by rw [h.ns]; omega)
  refine ⟨g, 0, ea, hlt, fun i x hi => ?_⟩
  have hi' : i < ss.length := by rw [h.ns, ← h.len]; exact (List.getElem?_eq_some_iff.1 hi).1
  have hv := List.getElem?_eq_getElem hi'
  refine ⟨[ss[i]], ⟨ss[i], rfl, (h.ob i _ x hv hi).lv⟩, fun j u hj => ?_⟩
  match j, hj with
  | 0, hj => cases hj; simpa using hc i _ hv
end Go.Proofs.Ytdhfbblameiloaa

/-
  The model's l12Fault.
-/
namespace Go.Proofs.Ytdhfbblameiloaa
open Go.RowKit
set_option maxRecDepth 4000

/-- The fault of this operation. -/
def findF (l : List PFault) (x : Int) : Option PFault := l.find? (fun f => f.pos == x)
theorem findF_hit {l : List PFault} {x : Int} {k : Nat} (h : k < l.length) (e : (l[k]).pos = x) (hn : ∀ i (h : i < l.length), i < k → (l[i]).pos ≠ x) : findF l x = some l[k] := by
  unfold findF
  rw [List.find?_eq_some_iff_getElem]
  exact ⟨by simpa using e, k, h, rfl, fun j hj => by simpa using hn j (by omega) hj⟩
theorem findF_none {l : List PFault} {x : Int} (hn : ∀ i (h : i < l.length), (l[i]).pos ≠ x) : findF l x = none := by
  unfold findF
  rw [List.find?_eq_none]
  intro f hf
  obtain ⟨i, hi, rfl⟩ := List.getElem_of_mem hf
  simpa using hn i hi
/-- What asking for the fault comes to. -/
def FaultTo (w : World) (D : PDisk) (e : Ending) (w' : World) : Prop := Below w.heap.size w w' ∧ ((∃ f : PFault, findF D.faults D.ops = some f ∧ e = .returned (.tuple #[.agg #[.int .i64 f.pos, .int .i64 f.keep, .int .i64 f.cut], .bool true])) ∨ (findF D.faults D.ops = none ∧ e = .returned (.tuple #[.agg #[.int .i64 0, .int .i64 0, .int .i64 0], .bool false])))

set_option maxHeartbeats 8000000 in
theorem l12Fault_any (v : Value) (D : PDisk) (w : World) (h : KView w v D) (hf : KFine D) :
    Calls Try.prog 116 #[v] w (FaultTo w D) := by
  obtain ⟨sa, sc, ca, cc, fa, fc, rfl, -, -, hfv⟩ := h.is
  clear h
  have hnf := hf.nf
  clear hf
  have HFV : Hid (FView w fa fc D.faults) := hfv
  clear hfv
  have hbel : Below w.heap.size w ((w.alloc (.cells #[.slice sa D.secs.length sc, .slice ca D.cache.length cc, .int .i64 D.ops, .slice fa D.faults.length fc, .bool D.down] 32)).alloc (.cells #[.int .i64 0, .int .i64 0, .int .i64 0] 79)) := ((Below.refl _ _).alloc (Nat.le_refl _) _).alloc (by simp) _
  have hA0 := (VN.new w 32 [.slice sa D.secs.length sc, .slice ca D.cache.length cc, .int .i64 D.ops, .slice fa D.faults.length fc, .bool D.down]).below ((Below.refl _ _).alloc (Nat.le_refl _) (.cells #[.int .i64 0, .int .i64 0, .int .i64 0] 79))
  have hR0 := VN.new (w.alloc (.cells #[.slice sa D.secs.length sc, .slice ca D.cache.length cc, .int .i64 D.ops, .slice fa D.faults.length fc, .bool D.down] 32)) 79 [.int .i64 0, .int .i64 0, .int .i64 0]
  rw [alloc_sizeK] at hR0
  go_enter Try.func116, Try.ntmps116
  go_wp2
  go_loopg [4] D.faults.length (fun q i wr => ∃ k : Nat, k ≤ D.faults.length ∧ q = D.faults.length - k ∧ i = .int .i64 k ∧ Below w.heap.size w wr ∧ VN wr w.heap.size 32 [.slice sa D.secs.length sc, .slice ca D.cache.length cc, .int .i64 D.ops, .slice fa D.faults.length fc, .bool D.down] ∧ VN wr (w.heap.size + 1) 79 [.int .i64 0, .int .i64 0, .int .i64 0] ∧ Hid (∀ i (h : i < D.faults.length), i < k → (D.faults[i]).pos ≠ D.ops))
  case atStart => exact ⟨0, Nat.zero_le _, rfl, rfl, hbel, hA0, hR0, fun i _ hi => absurd hi (Nat.not_lt_zero _)⟩
  case round =>
    clear hbel hA0 hR0
    obtain ⟨k, hk, rfl, rfl, hB, hA, hR, HN⟩ := hrel
    have y2 : wr.cell? ⟨w.heap.size, 2, none⟩ = some (.int .i64 D.ops) := hA.cell 2
    have y3 : wr.cell? ⟨w.heap.size, 3, none⟩ = some (.slice fa D.faults.length fc) := hA.cell 3
    by_cases hlt : k < D.faults.length
    · obtain ⟨b1, o1, e1, hb1, x0, x1, x2⟩ := fview_at (fview_below HFV.out hB) hlt
      subst e1
      have hkz : (k : Int) < (D.faults.length : Int) := by omega
      have HHIT : Hid ((D.faults[k]).pos = D.ops → findF D.faults D.ops = some D.faults[k]) := fun e => findF_hit hlt e HN.out
      have HMISS : Hid (¬ (D.faults[k]).pos = D.ops → ∀ i (h : i < D.faults.length), i < k + 1 → (D.faults[i]).pos ≠ D.ops) := by
        intro hp i h hi
        by_cases e : i < k
        · exact HN.out i h e
        · obtain rfl : i = k := by omega
          exact hp
      obtain ⟨p0, hp0⟩ := hidEx (D.faults[k]).pos
      obtain ⟨p1, hp1⟩ := hidEx (D.faults[k]).keep
      obtain ⟨p2, hp2⟩ := hidEx (D.faults[k]).cut
      have HP : Hid ((D.faults[k]).pos = p0 ∧ (D.faults[k]).keep = p1 ∧ (D.faults[k]).cut = p2) := ⟨hp0.out, hp1.out, hp2.out⟩
      rw [hp0.out] at x0 HHIT HMISS
      rw [hp1.out] at x1
      rw [hp2.out] at x2
      have hRd : VN wr.drew (w.heap.size + 1) 79 [.int .i64 0, .int .i64 0, .int .i64 0] := hR.block rfl
      clear HN hR
      go_wp2_with fail
      refine wp_region_held_drew (S := fun W => W.cell? ⟨w.heap.size, 2, none⟩ = some (.int .i64 D.ops) ∧ W.cell? ⟨w.heap.size, 3, none⟩ = some (.slice (some ⟨b1, o1, none⟩) D.faults.length fc) ∧ W.cell? ⟨b1, o1 + k * 3, none⟩ = some (.int .i64 p0)) (by kernel_rfl) ⟨y2, y3, x0⟩ (fun hHeld => ?_)
      have hBd : Below w.heap.size w wr.drew := hB.drew
      have hAd : VN wr.drew w.heap.size 32 [.slice sa D.secs.length sc, .slice ca D.cache.length cc, .int .i64 D.ops, .slice (some ⟨b1, o1, none⟩) D.faults.length fc, .bool D.down] := hA.block rfl
      obtain ⟨wd, hwd⟩ := hidEx wr.drew
      rw [hwd.out] at hRd hBd hAd hHeld ⊢
      refine' wpAnyH_take (i := 0) (v := _) rfl (by kernel_rfl) (by kernel_rfl) (by kernel_rfl) (fun _ _ _ h => h) (Or.inl ⟨by kernel_rfl, ?hfl1⟩) (by assumption) ?rfl1
      case hfl1 => intro W hW; obtain ⟨c0, c1, c2⟩ := hW; go_simp; all_goals with_reducible rfl
      change wpAnyH _ _ _ _ _ _ _ (Act.put _ (some 12) _) _
      simp only [Act.put, List.setIfInBounds_toArray, List.set_cons_zero, List.set_cons_succ]
      refine' wpAnyH_take (i := 1) (v := _) rfl (by kernel_rfl) (by kernel_rfl) (by kernel_rfl) (fun _ _ _ h => h) (Or.inl ⟨by kernel_rfl, ?hfl2⟩) (by assumption) ?rfl2
      case hfl2 => intro W hW; obtain ⟨c0, c1, c2⟩ := hW; go_simp; all_goals with_reducible rfl
      change wpAnyH _ _ _ _ _ _ _ (Act.put _ (some 13) _) _
      simp only [Act.put, List.setIfInBounds_toArray, List.set_cons_zero, List.set_cons_succ]
      refine' wpAnyH_take (i := 2) (v := _) rfl (by kernel_rfl) (by kernel_rfl) (by kernel_rfl) (fun _ _ _ h => h) (Or.inl ⟨by kernel_rfl, ?hfl3⟩) (by assumption) ?rfl3
      case hfl3 => intro W hW; obtain ⟨c0, c1, c2⟩ := hW; go_simp; all_goals with_reducible rfl
      change wpAnyH _ _ _ _ _ _ _ (Act.put _ (some 14) _) _
      simp only [Act.put, List.setIfInBounds_toArray, List.set_cons_zero, List.set_cons_succ]
      refine' wpAnyH_take (i := 3) (v := _) rfl (by kernel_rfl) (by kernel_rfl) (by kernel_rfl) (fun _ _ _ h => h) (Or.inl ⟨by kernel_rfl, ?hfl4⟩) (by assumption) ?rfl4
      case hfl4 => intro W hW; obtain ⟨c0, c1, c2⟩ := hW; go_simp; all_goals with_reducible rfl
      change wpAnyH _ _ _ _ _ _ _ (Act.put _ (some 15) _) _
      simp only [Act.put, List.setIfInBounds_toArray, List.set_cons_zero, List.set_cons_succ]
      refine' wpAnyH_take (i := 4) (v := _) rfl (by kernel_rfl) (by kernel_rfl) (by kernel_rfl) (fun _ _ _ h => h) (Or.inl ⟨by kernel_rfl, ?hfl5⟩) (by assumption) ?rfl5
      case hfl5 => intro W hW; obtain ⟨c0, c1, c2⟩ := hW; go_simp; all_goals with_reducible rfl
      change wpAnyH _ _ _ _ _ _ _ (Act.put _ (some 16) _) _
      simp only [Act.put, List.setIfInBounds_toArray, List.set_cons_zero, List.set_cons_succ]
      refine' wpAnyH_take (i := 5) (v := _) rfl (by kernel_rfl) (by kernel_rfl) (by kernel_rfl) (fun _ _ _ h => h) (Or.inl ⟨by kernel_rfl, ?hfl6⟩) (by assumption) ?rfl6
      case hfl6 => intro W hW; obtain ⟨c0, c1, c2⟩ := hW; go_simp; all_goals with_reducible rfl
      change wpAnyH _ _ _ _ _ _ _ (Act.put _ (some 17) _) _
      simp only [Act.put, List.setIfInBounds_toArray, List.set_cons_zero, List.set_cons_succ]
      refine' wpAnyH_take (i := 6) (v := _) rfl (by kernel_rfl) (by kernel_rfl) (by kernel_rfl) (fun _ _ _ h => h) (Or.inl ⟨by kernel_rfl, ?hfl7⟩) (by assumption) ?rfl7
      case hfl7 => intro W hW; obtain ⟨c0, c1, c2⟩ := hW; go_simp; all_goals with_reducible rfl
      change wpAnyH _ _ _ _ _ _ _ (Act.put _ (some 18) _) _
      simp only [Act.put, List.setIfInBounds_toArray, List.set_cons_zero, List.set_cons_succ]
      refine' wpAnyH_take (i := 7) (v := _) rfl (by kernel_rfl) (by kernel_rfl) (by kernel_rfl) (fun _ _ _ h => h) (Or.inl ⟨by kernel_rfl, ?hfl8⟩) (by assumption) ?rfl8
      case hfl8 => intro W hW; obtain ⟨c0, c1, c2⟩ := hW; go_simp; all_goals with_reducible rfl
      change wpAnyH _ _ _ _ _ _ _ (Act.put _ (some 19) _) _
      simp only [Act.put, List.setIfInBounds_toArray, List.set_cons_zero, List.set_cons_succ]
      refine' wpAnyH_take (i := 8) (v := _) rfl (by kernel_rfl) (by kernel_rfl) (by kernel_rfl) (fun _ _ _ h => h) (Or.inl ⟨by kernel_rfl, ?hfl9⟩) (by assumption) ?rfl9
      case hfl9 => intro W hW; obtain ⟨c0, c1, c2⟩ := hW; go_simp; all_goals with_reducible rfl
      change wpAnyH _ _ _ _ _ _ _ (Act.put _ (some 20) _) _
      simp only [Act.put, List.setIfInBounds_toArray, List.set_cons_zero, List.set_cons_succ]
      refine wpAnyH_done (by kernel_rfl) ?_ _
      clear hHeld
      by_cases hN : p0 = D.ops
      · have HR : Hid (findF D.faults D.ops = some D.faults[k]) := HHIT.out hN
        subst hN
        have hq : (D.ops == D.ops) = true := beq_self_eq_true _
        clear HHIT HMISS
        have R1 := hRd.set 0 (.int .i64 D.ops)
        have R2 := R1.set 1 (.int .i64 p1)
        have R3 := R2.set 2 (.int .i64 p2)
        simp only [List.set] at R3
        have r0 : wd.cell? ⟨w.heap.size + 1, 0, none⟩ = some (.int .i64 0) := hRd.cell 0
        have r1 : wd.cell? ⟨w.heap.size + 1, 1, none⟩ = some (.int .i64 0) := hRd.cell 1
        have r2 : wd.cell? ⟨w.heap.size + 1, 2, none⟩ = some (.int .i64 0) := hRd.cell 2
        have q0 := hRd.fz 0
        have q1 := hRd.fz 1
        have q2 := hRd.fz 2
        have m0 : (((wd.setCell ⟨w.heap.size + 1, 0, none⟩ (.int .i64 D.ops)).setCell ⟨w.heap.size + 1, 1, none⟩ (.int .i64 p1)).setCell ⟨w.heap.size + 1, 2, none⟩ (.int .i64 p2)).cell? ⟨w.heap.size + 1, 0, none⟩ = some (.int .i64 D.ops) := R3.cell 0
        have m1 : (((wd.setCell ⟨w.heap.size + 1, 0, none⟩ (.int .i64 D.ops)).setCell ⟨w.heap.size + 1, 1, none⟩ (.int .i64 p1)).setCell ⟨w.heap.size + 1, 2, none⟩ (.int .i64 p2)).cell? ⟨w.heap.size + 1, 1, none⟩ = some (.int .i64 p1) := R3.cell 1
        have m2 : (((wd.setCell ⟨w.heap.size + 1, 0, none⟩ (.int .i64 D.ops)).setCell ⟨w.heap.size + 1, 1, none⟩ (.int .i64 p1)).setCell ⟨w.heap.size + 1, 2, none⟩ (.int .i64 p2)).cell? ⟨w.heap.size + 1, 2, none⟩ = some (.int .i64 p2) := R3.cell 2
        have HB : Hid (Below w.heap.size w (((wd.setCell ⟨w.heap.size + 1, 0, none⟩ (.int .i64 D.ops)).setCell ⟨w.heap.size + 1, 1, none⟩ (.int .i64 p1)).setCell ⟨w.heap.size + 1, 2, none⟩ (.int .i64 p2))) := ((hBd.setCell (p := ⟨w.heap.size + 1, 0, none⟩) (by simp) _).setCell (p := ⟨w.heap.size + 1, 1, none⟩) (by simp) _).setCell (p := ⟨w.heap.size + 1, 2, none⟩) (by simp) _
        have y2d : wd.cell? ⟨w.heap.size, 2, none⟩ = some (.int .i64 D.ops) := by rw [← hwd.out]; exact y2
        have y3d : wd.cell? ⟨w.heap.size, 3, none⟩ = some (.slice (some ⟨b1, o1, none⟩) D.faults.length fc) := by rw [← hwd.out]; exact y3
        have x0d : wd.cell? ⟨b1, o1 + k * 3, none⟩ = some (.int .i64 D.ops) := by rw [← hwd.out]; exact x0
        have x1d : wd.cell? ⟨b1, o1 + k * 3 + 1, none⟩ = some (.int .i64 p1) := by rw [← hwd.out]; exact x1
        have x2d : wd.cell? ⟨b1, o1 + k * 3 + 2, none⟩ = some (.int .i64 p2) := by rw [← hwd.out]; exact x2
        clear R1 R2 R3 hRd hA hB hBd y2 y3 x0 x1 x2
        go_wp2
        exact bodyPost_ret (v := .tuple #[.agg #[.int .i64 D.ops, .int .i64 p1, .int .i64 p2], .bool true]) (by simp [results, Try.results116, go_sem, m0, m1, m2]) rfl ⟨HB.out, .inl ⟨D.faults[k], HR.out, by rw [HP.out.1, HP.out.2.1, HP.out.2.2]⟩⟩
      · have HN2 : Hid (∀ i (h : i < D.faults.length), i < k + 1 → (D.faults[i]).pos ≠ D.ops) := HMISS.out hN
        have hq : (p0 == D.ops) = false := beq_eq_false_iff_ne.2 hN
        clear HHIT HMISS
        go_wp2
        go_roundg (D.faults.length - (k + 1))
        case measure => omega
        case rel => exact ⟨k + 1, by omega, rfl, by go_num, hBd, hAd, hRd, HN2⟩
    · have hkz : ¬ (k : Int) < (D.faults.length : Int) := by omega
      have HR : Hid (findF D.faults D.ops = none) := findF_none (fun i h => HN.out i h (by omega))
      have R3 := ((hR.set 0 (.int .i64 0)).set 1 (.int .i64 0)).set 2 (.int .i64 0)
      simp only [List.set] at R3
      have r0 : wr.cell? ⟨w.heap.size + 1, 0, none⟩ = some (.int .i64 0) := hR.cell 0
      have r1 : wr.cell? ⟨w.heap.size + 1, 1, none⟩ = some (.int .i64 0) := hR.cell 1
      have r2 : wr.cell? ⟨w.heap.size + 1, 2, none⟩ = some (.int .i64 0) := hR.cell 2
      have q0 := hR.fz 0
      have q1 := hR.fz 1
      have q2 := hR.fz 2
      have m0 : (((wr.setCell ⟨w.heap.size + 1, 0, none⟩ (.int .i64 0)).setCell ⟨w.heap.size + 1, 1, none⟩ (.int .i64 0)).setCell ⟨w.heap.size + 1, 2, none⟩ (.int .i64 0)).cell? ⟨w.heap.size + 1, 0, none⟩ = some (.int .i64 0) := R3.cell 0
      have m1 : (((wr.setCell ⟨w.heap.size + 1, 0, none⟩ (.int .i64 0)).setCell ⟨w.heap.size + 1, 1, none⟩ (.int .i64 0)).setCell ⟨w.heap.size + 1, 2, none⟩ (.int .i64 0)).cell? ⟨w.heap.size + 1, 1, none⟩ = some (.int .i64 0) := R3.cell 1
      have m2 : (((wr.setCell ⟨w.heap.size + 1, 0, none⟩ (.int .i64 0)).setCell ⟨w.heap.size + 1, 1, none⟩ (.int .i64 0)).setCell ⟨w.heap.size + 1, 2, none⟩ (.int .i64 0)).cell? ⟨w.heap.size + 1, 2, none⟩ = some (.int .i64 0) := R3.cell 2
      have HB : Hid (Below w.heap.size w (((wr.setCell ⟨w.heap.size + 1, 0, none⟩ (.int .i64 0)).setCell ⟨w.heap.size + 1, 1, none⟩ (.int .i64 0)).setCell ⟨w.heap.size + 1, 2, none⟩ (.int .i64 0))) := ((hB.setCell (p := ⟨w.heap.size + 1, 0, none⟩) (by simp) _).setCell (p := ⟨w.heap.size + 1, 1, none⟩) (by simp) _).setCell (p := ⟨w.heap.size + 1, 2, none⟩) (by simp) _
      clear R3 hR hA hB HN
      go_wp2
      exact bodyPost_ret (v := .tuple #[.agg #[.int .i64 0, .int .i64 0, .int .i64 0], .bool false]) (by simp [results, Try.results116, go_sem, m0, m1, m2]) rfl ⟨HB.out, .inr ⟨HR.out, rfl⟩⟩
end Go.Proofs.Ytdhfbblameiloaa

/-
  The program's begin and isStopped.
-/
namespace Go.Proofs.Ytdhfbblameiloaa
open Go.RowKit
set_option maxRecDepth 4000

/-- Of what was there block X alone may have turned. -/
structure ButX (X : Nat) (w w' : World) : Prop where
  os : w'.os = w.os
  tape : w'.tape = w.tape
  output : w'.output = w.output
  size : w.heap.size ≤ w'.heap.size
  block : ∀ k, k < w.heap.size → k ≠ X → w'.heap[k]? = w.heap[k]?
theorem ButX.refl (X : Nat) (w : World) : ButX X w w := ⟨rfl, rfl, rfl, Nat.le_refl _, fun _ _ _ => rfl⟩
theorem ButX.trans {X : Nat} {a b c : World} (h : ButX X a b) (k : ButX X b c) : ButX X a c := ⟨k.os.trans h.os, k.tape.trans h.tape, k.output.trans h.output, Nat.le_trans h.size k.size, fun i hi ho => (k.block i (Nat.lt_of_lt_of_le hi h.size) ho).trans (h.block i hi ho)⟩
theorem ButX.on {X : Nat} {w w' w2 : World} (h : ButX X w w') (hb : Below w'.heap.size w' w2) : ButX X w w2 := h.trans ⟨hb.os, hb.tape, hb.output, hb.size, fun k hk _ => hb.block k hk⟩
theorem ButX.set {X i : Nat} {w w' : World} (h : ButX X w w') (u : Value) : ButX X w (w'.setCell ⟨X, i, none⟩ u) := ⟨h.os, h.tape, h.output, by simpa using h.size, fun k hk ho => (Below.heap_setCell _ _ _ _ (show k ≠ X from ho)).trans (h.block k hk ho)⟩
theorem ButX.new {X C i : Nat} {w w' : World} (h : ButX X w w') (hC : w.heap.size ≤ C) (u : Value) : ButX X w (w'.setCell ⟨C, i, none⟩ u) := ⟨h.os, h.tape, h.output, by simpa using h.size, fun k hk ho => (Below.heap_setCell _ _ _ _ (show k ≠ C by omega)).trans (h.block k hk ho)⟩
theorem ButX.keep {X : Nat} {w w' : World} {ys : List Value} (h : ButX X w w') (hX : VN w X 32 ys) : KeepT (fun t => t = 32) w w' := by
  intro b c t z hb ht
  refine h.block b (Array.getElem?_eq_some_iff.1 hb).1 (fun e => ?_)
  unfold VN at hX
  rw [e, hX] at hb
  cases hb
  exact ht rfl
theorem fview_rl {w : World} {B : Nat} {a : Option Addr} {cap : Nat} {l : List PFault} (h : RL 79 w B a (fcells l)) (hl : l.length ≤ cap) (hn : a = none → cap = 0) : FView w a cap l := by
  refine ⟨hl, hn, fun hp => ?_⟩
  obtain ⟨g', ea, -, hlt, hc⟩ := h.cell (by rw [fcells_len]; omega)
  subst ea
  refine ⟨g', 0, rfl, hlt, fun i x hi => ⟨fEl x, rfl, fun j u hj => ?_⟩⟩
  have hj3 : j < 3 := (List.getElem?_eq_some_iff.1 hj).1
  have g0 := fcells_get hi hj3
  rw [hj] at g0
  simpa using hc _ _ g0

set_option maxHeartbeats 1000000 in
theorem isStopped_any (v : Value) (D : PDisk) (w : World) (h : KView w v D) :
    Calls Try.prog 64 #[v] w fun e w' => ∃ r : Bool, e = .returned (.bool r) ∧ (r = true ↔ D.down = true ∨ 100000 ≤ D.ops) ∧ Below w.heap.size w w' := by
  obtain ⟨sa, sc, ca, cc, fa, fc, rfl, -, -, -⟩ := h.is
  clear h
  have hb : Below w.heap.size w (w.alloc (.cells #[.slice sa D.secs.length sc, .slice ca D.cache.length cc, .int .i64 D.ops, .slice fa D.faults.length fc, .bool D.down] 32)) := (Below.refl _ _).alloc (Nat.le_refl _) _
  obtain ⟨dn, hdn⟩ := hidEx D.down
  rw [hdn.out] at hb ⊢
  cases dn
  · go_enter Try.func64, Try.ntmps64
    go_wp2
    go_ret
    exact ⟨decide (100000 ≤ D.ops), rfl, by simp, hb⟩
  · go_enter Try.func64, Try.ntmps64
    go_wp2
    go_ret
    exact ⟨true, rfl, by simp, hb⟩

/-- What begin comes to. -/
def BeginTo (w : World) (X : Nat) (s c : Value) (ops : Int) (fa : Option Addr) (fc : Nat) (l : List PFault) (b : Value) (e : Ending) (w' : World) : Prop :=
  ButX X w w' ∧ VN w' X 32 [s, c, .int .i64 (ops + 1), .slice fa l.length fc, b] ∧ ((∃ f : PFault, findF l ops = some f ∧ e = .returned (.tuple #[.agg #[.int .i64 f.pos, .int .i64 f.keep, .int .i64 f.cut], .bool true])) ∨ (findF l ops = none ∧ e = .returned (.tuple #[.agg #[.int .i64 0, .int .i64 0, .int .i64 0], .bool false])))

set_option maxHeartbeats 8000000 in
theorem begin_any (X B : Nat) (s c : Value) (ops : Int) (fa : Option Addr) (fc : Nat) (l : List PFault) (b : Value) (w : World) (hX : VN w X 32 [s, c, .int .i64 ops, .slice fa l.length fc, b]) (hF : RL 79 w B fa (fcells l)) (hle : l.length ≤ fc) (hnil : fa = none → fc = 0) (hn : l.length ≤ 1048576) (h0 : 0 ≤ ops) (h1 : ops ≤ 1000000) :
    Calls Try.prog 65 #[.pointer (some ⟨X, 0, none⟩)] w (BeginTo w X s c ops fa fc l b) := by
  have hXlt := hX.lt
  have x2 : w.cell? ⟨X, 2, none⟩ = some (.int .i64 ops) := hX.cell 2
  have q2 := hX.fz 2
  have X1 := hX.set 2 (.int .i64 (ops + 1))
  simp only [List.set] at X1
  have hsz1 : (w.setCell ⟨X, 2, none⟩ (.int .i64 (ops + 1))).heap.size = w.heap.size := by simp
  have hbA : Below (w.setCell ⟨X, 2, none⟩ (.int .i64 (ops + 1))).heap.size (w.setCell ⟨X, 2, none⟩ (.int .i64 (ops + 1))) ((w.setCell ⟨X, 2, none⟩ (.int .i64 (ops + 1))).alloc (.cells #[.int .i64 0, .int .i64 0, .int .i64 0] 79)) := (Below.refl _ _).alloc (Nat.le_refl _) _
  have X2 := X1.below hbA
  have R2 := VN.new (w.setCell ⟨X, 2, none⟩ (.int .i64 (ops + 1))) 79 [.int .i64 0, .int .i64 0, .int .i64 0]
  rw [hsz1] at R2
  have hw1 : IntKind.i64.wrap (ops + 1) = ops + 1 := by rw [IntKind.wrap_i64]; omega
  have hBX : ButX X w ((w.setCell ⟨X, 2, none⟩ (.int .i64 (ops + 1))).alloc (.cells #[.int .i64 0, .int .i64 0, .int .i64 0] 79)) := ((ButX.refl X w).set _).on hbA
  have x3 : ((w.setCell ⟨X, 2, none⟩ (.int .i64 (ops + 1))).alloc (.cells #[.int .i64 0, .int .i64 0, .int .i64 0] 79)).cell? ⟨X, 3, none⟩ = some (.slice fa l.length fc) := X2.cell 3
  have HF : Hid (∀ W, ButX X w W → FView W fa fc l) := fun W hb => fview_rl (hF.keepT (hb.keep hX) (by decide)) hle hnil
  clear X1 hX hF hbA
  have x2a : (w.alloc (.cells #[.int .i64 0, .int .i64 0, .int .i64 0] 79)).cell? ⟨X, 2, none⟩ = some (.int .i64 ops) := by
    rw [((Below.refl w.heap.size w).alloc (Nat.le_refl _) (.cells #[.int .i64 0, .int .i64 0, .int .i64 0] 79)).cell (p := ⟨X, 2, none⟩) hXlt]
    exact x2
  have q2a : (w.alloc (.cells #[.int .i64 0, .int .i64 0, .int .i64 0] 79)).frozen? ⟨X, 2, none⟩ = false := by
    rw [((Below.refl w.heap.size w).alloc (Nat.le_refl _) (.cells #[.int .i64 0, .int .i64 0, .int .i64 0] 79)).frozen (p := ⟨X, 2, none⟩) hXlt]
    exact q2
  go_enter Try.func65, Try.ntmps65
  go_wp2
  go_loopg [23] l.length (fun q i wr => ∃ k : Nat, k ≤ l.length ∧ q = l.length - k ∧ i = .int .i64 k ∧ ButX X w wr ∧ VN wr X 32 [s, c, .int .i64 (ops + 1), .slice fa l.length fc, b] ∧ VN wr w.heap.size 79 [.int .i64 0, .int .i64 0, .int .i64 0] ∧ Hid (∀ i (h : i < l.length), i < k → (l[i]).pos ≠ ops))
  case atStart => exact ⟨0, Nat.zero_le _, rfl, rfl, hBX, X2, R2, fun i _ hi => absurd hi (Nat.not_lt_zero _)⟩
  case round =>
    clear hBX X2 R2 x3 x2 q2 x2a q2a
    obtain ⟨k, hk, rfl, rfl, hB, hX, hR, HN⟩ := hrel
    by_cases hlt : k < l.length
    · obtain ⟨b1, o1, e1, hb1, x0, x1, x2⟩ := fview_at (HF.out wr hB) hlt
      subst e1
      have hkz : (k : Int) < (l.length : Int) := by omega
      have HHIT : Hid ((l[k]).pos = ops → findF l ops = some l[k]) := fun e => findF_hit hlt e HN.out
      have HMISS : Hid (¬ (l[k]).pos = ops → ∀ i (h : i < l.length), i < k + 1 → (l[i]).pos ≠ ops) := by
        intro hp i h hi
        by_cases e : i < k
        · exact HN.out i h e
        · obtain rfl : i = k := by omega
          exact hp
      obtain ⟨p0, hp0⟩ := hidEx (l[k]).pos
      obtain ⟨p1, hp1⟩ := hidEx (l[k]).keep
      obtain ⟨p2, hp2⟩ := hidEx (l[k]).cut
      have HP : Hid ((l[k]).pos = p0 ∧ (l[k]).keep = p1 ∧ (l[k]).cut = p2) := ⟨hp0.out, hp1.out, hp2.out⟩
      rw [hp0.out] at x0 HHIT HMISS
      rw [hp1.out] at x1
      rw [hp2.out] at x2
      clear HN
      have hbB : Below wr.heap.size wr (wr.alloc (.cells #[.int .i64 p0, .int .i64 p1, .int .i64 p2] 79)) := (Below.refl _ _).alloc (Nat.le_refl _) _
      replace hR := hR.below hbB
      replace hX := hX.below hbB
      replace hB := hB.on hbB
      by_cases hN : p0 = ops
      · subst hN
        have hq : (p0 == p0) = true := beq_self_eq_true _
        have HR : Hid (findF l p0 = some l[k]) := HHIT.out rfl
        have r0 : (wr.alloc (.cells #[.int .i64 p0, .int .i64 p1, .int .i64 p2] 79)).cell? ⟨w.heap.size, 0, none⟩ = some (.int .i64 0) := hR.cell 0
        have r1 : (wr.alloc (.cells #[.int .i64 p0, .int .i64 p1, .int .i64 p2] 79)).cell? ⟨w.heap.size, 1, none⟩ = some (.int .i64 0) := hR.cell 1
        have r2 : (wr.alloc (.cells #[.int .i64 p0, .int .i64 p1, .int .i64 p2] 79)).cell? ⟨w.heap.size, 2, none⟩ = some (.int .i64 0) := hR.cell 2
        have q0 := hR.fz 0
        have q1 := hR.fz 1
        have q2 := hR.fz 2
        have R3 := ((hR.set 0 (.int .i64 p0)).set 1 (.int .i64 p1)).set 2 (.int .i64 p2)
        simp only [List.set] at R3
        have X3 := ((hX.other (C := w.heap.size) (i := 0) (u := .int .i64 p0) (by omega)).other (C := w.heap.size) (i := 1) (u := .int .i64 p1) (by omega)).other (C := w.heap.size) (i := 2) (u := .int .i64 p2) (by omega)
        have B3 := ((hB.new (C := w.heap.size) (i := 0) (Nat.le_refl _) (.int .i64 p0)).new (C := w.heap.size) (i := 1) (Nat.le_refl _) (.int .i64 p1)).new (C := w.heap.size) (i := 2) (Nat.le_refl _) (.int .i64 p2)
        have m0 : ((((wr.alloc (.cells #[.int .i64 p0, .int .i64 p1, .int .i64 p2] 79)).setCell ⟨w.heap.size, 0, none⟩ (.int .i64 p0)).setCell ⟨w.heap.size, 1, none⟩ (.int .i64 p1)).setCell ⟨w.heap.size, 2, none⟩ (.int .i64 p2)).cell? ⟨w.heap.size, 0, none⟩ = some (.int .i64 p0) := R3.cell 0
        have m1 : ((((wr.alloc (.cells #[.int .i64 p0, .int .i64 p1, .int .i64 p2] 79)).setCell ⟨w.heap.size, 0, none⟩ (.int .i64 p0)).setCell ⟨w.heap.size, 1, none⟩ (.int .i64 p1)).setCell ⟨w.heap.size, 2, none⟩ (.int .i64 p2)).cell? ⟨w.heap.size, 1, none⟩ = some (.int .i64 p1) := R3.cell 1
        have m2 : ((((wr.alloc (.cells #[.int .i64 p0, .int .i64 p1, .int .i64 p2] 79)).setCell ⟨w.heap.size, 0, none⟩ (.int .i64 p0)).setCell ⟨w.heap.size, 1, none⟩ (.int .i64 p1)).setCell ⟨w.heap.size, 2, none⟩ (.int .i64 p2)).cell? ⟨w.heap.size, 2, none⟩ = some (.int .i64 p2) := R3.cell 2
        have HE : Hid (ButX X w ((((wr.alloc (.cells #[.int .i64 p0, .int .i64 p1, .int .i64 p2] 79)).setCell ⟨w.heap.size, 0, none⟩ (.int .i64 p0)).setCell ⟨w.heap.size, 1, none⟩ (.int .i64 p1)).setCell ⟨w.heap.size, 2, none⟩ (.int .i64 p2)) ∧ VN ((((wr.alloc (.cells #[.int .i64 p0, .int .i64 p1, .int .i64 p2] 79)).setCell ⟨w.heap.size, 0, none⟩ (.int .i64 p0)).setCell ⟨w.heap.size, 1, none⟩ (.int .i64 p1)).setCell ⟨w.heap.size, 2, none⟩ (.int .i64 p2)) X 32 [s, c, .int .i64 (p0 + 1), .slice (some ⟨b1, o1, none⟩) l.length fc, b]) := ⟨B3, X3⟩
        clear R3 X3 B3 hR hX hB hbB HHIT HMISS HF
        go_wp2
        exact bodyPost_ret (v := .tuple #[.agg #[.int .i64 p0, .int .i64 p1, .int .i64 p2], .bool true]) (by simp [results, Try.results65, go_sem, m0, m1, m2]) rfl ⟨HE.out.1, HE.out.2, .inl ⟨l[k], HR.out, by rw [HP.out.1, HP.out.2.1, HP.out.2.2]⟩⟩
      · have HN2 : Hid (∀ i (h : i < l.length), i < k + 1 → (l[i]).pos ≠ ops) := HMISS.out hN
        have hq : (p0 == ops) = false := beq_eq_false_iff_ne.2 hN
        clear HHIT HMISS
        go_wp2
        go_roundg (l.length - (k + 1))
        case measure => omega
        case rel => exact ⟨k + 1, by omega, rfl, by go_num, hB, hX, hR, HN2⟩
    · have hkz : ¬ (k : Int) < (l.length : Int) := by omega
      have HR : Hid (findF l ops = none) := findF_none (fun i h => HN.out i h (by omega))
      have r0 : wr.cell? ⟨w.heap.size, 0, none⟩ = some (.int .i64 0) := hR.cell 0
      have r1 : wr.cell? ⟨w.heap.size, 1, none⟩ = some (.int .i64 0) := hR.cell 1
      have r2 : wr.cell? ⟨w.heap.size, 2, none⟩ = some (.int .i64 0) := hR.cell 2
      have q0 := hR.fz 0
      have q1 := hR.fz 1
      have q2 := hR.fz 2
      have R3 := ((hR.set 0 (.int .i64 0)).set 1 (.int .i64 0)).set 2 (.int .i64 0)
      simp only [List.set] at R3
      have X3 := ((hX.other (C := w.heap.size) (i := 0) (u := .int .i64 0) (by omega)).other (C := w.heap.size) (i := 1) (u := .int .i64 0) (by omega)).other (C := w.heap.size) (i := 2) (u := .int .i64 0) (by omega)
      have B3 := ((hB.new (C := w.heap.size) (i := 0) (Nat.le_refl _) (.int .i64 0)).new (C := w.heap.size) (i := 1) (Nat.le_refl _) (.int .i64 0)).new (C := w.heap.size) (i := 2) (Nat.le_refl _) (.int .i64 0)
      have m0 : (((wr.setCell ⟨w.heap.size, 0, none⟩ (.int .i64 0)).setCell ⟨w.heap.size, 1, none⟩ (.int .i64 0)).setCell ⟨w.heap.size, 2, none⟩ (.int .i64 0)).cell? ⟨w.heap.size, 0, none⟩ = some (.int .i64 0) := R3.cell 0
      have m1 : (((wr.setCell ⟨w.heap.size, 0, none⟩ (.int .i64 0)).setCell ⟨w.heap.size, 1, none⟩ (.int .i64 0)).setCell ⟨w.heap.size, 2, none⟩ (.int .i64 0)).cell? ⟨w.heap.size, 1, none⟩ = some (.int .i64 0) := R3.cell 1
      have m2 : (((wr.setCell ⟨w.heap.size, 0, none⟩ (.int .i64 0)).setCell ⟨w.heap.size, 1, none⟩ (.int .i64 0)).setCell ⟨w.heap.size, 2, none⟩ (.int .i64 0)).cell? ⟨w.heap.size, 2, none⟩ = some (.int .i64 0) := R3.cell 2
      have HE : Hid (ButX X w (((wr.setCell ⟨w.heap.size, 0, none⟩ (.int .i64 0)).setCell ⟨w.heap.size, 1, none⟩ (.int .i64 0)).setCell ⟨w.heap.size, 2, none⟩ (.int .i64 0)) ∧ VN (((wr.setCell ⟨w.heap.size, 0, none⟩ (.int .i64 0)).setCell ⟨w.heap.size, 1, none⟩ (.int .i64 0)).setCell ⟨w.heap.size, 2, none⟩ (.int .i64 0)) X 32 [s, c, .int .i64 (ops + 1), .slice fa l.length fc, b]) := ⟨B3, X3⟩
      clear R3 X3 B3 hR hX hB HN HF
      go_wp2
      exact bodyPost_ret (v := .tuple #[.agg #[.int .i64 0, .int .i64 0, .int .i64 0], .bool false]) (by simp [results, Try.results65, go_sem, m0, m1, m2]) rfl ⟨HE.out.1, HE.out.2, .inr ⟨HR.out, rfl⟩⟩
end Go.Proofs.Ytdhfbblameiloaa

/-
  What a right disk is, plainly.
-/
namespace Go.Proofs.Ytdhfbblameiloaa
open Go.RowKit
set_option maxRecDepth 4000

def Short (l : List (List Int)) : Prop := ∀ i (h : i < l.length), (l[i]).length ≤ 256
def SecsOk (l : List (List Int)) : Prop := 4 ≤ l.length ∧ l.length ≤ 48 ∧ Short l
def CacheOk (n : Nat) (l : List (Int × List Int)) : Prop := l.length ≤ 60 ∧ ∀ i (h : i < l.length), 0 ≤ (l[i]).1 ∧ (l[i]).1 < n ∧ (l[i]).2.length ≤ 256
def FOk (x : PFault) : Prop := (0 ≤ x.pos ∧ x.pos ≤ 100000) ∧ (0 ≤ x.keep ∧ x.keep ≤ 1048575) ∧ (0 ≤ x.cut ∧ x.cut ≤ 256)
def FAt (l : List PFault) (i : Nat) : Prop := ∀ h : i < l.length, FOk l[i] ∧ ∀ h1 : 0 < i, (l[i - 1]).pos < (l[i]).pos
def FaultsOk (l : List PFault) : Prop := l.length ≤ 20 ∧ ∀ i, FAt l i
def OpsOk (x : Int) : Prop := 0 ≤ x ∧ x ≤ 100000
def OkD (D : PDisk) : Prop := SecsOk D.secs ∧ CacheOk D.secs.length D.cache ∧ OpsOk D.ops ∧ FaultsOk D.faults ∧ ¬ (D.down = true ∧ 0 < D.cache.length)
/-- A question is answered. -/
def Says (w : World) (P : Prop) (e : Ending) (w' : World) : Prop := ∃ r : Bool, e = .returned (.bool r) ∧ (r = true ↔ P) ∧ Below w.heap.size w w'
theorem Says.yes {w w' : World} {P : Prop} (h : P) (hb : Below w.heap.size w w') : Says w P (.returned (.bool true)) w' := ⟨true, rfl, by simp [h], hb⟩
theorem Says.no {w w' : World} {P : Prop} (h : ¬ P) (hb : Below w.heap.size w w') : Says w P (.returned (.bool false)) w' := ⟨false, rfl, by simp [h], hb⟩
end Go.Proofs.Ytdhfbblameiloaa

/-
  A disk in a variable of the model's reads; the operation counts.
-/
namespace Go.Proofs.Ytdhfbblameiloaa
open Go.RowKit
set_option maxRecDepth 4000

/-- Lengths and capacities. -/
structure ML (D : PDisk) (sc : Nat) (ca : Option Addr) (cc : Nat) (fa : Option Addr) (fc : Nat) : Prop where
  s : D.secs.length ≤ sc
  c : D.cache.length ≤ cc
  cn : ca = none → cc = 0
  f : D.faults.length ≤ fc
  fn : fa = none → fc = 0
theorem MS.wview {w : World} {B X gs sc : Nat} {ca : Option Addr} {cc : Nat} {fa : Option Addr} {fc : Nat} {ss cs : List Value} {D : PDisk} {S : List (List Int)} (h : MS w B X gs sc ca cc fa fc ss cs D S) (hl : ML D sc ca cc fa fc) : WView w ca cc D.cache := by
  refine ⟨hl.c, hl.cn, fun hn => ?_⟩
  have hln : (wcells D.cache cs).length = D.cache.length * 2 := wcells_len h.nc
  obtain ⟨g, ea, -, hlt, hc⟩ := h.cache.cell (by omega)
  refine ⟨g, 0, ea, hlt, fun i x hi => ?_⟩
  have hi1 := (List.getElem?_eq_some_iff.1 hi).1
  have hi' : i < cs.length := by rw [h.nc]; exact hi1
  have hv := List.getElem?_eq_getElem hi'
  obtain ⟨g0, g1⟩ := wcells_get hi hv
  refine ⟨[.int .i64 x.1, cs[i]], ⟨cs[i], rfl, (h.cb i _ x.2 hv (by simp [hi])).lv⟩, fun j u hj => ?_⟩
  match j, hj with
  | 0, hj => cases hj; simpa using hc _ _ g0
  | 1, hj => cases hj; simpa using hc _ _ g1
theorem MS.kview {w : World} {B X gs sc : Nat} {ca : Option Addr} {cc : Nat} {fa : Option Addr} {fc : Nat} {ss cs : List Value} {D : PDisk} (h : MS w B X gs sc ca cc fa fc ss cs D D.secs) (hl : ML D sc ca cc fa fc) (hp : 0 < D.secs.length) : KView w (.agg #[.slice (some ⟨gs, 0, none⟩) D.secs.length sc, .slice ca D.cache.length cc, .int .i64 D.ops, .slice fa D.faults.length fc, .bool D.down]) D :=
  ⟨_, _, _, _, _, _, rfl, h.view hl.s hp, h.wview hl, fview_rl h.faults hl.f hl.fn⟩
/-- The operation counts. -/
theorem MS.ops {w : World} {B X gs sc : Nat} {ca : Option Addr} {cc : Nat} {fa : Option Addr} {fc : Nat} {ss cs : List Value} {D : PDisk} {S : List (List Int)} (h : MS w B X gs sc ca cc fa fc ss cs D S) (x : Int) : MS (w.setCell ⟨X, 2, none⟩ (.int .i64 x)) B X gs sc ca cc fa fc ss cs { D with ops := x } S := by
  have hk := keep_vn (P := fun t => t = 32) (i := 2) (u := .int .i64 x) h.x rfl
  have hX := h.x.set 2 (.int .i64 x)
  simp only [List.set] at hX
  exact ⟨hX, h.secs.keepT hk (by decide), h.ns, h.len, fun i v l h1 h2 => (h.ob i v l h1 h2).keepT hk (by decide), own_keepT h.own hk (by decide), h.nc, fun i v l h1 h2 => (h.cb i v l h1 h2).keepT hk (by decide), own_keepT h.fown hk (by decide)⟩
/-- What is flushed. -/
noncomputable def flushF (D : PDisk) : PDisk × Int := open Classical in
  if D.down = true ∨ 100000 ≤ D.ops then (D, 9) else match findF D.faults D.ops with
    | some f => (loseD { D with ops := D.ops + 1 } f, 9)
    | none => (calmD { D with ops := D.ops + 1 }, 0)
theorem flushF_down {D : PDisk} (h : D.down = true ∨ 100000 ≤ D.ops) : flushF D = (D, 9) := by unfold flushF; rw [if_pos h]
theorem flushF_lose {D : PDisk} (h : ¬ (D.down = true ∨ 100000 ≤ D.ops)) {f : PFault} (hf : findF D.faults D.ops = some f) : flushF D = (loseD { D with ops := D.ops + 1 } f, 9) := by unfold flushF; rw [if_neg h, hf]
theorem flushF_calm {D : PDisk} (h : ¬ (D.down = true ∨ 100000 ≤ D.ops)) (hf : findF D.faults D.ops = none) : flushF D = (calmD { D with ops := D.ops + 1 }, 0) := by unfold flushF; rw [if_neg h, hf]
theorem OkD.fine {D : PDisk} (h : OkD D) : KFine D := by
  obtain ⟨⟨h1, h2, h3⟩, ⟨h4, h5⟩, -, ⟨h6, -⟩, -⟩ := h
  refine ⟨by omega, fun x hx => ?_, by omega, fun x hx => ?_, by omega⟩
  · obtain ⟨i, hi, rfl⟩ := List.getElem_of_mem hx
    have := h3 i hi; omega
  · obtain ⟨i, hi, rfl⟩ := List.getElem_of_mem hx
    have := (h5 i hi).2.2; omega
theorem findF_ok {D : PDisk} (h : OkD D) {f : PFault} (hf : findF D.faults D.ops = some f) : FOk f := by
  obtain ⟨-, -, -, ⟨-, h7⟩, -⟩ := h
  obtain ⟨i, hi, rfl⟩ := List.getElem_of_mem (List.mem_of_find?_eq_some hf)
  exact (h7 i hi).1
end Go.Proofs.Ytdhfbblameiloaa

/-
  What is left of a disk that is fine is fine.
-/
namespace Go.Proofs.Ytdhfbblameiloaa
open Go.RowKit
set_option maxRecDepth 4000

theorem settleL_mem {α : Type} : ∀ {l : List (Int × α)} {s : List α} {x : α}, x ∈ settleL s l → x ∈ s ∨ x ∈ l.map (·.2)
  | [], _, _, h => .inl h
  | y :: l, s, x, h => by
    rw [settleL] at h
    rcases settleL_mem h with h | h
    · rcases List.mem_or_eq_of_mem_set h with h | rfl
      · exact .inl h
      · exact .inr (by simp)
    · exact .inr (by simp only [List.map_cons, List.mem_cons]; exact .inr h)
theorem cutLast_mem {r : Nat} {l : List (Int × List Int)} {x : Int × List Int} (h : x ∈ cutLast (cutW r) l) : ∃ y ∈ l, x.2.length ≤ y.2.length := by
  rcases List.eq_nil_or_concat l with rfl | ⟨l0, y, rfl⟩
  · simp [cutLast_nil] at h
  · rw [List.concat_eq_append] at h ⊢
    rw [cutLast_app, List.mem_append] at h
    rcases h with h | h
    · exact ⟨x, List.mem_append_left _ h, Nat.le_refl _⟩
    · simp at h
      subst h
      exact ⟨y, by simp, by simp [cutW, List.length_take]; omega⟩
theorem calmD_fine {D : PDisk} (h : KFine D) : KFine (calmD D) := by
  refine ⟨?_, fun x hx => ?_, Nat.zero_le _, (fun x hx => by cases hx), h.nf⟩
  · show (settleL D.secs _).length ≤ _
    rw [settleL_len]; exact h.ns
  · rcases settleL_mem hx with hx | hx
    · exact h.sec x hx
    · obtain ⟨y, hy, rfl⟩ := List.mem_map.1 hx
      exact h.cache y hy
end Go.Proofs.Ytdhfbblameiloaa

/-
  What a sector reads as, plainly.
-/
namespace Go.Proofs.Ytdhfbblameiloaa
open Go.RowKit
set_option maxRecDepth 4000

/-- What the last of the first k writes of this sector has. -/
def lastW (l : List (Int × List Int)) (n : Int) : Nat → Option (List Int)
  | 0 => none
  | k + 1 => if (l[k]?).map (·.1) = some n then (l[k]?).map (·.2) else lastW l n k
theorem lastW_hit {l : List (Int × List Int)} {n : Int} {k : Nat} (h : k < l.length) (e : (l[k]).1 = n) : lastW l n (k + 1) = some (l[k]).2 := by
  rw [lastW, List.getElem?_eq_getElem h]
  simp [e]
theorem lastW_miss {l : List (Int × List Int)} {n : Int} {k : Nat} (h : k < l.length) (e : (l[k]).1 ≠ n) : lastW l n (k + 1) = lastW l n k := by
  rw [lastW, List.getElem?_eq_getElem h]
  simp [e]
def readB (D : PDisk) (n : Int) : List Int := if 0 ≤ n ∧ n < D.secs.length then (lastW D.cache n D.cache.length).getD (D.secs.getD n.toNat []) else []
def HasS (D : PDisk) (n : Int) : Prop := 0 ≤ n ∧ n < D.secs.length
theorem readB_none {D : PDisk} {n : Int} (h : ¬ HasS D n) : readB D n = [] := by unfold readB; rw [if_neg (show ¬ (0 ≤ n ∧ n < D.secs.length) from h)]
theorem readB_hit {D : PDisk} {n : Int} (h : HasS D n) {b : List Int} (e : lastW D.cache n D.cache.length = some b) : readB D n = b := by unfold readB; rw [if_pos (show 0 ≤ n ∧ n < D.secs.length from h), e]; rfl
theorem readB_sec {D : PDisk} {n : Int} (h : HasS D n) (e : lastW D.cache n D.cache.length = none) (hi : n.toNat < D.secs.length) : readB D n = D.secs[n.toNat] := by
  unfold readB
  rw [if_pos (show 0 ≤ n ∧ n < D.secs.length from h), e]
  simp [hi]
end Go.Proofs.Ytdhfbblameiloaa

/-
  What WriteSec comes to, plainly.
-/
namespace Go.Proofs.Ytdhfbblameiloaa
open Go.RowKit
set_option maxRecDepth 4000

/-- One more write, the operation counted. -/
def moreD (D : PDisk) (n : Int) (l : List Int) : PDisk := { D with ops := D.ops + 1, cache := D.cache ++ [(n, l)] }
noncomputable def writeF (D : PDisk) (n : Int) (l : List Int) : PDisk × Int := open Classical in
  if D.down = true ∨ 100000 ≤ D.ops then (D, 9) else match findF D.faults D.ops with
    | some f => (loseD (moreD D n l) f, 9)
    | none => (moreD D n l, 0)
def MayW (D : PDisk) (n : Int) (l : List Int) : Prop := OkD D ∧ HasS D n ∧ l.length ≤ 256 ∧ D.cache.length < 60
noncomputable def writeD (D : PDisk) (n : Int) (l : List Int) : PDisk × Int := open Classical in if MayW D n l then writeF D n l else (D, 1)
theorem writeD_no {D : PDisk} {n : Int} {l : List Int} (h : ¬ MayW D n l) : writeD D n l = (D, 1) := by unfold writeD; rw [if_neg h]
theorem writeD_ok {D : PDisk} {n : Int} {l : List Int} (h : MayW D n l) : writeD D n l = writeF D n l := by unfold writeD; rw [if_pos h]
theorem writeF_down {D : PDisk} {n : Int} {l : List Int} (h : D.down = true ∨ 100000 ≤ D.ops) : writeF D n l = (D, 9) := by unfold writeF; rw [if_pos h]
theorem writeF_lose {D : PDisk} {n : Int} {l : List Int} (h : ¬ (D.down = true ∨ 100000 ≤ D.ops)) {f : PFault} (hf : findF D.faults D.ops = some f) : writeF D n l = (loseD (moreD D n l) f, 9) := by unfold writeF; rw [if_neg h, hf]
theorem writeF_good {D : PDisk} {n : Int} {l : List Int} (h : ¬ (D.down = true ∨ 100000 ≤ D.ops)) (hf : findF D.faults D.ops = none) : writeF D n l = (moreD D n l, 0) := by unfold writeF; rw [if_neg h, hf]
theorem moreD_ok {D : PDisk} {n : Int} {l : List Int} (h : MayW D n l) (hd : ¬ (D.down = true ∨ 100000 ≤ D.ops)) : OkD (moreD D n l) := by
  obtain ⟨⟨h1, ⟨h2, h3⟩, h4, h5, h6⟩, h7, h8, h9⟩ := h
  have hn : ¬ 100000 ≤ D.ops := fun x => hd (.inr x)
  refine ⟨h1, ⟨?_, fun i hi => ?_⟩, ⟨?_, ?_⟩, h5, fun hx => hd (.inl hx.1)⟩
  · show (D.cache ++ [(n, l)]).length ≤ 60
    simp; omega
  · have hi' : i < (D.cache ++ [(n, l)]).length := hi
    show 0 ≤ ((D.cache ++ [(n, l)])[i]).1 ∧ ((D.cache ++ [(n, l)])[i]).1 < D.secs.length ∧ ((D.cache ++ [(n, l)])[i]).2.length ≤ 256
    by_cases e : i < D.cache.length
    · rw [List.getElem_append_left e]
      exact h3 i e
    · have e' : i = D.cache.length := by simp at hi'; omega
      subst e'
      simp only [List.getElem_append_right (Nat.le_refl _), Nat.sub_self, List.getElem_cons_zero]
      exact ⟨h7.1, h7.2, h8⟩
  · show 0 ≤ D.ops + 1; have := h4.1; omega
  · show D.ops + 1 ≤ 100000; omega
end Go.Proofs.Ytdhfbblameiloaa

/-
  A right disk stays one, whatever is done to it.
-/
namespace Go.Proofs.Ytdhfbblameiloaa
open Go.RowKit
set_option maxRecDepth 4000

theorem short_mem {l : List (List Int)} : Short l ↔ ∀ x ∈ l, x.length ≤ 256 := by
  constructor
  · intro h x hx
    obtain ⟨i, hi, rfl⟩ := List.getElem_of_mem hx
    exact h i hi
  · intro h i hi
    exact h _ (List.getElem_mem hi)
theorem cache_short {n : Nat} {l : List (Int × List Int)} (h : CacheOk n l) : ∀ x ∈ l, x.2.length ≤ 256 := by
  intro x hx
  obtain ⟨i, hi, rfl⟩ := List.getElem_of_mem hx
  exact (h.2 i hi).2.2
theorem OkD.opsUp {D : PDisk} (h : OkD D) (hd : ¬ (D.down = true ∨ 100000 ≤ D.ops)) : OkD { D with ops := D.ops + 1 } := by
  obtain ⟨h1, h2, h3, h4, h5⟩ := h
  have hn : ¬ 100000 ≤ D.ops := fun x => hd (.inr x)
  exact ⟨h1, h2, ⟨by show 0 ≤ D.ops + 1; have := h3.1; omega, by show D.ops + 1 ≤ 100000; omega⟩, h4, h5⟩
theorem OkD.lose {D : PDisk} (h : OkD D) (f : PFault) : OkD (loseD D f) := by
  obtain ⟨⟨h1, h2, h3⟩, hc, h5, h6, -⟩ := h
  have hl : (loseD D f).secs.length = D.secs.length := settleL_len _ _
  refine ⟨⟨by rw [hl]; exact h1, by rw [hl]; exact h2, short_mem.2 (fun x hx => ?_)⟩, ⟨Nat.zero_le _, fun i hi => absurd hi (Nat.not_lt_zero _)⟩, h5, h6, fun hx => absurd hx.2 (Nat.lt_irrefl _)⟩
  rcases settleL_mem hx with hx | hx
  · exact short_mem.1 h3 x hx
  · obtain ⟨y, hy, rfl⟩ := List.mem_map.1 hx
    obtain ⟨z, hz, hzl⟩ := cutLast_mem hy
    have := cache_short hc z (keptG_mem hz)
    omega
theorem OkD.calm {D : PDisk} (h : OkD D) : OkD (calmD D) := by
  obtain ⟨⟨h1, h2, h3⟩, hc, h5, h6, -⟩ := h
  have hl : (calmD D).secs.length = D.secs.length := settleL_len _ _
  refine ⟨⟨by rw [hl]; exact h1, by rw [hl]; exact h2, short_mem.2 (fun x hx => ?_)⟩, ⟨Nat.zero_le _, fun i hi => absurd hi (Nat.not_lt_zero _)⟩, h5, h6, fun hx => absurd hx.2 (Nat.lt_irrefl _)⟩
  rcases settleL_mem hx with hx | hx
  · exact short_mem.1 h3 x hx
  · obtain ⟨y, hy, rfl⟩ := List.mem_map.1 hx
    exact cache_short hc y hy
theorem OkD.on {D : PDisk} (h : OkD D) : OkD { D with down := false } := ⟨h.1, h.2.1, h.2.2.1, h.2.2.2.1, fun hx => by cases hx.1⟩
theorem OkD.flush {D : PDisk} (h : OkD D) : OkD (flushF D).1 := by
  unfold flushF
  split
  · exact h
  · rename_i hd
    split
    · exact (h.opsUp hd).lose _
    · exact (h.opsUp hd).calm
theorem OkD.write {D : PDisk} {n : Int} {l : List Int} (h : MayW D n l) : OkD (writeF D n l).1 := by
  unfold writeF
  split
  · exact h.1
  · rename_i hd
    split
    · exact (moreD_ok h hd).lose _
    · exact moreD_ok h hd
theorem flush_len {D : PDisk} : (flushF D).1.secs.length = D.secs.length ∧ (flushF D).1.cache.length ≤ D.cache.length := by
  unfold flushF
  split
  · exact ⟨rfl, Nat.le_refl _⟩
  · split
    · exact ⟨settleL_len _ _, Nat.zero_le _⟩
    · exact ⟨settleL_len _ _, Nat.zero_le _⟩
theorem write_len {D : PDisk} {n : Int} {l : List Int} : (writeF D n l).1.secs.length = D.secs.length ∧ (writeF D n l).1.cache.length ≤ D.cache.length + 1 := by
  unfold writeF
  split
  · exact ⟨rfl, Nat.le_succ _⟩
  · split
    · exact ⟨settleL_len _ _, Nat.zero_le _⟩
    · exact ⟨rfl, by show (D.cache ++ [(n, l)]).length ≤ _; simp⟩
/-- Faults one behind the other. -/
theorem FaultsOk.add {l : List PFault} (h : FaultsOk l) (hn : l.length < 20) {x : PFault} (hx : FOk x) (hp : ∀ y ∈ l, y.pos < x.pos) : FaultsOk (l ++ [x]) := by
  refine ⟨by simp; omega, fun i hi => ?_⟩
  by_cases e : i < l.length
  · have := h.2 i e
    refine ⟨by rw [List.getElem_append_left e]; exact this.1, fun h1 => ?_⟩
    rw [List.getElem_append_left e, List.getElem_append_left (by omega)]
    exact this.2 h1
  · have e' : i = l.length := by simp at hi; omega
    subst e'
    refine ⟨by simpa using hx, fun h1 => ?_⟩
    rw [List.getElem_append_left (by omega)]
    simp only [List.getElem_append_right (Nat.le_refl _), Nat.sub_self, List.getElem_cons_zero]
    exact hp _ (List.getElem_mem _)
end Go.Proofs.Ytdhfbblameiloaa

/-
  The draw of faults.
-/
namespace Go.Proofs.Ytdhfbblameiloaa
open Go.RowKit
set_option maxRecDepth 4000

theorem fcells_app (l : List PFault) (x : PFault) : fcells (l ++ [x]) = fcells l ++ [.int .i64 x.pos, .int .i64 x.keep, .int .i64 x.cut] := by simp [fcells, fEl]
theorem cells3New (w : World) (a b c : Int) (t : TypeId) : ∀ j u, [Value.int .i64 a, .int .i64 b, .int .i64 c][j]? = some u → (w.alloc (.cells #[.int .i64 a, .int .i64 b, .int .i64 c] t)).cell? ((⟨w.heap.size, 0, none⟩ : Addr).add j) = some u := by
  intro j u h
  have ea : ∀ j, (⟨w.heap.size, 0, none⟩ : Addr).add j = ⟨w.heap.size, 0 + j, none⟩ := fun j => by unfold Addr.add; split <;> simp_all
  match j, h with
  | 0, h => cases h; rw [ea]; simp
  | 1, h => cases h; rw [ea]; simp [go_sem]
  | 2, h => cases h; rw [ea]; simp [go_sem]
  | j + 3, h => simp at h
/-- Faults that were drawn. -/
structure DF (w : World) (W : World) (v : Value) (l : List PFault) : Prop where
  own : W.ownsRow w.heap.size 79 3 v l.length (fcells l)
  ok : FaultsOk l

set_option maxHeartbeats 4000000 in
theorem l12FaultList_any (g : Nat) (ao : Option Addr) (n cap : Nat) (f : Nat → Int) (w : World) (hn : n ≤ 1048576) (hC : Cur w g ao n cap f) :
    Calls Try.prog 92 #[.pointer (some ⟨g, 0, none⟩)] w fun e w' => ∃ (l : List PFault) (v : Value), e = .returned v ∧ DF w w' v l ∧ l.length ≤ 3 ∧ CN w g ao n cap f w' := by
  obtain ⟨i0, hi, hz0, hz1, hz2⟩ := infoFault
  have hR := CN.start hC
  have hg := hR.lt
  have hbA : Below w.heap.size w (w.alloc (.cells #[] 79)) := (Below.refl _ _).alloc (Nat.le_refl _) _
  have hO := World.ownsRow_lit (base := w.heap.size) (e := 79) (size := 3) w #[] 0 (Nat.le_refl _) (Nat.zero_le _) rfl
  replace hR := hR.below hbA
  clear hC hbA
  go_enter Try.func92, Try.ntmps92
  go_wp2_with fail
  obtain ⟨WA, hWA⟩ : ∃ x, Hid (w.alloc (.cells #[] 79) = x) := ⟨_, rfl⟩
  rw [hWA.out] at hR hO ⊢
  refine (l1Below_any g ao n cap f 4 WA hn (by omega) (by omega) hR.cur).mono ?_
  rintro e w1 ⟨x, rfl, hx0, hx1, hC1, hO1⟩
  replace hO := own_grownN hO (But.ofOnly hO1).grown (fun j e => by have := (own_blkN hO e).1; simp; omega)
  replace hR := hR.next hC1 (But.ofOnly hO1)
  clear hC1 hO1 hWA
  obtain ⟨m, rfl⟩ := Int.eq_ofNat_of_zero_le hx0
  have HS : Hid (w1.ownsRow w.heap.size 79 3 (.slice (some ⟨w.heap.size, 0, none⟩) 0 0) 0 (fcells []) ∧ CN w g ao n cap f w1) := ⟨hO, hR⟩
  clear hO hR
  go_wp2
  go_loopg [3, 4, 5] m (fun q o a i wr => ∃ (k : Nat) (t : Int) (l : List PFault), q = k ∧ i = .int .i64 k ∧ a = .int .i64 t ∧ l.length + k ≤ 3 ∧ 0 ≤ t ∧ t ≤ 13 * l.length ∧ Hid (∀ y ∈ l, y.pos < t) ∧ Hid (FaultsOk l) ∧ wr.ownsRow w.heap.size 79 3 o l.length (fcells l) ∧ CN w g ao n cap f wr)
  case atStart => exact ⟨m, 0, [], rfl, rfl, rfl, by simp; omega, Int.le_refl _, by simp, (fun y hy => by cases hy), ⟨Nat.zero_le _, fun i hi => absurd hi (Nat.not_lt_zero _)⟩, HS.out.1, HS.out.2⟩
  case round =>
    clear HS
    obtain ⟨k, t, l, hq, rfl, rfl, hlk, ht0, ht1, HP, HF, hO, hR⟩ := hrel
    by_cases hk : 0 < k
    · have hkz : (0 : Int) < (k : Int) := by omega
      obtain ⟨va, vc, ev⟩ := own_form hO
      subst ev
      go_wp2_with fail
      refine (l1Below_any g ao n cap f 12 wr hn (by omega) (by omega) hR.cur).mono ?_
      rintro e w2 ⟨y, rfl, hy0, hy1, hC2, hO2⟩
      replace hO := own_grownN hO (But.ofOnly hO2).grown (fun j e => by have := (own_blkN hO e).1; simp; omega)
      replace hR := hR.next hC2 (But.ofOnly hO2)
      clear hC2 hO2
      go_wp2_with fail
      refine (l1Below_any g ao n cap f 64 w2 hn (by omega) (by omega) hR.cur).mono ?_
      rintro e w3 ⟨z, rfl, hz0', hz1', hC3, hO3⟩
      replace hO := own_grownN hO (But.ofOnly hO3).grown (fun j e => by have := (own_blkN hO e).1; simp; omega)
      replace hR := hR.next hC3 (But.ofOnly hO3)
      clear hC3 hO3
      have hI := l1Int_mem g ao n cap f [0, 1, 2, 3, 5, 7, 1048575, z] w3.heap.size w3 rfl hn (by simp) (by simp) hR.cur
      go_wp2_with fail
      refine hI.mono ?_
      rintro e w4 ⟨kp, rfl, hkp, hC4, hB4⟩
      have hkp2 : 0 ≤ kp ∧ kp ≤ 1048575 := by simp at hkp; omega
      replace hO := own_grownN hO hB4.grown (fun j e => by have := (own_blkN hO e).1; simp; omega)
      replace hR := hR.next hC4 hB4
      clear hC4 hB4 hI hkp
      have hI := l1Int_mem g ao n cap f [0, 1, 5, 20, 256] w4.heap.size w4 rfl hn (by simp) (by simp) hR.cur
      go_wp2_with fail
      refine hI.mono ?_
      rintro e w5 ⟨ct, rfl, hct, hC5, hB5⟩
      have hct2 : 0 ≤ ct ∧ ct ≤ 256 := by simp at hct; omega
      replace hO := own_grownN hO hB5.grown (fun j e => by have := (own_blkN hO e).1; simp; omega)
      replace hR := hR.next hC5 hB5
      clear hC5 hB5 hI hct
      have hbO : Below w5.heap.size w5 (w5.alloc (.cells #[.int .i64 (t + y), .int .i64 kp, .int .i64 ct] 79)) := (Below.refl _ _).alloc (Nat.le_refl _) _
      have hcl := cells3New w5 (t + y) kp ct 79
      have hg6 : w5.grownBy (w5.alloc (.cells #[.int .i64 (t + y), .int .i64 kp, .int .i64 ct] 79)) none := ⟨hbO.os, hbO.tape, hbO.output, hbO.size, fun k hk _ => hbO.block k hk⟩
      have hO6 := own_grownN hO hg6 (fun j e => by simp)
      have hR6 := hR.below hbO
      clear hO hR hbO hg6
      go_wp2_with (at_builtin; go_must (refine wpList_append_own _ rfl (.tmp 17) (.tmp 28) 30 rfl w.heap.size 79 i0 (.agg #[.int .i64 0, .int .i64 0, .int .i64 0]) 3 24 Try.underlying30 hi hz0 hz1 hz2 rfl (by decide) _ _ _ rfl hO6 ⟨w5.heap.size, 0, none⟩ 1 1 [.int .i64 (t + y), .int .i64 kp, .int .i64 ct] rfl rfl hcl (by intro u hu; simp at hu; rcases hu with rfl | rfl | rfl <;> rfl) (by unfold maxLen; omega) (by omega) hR6.size ?_); intro v7 w7 hO7 hg7 _)
      have hR7 := hR6.grown hg7 (fun j e => (own_blkN hO6 e).1)
      have HN : Hid (w7.ownsRow w.heap.size 79 3 v7 (l ++ [(⟨t + y, kp, ct⟩ : PFault)]).length (fcells (l ++ [(⟨t + y, kp, ct⟩ : PFault)])) ∧ CN w g ao n cap f w7 ∧ FaultsOk (l ++ [(⟨t + y, kp, ct⟩ : PFault)]) ∧ ∀ x ∈ l ++ [(⟨t + y, kp, ct⟩ : PFault)], x.pos < t + y + 1) := by
        refine ⟨by rw [List.length_append, fcells_app]; exact hO7, hR7, HF.out.add (by omega) ⟨⟨by show 0 ≤ t + y; omega, by show t + y ≤ 100000; omega⟩, hkp2, hct2⟩ (fun x hx => by have := HP.out x hx; show x.pos < t + y; omega), fun x hx => ?_⟩
        rcases List.mem_append.1 hx with hx | hx
        · have := HP.out x hx; omega
        · simp at hx; subst hx; show t + y < t + y + 1; omega
      have hl3 : (l ++ [(⟨t + y, kp, ct⟩ : PFault)]).length = l.length + 1 := by simp
      clear hO6 hR6 hO7 hg7 hR7 hcl HP HF
      go_wp2
      go_roundg (k - 1)
      case measure => omega
      case rel => exact ⟨k - 1, t + y + 1, l ++ [(⟨t + y, kp, ct⟩ : PFault)], rfl, congrArg (Value.int .i64) (by omega), rfl, by omega, by omega, by omega, HN.out.2.2.2, HN.out.2.2.1, HN.out.1, HN.out.2.1⟩
    · have hkz : ¬ (0 : Int) < (k : Int) := by omega
      have HE : Hid (DF w wr u3 l ∧ CN w g ao n cap f wr) := ⟨⟨hO, HF.out⟩, hR⟩
      clear hO hR HP HF
      go_wp2
      go_ret
      exact ⟨l, _, rfl, HE.out.1, by omega, HE.out.2⟩
end Go.Proofs.Ytdhfbblameiloaa

/-
  The model's l1In: whether a number lies between two.
-/
namespace Go.Proofs.Ytdhfbblameiloaa
open Go.RowKit
set_option maxRecDepth 4000

set_option maxHeartbeats 1000000 in
theorem l1In_any (x l m : Int) (w : World) :
    Calls Try.prog 56 #[.int .i64 x, .int .i64 l, .int .i64 m] w fun e w' => e = .returned (.bool (decide (l ≤ x) && decide (x ≤ m))) ∧ w = w' := by
  go_enter Try.func56, Try.ntmps56
  by_cases h : l ≤ x
  · have e1 : decide (l ≤ x) = true := by simpa using h
    go_wp2
    go_ret
    exact ⟨by simp [h], rfl⟩
  · have e1 : decide (l ≤ x) = false := by simpa using h
    go_wp2
    go_ret
    exact ⟨by simp, rfl⟩

theorem l1In_yes (x l m : Int) (w : World) (h1 : l ≤ x) (h2 : x ≤ m) :
    Calls Try.prog 56 #[.int .i64 x, .int .i64 l, .int .i64 m] w fun e w' => e = .returned (.bool true) ∧ w = w' := by
  have h := l1In_any x l m w
  rw [decide_eq_true h1, decide_eq_true h2] at h
  exact h
theorem l1In_no (x l m : Int) (w : World) (h1 : x < l ∨ m < x) :
    Calls Try.prog 56 #[.int .i64 x, .int .i64 l, .int .i64 m] w fun e w' => e = .returned (.bool false) ∧ w = w' := by
  have h := l1In_any x l m w
  have e : (decide (l ≤ x) && decide (x ≤ m)) = false := by
    rcases h1 with h1 | h1
    · rw [decide_eq_false (by omega), Bool.false_and]
    · rw [decide_eq_false (p := x ≤ m) (by omega), Bool.and_false]
  rw [e] at h
  exact h
end Go.Proofs.Ytdhfbblameiloaa

