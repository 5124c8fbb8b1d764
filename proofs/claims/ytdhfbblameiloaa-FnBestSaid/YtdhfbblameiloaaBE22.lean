/-
  Together: FormatK, BestFacts, ReadBytes, IterKit, IterOwn, BackI, ReadSecI, OzView, RootI
-/
import Derived.Test.YtdhfbblameiloaaBE19
import Derived.Test.YtdhfbblameiloaaBE8
import Derived.Test.YtdhfbblameiloaaBE2
import Derived.Test.YtdhfbblameiloaaBE15
import Derived.Test.YtdhfbblameiloaaBE21
import Derived.Test.YtdhfbblameiloaaBE5
import Derived.Test.YtdhfbblameiloaaBE1
import Derived.RangeFuncNested
import Derived.RangeFuncBound
import Derived.RangeFuncCalls
import Derived.RangeFuncLeaves
import Derived.OwnWalkIn
import Derived.TacticsInMore
import Derived.LoopNIn
import Derived.LoopIn
import Derived.Shelf.RegionOpen
import Derived.Test.YtdhfbblameiloaaBE4
import Derived.Test.YtdhfbblameiloaaBE3
import Derived.Test.YtdhfbblameiloaaBE14
/-
  A disk with the first root, plainly; a sector of a new disk is written.
-/
namespace Go.Proofs.Ytdhfbblameiloaa
open Go.RowKit
set_option maxRecDepth 4000

open Classical in
/-- What Format comes to. -/
noncomputable def fmtD (n : Int) (l : List PFault) : PDisk := if NewOk n l then { madeD n.toNat l with secs := (madeD n.toNat l).secs.set 0 (metaF 0 0) } else zeroD
theorem fmtD_yes {n : Int} {l : List PFault} {D : PDisk} (h : NewOk n l) (e : D = madeD n.toNat l) : fmtD n l = { D with secs := D.secs.set 0 (metaF 0 0) } := by unfold fmtD; rw [if_pos h, e]
theorem fmtD_no {n : Int} {l : List PFault} {D : PDisk} (h : ¬ NewOk n l) (e : D = zeroD) : fmtD n l = D := by unfold fmtD; rw [if_neg h, e]
theorem madeD_fine {n : Int} {l : List PFault} (h : NewOk n l) (hn : l.length ≤ 1048576) : KFine (madeD n.toNat l) := by
  obtain ⟨h1, h2⟩ := h
  exact ⟨by simp [madeD]; omega, fun x hx => by simp [madeD] at hx; simp [hx], by simp [madeD], fun x hx => by simp [madeD] at hx, hn⟩
theorem zeroD_fine : KFine zeroD := ⟨by simp [zeroD], fun x hx => by simp [zeroD] at hx, by simp [zeroD], fun x hx => by simp [zeroD] at hx, by simp [zeroD]⟩
theorem fmtD_fine (n : Int) (l : List PFault) (hn : l.length ≤ 1048576) : KFine (fmtD n l) := by
  unfold fmtD
  split
  · rename_i h
    have hf := madeD_fine h hn
    refine ⟨by simpa using hf.ns, fun x hx => ?_, hf.nc, hf.cache, hf.nf⟩
    rcases List.mem_or_eq_of_mem_set hx with hx | hx
    · exact hf.sec x hx
    · rw [hx]; have := metaF_len 0 0; omega
  · exact zeroD_fine
theorem newTo_cases {n : Int} {l : List PFault} {v : Value} {w : World} {B : Nat} (h : (NewOk n l ∧ KOwn w B v (madeD n.toNat l)) ∨ (¬ NewOk n l ∧ KOwn w B v zeroD)) : ∃ D, ((NewOk n l ∧ D = madeD n.toNat l ∧ 0 < D.secs.length ∧ (l.length ≤ 1048576 → KFine D)) ∨ (¬ NewOk n l ∧ D = zeroD ∧ KFine D)) ∧ KOwn w B v D := by
  rcases h with ⟨h, k⟩ | ⟨h, k⟩
  · exact ⟨_, .inl ⟨h, rfl, by have := h.1; simp [madeD]; omega, madeD_fine h⟩, k⟩
  · exact ⟨_, .inr ⟨h, rfl, zeroD_fine⟩, k⟩
theorem zero_notOk : ¬ OkD zeroD := fun h => by have := h.1.1; simp [zeroD] at this
theorem ret5_vnF {W : World} {R : Nat} {z0 z1 z2 z3 z4 : Value} (v0 v1 v2 v3 v4 : Value) (h : VN W R 32 [z0, z1, z2, z3, z4]) : VN (((((W.setCell ⟨R, 0, none⟩ v0).setCell ⟨R, 1, none⟩ v1).setCell ⟨R, 2, none⟩ v2).setCell ⟨R, 3, none⟩ v3).setCell ⟨R, 4, none⟩ v4) R 32 [v0, v1, v2, v3, v4] := by
  have := ((((h.set 0 v0).set 1 v1).set 2 v2).set 3 v3).set 4 v4
  simpa only [List.set] using this
theorem five_below {w W : World} {n R : Nat} (v0 v1 v2 v3 v4 : Value) (h : Below n w W) (hR : n ≤ R) : Below n w (((((W.setCell ⟨R, 0, none⟩ v0).setCell ⟨R, 1, none⟩ v1).setCell ⟨R, 2, none⟩ v2).setCell ⟨R, 3, none⟩ v3).setCell ⟨R, 4, none⟩ v4) :=
  ((((h.setCell (p := ⟨R, 0, none⟩) hR _).setCell (p := ⟨R, 1, none⟩) hR _).setCell (p := ⟨R, 2, none⟩) hR _).setCell (p := ⟨R, 3, none⟩) hR _).setCell (p := ⟨R, 4, none⟩) hR _
theorem KO.monoF {w : World} {B B' : Nat} {sa : Option Addr} {sc : Nat} {ca : Option Addr} {cc : Nat} {fa : Option Addr} {fc : Nat} {ss cs : List Value} {D : PDisk} (h : KO w B sa sc ca cc fa fc ss cs D) (hB : B' ≤ B) : KO w B' sa sc ca cc fa fc ss cs D :=
  ⟨h.sle, h.snil, h.cle, h.cnil, h.fle, h.fnil, h.ns, h.nc, h.secs.mono hB, h.cache.mono hB, h.faults.mono hB, h.bytes.mono hB⟩
theorem ob_new {w : World} {B g c : Nat} {L : List Int} (h : Row 5 w g L.length (fun i => L.getD i 0)) (hc : L.length ≤ c) (hy : ∀ y ∈ L, 0 ≤ y ∧ y ≤ 255) (hB : B ≤ g) : OB w B (.slice (some ⟨g, 0, none⟩) L.length c) L :=
  ⟨_, _, rfl, hc, (fun e => by cases e), hy, .inr ⟨g, rfl, hB, h⟩⟩
/-- A variable keeps what it has where a row of another type is written. -/
theorem VN.keptF {w : World} {X B gs : Nat} {ys zs : List Value} (h : VN w X 32 ys) (k : RL 27 w B (some ⟨gs, 0, none⟩) zs) (hz : 0 < zs.length) (u : Value) (i : Nat) : VN (w.setCell ⟨gs, i, none⟩ u) X 32 ys := by
  refine h.other (fun e => ?_)
  rcases k with rfl | ⟨g, cur, e1, -, hc, -⟩
  · simp at hz
  · cases e1
    unfold VN at h
    rw [e, hc] at h
    cases h
theorem Bs.head {w : World} {B : Nat} {v0 v : Value} {vs : List Value} {l0 l : List Int} {ls : List (List Int)} (h : Bs w B (v0 :: vs) (l0 :: ls)) (hb : OB w B v l) (hf : ∀ u ∈ vs, ∀ g, v.ownBlock = some g → u.ownBlock ≠ some g) (hv : ∀ g, v.ownBlock = some g → B ≤ g ∧ g < w.heap.size) : Bs w B (v :: vs) (l :: ls) := by
  refine ⟨by have := h.len; simpa using this, fun i x y h1 h2 => ?_, fun x hx => ?_, ?_⟩
  · cases i with
    | zero => simp at h1 h2; rw [← h1, ← h2]; exact hb
    | succ i => exact h.ob (i + 1) x y (by simpa using h1) (by simpa using h2)
  · rcases List.mem_cons.1 hx with rfl | hx
    · exact hv
    · exact h.lt x (List.mem_cons_of_mem _ hx)
  · rw [List.pairwise_cons]
    exact ⟨fun u hu g h1 h2 => hf u hu g h1 h2, (List.pairwise_cons.1 h.apt).2⟩
/-- The first sector is written. -/
theorem KO.putSec0 {w : World} {B gs : Nat} {sc : Nat} {ca : Option Addr} {cc : Nat} {fa : Option Addr} {fc : Nat} {ss cs : List Value} {D : PDisk} (h : KO w B (some ⟨gs, 0, none⟩) sc ca cc fa fc ss cs D) (hp : 0 < D.secs.length) {v : Value} {l : List Int} {g : Nat} (hb : OB w B v l) (hfr : ∀ u ∈ ss ++ cs, u.ownBlock ≠ some g) (hv : ∀ g', v.ownBlock = some g' → B ≤ g' ∧ g' < w.heap.size) (hg : v.ownBlock = some g := by rfl) :
    KO (w.setCell ⟨gs, 0, none⟩ v) B (some ⟨gs, 0, none⟩) sc ca cc fa fc (ss.set 0 v) cs { D with secs := D.secs.set 0 l } := by
  have hs0 : 0 < ss.length := by rw [h.ns]; exact hp
  have hbs := h.bytes
  have hset := h.secs
  refine ⟨by simpa using h.sle, h.snil, h.cle, h.cnil, h.fle, h.fnil, by simpa using h.ns, h.nc, hset.set 0 v hs0, h.cache.other hset hs0 (by decide) rfl, h.faults.other hset hs0 (by decide) rfl, ?_⟩
  have hns := h.ns
  obtain ⟨s0, ss', rfl⟩ : ∃ a b, ss = a :: b := by cases ss with | nil => simp at hs0 | cons a b => exact ⟨a, b, rfl⟩
  obtain ⟨l0, ls', hl⟩ : ∃ a b, D.secs = a :: b := by cases hd : D.secs with | nil => rw [hd] at hp; simp at hp | cons a b => exact ⟨a, b, rfl⟩
  show Bs _ B (v :: ss' ++ cs) (D.secs.set 0 l ++ D.cache.map (·.2))
  rw [hl] at hbs ⊢
  have h1 : Bs w B (v :: (ss' ++ cs)) (l :: (ls' ++ D.cache.map (·.2))) := Bs.head (v0 := s0) (l0 := l0) hbs hb (fun u hu g' h1 h2 => by rw [hg] at h1; cases h1; exact hfr u (by simp at hu ⊢; exact .inr hu) h2) hv
  exact h1.other hset hs0 (by decide)
end Go.Proofs.Ytdhfbblameiloaa

/-
  The newer of two roots is no older than either; a new disk's is the first.
-/
namespace Go.Proofs.Ytdhfbblameiloaa
open Go.RowKit
set_option maxRecDepth 4000

theorem newerP_old {b r : Int × Int × Bool} (h : b.2.2 = true) : (newerP b r).2.2 = true ∧ b.1 ≤ (newerP b r).1 := by
  unfold newerP
  split
  · rename_i hc
    refine ⟨hc.1, ?_⟩
    rcases hc.2 with h0 | h0
    · rw [h] at h0; cases h0
    · omega
  · exact ⟨h, Int.le_refl _⟩
theorem newerP_new {b r : Int × Int × Bool} (h : r.2.2 = true) : (newerP b r).2.2 = true ∧ r.1 ≤ (newerP b r).1 := by
  unfold newerP
  split
  · exact ⟨h, Int.le_refl _⟩
  · rename_i hc
    have hb : b.2.2 = true := by
      cases hb : b.2.2 with
      | true => rfl
      | false => exact absurd ⟨h, .inl hb⟩ hc
    refine ⟨hb, ?_⟩
    have : ¬ b.1 < r.1 := fun h0 => hc ⟨h, .inr h0⟩
    omega
/-- No root of the two sectors that is right is newer than the best. -/
theorem best_newest {D : PDisk} {k : Nat} (hk : k < 2) {g r : Int} {is : Bool} (hM : getMe (readB D k).length (bf (readB D k)) = (g, r, is)) (h1 : is = true) (h2 : g % 2 = (k : Int)) : (bestP D 2).2.2 = true ∧ ¬ (bestP D 2).1 < g := by
  have hr : rootP D k = (g, r, true) := by
    unfold rootP
    rw [hM]
    dsimp only
    rw [if_pos ⟨h1, h2⟩, h1]
  have e : bestP D 2 = newerP (newerP (0, 0, false) (rootP D (0 : Nat))) (rootP D (1 : Nat)) := rfl
  rw [e]
  have h01 : k = 0 ∨ k = 1 := by omega
  rcases h01 with rfl | rfl
  · have h3 : (newerP (0, 0, false) (rootP D (0 : Nat))).2.2 = true ∧ g ≤ (newerP (0, 0, false) (rootP D (0 : Nat))).1 := by
      have := newerP_new (b := (0, 0, false)) (r := rootP D (0 : Nat)) (by rw [hr])
      rw [hr] at this ⊢
      exact this
    have h4 := newerP_old (r := rootP D (1 : Nat)) h3.1
    exact ⟨h4.1, by omega⟩
  · have h4 := newerP_new (b := newerP (0, 0, false) (rootP D (0 : Nat))) (r := rootP D (1 : Nat)) (by rw [hr])
    rw [hr] at h4 ⊢
    exact ⟨h4.1, by have := h4.2; dsimp only at this; omega⟩
/-- Of a new disk it is that without a tree. -/
theorem best_new (n : Int) (l : List PFault) : bestP (fmtD n l) 2 = (0, 0, decide (0 < (fmtD n l).secs.length)) := by
  have e : bestP (fmtD n l) 2 = newerP (newerP (0, 0, false) (rootP (fmtD n l) (0 : Nat))) (rootP (fmtD n l) (1 : Nat)) := rfl
  rw [e]
  by_cases hN : NewOk n l
  · have hl := hN.1
    have hlen : (fmtD n l).secs.length = n.toNat := by rw [fmtD_yes hN rfl]; simp [madeD]
    have hc : (fmtD n l).cache = [] := by rw [fmtD_yes hN rfl]; rfl
    have h0 : readB (fmtD n l) (0 : Nat) = metaF 0 0 := by
      rw [readB_sec (n := ((0 : Nat) : Int)) ⟨by omega, by rw [hlen]; omega⟩ (by rw [hc]; rfl) (by rw [hlen]; simp; omega)]
      simp [fmtD_yes hN rfl, madeD]
    have h1 : readB (fmtD n l) (1 : Nat) = [] := by
      rw [readB_sec (n := ((1 : Nat) : Int)) ⟨by omega, by rw [hlen]; omega⟩ (by rw [hc]; rfl) (by rw [hlen]; simp; omega)]
      simp [fmtD_yes hN rfl, madeD]
    have r0 : rootP (fmtD n l) (0 : Nat) = (0, 0, true) := by
      have hg : getMe (metaF 0 0).length (bf (metaF 0 0)) = (0, 0, true) := getMe_put (g := 0) (r := 0) (by decide) (fun i _ => rfl)
      unfold rootP
      rw [h0, hg]
      rfl
    have r1 : rootP (fmtD n l) (1 : Nat) = (0, 0, false) := by
      unfold rootP
      rw [h1]
      simp [getMe_zero]
    rw [r0, r1, hlen]
    have : 0 < n.toNat := by omega
    simp [newerP, this]
  · have hz : fmtD n l = zeroD := fmtD_no hN rfl
    have hr : ∀ k : Nat, rootP (fmtD n l) k = (0, 0, false) := fun k => rootP_none (by rw [hz]; unfold hasB zeroD; simp)
    rw [hr, hr, hz]
    simp [newerP, zeroD]
end Go.Proofs.Ytdhfbblameiloaa

/-
  What is read of a disk that reads are bytes.
-/
namespace Go.Proofs.Ytdhfbblameiloaa
open Go.RowKit
set_option maxRecDepth 4000

theorem kview_bytes {w : World} {v : Value} {D : PDisk} (h : KView w v D) : (∀ x ∈ D.secs, ∀ i, i < x.length → 0 ≤ bf x i ∧ bf x i ≤ 255) ∧ (∀ x ∈ D.cache, ∀ i, i < x.2.length → 0 ≤ bf x.2 i ∧ bf x.2 i ≤ 255) := by
  obtain ⟨sa, sc, ca, cc, fa, fc, -, h1, h2, -⟩ := h.is
  refine ⟨fun x hx => ?_, fun x hx => ?_⟩
  · obtain ⟨i, hi, rfl⟩ := List.getElem_of_mem hx
    obtain ⟨_, _, _, _, -, -, -, hv, -⟩ := sview_at h1 hi
    exact hv.byte
  · obtain ⟨i, hi, rfl⟩ := List.getElem_of_mem hx
    obtain ⟨_, _, _, _, -, -, -, -, hv, -⟩ := wview_at h2 hi
    exact hv.byte
theorem lastW_memB {l : List (Int × List Int)} {n : Int} {b : List Int} : ∀ {k : Nat}, lastW l n k = some b → ∃ x ∈ l, x.2 = b
  | 0, h => by cases h
  | k + 1, h => by
    rw [lastW] at h
    split at h
    · cases hx : l[k]? with
      | none => rw [hx] at h; cases h
      | some x =>
        rw [hx] at h
        simp only [Option.map_some, Option.some.injEq] at h
        exact ⟨x, List.mem_of_getElem? hx, h⟩
    · exact lastW_memB h
theorem readB_bytes {w : World} {v : Value} {D : PDisk} (h : KView w v D) (n : Int) : ∀ i, i < (readB D n).length → 0 ≤ bf (readB D n) i ∧ bf (readB D n) i ≤ 255 := by
  obtain ⟨h1, h2⟩ := kview_bytes h
  by_cases hs : HasS D n
  · cases e : lastW D.cache n D.cache.length with
    | some b =>
      rw [readB_hit hs e]
      obtain ⟨x, hx, rfl⟩ := lastW_memB e
      exact h2 x hx
    | none =>
      have hi : n.toNat < D.secs.length := by have := hs.1; have := hs.2; omega
      rw [readB_sec hs e hi]
      exact h1 _ (List.getElem_mem hi)
  · rw [readB_none hs]
    intro i hi
    simp at hi
end Go.Proofs.Ytdhfbblameiloaa

/-
  What a round of a loop over an iterator keeps: all that lay at the start of the call, and the two boxes that the iterator holds.
-/
namespace Go.Proofs.Ytdhfbblameiloaa
open Go.RowKit
set_option maxRecDepth 4000

/-- What a round that goes on keeps. -/
structure KpB (n₀ Bl Bv : Nat) (W W' : World) : Prop where
  below : Below n₀ W W'
  bl : W'.heap[Bl]? = W.heap[Bl]?
  bv : W'.heap[Bv]? = W.heap[Bv]?
theorem KpB.refl (n₀ Bl Bv : Nat) (W : World) : KpB n₀ Bl Bv W W := ⟨Below.refl _ _, rfl, rfl⟩
theorem KpB.trans {n₀ Bl Bv : Nat} {A B C : World} (h : KpB n₀ Bl Bv A B) (k : KpB n₀ Bl Bv B C) : KpB n₀ Bl Bv A C := ⟨h.below.trans k.below, k.bl.trans h.bl, k.bv.trans h.bv⟩
/-- Whatever leaves all that lay as it lay. -/
theorem KpB.ofBelow {n₀ Bl Bv : Nat} {W W' : World} (h : Below W.heap.size W W') (hn : n₀ ≤ W.heap.size) (hl : Bl < W.heap.size) (hv : Bv < W.heap.size) : KpB n₀ Bl Bv W W' := ⟨h.mono hn, h.block Bl hl, h.block Bv hv⟩
/-- A step that turns one block. -/
theorem KpB.ofGrown {n₀ Bl Bv : Nat} {W W' : World} {row : Option Nat} (hg : W.grownBy W' row) (hn : n₀ ≤ W.heap.size) (hl : Bl < W.heap.size) (hv : Bv < W.heap.size) (hr : ∀ k, row = some k → n₀ ≤ k ∧ k ≠ Bl ∧ k ≠ Bv) : KpB n₀ Bl Bv W W' :=
  ⟨⟨hg.os, hg.tape, hg.output, hg.size, fun k hk => hg.block k (by omega) (fun e => by have := (hr k e.symm).1; omega)⟩, hg.block Bl hl (fun e => (hr Bl e.symm).2.1 rfl), hg.block Bv hv (fun e => (hr Bv e.symm).2.2 rfl)⟩
theorem KpB.put {n₀ Bl Bv : Nat} {w : World} (hn : n₀ ≤ w.heap.size) (hl : Bl < w.heap.size) (hv : Bv < w.heap.size) (W : World) (l : Nat) (o o' : Obj) (hle : w.heap.size ≤ l) (h : W.heap[l]? = some o) (h1 : o.isCells = false) (h2 : o.isWalk = false) : KpB n₀ Bl Bv W (W.putObj l o') :=
  ⟨belowK_b hn W l o o' hle h h1 h2, World.putObj_heap_other (by omega), World.putObj_heap_other (by omega)⟩
theorem Boxed.kpl {n₀ Bl Bv : Nat} {W W' : World} {t : TypeId} {v : Value} (h : Boxed W Bl t v) (k : KpB n₀ Bl Bv W W') : Boxed W' Bl t v := k.bl.trans h
theorem Boxed.kpv {n₀ Bl Bv : Nat} {W W' : World} {t : TypeId} {v : Value} (h : Boxed W Bv t v) (k : KpB n₀ Bl Bv W W') : Boxed W' Bv t v := k.bv.trans h
theorem Boxed.below' {W W' : World} {B : Nat} {t : TypeId} {v : Value} (h : Boxed W B t v) (k : Below W.heap.size W W') : Boxed W' B t v := (k.block B h.lt).trans h
theorem grownBy_drew' (W : World) : W.grownBy W.drew none := ⟨rfl, rfl, rfl, Nat.le_refl _, fun _ _ _ => rfl⟩
theorem grownBy_below' {W W' : World} (h : Below W.heap.size W W') : W.grownBy W' none := ⟨h.os, h.tape, h.output, h.size, fun k hk _ => h.block k hk⟩
theorem AbidesFrom.step {β : Type} {B : Nat} {J : β → World → Prop} (h : AbidesFrom B J) {s : β} {W W' : World} (hs : J s W) (hg : W.grownBy W' none) : J s W' := h s W W' none hs hg (fun _ e => by cases e)
/-- 'KeepsFrom' of whatever leaves all that lay as it lay. -/
theorem KeepsFrom.ofBelow {B : Nat} {W W' : World} (h : Below W.heap.size W W') : KeepsFrom B W W' := ⟨h.size, fun k _ _ hk _ => (h.block k (Array.getElem?_eq_some_iff.1 hk).1).trans hk⟩
/-- 'KpB .. w₀ ·' abides what the loop itself turns. -/
theorem ownFrom_kpB {β : Type} {n₀ Bl Bv B' : Nat} {w₀ : World} (hn : n₀ ≤ B') (hl : Bl < B') (hv : Bv < B') (hB : B' ≤ w₀.heap.size) : OwnFrom B' (fun (_ : β) W => KpB n₀ Bl Bv w₀ W) :=
  fun _ X Y row hs hg hr => by
    have hs0 := hs.below.size
    refine ⟨hs.below.trans ⟨hg.os, hg.tape, hg.output, hg.size, fun k hk => hg.block k (by omega) (fun e => by have := (hr k e.symm).1; omega)⟩, ?_, ?_⟩
    · exact (hg.block Bl (by omega) (fun e => by have := (hr Bl e.symm).1; omega)).trans hs.bl
    · exact (hg.block Bv (by omega) (fun e => by have := (hr Bv e.symm).1; omega)).trans hs.bv

/-- The first j of the indices. -/
theorem fin_take {k j : Nat} (h : j < k) : (List.finRange k).take (j + 1) = (List.finRange k).take j ++ [⟨j, h⟩] := by
  rw [List.take_add_one, List.getElem?_eq_getElem (by simpa using h)]
  simp
theorem fin_len {k j : Nat} (h : j ≤ k) : ((List.finRange k).take j).length = j := by simp [h]
end Go.Proofs.Ytdhfbblameiloaa

/-
  A box of a round, and what the loop itself turns.
-/
namespace Go.Proofs.Ytdhfbblameiloaa
open Go.RowKit
set_option maxRecDepth 4000

theorem Boxed.ownK {W W' : World} {row : Option Nat} {B : Nat} {t : TypeId} {v : Value} (h : Boxed W B t v) (hg : W.grownBy W' row) (hr : ∀ r, row = some r → ∃ o : Obj, W.heap[r]? = some o ∧ o.isCells = false) : Boxed W' B t v := by
  obtain ⟨o, ho, hc⟩ := cells_of_cell h.cell
  exact (grownBy_keeps_cells hg hr ho hc).trans h
theorem Below.put' {n₀ : Nat} {w₀ W : World} {D : Nat} {o o' : Obj} (h : Below n₀ w₀ W) (hn : n₀ ≤ D) (hK : W.heap[D]? = some o) : Below n₀ w₀ (W.putObj D o') :=
  h.trans ((Below.refl n₀ W).grown (grownBy_putObj' W D o') (by have := (Array.getElem?_eq_some_iff.1 hK).1; omega) (fun k e => by cases e; omega))
end Go.Proofs.Ytdhfbblameiloaa

/-
  slices.Backward of a row of writes.
-/
namespace Go.Proofs.Ytdhfbblameiloaa
open Go.RowKit
set_option maxRecDepth 4000

attribute [local go_sem] Oper.semAt_some

/-- The write at place i from the end, as it is yielded. -/
abbrev encK (n : Nat) (fn : Nat → Int) (us : Nat → Value) (x : Nat) : Array Value := #[.int .i64 ((n - 1 - x : Nat) : Int), .agg #[.int .i64 (fn (n - 1 - x)), us (n - 1 - x)]]
/-- The cells of a row of writes. -/
def WCells (w : World) (a : Option Addr) (n : Nat) (fn : Nat → Int) (us : Nat → Value) : Prop := 0 < n → ∃ b off, a = some ⟨b, off, none⟩ ∧ b < w.heap.size ∧ ∀ i, i < n → w.cell? ⟨b, off + i * 2, none⟩ = some (.int .i64 (fn i)) ∧ w.cell? ⟨b, off + i * 2 + 1, none⟩ = some (us i) ∧ (us i).oneCell' = true
theorem WCells.below {w w' : World} {a : Option Addr} {n : Nat} {fn : Nat → Int} {us : Nat → Value} (h : WCells w a n fn us) (hb : Below w.heap.size w w') : WCells w' a n fn us := by
  intro hn
  obtain ⟨b, off, e, hlt, hc⟩ := h hn
  refine ⟨b, off, e, Nat.lt_of_lt_of_le hlt hb.size, fun i hi => ?_⟩
  obtain ⟨h1, h2, h3⟩ := hc i hi
  exact ⟨by rw [hb.cell (p := ⟨b, off + i * 2, none⟩) hlt]; exact h1, by rw [hb.cell (p := ⟨b, off + i * 2 + 1, none⟩) hlt]; exact h2, h3⟩
/-- A row of writes that reads, by functions of the index. -/
theorem wcells_of {w : World} {a : Option Addr} {cap : Nat} {l : List (Int × List Int)} (h : WView w a cap l) : ∃ us : Nat → Value, WCells w a l.length (fun i => (l.getD i (0, [])).1) us ∧ ∀ i (hi : i < l.length), LV w (us i) (l[i]).2 := by
  by_cases hn : 0 < l.length
  case neg => exact ⟨fun _ => undef, fun h => absurd h hn, fun i hi => absurd (Nat.lt_of_le_of_lt (Nat.zero_le _) hi) hn⟩
  obtain ⟨b, off, e, hlt, hc⟩ := h.cells hn
  have key : ∀ i (hi : i < l.length), ∃ u, w.cell? ⟨b, off + i * 2, none⟩ = some (.int .i64 (l[i]).1) ∧ w.cell? ⟨b, off + i * 2 + 1, none⟩ = some u ∧ LV w u (l[i]).2 := by
    intro i hi
    obtain ⟨us, ⟨u, rfl, hu⟩, h2⟩ := hc i l[i] (List.getElem?_eq_getElem hi)
    exact ⟨u, by simpa using h2 0 _ rfl, by simpa using h2 1 _ rfl, hu⟩
  refine ⟨fun i => (w.cell? ⟨b, off + i * 2 + 1, none⟩).getD undef, fun _ => ⟨b, off, e, hlt, fun i hi => ?_⟩, fun i hi => ?_⟩
  · obtain ⟨u, h1, h2, h3⟩ := key i hi
    refine ⟨by rw [h1]; simp [hi], by show _ = some ((w.cell? ⟨b, off + i * 2 + 1, none⟩).getD undef); rw [h2]; rfl, ?_⟩
    show ((w.cell? ⟨b, off + i * 2 + 1, none⟩).getD undef).oneCell' = true
    rw [h2]
    obtain ⟨a', c', rfl, -, -⟩ := h3.is
    rfl
  · obtain ⟨u, h1, h2, h3⟩ := key i hi
    show LV w ((w.cell? ⟨b, off + i * 2 + 1, none⟩).getD undef) _
    rw [h2]
    exact h3

set_option linter.unusedSimpArgs false in
set_option maxRecDepth 100000 in
set_option maxHeartbeats 4000000 in
theorem back1_in (NN : Nat) (hNN : 1 ≤ NN) (l B : Nat) (a : Option Addr) (n cap : Nat) (fn : Nat → Int) (us : Nat → Value) (w : World) (hp : WCells w a n fn us) (hn : n ≤ 281474976710656)
    (J Jx : List (Fin n) → World → Prop) (W : World)
    (hY : ∀ pre x W1, J pre W1 → pre.length < n → YieldAt Fence.wide (NN - 1) Try.prog l (encK n fn us x.1) W1 fun e W' =>
      (e = .returned (.bool true) ∧ J (pre ++ [x]) W' ∧ KpB w.heap.size B B W1 W') ∨ (e = .returned (.bool false) ∧ Jx (pre ++ [x]) W'))
    (hb : Below w.heap.size w W) (hl : Boxed W B 29 (.slice a n cap)) (h0 : J [] W) :
    CallsIn Fence.wide NN Try.prog 126 #[.func (.yield l) #[] #[], .pointer (some ⟨B, 0, none⟩)] W fun e W' => (∃ v, e = .returned v) ∧
      ((∃ xs, xs = List.finRange n ∧ J xs W') ∨ (∃ pre, pre <+: List.finRange n ∧ Jx pre W')) := by
  refine callsIn_of_wp Try.func126 rfl trivial ?_ rfl
  simp only [Try.ntmps126, List.size_toArray, List.length_cons, List.length_nil, Nat.reduceAdd, Nat.reduceSub, Array.replicate_succ, Array.replicate_zero, List.push_toArray, List.append_toArray, List.nil_append, List.cons_append]
  have cl := hl.cell
  have hw0 : IntKind.i64.wrap ((n : Int) - 1) = (n : Int) - 1 := by rw [IntKind.wrap_i64]; omega
  gi_wp2
  gi_loopw [3] (fun i wr => ∃ (j : Nat), j ≤ n ∧ i = .int .i64 ((n : Int) - 1 - j) ∧ J ((List.finRange n).take j) wr ∧ KpB w.heap.size B B W wr) (fun i _ => ((intOf i) + 1).toNat)
  case atStart => exact ⟨0, Nat.zero_le _, by simp, h0, KpB.refl _ _ _ _⟩
  case round =>
    obtain ⟨j, hj, rfl, hJs, hk⟩ := hrel
    by_cases hlt : j < n
    · have hbw : Below w.heap.size w wr := hb.trans hk.below
      obtain ⟨b1, o1, rfl, hb1, hd1⟩ := (hp.below hbw) (by omega)
      obtain ⟨x0, x1, xo⟩ := hd1 (n - 1 - j) (by omega)
      have cl' := (Boxed.kpl hl hk).cell
      have ei : (n : Int) - 1 - j = ((n - 1 - j : Nat) : Int) := by omega
      have hfl : ((List.finRange n).take j).length < n := by rw [fin_len hj]; exact hlt
      have HU : Hid ((List.finRange n).take (j + 1) = (List.finRange n).take j ++ [⟨j, hlt⟩]) := fin_take hlt
      obtain ⟨fn', tmps, assign, body, hy, hR⟩ := hY ((List.finRange n).take j) ⟨j, hlt⟩ wr hJs hfl
      dsimp only [encK] at hy
      have hw1 : IntKind.i64.wrap (((n - 1 - j : Nat) : Int) - 1) = ((n - 1 - j : Nat) : Int) - 1 := by rw [IntKind.wrap_i64]; omega
      have e2 : ((n - 1 - j : Nat) : Int) - 1 = (n : Int) - 1 - ((j + 1 : Nat) : Int) := by omega
      have hin : n - 1 - j < n := by omega
      rw [ei]
      obtain ⟨p, hpp⟩ : ∃ p, Hid (n - 1 - j = p) := ⟨_, rfl⟩
      rw [hpp.out] at x0 x1 xo hy hw1 e2 hin ⊢
      have HE2 : Hid ((p : Int) - 1 = (n : Int) - 1 - ((j + 1 : Nat) : Int)) := e2
      have hpz : (p : Int) < (n : Int) := by omega
      obtain ⟨z, hz⟩ : ∃ z, Hid (fn p = z) := ⟨_, rfl⟩
      obtain ⟨u, hu⟩ : ∃ u, Hid (us p = u) := ⟨_, rfl⟩
      rw [hz.out] at x0 hy
      rw [hu.out] at x1 xo hy
      clear hd1 cl hJs ei e2
      gi_wp2
      refine hR.mono ?_
      rintro e W3 (⟨rfl, hJ3, hk3⟩ | ⟨rfl, hJx3⟩)
      · clear hy hR x0 x1 cl'
        have hJ4 : Hid (J ((List.finRange n).take (j + 1)) W3) := by show J _ W3; rw [HU.out]; exact hJ3
        have HP : Hid (p + j + 1 = n) := by show _ = _; have := hpp.out; omega
        clear hJ3 hpp
        gi_wp2
        go_roundw
        case rel => exact ⟨j + 1, by omega, by rw [HE2.out], hJ4.out, hk.trans hk3⟩
        case measure => simp [intOf]; try omega
      · have hJ4 : Hid (Jx ((List.finRange n).take (j + 1)) W3) := by show Jx _ W3; rw [HU.out]; exact hJx3
        clear hy hR x0 x1 cl' hJx3
        gi_wp2
        refine bodyPost_ret (results_none rfl _ _ _) rfl ?_
        exact ⟨⟨_, rfl⟩, .inr ⟨_, List.take_prefix _ _, hJ4.out⟩⟩
    · obtain rfl : j = n := by omega
      have hJe : Hid (J (List.finRange j) wr) := by
        show J _ wr
        have e : (List.finRange j).take j = List.finRange j := List.take_of_length_le (by simp)
        rw [← e]; exact hJs
      have hz : ¬ (0 : Int) ≤ (j : Int) - 1 - j := by omega
      clear hJs
      gi_wp2
      go_end0
      first
        | exact ⟨⟨_, rfl⟩, .inl hJe.out⟩
        | exact ⟨⟨_, rfl⟩, .inl ⟨_, rfl, hJe.out⟩⟩

theorem back_stops (NN : Nat) (hNN : 1 ≤ NN) (B : Nat) (a : Option Addr) (n cap : Nat) (fn : Nat → Int) (us : Nat → Value) (w : World) (hp : WCells w a n fn us) (hn : n ≤ 281474976710656)
    (W0 : World) (hb : Below w.heap.size w W0) (hl : Boxed W0 B 29 (.slice a n cap)) :
    SeqStopsK Fence.wide NN Try.prog 126 #[.pointer (some ⟨B, 0, none⟩)] (fun x : Fin n => encK n fn us x.1) (KpB w.heap.size B B) (fun xs => xs = List.finRange n) (fun pre => pre <+: List.finRange n) n W0 :=
  fun l J Jx W hW _ _ hY h0 => back1_in NN hNN l B a n cap fn us w hp hn J Jx W hY (hb.trans (hW.mono hb.size)) (Boxed.below' hl hW) h0

set_option maxHeartbeats 1000000 in
/-- slices.Backward boxes its argument. -/
theorem backward_in (NN : Nat) (a : Option Addr) (n cap : Nat) (w : World) :
    CallsIn Fence.wide NN Try.prog 87 #[.slice a n cap] w fun e w' => e = .returned (.func (.func 126) #[] #[.pointer (some ⟨w.heap.size, 0, none⟩)]) ∧ w' = w.alloc (.cells #[.slice a n cap] 29) := by
  refine callsIn_of_wp Try.func87 rfl trivial ?_ rfl
  simp only [Try.ntmps87, List.size_toArray, List.length_cons, List.length_nil, Nat.reduceAdd, Nat.reduceSub, Array.replicate_succ, Array.replicate_zero, List.push_toArray, List.append_toArray, List.nil_append, List.cons_append]
  gi_wp2
  go_ret
  exact ⟨rfl, rfl⟩
end Go.Proofs.Ytdhfbblameiloaa

/-
  The program's ReadSec.
-/
namespace Go.Proofs.Ytdhfbblameiloaa
open Go.RowKit
set_option maxRecDepth 4000

attribute [local go_sem] Oper.semAt_some

theorem VN.ownK {W W' : World} {row : Option Nat} {B : Nat} {T : TypeId} {xs : List Value} (h : VN W B T xs) (hg : W.grownBy W' row) (hr : ∀ r, row = some r → ∃ o : Obj, W.heap[r]? = some o ∧ o.isCells = false) : VN W' B T xs :=
  (grownBy_keeps_cells hg hr h rfl).trans h
theorem OB.ownK {W W' : World} {row : Option Nat} {B : Nat} {v : Value} {l : List Int} (h : OB W B v l) (hg : W.grownBy W' row) (hr : ∀ r, row = some r → ∃ o : Obj, W.heap[r]? = some o ∧ o.isCells = false) : OB W' B v l := by
  obtain ⟨a, c, e, h1, h2, h3, h4⟩ := h.is
  refine ⟨a, c, e, h1, h2, h3, ?_⟩
  rcases h4 with h4 | ⟨g, ea, hb, hrow⟩
  · exact .inl h4
  · obtain ⟨cur, hcur, hx⟩ := hrow
    exact .inr ⟨g, ea, hb, cur, (grownBy_keeps_cells hg hr hcur rfl).trans hcur, hx⟩
/-- What stops behind others that were passed by. -/
theorem prefix_fin {n : Nat} {pre : List (Fin n)} {x : Fin n} (h : pre ++ [x] <+: List.finRange n) : ∀ y : Fin n, y.1 < x.1 → y ∈ pre := by
  obtain ⟨t, ht⟩ := h
  have hlen : pre.length < n := by
    have := congrArg List.length ht
    simp at this
    omega
  have hx : x.1 = pre.length := by
    have e1 : (List.finRange n)[pre.length]? = some x := by rw [← ht, List.append_assoc, List.getElem?_append_right (Nat.le_refl _)]; simp
    rw [List.getElem?_eq_getElem (by simpa using hlen)] at e1
    simp at e1
    rw [← e1]
  intro y hy
  have e2 : (List.finRange n)[y.1]? = some y := by rw [List.getElem?_eq_getElem (by simp)]; simp
  rw [← ht, List.append_assoc, List.getElem?_append_left (by omega)] at e2
  exact List.mem_of_getElem? e2
/-- Writes that are passed by. -/
theorem lastW_pass {l : List (Int × List Int)} {n : Int} {i : Nat} : ∀ {k : Nat}, i ≤ k → k ≤ l.length → (∀ j, i ≤ j → j < k → (l.getD j (0, [])).1 ≠ n) → lastW l n k = lastW l n i
  | 0, h, _, _ => by rw [show i = 0 by omega]
  | k + 1, h, hl, hm => by
    by_cases e : i = k + 1
    · rw [e]
    · have h1 := hm k (by omega) (by omega)
      have hk : k < l.length := by omega
      rw [lastW_miss hk (by simpa [hk] using h1)]
      exact lastW_pass (by omega) (by omega) (fun j hj hj' => hm j hj (by omega))

set_option maxHeartbeats 1000000 in
theorem hasSec_any (v : Value) (D : PDisk) (n : Int) (w : World) (h : KView w v D) :
    Calls Try.prog 62 #[v, .int .i64 n] w fun e w' => ∃ r : Bool, e = .returned (.bool r) ∧ (r = true ↔ HasS D n) ∧ Below w.heap.size w w' := by
  obtain ⟨sa, sc, ca, cc, fa, fc, rfl, -, -, -⟩ := h.is
  clear h
  have hb : Below w.heap.size w (w.alloc (.cells #[.slice sa D.secs.length sc, .slice ca D.cache.length cc, .int .i64 D.ops, .slice fa D.faults.length fc, .bool D.down] 32)) := (Below.refl _ _).alloc (Nat.le_refl _) _
  by_cases h0 : 0 ≤ n
  · go_enter Try.func62, Try.ntmps62
    go_wp2
    go_ret
    exact ⟨decide (n < D.secs.length), rfl, by simp [HasS, h0], hb⟩
  · go_enter Try.func62, Try.ntmps62
    go_wp2
    go_ret
    exact .inl ⟨rfl, fun h => by have := h.1; omega, hb⟩

set_option linter.unusedSimpArgs false in
set_option maxRecDepth 100000 in
set_option maxHeartbeats 4000000 in
theorem implReadSec_any (v : Value) (D : PDisk) (n : Int) (w : World) (h : KView w v D) (hf : KFine D) :
    Calls Try.prog 23 #[v, .int .i64 n] w (ReadTo w D n) := by
  have HK : Hid (KView w v D ∧ KFine D) := ⟨h, hf⟩
  obtain ⟨sa, sc, ca, cc, fa, fc, rfl, hs, hc, -⟩ := h.is
  have HS : Hid (SView w sa sc D.secs) := hs
  obtain ⟨us, hus, hlv⟩ := wcells_of hc
  have hns := hf.ns
  have hnc := hf.nc
  have HL : Hid ((∀ i (hi : i < D.cache.length), LV w (us i) (D.cache[i]).2) ∧ KFine D) := ⟨hlv, hf⟩
  clear h hf hs hc hlv
  obtain ⟨fn, hfn⟩ : ∃ fn : Nat → Int, Hid (fn = fun i => (D.cache.getD i (0, [])).1) := ⟨_, rfl⟩
  rw [← hfn.out] at hus
  have hB0 : Below w.heap.size w ((((w.alloc (.cells #[.slice sa D.secs.length sc, .slice ca D.cache.length cc, .int .i64 D.ops, .slice fa D.faults.length fc, .bool D.down] 32)).alloc (.cells #[.int .i64 n] 3)).alloc (.cells #[.slice none 0 0] 27)).alloc (.cells #[.bool false] 4)) := ((((Below.refl _ _).alloc (Nat.le_refl _) _).alloc (by simp) _).alloc (by simp; omega) _).alloc (by simp; omega) _
  refine (callsIn_wide (n := 6)).1 ?_
  refine callsIn_of_wp_marks Try.func23 rfl trivial ?_ rfl
  simp only [Try.ntmps23, List.size_toArray, List.length_cons, List.length_nil, Nat.reduceAdd, Nat.reduceSub, Array.replicate_succ, Array.replicate_zero, List.push_toArray, List.append_toArray, List.nil_append, List.cons_append]
  have hH := fun W (hb : Below w.heap.size w W) => hasSec_any _ D n W (HK.out.1.below hb)
  have bD := (((VN.new w 32 [.slice sa D.secs.length sc, .slice ca D.cache.length cc, .int .i64 D.ops, .slice fa D.faults.length fc, .bool D.down]).below ((Below.refl _ _).alloc (Nat.le_refl _) (.cells #[.int .i64 n] 3))).below ((Below.refl _ _).alloc (Nat.le_refl _) (.cells #[.slice none 0 0] 27))).below ((Below.refl _ _).alloc (Nat.le_refl _) (.cells #[.bool false] 4))
  have bN := ((VN.new (w.alloc (.cells #[.slice sa D.secs.length sc, .slice ca D.cache.length cc, .int .i64 D.ops, .slice fa D.faults.length fc, .bool D.down] 32)) 3 [.int .i64 n]).below ((Below.refl _ _).alloc (Nat.le_refl _) (.cells #[.slice none 0 0] 27))).below ((Below.refl _ _).alloc (Nat.le_refl _) (.cells #[.bool false] 4))
  have bR := (VN.new ((w.alloc (.cells #[.slice sa D.secs.length sc, .slice ca D.cache.length cc, .int .i64 D.ops, .slice fa D.faults.length fc, .bool D.down] 32)).alloc (.cells #[.int .i64 n] 3)) 27 [.slice none 0 0]).below ((Below.refl _ _).alloc (Nat.le_refl _) (.cells #[.bool false] 4))
  have bQ := VN.new (((w.alloc (.cells #[.slice sa D.secs.length sc, .slice ca D.cache.length cc, .int .i64 D.ops, .slice fa D.faults.length fc, .bool D.down] 32)).alloc (.cells #[.int .i64 n] 3)).alloc (.cells #[.slice none 0 0] 27)) 4 [.bool false]
  simp only [World.size_alloc] at bN bR bQ
  by_cases hr : HasS D n
  case neg =>
    have HR : Hid (¬ HasS D n) := hr
    gi_wp2_with (refine ⟨trivial, ?_⟩; gi_at_call 62; refine (callsIn_wide.2 (hH _ hB0)).mono ?_; rintro e w1 ⟨r, rfl, hr1, hb1⟩; obtain rfl : r = false := (by cases r with | false => rfl | true => exact absurd (hr1.1 rfl) hr); clear hr1; have bR1 := (bR.below hb1).below ((Below.refl _ _).alloc (Nat.le_refl _) (.cells #[] 5)); have cR : (w1.alloc (.cells #[] 5)).cell? ⟨w.heap.size + 1 + 1, 0, none⟩ = some (.slice none 0 0) := bR1.cell 0; have fR := bR1.fz 0; have bQ1 := ((bQ.below hb1).below ((Below.refl _ _).alloc (Nat.le_refl _) (.cells #[] 5))).other (C := w.heap.size + 1 + 1) (i := 0) (u := .slice (some ⟨w1.heap.size, 0, none⟩) 0 0) (by omega); have cQ : ((w1.alloc (.cells #[] 5)).setCell ⟨w.heap.size + 1 + 1, 0, none⟩ (.slice (some ⟨w1.heap.size, 0, none⟩) 0 0)).cell? ⟨w.heap.size + 1 + 1 + 1, 0, none⟩ = some (.bool false) := bQ1.cell 0; have fQ := bQ1.fz 0)
    have c4 := (bR1.set 0 (.slice (some ⟨w1.heap.size, 0, none⟩) 0 0)).other (C := w.heap.size + 1 + 1 + 1) (i := 0) (u := .bool false) (by omega)
    have c5 := bQ1.set 0 (.bool false)
    simp only [List.set] at c4 c5
    have c4' : (((w1.alloc (.cells #[] 5)).setCell ⟨w.heap.size + 1 + 1, 0, none⟩ (.slice (some ⟨w1.heap.size, 0, none⟩) 0 0)).setCell ⟨w.heap.size + 1 + 1 + 1, 0, none⟩ (.bool false)).cell? ⟨w.heap.size + 1 + 1, 0, none⟩ = some (.slice (some ⟨w1.heap.size, 0, none⟩) 0 0) := c4.cell 0
    have c5' : (((w1.alloc (.cells #[] 5)).setCell ⟨w.heap.size + 1 + 1, 0, none⟩ (.slice (some ⟨w1.heap.size, 0, none⟩) 0 0)).setCell ⟨w.heap.size + 1 + 1 + 1, 0, none⟩ (.bool false)).cell? ⟨w.heap.size + 1 + 1 + 1, 0, none⟩ = some (.bool false) := c5.cell 0
    have hBB : Below w.heap.size w w1 := hB0.trans (hb1.mono hB0.size)
    refine ⟨.tuple #[.slice (some ⟨w1.heap.size, 0, none⟩) 0 0, .bool false], ?_, _, false, rfl, by simpa using HR.out, by rw [readB_none HR.out]; exact ⟨_, 0, rfl, Nat.le_refl _, (fun e => by cases e), by simp, .inl rfl⟩, ((hBB.alloc hBB.size _).setCell (p := ⟨w.heap.size + 1 + 1, 0, none⟩) (by show w.heap.size ≤ w.heap.size + 1 + 1; omega) _).setCell (p := ⟨w.heap.size + 1 + 1 + 1, 0, none⟩) (by show w.heap.size ≤ w.heap.size + 1 + 1 + 1; omega) _⟩
    simp [results, Try.f23, go_sem, c4', c5']
  have HR : Hid (HasS D n) := hr
  gi_wp2_with (first
    | (refine ⟨trivial, ?_⟩; gi_at_call 62; refine (callsIn_wide.2 (hH _ hB0)).mono ?_; rintro e w1 ⟨r, rfl, hr1, hb1⟩; obtain rfl : r = true := hr1.2 hr; clear hr1; have bD1 := bD.below hb1; have d1 : w1.cell? ⟨w.heap.size, 1, none⟩ = some (.slice ca D.cache.length cc) := bD1.cell 1)
    | (refine ⟨trivial, ?_⟩; gi_at_call 87; refine (backward_in _ _ _ _ _).mono ?_; rintro e w' ⟨rfl, rfl⟩))
  have bN1 := bN.below hb1
  have bR1 := bR.below hb1
  have bQ1 := bQ.below hb1
  have hs0 := hb1.size
  simp only [World.size_alloc] at hs0
  have hBB : Below w.heap.size w w1 := hB0.trans (hb1.mono hB0.size)
  have hbA : Below w1.heap.size w1 (w1.alloc (.cells #[.slice ca D.cache.length cc] 29)) := (Below.refl _ _).alloc (Nat.le_refl _) _
  have bD2 := bD1.below hbA
  have bN2 := bN1.below hbA
  have bR2 := bR1.below hbA
  have bQ2 := bQ1.below hbA
  have bL := Boxed.new w1 29 (.slice ca D.cache.length cc)
  have hsz : (w1.alloc (.cells #[.slice ca D.cache.length cc] 29)).heap.size = w1.heap.size + 1 := by simp
  have hB2 : Below w.heap.size w (w1.alloc (.cells #[.slice ca D.cache.length cc] 29)) := hBB.trans (hbA.mono hBB.size)
  clear d1 hH bD bN bR bQ bD1 bN1 bR1 bQ1 hb1 hB0
  obtain ⟨W0, hW0⟩ : ∃ W0, w1.alloc (.cells #[.slice ca D.cache.length cc] 29) = W0 := ⟨_, rfl⟩
  rw [hW0] at hbA bD2 bN2 bR2 bQ2 bL hsz hB2 ⊢
  clear hW0
  have husA := hus.below hBB
  obtain ⟨A, hA⟩ : ∃ A, w1.heap.size = A := ⟨_, rfl⟩
  rw [hA] at bL hsz hs0 hbA ⊢
  have husB : WCells w1 ca D.cache.length fn us := husA
  have hbA' : Below w1.heap.size w1 W0 := by rw [hA]; exact hbA
  refine wpIn_rangeFunc_ownH rfl (by decide) (gf := 126) (lb := #[.pointer (some ⟨A, 0, none⟩)]) rfl trivial (enters_of Try.func126 (by kernel_rfl) rfl)
    (back_stops (6 - 1) (by decide) A ca D.cache.length cc fn us w1 husB (by omega) W0 hbA' bL) (fun h k => KpB.trans h k) (KpB.put (by omega) (by omega) (by omega)) (Below.refl _ _) (fun _ => rfl)
    (fun pre W => (∀ x ∈ pre, fn (D.cache.length - 1 - x.1) ≠ n) ∧ KpB w1.heap.size A A W0 W)
    (fun c pre W => c = .ret ∧ (∃ pre0 x v, (pre = pre0 ++ [x] ∧ (∀ y ∈ pre0, fn (D.cache.length - 1 - y.1) ≠ n) ∧ fn (D.cache.length - 1 - x.1) = n) ∧ VN W (w.heap.size + 1 + 1) 27 [v] ∧ VN W (w.heap.size + 1 + 1 + 1) 4 [.bool true] ∧ ∃ l, D.cache[D.cache.length - 1 - x.1]? = some l ∧ OB W w.heap.size v l.2) ∧ Below w.heap.size W0 W)
    (OwnFrom.and (fun s X Y row hs hg hr => hs) (ownFrom_kpB (by omega) (by omega) (by omega) (Nat.le_refl _)))
    (fun c s X Y row hs hg hr => ⟨hs.1, by obtain ⟨pre0, x, v, h1, h2, h3, l, h4, h5⟩ := hs.2.1; exact ⟨pre0, x, v, h1, h2.ownK hg (fun r e => (hr r e).2), h3.ownK hg (fun r e => (hr r e).2), l, h4, h5.ownK hg (fun r e => (hr r e).2)⟩, ownFrom_below (w₀ := W0) (n₀ := w.heap.size) (B := W0.heap.size) (β := Unit) (by omega) (by omega) () X Y row hs.2.2 hg hr⟩)
    ⟨(fun x hx => by cases hx), KpB.refl _ _ _ _⟩
    (fun x a' W => ∃ Bw, VN W Bw 51 [.int .i64 (fn (D.cache.length - 1 - x.1)), us (D.cache.length - 1 - x.1)] ∧ a' = { tmps := #[.agg #[.slice sa D.secs.length sc, .slice ca D.cache.length cc, .int .i64 D.ops, .slice fa D.faults.length fc, .bool D.down], .int .i64 n, .pointer (some ⟨w.heap.size, 0, none⟩), .pointer (some ⟨w.heap.size + 1, 0, none⟩), .pointer (some ⟨w.heap.size + 1 + 1, 0, none⟩), .pointer (some ⟨w.heap.size + 1 + 1 + 1, 0, none⟩), undef, .pointer (some ⟨Bw, 0, none⟩), .agg #[.slice sa D.secs.length sc, .slice ca D.cache.length cc, .int .i64 D.ops, .slice fa D.faults.length fc, .bool D.down], .int .i64 n, .bool true, .bool false, undef, .pointer (some ⟨w.heap.size, 1, none⟩), .slice ca D.cache.length cc, .func (.func 126) #[] #[.pointer (some ⟨A, 0, none⟩)], .int .i64 ((D.cache.length - 1 - x.1 : Nat) : Int), .agg #[.int .i64 (fn (D.cache.length - 1 - x.1)), us (D.cache.length - 1 - x.1)], undef, undef, undef, undef, undef, undef, undef, undef, undef, undef, undef, undef, undef], defers := [] })
    (fun x a' _ X Y row hs hg hr => by obtain ⟨Bw, h1, h3⟩ := hs; exact ⟨Bw, h1.ownK hg (fun r e => (hr r e).2), h3⟩)
    ?assign ?body ?done ?stop
  case assign =>
    rintro l pre x W K ⟨hall, hk⟩ hK
    have hi : D.cache.length - 1 - x.1 < D.cache.length := by have := x.2; omega
    obtain ⟨a3, c3, e3, -, -⟩ := (HL.out.1 _ hi).is
    have HE3 : Hid (us (D.cache.length - 1 - x.1) = .slice a3 (D.cache[D.cache.length - 1 - x.1]).2.length c3) := e3
    dsimp only [encK]
    rw [e3]
    clear e3
    gi_wp2
    have hbN : Below W.heap.size W (W.alloc (.cells #[.int .i64 (fn (D.cache.length - 1 - x.1)), .slice a3 (D.cache[D.cache.length - 1 - x.1]).2.length c3] 51)) := (Below.refl _ _).alloc (Nat.le_refl _) _
    have hs1 := hk.below.size
    have hkk := KpB.ofBelow (n₀ := w1.heap.size) (Bl := A) (Bv := A) hbN (by omega) (by omega) (by omega)
    refine hK _ _ (KeepsFrom.ofBelow hbN) hkk ⟨hall, hk.trans hkk⟩ ⟨W.heap.size, by rw [HE3.out]; exact VN.new W _ _, ?_⟩
    rw [HE3.out]
    try simp
  case body =>
    rintro l pre x a' W hl ⟨r, hr⟩ ⟨hall, hk⟩ ⟨Bw, bW, rfl⟩ hlt
    have hi : D.cache.length - 1 - x.1 < D.cache.length := by have := x.2; omega
    have hs1 := hk.below.size
    have bD3 := bD2.block (hk.below.block _ (by omega))
    have bN3 := bN2.block (hk.below.block _ (by omega))
    have bR3 := bR2.block (hk.below.block _ (by omega))
    have bQ3 := bQ2.block (hk.below.block _ (by omega))
    have cN : W.cell? ⟨w.heap.size + 1, 0, none⟩ = some (.int .i64 n) := bN3.cell 0
    have HA : Hid (∀ x ∈ pre, fn (D.cache.length - 1 - x.1) ≠ n) := hall
    have hBW : Below w.heap.size w W := hB2.trans (hk.below.mono (by omega))
    obtain ⟨a3, c3, e3, v3, n3⟩ := ((HL.out.1 _ hi).below hBW).is
    have hpl := HL.out.2.cache _ (List.getElem_mem hi)
    rw [e3] at bW
    have cW0 : W.cell? ⟨Bw, 0, none⟩ = some (.int .i64 (fn (D.cache.length - 1 - x.1))) := bW.cell 0
    have cW1 : W.cell? ⟨Bw, 1, none⟩ = some (.slice a3 (D.cache[D.cache.length - 1 - x.1]).2.length c3) := bW.cell 1
    clear hall hr
    by_cases hN : fn (D.cache.length - 1 - x.1) = n
    case neg =>
      have hq : (fn (D.cache.length - 1 - x.1) == n) = false := beq_eq_false_iff_ne.2 hN
      gi_wp2
      refine ⟨KeepsFrom.ofBelow (Below.refl _ _), KpB.refl _ _ _ _, fun y hy => ?_, hk⟩
      rcases List.mem_append.1 hy with hy | hy
      · exact HA.out y hy
      · simp at hy; subst hy; exact hN
    have HN : Hid (fn (D.cache.length - 1 - x.1) = n) := hN
    rw [hN] at cW0
    have hq : (n == n) = true := beq_self_eq_true _
    have hP := putSec_any a3 c3 _ W v3 n3 hpl
    have HX : Hid (D.cache[D.cache.length - 1 - x.1]? = some D.cache[D.cache.length - 1 - x.1]) := List.getElem?_eq_getElem hi
    obtain ⟨L, hL⟩ := hidEx D.cache[D.cache.length - 1 - x.1]
    rw [hL.out] at HX hP cW1 hpl
    obtain ⟨N3, hN3⟩ := hidEx L.2.length
    rw [hN3.out] at hP cW1 hpl
    clear hN v3
    gi_wp2_with (refine ⟨trivial, ?_⟩; gi_at_call 66; refine (CallsIn.inRound l (callsIn_wide.2 hP)).mono ?_; rintro e w2 ⟨rfl, hO2, hb2, -⟩; have bR4 := bR3.below hb2; have cR : w2.cell? ⟨w.heap.size + 1 + 1, 0, none⟩ = some (.slice none 0 0) := bR4.cell 0; have fR := bR4.fz 0; have bQ4 := (bQ3.below hb2).other (C := w.heap.size + 1 + 1) (i := 0) (u := .slice (some ⟨W.heap.size, 0, none⟩) N3 N3) (by omega); have cQ : (w2.setCell ⟨w.heap.size + 1 + 1, 0, none⟩ (.slice (some ⟨W.heap.size, 0, none⟩) N3 N3)).cell? ⟨w.heap.size + 1 + 1 + 1, 0, none⟩ = some (.bool false) := bQ4.cell 0; have fQ := bQ4.fz 0)
    have c4 := (bR4.set 0 (.slice (some ⟨W.heap.size, 0, none⟩) N3 N3)).other (C := w.heap.size + 1 + 1 + 1) (i := 0) (u := .bool true) (by omega)
    have c5 := bQ4.set 0 (.bool true)
    simp only [List.set] at c4 c5
    have hOO : OB ((w2.setCell ⟨w.heap.size + 1 + 1, 0, none⟩ (.slice (some ⟨W.heap.size, 0, none⟩) N3 N3)).setCell ⟨w.heap.size + 1 + 1 + 1, 0, none⟩ (.bool true)) w.heap.size (.slice (some ⟨W.heap.size, 0, none⟩) N3 N3) L.2 := ((hO2.up (Up.set (by omega))).up (Up.set (by omega))).mono (by omega)
    refine ⟨((KeepsFrom.ofBelow hb2).trans ((KeepsOthers.setCell _ _ _).from _)).trans ((KeepsOthers.setCell _ _ _).from _), rfl, ⟨pre, x, _, ⟨rfl, HA.out, HN.out⟩, c4, c5, L, HX.out, hOO⟩, ?_⟩
    exact (((hk.below.mono (by omega)).trans (hb2.mono (by omega))).setCell (p := ⟨w.heap.size + 1 + 1, 0, none⟩) (by show w.heap.size ≤ w.heap.size + 1 + 1; omega) _).setCell (p := ⟨w.heap.size + 1 + 1 + 1, 0, none⟩) (by show w.heap.size ≤ w.heap.size + 1 + 1 + 1; omega) _
  case done =>
    rintro D' ys W hD rfl ⟨hall, hk⟩ hK
    have hs1 := hk.below.size
    have hBW : Below w.heap.size w W := hB2.trans (hk.below.mono (by omega))
    have bD3 := bD2.block (hk.below.block _ (by omega))
    have bN3 := bN2.block (hk.below.block _ (by omega))
    have bR3 := bR2.block (hk.below.block _ (by omega))
    have bQ3 := bQ2.block (hk.below.block _ (by omega))
    have cN : W.cell? ⟨w.heap.size + 1, 0, none⟩ = some (.int .i64 n) := bN3.cell 0
    have cD : W.cell? ⟨w.heap.size, 0, none⟩ = some (.slice sa D.secs.length sc) := bD3.cell 0
    obtain ⟨m, hm⟩ : ∃ m : Nat, n = m := ⟨n.toNat, by have := HR.out.1; omega⟩
    have hml : m < D.secs.length := by have := HR.out.2; omega
    have HB : Hid (readB D n = D.secs[m]) := by
      show _ = _
      have hl0 : lastW D.cache n D.cache.length = none := by
        rw [lastW_pass (i := 0) (Nat.zero_le _) (Nat.le_refl _) (fun j _ hj => ?_)]
        · rfl
        · have := hall ⟨D.cache.length - 1 - j, by omega⟩ (List.mem_finRange _)
          rw [hfn.out] at this
          have e : D.cache.length - 1 - (D.cache.length - 1 - j) = j := by omega
          simpa only [e] using this
      subst hm
      exact readB_sec HR.out hl0 hml
    obtain ⟨b1, o1, a3, c3, esa, hb1', x0, v3, n3⟩ := sview_at (sview_below HS.out hBW) hml
    have hpl := HL.out.2.sec _ (List.getElem_mem hml)
    have hP := putSec_any a3 c3 _ W v3 n3 hpl
    rw [esa] at cD
    obtain ⟨L, hL⟩ := hidEx D.secs[m]
    rw [hL.out] at HB hP x0 hpl
    obtain ⟨N3, hN3⟩ := hidEx L.length
    rw [hN3.out] at hP x0 hpl
    rw [hm] at cN
    have hmz : (m : Int) < (D.secs.length : Int) := by omega
    clear hall v3
    gi_wp2_with (refine ⟨trivial, ?_⟩; gi_at_call 66; refine (callsIn_wide.2 hP).mono ?_; rintro e w2 ⟨rfl, hO2, hb2, -⟩; have bR4 := bR3.below hb2; have cR : w2.cell? ⟨w.heap.size + 1 + 1, 0, none⟩ = some (.slice none 0 0) := bR4.cell 0; have fR := bR4.fz 0; have bQ4 := (bQ3.below hb2).other (C := w.heap.size + 1 + 1) (i := 0) (u := .slice (some ⟨W.heap.size, 0, none⟩) N3 N3) (by omega); have cQ : (w2.setCell ⟨w.heap.size + 1 + 1, 0, none⟩ (.slice (some ⟨W.heap.size, 0, none⟩) N3 N3)).cell? ⟨w.heap.size + 1 + 1 + 1, 0, none⟩ = some (.bool false) := bQ4.cell 0; have fQ := bQ4.fz 0)
    have c4 := (bR4.set 0 (.slice (some ⟨W.heap.size, 0, none⟩) N3 N3)).other (C := w.heap.size + 1 + 1 + 1) (i := 0) (u := .bool true) (by omega)
    have c5 := bQ4.set 0 (.bool true)
    simp only [List.set] at c4 c5
    have hOO : OB ((w2.setCell ⟨w.heap.size + 1 + 1, 0, none⟩ (.slice (some ⟨W.heap.size, 0, none⟩) N3 N3)).setCell ⟨w.heap.size + 1 + 1 + 1, 0, none⟩ (.bool true)) w.heap.size (.slice (some ⟨W.heap.size, 0, none⟩) N3 N3) L := ((hO2.up (Up.set (by omega))).up (Up.set (by omega))).mono (by omega)
    have hDl : D' < W.heap.size := (Array.getElem?_eq_some_iff.1 hK).1
    have hK2 : w2.heap[D']? = some (.deferred (some [])) := (hb2.block D' hDl).trans hK
    have hK' := (KeepsOthers.setCell (w2.setCell ⟨w.heap.size + 1 + 1, 0, none⟩ (.slice (some ⟨W.heap.size, 0, none⟩) N3 N3)) ⟨w.heap.size + 1 + 1 + 1, 0, none⟩ (.bool true)).same D' _ ((KeepsOthers.setCell w2 ⟨w.heap.size + 1 + 1, 0, none⟩ (.slice (some ⟨W.heap.size, 0, none⟩) N3 N3)).same D' _ hK2 rfl) rfl
    have c4' : ((w2.setCell ⟨w.heap.size + 1 + 1, 0, none⟩ (.slice (some ⟨W.heap.size, 0, none⟩) N3 N3)).setCell ⟨w.heap.size + 1 + 1 + 1, 0, none⟩ (.bool true)).cell? ⟨w.heap.size + 1 + 1, 0, none⟩ = some (.slice (some ⟨W.heap.size, 0, none⟩) N3 N3) := c4.cell 0
    have c5' : ((w2.setCell ⟨w.heap.size + 1 + 1, 0, none⟩ (.slice (some ⟨W.heap.size, 0, none⟩) N3 N3)).setCell ⟨w.heap.size + 1 + 1 + 1, 0, none⟩ (.bool true)).cell? ⟨w.heap.size + 1 + 1 + 1, 0, none⟩ = some (.bool true) := c5.cell 0
    have hbe : Below w.heap.size w ((w2.setCell ⟨w.heap.size + 1 + 1, 0, none⟩ (.slice (some ⟨W.heap.size, 0, none⟩) N3 N3)).setCell ⟨w.heap.size + 1 + 1 + 1, 0, none⟩ (.bool true)) := ((hBW.trans (hb2.mono hBW.size)).setCell (p := ⟨w.heap.size + 1 + 1, 0, none⟩) (by show w.heap.size ≤ w.heap.size + 1 + 1; omega) _).setCell (p := ⟨w.heap.size + 1 + 1 + 1, 0, none⟩) (by show w.heap.size ≤ w.heap.size + 1 + 1 + 1; omega) _
    refine ⟨by simp, .inl ⟨_, _, rfl, run_takeDeferred hK', ?_⟩⟩
    have d4 := cell_kept c4' (grownBy_putObj' _ D' (.deferred none)) (fun r e => by cases e; exact ⟨_, hK', rfl⟩)
    have d5 := cell_kept c5' (grownBy_putObj' _ D' (.deferred none)) (fun r e => by cases e; exact ⟨_, hK', rfl⟩)
    refine ⟨.tuple #[(.slice (some ⟨W.heap.size, 0, none⟩) N3 N3), .bool true], ?_, _, true, rfl, by simpa using HR.out, by rw [HB.out]; exact hOO.ownK (grownBy_putObj' _ D' (.deferred none)) (fun r e => by cases e; exact ⟨_, hK', rfl⟩), Below.put' hbe (by omega) hK'⟩
    simp [results, Try.f23, go_sem, d4, d5]
  case stop =>
    rintro D' c pre W hD hpre ⟨rfl, ⟨pre0, x, v, ⟨rfl, hno, hx⟩, bV, bT, L, hL, hO⟩, hk⟩ hK
    have HB : Hid (readB D n = L.2) := by
      show _ = _
      refine readB_hit HR.out ?_
      have hi : D.cache.length - 1 - x.1 < D.cache.length := by have := x.2; omega
      rw [lastW_pass (i := D.cache.length - 1 - x.1 + 1) (by omega) (Nat.le_refl _) (fun j hj hj' => ?_)]
      · rw [lastW_hit hi ?_]
        · rw [List.getElem?_eq_getElem hi] at hL
          rw [Option.some.inj hL]
        · rw [hfn.out] at hx
          simpa [hi] using hx
      · have := hno ⟨D.cache.length - 1 - j, by omega⟩ (prefix_fin hpre _ (by show D.cache.length - 1 - j < x.1; omega))
        rw [hfn.out] at this
        have e : D.cache.length - 1 - (D.cache.length - 1 - j) = j := by omega
        simpa only [e] using this
    have hk0 := hB2.trans hk
    clear hno hx hpre hL hk
    gi_wp2
    have c4' : W.cell? ⟨w.heap.size + 1 + 1, 0, none⟩ = some v := bV.cell 0
    have c5' : W.cell? ⟨w.heap.size + 1 + 1 + 1, 0, none⟩ = some (.bool true) := bT.cell 0
    refine ⟨by simp, .inl ⟨_, _, rfl, run_takeDeferred hK, ?_⟩⟩
    have d4 := cell_kept c4' (grownBy_putObj' _ D' (.deferred none)) (fun r e => by cases e; exact ⟨_, hK, rfl⟩)
    have d5 := cell_kept c5' (grownBy_putObj' _ D' (.deferred none)) (fun r e => by cases e; exact ⟨_, hK, rfl⟩)
    have h1 : v.oneCell' = true := by
      obtain ⟨a', c', rfl, -⟩ := hO.is
      rfl
    refine ⟨.tuple #[v, .bool true], ?_, _, true, rfl, by simpa using HR.out, by rw [HB.out]; exact hO.ownK (grownBy_putObj' _ D' (.deferred none)) (fun r e => by cases e; exact ⟨_, hK, rfl⟩), Below.put' hk0 (by omega) hK⟩
    simp [results, Try.f23, go_sem, d4, d5, h1]
end Go.Proofs.Ytdhfbblameiloaa

/-
  Bytes of an answer read.
-/
namespace Go.Proofs.Ytdhfbblameiloaa
open Go.RowKit
set_option maxRecDepth 4000

theorem oz_view {w : World} {B : Nat} {v : Value} {l : List Int} (h : OZ w B v l) : ∃ a c, v = .slice a l.length c ∧ View w a l.length c (bf l) := by
  obtain ⟨a, c, e, h1, h2, h3, h4⟩ := h.is
  refine ⟨a, c, e, ?_⟩
  rcases h4 with rfl | ⟨g, rfl, hg, hr⟩
  · exact ⟨by simp, fun i hi => absurd hi (Nat.not_lt_zero _), fun h => absurd h (Nat.lt_irrefl _)⟩
  · exact hr.view h1 (bytes_of_list h3)

end Go.Proofs.Ytdhfbblameiloaa

/-
  The program's rootIn.
-/
namespace Go.Proofs.Ytdhfbblameiloaa
open Go.RowKit
set_option maxRecDepth 4000

set_option maxHeartbeats 4000000 in
theorem rootIn_any (v : Value) (D : PDisk) (n : Int) (w : World) (h : KView w v D) (hf : KFine D) :
    Calls Try.prog 111 #[v, .int .i64 n] w (MeTo w (rootP D n)) := by
  have HK : Hid (KView w v D ∧ KFine D) := ⟨h, hf⟩
  have hlen := readB_len hf n
  obtain ⟨sa, sc, ca, cc, fa, fc, rfl, -, -, -⟩ := h.is
  clear h hf
  have hbA : Below w.heap.size w (w.alloc (.cells #[.slice sa D.secs.length sc, .slice ca D.cache.length cc, .int .i64 D.ops, .slice fa D.faults.length fc, .bool D.down] 32)) := (Below.refl _ _).alloc (Nat.le_refl _) _
  have hX := VN.new w 32 [.slice sa D.secs.length sc, .slice ca D.cache.length cc, .int .i64 D.ops, .slice fa D.faults.length fc, .bool D.down]
  have hsz : (w.alloc (.cells #[.slice sa D.secs.length sc, .slice ca D.cache.length cc, .int .i64 D.ops, .slice fa D.faults.length fc, .bool D.down] 32)).heap.size = w.heap.size + 1 := by simp
  obtain ⟨W1, hW1⟩ : ∃ x, Hid (w.alloc (.cells #[.slice sa D.secs.length sc, .slice ca D.cache.length cc, .int .i64 D.ops, .slice fa D.faults.length fc, .bool D.down] 32) = x) := ⟨_, rfl⟩
  rw [hW1.out] at hbA hX hsz
  have hbB : Below W1.heap.size W1 (W1.alloc (.cells #[.int .i64 0, .int .i64 0] 64)) := (Below.refl _ _).alloc (Nat.le_refl _) _
  have hR := MBox.new W1 0 0
  replace hX := hX.below hbB
  have hB := hbA.trans (hbB.mono hbA.size)
  rw [hsz] at hR
  obtain ⟨W2, hW2⟩ : ∃ x, Hid (W1.alloc (.cells #[.int .i64 0, .int .i64 0] 64) = x) := ⟨_, rfl⟩
  rw [hW2.out] at hR hX hB
  have x0 := hX.cell 0
  have x1 := hX.cell 1
  have x2 := hX.cell 2
  have x3 := hX.cell 3
  have x4 := hX.cell 4
  simp only [List.getElem?_cons_zero, List.getElem?_cons_succ] at x0 x1 x2 x3 x4
  have HR : Hid (rootP D n = if (getMe (readB D n).length (bf (readB D n))).2.2 = true ∧ (getMe (readB D n).length (bf (readB D n))).1 % 2 = n then getMe (readB D n).length (bf (readB D n)) else (0, 0, false)) := rfl
  have hread := (implReadSec_any _ D n W2 (HK.out.1.below hB) HK.out.2).mono (fun _ _ h => h.bto)
  obtain ⟨P, hP⟩ := hidEx (rootP D n)
  obtain ⟨l, hl⟩ := hidEx (readB D n)
  obtain ⟨ok, hok⟩ := hidEx (hasB D n)
  rw [hP.out, hl.out] at HR
  rw [hl.out] at hlen
  rw [hl.out, hok.out] at hread
  rw [hP.out]
  clear HK hP hl hok hbB hbA hX
  go_enter Try.func111, Try.ntmps111
  go_wp2_with (first | rw [hW1.out] | rw [hW2.out])
  refine hread.mono ?_
  rintro e w3 ⟨v3, rfl, hoz, hb3⟩
  have hR3 : MBox w3 (w.heap.size + 1) 0 0 := hR.below hb3
  have hB3 := hB.trans (hb3.mono hB.size)
  obtain ⟨a, c, e3, h1, h2, h3, h4⟩ := hoz.is
  obtain ⟨a', c', e4, hv⟩ := oz_view hoz
  subst e3
  cases e4
  have hF : ∀ i, i < l.length → 0 ≤ bf l i ∧ bf l i ≤ 255 := bytes_of_list h3
  have hcs := getMe_cases hF
  have hG := implGetMeta_any a l.length c (bf l) w3 (fun h4' => by
    rcases h4 with h4 | ⟨g, e, -, -⟩
    · subst h4; simp at h4'
    · exact ⟨g, e⟩) hv hlen
  obtain ⟨g, r, is, hM⟩ : ∃ g r is, Hid (getMe l.length (bf l) = (g, r, is)) := ⟨_, _, _, rfl⟩
  rw [hM.out] at HR hcs hG
  dsimp only at HR hcs
  clear hread hoz hb3 hR hB h1 h2 h3 h4 hv hF hM x0 x1 x2 x3 x4 hW1 hW2
  go_wp2_with fail
  refine hG.mono ?_
  rintro e w4 ⟨rfl, hb4⟩
  have hR4 := hR3.below hb4
  have hB4 := hB3.trans (hb4.mono hB3.size)
  have hM := MBox.new w4 g r
  have hbM : Below w4.heap.size w4 (w4.alloc (.cells #[.int .i64 g, .int .i64 r] 64)) := (Below.refl _ _).alloc (Nat.le_refl _) _
  have hlt := hR4.lt
  have hR5 := hR4.below hbM
  have hB5 := hB4.trans (hbM.mono hB4.size)
  obtain ⟨W5, hW5⟩ : ∃ x, Hid (w4.alloc (.cells #[.int .i64 g, .int .i64 r] 64) = x) := ⟨_, rfl⟩
  rw [hW5.out] at hM hR5 hB5
  obtain ⟨m0, m1⟩ := hM.cells
  obtain ⟨x0, x1⟩ := hR5.cells
  obtain ⟨r0, r1⟩ := hR5.frozen
  clear hG hb4 hR3 hB3 hR4 hB4 hbM
  by_cases hall : is = true ∧ g % 2 = n
  · have HP : Hid (P = (g, r, true)) := by
      show _ = _
      have := HR.out
      rw [if_pos hall] at this
      rw [this, hall.1]
    have hgs := stored2 (.int .i64 g) (.int .i64 r) x0 x1
    have HB : Hid (Below w.heap.size w ((W5.setCell ⟨w.heap.size + 1, 0, none⟩ (.int .i64 g)).setCell ⟨w.heap.size + 1, 1, none⟩ (.int .i64 r))) := (hB5.setCell (Nat.le_succ _) _).setCell (Nat.le_succ _) _
    obtain ⟨rfl, h2⟩ := hall
    have hg0 : 0 ≤ g := by rcases hcs with h | h; exact h.2.1; cases h
    have hq : (g % 2 == n) = true := by rw [h2]; exact beq_self_eq_true _
    clear HR hcs hM hR5 hB5
    go_wp2_with (rw [hW5.out])
    exact bodyPost_ret (v := .tuple #[.agg #[.int .i64 g, .int .i64 r], .bool true]) (by simp [results, Try.results111, go_sem, hgs]) rfl (by rw [HP.out]; exact ⟨rfl, HB.out⟩)
  · have HP : Hid (P = (0, 0, false)) := by
      show _ = _
      have := HR.out
      rw [if_neg hall] at this
      exact this
    have hgs := stored2 (.int .i64 0) (.int .i64 0) x0 x1
    have HB : Hid (Below w.heap.size w ((W5.setCell ⟨w.heap.size + 1, 0, none⟩ (.int .i64 0)).setCell ⟨w.heap.size + 1, 1, none⟩ (.int .i64 0))) := (hB5.setCell (Nat.le_succ _) _).setCell (Nat.le_succ _) _
    clear HR hM hR5 hB5
    cases is with
    | false =>
      clear hall hcs
      go_wp2_with (rw [hW5.out])
      exact bodyPost_ret (v := .tuple #[.agg #[.int .i64 0, .int .i64 0], .bool false]) (by simp [results, Try.results111, go_sem, hgs]) rfl (by rw [HP.out]; exact ⟨rfl, HB.out⟩)
    | true =>
      have hg0 : 0 ≤ g := by rcases hcs with h | h; exact h.2.1; cases h
      have h2 : ¬ g % 2 = n := fun h => hall ⟨rfl, h⟩
      have hq : (g % 2 == n) = false := beq_eq_false_iff_ne.2 h2
      clear hall hcs
      go_wp2_with (rw [hW5.out])
      exact bodyPost_ret (v := .tuple #[.agg #[.int .i64 0, .int .i64 0], .bool false]) (by simp [results, Try.results111, go_sem, hgs]) rfl (by rw [HP.out]; exact ⟨rfl, HB.out⟩)
end Go.Proofs.Ytdhfbblameiloaa

