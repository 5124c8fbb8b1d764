/-
  Together: RowKeysPlain, PartsByImpl, PlanImpl11, IdxImpl11, DefsView, FirstImpl
-/
import Derived.Test.YtkakkjnbhklfpaaGreatDoorPackR3
import Derived.Test.YtkakkjnbhklfpaaGreatDoorPackR6
import Derived.Test.YtkakkjnbhklfpaaGreatDoorPackR7
import Derived.Test.YtkakkjnbhklfpaaGreatDoorPackR4
import Derived.Deep.LoopGhost
import Derived.Deep.RegionHeld3
import Derived.Test.YtkakkjnbhklfpaaGreatDoorPackR5
/-
  Keys of two rows of short values of a table that is right, plainly: they stand in the order of their values.
-/
namespace Go.Proofs.YtkakkjnbhklfpaaGreatDoor
open Go.RowKit
set_option maxRecDepth 4000

theorem short_fits {t : Int} {nl : Bool} {k n : Int} {s : ByteArray} (ht : 1 ≤ t ∧ t ≤ 4) (h : ShortV t nl k n s) : fitsP t nl k n s = true := by
  rcases h with ⟨rfl, rfl, rfl, rfl⟩ | ⟨rfl, hs, h3, hn3, h4, hn⟩
  · simp [fitsP, okF, ofFields, V.rng, V.k, V.n, V.s, noBytes]
  · have : k = 1 ∨ k = 2 ∨ k = 3 ∨ k = 4 := by omega
    rcases this with rfl | rfl | rfl | rfl
    · obtain rfl := hn3 (by omega)
      simp [fitsP, okF, ofFields, V.rng, V.k, V.n, V.s, noBytes]; omega
    · obtain rfl := hn3 (by omega)
      simp [fitsP, okF, ofFields, V.rng, V.k, V.n, V.s, noBytes]; omega
    · obtain rfl := h3 rfl
      simp [fitsP, okF, ofFields, V.rng, V.k, V.n, V.s]; omega
    · obtain rfl := hn3 (by omega)
      have := h4 rfl
      have : n = 0 ∨ n = 1 := by omega
      rcases this with rfl | rfl <;> simp [fitsP, okF, ofFields, V.rng, V.k, V.n, V.s, noBytes]

/-- Short values of all columns. -/
def ShortR (D : PDef) (fk fn : Nat → Int) (fs : Nat → ByteArray) : Prop := ∀ i, i < D.nc → ShortV (D.col i).type (D.col i).null (fk i) (fn i) (fs i)

theorem part_ok {D : PDef} (hD : checkF D = 0) {l : Nat → PBy} {i : Nat} (hl : 0 ≤ (l i).col ∧ (l i).col < D.nc) : partOk (plF D.col l i).col (plF D.col l i).type = true := by
  have h2 := good_nc hD
  have h3 := h2.1 (l i).col.toNat (by omega)
  show partOk (l i).col (D.col (l i).col.toNat).type = true
  unfold partOk
  simp; omega
theorem row_short {D : PDef} (hD : checkF D = 0) {fk fn : Nat → Int} {fs : Nat → ByteArray} (h : ShortR D fk fn fs) : rowOkD D D.nc fk fn fs = true := by
  have hN : rowN D = D.nc := by unfold rowN; rw [if_pos hD]
  have h2 := good_nc hD
  unfold rowOkD rowOk
  rw [hN, Bool.and_eq_true, Bool.and_eq_true, planOk_iff, fitsAll_iff]
  refine ⟨⟨fun i hi => part_ok hD ⟨?_, ?_⟩, h2.2.2⟩, decide_eq_true rfl, Nat.le_refl _, fun i hi => ?_⟩
  · show (0 : Int) ≤ (i : Int); omega
  · show (i : Int) < D.nc; omega
  · exact short_fits (h2.1 i hi) (h i hi)

/-- A plan of an index that is there has its columns in the table's. -/
theorem plan_in {D : PDef} (hD : checkF D = 0) {i : Int} (h0 : -1 ≤ i) (h1 : i < D.ni) : ∀ q, q < planN D i → 0 ≤ (planL D i q).col ∧ (planL D i q).col < D.nc := by
  intro q hq
  unfold planN at hq
  unfold planL
  by_cases e : i = -1
  · rw [if_pos e] at hq ⊢
    unfold priN at hq
    rw [if_pos hD] at hq
    exact partsF_in (good_pri hD) hq
  · rw [if_neg e] at hq ⊢
    unfold idxN at hq
    rw [if_pos ⟨hD, by omega, h1⟩] at hq
    exact cat_in (fun q hq => partsF_in (good_idx hD (i := i.toNat) (by omega)) hq) (fun q hq => partsF_in (good_pri hD) hq) q hq

section
variable {D : PDef} {fk fn : Nat → Int} {fs : Nat → ByteArray} {gk gn : Nat → Int} {gs : Nat → ByteArray}
theorem pick_fits (hD : checkF D = 0) (h : ShortR D fk fn fs) {l : Nat → PBy} {q : Nat} (hl : 0 ≤ (l q).col ∧ (l q).col < D.nc) :
    fitsP (plF D.col l q).type (plF D.col l q).null (pickK (fun i => (plF D.col l i).col) D.nc fk q) (pickK (fun i => (plF D.col l i).col) D.nc fn q) (pickS (fun i => (plF D.col l i).col) D.nc fs q) = true := by
  have hc : 0 ≤ (plF D.col l q).col ∧ (plF D.col l q).col < D.nc := hl
  unfold pickK pickS
  simp only [if_pos hc]
  exact short_fits ((good_nc hD).1 (l q).col.toNat (by omega)) (h (l q).col.toNat (by omega))

/-- The plan's picks of two rows, and how they stand. -/
def lessQ (N : Nat) (P : Nat → PPart) (m : Nat) (fk fn : Nat → Int) (fs : Nat → ByteArray) (gk gn : Nat → Int) (gs : Nat → ByteArray) : Bool :=
  lessK N (fun i => (P i).desc) N (pickK (fun i => (P i).col) m fk) (pickK (fun i => (P i).col) m fn) (pickS (fun i => (P i).col) m fs) N (pickK (fun i => (P i).col) m gk) (pickK (fun i => (P i).col) m gn) (pickS (fun i => (P i).col) m gs)
def sameQ (N : Nat) (P : Nat → PPart) (m : Nat) (fk fn : Nat → Int) (fs : Nat → ByteArray) (gk gn : Nat → Int) (gs : Nat → ByteArray) : Bool :=
  rowEq N N (pickK (fun i => (P i).col) m fk) (pickK (fun i => (P i).col) m fn) (pickS (fun i => (P i).col) m fs) (pickK (fun i => (P i).col) m gk) (pickK (fun i => (P i).col) m gn) (pickS (fun i => (P i).col) m gs)

theorem keyQ_at (hD : checkF D = 0) {l : Nat → PBy} {N : Nat} (hN : N ≤ 6) (hl : ∀ q, q < N → 0 ≤ (l q).col ∧ (l q).col < D.nc) (h : ShortR D fk fn fs) :
    keyQ N (plF D.col l) D.nc fk fn fs = keyT (onePL (fun i => (plF D.col l i).col) (fun i => (plF D.col l i).type) (fun i => (plF D.col l i).null) (fun i => (plF D.col l i).desc) (pickK (fun i => (plF D.col l i).col) D.nc fk) (pickK (fun i => (plF D.col l i).col) D.nc fn) (pickS (fun i => (plF D.col l i).col) D.nc fs)) N := by
  unfold keyQ keyL
  rw [if_pos]
  rw [Bool.and_eq_true, planOk_iff, fitsAll_iff]
  exact ⟨⟨fun i hi => part_ok hD (hl i hi), hN⟩, Nat.le_refl _, fun i hi => pick_fits hD h (hl i hi)⟩
theorem keyQ_two (hD : checkF D = 0) {l : Nat → PBy} {N : Nat} (hN : N ≤ 6) (hl : ∀ q, q < N → 0 ≤ (l q).col ∧ (l q).col < D.nc) (h : ShortR D fk fn fs) (h' : ShortR D gk gn gs) :
    ahead (keyQ N (plF D.col l) D.nc fk fn fs) (keyQ N (plF D.col l) D.nc gk gn gs) = lessQ N (plF D.col l) D.nc fk fn fs gk gn gs
    ∧ decide (keyQ N (plF D.col l) D.nc fk fn fs = keyQ N (plF D.col l) D.nc gk gn gs) = sameQ N (plF D.col l) D.nc fk fn fs gk gn gs := by
  have := keys_two (fd := fun i => (plF D.col l i).desc) (fun i hi => part_ok hD (hl i hi)) (fun i hi => pick_fits hD h (hl i hi)) (fun i hi => pick_fits hD h' (hl i hi)) _ _ (keyQ_at hD hN hl h) (keyQ_at hD hN hl h')
  have h1 := this.ah
  have h2 := this.same
  rw [lof_getD, lof_getD] at h1 h2
  exact ⟨h1, h2⟩
end

/-- The same two bytes ahead. -/
theorem ahead_two (x y : Int) (hx : 0 ≤ x ∧ x ≤ 255) (hy : 0 ≤ y ∧ y ≤ 255) (L M : List Int) : ahead ([x, y] ++ L) ([x, y] ++ M) = ahead L M := by
  show ahead (x :: y :: L) (x :: y :: M) = _
  rw [ahead_cons x x _ _ hx hx, if_neg (by omega), if_pos rfl, ahead_cons y y _ _ hy hy, if_neg (by omega), if_pos rfl]

section
variable {f : Nat → PDef} {n j : Nat} {fk fn : Nat → Int} {fs : Nat → ByteArray} {gk gn : Nat → Int} {gs : Nat → ByteArray}
theorem keyB_at (hF : firstF f n = -1) (hj : j < n) {i : Int} (h0 : -1 ≤ i) (h1 : i < (f j).ni) (h : ShortR (f j) fk fn fs) :
    keyB f n (j : Int) i (f j).nc fk fn fs = [(j : Int) + 1, i + 1] ++ keyQ (planN (f j) i) (plF (f j).col (planL (f j) i)) (f j).nc fk fn fs ∧ headB f n (j : Int) i = [(j : Int) + 1, i + 1] := by
  have hT : There f n (j : Int) i := ⟨hF, by omega, by omega, h0, by simpa using h1⟩
  have hD := (firstF_none hF).2.1 j hj
  unfold keyB headB
  rw [if_pos ⟨hT, by simpa using row_short hD h⟩, if_pos hT]
  simp
/-- Two keys: their order, whether they are alike, and how they begin. -/
theorem keyB_two (hF : firstF f n = -1) (hj : j < n) {i : Int} (h0 : -1 ≤ i) (h1 : i < (f j).ni) (h : ShortR (f j) fk fn fs) (h' : ShortR (f j) gk gn gs) :
    ahead (keyB f n (j : Int) i (f j).nc fk fn fs) (keyB f n (j : Int) i (f j).nc gk gn gs) = lessQ (planN (f j) i) (plF (f j).col (planL (f j) i)) (f j).nc fk fn fs gk gn gs
    ∧ decide (keyB f n (j : Int) i (f j).nc fk fn fs = keyB f n (j : Int) i (f j).nc gk gn gs) = sameQ (planN (f j) i) (plF (f j).col (planL (f j) i)) (f j).nc fk fn fs gk gn gs := by
  have hT : There f n (j : Int) i := ⟨hF, by omega, by omega, h0, by simpa using h1⟩
  have hs := hT.small
  have hD := (firstF_none hF).2.1 j hj
  obtain ⟨e1, -⟩ := keyB_at hF hj h0 h1 h
  obtain ⟨e2, -⟩ := keyB_at hF hj h0 h1 h'
  obtain ⟨k1, k2⟩ := keyQ_two hD (planN_le (f j) i) (plan_in hD h0 h1) h h'
  rw [e1, e2, ahead_two _ _ (by omega) (by omega), k1, ← k2]
  refine ⟨rfl, ?_⟩
  rw [decide_eq_decide]
  simp
end
/-- Rows whose keys of an index are alike have the same Primary. -/
theorem same_idx {D : PDef} (hD : checkF D = 0) {i : Int} (h0 : 0 ≤ i) (h1 : i < D.ni) {fk fn : Nat → Int} {fs : Nat → ByteArray} {gk gn : Nat → Int} {gs : Nat → ByteArray} (h : sameQ (planN D i) (plF D.col (planL D i)) D.nc fk fn fs gk gn gs = true) :
    sameQ (planN D (-1)) (plF D.col (planL D (-1))) D.nc fk fn fs gk gn gs = true := by
  unfold sameQ at h ⊢
  rw [rowEq_at] at h ⊢
  intro q hq
  have hq' : q < D.np := by unfold planN priN at hq; rw [if_pos rfl, if_pos hD] at hq; exact hq
  have hN : planN D i = (D.idx i.toNat).n + D.np := by
    unfold planN idxN
    rw [if_neg (by omega), if_pos ⟨hD, h0, h1⟩]
  have hL : planL D i ((D.idx i.toNat).n + q) = planL D (-1) q := by
    unfold planL ixpL catB
    rw [if_neg (by omega), if_pos rfl, if_neg (by omega)]
    congr 1; omega
  have hp : plF D.col (planL D i) ((D.idx i.toNat).n + q) = plF D.col (planL D (-1)) q := by unfold plF; rw [hL]
  have := h ((D.idx i.toNat).n + q) (by omega)
  unfold sameAt pickK pickS at this ⊢
  simp only [hp] at this
  exact this
end Go.Proofs.YtkakkjnbhklfpaaGreatDoor

/-
  The program's partsBy comes to the plain plan.
-/
namespace Go.Proofs.YtkakkjnbhklfpaaGreatDoor
open Go.RowKit
set_option maxRecDepth 4000

set_option maxHeartbeats 4000000 in
theorem partsBy_any (ac : Option Addr) (nc cc : Nat) (col : Nat → PCol) (ap : Option Addr) (n cp : Nat) (l : Nat → PBy) (w : World) (hC : CView w ac nc cc col) (hP : BView w ap n cp l) (hnc : nc ≤ 1048576) (hn : n ≤ 1048576) (hin : ∀ i, i < n → 0 ≤ (l i).col ∧ (l i).col < nc) :
    Calls Tryz.prog 32 #[.slice ac nc cc, .slice ap n cp] w fun e w' => ∃ g c, e = .returned (.slice (some ⟨g, 0, none⟩) n c) ∧ w'.ownsRow w.heap.size 50 4 (.slice (some ⟨g, 0, none⟩) n c) n (rowG (encQ (plF col l)) n) ∧ Below w.heap.size w w' := by
  obtain ⟨i0, hi, hz0, hz1, hz2⟩ := infoPart11
  have hbE : Below w.heap.size w (w.alloc (.cells #[] 50)) := (Below.refl _ _).alloc (Nat.le_refl _) _
  have hO0 := own_nil11 w (plF col l)
  go_enter Tryz.func32, Tryz.ntmps32
  go_wp2
  go_loopg [12, 5] n (fun q i s wr => ∃ k : Nat, k ≤ n ∧ q = n - k ∧ i = .int .i64 k ∧ ∃ g c, s = .slice (some ⟨g, 0, none⟩) k c ∧ wr.ownsRow w.heap.size 50 4 (.slice (some ⟨g, 0, none⟩) k c) k (rowG (encQ (plF col l)) k) ∧ Below w.heap.size w wr)
  case atStart => exact ⟨0, Nat.zero_le _, rfl, rfl, _, _, rfl, hO0, hbE⟩
  case round =>
    clear hO0 hbE
    obtain ⟨k, hk, rfl, rfl, sa, sc, rfl, hO, hB⟩ := hrel
    by_cases hlt : k < n
    · have hkz : (k : Int) < (n : Int) := by omega
      obtain ⟨b1, o1, rfl, hb1, hc1⟩ := (hP.below hB).cells (by omega)
      obtain ⟨x0, x1⟩ := hc1 k hlt
      obtain ⟨j, hj⟩ : ∃ j : Nat, Hid ((l k).col = j) := ⟨((l k).col).toNat, by show _ = _; have := (hin k hlt).1; omega⟩
      have hjn : j < nc := by have := (hin k hlt).2; rw [hj.out] at this; omega
      have hjz : (j : Int) < (nc : Int) := by omega
      obtain ⟨b2, o2, rfl, hb2, hc2⟩ := (hC.below hB).cells (by omega)
      obtain ⟨y0, y1, y2⟩ := hc2 j hjn
      have HN : Hid (rowG (encQ (plF col l)) (k + 1) = rowG (encQ (plF col l)) k ++ [.int .i64 j, .int .i64 (col j).type, .bool (col j).null, .bool (l k).desc]) := by
        show _ = _
        rw [rowG]
        simp [encQ, plF, ptOf, hj.out]
      rw [hj.out] at x0
      obtain ⟨d, hd⟩ : ∃ x, Hid ((l k).desc = x) := ⟨_, rfl⟩
      obtain ⟨s0, hs0⟩ : ∃ x, Hid ((col j).name = x) := ⟨_, rfl⟩
      obtain ⟨t, ht⟩ : ∃ x, Hid ((col j).type = x) := ⟨_, rfl⟩
      obtain ⟨u, hu⟩ : ∃ x, Hid ((col j).null = x) := ⟨_, rfl⟩
      obtain ⟨R, hR⟩ : ∃ x, Hid (rowG (encQ (plF col l)) k = x) := ⟨_, rfl⟩
      rw [hd.out] at x1 HN
      rw [hs0.out] at y0
      rw [ht.out] at y1 HN
      rw [hu.out] at y2 HN
      rw [hR.out] at HN hO
      have hb3 : Below wr.heap.size wr (((wr.alloc (.cells #[.int .i64 j, .bool d] 67)).alloc (.cells #[.string s0, .int .i64 t, .bool u] 90)).alloc (.cells #[.int .i64 j, .int .i64 t, .bool u, .bool d] 50)) := (((Below.refl _ _).alloc (Nat.le_refl _) _).alloc (by simp) _).alloc (by simp; omega) _
      have hO3 := own_belowG hO hb3
      have HB3 : Hid (Below w.heap.size w (((wr.alloc (.cells #[.int .i64 j, .bool d] 67)).alloc (.cells #[.string s0, .int .i64 t, .bool u] 90)).alloc (.cells #[.int .i64 j, .int .i64 t, .bool u, .bool d] 50))) := hB.trans (hb3.mono hB.size)
      have hcl := cells_part11 ((wr.alloc (.cells #[.int .i64 j, .bool d] 67)).alloc (.cells #[.string s0, .int .i64 t, .bool u] 90)) j t u d
      simp only [alloc_size9] at hcl
      have HOW := own_ge9 hO
      have hsz := hB.size
      clear hC hP hin hc1 hc2 hb3 hO
      go_wp2_with (at_builtin; refine wpList_append_own _ rfl (.tmp 21) (.tmp 31) 30 rfl w.heap.size 50 i0 (.agg #[.int .i64 0, .int .i64 0, .bool false, .bool false]) 4 24 Tryz.underlying30 hi hz0 hz1 hz2 rfl (by decide) _ _ _ rfl hO3 ⟨wr.heap.size + 1 + 1, 0, none⟩ 1 1 [.int .i64 j, .int .i64 t, .bool u, .bool d] rfl rfl hcl (one_part11 _ _ _ _) (by unfold maxLen; omega) (by omega) (by simp; omega) ?_)
      intro v5 w4 hown5 hgr hnil
      obtain ⟨g', cap', rfl⟩ := own_succ9 hown5
      have HR : Hid (w4.ownsRow w.heap.size 50 4 (.slice (some ⟨g', 0, none⟩) (k + 1) cap') (k + 1) (rowG (encQ (plF col l)) (k + 1)) ∧ Below w.heap.size w w4) := by
        refine ⟨?_, ?_⟩
        · rw [HN.out]; exact hown5
        · exact HB3.out.grown hgr (by simp; omega) HOW
      clear hown5 hgr hnil hO3 hcl HOW HB3
      go_wp2
      go_roundg (n - (k + 1))
      case measure => omega
      case rel => exact ⟨k + 1, by omega, rfl, by go_num, _, _, rfl, HR.out.1, HR.out.2⟩
    · have hkz : ¬ (k : Int) < (n : Int) := by omega
      obtain rfl : k = n := by omega
      have HR : Hid (wr.ownsRow w.heap.size 50 4 (.slice (some ⟨sa, 0, none⟩) k sc) k (rowG (encQ (plF col l)) k) ∧ Below w.heap.size w wr) := ⟨hO, hB⟩
      clear hC hP hin hO hB
      go_wp2
      go_ret
      exact ⟨_, _, rfl, HR.out.1, HR.out.2⟩
end Go.Proofs.YtkakkjnbhklfpaaGreatDoor

/-
  The program's three plans come to the plain ones.
-/
namespace Go.Proofs.YtkakkjnbhklfpaaGreatDoor
open Go.RowKit
set_option maxRecDepth 4000

/-- What a table's check comes to, in every world above. -/
abbrev ChkI (w : World) : Prop := ∀ (W : World) (v : Value) (D : PDef), Below w.heap.size w W → DView W v D → DFine D → Calls Tryz.prog 31 #[v] W fun e w' => e = .returned (.int .i64 (checkF D)) ∧ Below W.heap.size W w'

set_option maxHeartbeats 4000000 in
theorem implPrimary_any (v : Value) (D : PDef) (w : World) (h : DView w v D) (hf : DFine D) (hI : ChkI w) :
    Calls Tryz.prog 9 #[v] w (PlanTo w (priN D) (plF D.col D.pri)) := by
  have hv := h
  obtain ⟨ac, cc, ap, cp, ai, ci, rfl, hc, hp, -⟩ := h.is
  clear h
  have hB0 := box4_start w (.cells #[.string D.name, .slice ac D.nc cc, .slice ap D.np cp, .slice ai D.ni ci] 36)
  obtain ⟨hBw0, -⟩ := box4_below hB0
  have hC := hI _ _ D hBw0 (hv.below hBw0) hf
  have HPN : Hid (∀ r, checkF D = r → priN D = if r = 0 then D.np else 0) := fun r e => by rw [← e]; rfl
  have HIN : Hid (checkF D = 0 → ∀ i, i < D.np → 0 ≤ (D.pri i).col ∧ (D.pri i).col < D.nc) := fun e i hi => partsF_in (good_pri e) hi
  have hnc := hf.nc
  have hnp := hf.np
  obtain ⟨r, hr⟩ : ∃ r, Hid (checkF D = r) := ⟨_, rfl⟩
  rw [hr.out] at hC
  clear hI hv hf hBw0
  go_enter Tryz.func9, Tryz.ntmps9
  go_wp2_with fail
  refine hC.mono ?_
  rintro e w1 ⟨rfl, hb1⟩
  have hB1 := box4_on hB0 hb1
  obtain ⟨hBw1, hs1⟩ := box4_below hB1
  obtain ⟨x0, x1, x2, x3⟩ := box4 hB1
  clear hC hb1 hB0
  by_cases hz : r = 0
  · subst hz
    have hP := partsBy_any ac D.nc cc D.col ap D.np cp D.pri w1 (hc.below hBw1) (hp.below hBw1) hnc hnp (HIN.out hr.out)
    have HBw : Hid (Below w.heap.size w w1) := hBw1
    clear hc hp hB1 hBw1 HIN
    go_wp2_with fail
    refine hP.mono ?_
    rintro e w2 ⟨g, c, rfl, hO, hb2⟩
    have HR : Hid (PlanTo w (priN D) (plF D.col D.pri) (.returned (.slice (some ⟨g, 0, none⟩) D.np c)) w2) := by
      show PlanTo _ _ _ _ _
      rw [HPN.out 0 hr.out, if_pos rfl]
      exact PlanTo.low ⟨g, c, rfl, hO, hb2⟩ HBw.out
    clear hP hO hb2
    go_wp2
    go_ret
    exact HR.out
  · have hq : (r != 0) = true := by simpa using hz
    have HR : Hid (PlanTo w (priN D) (plF D.col D.pri) (.returned (.slice (some ⟨w1.heap.size, 0, none⟩) 0 0)) (w1.alloc (.cells #[] 50))) := by
      show PlanTo _ _ _ _ _
      rw [HPN.out r hr.out, if_neg hz]
      exact (PlanTo.nil w1 _).low hBw1
    clear hc hp hB1 hBw1 HIN
    go_wp2
    go_ret
    exact HR.out

set_option maxHeartbeats 4000000 in
theorem implRowPlan_any (v : Value) (D : PDef) (w : World) (h : DView w v D) (hf : DFine D) (hI : ChkI w) :
    Calls Tryz.prog 20 #[v] w (PlanTo w (rowN D) (plF D.col allL)) := by
  obtain ⟨i0, hi, hz0, hz1, hz2⟩ := infoBy11
  have hv := h
  obtain ⟨ac, cc, ap, cp, ai, ci, rfl, hc, hp, -⟩ := h.is
  clear h
  have hB0 := box4_start w (.cells #[.string D.name, .slice ac D.nc cc, .slice ap D.np cp, .slice ai D.ni ci] 36)
  obtain ⟨hBw0, -⟩ := box4_below hB0
  have hC := hI _ _ D hBw0 (hv.below hBw0) hf
  have HPN : Hid (∀ r, checkF D = r → rowN D = if r = 0 then D.nc else 0) := fun r e => by rw [← e]; rfl
  have hnc := hf.nc
  obtain ⟨r, hr⟩ : ∃ r, Hid (checkF D = r) := ⟨_, rfl⟩
  rw [hr.out] at hC
  clear hI hv hf hBw0 hp
  go_enter Tryz.func20, Tryz.ntmps20
  go_wp2_with fail
  refine hC.mono ?_
  rintro e w1 ⟨rfl, hb1⟩
  have hB1 := box4_on hB0 hb1
  obtain ⟨hBw1, hs1⟩ := box4_below hB1
  obtain ⟨x0, x1, x2, x3⟩ := box4 hB1
  clear hC hb1 hB0
  by_cases hz : r = 0
  · subst hz
    have HBw : Hid (Below w.heap.size w w1) := hBw1
    have hO0 : (w1.alloc (.cells #[] 67)).ownsRow w1.heap.size 67 2 (.slice (some ⟨w1.heap.size, 0, none⟩) 0 0) 0 (rowG (encB allL) 0) := by
      have := World.ownsRow_lit (base := w1.heap.size) (e := 67) (size := 2) w1 #[] 0 (Nat.le_refl _) (Nat.zero_le _) rfl
      simpa [rowG] using this
    have hbE : Below w1.heap.size w1 (w1.alloc (.cells #[] 67)) := (Below.refl _ _).alloc (Nat.le_refl _) _
    have hB2 := box4_on hB1 hbE
    obtain ⟨-, z1, -, -⟩ := box4 hB2
    clear hB2
    have HC : Hid (CView w ac D.nc cc D.col) := hc
    clear hc hBw1
    obtain ⟨N, hN⟩ : ∃ x, Hid (D.nc = x) := ⟨_, rfl⟩
    rw [hN.out] at hnc z1 x1
    have HB1 : Hid (Below (w.heap.size + 1) (w.alloc (.cells #[.string D.name, .slice ac N cc, .slice ap D.np cp, .slice ai D.ni ci] 36)) w1) := by
      show Below _ _ _
      rw [← hN.out]; exact hB1
    clear hB1
    go_wp2
    go_loopg [13, 3] N (fun q i s wr => ∃ k : Nat, k ≤ N ∧ q = N - k ∧ i = .int .i64 k ∧ ∃ g c, s = .slice (some ⟨g, 0, none⟩) k c ∧ wr.ownsRow w1.heap.size 67 2 (.slice (some ⟨g, 0, none⟩) k c) k (rowG (encB allL) k) ∧ Below w1.heap.size w1 wr)
    case atStart => exact ⟨0, Nat.zero_le _, rfl, rfl, _, _, rfl, hO0, hbE⟩
    case round =>
      clear hO0 hbE
      obtain ⟨k, hk, rfl, rfl, sa, sc, rfl, hO, hB⟩ := hrel
      by_cases hlt : k < N
      · have hkz : (k : Int) < (N : Int) := by omega
        have HN : Hid (rowG (encB allL) (k + 1) = rowG (encB allL) k ++ [.int .i64 k, .bool false]) := rfl
        obtain ⟨R, hR⟩ : ∃ x, Hid (rowG (encB allL) k = x) := ⟨_, rfl⟩
        rw [hR.out] at HN hO
        have hb3 : Below wr.heap.size wr (wr.alloc (.cells #[.int .i64 k, .bool false] 67)) := (Below.refl _ _).alloc (Nat.le_refl _) _
        have hO3 := own_belowG hO hb3
        have HB3 : Hid (Below w1.heap.size w1 (wr.alloc (.cells #[.int .i64 k, .bool false] 67))) := hB.trans (hb3.mono hB.size)
        have hcl := cells_by9 wr k false
        have HOW := own_ge9 hO
        have hsz := hB.size
        clear hb3 hO hB z1
        go_wp2_with (at_builtin; refine wpList_append_own _ rfl (.tmp 16) (.tmp 19) 33 rfl w1.heap.size 67 i0 (.agg #[.int .i64 0, .bool false]) 2 16 Tryz.underlying33 hi hz0 hz1 hz2 rfl (by decide) _ _ _ rfl hO3 ⟨wr.heap.size, 0, none⟩ 1 1 [.int .i64 k, .bool false] rfl rfl hcl (one_by9 _ _) (by unfold maxLen; omega) (by omega) (by simp; omega) ?_)
        intro v5 w4 hown5 hgr hnil
        obtain ⟨g', cap', rfl⟩ := own_succ9 hown5
        have HR : Hid (w4.ownsRow w1.heap.size 67 2 (.slice (some ⟨g', 0, none⟩) (k + 1) cap') (k + 1) (rowG (encB allL) (k + 1)) ∧ Below w1.heap.size w1 w4) := by
          refine ⟨?_, ?_⟩
          · rw [HN.out]; exact hown5
          · exact HB3.out.grown hgr (by simp; omega) HOW
        clear hown5 hgr hnil hO3 hcl HOW HB3
        go_wp2
        go_roundg (N - (k + 1))
        case measure => omega
        case rel => exact ⟨k + 1, by omega, rfl, by go_num, _, _, rfl, HR.out.1, HR.out.2⟩
      · have hkz : ¬ (k : Int) < (N : Int) := by omega
        obtain rfl : k = N := by omega
        have hB3 := box4_on HB1.out hB
        obtain ⟨-, y1, -, -⟩ := box4 hB3
        have hbw : Below w.heap.size w wr := HBw.out.trans (hB.mono HBw.out.size)
        obtain ⟨a', k', ea, hbv, -⟩ := bview_of_own hO
        cases ea
        have hP := partsBy_any ac k cc D.col (some ⟨sa, 0, none⟩) k sc allL wr (by have := HC.out.below hbw; rw [hN.out] at this; exact this) hbv hnc hnc (fun i hi => by show (0 : Int) ≤ (i : Int) ∧ (i : Int) < (k : Int); omega)
        have HBr : Hid (Below w.heap.size w wr) := hbw
        clear hO hB hB3 hbw hbv z1 HB1
        go_wp2_with fail
        refine hP.mono ?_
        rintro e w2 ⟨g, c, rfl, hO, hb2⟩
        have HR : Hid (PlanTo w (rowN D) (plF D.col allL) (.returned (.slice (some ⟨g, 0, none⟩) k c)) w2) := by
          show PlanTo _ _ _ _ _
          rw [HPN.out 0 hr.out, if_pos rfl, hN.out]
          exact PlanTo.low ⟨g, c, rfl, hO, hb2⟩ HBr.out
        clear hP hO hb2
        go_wp2
        go_ret
        exact HR.out
  · have hq : (r != 0) = true := by simpa using hz
    have HR : Hid (PlanTo w (rowN D) (plF D.col allL) (.returned (.slice (some ⟨w1.heap.size, 0, none⟩) 0 0)) (w1.alloc (.cells #[] 50))) := by
      show PlanTo _ _ _ _ _
      rw [HPN.out r hr.out, if_neg hz]
      exact (PlanTo.nil w1 _).low hBw1
    clear hc hB1 hBw1
    go_wp2
    go_ret
    exact HR.out
end Go.Proofs.YtkakkjnbhklfpaaGreatDoor

/-
  The program's plan of an index comes to the plain one.
-/
namespace Go.Proofs.YtkakkjnbhklfpaaGreatDoor
open Go.RowKit
set_option maxRecDepth 4000

set_option maxHeartbeats 4000000 in
theorem implIndex_any (v : Value) (D : PDef) (i : Int) (w : World) (h : DView w v D) (hf : DFine D) (hI : ChkI w) :
    Calls Tryz.prog 10 #[v, .int .i64 i] w (PlanTo w (idxN D i) (plF D.col (ixpL D i))) := by
  have hv := h
  obtain ⟨ac, cc, ap, cp, ai, ci, rfl, hc, hp, hx⟩ := h.is
  clear h
  have hB0 := box4_start w (.cells #[.string D.name, .slice ac D.nc cc, .slice ap D.np cp, .slice ai D.ni ci] 36)
  obtain ⟨hBw0, -⟩ := box4_below hB0
  have hC := hI _ _ D hBw0 (hv.below hBw0) hf
  have hnc := hf.nc
  have hnp := hf.np
  have hni := hf.ni
  have HF : Hid (DFine D) := hf
  obtain ⟨r, hr⟩ : ∃ r, Hid (checkF D = r) := ⟨_, rfl⟩
  rw [hr.out] at hC
  clear hI hv hf hBw0
  go_enter Tryz.func10, Tryz.ntmps10
  go_wp2_with fail
  refine hC.mono ?_
  rintro e w1 ⟨rfl, hb1⟩
  have hB1 := box4_on hB0 hb1
  obtain ⟨hBw1, hs1⟩ := box4_below hB1
  obtain ⟨x0, x1, x2, x3⟩ := box4 hB1
  clear hC hb1 hB0
  by_cases hyes : r = 0 ∧ 0 ≤ i ∧ i < D.ni
  · obtain ⟨rfl, hi0, hi1⟩ := hyes
    obtain ⟨j, rfl⟩ : ∃ j : Nat, i = j := ⟨i.toNat, by omega⟩
    have hjn : j < D.ni := by omega
    have hi0' : ¬ (j : Int) < 0 := by omega
    have hi1' : ¬ (j : Int) ≥ (D.ni : Int) := by omega
    have hG := good_idx hr.out hjn
    have hGp := good_pri hr.out
    obtain ⟨bi, oi, rfl, hbi, hci⟩ := (hx.below hBw1).cells (by omega)
    obtain ⟨-, -, a2, c2, y2, hv2⟩ := hci j hjn
    have h2 := partsF_two hG
    have h2p := partsF_two hGp
    obtain ⟨b2, o2, rfl, hb2, -⟩ := hv2.cells (by omega)
    have hp1 := hp.below hBw1
    obtain ⟨bp, op, rfl, hbp, -⟩ := hp1.cells (by omega)
    have HPN : Hid (idxN D j = (D.idx j).n + D.np) := by
      show _ = _
      unfold idxN
      rw [if_pos ⟨hr.out, hi0, hi1⟩]; simp
    have HPL : Hid (ixpL D j = catB (D.idx j).part (D.idx j).n D.pri) := by
      show _ = _
      unfold ixpL; simp
    have hCat := fun (B : Nat) (W : World) (hb : Below w1.heap.size w1 W) (z0 : W.cell? ⟨B, 0, none⟩ = some (.slice (some ⟨b2, o2, none⟩) (D.idx j).n c2)) (z1 : W.cell? ⟨B, 1, none⟩ = some (.slice (some ⟨bp, op, none⟩) D.np cp)) (hB : B < W.heap.size) => concatBy_any B b2 o2 (D.idx j).n c2 bp op D.np cp (D.idx j).part D.pri W z0 z1 hB (hv2.below hb) (hp1.below hb) (by omega) (by omega) hnp
    have hPB := fun (g c : Nat) (W : World) (hb : Below w1.heap.size w1 W) (hq : BView W (some ⟨g, 0, none⟩) ((D.idx j).n + D.np) c (catB (D.idx j).part (D.idx j).n D.pri)) => partsBy_any ac D.nc cc D.col (some ⟨g, 0, none⟩) ((D.idx j).n + D.np) c (catB (D.idx j).part (D.idx j).n D.pri) W ((hc.below hBw1).below hb) hq hnc (by omega) (cat_in (fun i hi => partsF_in hG hi) (fun i hi => partsF_in hGp hi))
    obtain ⟨N2, hN2⟩ : ∃ x, Hid ((D.idx j).n = x) := ⟨_, rfl⟩
    obtain ⟨NP, hNP⟩ : ∃ x, Hid (D.np = x) := ⟨_, rfl⟩
    simp only [hN2.out, hNP.out] at hCat hPB y2 x2
    have HBw : Hid (Below w.heap.size w w1) := hBw1
    clear hc hp hp1 hx hB1 hBw1 hG hGp hv2 hci
    have hjn' : (j : Int) < (D.ni : Int) := by omega
    obtain ⟨X, hX⟩ : ∃ X, Hid (w1.heap.size = X) := ⟨_, rfl⟩
    have HWK : Hid (∀ W, Below w1.heap.size w1 W → W.cell? ⟨w.heap.size, 1, none⟩ = some (.slice ac D.nc cc) ∧ W.cell? ⟨w.heap.size, 2, none⟩ = some (.slice (some ⟨bp, op, none⟩) NP cp) ∧ W.cell? ⟨w.heap.size, 3, none⟩ = some (.slice (some ⟨bi, oi, none⟩) D.ni ci) ∧ W.cell? ⟨bi, oi + j * 3 + 2, none⟩ = some (.slice (some ⟨b2, o2, none⟩) N2 c2)) := by
      intro W hb
      refine ⟨?_, ?_, ?_, ?_⟩
      · rw [hb.cell (by exact hs1)]; assumption
      · rw [hb.cell (by exact hs1)]; assumption
      · rw [hb.cell (by exact hs1)]; assumption
      · rw [hb.cell (by exact hbi)]; assumption
    go_wp2_with fail
    go_region_held3 (fun WW => WW.cell? ⟨w.heap.size, 1, none⟩ = some (.slice ac D.nc cc) ∧ WW.cell? ⟨w.heap.size, 2, none⟩ = some (.slice (some ⟨bp, op, none⟩) NP cp) ∧ WW.cell? ⟨w.heap.size, 3, none⟩ = some (.slice (some ⟨bi, oi, none⟩) D.ni ci) ∧ WW.cell? ⟨bi, oi + j * 3 + 2, none⟩ = some (.slice (some ⟨b2, o2, none⟩) N2 c2)) (first | assumption | go_keep) (first
      | (go_at_call 33; refine (hCat _ _ (by repeat (first | exact Below.refl _ _ | refine Below.drew ?_ | refine Below.alloc ?_ (by simp) _)) (by simp [go_sem]) (by simp [go_sem]) (by simp)).mono ?_; rintro e w5 ⟨g5, c5, rfl, hO5, hB5⟩; have hb5 : Below w1.heap.size w1 w5 := Below.trans (by repeat (first | exact Below.refl _ _ | refine Below.drew ?_ | refine Below.alloc ?_ (by simp) _)) (hB5.mono (by simp)); obtain ⟨q5, k5, hq5, hv5, -⟩ := bview_of_own hO5; cases hq5; have hcells := HWK.out _ hb5)
      | (go_at_call 32; refine (hPB g5 c5 _ (by repeat (first | exact hb5 | refine Below.drew ?_)) (by first | exact hv5 | exact hv5.below (Below.refl _ _).drew)).mono ?_; rintro e w6 ⟨g6, c6, rfl, hO6, hB6⟩; have hb6 : Below w1.heap.size w1 w6 := Below.trans hb5 (Below.trans (by repeat (first | exact Below.refl _ _ | refine Below.drew ?_)) (hB6.mono (by have := hb5.size; exact this))); have hcells6 := HWK.out _ hb6))
    all_goals
      have HR : Hid (PlanTo w (idxN D j) (plF D.col (ixpL D j)) (.returned (.slice (some ⟨g6, 0, none⟩) (N2 + NP) c6)) w6) := by
        show PlanTo _ _ _ _ _
        rw [HPN.out, HPL.out]
        simp only [hN2.out, hNP.out] at hO6 ⊢
        exact PlanTo.low ⟨g6, c6, rfl, own_low hO6 (by have := hb5.size; simpa using this), hb6⟩ HBw.out
      clear hb5 hb6 hB5 hB6 hO5 hO6 hv5 hcells hcells6 hCat hPB HWK
      go_wp2
      go_ret
      exact HR.out
  · have HR : Hid (PlanTo w (idxN D i) (plF D.col (ixpL D i)) (.returned (.slice (some ⟨w1.heap.size, 0, none⟩) 0 0)) (w1.alloc (.cells #[] 50))) := by
      show PlanTo _ _ _ _ _
      have : idxN D i = 0 := by
        unfold idxN
        rw [if_neg (by rw [hr.out]; exact hyes)]
      rw [this]
      exact (PlanTo.nil w1 _).low hBw1
    clear hc hp hx hB1 hBw1
    by_cases hz : r = 0
    · subst hz
      by_cases hi0 : i < 0
      · go_wp2
        go_ret
        exact HR.out
      · have hi1 : i ≥ (D.ni : Int) := by
          by_cases h : i < (D.ni : Int)
          · exact absurd ⟨rfl, by omega, h⟩ hyes
          · omega
        go_wp2
        go_ret
        exact HR.out
    · have hq : (r != 0) = true := by simpa using hz
      go_wp2
      go_ret
      exact HR.out
end Go.Proofs.YtkakkjnbhklfpaaGreatDoor

/-
  Rows of tables that read, and how that is carried.
-/
namespace Go.Proofs.YtkakkjnbhklfpaaGreatDoor
open Go.RowKit
set_option maxRecDepth 4000

/-- The slice value '.slice ao n cap' reads as n tables. -/
structure LView (w : World) (ao : Option Addr) (n cap : Nat) (f : Nat → PDef) : Prop where
  le : n ≤ cap
  cells : 0 < n → ∃ b off, ao = some ⟨b, off, none⟩ ∧ b < w.heap.size ∧ ∀ i, i < n → ∃ x1 x2 x3, w.cell? ⟨b, off + i * 4, none⟩ = some (.string (f i).name) ∧ w.cell? ⟨b, off + i * 4 + 1, none⟩ = some x1 ∧ w.cell? ⟨b, off + i * 4 + 2, none⟩ = some x2 ∧ w.cell? ⟨b, off + i * 4 + 3, none⟩ = some x3 ∧ DView w (.agg #[.string (f i).name, x1, x2, x3]) (f i)
theorem LView.below {w w' : World} {ao : Option Addr} {n cap : Nat} {f : Nat → PDef} (h : LView w ao n cap f) (hb : Below w.heap.size w w') : LView w' ao n cap f := by
  refine ⟨h.le, fun hn => ?_⟩
  obtain ⟨b, off, e, hlt, hc⟩ := h.cells hn
  refine ⟨b, off, e, Nat.lt_of_lt_of_le hlt hb.size, fun i hi => ?_⟩
  rw [hb.cell (p := ⟨b, off + i * 4, none⟩) hlt, hb.cell (p := ⟨b, off + i * 4 + 1, none⟩) hlt, hb.cell (p := ⟨b, off + i * 4 + 2, none⟩) hlt, hb.cell (p := ⟨b, off + i * 4 + 3, none⟩) hlt]
  obtain ⟨x1, x2, x3, h0, h1, h2, h3, hv⟩ := hc i hi
  exact ⟨x1, x2, x3, h0, h1, h2, h3, hv.below hb⟩
theorem LView.empty (w : World) (ao : Option Addr) (cap : Nat) (f : Nat → PDef) : LView w ao 0 cap f := ⟨Nat.zero_le _, fun h => absurd h (Nat.lt_irrefl _)⟩
/-- Nothing of the tables is great. -/
structure LFine (n : Nat) (f : Nat → PDef) : Prop where
  few : n ≤ 1048576
  at_ : ∀ i, i < n → DFine (f i)
/-- The parts of a table's value. -/
theorem DView.parts {w : World} {s : ByteArray} {x1 x2 x3 : Value} {D : PDef} (h : DView w (.agg #[.string s, x1, x2, x3]) D) : ∃ ac cc ap cp ai ci, s = D.name ∧ x1 = .slice ac D.nc cc ∧ x2 = .slice ap D.np cp ∧ x3 = .slice ai D.ni ci ∧ CView w ac D.nc cc D.col ∧ BView w ap D.np cp D.pri ∧ IView w ai D.ni ci D.idx := by
  obtain ⟨ac, cc, ap, cp, ai, ci, e, h1, h2, h3⟩ := h.is
  simp only [Value.agg.injEq, Array.mk.injEq, List.cons.injEq, Value.string.injEq, and_true] at e
  obtain ⟨rfl, rfl, rfl, rfl⟩ := e
  exact ⟨ac, cc, ap, cp, ai, ci, rfl, rfl, rfl, rfl, h1, h2, h3⟩
end Go.Proofs.YtkakkjnbhklfpaaGreatDoor

/-
  The program's FirstBad comes to the plain one.
-/
namespace Go.Proofs.YtkakkjnbhklfpaaGreatDoor
open Go.RowKit
set_option maxRecDepth 4000

set_option maxHeartbeats 2000000 in
theorem indexStr9 (a : Option Addr) (n cap : Nat) (f : Nat → ByteArray) (x : ByteArray) (w : World) (h : SView w a n cap f) (hn : n ≤ 1048576) :
    Calls Tryz.prog 136 #[.slice a n cap, .string x] w fun e w' => ∃ r : Int, e = .returned (.int .i64 r) ∧ Hid (0 ≤ r ↔ ∃ i, i < n ∧ f i = x) ∧ w' = w := by
  go_enter Tryz.func136, Tryz.ntmps136
  go_wp2
  go_loopg [8] n (fun q i wr => ∃ k : Nat, k ≤ n ∧ q = n - k ∧ i = .int .i64 k ∧ wr = w ∧ Hid (∀ i, i < k → f i ≠ x))
  case atStart => exact ⟨0, Nat.zero_le _, rfl, rfl, rfl, fun i hi => absurd hi (Nat.not_lt_zero _)⟩
  case round =>
    obtain ⟨k, hk, rfl, rfl, rfl, HA⟩ := hrel
    by_cases hlt : k < n
    · have hkz : (k : Int) < (n : Int) := by omega
      obtain ⟨b1, o1, rfl, hb1, hc1⟩ := h.cells (by omega)
      have x0 := hc1 k hlt
      obtain ⟨s0, hs0⟩ : ∃ y, Hid (f k = y) := ⟨_, rfl⟩
      rw [hs0.out] at x0
      clear h hc1
      by_cases he : x = s0
      · have hq := bytes_eq he
        go_wp2
        go_ret
        exact ⟨k, rfl, ⟨fun _ => ⟨k, hlt, hs0.out.trans he.symm⟩, fun _ => by omega⟩, rfl⟩
      · have hq := bytes_ne he
        go_wp2
        go_roundg (n - (k + 1))
        case measure => omega
        case rel => exact ⟨k + 1, by omega, rfl, by go_num, rfl, fun i hi => by
          by_cases e : i < k
          · exact HA.out i e
          · obtain rfl : i = k := by omega
            rw [hs0.out]; exact fun e => he e.symm⟩
    · have hkz : ¬ (k : Int) < (n : Int) := by omega
      clear h
      go_wp2
      go_ret
      exact ⟨-1, rfl, ⟨fun h => by omega, fun ⟨i, hi, e⟩ => absurd e (HA.out i (by omega))⟩, rfl⟩
set_option maxHeartbeats 1000000 in
theorem containsStr9 (a : Option Addr) (n cap : Nat) (f : Nat → ByteArray) (x : ByteArray) (w : World) (h : SView w a n cap f) (hn : n ≤ 1048576) :
    Calls Tryz.prog 103 #[.slice a n cap, .string x] w fun e w' => e = .returned (.bool (decide (∃ i, i < n ∧ f i = x))) ∧ w' = w := by
  have hI := indexStr9 a n cap f x w h hn
  clear h
  go_enter Tryz.func103, Tryz.ntmps103
  go_wp2_with fail
  refine hI.mono ?_
  rintro e w' ⟨r, rfl, HR, rfl⟩
  clear hI
  have HD : Hid (decide (∃ i, i < n ∧ f i = x) = decide (0 ≤ r)) := by show _ = _; rw [decide_eq_decide]; exact HR.out.symm
  go_wp2
  go_ret
  exact ⟨by rw [HD.out]; rfl, rfl⟩

set_option maxHeartbeats 4000000 in
theorem implFirst_any (a : Option Addr) (n cap : Nat) (f : Nat → PDef) (w : World) (h : LView w a n cap f) (hf : LFine n f)
    (hI : ∀ (W : World) (v : Value) (D : PDef), Below w.heap.size w W → DView W v D → DFine D → Calls Tryz.prog 31 #[v] W fun e w' => e = .returned (.int .i64 (checkF D)) ∧ Below W.heap.size W w') :
    Calls Tryz.prog 63 #[.slice a n cap] w fun e w' => e = .returned (.int .i64 (firstF f n)) ∧ Below w.heap.size w w' := by
  obtain ⟨i0, hi, hz0, hz1, hz2⟩ := infoStr
  have hn := hf.few
  have hbE : Below w.heap.size w (w.alloc (.cells #[] 9)) := (Below.refl _ _).alloc (Nat.le_refl _) _
  have hO0 : (w.alloc (.cells #[] 9)).ownsRow w.heap.size 9 1 (.slice (some ⟨w.heap.size, 0, none⟩) 0 0) 0 (rowG (encS (fun i => (f i).name)) 0) := by
    have := World.ownsRow_lit (base := w.heap.size) (e := 9) (size := 1) w #[] 0 (Nat.le_refl _) (Nat.zero_le _) rfl
    simpa [rowG] using this
  go_enter Tryz.func63, Tryz.ntmps63
  go_wp2
  go_loopg [9, 3] n (fun q i s wr => ∃ k : Nat, k ≤ n ∧ q = n - k ∧ i = .int .i64 k ∧ (∃ g c, s = .slice (some ⟨g, 0, none⟩) k c) ∧ wr.ownsRow w.heap.size 9 1 s k (rowG (encS (fun i => (f i).name)) k) ∧ Below w.heap.size w wr ∧ Hid (∀ i, i < k → badF f i = false))
  case atStart => exact ⟨0, Nat.zero_le _, rfl, rfl, ⟨_, _, rfl⟩, hO0, hbE, fun j hj => absurd hj (Nat.not_lt_zero _)⟩
  case round =>
    clear hO0 hbE
    obtain ⟨k, hk, rfl, rfl, ⟨sa, sc, rfl⟩, hO, hB, HA⟩ := hrel
    by_cases hlt : k < n
    · have hkz : (k : Int) < (n : Int) := by omega
      obtain ⟨b1, o1, rfl, hb1, hc1⟩ := (h.below hB).cells (by omega)
      obtain ⟨y1, y2, y3, x0, x1, x2, x3, hv⟩ := hc1 k hlt
      obtain ⟨ac, cc, ap, cp, ai, ci, -, rfl, rfl, rfl, -, -, -⟩ := hv.parts
      obtain ⟨n1, hn1⟩ : ∃ x, Hid ((f k).nc = x) := ⟨_, rfl⟩
      obtain ⟨n2, hn2⟩ : ∃ x, Hid ((f k).np = x) := ⟨_, rfl⟩
      obtain ⟨n3, hn3⟩ : ∃ x, Hid ((f k).ni = x) := ⟨_, rfl⟩
      simp only [hn1.out, hn2.out, hn3.out] at x1 x2 x3 hv
      obtain ⟨p0, hp0⟩ : ∃ x, Hid ((f k).name = x) := ⟨_, rfl⟩
      simp only [hp0.out] at x0 hv
      have hb2 : Below wr.heap.size wr (wr.alloc (.cells #[.string p0, .slice ac n1 cc, .slice ap n2 cp, .slice ai n3 ci] 36)) := (Below.refl _ _).alloc (Nat.le_refl _) _
      have HB2 : Hid (Below w.heap.size w (wr.alloc (.cells #[.string p0, .slice ac n1 cc, .slice ap n2 cp, .slice ai n3 ci] 36))) := hB.trans (hb2.mono hB.size)
      have hsz := hB.size
      by_cases hk3 : k < 3
      · have hk3' : ¬ (3 : Int) ≤ (k : Int) := by omega
        have hC := hI _ _ (f k) HB2.out (hv.below hb2) (hf.at_ k hlt)
        obtain ⟨c, hc⟩ : ∃ c, Hid (checkF (f k) = c) := ⟨_, rfl⟩
        simp only [hc.out] at hC
        have hbx := box4_start wr (.cells #[.string p0, .slice ac n1 cc, .slice ap n2 cp, .slice ai n3 ci] 36)
        clear hI hv hf h hc1
        go_wp2_with fail
        refine hC.mono ?_
        rintro e w2 ⟨rfl, hb3⟩
        have hbx2 := box4_on hbx hb3
        obtain ⟨hbw2, hs2⟩ := box4_below hbx2
        obtain ⟨z0, z1, z2, z3⟩ := box4 hbx2
        have HB3 : Hid (Below w.heap.size w w2) := HB2.out.trans (hb3.mono HB2.out.size)
        have hO2 := own_belowG hO hbw2
        clear hC hb3 hbx hbx2 HB2 hO x0 x1 x2 x3 z1 z2 z3 hb2
        by_cases hcz : c = 0
        · subst hcz
          obtain ⟨a', k', ea, hsv, -⟩ := sview_of_own hO2
          have hCt := containsStr9 (some ⟨sa, 0, none⟩) k sc (fun i => (f i).name) p0 w2 (by cases ea; exact hsv) (by omega)
          cases ea
          clear hsv
          by_cases hin : ∃ i, i < k ∧ (f i).name = p0
          · rw [decide_eq_true hin] at hCt
            have HF : Hid (firstF f n = k) := by
              obtain ⟨i, hi, e⟩ := hin
              exact firstF_hit hlt HA.out (badF_twice hi (by rw [e, hp0.out]))
            clear hin hO2
            go_wp2_with fail
            refine hCt.mono ?_
            rintro e w3 ⟨rfl, rfl⟩
            clear hCt
            go_wp2
            go_ret
            exact ⟨by rw [HF.out]; rfl, HB3.out⟩
          · rw [decide_eq_false hin] at hCt
            have HN2 : Hid (∀ i, i < k + 1 → badF f i = false) := fun i hi => by
              by_cases e : i < k
              · exact HA.out i e
              · obtain rfl : i = k := by omega
                exact badF_no hc.out (by omega) (fun j hj e => hin ⟨j, hj, by rw [e, hp0.out]⟩)
            have HN : Hid (rowG (encS (fun i => (f i).name)) (k + 1) = rowG (encS (fun i => (f i).name)) k ++ [.string p0]) := by show _ = _; rw [← hp0.out]; rfl
            obtain ⟨R, hR⟩ : ∃ x, Hid (rowG (encS (fun i => (f i).name)) k = x) := ⟨_, rfl⟩
            rw [hR.out] at HN hO2
            have hb4 : Below w2.heap.size w2 (w2.alloc (.cells #[.string p0] 9)) := (Below.refl _ _).alloc (Nat.le_refl _) _
            have HB4 : Hid (Below w.heap.size w (w2.alloc (.cells #[.string p0] 9))) := HB3.out.trans (hb4.mono HB3.out.size)
            have hO3 := own_belowG hO2 hb4
            have hcl : ∀ j u, [Value.string p0][j]? = some u → (w2.alloc (.cells #[.string p0] 9)).cell? ((⟨w2.heap.size, 0, none⟩ : Addr).add j) = some u := by
              intro j u hj
              match j, hj with
              | 0, hj => simp at hj; subst hj; simp [Addr.add]
            have HOW := own_ge9 hO2
            have hsz2 := HB3.out.size
            clear hin hO2 hb4
            go_wp2_with fail
            refine hCt.mono ?_
            rintro e w3 ⟨rfl, rfl⟩
            clear hCt
            go_wp2_with (at_builtin; refine wpList_append_own _ rfl (.tmp 28) (.tmp 31) 116 rfl w.heap.size 9 i0 (.string ⟨#[]⟩) 1 16 Tryz.underlying116 hi hz0 hz1 hz2 rfl (by decide) _ _ _ rfl hO3 ⟨w3.heap.size, 0, none⟩ 1 1 [.string p0] rfl rfl hcl (by intro u hu; simp at hu; subst hu; rfl) (by unfold maxLen; omega) (by omega) (by simp; omega) ?_)
            intro v5 w4 hown5 hgr hnil
            obtain ⟨g', cap', rfl⟩ := own_succ9 hown5
            have HR : Hid (w4.ownsRow w.heap.size 9 1 (.slice (some ⟨g', 0, none⟩) (k + 1) cap') (k + 1) (rowG (encS (fun i => (f i).name)) (k + 1)) ∧ Below w.heap.size w w4) := by
              refine ⟨?_, ?_⟩
              · rw [HN.out]; exact hown5
              · exact HB4.out.grown hgr (by simp; omega) HOW
            clear hown5 hgr hnil hO3 hcl HOW
            go_wp2
            go_roundg (n - (k + 1))
            case measure => omega
            case rel => exact ⟨k + 1, by omega, rfl, by go_num, ⟨_, _, rfl⟩, HR.out.1, HR.out.2, HN2⟩
        · have hcz' : (c != 0) = true := by simpa using hcz
          clear hO2
          go_wp2
          go_ret
          exact ⟨by rw [firstF_hit hlt HA.out (badF_check (by rw [hc.out]; exact hcz))]; rfl, HB3.out⟩
      · have hk3' : (3 : Int) ≤ (k : Int) := by omega
        clear hI hv hf h hc1 hO
        go_wp2
        go_ret
        exact ⟨by rw [firstF_hit hlt HA.out (badF_late (by omega))]; rfl, HB2.out⟩
    · have hkz : ¬ (k : Int) < (n : Int) := by omega
      clear h hf hI hO
      go_wp2
      go_ret
      exact ⟨by rw [firstF_no (fun i hi => HA.out i (by omega))]; rfl, hB⟩
end Go.Proofs.YtkakkjnbhklfpaaGreatDoor

