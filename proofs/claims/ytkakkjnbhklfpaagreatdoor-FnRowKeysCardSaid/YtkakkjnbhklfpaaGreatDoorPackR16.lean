/-
  Together: SameB, Same, RowKeysRnd, TabKit9, RightPlain, Draw9TwoR
-/
import Derived.Test.YtkakkjnbhklfpaaGreatDoorPackR6
import Derived.Test.YtkakkjnbhklfpaaGreatDoorPackR1
import Derived.Test.YtkakkjnbhklfpaaGreatDoorPackR8
import Derived.Test.YtkakkjnbhklfpaaGreatDoorPackR15
import Derived.Test.YtkakkjnbhklfpaaGreatDoorPackR14
import Derived.Test.YtkakkjnbhklfpaaGreatDoorKeyLessImpl
import Derived.Test.YtkakkjnbhklfpaaGreatDoorPackR4
import Derived.Test.YtkakkjnbhklfpaaGreatDoorPackR3
import Derived.Test.YtkakkjnbhklfpaaGreatDoorPackR7
import Derived.Deep.RegionHeld3
/-
  What the law's own helpers sameBytes and begins come to, at every two slices of bytes that read.
-/
namespace Go.Proofs.YtkakkjnbhklfpaaGreatDoor
open Go.RowKit
set_option maxRecDepth 4000

set_option maxHeartbeats 1000000 in
theorem sameBytes_any (a1 a2 : Option Addr) (n m c1 c2 : Nat) (f g : Nat → Int) (w : World) (h1 : View w a1 n c1 f) (h2 : View w a2 m c2 g) (hn : n ≤ 281474976710656) (hm : m ≤ 281474976710656) :
    Calls Tryz.prog 16 #[.slice a1 n c1, .slice a2 m c2] w fun e w' => e = .returned (.bool (decide (lof n f = lof m g))) ∧ Below w.heap.size w w' := by
  by_cases hnm : n = m
  · subst hnm
    have q0 : ((n : Int) != (n : Int)) = false := by simp
    go_enter Tryz.func16, Tryz.ntmps16
    go_wp2
    go_loopg [5] n (fun q i wr => ∃ k : Nat, k ≤ n ∧ q = n - k ∧ i = .int .i64 k ∧ Below w.heap.size w wr ∧ ∀ j, j < k → f j = g j)
    case atStart => exact ⟨0, Nat.zero_le _, rfl, rfl, Below.refl _ _, fun j hj => absurd hj (Nat.not_lt_zero _)⟩
    case round =>
      obtain ⟨k, hk, rfl, rfl, hB, hE⟩ := hrel
      have HE : Hid (∀ j, j < k → f j = g j) := hE
      clear hE
      by_cases hlt : k < n
      · obtain ⟨b1, o1, rfl, hb1, hc1⟩ := h1.cells (by omega)
        obtain ⟨b2, o2, rfl, hb2, hc2⟩ := h2.cells (by omega)
        have hkz : (k : Int) < (n : Int) := by omega
        have e1 : wr.cell? ⟨b1, o1 + k, none⟩ = some (.int .u8 (f k)) := by rw [hB.cell (p := ⟨b1, o1 + k, none⟩) hb1]; exact hc1 k hlt
        have e2 : wr.cell? ⟨b2, o2 + k, none⟩ = some (.int .u8 (g k)) := by rw [hB.cell (p := ⟨b2, o2 + k, none⟩) hb2]; exact hc2 k hlt
        clear hc1 hc2
        by_cases he : f k = g k
        · have q1 : (f k != g k) = false := by simpa using he
          have HE2 : Hid (∀ j, j < k + 1 → f j = g j) := fun j hj => by
            by_cases e : j = k
            · subst e; exact he
            · exact HE.out j (by omega)
          clear he
          go_wp2
          go_region
          all_goals go_wp2
          all_goals
            go_roundg (n - (k + 1))
            case measure => omega
            case rel => exact ⟨k + 1, by omega, rfl, by go_num, by first | exact hB.drew | exact hB, HE2.out⟩
        · have q1 : (f k != g k) = true := by simpa using he
          have HD : Hid (decide (lof n f = lof n g) = false) := by
            show _ = _
            rw [decide_eq_false_iff_not, lof_eq]
            exact fun h => he (h k hlt)
          clear he
          go_wp2
          go_region
          all_goals go_wp2
          all_goals
            go_ret
            exact ⟨by rw [HD.out]; rfl, by first | exact hB.drew | exact hB⟩
      · obtain rfl : k = n := by omega
        have HD : Hid (decide (lof k f = lof k g) = true) := by
          show _ = _
          rw [decide_eq_true_iff, lof_eq]
          exact HE.out
        go_wp2
        go_ret
        exact ⟨by rw [HD.out]; rfl, hB⟩
  · have q0 : ((n : Int) != (m : Int)) = true := by simp; omega
    have HD : Hid (decide (lof n f = lof m g) = false) := by
      show _ = _
      rw [decide_eq_false_iff_not]
      intro h
      have := congrArg List.length h
      rw [lof_len, lof_len] at this
      exact hnm this
    go_enter Tryz.func16, Tryz.ntmps16
    go_wp2
    go_ret
    exact ⟨by rw [HD.out]; rfl, Below.refl _ _⟩
end Go.Proofs.YtkakkjnbhklfpaaGreatDoor

/-
  laws.begins.
-/
namespace Go.Proofs.YtkakkjnbhklfpaaGreatDoor
open Go.RowKit
set_option maxRecDepth 4000

set_option maxHeartbeats 1000000 in
theorem begins_any (b1 o1 n c1 : Nat) (a2 : Option Addr) (m c2 : Nat) (f g : Nat → Int) (w : World) (h1 : View w (some ⟨b1, o1, none⟩) n c1 f) (h2 : View w a2 m c2 g) (hm : m ≤ 281474976710656) :
    Calls Tryz.prog 13 #[.slice (some ⟨b1, o1, none⟩) n c1, .slice a2 m c2] w fun e w' => e = .returned (.bool (decide (m ≤ n ∧ lof m f = lof m g))) ∧ Below w.heap.size w w' := by
  have hc := h1.le
  by_cases hle : m ≤ n
  · have hz : (m : Int) ≤ (n : Int) := by omega
    have hzc : (m : Int) ≤ (c1 : Int) := by omega
    obtain ⟨x, hx⟩ : ∃ x, Hid (decide (lof m f = lof m g) = x) := ⟨_, rfl⟩
    have HD : Hid (decide (m ≤ n ∧ lof m f = lof m g) = x) := by show _ = _; rw [← hx.out]; simp [hle]
    rw [HD.out]
    go_enter Tryz.func13, Tryz.ntmps13
    go_wp2_with fail
    refine (sameBytes_any (some ⟨b1, o1, none⟩) a2 m m c1 c2 f g w (h1.take hle) h2 hm hm).mono ?_
    rw [hx.out]
    rintro e w1 ⟨rfl, hb⟩
    go_wp2
    go_ret
    exact ⟨rfl, hb⟩
  · have hz : (n : Int) < (m : Int) := by omega
    have HD : Hid (decide (m ≤ n ∧ lof m f = lof m g) = false) := by show _ = _; simp [hle]
    rw [HD.out]
    go_enter Tryz.func13, Tryz.ntmps13
    go_wp2
    go_ret
    exact ⟨rfl, Below.refl _ _⟩
end Go.Proofs.YtkakkjnbhklfpaaGreatDoor

/-
  What a round of the law FnRowKeys may take for granted.
-/
namespace Go.Proofs.YtkakkjnbhklfpaaGreatDoor
open Go.RowKit
set_option maxRecDepth 4000

theorem beginsR (X r : List Int) : X.length ≤ (X ++ r).length ∧ lof X.length (fun i => (X ++ r).getD i 0) = lof X.length (fun i => X.getD i 0) := by
  refine ⟨by simp, ?_⟩
  rw [lof_eq]
  intro i hi
  simp [List.getD, List.getElem?_append_left hi]
/-- Bytes, seen. -/
def KV (W : World) (g c : Nat) (X : List Int) : Prop := View W (some ⟨g, 0, none⟩) X.length c (fun q => X.getD q 0)
theorem KV.below {W W' : World} {g c : Nat} {X : List Int} (h : KV W g c X) (hb : Below W.heap.size W W') : KV W' g c X := View.below h hb
theorem kv_own {W : World} {base g c : Nat} {L : List Int} (h : W.ownsRow base 5 1 (.slice (some ⟨g, 0, none⟩) L.length c) L.length (bl L)) (hb : ∀ y ∈ L, 0 ≤ y ∧ y ≤ 255) : KV W g c L := by
  have hle : L.length ≤ c := by
    rcases h.2 with ⟨e, _⟩ | ⟨g', k', cur, e, _, _, hnc, _⟩
    · cases e
    · cases e; exact hnc
  exact (row_of_owned h).view hle (fun i hi => by
    have e : L.getD i 0 = L[i] := by simp [List.getD, List.getElem?_eq_getElem hi]
    show 0 ≤ L.getD i 0 ∧ L.getD i 0 ≤ 255
    rw [e]; exact hb _ (List.getElem_mem hi))
/-- The picks of a row, seen. -/
def PickV (W : World) (a : Option Addr) (N c : Nat) (P : Nat → PPart) (m : Nat) (fk fn : Nat → Int) (fs : Nat → ByteArray) : Prop := VView W a N c (pickK (fun i => (P i).col) m fk) (pickK (fun i => (P i).col) m fn) (pickS (fun i => (P i).col) m fs)
theorem PickV.below {W W' : World} {a : Option Addr} {N c : Nat} {P : Nat → PPart} {m : Nat} {fk fn : Nat → Int} {fs : Nat → ByteArray} (h : PickV W a N c P m fk fn fs) (hb : Below W.heap.size W W') : PickV W' a N c P m fk fn fs := VView.below h hb
theorem pickV_any (g c N : Nat) (P : Nat → PPart) (a2 : Option Addr) (m c2 : Nat) (fk fn : Nat → Int) (fs : Nat → ByteArray) (w : World) (hp : QView w (some ⟨g, 0, none⟩) N c P) (hq : VView w a2 m c2 fk fn fs) (hN : N ≤ 6) (hm : m ≤ 1048576) (hs : ∀ i, i < m → (fs i).size ≤ 2) :
    Calls Tryz.prog 8 #[.slice (some ⟨g, 0, none⟩) N c, .slice a2 m c2] w fun e w' => ∃ a' c', e = .returned (.slice a' N c') ∧ PickV w' a' N c' P m fk fn fs ∧ Below w.heap.size w w' :=
  (implPick_any _ N c _ _ _ _ a2 m c2 fk fn fs w hp hq (by omega) (by omega) (fun i hi => by have := hs i hi; omega)).mono (fun e w' ⟨v, he, _, hO, hb⟩ => by
    obtain ⟨a', c', rfl, hv, -⟩ := vview_of_own hO
    exact ⟨a', c', he, hv, hb⟩)
theorem short_size {D : PDef} {fk fn : Nat → Int} {fs : Nat → ByteArray} (h : ShortR D fk fn fs) : ∀ i, i < D.nc → (fs i).size ≤ 2 := by
  intro i hi
  rcases h i hi with ⟨-, -, e, -⟩ | ⟨-, e, -⟩
  · rw [e]; decide
  · exact e
theorem keyB_byteR (f : Nat → PDef) (n : Nat) (t i : Int) (m : Nat) (fk fn : Nat → Int) (fs : Nat → ByteArray) : ∀ y ∈ keyB f n t i m fk fn fs, 0 ≤ y ∧ y ≤ 255 := by
  unfold keyB
  split
  · rename_i h
    have hs := h.1.small
    intro y hy
    rw [List.mem_append] at hy
    rcases hy with hy | hy
    · simp only [List.mem_cons, List.not_mem_nil, or_false] at hy; omega
    · exact keyL_byte _ _ _ _ _ _ _ _ _ y hy
  · intro y hy; cases hy

/-- What a round may take for granted. -/
structure Rnd (w1 : World) (a : Option Addr) (n k j b1 b2 nc c1 c2 : Nat) (fk fn : Nat → Int) (fs : Nat → ByteArray) (gk gn : Nat → Int) (gs : Nat → ByteArray) (N : Nat) (P : Nat → PPart) (i : Int) (same : Bool) (X Y H : List Int) (z sb : Bool) : Prop where
  kx : ∀ W, Below w1.heap.size w1 W → Calls Tryz.prog 11 #[.slice a n k, .int .i64 j, .int .i64 i, .slice (some ⟨b1, 0, none⟩) nc c1] W fun e w' => ∃ g c, e = .returned (.slice (some ⟨g, 0, none⟩) X.length c) ∧ KV w' g c X ∧ Below W.heap.size W w'
  ky : ∀ W, Below w1.heap.size w1 W → Calls Tryz.prog 11 #[.slice a n k, .int .i64 j, .int .i64 i, .slice (some ⟨b2, 0, none⟩) nc c2] W fun e w' => ∃ g c, e = .returned (.slice (some ⟨g, 0, none⟩) Y.length c) ∧ KV w' g c Y ∧ Below W.heap.size W w'
  kh : ∀ W, Below w1.heap.size w1 W → Calls Tryz.prog 12 #[.slice a n k, .int .i64 j, .int .i64 i] W fun e w' => ∃ g c, e = .returned (.slice (some ⟨g, 0, none⟩) 2 c) ∧ KV w' g c H ∧ Below W.heap.size W w'
  bx : ∀ W g c g' c', KV W g c X → KV W g' c' H → Calls Tryz.prog 13 #[.slice (some ⟨g, 0, none⟩) X.length c, .slice (some ⟨g', 0, none⟩) 2 c'] W fun e w' => e = .returned (.bool true) ∧ Below W.heap.size W w'
  by_ : ∀ W g c g' c', KV W g c Y → KV W g' c' H → Calls Tryz.prog 13 #[.slice (some ⟨g, 0, none⟩) Y.length c, .slice (some ⟨g', 0, none⟩) 2 c'] W fun e w' => e = .returned (.bool true) ∧ Below W.heap.size W w'
  bf : ∀ W g c g' c', KV W g c X → KV W g' c' Y → Calls Tryz.prog 14 #[.slice (some ⟨g, 0, none⟩) X.length c, .slice (some ⟨g', 0, none⟩) Y.length c'] W fun e w' => e = .returned (.bool z) ∧ W = w'
  ls : ∀ W g c a1 d1 a2 d2, QView W (some ⟨g, 0, none⟩) N c P → PickV W a1 N d1 P nc fk fn fs → PickV W a2 N d2 P nc gk gn gs → Calls Tryz.prog 15 #[.slice (some ⟨g, 0, none⟩) N c, .slice a1 N d1, .slice a2 N d2] W fun e w' => e = .returned (.bool z) ∧ Below W.heap.size W w'
  sm : ∀ W g c g' c', KV W g c X → KV W g' c' Y → Calls Tryz.prog 16 #[.slice (some ⟨g, 0, none⟩) X.length c, .slice (some ⟨g', 0, none⟩) Y.length c'] W fun e w' => e = .returned (.bool sb) ∧ Below W.heap.size W w'
  pri : i = -1 → sb = same
  imp : sb = true → same = true

theorem rnd_any {w1 : World} {a : Option Addr} {n k j b1 b2 c1 c2 : Nat} {F : Nat → PDef} {fk fn : Nat → Int} {fs : Nat → ByteArray} {gk gn : Nat → Int} {gs : Nat → ByteArray} (hI : ChkI w1) (hL : LView w1 a n k F) (hf : LFine n F) (hF : firstF F n = -1) (hj : j < n) (h1 : VView w1 (some ⟨b1, 0, none⟩) (F j).nc c1 fk fn fs) (s1 : ShortR (F j) fk fn fs) (h2 : VView w1 (some ⟨b2, 0, none⟩) (F j).nc c2 gk gn gs) (s2 : ShortR (F j) gk gn gs) (i : Int) (i0 : -1 ≤ i) (i1 : i < (F j).ni) :
    ∃ X Y H z sb, Rnd w1 a n k j b1 b2 (F j).nc c1 c2 fk fn fs gk gn gs (planN (F j) i) (plF (F j).col (planL (F j) i)) i (sameQ (planN (F j) (-1)) (plF (F j).col (planL (F j) (-1))) (F j).nc fk fn fs gk gn gs) X Y H z sb := by
  have hD := (firstF_none hF).2.1 j hj
  have hnc := (good_nc hD).2.2
  obtain ⟨e1, eH⟩ := keyB_at hF hj i0 i1 s1
  obtain ⟨e2, -⟩ := keyB_at hF hj i0 i1 s2
  obtain ⟨k1, k2⟩ := keyB_two hF hj i0 i1 s1 s2
  have hT : There F n (j : Int) i := ⟨hF, by omega, by omega, i0, by simpa using i1⟩
  have hs := hT.small
  have l1 := keyB_len F n j i (F j).nc fk fn fs
  have l2 := keyB_len F n j i (F j).nc gk gn gs
  refine ⟨keyB F n (j : Int) i (F j).nc fk fn fs, keyB F n (j : Int) i (F j).nc gk gn gs, [(j : Int) + 1, i + 1], lessQ (planN (F j) i) (plF (F j).col (planL (F j) i)) (F j).nc fk fn fs gk gn gs, sameQ (planN (F j) i) (plF (F j).col (planL (F j) i)) (F j).nc fk fn fs gk gn gs, ?_⟩
  refine ⟨fun W hb => ?_, fun W hb => ?_, fun W hb => ?_, fun W g c g' c' hx hh => ?_, fun W g c g' c' hx hh => ?_, fun W g c g' c' hx hy => ?_, fun W g c a1 d1 a2 d2 hp hx hy => ?_, fun W g c g' c' hx hy => ?_, fun e => by rw [e], fun h => ?_⟩
  · exact (implKey_any a n k F j i _ _ c1 fk fn fs W (hL.below hb) hf (h1.below hb) (by omega) (fun q hq => by have := short_size s1 q hq; omega) (hI.below hb)).mono (fun e w' ⟨g, c, he, hO, hB⟩ => ⟨g, c, he, kv_own hO (keyB_byteR _ _ _ _ _ _ _ _), hB⟩)
  · exact (implKey_any a n k F j i _ _ c2 gk gn gs W (hL.below hb) hf (h2.below hb) (by omega) (fun q hq => by have := short_size s2 q hq; omega) (hI.below hb)).mono (fun e w' ⟨g, c, he, hO, hB⟩ => ⟨g, c, he, kv_own hO (keyB_byteR _ _ _ _ _ _ _ _), hB⟩)
  · have := implHead_any a n k F j i W (hL.below hb) hf (hI.below hb)
    rw [eH] at this
    refine this.mono (fun e w' ⟨g, c, he, hO, hB⟩ => ⟨g, c, he, kv_own hO ?_, hB⟩)
    intro y hy
    simp only [List.mem_cons, List.not_mem_nil, or_false] at hy; omega
  · have hq := begins_any g 0 _ c _ 2 c' _ _ W hx hh (by omega)
    have hb := beginsR [(j : Int) + 1, i + 1] (keyQ (planN (F j) i) (plF (F j).col (planL (F j) i)) (F j).nc fk fn fs)
    rw [← e1] at hb
    rw [decide_eq_true (show 2 ≤ _ ∧ lof 2 _ = lof 2 _ from hb)] at hq
    exact hq
  · have hq := begins_any g 0 _ c _ 2 c' _ _ W hx hh (by omega)
    have hb := beginsR [(j : Int) + 1, i + 1] (keyQ (planN (F j) i) (plF (F j).col (planL (F j) i)) (F j).nc gk gn gs)
    rw [← e2] at hb
    rw [decide_eq_true (show 2 ≤ _ ∧ lof 2 _ = lof 2 _ from hb)] at hq
    exact hq
  · have hq := before_impl g 0 _ c _ g' 0 _ c' _ W hx hy
    rw [lof_getD, lof_getD, k1] at hq
    exact hq
  · exact implLessKey_any _ _ c _ _ _ _ a1 _ d1 _ _ _ a2 _ d2 _ _ _ W hp hx hy (by have := planN_le (F j) i; omega) (by have := planN_le (F j) i; omega) (by have := planN_le (F j) i; omega)
  · have hq := sameBytes_any _ _ _ _ c c' _ _ W hx hy (by omega) (by omega)
    rw [lof_getD, lof_getD, k2] at hq
    exact hq
  · by_cases e : i = -1
    · rw [← e]; exact h
    · exact same_idx hD (by omega) i1 h
end Go.Proofs.YtkakkjnbhklfpaaGreatDoor

/-
  A table in rows of the call's own.
-/
namespace Go.Proofs.YtkakkjnbhklfpaaGreatDoor
open Go.RowKit
set_option maxRecDepth 4000

/-- Nothing of a table is great. -/
structure Sm (D : PDef) : Prop where
  name : D.name.size ≤ 1000
  nc : D.nc ≤ 1000
  col : ∀ i, i < D.nc → (D.col i).name.size ≤ 1000
  np : D.np ≤ 1000
  ni : D.ni ≤ 1000
  idx : ∀ i, i < D.ni → (D.idx i).name.size ≤ 1000 ∧ (D.idx i).n ≤ 1000
theorem Sm.fine {D : PDef} (h : Sm D) : DFine D := by
  have h1 := h.name; have h2 := h.nc; have h3 := h.np; have h4 := h.ni
  exact ⟨by omega, by omega, fun i hi => by have := h.col i hi; omega, by omega, by omega, fun i hi => by have := h.idx i hi; omega⟩

/-- A table whose rows are the call's own. -/
structure Tb (w : World) (vc vp vi : Value) (D : PDef) (A C : Nat → Nat) (W : World) : Prop where
  cols : W.ownsRow w.heap.size 90 3 vc D.nc (rowG (encC D.col) D.nc)
  pri : W.ownsRow w.heap.size 67 2 vp D.np (rowG (encB D.pri) D.np)
  idx : W.ownsRow w.heap.size 48 3 vi D.ni (rowG (encI D.idx A C) D.ni)
  pts : Pts w vp.ownBlock D.ni D.idx A C W
  sm : Sm D
theorem Tb.eff {w : World} {vc vp vi : Value} {D : PDef} {A C : Nat → Nat} {T : TypeId} {W W' : World} (h : Tb w vc vp vi D A C W) (e : Eff w T W W') (h1 : 90 ≠ T) (h2 : 67 ≠ T) (h3 : 48 ≠ T) : Tb w vc vp vi D A C W' :=
  ⟨own_eff h.cols e h1, own_eff h.pri e h2, own_eff h.idx e h3, h.pts.eff e h2, h.sm⟩
theorem Tb.but {w : World} {vc vp vi : Value} {D : PDef} {A C : Nat → Nat} {g : Nat} {W W' : World} (h : Tb w vc vp vi D A C W) (hb : But g W W') (hg : g < w.heap.size) : Tb w vc vp vi D A C W' :=
  ⟨own_but9 h.cols hb hg, own_but9 h.pri hb hg, own_but9 h.idx hb hg, h.pts.but hb hg, h.sm⟩
theorem Tb.below {w : World} {vc vp vi : Value} {D : PDef} {A C : Nat → Nat} {W W' : World} (h : Tb w vc vp vi D A C W) (hb : Below W.heap.size W W') : Tb w vc vp vi D A C W' :=
  h.eff (T := 36) (Eff.ofBelow hb) (by decide) (by decide) (by decide)
theorem Tb.view {w : World} {vc vp vi : Value} {D : PDef} {A C : Nat → Nat} {W : World} (h : Tb w vc vp vi D A C W) : DView W (.agg #[.string D.name, vc, vp, vi]) D := by
  obtain ⟨ac, cc, rfl, h1, -⟩ := cview_of_own h.cols
  obtain ⟨ap, cp, rfl, h2, -⟩ := bview_of_own h.pri
  obtain ⟨ai, ci, rfl, h3, -⟩ := iview_of_own h.idx (fun i hi => (h.pts.at_ i hi).view)
  exact ⟨ac, cc, ap, cp, ai, ci, rfl, h1, h2, h3⟩
theorem rowG_updC (f : Nat → PCol) (k : Nat) (x : PCol) : rowG (encC (upd f k x)) (k + 1) = rowG (encC f) k ++ [.string x.name, .int .i64 x.type, .bool x.null] := by
  rw [rowG, rowG_congr (enc' := encC f) (fun i hi => by simp [encC, upd_old hi])]
  simp [encC, upd_new]
theorem rowG_updI (f : Nat → PIdx) (A C : Nat → Nat) (k : Nat) (x : PIdx) (a c : Nat) : rowG (encI (upd f k x) (upd A k a) (upd C k c)) (k + 1) = rowG (encI f A C) k ++ [.string x.name, .bool x.uniq, .slice (some ⟨a, 0, none⟩) x.n c] := by
  rw [rowG, rowG_congr (enc' := encI f A C) (fun i hi => by simp [encI, upd_old hi])]
  simp [encI, upd_new]

/-- A column more. -/
theorem Tb.addCol {w : World} {vc vp vi : Value} {D : PDef} {A C : Nat → Nat} {W W' : World} (h : Tb w vc vp vi D A C W) (x : PCol) {v' : Value} (hO : W'.ownsRow w.heap.size 90 3 v' (D.nc + 1) (rowG (encC D.col) D.nc ++ [.string x.name, .int .i64 x.type, .bool x.null])) (e : Eff w 90 W W') (hx : x.name.size ≤ 1000) (hn : D.nc + 1 ≤ 1000) :
    Tb w v' vp vi { D with nc := D.nc + 1, col := upd D.col D.nc x } A C W' := by
  refine ⟨?_, own_eff h.pri e (by decide), own_eff h.idx e (by decide), h.pts.eff e (by decide), ⟨h.sm.name, hn, fun i hi => ?_, h.sm.np, h.sm.ni, h.sm.idx⟩⟩
  · show W'.ownsRow _ _ _ _ _ (rowG (encC (upd D.col D.nc x)) (D.nc + 1))
    rw [rowG_updC]; exact hO
  · show (upd D.col D.nc x i).name.size ≤ 1000
    by_cases e1 : i < D.nc
    · rw [upd_old e1]; exact h.sm.col i e1
    · obtain rfl : i = D.nc := by have : i < D.nc + 1 := hi
                                  omega
      rw [upd_new]; exact hx
/-- Another key. -/
theorem Tb.setPri {w : World} {vc vp vi : Value} {D : PDef} {A C : Nat → Nat} {W W' : World} (h : Tb w vc vp vi D A C W) (np : Nat) (pri : Nat → PBy) {v' : Value} (hO : W'.ownsRow w.heap.size 67 2 v' np (rowG (encB pri) np)) (hc : W'.ownsRow w.heap.size 90 3 vc D.nc (rowG (encC D.col) D.nc)) (hi : W'.ownsRow w.heap.size 48 3 vi D.ni (rowG (encI D.idx A C) D.ni)) (hp : Pts w v'.ownBlock D.ni D.idx A C W') (hn : np ≤ 1000) :
    Tb w vc v' vi { D with np := np, pri := pri } A C W' :=
  ⟨hc, hO, hi, hp, ⟨h.sm.name, h.sm.nc, h.sm.col, hn, h.sm.ni, h.sm.idx⟩⟩
/-- An index more. -/
theorem Tb.addIdx {w : World} {vc vp vi : Value} {D : PDef} {A C : Nat → Nat} {W W' : World} (h : Tb w vc vp vi D A C W) (x : PIdx) (a c : Nat) {v' : Value} (hO : W'.ownsRow w.heap.size 48 3 v' (D.ni + 1) (rowG (encI D.idx A C) D.ni ++ [.string x.name, .bool x.uniq, .slice (some ⟨a, 0, none⟩) x.n c])) (hP : PtAt w a c x W) (hne : vp.ownBlock ≠ some a) (e : Eff w 48 W W') (hx : x.name.size ≤ 1000 ∧ x.n ≤ 1000) (hn : D.ni + 1 ≤ 1000) :
    Tb w vc vp v' { D with ni := D.ni + 1, idx := upd D.idx D.ni x } (upd A D.ni a) (upd C D.ni c) W' := by
  have hlt : ∀ i, i < D.ni + 1 → i < D.ni ∨ i = D.ni := fun i hi => by omega
  refine ⟨own_eff h.cols e (by decide), own_eff h.pri e (by decide), ?_, ⟨fun i hi => ?_, fun i hi => ?_⟩, ⟨h.sm.name, h.sm.nc, h.sm.col, h.sm.np, hn, fun i hi => ?_⟩⟩
  · show W'.ownsRow _ _ _ _ _ (rowG (encI (upd D.idx D.ni x) (upd A D.ni a) (upd C D.ni c)) (D.ni + 1))
    rw [rowG_updI]; exact hO
  · show PtAt w (upd A D.ni a i) (upd C D.ni c i) (upd D.idx D.ni x i) W'
    rcases hlt i hi with e1 | rfl
    · rw [upd_old e1, upd_old e1, upd_old e1]; exact (h.pts.eff e (by decide)).at_ i e1
    · rw [upd_new, upd_new, upd_new]; exact ⟨own_eff hP.own e (by decide)⟩
  · rcases hlt i hi with e1 | rfl
    · show vp.ownBlock ≠ some (upd A D.ni a i)
      rw [upd_old e1]; exact h.pts.ne i e1
    · show vp.ownBlock ≠ some (upd A D.ni a D.ni)
      rw [upd_new]; exact hne
  · show (upd D.idx D.ni x i).name.size ≤ 1000 ∧ (upd D.idx D.ni x i).n ≤ 1000
    rcases hlt i hi with e1 | rfl
    · rw [upd_old e1]; exact h.sm.idx i e1
    · rw [upd_new]; exact hx
/-- Cells of a new row of one column, of one index. -/
theorem cells_col9 (W : World) (s : ByteArray) (c : Int) (d : Bool) : ∀ j u, [Value.string s, .int .i64 c, .bool d][j]? = some u → (W.alloc (.cells #[.string s, .int .i64 c, .bool d] 90)).cell? ((⟨W.heap.size, 0, none⟩ : Addr).add j) = some u := by
  intro j u h
  have ea : ∀ j, (⟨W.heap.size, 0, none⟩ : Addr).add j = ⟨W.heap.size, 0 + j, none⟩ := fun j => by unfold Addr.add; split <;> simp_all
  match j, h with
  | 0, h => cases h; rw [ea]; simp
  | 1, h => cases h; rw [ea]; simp [go_sem]
  | 2, h => cases h; rw [ea]; simp [go_sem]
  | j + 3, h => simp at h
theorem one_col9 (s : ByteArray) (c : Int) (d : Bool) : ∀ u ∈ [Value.string s, .int .i64 c, .bool d], u.oneCell' = true := by
  intro u hu
  simp at hu
  rcases hu with rfl | rfl | rfl <;> rfl
theorem cells_idx9 (W : World) (s : ByteArray) (d : Bool) (a : Option Addr) (k c : Nat) : ∀ j u, [Value.string s, .bool d, .slice a k c][j]? = some u → (W.alloc (.cells #[.string s, .bool d, .slice a k c] 48)).cell? ((⟨W.heap.size, 0, none⟩ : Addr).add j) = some u := by
  intro j u h
  have ea : ∀ j, (⟨W.heap.size, 0, none⟩ : Addr).add j = ⟨W.heap.size, 0 + j, none⟩ := fun j => by unfold Addr.add; split <;> simp_all
  match j, h with
  | 0, h => cases h; rw [ea]; simp
  | 1, h => cases h; rw [ea]; simp [go_sem]
  | 2, h => cases h; rw [ea]; simp [go_sem]
  | j + 3, h => simp at h
theorem one_idx9 (s : ByteArray) (d : Bool) (a : Option Addr) (k c : Nat) : ∀ u ∈ [Value.string s, .bool d, .slice a k c], u.oneCell' = true := by
  intro u hu
  simp at hu
  rcases hu with rfl | rfl | rfl <;> rfl
/-- The first column of a drawn table. -/
theorem own_col1 {w W : World} (hw : w.heap.size ≤ W.heap.size) (s : ByteArray) (c : Int) (d : Bool) : (W.alloc (.cells #[.string s, .int .i64 c, .bool d] 90)).ownsRow w.heap.size 90 3 (.slice (some ⟨W.heap.size, 0, none⟩) 1 1) 1 (rowG (encC (fun _ => ⟨s, c, d⟩)) 1) := by
  have := World.ownsRow_lit (base := w.heap.size) (e := 90) (size := 3) W #[.string s, .int .i64 c, .bool d] 1 hw (by unfold maxLen; omega) rfl
  simpa [rowG, encC] using this
theorem own_nil9 {w W : World} {T : TypeId} {c : Nat} : W.ownsRow w.heap.size T c (.slice none 0 0) 0 [] := ⟨by simp, .inl ⟨rfl, rfl⟩⟩
/-- A column's cells. -/
theorem Tb.colAt {w : World} {bc cc : Nat} {vp vi : Value} {D : PDef} {A C : Nat → Nat} {W : World} (h : Tb w (.slice (some ⟨bc, 0, none⟩) D.nc cc) vp vi D A C W) {i : Nat} (hi : i < D.nc) :
    bc < W.heap.size ∧ D.nc ≤ cc ∧ W.cell? ⟨bc, i * 3, none⟩ = some (.string (D.col i).name) ∧ W.cell? ⟨bc, i * 3 + 1, none⟩ = some (.int .i64 (D.col i).type) ∧ W.cell? ⟨bc, i * 3 + 2, none⟩ = some (.bool (D.col i).null) := by
  obtain ⟨a, k, e, hk, h1⟩ := own_cells (c := 3) (fun _ => rfl) h.cols
  cases e
  obtain ⟨g, ea, -, -, hg, hc⟩ := h1 (by omega)
  cases ea
  exact ⟨hg, hk, by simpa using hc i 0 _ hi rfl, by simpa using hc i 1 _ hi rfl, by simpa using hc i 2 _ hi rfl⟩
theorem own_lt9 {W : World} {base T c b n k : Nat} {xs : List Value} (h : W.ownsRow base T c (.slice (some ⟨b, 0, none⟩) n k) n xs) : b < W.heap.size ∧ base ≤ b := by
  rcases h.2 with ⟨e, _⟩ | ⟨g, k', cur, e, hb, hg, _⟩
  · cases e
  · cases e
    exact ⟨(Array.getElem?_eq_some_iff.1 hg).1, hb⟩
theorem own_down9 {W : World} {base base' T c N : Nat} {v : Value} {xs : List Value} (h : W.ownsRow base T c v N xs) (hb : base' ≤ base) : W.ownsRow base' T c v N xs := by
  refine ⟨h.1, ?_⟩
  rcases h.2 with ⟨e, h0⟩ | ⟨g, k, cur, e, hb0, hr⟩
  · exact .inl ⟨e, h0⟩
  · exact .inr ⟨g, k, cur, e, Nat.le_trans hb hb0, hr⟩
theorem Tb.down {w w1 : World} {vc vp vi : Value} {D : PDef} {A C : Nat → Nat} {W : World} (h : Tb w1 vc vp vi D A C W) (hw : w.heap.size ≤ w1.heap.size) : Tb w vc vp vi D A C W :=
  ⟨own_down9 h.cols hw, own_down9 h.pri hw, own_down9 h.idx hw, ⟨fun i hi => ⟨own_down9 (h.pts.at_ i hi).own hw⟩, h.pts.ne⟩, h.sm⟩
end Go.Proofs.YtkakkjnbhklfpaaGreatDoor

/-
  What a drawn table is, plainly; nothing is wrong with it.
-/
namespace Go.Proofs.YtkakkjnbhklfpaaGreatDoor
open Go.RowKit
set_option maxRecDepth 4000

def idL : List ByteArray := [⟨#[105, 100]⟩, ⟨#[97]⟩, ⟨#[98]⟩, ⟨#[99]⟩]
def uvR : List ByteArray := [⟨#[117]⟩, ⟨#[118]⟩]
def abcR : List ByteArray := [⟨#[97]⟩, ⟨#[98]⟩, ⟨#[99]⟩]
/-- Parts of m columns, one or two that are not alike. -/
def PtR (m : Int) (N : Nat) (h : Nat → PBy) : Prop := (1 ≤ N ∧ N ≤ 2) ∧ ∀ i, i < N → 0 ≤ (h i).col ∧ (h i).col < m ∧ (0 < i → (h 0).col ≠ (h i).col)
def RCol (D : PDef) : Prop := ∀ i, i < D.nc → idL[i]? = some (D.col i).name ∧ (1 ≤ (D.col i).type ∧ (D.col i).type ≤ 4) ∧ (i = 0 → (D.col i).null = false)
def RPri (D : PDef) : Prop := ∀ i, i < D.np → (D.pri i).col = i ∧ (D.col i).null = false
/-- Indexes whose last letters lie behind the k-th. -/
def RIdx (D : PDef) (k : Nat) : Prop := ∃ p : Nat → Nat, (∀ i, i < D.ni → k < p i ∧ p i ≤ 2 ∧ (∃ z, z ∈ uvR ∧ ∃ nm, abcR[p i]? = some nm ∧ (D.idx i).name = z ++ nm) ∧ PtR D.nc (D.idx i).n (D.idx i).part) ∧ ∀ i j, i < j → j < D.ni → p j < p i
theorem word_id : ∀ s ∈ idL, wordOk s = true := by
  intro s hs
  simp only [idL, List.mem_cons, List.not_mem_nil, or_false] at hs
  rcases hs with rfl | rfl | rfl | rfl <;> kernel_rfl
theorem word_uv : ∀ z ∈ uvR, ∀ nm ∈ abcR, wordOk (z ++ nm) = true := by
  intro z hz nm hn
  simp only [uvR, abcR, List.mem_cons, List.not_mem_nil, or_false] at hz hn
  rcases hz with rfl | rfl <;> rcases hn with rfl | rfl | rfl <;> kernel_rfl
theorem id_once {i j : Nat} {s : ByteArray} (h1 : idL[i]? = some s) (h2 : idL[j]? = some s) : i = j := by
  have l1 := (List.getElem?_eq_some_iff.1 h1).1
  have l2 := (List.getElem?_eq_some_iff.1 h2).1
  simp only [idL, List.length_cons, List.length_nil] at l1 l2
  have c1 : i = 0 ∨ i = 1 ∨ i = 2 ∨ i = 3 := by omega
  have c2 : j = 0 ∨ j = 1 ∨ j = 2 ∨ j = 3 := by omega
  rcases c1 with rfl | rfl | rfl | rfl <;> rcases c2 with rfl | rfl | rfl | rfl <;> first | rfl | (rw [← h2] at h1; exact absurd h1 (by decide))
theorem uv_once {p q : Nat} {z y a b : ByteArray} (hz : z ∈ uvR) (hy : y ∈ uvR) (h1 : abcR[p]? = some a) (h2 : abcR[q]? = some b) (e : z ++ a = y ++ b) : p = q := by
  have l1 := (List.getElem?_eq_some_iff.1 h1).1
  have l2 := (List.getElem?_eq_some_iff.1 h2).1
  simp only [abcR, List.length_cons, List.length_nil] at l1 l2
  have c1 : p = 0 ∨ p = 1 ∨ p = 2 := by omega
  have c2 : q = 0 ∨ q = 1 ∨ q = 2 := by omega
  have key : ∀ z ∈ uvR, ∀ y ∈ uvR, ∀ p < 3, ∀ q < 3, p ≠ q → ∀ a, abcR[p]? = some a → ∀ b, abcR[q]? = some b → z ++ a ≠ y ++ b := by
    intro z hz y hy p hp q hq hne a ha b hb
    have k0 : ∀ z ∈ uvR, ∀ y ∈ uvR, ∀ p < 3, ∀ q < 3, p ≠ q → (z ++ (abcR[p]?).getD z) ≠ (y ++ (abcR[q]?).getD y) := by decide
    have := k0 z hz y hy p hp q hq hne
    rw [ha, hb] at this
    exact this
  by_cases hpq : p = q
  · exact hpq
  · exact absurd e (key z hz y hy p (by omega) q (by omega) hpq a h1 b h2)
theorem PtR.parts {m N : Nat} {h : Nat → PBy} (hp : PtR m N h) : partsF m N h = true := by
  unfold partsF
  exact decide_eq_true ⟨fun i hi => ⟨(hp.2 i hi).1, (hp.2 i hi).2.1, (hp.2 i hi).2.2⟩, hp.1⟩
/-- Nothing is wrong with a drawn table. -/
theorem right_check {D : PDef} (hn : wordOk D.name = true) (hc : RCol D) (hp : RPri D) (hi : RIdx D 0) (h1 : 2 ≤ D.nc ∧ D.nc ≤ 4) (h2 : 1 ≤ D.np ∧ D.np ≤ 2) (h3 : D.ni ≤ 2) : checkF D = 0 := by
  obtain ⟨p, hi1, hi2⟩ := hi
  have a1 : namesF D = true := by
    unfold namesF
    refine decide_eq_true ⟨fun i hi => word_id _ (List.mem_of_getElem? (hc i hi).1), fun i hi => ?_, hn⟩
    obtain ⟨-, -, ⟨z, hz, nm, hnm, e⟩, -⟩ := hi1 i hi
    rw [e]
    exact word_uv z hz nm (List.mem_of_getElem? hnm)
  have a2 : typesF D = true := by
    unfold typesF
    exact decide_eq_true ⟨fun i hi => (hc i hi).2.1, by omega, by omega⟩
  have a3 : onceF D = true := by
    unfold onceF
    refine decide_eq_true ⟨fun i hi j hj e => ?_, fun i hi j hj e => ?_⟩
    · have e1 := (hc i hi).1
      have e2 := (hc j (by omega)).1
      rw [e] at e2
      have := id_once e1 e2
      omega
    · obtain ⟨-, -, ⟨z, hz, a, ha, e1⟩, -⟩ := hi1 i hi
      obtain ⟨-, -, ⟨y, hy, b, hb, e2⟩, -⟩ := hi1 j (by omega)
      have := uv_once hy hz hb ha (by rw [← e2, ← e1, e])
      have := hi2 j i hj hi
      omega
  have a4 : ¬ 2 < D.ni := by omega
  have hpp : partsF D.nc D.np D.pri = true := by
    unfold partsF
    refine decide_eq_true ⟨fun i hi => ?_, h2⟩
    rw [(hp i hi).1]
    refine ⟨by omega, by omega, fun h0 e => ?_⟩
    rw [(hp 0 (by omega)).1] at e
    omega
  have a5 : allPartsF D = true := by
    unfold allPartsF
    exact decide_eq_true ⟨fun i hi => (hi1 i hi).2.2.2.parts, hpp⟩
  have a6 : nullF D = false := by
    unfold nullF
    refine decide_eq_false ?_
    rintro ⟨i, hi, e⟩
    rw [(hp i hi).1] at e
    simp only [Int.toNat_natCast] at e
    rw [(hp i hi).2] at e
    cases e
  unfold checkF
  simp [a1, a2, a3, a4, a5, a6]
theorem RCol.add {D : PDef} {k : Nat} {nm : ByteArray} {y : Int} {nl : Bool} (h : RCol D) (hk : D.nc = 1 + k) (hm : abcR[k]? = some nm) (h0 : 0 ≤ y) (h1 : y < 4) (col : Nat → PCol) (hnew : col D.nc = ⟨nm, 1 + y, nl⟩) (hold : ∀ i, i < D.nc → col i = D.col i) : RCol { D with nc := D.nc + 1, col := col } := by
  intro i hi
  show idL[i]? = some (col i).name ∧ (1 ≤ (col i).type ∧ (col i).type ≤ 4) ∧ (i = 0 → (col i).null = false)
  by_cases e : i < D.nc
  · rw [hold i e]; exact h i e
  · obtain rfl : i = D.nc := by have : i < D.nc + 1 := hi; omega
    rw [hnew]
    refine ⟨?_, by show 1 ≤ 1 + y ∧ 1 + y ≤ 4; omega, fun h0 => by omega⟩
    show idL[D.nc]? = some nm
    rw [hk, ← hm, Nat.add_comm]
    rfl
theorem RPri.one {D : PDef} (h : RCol D) (hn : 1 ≤ D.nc) (o : Bool) : RPri { D with np := 1, pri := fun _ => ⟨0, o⟩ } := by
  intro i hi
  obtain rfl : i = 0 := by have : i < 1 := hi; omega
  exact ⟨rfl, (h 0 hn).2.2 rfl⟩
theorem RPri.two {D : PDef} {q : Bool} (h : RPri D) (hnp : D.np = 1) (hnl : (D.col 1).null = false) (pri : Nat → PBy) (hnew : pri D.np = ⟨1, q⟩) (hold : ∀ i, i < D.np → pri i = D.pri i) : RPri { D with np := D.np + 1, pri := pri } := by
  intro i hi
  show (pri i).col = i ∧ (D.col i).null = false
  by_cases e : i < D.np
  · rw [hold i e]; exact h i e
  · obtain rfl : i = D.np := by have : i < D.np + 1 := hi; omega
    rw [hnew, hnp]; exact ⟨rfl, hnl⟩
theorem RIdx.add {D : PDef} {k : Nat} {z nm : ByteArray} {u : Bool} {N : Nat} {q : Nat → PBy} (h : RIdx D k) (hk : 0 < k) (hk2 : k ≤ 2) (hz : z ∈ uvR) (hm : abcR[k]? = some nm) (hq : PtR D.nc N q) (idx : Nat → PIdx) (hnew : idx D.ni = ⟨z ++ nm, u, N, q⟩) (hold : ∀ i, i < D.ni → idx i = D.idx i) : RIdx { D with ni := D.ni + 1, idx := idx } (k - 1) := by
  obtain ⟨p, h1, h2⟩ := h
  refine ⟨fun i => if i < D.ni then p i else k, fun i hi => ?_, fun i j hij hj => ?_⟩
  · show k - 1 < (if i < D.ni then p i else k) ∧ (if i < D.ni then p i else k) ≤ 2 ∧ (∃ z, z ∈ uvR ∧ ∃ nm, abcR[(if i < D.ni then p i else k)]? = some nm ∧ (idx i).name = z ++ nm) ∧ PtR D.nc (idx i).n (idx i).part
    by_cases e : i < D.ni
    · simp only [e, if_true]
      rw [hold i e]
      obtain ⟨a1, a2, a3, a4⟩ := h1 i e
      exact ⟨by omega, a2, a3, a4⟩
    · obtain rfl : i = D.ni := by have : i < D.ni + 1 := hi; omega
      simp only [e, if_false]
      rw [hnew]
      exact ⟨by omega, hk2, ⟨z, hz, nm, hm, rfl⟩, hq⟩
  · have hj' : j < D.ni + 1 := hj
    have hi' : i < D.ni := by omega
    by_cases e : j < D.ni
    · simp only [e, hi', if_true]; exact h2 i j hij e
    · simp only [e, hi', if_true, if_false]
      exact (h1 i hi').1
end Go.Proofs.YtkakkjnbhklfpaaGreatDoor

/-
  The draw of one or two parts, and what they are.
-/
namespace Go.Proofs.YtkakkjnbhklfpaaGreatDoor
open Go.RowKit
set_option maxRecDepth 4000

/-- One part in a new row. -/
theorem own_by1R {w W : World} (hw : w.heap.size ≤ W.heap.size) (c : Int) (d : Bool) : (W.alloc (.cells #[.int .i64 c, .bool d] 67)).ownsRow w.heap.size 67 2 (.slice (some ⟨W.heap.size, 0, none⟩) 1 1) 1 (rowG (encB (fun _ => ⟨c, d⟩)) 1) := by
  have := World.ownsRow_lit (base := w.heap.size) (e := 67) (size := 2) W #[.int .i64 c, .bool d] 1 hw (by unfold maxLen; omega) rfl
  simpa [rowG, encB] using this

/-- One or two parts that were drawn. -/
def Drew2R (w : World) (g : Nat) (ao : Option Addr) (n cap : Nat) (f : Nat → Int) (m : Int) (b c N : Nat) (w' : World) : Prop :=
  ∃ h : Nat → PBy, PtR m N h ∧ w'.ownsRow w.heap.size 67 2 (.slice (some ⟨b, 0, none⟩) N c) N (rowG (encB h) N) ∧ Cur w' g ao n cap f ∧ But g w w'

theorem ptR_one (a : Int) (o : Bool) (m : Int) (h0 : 0 ≤ a) (h1 : a < m) : PtR m 1 (fun _ => ⟨a, o⟩) := ⟨by omega, fun i hi => ⟨h0, h1, fun h => by omega⟩⟩
theorem ptR_two (a : Int) (o : Bool) (m : Int) (q : Bool) (h0 : 0 ≤ a) (h1 : a < m) (hm : 1 < m) : PtR m 2 (upd (fun _ => ⟨a, o⟩) 1 ⟨Int.tmod (a + 1) m, q⟩) := by
  have e : Int.tmod (a + 1) m = (a + 1) % m := Int.tmod_eq_emod_of_nonneg (by omega)
  have e0 := Int.emod_nonneg (a + 1) (show m ≠ 0 by omega)
  have e1 := Int.emod_lt_of_pos (a + 1) (show 0 < m by omega)
  refine ⟨by omega, fun i hi => ?_⟩
  have hi' : i = 0 ∨ i = 1 := by omega
  rcases hi' with rfl | rfl
  · simp only [upd, show ¬ (0 : Nat) = 1 by omega, if_false]
    exact ⟨h0, h1, fun h => by omega⟩
  · simp only [upd, if_true, show ¬ (0 : Nat) = 1 by omega, if_false]
    rw [e]
    refine ⟨e0, e1, fun _ he => ?_⟩
    by_cases hc : a + 1 < m
    · rw [Int.emod_eq_of_lt (by omega) hc] at he; omega
    · have : a + 1 = m := by omega
      rw [this, Int.emod_self] at he
      omega

set_option maxHeartbeats 4000000 in
theorem l9Draw2R_any (g : Nat) (ao : Option Addr) (n cap : Nat) (f : Nat → Int) (m : Int) (w : World) (hn : n ≤ 1048576) (hm : 1 < m) (hm1 : m ≤ 1000) (hC : Cur w g ao n cap f) :
    Calls Tryz.prog 83 #[.pointer (some ⟨g, 0, none⟩), .int .i64 m] w fun e w' => ∃ (b c N : Nat), e = .returned (.slice (some ⟨b, 0, none⟩) N c) ∧ Drew2R w g ao n cap f m b c N w' := by
  obtain ⟨i0, hi, hz0, hz1, hz2⟩ := infoBy9
  have hR := Cr.start hC
  have hg := hR.lt
  clear hC
  go_enter Tryz.func83, Tryz.ntmps83
  go_wp2_with fail
  refine (l1Below_any g ao n cap f m _ hn (by omega) (by omega) hR.cur).mono ?_
  rintro e w1 ⟨a, rfl, ha0, ha1, hC1, hO1⟩
  replace hR := hR.next hC1 (But.ofOnly hO1)
  clear hC1 hO1
  go_wp2_with fail
  refine (l1Once_any g ao n cap f 2 w1 hn (by omega) (by omega) hR.cur).mono ?_
  rintro e w2 ⟨o, rfl, hC2, hO2⟩
  replace hR := hR.next hC2 (But.ofOnly hO2)
  clear hC2 hO2
  have hO := own_by1R (w := w) (W := w2) hR.size a o
  have hE := Eff.alloc w 67 w2 (.cells #[.int .i64 a, .bool o] 67)
  replace hR := hR.eff hE
  clear hE
  by_cases h1 : m > 1
  · go_wp2_with fail
    obtain ⟨w3, hw3⟩ : ∃ w3, Hid (w3 = w2.alloc (.cells #[.int .i64 a, .bool o] 67)) := ⟨_, rfl⟩
    obtain ⟨b, hb⟩ : ∃ b, Hid (b = w2.heap.size) := ⟨_, rfl⟩
    rw [← hw3.out, ← hb.out] at hO ⊢
    rw [← hw3.out] at hR
    refine (l1Once_any g ao n cap f 3 w3 hn (by omega) (by omega) hR.cur).mono ?_
    rintro e w4 ⟨p, rfl, hC4, hO4⟩
    replace hO := own_but9 hO (But.ofOnly hO4) hg
    replace hR := hR.next hC4 (But.ofOnly hO4)
    clear hC4 hO4 hw3 hb
    cases p with
    | false =>
      have HR : Hid (w4.ownsRow w.heap.size 67 2 (.slice (some ⟨b, 0, none⟩) 1 1) 1 (rowG (encB (fun _ => ⟨a, o⟩)) 1) ∧ Cr w g ao n cap f w4) := ⟨hO, hR⟩
      clear hO hR
      go_wp2
      go_ret
      exact ⟨b, 1, 1, rfl, _, ptR_one a o m ha0 ha1, HR.out.1, HR.out.2.cur, HR.out.2.but⟩
    | true =>
      go_wp2_with fail
      have e1 : wrap64 (a + 1) = a + 1 := by unfold wrap64; omega
      have e2 : IntKind.i64.wrap (a + 1) = a + 1 := by rw [IntKind.wrap_i64]; omega
      have e3 : ¬ (m = 0) := by omega
      refine wp_region_held_drew (S := fun _ => True) (by kernel_rfl) trivial (fun hHeld => ?_)
      have hbd : Below w4.heap.size w4 w4.drew := (Below.refl _ _).drew
      replace hO := own_belowG9 hO hbd
      replace hR := hR.eff (T := 36) (Eff.ofBelow hbd)
      obtain ⟨wd, hwd⟩ : ∃ wd, Hid (wd = w4.drew) := ⟨_, rfl⟩
      rw [← hwd.out] at hO hR ⊢
      clear hbd
      refine' wpAnyH_take (i := 0) (v := _) rfl (by kernel_rfl) (by kernel_rfl) (by kernel_rfl) (fun _ _ _ h => h) (Or.inl ⟨by kernel_rfl, ?hda1⟩) (by assumption) ?rda1
      case hda1 => intro W hW; go_simp; all_goals with_reducible rfl
      change wpAnyH _ _ _ _ _ _ _ (Act.put _ (some 21) _) _
      simp only [Act.put, List.setIfInBounds_toArray, List.set_cons_zero, List.set_cons_succ]
      refine' wpAnyH_take (i := 1) (v := _) rfl (by kernel_rfl) (by kernel_rfl) (by kernel_rfl) (fun _ _ _ h => h) (Or.inl ⟨by kernel_rfl, ?hda2⟩) (by assumption) ?rda2
      case hda2 => intro W hW; go_simp; all_goals with_reducible rfl
      change wpAnyH _ _ _ _ _ _ _ (Act.put _ (some 22) _) _
      simp only [Act.put, List.setIfInBounds_toArray, List.set_cons_zero, List.set_cons_succ]
      refine' wpAnyH_take (i := 2) (v := _) rfl (by kernel_rfl) (by kernel_rfl) (by kernel_rfl) (fun _ _ _ h => h) (Or.inl ⟨by kernel_rfl, ?hda3⟩) (by assumption) ?rda3
      case hda3 => intro W hW; go_simp; all_goals with_reducible rfl
      change wpAnyH _ _ _ _ _ _ _ (Act.put _ (some 23) _) _
      simp only [Act.put, List.setIfInBounds_toArray, List.set_cons_zero, List.set_cons_succ]
      refine' wpAnyH_take (i := 3) (v := _) rfl (by kernel_rfl) (by kernel_rfl) (by kernel_rfl) (fun _ _ _ h => h) (Or.inl ⟨by kernel_rfl, ?hda4⟩) (by assumption) ?rda4
      case hda4 => intro W hW; go_simp; all_goals with_reducible rfl
      change wpAnyH _ _ _ _ _ _ _ (Act.put _ (some 24) _) _
      simp only [Act.put, List.setIfInBounds_toArray, List.set_cons_zero, List.set_cons_succ]
      refine' wpAnyH_take (i := 4) (v := _) rfl (by kernel_rfl) (by kernel_rfl) (by kernel_rfl) (fun _ _ _ h => h) (Or.inl ⟨by kernel_rfl, ?hda5⟩) (by assumption) ?rda5
      case hda5 => intro W hW; go_simp; all_goals with_reducible rfl
      change wpAnyH _ _ _ _ _ _ _ (Act.put _ (some 25) _) _
      simp only [Act.put, List.setIfInBounds_toArray, List.set_cons_zero, List.set_cons_succ]
      refine' wpAnyH_take (i := 5) (v := _) rfl (by kernel_rfl) (by kernel_rfl) (by kernel_rfl) (fun _ _ _ h => h) (Or.inl ⟨by kernel_rfl, ?hda6⟩) (by assumption) ?rda6
      case hda6 => intro W hW; go_simp; all_goals with_reducible rfl
      change wpAnyH _ _ _ _ _ _ _ (Act.put _ (some 26) _) _
      simp only [Act.put, List.setIfInBounds_toArray, List.set_cons_zero, List.set_cons_succ]
      refine wpAnyH_ready (rs := [6]) (by kernel_rfl) (by simp) ?_
      refine AllReadyH.cons rfl (fun KK hK => ?_) AllReadyH.nil
      go_simp
      refine (l1Once_any g ao n cap f 2 _ hn (by omega) (by omega) hR.cur).mono ?_
      rintro e w5 ⟨q, rfl, hC5, hO5⟩
      replace hO := own_but9 hO (But.ofOnly hO5) hg
      replace hR := hR.next hC5 (But.ofOnly hO5)
      clear hC5 hO5
      go_wp2_with fail
      refine hK.out _ _ trivial (fun hHeld => ?_)
      clear hK KK
      try simp only [Act.put, List.setIfInBounds_toArray, List.set_cons_zero, List.set_cons_succ]
      refine' wpAnyH_take (i := 7) (v := _) rfl (by kernel_rfl) (by kernel_rfl) (by kernel_rfl) (fun _ _ _ h => h) (Or.inl ⟨by kernel_rfl, ?hda7⟩) (by assumption) ?rda7
      case hda7 => intro W hW; go_simp; all_goals with_reducible rfl
      change wpAnyH _ _ _ _ _ _ _ (Act.put _ (some 28) _) _
      simp only [Act.put, List.setIfInBounds_toArray, List.set_cons_zero, List.set_cons_succ]
      refine wpAnyH_ready (rs := [8]) (by kernel_rfl) (by simp) ?_
      refine AllReadyH.cons rfl (fun KK hK => ?_) AllReadyH.nil
      go_simp
      have hcl := cells_by9 w5 (Int.tmod (a + 1) m) q
      have hbA : Below w5.heap.size w5 (w5.alloc (.cells #[.int .i64 (Int.tmod (a + 1) m), .bool q] 67)) := (Below.refl _ _).alloc (Nat.le_refl _) _
      replace hO := own_belowG9 hO hbA
      replace hR := hR.eff (T := 36) (Eff.ofBelow hbA)
      have hsz := hR.size
      refine hK.out _ _ trivial (fun hHeld => ?_)
      clear hK KK
      try simp only [Act.put, List.setIfInBounds_toArray, List.set_cons_zero, List.set_cons_succ]
      refine wpAnyH_ready (rs := [9]) (by kernel_rfl) (by simp) ?_
      refine AllReadyH.cons rfl (fun KK hK => ?_) AllReadyH.nil
      rw [if_pos (by kernel_rfl)]
      refine wp_append_own _ (.tmp 21) (.tmp 29) 33 rfl w.heap.size 67 i0 (.agg #[.int .i64 0, .bool false]) 2 16 Tryz.underlying33 hi hz0 hz1 hz2 rfl (by decide) _ _ _ rfl hO ⟨w5.heap.size, 0, none⟩ 1 1 [.int .i64 (Int.tmod (a + 1) m), .bool q] rfl rfl hcl (one_by9 _ _) (by unfold maxLen; omega) (by omega) (by omega) ?_
      intro v6 w6 hO6 hgr6 hnil6
      have hE := Eff.grown hO hgr6
      replace hR := hR.eff hE
      obtain ⟨b6, c6, rfl⟩ := own_succG hO6
      have hO7 : w6.ownsRow w.heap.size 67 2 (.slice (some ⟨b6, 0, none⟩) 2 c6) 2 (rowG (encB (upd (fun _ => ⟨a, o⟩) 1 ⟨Int.tmod (a + 1) m, q⟩)) 2) := by rw [rowG_updB]; exact hO6
      clear hE hO hO6 hgr6 hnil6 hcl hbA
      refine hK.out _ _ trivial (fun hHeld => ?_)
      clear hK KK
      change wpAnyH _ _ _ _ _ _ _ (Act.put _ (some 30) _) _
      try simp only [Act.put, List.setIfInBounds_toArray, List.set_cons_zero, List.set_cons_succ]
      refine' wpAnyH_take (i := 10) (v := _) rfl (by kernel_rfl) (by kernel_rfl) (by kernel_rfl) (fun _ _ _ h => h) (Or.inl ⟨by kernel_rfl, ?hda8⟩) (by assumption) ?rda8
      case hda8 => intro W hW; go_simp; all_goals with_reducible rfl
      change wpAnyH _ _ _ _ _ _ _ (Act.put _ (some 6) _) _
      simp only [Act.put, List.setIfInBounds_toArray, List.set_cons_zero, List.set_cons_succ]
      refine wpAnyH_done (by kernel_rfl) ?_ _
      have HR : Hid (w6.ownsRow w.heap.size 67 2 (.slice (some ⟨b6, 0, none⟩) 2 c6) 2 (rowG (encB (upd (fun _ => ⟨a, o⟩) 1 ⟨Int.tmod (a + 1) m, q⟩)) 2) ∧ Cr w g ao n cap f w6) := ⟨hO7, hR⟩
      clear hO7 hR
      go_wp2
      go_ret
      exact ⟨b6, c6, 2, rfl, _, ptR_two a o m q ha0 ha1 hm, HR.out.1, HR.out.2.cur, HR.out.2.but⟩
  · exact absurd hm h1
end Go.Proofs.YtkakkjnbhklfpaaGreatDoor

