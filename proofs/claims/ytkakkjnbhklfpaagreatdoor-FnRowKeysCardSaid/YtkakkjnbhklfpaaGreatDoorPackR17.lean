/-
  Together: AtD, TabsKit, InfoDef, Draw10R, Draw11Line, DrawNew, DrawRows11, TokName
-/
import Derived.Test.YtkakkjnbhklfpaaGreatDoorPackR3
import Derived.Test.YtkakkjnbhklfpaaGreatDoorPackR16
import Derived.Test.YtkakkjnbhklfpaaGreatDoorPackR8
import Derived.Test.YtkakkjnbhklfpaaGreatDoorDraw9TabR
import Derived.Test.YtkakkjnbhklfpaaGreatDoorPackR7
import Derived.Test.YtkakkjnbhklfpaaGreatDoorPackR6
import Derived.Test.YtkakkjnbhklfpaaGreatDoorPackR4
import Derived.Deep.RegionHeld3
import Derived.Test.YtkakkjnbhklfpaaGreatDoorPackR1
import Derived.Test.YtkakkjnbhklfpaaGreatDoorProg
import Derived.WalkMore
import Derived.Deep.LoopGhost
/-
  The tables of a list, by the index.
-/
namespace Go.Proofs.YtkakkjnbhklfpaaGreatDoor
open Go.RowKit
set_option maxRecDepth 4000

/-- A list by a function of the index. -/
def atD (l : List PDef) (i : Nat) : PDef := l.getD i ⟨⟨#[]⟩, 0, fun _ => ⟨⟨#[]⟩, 0, false⟩, 0, fun _ => ⟨0, false⟩, 0, fun _ => ⟨⟨#[]⟩, false, 0, fun _ => ⟨0, false⟩⟩⟩
end Go.Proofs.YtkakkjnbhklfpaaGreatDoor

/-
  Rows of tables of the call's own.
-/
namespace Go.Proofs.YtkakkjnbhklfpaaGreatDoor
open Go.RowKit
set_option maxRecDepth 4000

/-- A row of tables of the call's own, each in rows of its own. -/
def encD (f : Nat → PDef) (V : Nat → Value × Value × Value) (i : Nat) : List Value := [.string (f i).name, (V i).1, (V i).2.1, (V i).2.2]
structure Tabs (w : World) (v : Value) (ds : List PDef) (W : World) : Prop where
  is : ∃ V, W.ownsRow w.heap.size 36 4 v ds.length (rowG (encD (atD ds) V) ds.length) ∧ ∀ i, i < ds.length → ∃ A C, Tb w (V i).1 (V i).2.1 (V i).2.2 (atD ds i) A C W
theorem Tabs.but {w : World} {v : Value} {ds : List PDef} {W W' : World} {g : Nat} (h : Tabs w v ds W) (hb : But g W W') (hg : g < w.heap.size) : Tabs w v ds W' := by
  obtain ⟨V, h1, h2⟩ := h.is
  refine ⟨V, own_but9 h1 hb hg, fun i hi => ?_⟩
  obtain ⟨A, C, h3⟩ := h2 i hi
  exact ⟨A, C, h3.but hb hg⟩
theorem Tabs.below {w : World} {v : Value} {ds : List PDef} {W W' : World} (h : Tabs w v ds W) (hb : Below W.heap.size W W') : Tabs w v ds W' := by
  obtain ⟨V, h1, h2⟩ := h.is
  refine ⟨V, own_belowG9 h1 hb, fun i hi => ?_⟩
  obtain ⟨A, C, h3⟩ := h2 i hi
  exact ⟨A, C, h3.below hb⟩
theorem Tabs.view {w : World} {v : Value} {ds : List PDef} {W : World} (h : Tabs w v ds W) : ∃ a k, v = .slice a ds.length k ∧ LView W a ds.length k (atD ds) := by
  obtain ⟨V, h1, h2⟩ := h.is
  obtain ⟨a, k, e, hk, h3⟩ := own_cells (c := 4) (fun _ => rfl) h1
  refine ⟨a, k, e, hk, fun hn => ?_⟩
  obtain ⟨g, ea, -, -, hg, hc⟩ := h3 hn
  refine ⟨g, 0, ea, hg, fun i hi => ?_⟩
  obtain ⟨A, C, h4⟩ := h2 i hi
  exact ⟨_, _, _, by simpa using hc i 0 _ hi rfl, by simpa using hc i 1 _ hi rfl, by simpa using hc i 2 _ hi rfl, by simpa using hc i 3 _ hi rfl, h4.view⟩
theorem Tabs.fine {w : World} {v : Value} {ds : List PDef} {W : World} (h : Tabs w v ds W) (hn : ds.length ≤ 1048576) : LFine ds.length (atD ds) := by
  obtain ⟨V, h1, h2⟩ := h.is
  refine ⟨hn, fun i hi => ?_⟩
  obtain ⟨A, C, h4⟩ := h2 i hi
  exact h4.sm.fine
theorem atD_snoc (acc : List PDef) (x : PDef) : atD (acc ++ [x]) = upd (atD acc) acc.length x := by
  funext i
  unfold atD upd
  by_cases h : i = acc.length
  · subst h; simp [List.getD]
  · rw [if_neg h]
    by_cases h2 : i < acc.length
    · simp [List.getD, List.getElem?_append_left h2]
    · simp [List.getD, List.getElem?_eq_none (show acc.length ≤ i by omega), List.getElem?_eq_none (show (acc ++ [x]).length ≤ i by simp; omega)]
/-- A table more. -/
theorem Tabs.add {w : World} {v' vc vp vi : Value} {ds : List PDef} {D : PDef} {A C : Nat → Nat} {V : Nat → Value × Value × Value} {W W' : World} (h2 : ∀ i, i < ds.length → ∃ A C, Tb w (V i).1 (V i).2.1 (V i).2.2 (atD ds i) A C W) (hT : Tb w vc vp vi D A C W)
    (h3 : W'.ownsRow w.heap.size 36 4 v' (ds.length + 1) (rowG (encD (atD ds) V) ds.length ++ [.string D.name, vc, vp, vi])) (e : Eff w 36 W W') : Tabs w v' (ds ++ [D]) W' := by
  refine ⟨upd V ds.length (vc, vp, vi), ?_, fun i hi => ?_⟩
  · have e1 : rowG (encD (atD (ds ++ [D])) (upd V ds.length (vc, vp, vi))) (ds ++ [D]).length = rowG (encD (atD ds) V) ds.length ++ [.string D.name, vc, vp, vi] := by
      rw [List.length_append, List.length_singleton, rowG, rowG_congr (enc' := encD (atD ds) V) (fun i hi => by simp [encD, atD_snoc, upd_old hi])]
      simp [encD, atD_snoc, upd_new]
    rw [e1, List.length_append, List.length_singleton]
    exact h3
  · rw [List.length_append, List.length_singleton] at hi
    by_cases e1 : i < ds.length
    · obtain ⟨A', C', h4⟩ := h2 i e1
      rw [atD_snoc, upd_old e1, upd_old e1]
      exact ⟨A', C', h4.eff e (by decide) (by decide) (by decide)⟩
    · obtain rfl : i = ds.length := by omega
      rw [atD_snoc, upd_new, upd_new]
      exact ⟨A, C, hT.eff e (by decide) (by decide) (by decide)⟩
theorem cells_def10 (W : World) (s : ByteArray) (a1 a2 a3 : Option Addr) (n1 n2 n3 c1 c2 c3 : Nat) : ∀ j u, [Value.string s, .slice a1 n1 c1, .slice a2 n2 c2, .slice a3 n3 c3][j]? = some u → (W.alloc (.cells #[.string s, .slice a1 n1 c1, .slice a2 n2 c2, .slice a3 n3 c3] 36)).cell? ((⟨W.heap.size, 0, none⟩ : Addr).add j) = some u := by
  intro j u h
  have ea : ∀ j, (⟨W.heap.size, 0, none⟩ : Addr).add j = ⟨W.heap.size, 0 + j, none⟩ := fun j => by unfold Addr.add; split <;> simp_all
  match j, h with
  | 0, h => cases h; rw [ea]; simp
  | 1, h => cases h; rw [ea]; simp [go_sem]
  | 2, h => cases h; rw [ea]; simp [go_sem]
  | 3, h => cases h; rw [ea]; simp [go_sem]
  | j + 4, h => simp at h
theorem one_def10 (s : ByteArray) (a1 a2 a3 : Option Addr) (n1 n2 n3 c1 c2 c3 : Nat) : ∀ u ∈ [Value.string s, .slice a1 n1 c1, .slice a2 n2 c2, .slice a3 n3 c3], u.oneCell' = true := by
  intro u hu
  simp at hu
  rcases hu with rfl | rfl | rfl | rfl <;> rfl
end Go.Proofs.YtkakkjnbhklfpaaGreatDoor

/-
  The type of tables.
-/
namespace Go.Proofs.YtkakkjnbhklfpaaGreatDoor
open Go.RowKit
set_option maxRecDepth 4000

theorem infoDef : ∃ i, Tryz.prog.info? 36 = some i ∧ i.zero = some (.agg #[.string ⟨#[]⟩, .slice none 0 0, .slice none 0 0, .slice none 0 0]) ∧ i.size = 4 ∧ i.bytes = 88 := by
  have h : (Tryz.prog.info? 36).map (fun i => (i.zero, i.size, i.bytes)) = some (some (.agg #[.string ⟨#[]⟩, .slice none 0 0, .slice none 0 0, .slice none 0 0]), 4, 88) := by kernel_rfl
  obtain ⟨i, hi, hz⟩ := Option.map_eq_some_iff.1 h
  simp only [Prod.mk.injEq] at hz
  exact ⟨i, hi, hz.1, hz.2.1, hz.2.2⟩
end Go.Proofs.YtkakkjnbhklfpaaGreatDoor

/-
  One or two drawn tables: a list that is right.
-/
namespace Go.Proofs.YtkakkjnbhklfpaaGreatDoor
open Go.RowKit
set_option maxRecDepth 4000

/-- Tables that were drawn into a row of the call's own. -/
def DrewLR (w : World) (g : Nat) (ao : Option Addr) (n cap : Nat) (f : Nat → Int) (lim : Nat) (e : Ending) (w' : World) : Prop :=
  ∃ (ds : List PDef) (b k : Nat), e = .returned (.slice (some ⟨b, 0, none⟩) ds.length k) ∧ Tabs w (.slice (some ⟨b, 0, none⟩) ds.length k) ds w' ∧ Cr w g ao n cap f w' ∧ ds.length ≤ lim ∧ firstF (atD ds) ds.length = -1 ∧ 0 < ds.length
theorem Tabs.oneR {w W : World} {vc vp vi : Value} {D : PDef} {A C : Nat → Nat} (hw : w.heap.size ≤ W.heap.size) (h : Tb w vc vp vi D A C W) : Tabs w (.slice (some ⟨W.heap.size, 0, none⟩) [D].length 1) [D] (W.alloc (.cells #[.string D.name, vc, vp, vi] 36)) := by
  have h0 := World.ownsRow_lit (base := w.heap.size) (e := 36) (size := 4) W #[.string D.name, vc, vp, vi] 1 hw (by unfold maxLen; omega) rfl
  refine ⟨fun _ => (vc, vp, vi), by simpa [rowG, encD, atD] using h0, fun i hi => ⟨A, C, ?_⟩⟩
  obtain rfl : i = 0 := by simpa using hi
  exact h.below ((Below.refl _ _).alloc (Nat.le_refl _) _)
theorem right_one {D : PDef} {s : ByteArray} {N M : Nat} (hs : wordOk s = true) (h : K2 D s 0) (hc : D.nc = N) (hp : D.np = M) (h1 : 2 ≤ N ∧ N ≤ 4) (h2 : 1 ≤ M ∧ M ≤ 2) (h3 : D.ni ≤ 2) : checkF D = 0 :=
  right_check (by rw [h.1]; exact hs) h.2.1 h.2.2.1 h.2.2.2 (by rw [hc]; exact h1) (by rw [hp]; exact h2) h3
theorem first_one {D : PDef} (h : checkF D = 0) : firstF (atD [D]) [D].length = -1 := by
  refine firstF_no (fun i hi => ?_)
  obtain rfl : i = 0 := by simpa using hi
  exact badF_no h (by omega) (fun j hj => absurd hj (Nat.not_lt_zero _))
theorem first_two {D E : PDef} (h : checkF D = 0) (k : checkF E = 0) (hn : D.name ≠ E.name) : firstF (atD [D, E]) [D, E].length = -1 := by
  refine firstF_no (fun i hi => ?_)
  have hi' : i = 0 ∨ i = 1 := by simp at hi; omega
  rcases hi' with rfl | rfl
  · exact badF_no h (by omega) (fun j hj => absurd hj (Nat.not_lt_zero _))
  · refine badF_no k (by omega) (fun j hj => ?_)
    obtain rfl : j = 0 := by omega
    exact hn
theorem word_t : wordOk ⟨#[116]⟩ = true := by kernel_rfl
theorem word_u : wordOk ⟨#[117]⟩ = true := by kernel_rfl

set_option maxHeartbeats 8000000 in
theorem l10DrawR_any (g : Nat) (ao : Option Addr) (n cap : Nat) (f : Nat → Int) (w : World) (hn : n ≤ 1048576) (hC : Cur w g ao n cap f) :
    Calls Tryz.prog 24 #[.pointer (some ⟨g, 0, none⟩)] w (DrewLR w g ao n cap f 2) := by
  obtain ⟨iD, hiD⟩ := infoDef
  have hR0 := Cr.start hC
  have hg := hR0.lt
  have hD := l9Draw_anyR g ao n cap f ⟨#[116]⟩ w hn (by decide) hC
  clear hC hR0
  go_enter Tryz.func24, Tryz.ntmps24
  go_wp2_with fail
  refine hD.mono ?_
  rintro e w1 ⟨bc, cc, bp, cp, N, M, vi, rfl, D, A, C, hK2, hDc, hDp, h24, h12, hni2, hSl, hT, hR⟩
  have hDn := hK2.1
  have HCK : Hid (checkF D = 0 ∧ D.name = ⟨#[116]⟩) := ⟨right_one word_t hK2 hDc hDp h24 h12 hni2, hDn⟩
  clear hK2 h24 h12 hni2
  obtain ⟨ai, ci, ei, -, -⟩ := iview_of_own hT.idx (fun i hi => (hT.pts.at_ i hi).view)
  subst ei
  have T1 := Tabs.oneR hR.size hT
  rw [hDn] at T1
  have hR1 := hR.eff (Eff.alloc w 36 w1 (.cells #[.string ⟨#[116]⟩, .slice (some ⟨bc, 0, none⟩) N cc, .slice (some ⟨bp, 0, none⟩) M cp, .slice ai D.ni ci] 36))
  have hO := l1Once_any g ao n cap f 3 _ hn (by omega) (by omega) hR1.cur
  have HT : Hid (Tabs w (.slice (some ⟨w1.heap.size, 0, none⟩) [D].length 1) [D] (w1.alloc (.cells #[.string ⟨#[116]⟩, .slice (some ⟨bc, 0, none⟩) N cc, .slice (some ⟨bp, 0, none⟩) M cp, .slice ai D.ni ci] 36)) ∧ Cr w g ao n cap f (w1.alloc (.cells #[.string ⟨#[116]⟩, .slice (some ⟨bc, 0, none⟩) N cc, .slice (some ⟨bp, 0, none⟩) M cp, .slice ai D.ni ci] 36))) := ⟨T1, hR1⟩
  obtain ⟨B, hB⟩ : ∃ x, Hid (w1.heap.size = x) := ⟨_, rfl⟩
  obtain ⟨N3, hN3⟩ : ∃ x, Hid (D.ni = x) := ⟨_, rfl⟩
  rw [hN3.out] at hO HT ⊢
  rw [hB.out] at HT
  have hBe : w1.heap.size = B := hB.out
  clear hD hT hR T1 hR1 hSl hDn hDc hDp
  go_wp2_with fail
  refine hO.mono ?_
  rintro e w2 ⟨ob, rfl, hCx, hOx⟩
  have T2 := HT.out.1.but (But.ofOnly hOx) hg
  have R2 := HT.out.2.next hCx (But.ofOnly hOx)
  clear hO HT hCx hOx hBe hB
  cases ob with
  | false =>
    have HR : Hid (DrewLR w g ao n cap f 2 (.returned (.slice (some ⟨B, 0, none⟩) 1 1)) w2) := ⟨[D], B, 1, rfl, T2, R2, by simp, first_one HCK.out.1, by simp⟩
    clear T2 R2
    go_wp2
    go_ret
    exact HR.out
  | true =>
    have hD := l9Draw_anyR g ao n cap f ⟨#[117]⟩ w2 hn (by decide) R2.cur
    have HT : Hid (Tabs w (.slice (some ⟨B, 0, none⟩) [D].length 1) [D] w2 ∧ Cr w g ao n cap f w2) := ⟨T2, R2⟩
    clear T2 R2
    go_wp2_with fail
    refine hD.mono ?_
    rintro e w3 ⟨bc', cc', bp', cp', N', M', vi', rfl, D', A', C', hK2, hDc, hDp, h24, h12, hni2, hSl, hT, hR⟩
    have hDn := hK2.1
    have HCE : Hid (checkF D' = 0 ∧ D'.name = ⟨#[117]⟩) := ⟨right_one word_u hK2 hDc hDp h24 h12 hni2, hDn⟩
    clear hK2 h24 h12 hni2
    obtain ⟨ai', ci', ei, -, -⟩ := iview_of_own hT.idx (fun i hi => (hT.pts.at_ i hi).view)
    subst ei
    obtain ⟨T2, R2⟩ := HT.out
    have T3 := T2.but hR.but hg
    have R3 := R2.next hR.cur hR.but
    have hT3 := hT.down R2.size
    obtain ⟨N4, hN4⟩ : ∃ x, Hid (D'.ni = x) := ⟨_, rfl⟩
    rw [hN4.out] at hT3 ⊢
    have Bx : Below w3.heap.size w3 (w3.alloc (.cells #[.string ⟨#[117]⟩, .slice (some ⟨bc', 0, none⟩) N' cc', .slice (some ⟨bp', 0, none⟩) M' cp', .slice ai' N4 ci'] 36)) := (Below.refl _ _).alloc (Nat.le_refl _) _
    have T4 := T3.below Bx
    have hT4 := hT3.below Bx
    have R4 := R3.eff (Eff.ofBelow (T := 36) Bx)
    obtain ⟨V, hO6, hV6⟩ := T4.is
    have HOW := own_ge9 hO6
    have hcl := cells_def10 w3 ⟨#[117]⟩ (some ⟨bc', 0, none⟩) (some ⟨bp', 0, none⟩) ai' N' M' N4 cc' cp' ci'
    have HO6 : Hid _ := hO6
    have hsz := R3.size
    have HK : Hid ((∀ i, i < [D].length → ∃ A C, Tb w (V i).1 (V i).2.1 (V i).2.2 (atD [D] i) A C _) ∧ Tb w (.slice (some ⟨bc', 0, none⟩) N' cc') (.slice (some ⟨bp', 0, none⟩) M' cp') (.slice ai' N4 ci') D' A' C' _ ∧ Cr w g ao n cap f _) := ⟨hV6, hT4, R4⟩
    have hO6' : World.ownsRow _ w.heap.size 36 4 (.slice (some ⟨B, 0, none⟩) 1 1) 1 (rowG (encD (atD [D]) V) 1) := hO6
    clear hD hT hR HT T2 R2 T3 R3 hT3 T4 hT4 R4 hV6 hO6 Bx hSl hDc hDp
    go_wp2_with (at_builtin; refine wpList_append_own _ rfl (.tmp 9) (.tmp 12) 24 rfl w.heap.size 36 iD (.agg #[.string ⟨#[]⟩, .slice none 0 0, .slice none 0 0, .slice none 0 0]) 4 88 Tryz.underlying24 hiD.1 hiD.2.1 hiD.2.2.1 hiD.2.2.2 rfl (by decide) _ _ _ rfl hO6' ⟨w3.heap.size, 0, none⟩ 1 1 [.string ⟨#[117]⟩, .slice (some ⟨bc', 0, none⟩) N' cc', .slice (some ⟨bp', 0, none⟩) M' cp', .slice ai' N4 ci'] rfl rfl hcl (one_def10 _ _ _ _ _ _ _ _ _ _) (by unfold maxLen; omega) (by omega) (by simp; omega) ?_)
    intro v5 w9 hown5 hgr hnil
    obtain ⟨T6, hT6, R6⟩ := HK.out
    have e9 : Eff w 36 _ w9 := Eff.grown HO6.out hgr
    have T9 := Tabs.add T6 hT6 (v' := v5) (by rw [hDn]; exact hown5) e9
    have R9 := R6.eff e9
    obtain ⟨b9, c9, rfl⟩ := own_succ9 hown5
    have HR : Hid (DrewLR w g ao n cap f 2 (.returned (.slice (some ⟨b9, 0, none⟩) 2 c9)) w9) := ⟨[D, D'], b9, c9, rfl, T9, R9, by simp, first_two HCK.out.1 HCE.out.1 (by rw [HCK.out.2, HCE.out.2]; decide), by simp⟩
    clear hown5 hgr hnil T6 hT6 R6 e9 T9 R9 HK HO6 HOW hcl hO6'
    go_wp2
    go_ret
    exact HR.out
end Go.Proofs.YtkakkjnbhklfpaaGreatDoor

/-
  The model's l11Row: a row of the call's own of short values that fit a table's columns.
-/
namespace Go.Proofs.YtkakkjnbhklfpaaGreatDoor
open Go.RowKit
set_option maxRecDepth 4000

theorem rowC_upd (gk gn : Nat → Int) (gs : Nat → ByteArray) (k : Nat) (x y : Int) (z : ByteArray) : rowC (upd gk k x) (upd gn k y) (upd gs k z) (k + 1) = rowC gk gn gs k ++ [.int .i64 x, .int .i64 y, .string z] := by
  rw [rowC, rowC_congr (hk := gk) (hn := gn) (hs := gs) (fun i hi => ⟨upd_old hi, upd_old hi, upd_old hi⟩)]
  simp [upd_new]
theorem Cr.drop {w W0 : World} {g : Nat} {ao : Option Addr} {n cap : Nat} {f : Nat → Int} {W : World} (h : Cr W0 g ao n cap f W) (h0 : Cr w g ao n cap f W0) : Cr w g ao n cap f W := ⟨h.cur, h0.but.trans h.but, h0.lt, h0.code⟩

/-- A row that was drawn of columns. -/
def LineTo (w : World) (g : Nat) (ao : Option Addr) (n cap : Nat) (f : Nat → Int) (N : Nat) (col : Nat → PCol) (e : Ending) (w' : World) : Prop :=
  ∃ (b c : Nat) (fk fn : Nat → Int) (fs : Nat → ByteArray), e = .returned (.slice (some ⟨b, 0, none⟩) N c) ∧ w'.ownsRow w.heap.size 58 3 (.slice (some ⟨b, 0, none⟩) N c) N (rowC fk fn fs N) ∧ (∀ i, i < N → ShortV (col i).type (col i).null (fk i) (fn i) (fs i)) ∧ Cr w g ao n cap f w'

set_option maxRecDepth 20000 in
set_option maxHeartbeats 8000000 in
theorem l11Row_any (g : Nat) (ao : Option Addr) (n cap : Nat) (f : Nat → Int) (nm : ByteArray) (ac : Option Addr) (N cc : Nat) (col : Nat → PCol) (ap : Option Addr) (np cp : Nat) (ai : Option Addr) (ni ci : Nat) (w : World) (hn : n ≤ 1048576) (hN : N ≤ 1000) (ht : ∀ i, i < N → 1 ≤ (col i).type ∧ (col i).type ≤ 4) (hCV : ∀ W, But g w W → CView W ac N cc col) (hC : Cur w g ao n cap f) :
    Calls Tryz.prog 26 #[.pointer (some ⟨g, 0, none⟩), .agg #[.string nm, .slice ac N cc, .slice ap np cp, .slice ai ni ci]] w (LineTo w g ao n cap f N col) := by
  obtain ⟨i0, hi, hz0, hz1, hz2⟩ := infoVal3
  have hR := Cr.start hC
  have hg := hR.lt
  clear hC
  have hd := V4.new w 36 (.string nm) (.slice ac N cc) (.slice ap np cp) (.slice ai ni ci)
  have hb0 : Below w.heap.size w (w.alloc (.cells #[.string nm, .slice ac N cc, .slice ap np cp, .slice ai ni ci] 36)) := (Below.refl _ _).alloc (Nat.le_refl _) _
  replace hR := hR.eff (T := 93) (Eff.ofBelow hb0)
  obtain ⟨W0, hW0⟩ : ∃ W, Hid (w.alloc (.cells #[.string nm, .slice ac N cc, .slice ap np cp, .slice ai ni ci] 36) = W) := ⟨_, rfl⟩
  have hs0 : W0.heap.size = w.heap.size + 1 := by rw [← hW0.out]; simp
  rw [hW0.out] at hd hR
  have hbE : Below W0.heap.size W0 (W0.alloc (.cells #[] 58)) := (Below.refl _ _).alloc (Nat.le_refl _) _
  have hO0 : (W0.alloc (.cells #[] 58)).ownsRow w.heap.size 58 3 (.slice (some ⟨W0.heap.size, 0, none⟩) 0 0) 0 (rowC (fun _ => 0) (fun _ => 0) (fun _ => ⟨#[]⟩) 0) := by
    have := World.ownsRow_lit (base := w.heap.size) (e := 58) (size := 3) W0 #[] 0 (by omega) (Nat.zero_le _) rfl
    simpa [rowC] using this
  rw [hs0] at hO0
  replace hd := hd.below hbE
  replace hR := hR.eff (T := 93) (Eff.ofBelow hbE)
  go_enter Tryz.func26, Tryz.ntmps26
  go_wp2_with (rw [hW0.out])
  go_loopg [5, 6] N (fun q s i wr => ∃ (k : Nat) (fk fn : Nat → Int) (fs : Nat → ByteArray), k ≤ N ∧ q = N - k ∧ i = .int .i64 k ∧ (∃ b c, s = .slice (some ⟨b, 0, none⟩) k c ∧ wr.ownsRow w.heap.size 58 3 (.slice (some ⟨b, 0, none⟩) k c) k (rowC fk fn fs k)) ∧ Hid (∀ i, i < k → ShortV (col i).type (col i).null (fk i) (fn i) (fs i)) ∧ V4 wr w.heap.size 36 (.string nm) (.slice ac N cc) (.slice ap np cp) (.slice ai ni ci) ∧ Cr w g ao n cap f wr)
  case atStart => exact ⟨0, _, _, _, Nat.zero_le _, rfl, rfl, ⟨_, _, rfl, hO0⟩, fun i hi => absurd hi (Nat.not_lt_zero _), hd, hR⟩
  case round =>
    clear hO0 hd hR hbE hb0
    obtain ⟨k, fk, fn, fs, hk, rfl, rfl, ⟨sb, sc, rfl, hO⟩, HS, hd, hR⟩ := hrel
    obtain ⟨y0, y1, y2, y3⟩ := hd.cells
    by_cases hlt : k < N
    · have hkz : (k : Int) < (N : Int) := by omega
      obtain ⟨b1, o1, rfl, hb1, hc1⟩ := (hCV wr hR.but).cells (by omega)
      obtain ⟨x0, x1, x2⟩ := hc1 k hlt
      have hSh := l11Short_any g ao n cap f (col k).name (col k).type (col k).null wr hn (ht k hlt) hR.cur
      obtain ⟨c0, hc0⟩ : ∃ x, Hid ((col k).name = x) := ⟨_, rfl⟩
      obtain ⟨c1', hc1'⟩ : ∃ x, Hid ((col k).type = x) := ⟨_, rfl⟩
      obtain ⟨c2', hc2'⟩ : ∃ x, Hid ((col k).null = x) := ⟨_, rfl⟩
      rw [hc0.out, hc1'.out, hc2'.out] at hSh
      rw [hc0.out] at x0
      rw [hc1'.out] at x1
      rw [hc2'.out] at x2
      have HCV : Hid (∀ W, But g w W → CView W (some ⟨b1, o1, none⟩) N cc col) := hCV
      clear hc1 hCV
      go_wp2_with fail
      refine hSh.mono ?_
      rintro e w1 ⟨vk, vn, vs, rfl, hsv, hR1⟩
      have hO1 := own_but9 hO hR1.but hg
      have hd1 := hd.block (hR1.but.block _ hd.lt (by omega))
      have hR2 := hR1.drop hR
      have hcl := cells_one w1 vk vn vs
      have hbA : Below w1.heap.size w1 (w1.alloc (.cells #[.int .i64 vk, .int .i64 vn, .string vs] 58)) := (Below.refl _ _).alloc (Nat.le_refl _) _
      have hO2 := own_below3 hO1 hbA
      have hd2 := hd1.below hbA
      have hR3 := hR2.eff (T := 93) (Eff.ofBelow hbA)
      have hsz := hR2.size
      have HSN : Hid (∀ i, i < k + 1 → ShortV (col i).type (col i).null (upd fk k vk i) (upd fn k vn i) (upd fs k vs i)) := by
        intro i hi
        by_cases e : i < k
        · rw [upd_old e, upd_old e, upd_old e]; exact HS.out i e
        · obtain rfl : i = k := by omega
          rw [upd_new, upd_new, upd_new, hc1'.out, hc2'.out]; exact hsv
      have HD : Hid (V4 (w1.alloc (.cells #[.int .i64 vk, .int .i64 vn, .string vs] 58)) w.heap.size 36 (.string nm) (.slice (some ⟨b1, o1, none⟩) N cc) (.slice ap np cp) (.slice ai ni ci) ∧ Cr w g ao n cap f (w1.alloc (.cells #[.int .i64 vk, .int .i64 vn, .string vs] 58))) := ⟨hd2, hR3⟩
      have HO2 : Hid _ := hO2
      clear hSh hO hd hR hO1 hd1 hR1 hR2 hbA hd2 hR3 hsv y0 y1 y2 y3 x0 x1 x2 HS
      go_wp2_with (at_builtin; refine wpList_append_own _ rfl (.tmp 15) (.tmp 23) 25 rfl w.heap.size 58 i0 (.agg #[.int .i64 0, .int .i64 0, .string ⟨#[]⟩]) 3 32 Tryz.underlying25 hi hz0 hz1 hz2 rfl (by decide) _ _ _ rfl hO2 ⟨w1.heap.size, 0, none⟩ 1 1 [.int .i64 vk, .int .i64 vn, .string vs] rfl rfl hcl (one_cells _ _ _) (by unfold maxLen; omega) (by omega) (by simp; omega) ?_)
      intro v5 w4 hown5 hgr hnil
      obtain ⟨g', cap', rfl⟩ := own_succ9 hown5
      have hEf := Eff.grown HO2.out hgr
      have HR : Hid (w4.ownsRow w.heap.size 58 3 (.slice (some ⟨g', 0, none⟩) (k + 1) cap') (k + 1) (rowC (upd fk k vk) (upd fn k vn) (upd fs k vs) (k + 1)) ∧ V4 w4 w.heap.size 36 (.string nm) (.slice (some ⟨b1, o1, none⟩) N cc) (.slice ap np cp) (.slice ai ni ci) ∧ Cr w g ao n cap f w4) := by
        refine ⟨by rw [rowC_upd]; exact hown5, ?_, HD.out.2.eff hEf⟩
        obtain ⟨c, hb, hc⟩ := HD.out.1
        exact ⟨c, (hEf.ty _ _ _ _ hb (by decide)).trans hb, hc⟩
      clear hown5 hgr hnil hO2 hcl HD HO2 hEf
      go_wp2
      go_roundg (N - (k + 1))
      case measure => omega
      case rel => exact ⟨k + 1, _, _, _, by omega, rfl, by go_num, ⟨_, _, rfl, HR.out.1⟩, HSN, HR.out.2.1, HR.out.2.2⟩
    · have hkz : ¬ (k : Int) < (N : Int) := by omega
      obtain rfl : k = N := by omega
      have HR : Hid (wr.ownsRow w.heap.size 58 3 (.slice (some ⟨sb, 0, none⟩) k sc) k (rowC fk fn fs k) ∧ Cr w g ao n cap f wr) := ⟨hO, hR⟩
      clear hO hd hR hCV
      go_wp2
      go_ret
      exact ⟨_, _, fk, fn, fs, rfl, HR.out.1, HS.out, HR.out.2⟩
end Go.Proofs.YtkakkjnbhklfpaaGreatDoor

/-
  A new cursor, at an address that is named.
-/
namespace Go.Proofs.YtkakkjnbhklfpaaGreatDoor
open Go.RowKit
set_option maxRecDepth 4000

theorem l1New_at (A : Nat) (ao : Option Addr) (n cap : Nat) (f : Nat → Int) (w : World) (hA : A = w.heap.size) (hn : n ≤ 1048576) (hv : View w ao n cap f) :
    Calls Tryz.prog 23 #[.slice ao n cap] w fun e w' => e = .returned (.pointer (some ⟨A, 0, none⟩)) ∧ Cur w' A ao n cap f ∧ Below w.heap.size w w' := by
  subst hA
  exact l1New_any ao n cap f w hn hv
end Go.Proofs.YtkakkjnbhklfpaaGreatDoor

/-
  The model's DrawRows: a list of tables that is right, one of them, and two of its rows.
-/
namespace Go.Proofs.YtkakkjnbhklfpaaGreatDoor
open Go.RowKit
set_option maxRecDepth 4000

/-- Tables that are right, a table of them, and two rows. -/
def RowsTo (w : World) (e : Ending) (w' : World) : Prop :=
  ∃ (a : Option Addr) (n k : Nat) (F : Nat → PDef) (j : Nat) (b1 c1 b2 c2 : Nat) (fk fn : Nat → Int) (fs : Nat → ByteArray) (gk gn : Nat → Int) (gs : Nat → ByteArray),
    e = .returned (.tuple #[.slice a n k, .int .i64 j, .slice (some ⟨b1, 0, none⟩) (F j).nc c1, .slice (some ⟨b2, 0, none⟩) (F j).nc c2]) ∧ LView w' a n k F ∧ LFine n F ∧ firstF F n = -1 ∧ j < n
    ∧ (VView w' (some ⟨b1, 0, none⟩) (F j).nc c1 fk fn fs ∧ ∀ i, i < (F j).nc → ShortV ((F j).col i).type ((F j).col i).null (fk i) (fn i) (fs i))
    ∧ (VView w' (some ⟨b2, 0, none⟩) (F j).nc c2 gk gn gs ∧ ∀ i, i < (F j).nc → ShortV ((F j).col i).type ((F j).col i).null (gk i) (gn i) (gs i)) ∧ Below w.heap.size w w'

set_option maxRecDepth 20000 in
set_option maxHeartbeats 8000000 in
theorem drawRows_any (ao : Option Addr) (n cap : Nat) (f : Nat → Int) (w : World) (hn : n ≤ 1048576) (hv : View w ao n cap f) :
    Calls Tryz.prog 6 #[.slice ao n cap] w (RowsTo w) := by
  obtain ⟨g, hA⟩ : ∃ g, g = w.heap.size := ⟨_, rfl⟩
  go_enter Tryz.func6, Tryz.ntmps6
  go_wp2_with fail
  refine (l1New_at g ao n cap f w hA hn hv).mono ?_
  rintro e w1 ⟨rfl, hC1, hb1⟩
  have hg1 := hC1.lt
  have HA : Hid (g = w.heap.size) := hA
  clear hA
  go_wp2_with fail
  refine (l10DrawR_any g ao n cap f w1 hn hC1).mono ?_
  rintro e w2 ⟨ds, b, k, rfl, hT, hR, hl2, hF, hl0⟩
  have hBl := l1Below_any g ao n cap f (ds.length : Int) w2 hn (by omega) (by omega) hR.cur
  clear hC1
  go_wp2_with fail
  refine hBl.mono ?_
  rintro e w3 ⟨x, rfl, hx0, hx1, hC3, hO3⟩
  replace hT := hT.but (But.ofOnly hO3) hg1
  replace hR := hR.next hC3 (But.ofOnly hO3)
  clear hBl hC3 hO3
  obtain ⟨j, rfl⟩ : ∃ j : Nat, x = j := ⟨x.toNat, by omega⟩
  have hjn : j < ds.length := by omega
  have hjz : (j : Int) < (ds.length : Int) := by omega
  have hLF := hT.fine (by omega)
  have hck := (firstF_none hF).2.1 j hjn
  have hty := (good_nc hck).1
  have hnc6 := (good_nc hck).2.2
  obtain ⟨a', k', e', hLV⟩ := hT.view
  cases e'
  obtain ⟨bb, oo, eb, hbb, hcs⟩ := hLV.cells hl0
  cases eb
  obtain ⟨y1, y2, y3, x0, x1, x2, x3, hdv⟩ := hcs j hjn
  obtain ⟨ac, cc, ap, cp, ai, ci, -, rfl, rfl, rfl, -, -, -⟩ := hdv.parts
  simp only [Nat.zero_add] at x0 x1 x2 x3
  have HWK : Hid (∀ W, But g w3 W → (W.cell? ⟨b, j * 4, none⟩ = some (.string (atD ds j).name) ∧ W.cell? ⟨b, j * 4 + 1, none⟩ = some (.slice ac (atD ds j).nc cc) ∧ W.cell? ⟨b, j * 4 + 2, none⟩ = some (.slice ap (atD ds j).np cp) ∧ W.cell? ⟨b, j * 4 + 3, none⟩ = some (.slice ai (atD ds j).ni ci)) ∧ CView W ac (atD ds j).nc cc (atD ds j).col) := by
    intro W hb
    have hTW := hT.but hb hg1
    obtain ⟨V, hOV, hTV⟩ := hT.is
    obtain ⟨a2, k2, e2, hLW⟩ := hTW.view
    cases e2
    have hbne : b ≠ g := by
      have := own_ge9 hOV b (by simp [Value.ownBlock])
      omega
    have hblk := hb.block b hbb hbne
    refine ⟨⟨?_, ?_, ?_, ?_⟩, ?_⟩
    · rw [World.cell?_of_block (w := w3) (a := ⟨b, j * 4, none⟩) hblk]; exact x0
    · rw [World.cell?_of_block (w := w3) (a := ⟨b, j * 4 + 1, none⟩) hblk]; exact x1
    · rw [World.cell?_of_block (w := w3) (a := ⟨b, j * 4 + 2, none⟩) hblk]; exact x2
    · rw [World.cell?_of_block (w := w3) (a := ⟨b, j * 4 + 3, none⟩) hblk]; exact x3
    · obtain ⟨bw, ow, ew, -, hcw⟩ := hLW.cells hl0
      cases ew
      obtain ⟨z1, z2, z3, -, q1, q2, q3, hdw⟩ := hcw j hjn
      simp only [Nat.zero_add] at q1 q2 q3
      rw [World.cell?_of_block (w := w3) (a := ⟨b, j * 4 + 1, none⟩) hblk, x1] at q1
      cases q1
      obtain ⟨ac', cc', ap', cp', ai', ci', -, e1, -, -, hcv, -, -⟩ := hdw.parts
      cases e1
      exact hcv
  have HT : Hid (Tabs w1 (.slice (some ⟨b, 0, none⟩) ds.length k) ds w3 ∧ Cr w1 g ao n cap f w3) := ⟨hT, hR⟩
  have hcur := hR.cur
  have hgs := hR.size
  obtain ⟨D, hD⟩ : ∃ x, Hid (atD ds j = x) := ⟨_, rfl⟩
  simp only [hD.out] at HWK x0 x1 x2 x3 hty hnc6
  clear hT hR hcs hdv hLV hck
  go_wp2_with fail
  refine wp_region_held_drew (S := fun W => But g w3 W) (by kernel_rfl) ⟨rfl, rfl, rfl, Nat.le_refl _, fun _ _ _ => rfl⟩ (fun hHeld => ?_)
  have hS : But g w3 w3.drew := ⟨rfl, rfl, rfl, Nat.le_refl _, fun _ _ _ => rfl⟩
  have hC0 : Cur w3.drew g ao n cap f := hcur.below ((Below.refl _ _).drew)
  obtain ⟨wd, hwd⟩ : ∃ wd, Hid (wd = w3.drew) := ⟨_, rfl⟩
  rw [← hwd.out] at hS hHeld hC0 ⊢
  refine' wpAnyH_take (i := 0) (v := _) rfl (by kernel_rfl) (by kernel_rfl) (by kernel_rfl) (fun _ _ _ h => h) (Or.inl ⟨by kernel_rfl, ?hdr1⟩) (by assumption) ?rdr1
  case hdr1 => intro W hW; obtain ⟨⟨q0, q1, q2, q3⟩, -⟩ := HWK.out _ hW; go_simp; all_goals with_reducible rfl
  change wpAnyH _ _ _ _ _ _ _ (Act.put _ (some 17) _) _
  simp only [Act.put, List.setIfInBounds_toArray, List.set_cons_zero, List.set_cons_succ]
  refine' wpAnyH_take (i := 1) (v := _) rfl (by kernel_rfl) (by kernel_rfl) (by kernel_rfl) (fun _ _ _ h => h) (Or.inl ⟨by kernel_rfl, ?hdr2⟩) (by assumption) ?rdr2
  case hdr2 => intro W hW; obtain ⟨⟨q0, q1, q2, q3⟩, -⟩ := HWK.out _ hW; go_simp; all_goals with_reducible rfl
  change wpAnyH _ _ _ _ _ _ _ (Act.put _ (some 18) _) _
  simp only [Act.put, List.setIfInBounds_toArray, List.set_cons_zero, List.set_cons_succ]
  refine' wpAnyH_take (i := 2) (v := _) rfl (by kernel_rfl) (by kernel_rfl) (by kernel_rfl) (fun _ _ _ h => h) (Or.inl ⟨by kernel_rfl, ?hdr3⟩) (by assumption) ?rdr3
  case hdr3 => intro W hW; obtain ⟨⟨q0, q1, q2, q3⟩, -⟩ := HWK.out _ hW; go_simp; all_goals with_reducible rfl
  change wpAnyH _ _ _ _ _ _ _ (Act.put _ (some 19) _) _
  simp only [Act.put, List.setIfInBounds_toArray, List.set_cons_zero, List.set_cons_succ]
  refine' wpAnyH_take (i := 3) (v := _) rfl (by kernel_rfl) (by kernel_rfl) (by kernel_rfl) (fun _ _ _ h => h) (Or.inl ⟨by kernel_rfl, ?hdr4⟩) (by assumption) ?rdr4
  case hdr4 => intro W hW; obtain ⟨⟨q0, q1, q2, q3⟩, -⟩ := HWK.out _ hW; go_simp; all_goals with_reducible rfl
  change wpAnyH _ _ _ _ _ _ _ (Act.put _ (some 20) _) _
  simp only [Act.put, List.setIfInBounds_toArray, List.set_cons_zero, List.set_cons_succ]
  refine' wpAnyH_take (i := 4) (v := _) rfl (by kernel_rfl) (by kernel_rfl) (by kernel_rfl) (fun _ _ _ h => h) (Or.inl ⟨by kernel_rfl, ?hdr5⟩) (by assumption) ?rdr5
  case hdr5 => intro W hW; obtain ⟨⟨q0, q1, q2, q3⟩, -⟩ := HWK.out _ hW; go_simp; all_goals with_reducible rfl
  change wpAnyH _ _ _ _ _ _ _ (Act.put _ (some 21) _) _
  simp only [Act.put, List.setIfInBounds_toArray, List.set_cons_zero, List.set_cons_succ]
  refine' wpAnyH_take (i := 5) (v := _) rfl (by kernel_rfl) (by kernel_rfl) (by kernel_rfl) (fun _ _ _ h => h) (Or.inl ⟨by kernel_rfl, ?hdr6⟩) (by assumption) ?rdr6
  case hdr6 => intro W hW; obtain ⟨⟨q0, q1, q2, q3⟩, -⟩ := HWK.out _ hW; go_simp; all_goals with_reducible rfl
  change wpAnyH _ _ _ _ _ _ _ (Act.put _ (some 22) _) _
  simp only [Act.put, List.setIfInBounds_toArray, List.set_cons_zero, List.set_cons_succ]
  refine' wpAnyH_take (i := 6) (v := _) rfl (by kernel_rfl) (by kernel_rfl) (by kernel_rfl) (fun _ _ _ h => h) (Or.inl ⟨by kernel_rfl, ?hdr7⟩) (by assumption) ?rdr7
  case hdr7 => intro W hW; obtain ⟨⟨q0, q1, q2, q3⟩, -⟩ := HWK.out _ hW; go_simp; all_goals with_reducible rfl
  change wpAnyH _ _ _ _ _ _ _ (Act.put _ (some 23) _) _
  simp only [Act.put, List.setIfInBounds_toArray, List.set_cons_zero, List.set_cons_succ]
  refine' wpAnyH_take (i := 8) (v := _) rfl (by kernel_rfl) (by kernel_rfl) (by kernel_rfl) (fun _ _ _ h => h) (Or.inl ⟨by kernel_rfl, ?hdr8⟩) (by assumption) ?rdr8
  case hdr8 => intro W hW; obtain ⟨⟨q0, q1, q2, q3⟩, -⟩ := HWK.out _ hW; go_simp; all_goals with_reducible rfl
  change wpAnyH _ _ _ _ _ _ _ (Act.put _ (some 25) _) _
  simp only [Act.put, List.setIfInBounds_toArray, List.set_cons_zero, List.set_cons_succ]
  refine' wpAnyH_take (i := 9) (v := _) rfl (by kernel_rfl) (by kernel_rfl) (by kernel_rfl) (fun _ _ _ h => h) (Or.inl ⟨by kernel_rfl, ?hdr9⟩) (by assumption) ?rdr9
  case hdr9 => intro W hW; obtain ⟨⟨q0, q1, q2, q3⟩, -⟩ := HWK.out _ hW; go_simp; all_goals with_reducible rfl
  change wpAnyH _ _ _ _ _ _ _ (Act.put _ (some 26) _) _
  simp only [Act.put, List.setIfInBounds_toArray, List.set_cons_zero, List.set_cons_succ]
  refine' wpAnyH_take (i := 10) (v := _) rfl (by kernel_rfl) (by kernel_rfl) (by kernel_rfl) (fun _ _ _ h => h) (Or.inl ⟨by kernel_rfl, ?hdr10⟩) (by assumption) ?rdr10
  case hdr10 => intro W hW; obtain ⟨⟨q0, q1, q2, q3⟩, -⟩ := HWK.out _ hW; go_simp; all_goals with_reducible rfl
  change wpAnyH _ _ _ _ _ _ _ (Act.put _ (some 27) _) _
  simp only [Act.put, List.setIfInBounds_toArray, List.set_cons_zero, List.set_cons_succ]
  refine' wpAnyH_take (i := 11) (v := _) rfl (by kernel_rfl) (by kernel_rfl) (by kernel_rfl) (fun _ _ _ h => h) (Or.inl ⟨by kernel_rfl, ?hdr11⟩) (by assumption) ?rdr11
  case hdr11 => intro W hW; obtain ⟨⟨q0, q1, q2, q3⟩, -⟩ := HWK.out _ hW; go_simp; all_goals with_reducible rfl
  change wpAnyH _ _ _ _ _ _ _ (Act.put _ (some 28) _) _
  simp only [Act.put, List.setIfInBounds_toArray, List.set_cons_zero, List.set_cons_succ]
  refine' wpAnyH_take (i := 12) (v := _) rfl (by kernel_rfl) (by kernel_rfl) (by kernel_rfl) (fun _ _ _ h => h) (Or.inl ⟨by kernel_rfl, ?hdr12⟩) (by assumption) ?rdr12
  case hdr12 => intro W hW; obtain ⟨⟨q0, q1, q2, q3⟩, -⟩ := HWK.out _ hW; go_simp; all_goals with_reducible rfl
  change wpAnyH _ _ _ _ _ _ _ (Act.put _ (some 29) _) _
  simp only [Act.put, List.setIfInBounds_toArray, List.set_cons_zero, List.set_cons_succ]
  refine wpAnyH_ready (rs := [7]) (by kernel_rfl) (by simp) ?_
  refine AllReadyH.cons rfl (fun KK hK => ?_) AllReadyH.nil
  go_simp
  refine (l11Row_any g ao n cap f D.name ac D.nc cc D.col ap D.np cp ai D.ni ci wd hn (by omega) hty (fun W hb => (HWK.out W (hS.trans hb)).2) hC0).mono ?_
  rintro e w4 ⟨b4, c4, fk, fn, fs, rfl, hO4, hS4, hR4⟩
  have hB4 := hS.trans hR4.but
  have hgd : g < wd.heap.size := hR4.lt
  have hC4 := hR4.cur
  have HS4 : Hid (∀ i, i < D.nc → ShortV (D.col i).type (D.col i).null (fk i) (fn i) (fs i)) := hS4
  clear hS4 hC0
  go_wp2_with fail
  refine hK.out _ _ hB4 (fun hHeld => ?_)
  clear hK KK
  try simp only [Act.put, List.setIfInBounds_toArray, List.set_cons_zero, List.set_cons_succ]
  refine wpAnyH_ready (rs := [13]) (by kernel_rfl) (by simp) ?_
  refine AllReadyH.cons rfl (fun KK hK => ?_) AllReadyH.nil
  go_simp
  refine (l11Row_any g ao n cap f D.name ac D.nc cc D.col ap D.np cp ai D.ni ci w4 hn (by omega) hty (fun W hb => (HWK.out W (hB4.trans hb)).2) hC4).mono ?_
  rintro e w5 ⟨b5, c5, gk, gn, gs, rfl, hO5, hS5, hR5⟩
  have hB5 := hB4.trans hR5.but
  have hO4b := own_but9 hO4 hR5.but hgd
  have HR : Hid (RowsTo w (.returned (.tuple #[.slice (some ⟨b, 0, none⟩) ds.length k, .int .i64 j, .slice (some ⟨b4, 0, none⟩) D.nc c4, .slice (some ⟨b5, 0, none⟩) D.nc c5])) w5) := by
    have hT5 := HT.out.1.but hB5 hg1
    obtain ⟨a6, k6, e6, hL6⟩ := hT5.view
    cases e6
    obtain ⟨a7, k7, e7, hv7, -⟩ := vview_of_own hO4b
    cases e7
    obtain ⟨a8, k8, e8, hv8, -⟩ := vview_of_own hO5
    cases e8
    have hbw : Below w.heap.size w w5 := hb1.trans ((HT.out.2.but.trans hB5).below (by rw [HA.out]; exact Nat.le_refl _) hb1.size)
    refine ⟨_, ds.length, k, atD ds, j, b4, c4, b5, c5, fk, fn, fs, gk, gn, gs, ?_, hL6, hLF, hF, hjn, ?_, ?_, hbw⟩
    · rw [hD.out]
    · rw [hD.out]; exact ⟨hv7, HS4.out⟩
    · rw [hD.out]; exact ⟨hv8, hS5⟩
  clear hO4 hO5 hS5 hR5 hO4b
  go_wp2_with fail
  refine hK.out _ _ hB5 (fun hHeld => ?_)
  clear hK KK
  try simp only [Act.put, List.setIfInBounds_toArray, List.set_cons_zero, List.set_cons_succ]
  refine' wpAnyH_take (i := 14) (v := _) rfl (by kernel_rfl) (by kernel_rfl) (by kernel_rfl) (fun _ _ _ h => h) (Or.inl ⟨by kernel_rfl, ?hdr13⟩) (by assumption) ?rdr13
  case hdr13 => intro W hW; obtain ⟨⟨q0, q1, q2, q3⟩, -⟩ := HWK.out _ hW; go_simp; all_goals with_reducible rfl
  change wpAnyH _ _ _ _ _ _ _ (Act.put _ (some 2) _) _
  simp only [Act.put, List.setIfInBounds_toArray, List.set_cons_zero, List.set_cons_succ]
  refine' wpAnyH_take (i := 15) (v := _) rfl (by kernel_rfl) (by kernel_rfl) (by kernel_rfl) (fun _ _ _ h => h) (Or.inl ⟨by kernel_rfl, ?hdr14⟩) (by assumption) ?rdr14
  case hdr14 => intro W hW; obtain ⟨⟨q0, q1, q2, q3⟩, -⟩ := HWK.out _ hW; go_simp; all_goals with_reducible rfl
  change wpAnyH _ _ _ _ _ _ _ (Act.put _ (some 3) _) _
  simp only [Act.put, List.setIfInBounds_toArray, List.set_cons_zero, List.set_cons_succ]
  refine' wpAnyH_take (i := 16) (v := _) rfl (by kernel_rfl) (by kernel_rfl) (by kernel_rfl) (fun _ _ _ h => h) (Or.inl ⟨by kernel_rfl, ?hdr15⟩) (by assumption) ?rdr15
  case hdr15 => intro W hW; obtain ⟨⟨q0, q1, q2, q3⟩, -⟩ := HWK.out _ hW; go_simp; all_goals with_reducible rfl
  change wpAnyH _ _ _ _ _ _ _ (Act.put _ (some 4) _) _
  simp only [Act.put, List.setIfInBounds_toArray, List.set_cons_zero, List.set_cons_succ]
  refine' wpAnyH_take (i := 17) (v := _) rfl (by kernel_rfl) (by kernel_rfl) (by kernel_rfl) (fun _ _ _ h => h) (Or.inl ⟨by kernel_rfl, ?hdr16⟩) (by assumption) ?rdr16
  case hdr16 => intro W hW; obtain ⟨⟨q0, q1, q2, q3⟩, -⟩ := HWK.out _ hW; go_simp; all_goals with_reducible rfl
  change wpAnyH _ _ _ _ _ _ _ (Act.put _ (some 5) _) _
  simp only [Act.put, List.setIfInBounds_toArray, List.set_cons_zero, List.set_cons_succ]
  refine wpAnyH_done (by kernel_rfl) ?_ _
  clear hHeld
  go_wp2
  exact bodyPost_ret (v := .tuple #[.slice (some ⟨b, 0, none⟩) ds.length k, .int .i64 j, .slice (some ⟨b4, 0, none⟩) D.nc c4, .slice (some ⟨b5, 0, none⟩) D.nc c5]) (by simp [results, Tryz.results6, go_sem]) rfl HR.out
end Go.Proofs.YtkakkjnbhklfpaaGreatDoor

/-
  The model's l8Name: whether a text is a name.
-/
namespace Go.Proofs.YtkakkjnbhklfpaaGreatDoor
open Go.RowKit
set_option maxRecDepth 4000

theorem l1In_tok (x l m : Int) (w : World) :
    Calls Tryz.prog 70 #[.int .i64 x, .int .i64 l, .int .i64 m] w fun e w' => e = .returned (.bool (decide (l ≤ x) && decide (x ≤ m))) ∧ w = w' := by
  go_enter Tryz.func70, Tryz.ntmps70
  by_cases h : l ≤ x
  · have e1 : decide (l ≤ x) = true := by simpa using h
    go_wp2
    go_ret
    exact ⟨by simp [h], rfl⟩
  · have e1 : decide (l ≤ x) = false := by simpa using h
    go_wp2
    go_ret
    exact ⟨by simp, rfl⟩

theorem l8Small_any (c : Int) (w : World) (h0 : 0 ≤ c) (h1 : c ≤ 255) :
    Calls Tryz.prog 151 #[.int .u8 c] w fun e w' => e = .returned (.bool (small c)) ∧ w = w' := by
  have e : small c = (decide (97 ≤ c) && decide (c ≤ 122)) := by unfold small; simp
  rw [e]
  go_enter Tryz.func151, Tryz.ntmps151
  go_wp2_with fail
  refine (l1In_tok c 97 122 w).mono ?_
  rintro e w2 ⟨rfl, rfl⟩
  go_wp2
  go_ret
  exact ⟨rfl, rfl⟩
theorem l2Digit_tok (c : Int) (w : World) (h0 : 0 ≤ c) (h1 : c ≤ 255) :
    Calls Tryz.prog 152 #[.int .u8 c] w fun e w' => e = .returned (.bool (digit c)) ∧ w = w' := by
  have e : digit c = (decide (48 ≤ c) && decide (c ≤ 57)) := by unfold digit; simp
  rw [e]
  go_enter Tryz.func152, Tryz.ntmps152
  go_wp2_with fail
  refine (l1In_tok c 48 57 w).mono ?_
  rintro e w2 ⟨rfl, rfl⟩
  go_wp2
  go_ret
  exact ⟨rfl, rfl⟩

set_option maxHeartbeats 1000000 in
theorem l8Name_any (s : ByteArray) (w : World) (hs : s.size ≤ 281474976710656) :
    Calls Tryz.prog 121 #[.string s] w fun e w' => e = .returned (.bool (nameOk s)) ∧ w = w' := by
  go_enter Tryz.func121, Tryz.ntmps121
  go_wp2
  go_loopg [3] s.size (fun q i wr => ∃ k : Nat, k ≤ s.size ∧ q = s.size - k ∧ i = .int .i64 k ∧ wr = w ∧ (0 < k → small (bt s 0) = true) ∧ ∀ j, j < k → inName (bt s j) = true)
  case atStart => exact ⟨0, Nat.zero_le _, rfl, rfl, rfl, fun h => absurd h (Nat.lt_irrefl _), fun j hj => absurd hj (Nat.not_lt_zero _)⟩
  case round =>
    obtain ⟨k, hk, rfl, rfl, rfl, hs0, hall⟩ := hrel
    have HA : Hid ((0 < k → small (bt s 0) = true) ∧ ∀ j, j < k → inName (bt s j) = true) := ⟨hs0, hall⟩
    clear hs0 hall
    by_cases hlt : k < s.size
    · have hkz : (k : Int) < (s.size : Int) := by omega
      have hc := bt_at hlt
      have hbd := bt_bd s k
      obtain ⟨c, hcc⟩ : ∃ c, Hid (bt s k = c) := ⟨_, rfl⟩
      rw [hcc.out] at hc hbd
      have hS := l8Small_any c wr hbd.1 hbd.2
      have hD := l2Digit_tok c wr hbd.1 hbd.2
      go_wp2_with (rw [hc])
      refine hS.mono ?_
      cases hsm : small c with
      | true =>
        rintro e _ ⟨rfl, rfl⟩
        have HN : Hid ((0 < k + 1 → small (bt s 0) = true) ∧ ∀ j, j < k + 1 → inName (bt s j) = true) := by
          refine ⟨fun _ => ?_, fun j hj => ?_⟩
          · by_cases h0 : k = 0
            · subst h0; rw [hcc.out]; exact hsm
            · exact HA.out.1 (by omega)
          · by_cases e : j < k
            · exact HA.out.2 j e
            · obtain rfl : j = k := by omega
              rw [hcc.out]; unfold inName; rw [hsm]; rfl
        clear hS hD
        go_wp2
        go_roundg (s.size - (k + 1))
        case measure => omega
        case rel => exact ⟨k + 1, by omega, rfl, by go_num, rfl, HN.out.1, HN.out.2⟩
      | false =>
        rintro e _ ⟨rfl, rfl⟩
        by_cases h0 : k = 0
        · subst h0
          have HF : Hid (nameOk s = false) := by
            show _ = _
            unfold nameOk
            apply decide_eq_false
            rintro ⟨-, -, h, -⟩
            rw [hcc.out, hsm] at h; cases h
          clear hS hD
          go_wp2
          go_ret
          exact ⟨by rw [HF.out]; rfl, rfl⟩
        · have h0z : ((k : Int) == 0) = false := by simpa using h0
          clear hS
          go_wp2_with (rw [hc])
          refine hD.mono ?_
          cases hdg : digit c with
          | true =>
            rintro e _ ⟨rfl, rfl⟩
            have HN : Hid ((0 < k + 1 → small (bt s 0) = true) ∧ ∀ j, j < k + 1 → inName (bt s j) = true) := by
              refine ⟨fun _ => HA.out.1 (by omega), fun j hj => ?_⟩
              by_cases e : j < k
              · exact HA.out.2 j e
              · obtain rfl : j = k := by omega
                rw [hcc.out]; unfold inName; rw [hdg]; simp
            clear hD
            go_wp2
            go_roundg (s.size - (k + 1))
            case measure => omega
            case rel => exact ⟨k + 1, by omega, rfl, by go_num, rfl, HN.out.1, HN.out.2⟩
          | false =>
            rintro e _ ⟨rfl, rfl⟩
            have HF : Hid (nameOk s = false) := by
              show _ = _
              unfold nameOk
              apply decide_eq_false
              rintro ⟨-, -, -, h⟩
              have := h k hlt
              rw [hcc.out] at this
              unfold inName at this
              rw [hsm, hdg] at this; cases this
            clear hD
            go_wp2
            go_ret
            exact ⟨by rw [HF.out]; rfl, rfl⟩
    · have hkz : ¬ (k : Int) < (s.size : Int) := by omega
      obtain rfl : k = s.size := by omega
      have HF : Hid (nameOk s = (decide ((1 : Int) ≤ (s.size : Int)) && decide ((s.size : Int) ≤ 8))) := by
        show _ = _
        unfold nameOk
        by_cases h1 : 1 ≤ s.size
        · by_cases h2 : s.size ≤ 8
          · rw [decide_eq_true ⟨h1, h2, HA.out.1 (by omega), HA.out.2⟩]
            simp; omega
          · rw [decide_eq_false (fun h => h2 h.2.1)]
            simp; omega
        · rw [decide_eq_false (fun h => h1 h.1)]
          simp; omega
      go_wp2_with fail
      refine (l1In_tok _ 1 8 wr).mono ?_
      rintro e _ ⟨rfl, rfl⟩
      go_wp2
      go_ret
      exact ⟨by rw [HF.out]; rfl, rfl⟩

end Go.Proofs.YtkakkjnbhklfpaaGreatDoor

