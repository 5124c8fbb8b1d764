/-
  Together: Draw10, AnyKit9
-/
import Derived.Test.YtnpfgamlncfikaaGreatDoorDraw9Tab
import Derived.Test.YtnpfgamlncfikaaGreatDoorPackF32
import Derived.Test.YtnpfgamlncfikaaGreatDoorPackF12
import Derived.Test.YtnpfgamlncfikaaGreatDoorPackF24
import Derived.Test.YtnpfgamlncfikaaGreatDoorPackF10
import Derived.Test.YtnpfgamlncfikaaGreatDoorPackF3
import Derived.Laws.BytesArg
/-
  One or two drawn tables.
-/
namespace Go.Proofs.YtnpfgamlncfikaaGreatDoor
open Go.RowKit
set_option maxRecDepth 4000

/-- Tables that were drawn into a row of the call's own. -/
def DrewL (w : World) (g : Nat) (ao : Option Addr) (n cap : Nat) (f : Nat → Int) (lim : Nat) (e : Ending) (w' : World) : Prop :=
  ∃ (ds : List PDef) (b k : Nat), e = .returned (.slice (some ⟨b, 0, none⟩) ds.length k) ∧ Tabs w (.slice (some ⟨b, 0, none⟩) ds.length k) ds w' ∧ Cr w g ao n cap f w' ∧ ds.length ≤ lim
theorem Tabs.one {w W : World} {vc vp vi : Value} {D : PDef} {A C : Nat → Nat} (hw : w.heap.size ≤ W.heap.size) (h : Tb w vc vp vi D A C W) : Tabs w (.slice (some ⟨W.heap.size, 0, none⟩) [D].length 1) [D] (W.alloc (.cells #[.string D.name, vc, vp, vi] 35)) := by
  have h0 := World.ownsRow_lit (base := w.heap.size) (e := 35) (size := 4) W #[.string D.name, vc, vp, vi] 1 hw (by unfold maxLen; omega) rfl
  refine ⟨fun _ => (vc, vp, vi), by simpa [rowG, encD, atD] using h0, fun i hi => ⟨A, C, ?_⟩⟩
  obtain rfl : i = 0 := by simpa using hi
  exact h.below ((Below.refl _ _).alloc (Nat.le_refl _) _)
theorem Tabs.eff {w : World} {v : Value} {ds : List PDef} {W W' : World} {T : TypeId} (h : Tabs w v ds W) (e : Eff w T W W') (h0 : 35 ≠ T) (h1 : 67 ≠ T) (h2 : 70 ≠ T) (h3 : 73 ≠ T) : Tabs w v ds W' := by
  obtain ⟨V, a1, a2⟩ := h.is
  refine ⟨V, own_eff a1 e h0, fun i hi => ?_⟩
  obtain ⟨A, C, a3⟩ := a2 i hi
  exact ⟨A, C, a3.eff e h1 h2 h3⟩

set_option maxHeartbeats 8000000 in
theorem l10Draw_any (g : Nat) (ao : Option Addr) (n cap : Nat) (f : Nat → Int) (w : World) (hn : n ≤ 1048576) (hC : Cur w g ao n cap f) :
    Calls Tryz.prog 39 #[.pointer (some ⟨g, 0, none⟩)] w (DrewL w g ao n cap f 2) := by
  obtain ⟨iD, hiD⟩ := infoDef
  have hR0 := Cr.start hC
  have hg := hR0.lt
  have hD := l9Draw_any g ao n cap f ⟨#[116]⟩ w hn (by decide) hC
  clear hC hR0
  go_enter Tryz.func39, Tryz.ntmps39
  go_wp2_with fail
  refine hD.mono ?_
  rintro e w1 ⟨bc, cc, bp, cp, N, M, vi, rfl, D, A, C, hDn, hDc, hDp, -, -, -, hSl, hT, hR⟩
  obtain ⟨ai, ci, ei, -, -⟩ := iview_of_own hT.idx (fun i hi => (hT.pts.at_ i hi).view)
  subst ei
  have T1 := Tabs.one hR.size hT
  rw [hDn] at T1
  have hR1 := hR.eff (Eff.alloc w 35 w1 (.cells #[.string ⟨#[116]⟩, .slice (some ⟨bc, 0, none⟩) N cc, .slice (some ⟨bp, 0, none⟩) M cp, .slice ai D.ni ci] 35))
  have hO := l1Once_any g ao n cap f 3 _ hn (by omega) (by omega) hR1.cur
  have HT : Hid (Tabs w (.slice (some ⟨w1.heap.size, 0, none⟩) [D].length 1) [D] (w1.alloc (.cells #[.string ⟨#[116]⟩, .slice (some ⟨bc, 0, none⟩) N cc, .slice (some ⟨bp, 0, none⟩) M cp, .slice ai D.ni ci] 35)) ∧ Cr w g ao n cap f (w1.alloc (.cells #[.string ⟨#[116]⟩, .slice (some ⟨bc, 0, none⟩) N cc, .slice (some ⟨bp, 0, none⟩) M cp, .slice ai D.ni ci] 35))) := ⟨T1, hR1⟩
  obtain ⟨B, hB⟩ : ∃ x, Hid (w1.heap.size = x) := ⟨_, rfl⟩
  obtain ⟨N3, hN3⟩ : ∃ x, Hid (D.ni = x) := ⟨_, rfl⟩
  rw [hN3.out] at hO HT ⊢
  rw [hB.out] at HT
  have hBe : w1.heap.size = B := hB.out
  clear hD hT hR T1 hR1 hSl hDn hDc hDp
  go_wp2_with fail
  refine hO.mono ?_
  rintro e w2 ⟨ob, rfl, hCx, hOx⟩
  have T2 := HT.out.1.but (But.ofOnly hOx) hg
  have R2 := HT.out.2.next hCx (But.ofOnly hOx)
  clear hO HT hCx hOx hBe hB
  cases ob with
  | false =>
    have HR : Hid (DrewL w g ao n cap f 2 (.returned (.slice (some ⟨B, 0, none⟩) 1 1)) w2) := ⟨[D], B, 1, rfl, T2, R2, by simp⟩
    clear T2 R2
    go_wp2
    go_ret
    exact HR.out
  | true =>
    have hD := l9Draw_any g ao n cap f ⟨#[117]⟩ w2 hn (by decide) R2.cur
    have HT : Hid (Tabs w (.slice (some ⟨B, 0, none⟩) [D].length 1) [D] w2 ∧ Cr w g ao n cap f w2) := ⟨T2, R2⟩
    clear T2 R2
    go_wp2_with fail
    refine hD.mono ?_
    rintro e w3 ⟨bc', cc', bp', cp', N', M', vi', rfl, D', A', C', hDn, hDc, hDp, -, -, -, hSl, hT, hR⟩
    obtain ⟨ai', ci', ei, -, -⟩ := iview_of_own hT.idx (fun i hi => (hT.pts.at_ i hi).view)
    subst ei
    obtain ⟨T2, R2⟩ := HT.out
    have T3 := T2.but hR.but hg
    have R3 := R2.next hR.cur hR.but
    have hT3 := hT.down R2.size
    obtain ⟨N4, hN4⟩ : ∃ x, Hid (D'.ni = x) := ⟨_, rfl⟩
    rw [hN4.out] at hT3 ⊢
    have Bx : Below w3.heap.size w3 (w3.alloc (.cells #[.string ⟨#[117]⟩, .slice (some ⟨bc', 0, none⟩) N' cc', .slice (some ⟨bp', 0, none⟩) M' cp', .slice ai' N4 ci'] 35)) := (Below.refl _ _).alloc (Nat.le_refl _) _
    have T4 := T3.below Bx
    have hT4 := hT3.below Bx
    have R4 := R3.eff (Eff.ofBelow (T := 35) Bx)
    obtain ⟨V, hO6, hV6⟩ := T4.is
    have HOW := own_ge9 hO6
    have hcl := cells_def10 w3 ⟨#[117]⟩ (some ⟨bc', 0, none⟩) (some ⟨bp', 0, none⟩) ai' N' M' N4 cc' cp' ci'
    have HO6 : Hid _ := hO6
    have hsz := R3.size
    have HK : Hid ((∀ i, i < [D].length → ∃ A C, Tb w (V i).1 (V i).2.1 (V i).2.2 (atD [D] i) A C _) ∧ Tb w (.slice (some ⟨bc', 0, none⟩) N' cc') (.slice (some ⟨bp', 0, none⟩) M' cp') (.slice ai' N4 ci') D' A' C' _ ∧ Cr w g ao n cap f _) := ⟨hV6, hT4, R4⟩
    have hO6' : World.ownsRow _ w.heap.size 35 4 (.slice (some ⟨B, 0, none⟩) 1 1) 1 (rowG (encD (atD [D]) V) 1) := hO6
    clear hD hT hR HT T2 R2 T3 R3 hT3 T4 hT4 R4 hV6 hO6 Bx hSl hDc hDp
    go_wp2_with (at_builtin; refine wpList_append_own _ rfl (.tmp 9) (.tmp 12) 24 rfl w.heap.size 35 iD (.agg #[.string ⟨#[]⟩, .slice none 0 0, .slice none 0 0, .slice none 0 0]) 4 88 Tryz.underlying24 hiD.1 hiD.2.1 hiD.2.2.1 hiD.2.2.2 rfl (by decide) _ _ _ rfl hO6' ⟨w3.heap.size, 0, none⟩ 1 1 [.string ⟨#[117]⟩, .slice (some ⟨bc', 0, none⟩) N' cc', .slice (some ⟨bp', 0, none⟩) M' cp', .slice ai' N4 ci'] rfl rfl hcl (one_def10 _ _ _ _ _ _ _ _ _ _) (by unfold maxLen; omega) (by omega) (by simp; omega) ?_)
    intro v5 w9 hown5 hgr hnil
    obtain ⟨T6, hT6, R6⟩ := HK.out
    have e9 : Eff w 35 _ w9 := Eff.grown HO6.out hgr
    have T9 := Tabs.add T6 hT6 (v' := v5) (by rw [hDn]; exact hown5) e9
    have R9 := R6.eff e9
    obtain ⟨b9, c9, rfl⟩ := own_succ9 hown5
    have HR : Hid (DrewL w g ao n cap f 2 (.returned (.slice (some ⟨b9, 0, none⟩) 2 c9)) w9) := ⟨[D, D'], b9, c9, rfl, T9, R9, by simp⟩
    clear hown5 hgr hnil T6 hT6 R6 e9 T9 R9 HK HO6 HOW hcl hO6'
    go_wp2
    go_ret
    exact HR.out
end Go.Proofs.YtnpfgamlncfikaaGreatDoor

/-
  A drawn table that is turned: a column's field, a key, an index, fewer columns.
-/
namespace Go.Proofs.YtnpfgamlncfikaaGreatDoor
open Go.RowKit Go.Lib

/-- A table whose rows are the call's own (the blocks of parts may be anywhere). -/
structure Tw (w : World) (vc vp vi : Value) (D : PDef) (A C : Nat → Nat) (W : World) : Prop where
  cols : W.ownsRow w.heap.size 67 3 vc D.nc (rowG (encC D.col) D.nc)
  pri : W.ownsRow w.heap.size 70 2 vp D.np (rowG (encB D.pri) D.np)
  idx : W.ownsRow w.heap.size 73 3 vi D.ni (rowG (encI D.idx A C) D.ni)
  pt : ∀ i, i < D.ni → PtAt w (A i) (C i) (D.idx i) W
  sm : Sm D
theorem Tb.tw {w : World} {vc vp vi : Value} {D : PDef} {A C : Nat → Nat} {W : World} (h : Tb w vc vp vi D A C W) : Tw w vc vp vi D A C W := ⟨h.cols, h.pri, h.idx, h.pts.at_, h.sm⟩
theorem Tw.eff {w : World} {vc vp vi : Value} {D : PDef} {A C : Nat → Nat} {T : TypeId} {W W' : World} (h : Tw w vc vp vi D A C W) (e : Eff w T W W') (h1 : 67 ≠ T) (h2 : 70 ≠ T) (h3 : 73 ≠ T) : Tw w vc vp vi D A C W' :=
  ⟨own_eff h.cols e h1, own_eff h.pri e h2, own_eff h.idx e h3, fun i hi => ⟨own_eff (h.pt i hi).own e h2⟩, h.sm⟩
theorem Tw.but {w : World} {vc vp vi : Value} {D : PDef} {A C : Nat → Nat} {g : Nat} {W W' : World} (h : Tw w vc vp vi D A C W) (hb : But g W W') (hg : g < w.heap.size) : Tw w vc vp vi D A C W' :=
  ⟨own_but9 h.cols hb hg, own_but9 h.pri hb hg, own_but9 h.idx hb hg, fun i hi => ⟨own_but9 (h.pt i hi).own hb hg⟩, h.sm⟩
theorem Tw.view {w : World} {vc vp vi : Value} {D : PDef} {A C : Nat → Nat} {W : World} (h : Tw w vc vp vi D A C W) : DView W (.agg #[.string D.name, vc, vp, vi]) D := by
  obtain ⟨ac, cc, rfl, h1, -⟩ := cview_of_own h.cols
  obtain ⟨ap, cp, rfl, h2, -⟩ := bview_of_own h.pri
  obtain ⟨ai, ci, rfl, h3, -⟩ := iview_of_own h.idx (fun i hi => (h.pt i hi).view)
  exact ⟨ac, cc, ap, cp, ai, ci, rfl, h1, h2, h3⟩
/-- Of its columns only the first m. -/
theorem Tw.cut {w : World} {a : Option Addr} {cc m : Nat} {vp vi : Value} {D : PDef} {A C : Nat → Nat} {W : World} (h : Tw w (.slice a D.nc cc) vp vi D A C W) (hm : m ≤ D.nc) : DView W (.agg #[.string D.name, .slice a m cc, vp, vi]) { D with nc := m } := by
  obtain ⟨ac, cc', e, h1, -⟩ := cview_of_own h.cols
  cases e
  obtain ⟨ap, cp, rfl, h2, -⟩ := bview_of_own h.pri
  obtain ⟨ai, ci, rfl, h3, -⟩ := iview_of_own h.idx (fun i hi => (h.pt i hi).view)
  exact ⟨a, cc, ap, cp, ai, ci, rfl, h1.take hm, h2, h3⟩
theorem Sm.cut {D : PDef} (h : Sm D) {m : Nat} (hm : m ≤ D.nc) : Sm { D with nc := m } :=
  ⟨h.name, Nat.le_trans hm h.nc, fun i hi => h.col i (Nat.lt_of_lt_of_le hi hm), h.np, h.ni, h.idx⟩
/-- A cell of a row of the call's own is turned. -/
def put {α : Type} (f : Nat → α) (i : Nat) (x : α) (j : Nat) : α := if j = i then x else f j
theorem put_same {α : Type} (f : Nat → α) (i : Nat) (x : α) : put f i x i = x := if_pos rfl
theorem put_other {α : Type} (f : Nat → α) {i j : Nat} (x : α) (h : j ≠ i) : put f i x j = f j := if_neg h

/-- A column in the place of another that differs in one field. -/
theorem Tb.setCol {w : World} {bc cc : Nat} {vp vi : Value} {D : PDef} {A C : Nat → Nat} {W : World} (h : Tb w (.slice (some ⟨bc, 0, none⟩) D.nc cc) vp vi D A C W) {i j : Nat} (hi : i < D.nc) (hj : j < 3) (x : PCol) {u : Value} (hx : x.name.size ≤ 1000)
    (hn : [Value.string x.name, .int .i64 x.type, .bool x.null][j]? = some u) (ho : ∀ j', j' ≠ j → [Value.string x.name, .int .i64 x.type, .bool x.null][j']? = [Value.string (D.col i).name, .int .i64 (D.col i).type, .bool (D.col i).null][j']?) :
    Tb w (.slice (some ⟨bc, 0, none⟩) D.nc cc) vp vi { D with col := put D.col i x } A C (W.setCell ⟨bc, i * 3 + j, none⟩ u) ∧ Eff w 67 W (W.setCell ⟨bc, i * 3 + j, none⟩ u) := by
  have e : Eff w 67 W (W.setCell ⟨bc, i * 3 + j, none⟩ u) := by
    rcases h.cols.2 with ⟨e, _⟩ | ⟨g, k, cur, e, hb, hg, _⟩
    · cases e
    · cases e; exact Eff.set hb hg u
  refine ⟨⟨?_, own_eff h.pri e (by decide), own_eff h.idx e (by decide), h.pts.eff e (by decide), ⟨h.sm.name, h.sm.nc, fun q hq => ?_, h.sm.np, h.sm.ni, h.sm.idx⟩⟩, e⟩
  · refine own_setG (enc := encC D.col) (enc' := encC (put D.col i x)) (fun _ => rfl) (fun _ => rfl) h.cols hi hj ?_ (fun i' j' hne => ?_)
    · simp only [encC, put_same]; exact hn
    · by_cases e1 : i' = i
      · subst e1
        simp only [encC, put_same]
        exact ho j' (by rcases hne with h | h; exact absurd rfl h; exact h)
      · simp only [encC, put_other _ _ e1]
  · show (put D.col i x q).name.size ≤ 1000
    by_cases e1 : q = i
    · subst e1; rw [put_same]; exact hx
    · rw [put_other _ _ e1]; exact h.sm.col q hq
theorem Tb.setName {w : World} {vc vp vi : Value} {D : PDef} {A C : Nat → Nat} {W : World} (h : Tb w vc vp vi D A C W) (s : ByteArray) (hs : s.size ≤ 1000) : Tb w vc vp vi { D with name := s } A C W :=
  ⟨h.cols, h.pri, h.idx, h.pts, ⟨hs, h.sm.nc, h.sm.col, h.sm.np, h.sm.ni, h.sm.idx⟩⟩
/-- A part's cells. -/
theorem Tb.priAt {w : World} {bp cp : Nat} {vc vi : Value} {D : PDef} {A C : Nat → Nat} {W : World} (h : Tb w vc (.slice (some ⟨bp, 0, none⟩) D.np cp) vi D A C W) {i : Nat} (hi : i < D.np) :
    bp < W.heap.size ∧ D.np ≤ cp ∧ W.cell? ⟨bp, i * 2, none⟩ = some (.int .i64 (D.pri i).col) ∧ W.cell? ⟨bp, i * 2 + 1, none⟩ = some (.bool (D.pri i).desc) := by
  obtain ⟨a, k, e, hk, h1⟩ := own_cells (c := 2) (fun _ => rfl) h.pri
  cases e
  obtain ⟨g, ea, -, -, hg, hc⟩ := h1 (by omega)
  cases ea
  exact ⟨hg, hk, by simpa using hc i 0 _ hi rfl, by simpa using hc i 1 _ hi rfl⟩
/-- A longer key. -/
theorem Tb.growPri {w : World} {vc vp vi : Value} {D : PDef} {A C : Nat → Nat} {W W' : World} (h : Tb w vc vp vi D A C W) (x : PBy) {v' : Value} (hO : W'.ownsRow w.heap.size 70 2 v' (D.np + 1) (rowG (encB D.pri) D.np ++ [.int .i64 x.col, .bool x.desc])) (hg : W.grownBy W' vp.ownBlock) (hn : D.np + 1 ≤ 1000) :
    Tw w vc v' vi { D with np := D.np + 1, pri := upd D.pri D.np x } A C W' := by
  have e := Eff.grown h.pri hg
  refine ⟨own_eff h.cols e (by decide), ?_, own_eff h.idx e (by decide), (h.pts.grown hg).at_, ⟨h.sm.name, h.sm.nc, h.sm.col, hn, h.sm.ni, h.sm.idx⟩⟩
  show W'.ownsRow _ _ _ _ _ (rowG (encB (upd D.pri D.np x)) (D.np + 1))
  rw [rowG_updB]; exact hO
/-- Another key, in a row of its own. -/
theorem Tb.newPri {w : World} {vc vp vi : Value} {D : PDef} {A C : Nat → Nat} {W : World} (h : Tb w vc vp vi D A C W) (np : Nat) (pri : Nat → PBy) {v' : Value} (hO : W.ownsRow w.heap.size 70 2 v' np (rowG (encB pri) np)) (hn : np ≤ 1000) :
    Tw w vc v' vi { D with np := np, pri := pri } A C W :=
  ⟨h.cols, hO, h.idx, h.pts.at_, ⟨h.sm.name, h.sm.nc, h.sm.col, hn, h.sm.ni, h.sm.idx⟩⟩

/-- A number of one digit. -/
def oneB (c : Int) : ByteArray := strOfNums [c]
theorem oneB_size (c : Int) : (oneB c).size = 1 := by simp [oneB, strOfNums, ByteArray.size]
theorem conv_oneB (W : World) (N : Nat) (c : Int) (h : W.cell? ⟨N, 0, none⟩ = some (.int .u8 c)) : (convert 22 9 (.slice (some ⟨N, 0, none⟩) 1 1)).run Tryz.prog W = .ok (.string (oneB c)) W := by
  refine run_convert_bytes_arg W 22 5 Tryz.underlying22 Tryz.underlying5 N 0 1 1 [c] rfl ?_ 9 Tryz.underlying9
  intro i hi
  obtain rfl : i = 0 := by omega
  simpa using h
theorem l2Num_one (u : Nat) (w : World) (hu : u < 10) :
    Calls Tryz.prog 97 #[.int .i64 (u : Int)] w fun e w' => e = .returned (.string (oneB (48 + (u : Int)))) ∧ Below w.heap.size w w' := by
  have h0 : ¬ (u : Int) < 0 := by omega
  have hz : (u : Int) < 10 := by omega
  have hcv := fun W h => conv_oneB W w.heap.size (48 + (u : Int)) h
  have hw2 : IntKind.i64.wrap (48 + (u : Int)) = 48 + (u : Int) := by rw [IntKind.wrap_i64]; omega
  have hw3 : IntKind.u8.wrap (48 + (u : Int)) = 48 + (u : Int) := by rw [IntKind.wrap_u8]; omega
  go_enter Tryz.func97, Tryz.ntmps97
  go_wp2
  go_ret
  exact ⟨rfl, (Below.refl _ _).alloc (Nat.le_refl _) _⟩
end Go.Proofs.YtnpfgamlncfikaaGreatDoor

