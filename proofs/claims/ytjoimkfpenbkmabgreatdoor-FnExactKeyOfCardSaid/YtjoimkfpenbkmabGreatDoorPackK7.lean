/-
  Together: NamesImpl, PlanKit, RowUpd, GrowBy, PlanPlain11, JoinPlain, TokJoin, DefText
-/
import Derived.Test.YtjoimkfpenbkmabGreatDoorPackK6
import Derived.Test.YtjoimkfpenbkmabGreatDoorPackK3
import Derived.Deep.LoopGhost
import Derived.Lib.AppendZeros
import Derived.Test.YtjoimkfpenbkmabGreatDoorPackK1
import Derived.Test.YtjoimkfpenbkmabGreatDoorPackK2
/-
  The program's colNames, indexNames: the names, in a row of their own.
-/
namespace Go.Proofs.YtjoimkfpenbkmabGreatDoor
open Go.RowKit
set_option maxRecDepth 4000

theorem own_succ9 {W : World} {base T c k : Nat} {v : Value} {xs : List Value} (h : W.ownsRow base T c v (k + 1) xs) : ∃ g cap, v = .slice (some ⟨g, 0, none⟩) (k + 1) cap := by
  rcases h.2 with ⟨_, h0⟩ | ⟨g, cap, cur, e, _⟩
  · omega
  · exact ⟨g, cap, e⟩
theorem own_ge9 {W : World} {base T c N : Nat} {v : Value} {xs : List Value} (h : W.ownsRow base T c v N xs) : ∀ j, v.ownBlock = some j → base ≤ j := by
  intro j hj
  rcases h.2 with ⟨rfl, _⟩ | ⟨g, cap, cur, rfl, hb, _⟩
  · simp [Value.ownBlock] at hj
  · obtain rfl : g = j := by simpa [Value.ownBlock] using hj
    exact hb

set_option maxHeartbeats 2000000 in
theorem colNames_any (v : Value) (D : PDef) (w : World) (h : DView w v D) (hf : DFine D) :
    Calls Tryz.prog 138 #[v] w fun e w' => ∃ g c, e = .returned (.slice (some ⟨g, 0, none⟩) D.nc c) ∧ w'.ownsRow w.heap.size 9 1 (.slice (some ⟨g, 0, none⟩) D.nc c) D.nc (rowG (encS (fun i => (D.col i).name)) D.nc) ∧ Below w.heap.size w w' := by
  obtain ⟨i0, hi, hz0, hz1, hz2⟩ := infoStr
  have hnc := hf.nc
  clear hf
  obtain ⟨ac, cc, ap, cp, ai, ci, rfl, hcv, hpv, hiv⟩ := h.is
  clear h
  have hbA : Below w.heap.size w (w.alloc (.cells #[.string D.name, .slice ac D.nc cc, .slice ap D.np cp, .slice ai D.ni ci] 60)) := (Below.refl _ _).alloc (Nat.le_refl _) _
  have hbE : Below w.heap.size w ((w.alloc (.cells #[.string D.name, .slice ac D.nc cc, .slice ap D.np cp, .slice ai D.ni ci] 60)).alloc (.cells #[] 9)) := hbA.alloc (by simp) _
  have hO0 : ((w.alloc (.cells #[.string D.name, .slice ac D.nc cc, .slice ap D.np cp, .slice ai D.ni ci] 60)).alloc (.cells #[] 9)).ownsRow w.heap.size 9 1 (.slice (some ⟨w.heap.size + 1, 0, none⟩) 0 0) 0 (rowG (encS (fun i => (D.col i).name)) 0) := by
    have := World.ownsRow_lit (base := w.heap.size) (e := 9) (size := 1) (w.alloc (.cells #[.string D.name, .slice ac D.nc cc, .slice ap D.np cp, .slice ai D.ni ci] 60)) #[] 0 (by simp) (Nat.zero_le _) rfl
    simpa [rowG] using this
  have HV : Hid (CView w ac D.nc cc D.col) := hcv
  go_enter Tryz.func138, Tryz.ntmps138
  go_wp2
  go_loopg [10, 3] D.nc (fun q i s wr => ∃ k : Nat, k ≤ D.nc ∧ q = D.nc - k ∧ i = .int .i64 k ∧ (∃ g c, s = .slice (some ⟨g, 0, none⟩) k c) ∧ wr.ownsRow w.heap.size 9 1 s k (rowG (encS (fun i => (D.col i).name)) k) ∧ Below w.heap.size w wr)
  case atStart => exact ⟨0, Nat.zero_le _, rfl, rfl, ⟨_, _, rfl⟩, hO0, hbE⟩
  case round =>
    clear hO0 hbE hbA hcv hpv hiv
    obtain ⟨k, hk, rfl, rfl, ⟨sa, sc, rfl⟩, hO, hB⟩ := hrel
    by_cases hlt : k < D.nc
    · have hkz : (k : Int) < (D.nc : Int) := by omega
      obtain ⟨b1, o1, rfl, hb1, hcs⟩ := (HV.out.below hB).cells (by omega)
      obtain ⟨x0, x1, x2⟩ := hcs k hlt
      have hsz := hB.size
      have HN : Hid (rowG (encS (fun i => (D.col i).name)) (k + 1) = rowG (encS (fun i => (D.col i).name)) k ++ [.string (D.col k).name]) := rfl
      have HB : Hid (Below w.heap.size w wr) := hB
      obtain ⟨s0, hs0⟩ : ∃ x, Hid ((D.col k).name = x) := ⟨_, rfl⟩
      obtain ⟨R, hR⟩ : ∃ x, Hid (rowG (encS (fun i => (D.col i).name)) k = x) := ⟨_, rfl⟩
      rw [hs0.out] at x0 HN
      rw [hR.out] at HN hO
      obtain ⟨s1, hs1⟩ : ∃ x, Hid ((D.col k).type = x) := ⟨_, rfl⟩
      obtain ⟨s2, hs2⟩ : ∃ x, Hid ((D.col k).null = x) := ⟨_, rfl⟩
      rw [hs1.out] at x1
      rw [hs2.out] at x2
      clear hcs HV hB
      have hb2 : Below wr.heap.size wr ((wr.alloc (.cells #[.string s0, .int .i64 s1, .bool s2] 102)).alloc (.cells #[.string s0] 9)) := ((Below.refl _ _).alloc (Nat.le_refl _) _).alloc (by simp) _
      have hO2 := own_belowG hO hb2
      have hcl : ∀ j u, [Value.string s0][j]? = some u → ((wr.alloc (.cells #[.string s0, .int .i64 s1, .bool s2] 102)).alloc (.cells #[.string s0] 9)).cell? ((⟨wr.heap.size + 1, 0, none⟩ : Addr).add j) = some u := by
        intro j u hj
        match j, hj with
        | 0, hj => simp at hj; subst hj; simp [Addr.add]
      have HBB : Hid (Below wr.heap.size wr ((wr.alloc (.cells #[.string s0, .int .i64 s1, .bool s2] 102)).alloc (.cells #[.string s0] 9))) := hb2
      have HOW := own_ge9 hO
      go_wp2_with (at_builtin; refine wpList_append_own _ rfl (.tmp 14) (.tmp 17) 123 rfl w.heap.size 9 i0 (.string ⟨#[]⟩) 1 16 Tryz.underlying123 hi hz0 hz1 hz2 rfl (by decide) _ _ _ rfl hO2 ⟨wr.heap.size + 1, 0, none⟩ 1 1 [.string s0] rfl rfl hcl (by intro u hu; simp at hu; subst hu; rfl) (by unfold maxLen; omega) (by omega) (by simp; omega) ?_)
      intro v5 w2 hown5 hgr hnil
      obtain ⟨g', cap', rfl⟩ := own_succ9 hown5
      have HR : Hid (w2.ownsRow w.heap.size 9 1 (.slice (some ⟨g', 0, none⟩) (k + 1) cap') (k + 1) (rowG (encS (fun i => (D.col i).name)) (k + 1)) ∧ Below w.heap.size w w2) := by
        refine ⟨?_, ?_⟩
        · rw [HN.out]; exact hown5
        · exact (HB.out.trans (HBB.out.mono hsz)).grown hgr (by simp; omega) HOW
      clear hown5 hgr hnil hO hO2 hcl HOW hb2
      go_wp2
      go_roundg (D.nc - (k + 1))
      case measure => omega
      case rel => exact ⟨k + 1, by omega, rfl, by go_num, ⟨_, _, rfl⟩, HR.out.1, HR.out.2⟩
    · have hkz : ¬ (k : Int) < (D.nc : Int) := by omega
      obtain rfl : k = D.nc := by omega
      have HR : Hid (wr.ownsRow w.heap.size 9 1 (.slice (some ⟨sa, 0, none⟩) D.nc sc) D.nc (rowG (encS (fun i => (D.col i).name)) D.nc) ∧ Below w.heap.size w wr) := ⟨hO, hB⟩
      clear hO hB
      go_wp2
      go_ret
      exact ⟨_, _, rfl, HR.out.1, HR.out.2⟩

set_option maxHeartbeats 2000000 in
theorem indexNames_any (v : Value) (D : PDef) (w : World) (h : DView w v D) (hf : DFine D) :
    Calls Tryz.prog 139 #[v] w fun e w' => ∃ g c, e = .returned (.slice (some ⟨g, 0, none⟩) D.ni c) ∧ w'.ownsRow w.heap.size 9 1 (.slice (some ⟨g, 0, none⟩) D.ni c) D.ni (rowG (encS (fun i => (D.idx i).name)) D.ni) ∧ Below w.heap.size w w' := by
  obtain ⟨i0, hi, hz0, hz1, hz2⟩ := infoStr
  have hnc := hf.ni
  clear hf
  obtain ⟨ac, cc, ap, cp, ai, ci, rfl, hcv, hpv, hiv⟩ := h.is
  clear h
  have hbA : Below w.heap.size w (w.alloc (.cells #[.string D.name, .slice ac D.nc cc, .slice ap D.np cp, .slice ai D.ni ci] 60)) := (Below.refl _ _).alloc (Nat.le_refl _) _
  have hbE : Below w.heap.size w ((w.alloc (.cells #[.string D.name, .slice ac D.nc cc, .slice ap D.np cp, .slice ai D.ni ci] 60)).alloc (.cells #[] 9)) := hbA.alloc (by simp) _
  have hO0 : ((w.alloc (.cells #[.string D.name, .slice ac D.nc cc, .slice ap D.np cp, .slice ai D.ni ci] 60)).alloc (.cells #[] 9)).ownsRow w.heap.size 9 1 (.slice (some ⟨w.heap.size + 1, 0, none⟩) 0 0) 0 (rowG (encS (fun i => (D.idx i).name)) 0) := by
    have := World.ownsRow_lit (base := w.heap.size) (e := 9) (size := 1) (w.alloc (.cells #[.string D.name, .slice ac D.nc cc, .slice ap D.np cp, .slice ai D.ni ci] 60)) #[] 0 (by simp) (Nat.zero_le _) rfl
    simpa [rowG] using this
  have HV : Hid (IView w ai D.ni ci D.idx) := hiv
  go_enter Tryz.func139, Tryz.ntmps139
  go_wp2
  go_loopg [10, 3] D.ni (fun q i s wr => ∃ k : Nat, k ≤ D.ni ∧ q = D.ni - k ∧ i = .int .i64 k ∧ (∃ g c, s = .slice (some ⟨g, 0, none⟩) k c) ∧ wr.ownsRow w.heap.size 9 1 s k (rowG (encS (fun i => (D.idx i).name)) k) ∧ Below w.heap.size w wr)
  case atStart => exact ⟨0, Nat.zero_le _, rfl, rfl, ⟨_, _, rfl⟩, hO0, hbE⟩
  case round =>
    clear hO0 hbE hbA hcv hpv hiv
    obtain ⟨k, hk, rfl, rfl, ⟨sa, sc, rfl⟩, hO, hB⟩ := hrel
    by_cases hlt : k < D.ni
    · have hkz : (k : Int) < (D.ni : Int) := by omega
      obtain ⟨b1, o1, rfl, hb1, hcs⟩ := (HV.out.below hB).cells (by omega)
      obtain ⟨x0, x1, ap3, cp3, x2, -⟩ := hcs k hlt
      have hsz := hB.size
      have HN : Hid (rowG (encS (fun i => (D.idx i).name)) (k + 1) = rowG (encS (fun i => (D.idx i).name)) k ++ [.string (D.idx k).name]) := rfl
      have HB : Hid (Below w.heap.size w wr) := hB
      obtain ⟨s0, hs0⟩ : ∃ x, Hid ((D.idx k).name = x) := ⟨_, rfl⟩
      obtain ⟨R, hR⟩ : ∃ x, Hid (rowG (encS (fun i => (D.idx i).name)) k = x) := ⟨_, rfl⟩
      rw [hs0.out] at x0 HN
      rw [hR.out] at HN hO
      obtain ⟨s1, hs1⟩ : ∃ x, Hid ((D.idx k).uniq = x) := ⟨_, rfl⟩
      obtain ⟨s2, hs2⟩ : ∃ x, Hid ((D.idx k).n = x) := ⟨_, rfl⟩
      rw [hs1.out] at x1
      rw [hs2.out] at x2
      clear hcs HV hB
      have hb2 : Below wr.heap.size wr ((wr.alloc (.cells #[.string s0, .bool s1, .slice ap3 s2 cp3] 106)).alloc (.cells #[.string s0] 9)) := ((Below.refl _ _).alloc (Nat.le_refl _) _).alloc (by simp) _
      have hO2 := own_belowG hO hb2
      have hcl : ∀ j u, [Value.string s0][j]? = some u → ((wr.alloc (.cells #[.string s0, .bool s1, .slice ap3 s2 cp3] 106)).alloc (.cells #[.string s0] 9)).cell? ((⟨wr.heap.size + 1, 0, none⟩ : Addr).add j) = some u := by
        intro j u hj
        match j, hj with
        | 0, hj => simp at hj; subst hj; simp [Addr.add]
      have HBB : Hid (Below wr.heap.size wr ((wr.alloc (.cells #[.string s0, .bool s1, .slice ap3 s2 cp3] 106)).alloc (.cells #[.string s0] 9))) := hb2
      have HOW := own_ge9 hO
      go_wp2_with (at_builtin; refine wpList_append_own _ rfl (.tmp 14) (.tmp 17) 123 rfl w.heap.size 9 i0 (.string ⟨#[]⟩) 1 16 Tryz.underlying123 hi hz0 hz1 hz2 rfl (by decide) _ _ _ rfl hO2 ⟨wr.heap.size + 1, 0, none⟩ 1 1 [.string s0] rfl rfl hcl (by intro u hu; simp at hu; subst hu; rfl) (by unfold maxLen; omega) (by omega) (by simp; omega) ?_)
      intro v5 w2 hown5 hgr hnil
      obtain ⟨g', cap', rfl⟩ := own_succ9 hown5
      have HR : Hid (w2.ownsRow w.heap.size 9 1 (.slice (some ⟨g', 0, none⟩) (k + 1) cap') (k + 1) (rowG (encS (fun i => (D.idx i).name)) (k + 1)) ∧ Below w.heap.size w w2) := by
        refine ⟨?_, ?_⟩
        · rw [HN.out]; exact hown5
        · exact (HB.out.trans (HBB.out.mono hsz)).grown hgr (by simp; omega) HOW
      clear hown5 hgr hnil hO hO2 hcl HOW hb2
      go_wp2
      go_roundg (D.ni - (k + 1))
      case measure => omega
      case rel => exact ⟨k + 1, by omega, rfl, by go_num, ⟨_, _, rfl⟩, HR.out.1, HR.out.2⟩
    · have hkz : ¬ (k : Int) < (D.ni : Int) := by omega
      obtain rfl : k = D.ni := by omega
      have HR : Hid (wr.ownsRow w.heap.size 9 1 (.slice (some ⟨sa, 0, none⟩) D.ni sc) D.ni (rowG (encS (fun i => (D.idx i).name)) D.ni) ∧ Below w.heap.size w wr) := ⟨hO, hB⟩
      clear hO hB
      go_wp2
      go_ret
      exact ⟨_, _, rfl, HR.out.1, HR.out.2⟩
end Go.Proofs.YtjoimkfpenbkmabGreatDoor

/-
  Plans, plainly, and rows of parts of the call's own.
-/
namespace Go.Proofs.YtjoimkfpenbkmabGreatDoor
open Go.RowKit
set_option maxRecDepth 4000

/-- A part of a plan. -/
structure PPart where
  col : Int
  type : Int
  null : Bool
  desc : Bool
/-- The part of a column. -/
def ptOf (col : Nat → PCol) (b : PBy) : PPart := ⟨b.col, (col b.col.toNat).type, (col b.col.toNat).null, b.desc⟩
def plF (col : Nat → PCol) (l : Nat → PBy) (i : Nat) : PPart := ptOf col (l i)
def encQ (f : Nat → PPart) (i : Nat) : List Value := [.int .i64 (f i).col, .int .i64 (f i).type, .bool (f i).null, .bool (f i).desc]
theorem rowP_eq (f : Nat → PPart) : ∀ n, rowP (fun i => (f i).col) (fun i => (f i).type) (fun i => (f i).null) (fun i => (f i).desc) n = rowG (encQ f) n
  | 0 => rfl
  | n + 1 => by rw [rowP, rowG, rowP_eq f n]; rfl
/-- A row of parts reads. -/
abbrev QView (w : World) (a : Option Addr) (n cap : Nat) (f : Nat → PPart) : Prop := PView w a n cap (fun i => (f i).col) (fun i => (f i).type) (fun i => (f i).null) (fun i => (f i).desc)
theorem qview_of_own {w : World} {base g n c : Nat} {f : Nat → PPart} (h : w.ownsRow base 91 4 (.slice (some ⟨g, 0, none⟩) n c) n (rowG (encQ f) n)) : QView w (some ⟨g, 0, none⟩) n c f := by
  rw [← rowP_eq] at h
  obtain ⟨a, k, e, hv, -⟩ := pview_of_own h
  cases e
  exact hv
theorem infoPart11 : ∃ i, Tryz.prog.info? 91 = some i ∧ i.zero = some (.agg #[.int .i64 0, .int .i64 0, .bool false, .bool false]) ∧ i.size = 4 ∧ i.bytes = 24 := by
  have h : (Tryz.prog.info? 91).map (fun i => (i.zero, i.size, i.bytes)) = some (some (.agg #[.int .i64 0, .int .i64 0, .bool false, .bool false]), 4, 24) := by kernel_rfl
  obtain ⟨i, hi, hz⟩ := Option.map_eq_some_iff.1 h
  simp only [Prod.mk.injEq] at hz
  exact ⟨i, hi, hz.1, hz.2.1, hz.2.2⟩
theorem cells_part11 (W : World) (c t : Int) (u d : Bool) : ∀ j x, [Value.int .i64 c, .int .i64 t, .bool u, .bool d][j]? = some x → (W.alloc (.cells #[.int .i64 c, .int .i64 t, .bool u, .bool d] 91)).cell? ((⟨W.heap.size, 0, none⟩ : Addr).add j) = some x := by
  intro j u h
  have ea : ∀ j, (⟨W.heap.size, 0, none⟩ : Addr).add j = ⟨W.heap.size, 0 + j, none⟩ := fun j => by unfold Addr.add; split <;> simp_all
  match j, h with
  | 0, h => cases h; rw [ea]; simp
  | 1, h => cases h; rw [ea]; simp [go_sem]
  | 2, h => cases h; rw [ea]; simp [go_sem]
  | 3, h => cases h; rw [ea]; simp [go_sem]
  | j + 4, h => simp at h
theorem one_part11 (c t : Int) (u d : Bool) : ∀ x ∈ [Value.int .i64 c, .int .i64 t, .bool u, .bool d], x.oneCell' = true := by
  intro x hx
  simp at hx
  rcases hx with rfl | rfl | rfl | rfl <;> rfl
theorem own_nil11 (w : World) (f : Nat → PPart) : (w.alloc (.cells #[] 91)).ownsRow w.heap.size 91 4 (.slice (some ⟨w.heap.size, 0, none⟩) 0 0) 0 (rowG (encQ f) 0) := by
  have := World.ownsRow_lit (base := w.heap.size) (e := 91) (size := 4) w #[] 0 (Nat.le_refl _) (Nat.zero_le _) rfl
  simpa [rowG] using this
end Go.Proofs.YtjoimkfpenbkmabGreatDoor

/-
  A function of the index, with one value more.
-/
namespace Go.Proofs.YtjoimkfpenbkmabGreatDoor
open Go.RowKit
set_option maxRecDepth 4000

def upd {α : Type} (f : Nat → α) (k : Nat) (x : α) : Nat → α := fun i => if i = k then x else f i
theorem upd_old {α : Type} {f : Nat → α} {k i : Nat} {x : α} (h : i < k) : upd f k x i = f i := if_neg (by omega)
theorem upd_new {α : Type} {f : Nat → α} {k : Nat} {x : α} : upd f k x k = x := if_pos rfl
theorem rowG_updB (f : Nat → PBy) (k : Nat) (x : PBy) : rowG (encB (upd f k x)) (k + 1) = rowG (encB f) k ++ [.int .i64 x.col, .bool x.desc] := by
  rw [rowG, rowG_congr (enc' := encB f) (fun i hi => by simp [encB, upd_old hi])]
  simp [encB, upd_new]
theorem cells_by9 (W : World) (c : Int) (d : Bool) : ∀ j u, [Value.int .i64 c, .bool d][j]? = some u → (W.alloc (.cells #[.int .i64 c, .bool d] 104)).cell? ((⟨W.heap.size, 0, none⟩ : Addr).add j) = some u := by
  intro j u h
  have ea : ∀ j, (⟨W.heap.size, 0, none⟩ : Addr).add j = ⟨W.heap.size, 0 + j, none⟩ := fun j => by unfold Addr.add; split <;> simp_all
  match j, h with
  | 0, h => cases h; rw [ea]; simp
  | 1, h => cases h; rw [ea]; simp [go_sem]
  | j + 2, h => simp at h
theorem one_by9 (c : Int) (d : Bool) : ∀ u ∈ [Value.int .i64 c, .bool d], u.oneCell' = true := by
  intro u hu
  simp at hu
  rcases hu with rfl | rfl <;> rfl
end Go.Proofs.YtjoimkfpenbkmabGreatDoor

/-
  slices.Concat of two rows of parts: a row of the call's own, one behind the other.
-/
namespace Go.Proofs.YtjoimkfpenbkmabGreatDoor
open Go.RowKit
set_option maxRecDepth 4000

theorem infoBy11 : ∃ i, Tryz.prog.info? 104 = some i ∧ i.zero = some (.agg #[.int .i64 0, .bool false]) ∧ i.size = 2 ∧ i.bytes = 16 := by
  have h : (Tryz.prog.info? 104).map (fun i => (i.zero, i.size, i.bytes)) = some (some (.agg #[.int .i64 0, .bool false]), 2, 16) := by kernel_rfl
  obtain ⟨i, hi, hz⟩ := Option.map_eq_some_iff.1 h
  simp only [Prod.mk.injEq] at hz
  exact ⟨i, hi, hz.1, hz.2.1, hz.2.2⟩

set_option maxHeartbeats 2000000 in
theorem growBy_any (n : Nat) (w : World) (h0 : 0 < n) (hn : n ≤ 4194304) :
    Calls Tryz.prog 116 #[.slice none 0 0, .int .i64 n] w fun e w' => ∃ g c, e = .returned (.slice (some ⟨g, 0, none⟩) 0 c) ∧ w'.ownsRow w.heap.size 104 2 (.slice (some ⟨g, 0, none⟩) 0 c) 0 [] ∧ Below w.heap.size w w' := by
  obtain ⟨i0, hi, hz0, hz1, hz2⟩ := infoBy11
  have h1 : ¬ ((n : Int) < 0) := by omega
  have h2 : wrap64 ((0 : Int) - (0 : Int)) = 0 := by unfold wrap64; omega
  have h3 : wrap64 ((n : Int) - 0) = (n : Int) := by unfold wrap64; omega
  have h4 : (n : Int) > 0 := by omega
  have hrz := fun ty => Lib.run_append_nil_zeros (P := Tryz.prog) w 57 3 ty 104 i0 (.agg #[.int .i64 0, .bool false]) .i64 .i64 Tryz.underlying57 Tryz.underlying3 hi hz0 n h0 (by omega) (by omega) (by rw [hz2]; omega)
  have hG1 : n ≤ grownCap w n 0 104 := grownCap_ge w _ _ _
  have hG2 : grownCap w n 0 104 ≤ maxLen := grownCap_le_maxLen w n 0 104 (by unfold maxLen; omega)
  obtain ⟨G, hG⟩ : ∃ G, G = grownCap w n 0 104 := ⟨_, rfl⟩
  rw [← hG] at hG1 hG2
  simp only [← hG] at hrz
  have HS : Hid ((Builtin.zeroCells (Value.agg #[.int .i64 0, .bool false]).cells n ++ Builtin.zeroCells (Value.agg #[.int .i64 0, .bool false]).cells (G - n)).size = G * 2) := by
    show _ = _
    simp [Builtin.zeroCells, Value.cells]
    omega
  obtain ⟨cs, hcs⟩ : ∃ cs, Hid (Builtin.zeroCells (Value.agg #[.int .i64 0, .bool false]).cells n ++ Builtin.zeroCells (Value.agg #[.int .i64 0, .bool false]).cells (G - n) = cs) := ⟨_, rfl⟩
  rw [hcs.out] at HS
  simp only [hcs.out] at hrz
  have HB : Hid (Below w.heap.size w (w.drew.alloc (.cells cs 104))) := ((Below.refl _ _).drew).alloc (by simp) _
  have HO : Hid ((w.drew.alloc (.cells cs 104)).ownsRow w.heap.size 104 2 (.slice (some ⟨w.heap.size, 0, none⟩) 0 G) 0 []) := by
    refine ⟨rfl, .inr ⟨w.heap.size, G, cs, rfl, Nat.le_refl _, ?_, Nat.zero_le _, hG2, by rw [HS.out], by simp⟩⟩
    exact heap_alloc_new w.drew (.cells cs 104)
  have hGz : (0 : Int) ≤ (G : Int) := by omega
  unfold maxLen at hG2
  clear hcs hz0 hz1 hz2 hi hG
  go_enter Tryz.func116, Tryz.ntmps116
  go_wp2_with (at_builtin; refine Lib.wpList_append_run _ rfl _ _ _ _ rfl _ _ rfl rfl _ _ (hrz _) ?_)
  go_ret
  exact ⟨_, _, rfl, HO.out, HB.out⟩

theorem rowB_len (f : Nat → PBy) (n : Nat) : (rowG (encB f) n).length = n * 2 := rowG_len (c := 2) (fun _ => rfl) n
theorem rowB_get {f : Nat → PBy} {n q : Nat} {u : Value} (h : (rowG (encB f) n)[q]? = some u) : ∃ i j, i < n ∧ j < 2 ∧ q = i * 2 + j ∧ (encB f i)[j]? = some u := by
  have hq : q < n * 2 := by
    have := (List.getElem?_eq_some_iff.1 h).1
    rwa [rowB_len] at this
  refine ⟨q / 2, q % 2, by omega, by omega, by omega, ?_⟩
  have h1 := rowG_get (enc := encB f) (c := 2) (fun _ => rfl) n (q / 2) (q % 2) (by omega) (by omega)
  rw [show q / 2 * 2 + q % 2 = q by omega, h] at h1
  exact h1.symm
theorem rowB_one {f : Nat → PBy} {n : Nat} : ∀ u ∈ rowG (encB f) n, u.oneCell' = true := by
  intro u hu
  obtain ⟨q, hq⟩ := List.mem_iff_getElem?.1 hu
  obtain ⟨i, j, hi, hj, -, h⟩ := rowB_get hq
  have hj' : j = 0 ∨ j = 1 := by omega
  rcases hj' with rfl | rfl
  · simp [encB] at h; subst h; rfl
  · simp [encB] at h; subst h; rfl
/-- What is appended, where it lies. -/
theorem bview_cells11 {W : World} {b o n c : Nat} {f : Nat → PBy} (h : BView W (some ⟨b, o, none⟩) n c f) : ∀ q u, (rowG (encB f) n)[q]? = some u → W.cell? ((⟨b, o, none⟩ : Addr).add q) = some u := by
  intro q u hq
  obtain ⟨i, j, hi, hj, rfl, hu⟩ := rowB_get hq
  obtain ⟨b', o', e, _, hc⟩ := h.cells (by omega)
  cases e
  obtain ⟨c0, c1⟩ := hc i hi
  have ea : ∀ q, (⟨b, o, none⟩ : Addr).add q = ⟨b, o + q, none⟩ := fun q => by unfold Addr.add; split <;> simp_all
  rw [ea]
  have hj' : j = 0 ∨ j = 1 := by omega
  rcases hj' with rfl | rfl
  · simp [encB] at hu; subst hu; exact c0
  · simp [encB] at hu; subst hu; rw [show o + (i * 2 + 1) = o + i * 2 + 1 by omega]; exact c1
/-- Two rows, one behind the other. -/
def catB (f0 : Nat → PBy) (n0 : Nat) (f1 : Nat → PBy) (i : Nat) : PBy := if i < n0 then f0 i else f1 (i - n0)
theorem rowB_cat (f0 : Nat → PBy) (n0 : Nat) (f1 : Nat → PBy) : ∀ n1, rowG (encB f0) n0 ++ rowG (encB f1) n1 = rowG (encB (catB f0 n0 f1)) (n0 + n1)
  | 0 => by
    rw [rowG, List.append_nil]
    exact rowG_congr (fun i hi => by simp [encB, catB, hi])
  | n1 + 1 => by
    rw [rowG, ← List.append_assoc, rowB_cat f0 n0 f1 n1]
    show _ = rowG (encB (catB f0 n0 f1)) (n0 + n1) ++ encB (catB f0 n0 f1) (n0 + n1)
    simp [encB, catB, show ¬ n0 + n1 < n0 by omega]
/-- A row that was put behind a row of the call's own. -/
theorem grown11 {w W W' : World} {T c n m g k : Nat} {v : Value} {xs ys : List Value} (hb : Below w.heap.size w W) (hO : W.ownsRow w.heap.size T c (.slice (some ⟨g, 0, none⟩) n k) n xs) (hO2 : W'.ownsRow w.heap.size T c v m ys) (hgr : W.grownBy W' (Value.slice (some ⟨g, 0, none⟩) n k).ownBlock)
    (hnil : ¬ v = .slice none 0 0) : (∃ g' k', v = .slice (some ⟨g', 0, none⟩) m k') ∧ Below w.heap.size w W' := by
  refine ⟨?_, hb.grown hgr hb.size (own_ge9 hO)⟩
  rcases hO2.2 with ⟨e, _⟩ | ⟨g', k', _, e, _⟩
  · exact absurd e hnil
  · exact ⟨g', k', e⟩

set_option maxHeartbeats 4000000 in
theorem concatBy_any (B b0 o0 n0 c0 b1 o1 n1 c1 : Nat) (f0 f1 : Nat → PBy) (w : World)
    (x0 : w.cell? ⟨B, 0, none⟩ = some (.slice (some ⟨b0, o0, none⟩) n0 c0)) (x1 : w.cell? ⟨B, 1, none⟩ = some (.slice (some ⟨b1, o1, none⟩) n1 c1)) (hB : B < w.heap.size)
    (v0 : BView w (some ⟨b0, o0, none⟩) n0 c0 f0) (v1 : BView w (some ⟨b1, o1, none⟩) n1 c1 f1) (h0 : 0 < n0) (l0 : n0 ≤ 1048576) (l1 : n1 ≤ 1048576) :
    Calls Tryz.prog 91 #[.slice (some ⟨B, 0, none⟩) 2 2] w fun e w' => ∃ g c, e = .returned (.slice (some ⟨g, 0, none⟩) (n0 + n1) c) ∧ w'.ownsRow w.heap.size 104 2 (.slice (some ⟨g, 0, none⟩) (n0 + n1) c) (n0 + n1) (rowG (encB (catB f0 n0 f1)) (n0 + n1)) ∧ Below w.heap.size w w' := by
  obtain ⟨i0, hi, hz0, hz1, hz2⟩ := infoBy11
  have hG := growBy_any (n0 + n1) w (by omega) (by omega)
  have e1 : ((n0 + n1 : Nat) : Int) = (n0 : Int) + n1 := by omega
  rw [e1] at hG
  have k1 : ¬ ((0 : Int) + n0 < 0) := by omega
  have k2 : ¬ ((n0 : Int) + n1 < 0) := by omega
  go_enter Tryz.func91, Tryz.ntmps91
  go_wp2
  refine wp_loop_rounds 3 ?_
  rw [rounds_succ]
  go_wp2
  rw [rounds_succ]
  go_wp2
  rw [rounds_succ]
  go_wp2_with fail
  refine hG.mono ?_
  rintro e w1 ⟨g, c, rfl, hO1, hb1⟩
  have s1 := hb1.size
  rw [← hb1.cell (p := ⟨B, 0, none⟩) hB] at x0
  rw [← hb1.cell (p := ⟨B, 1, none⟩) hB] at x1
  have HX : Hid (w1.cell? ⟨B, 1, none⟩ = some (.slice (some ⟨b1, o1, none⟩) n1 c1)) := x1
  have hV0 := bview_cells11 (v0.below hb1)
  clear hG k1 k2 x1
  go_wp2
  refine wp_loop_rounds 3 ?_
  rw [rounds_succ]
  go_wp2_with (at_builtin; refine wpList_append_own _ rfl (.tmp 31) (.tmp 32) 57 rfl w.heap.size 104 i0 (.agg #[.int .i64 0, .bool false]) 2 16 Tryz.underlying57 hi hz0 hz1 hz2 rfl (by decide) _ _ _ rfl hO1 ⟨b0, o0, none⟩ n0 c0 (rowG (encB f0) n0) rfl (by rw [rowB_len]) hV0 rowB_one (by unfold maxLen; omega) (by omega) (by omega) ?_)
  intro u2 w2 hO2 hgr2 hnil2
  obtain ⟨⟨g2', k2', rfl⟩, hb2⟩ := grown11 hb1 hO1 hO2 hgr2 hnil2
  have s2 := hb2.size
  have x1 : w2.cell? ⟨B, 1, none⟩ = some (.slice (some ⟨b1, o1, none⟩) n1 c1) := by rw [hb2.cell (p := ⟨B, 1, none⟩) hB, ← hb1.cell (p := ⟨B, 1, none⟩) hB]; exact HX.out
  have hV1 := bview_cells11 (v1.below hb2)
  clear hV0 hO1 hgr2 hnil2 x0 HX hb1 s1 v0 v1
  go_wp2
  rw [rounds_succ]
  go_wp2_with (at_builtin; refine wpList_append_own _ rfl (.tmp 31) (.tmp 32) 57 rfl w.heap.size 104 i0 (.agg #[.int .i64 0, .bool false]) 2 16 Tryz.underlying57 hi hz0 hz1 hz2 rfl (by decide) _ _ _ rfl hO2 ⟨b1, o1, none⟩ n1 c1 (rowG (encB f1) n1) rfl (by rw [rowB_len]) hV1 rowB_one (by unfold maxLen; omega) (by omega) (by omega) ?_)
  intro u3 w3 hO3 hgr3 hnil3
  obtain ⟨⟨g3', k3', rfl⟩, hb3⟩ := grown11 hb2 hO2 hO3 hgr3 hnil3
  have HR : Hid (w3.ownsRow w.heap.size 104 2 (.slice (some ⟨g3', 0, none⟩) (n0 + n1) k3') (n0 + n1) (rowG (encB (catB f0 n0 f1)) (n0 + n1)) ∧ Below w.heap.size w w3) := ⟨by rw [← rowB_cat]; simpa using hO3, hb3⟩
  clear hV1 hO2 hO3 hgr3 hnil3 x1 hb3 s2
  go_wp2
  rw [rounds_succ]
  go_wp2
  go_ret
  exact ⟨_, _, rfl, HR.out.1, HR.out.2⟩
end Go.Proofs.YtjoimkfpenbkmabGreatDoor

/-
  The three plans of a table, plainly.
-/
namespace Go.Proofs.YtjoimkfpenbkmabGreatDoor
open Go.RowKit
set_option maxRecDepth 4000

def priN (D : PDef) : Nat := if checkF D = 0 then D.np else 0
def idxN (D : PDef) (i : Int) : Nat := if checkF D = 0 ∧ 0 ≤ i ∧ i < D.ni then (D.idx i.toNat).n + D.np else 0
def ixpL (D : PDef) (i : Int) : Nat → PBy := catB (D.idx i.toNat).part (D.idx i.toNat).n D.pri
def rowN (D : PDef) : Nat := if checkF D = 0 then D.nc else 0
def allL (i : Nat) : PBy := ⟨i, false⟩
theorem good_pri {D : PDef} (h : checkF D = 0) : partsF D.nc D.np D.pri = true := by
  obtain ⟨-, -, -, -, h5, -⟩ := checkF_good h
  unfold allPartsF at h5
  exact (of_decide_eq_true h5).2
theorem good_idx {D : PDef} (h : checkF D = 0) {i : Nat} (hi : i < D.ni) : partsF D.nc (D.idx i).n (D.idx i).part = true := by
  obtain ⟨-, -, -, -, h5, -⟩ := checkF_good h
  unfold allPartsF at h5
  exact (of_decide_eq_true h5).1 i hi
theorem good_nc {D : PDef} (h : checkF D = 0) : (∀ i, i < D.nc → 1 ≤ (D.col i).type ∧ (D.col i).type ≤ 4) ∧ 1 ≤ D.nc ∧ D.nc ≤ 6 := by
  obtain ⟨-, h2, -⟩ := checkF_good h
  unfold typesF at h2
  exact of_decide_eq_true h2
theorem cat_in {nc n0 n1 : Nat} {f0 f1 : Nat → PBy} (h0 : ∀ i, i < n0 → 0 ≤ (f0 i).col ∧ (f0 i).col < nc) (h1 : ∀ i, i < n1 → 0 ≤ (f1 i).col ∧ (f1 i).col < nc) : ∀ i, i < n0 + n1 → 0 ≤ (catB f0 n0 f1 i).col ∧ (catB f0 n0 f1 i).col < nc := by
  intro i hi
  unfold catB
  by_cases e : i < n0
  · rw [if_pos e]; exact h0 i e
  · rw [if_neg e]; exact h1 _ (by omega)
/-- What a call that makes a plan comes to. -/
def PlanTo (w : World) (n : Nat) (f : Nat → PPart) (e : Ending) (w' : World) : Prop := ∃ g c, e = .returned (.slice (some ⟨g, 0, none⟩) n c) ∧ w'.ownsRow w.heap.size 91 4 (.slice (some ⟨g, 0, none⟩) n c) n (rowG (encQ f) n) ∧ Below w.heap.size w w'
theorem own_low {W : World} {base base' T c N : Nat} {v : Value} {xs : List Value} (h : W.ownsRow base T c v N xs) (hb : base' ≤ base) : W.ownsRow base' T c v N xs := by
  refine ⟨h.1, ?_⟩
  rcases h.2 with ⟨e, h0⟩ | ⟨g, k, cur, e, hb0, hr⟩
  · exact .inl ⟨e, h0⟩
  · exact .inr ⟨g, k, cur, e, by omega, hr⟩
theorem PlanTo.low {w w0 w' : World} {n : Nat} {f : Nat → PPart} {e : Ending} (h : PlanTo w n f e w') (hb : Below w0.heap.size w0 w) : PlanTo w0 n f e w' := by
  obtain ⟨g, c, he, hO, hB⟩ := h
  exact ⟨g, c, he, own_low hO hb.size, hb.trans (hB.mono hb.size)⟩
theorem PlanTo.nil (w : World) (f : Nat → PPart) : PlanTo w 0 f (.returned (.slice (some ⟨w.heap.size, 0, none⟩) 0 0)) (w.alloc (.cells #[] 91)) := ⟨_, _, rfl, own_nil11 w f, (Below.refl _ _).alloc (Nat.le_refl _) _⟩
end Go.Proofs.YtjoimkfpenbkmabGreatDoor

/-
  Texts joined, a blank between, plainly.
-/
namespace Go.Proofs.YtjoimkfpenbkmabGreatDoor
open Go.RowKit
set_option maxRecDepth 4000

/-- The texts of the first k tokens, a blank between. -/
def joinT (fs : Nat → ByteArray) : Nat → ByteArray
  | 0 => ⟨#[]⟩
  | k + 1 => (if 0 < k then joinT fs k ++ (⟨#[32]⟩ : ByteArray) else joinT fs k) ++ fs k
theorem joinT_size {fs : Nat → ByteArray} {B n : Nat} (h : ∀ i, i < n → (fs i).size ≤ B) : ∀ k, k ≤ n → (joinT fs k).size ≤ k * (B + 1)
  | 0, _ => Nat.zero_le _
  | k + 1, hk => by
    have ih := joinT_size h k (by omega)
    have h1 := h k (by omega)
    have h2 : (⟨#[32]⟩ : ByteArray).size = 1 := rfl
    rw [joinT, ByteArray.size_append]
    have h3 : (k + 1) * (B + 1) = k * (B + 1) + (B + 1) := by rw [Nat.add_mul]; omega
    split
    · rw [ByteArray.size_append]; omega
    · omega
theorem joinT_congr {fs gs : Nat → ByteArray} : ∀ {n : Nat}, (∀ i, i < n → fs i = gs i) → joinT fs n = joinT gs n
  | 0, _ => rfl
  | n + 1, h => by rw [joinT, joinT, joinT_congr (fun i hi => h i (by omega)), h n (by omega)]

end Go.Proofs.YtjoimkfpenbkmabGreatDoor

/-
  Tokens that are joined come back, plainly.
-/
namespace Go.Proofs.YtjoimkfpenbkmabGreatDoor
open Go.RowKit
set_option maxRecDepth 4000

theorem bt_left {a b : ByteArray} {i : Nat} (h : i < a.size) : bt (a ++ b) i = bt a i := by
  have h2 : i < (a ++ b).size := by rw [ByteArray.size_append]; omega
  rw [← bt_at h, ← bt_at h2, ByteArray.getElem_append_left h]
theorem bt_right (a b : ByteArray) (j : Nat) : bt (a ++ b) (a.size + j) = bt b j := by
  by_cases h : j < b.size
  · have h2 : a.size + j < (a ++ b).size := by rw [ByteArray.size_append]; omega
    rw [← bt_at h, ← bt_at h2, ByteArray.getElem_append_right (by omega)]
    congr 2
    simp
  · unfold bt
    rw [dif_neg h, dif_neg (by rw [ByteArray.size_append]; omega)]
/-- Texts of the same bytes are one. -/
theorem bt_ext {a b : ByteArray} (hs : a.size = b.size) (h : ∀ i, i < a.size → bt a i = bt b i) : a = b := by
  apply ByteArray.ext
  apply Array.ext
  · exact hs
  · intro i h1 h2
    have h1' : i < a.size := h1
    have h2' : i < b.size := h2
    have e := h i h1'
    rw [← bt_at h1', ← bt_at h2'] at e
    have e2 : a[i] = b[i] := by apply UInt8.toNat.inj; omega
    exact e2

/-- A name goes on as far as its bytes do. -/
theorem endN_run {s : ByteArray} {p m : Nat} (hle : p + m ≤ s.size) (h : ∀ j, j < m → inName (bt s (p + j)) = true) (hend : p + m = s.size ∨ inName (bt s (p + m)) = false) : ∀ j, j ≤ m → endN s (p + (m - j)) = p + m
  | 0, _ => by
    rw [Nat.sub_zero]
    refine endN_stop (fun hh => ?_)
    rcases hend with e | e
    · omega
    · rw [e] at hh; cases hh.2
  | j + 1, hj => by
    have ih := endN_run hle h hend j (by omega)
    rw [endN_step (by omega) (h (m - (j + 1)) (by omega)), show p + (m - (j + 1)) + 1 = p + (m - j) by omega]
    exact ih

theorem blank_of {c : Int} (h : inName c = true ∨ markC c = true) : blank c = false := by
  unfold inName small digit at h
  unfold markC at h
  unfold blank
  simp only [Bool.or_eq_true, decide_eq_true_eq] at h
  apply decide_eq_false
  omega
/-- A right token that stands at a place is read there. -/
theorem lex_one {s t : ByteArray} {p : Nat} {kd : Int} {l : List (Int × ByteArray)} (hk : tokOk kd t = true) (hat : ∀ j, j < t.size → bt s (p + j) = bt t j) (hle : p + t.size ≤ s.size) (hend : p + t.size = s.size ∨ bt s (p + t.size) = 32) (hl : l.length ≠ 500) :
    lexF s p l = lexF s (p + t.size) (l ++ [(kd, t)]) := by
  have hext : s.extract p (p + t.size) = t := by
    refine bt_ext (by rw [ByteArray.size_extract]; omega) (fun i hi => ?_)
    rw [ByteArray.size_extract] at hi
    rw [bt_extract hle (by omega), hat i (by omega)]
  have hend2 : p + t.size = s.size ∨ inName (bt s (p + t.size)) = false := by
    rcases hend with e | e
    · exact .inl e
    · right; rw [e]; rfl
  by_cases c1 : kd = 1
  · subst c1
    have hn : nameOk t = true := hk
    unfold nameOk at hn
    simp only [decide_eq_true_eq] at hn
    obtain ⟨h1, h8, hs0, hall⟩ := hn
    have h0 := hat 0 (by omega)
    rw [Nat.add_zero] at h0
    have hka : kindAt s p = 1 := by unfold kindAt; rw [h0, hs0]; rfl
    have hst : stopAt s p = p + t.size := by
      unfold stopAt
      rw [h0, hs0]
      show endN s (p + 1) = _
      have := endN_run (s := s) (p := p) (m := t.size) hle (fun j hj => by rw [hat j hj]; exact hall j hj) hend2 (t.size - 1) (by omega)
      rw [show p + (t.size - (t.size - 1)) = p + 1 by omega] at this
      exact this
    rw [lexF_tok (by omega) (blank_of (.inl (by rw [h0]; exact hall 0 (by omega)))) (by rw [hka, hst, hext]; exact hk) hl, hka, hst, hext]
  · have c2 : kd = 2 := by
      unfold tokOk at hk
      rw [if_neg c1] at hk
      by_cases c2 : kd = 2
      · exact c2
      · rw [if_neg c2] at hk; cases hk
    subst c2
    have hn : markOk t = true := hk
    unfold markOk at hn
    simp only [decide_eq_true_eq] at hn
    obtain ⟨h1, hm⟩ := hn
    have h0 := hat 0 (by omega)
    rw [Nat.add_zero] at h0
    have hsm : small (bt s p) = false := by
      rw [h0]
      unfold markC at hm
      unfold small
      simp only [decide_eq_true_eq] at hm
      apply decide_eq_false
      omega
    have hka : kindAt s p = 2 := by unfold kindAt; rw [hsm]; rfl
    have hst : stopAt s p = p + t.size := by unfold stopAt; rw [hsm, h1]; rfl
    rw [lexF_tok (by omega) (blank_of (.inr (by rw [h0]; exact hm))) (by rw [hka, hst, hext]; exact hk) hl, hka, hst, hext]

/-- Where the k-th token begins. -/
def beg (fs : Nat → ByteArray) (k : Nat) : Nat := (joinT fs k).size + (if 0 < k then 1 else 0)
theorem joinT_end (fs : Nat → ByteArray) (k : Nat) : (joinT fs (k + 1)).size = beg fs k + (fs k).size := by
  unfold beg
  have h2 : (⟨#[32]⟩ : ByteArray).size = 1 := rfl
  rw [joinT, ByteArray.size_append]
  split
  · rw [ByteArray.size_append]; omega
  · omega
theorem joinT_pre (fs : Nat → ByteArray) : ∀ (n m : Nat), m ≤ n → (joinT fs m).size ≤ (joinT fs n).size ∧ ∀ i, i < (joinT fs m).size → bt (joinT fs n) i = bt (joinT fs m) i
  | 0, m, h => by
    obtain rfl : m = 0 := by omega
    exact ⟨Nat.le_refl _, fun _ _ => rfl⟩
  | n + 1, m, h => by
    by_cases e : m = n + 1
    · subst e; exact ⟨Nat.le_refl _, fun _ _ => rfl⟩
    · obtain ⟨h1, h2⟩ := joinT_pre fs n m (by omega)
      have h3 := joinT_end fs n
      have h4 : (joinT fs n).size ≤ beg fs n := by unfold beg; omega
      refine ⟨by omega, fun i hi => ?_⟩
      rw [← h2 i hi, joinT]
      by_cases h0 : 0 < n
      · rw [if_pos h0, bt_left (by rw [ByteArray.size_append]; omega), bt_left (by omega)]
      · rw [if_neg h0, bt_left (by omega)]
/-- The k-th token stands in the joined text. -/
theorem join_at {fs : Nat → ByteArray} {n k : Nat} (hk : k < n) : (∀ j, j < (fs k).size → bt (joinT fs n) (beg fs k + j) = bt (fs k) j) ∧ beg fs k + (fs k).size ≤ (joinT fs n).size ∧ (beg fs k + (fs k).size = (joinT fs n).size ∨ bt (joinT fs n) (beg fs k + (fs k).size) = 32) ∧ (k + 1 < n → bt (joinT fs n) (beg fs k + (fs k).size) = 32 ∧ beg fs (k + 1) = beg fs k + (fs k).size + 1) ∧ (k + 1 = n → beg fs k + (fs k).size = (joinT fs n).size) := by
  have hE := joinT_end fs k
  obtain ⟨h1, h2⟩ := joinT_pre fs n (k + 1) (by omega)
  have ha : ∀ j, j < (fs k).size → bt (joinT fs n) (beg fs k + j) = bt (fs k) j := by
    intro j hj
    rw [h2 _ (by omega), joinT]
    unfold beg
    by_cases h0 : 0 < k
    · rw [if_pos h0, if_pos h0]
      have e : (joinT fs k).size + 1 = (joinT fs k ++ (⟨#[32]⟩ : ByteArray)).size := by rw [ByteArray.size_append]; rfl
      rw [e]
      exact bt_right _ _ _
    · rw [if_neg h0, if_neg h0, Nat.add_zero]
      exact bt_right _ _ _
  have hnx : k + 1 < n → bt (joinT fs n) (beg fs k + (fs k).size) = 32 ∧ beg fs (k + 1) = beg fs k + (fs k).size + 1 := by
    intro hlt
    obtain ⟨h3, h4⟩ := joinT_pre fs n (k + 2) (by omega)
    have hE2 := joinT_end fs (k + 1)
    have hb : beg fs (k + 1) = beg fs k + (fs k).size + 1 := by
      conv => lhs; unfold beg
      rw [if_pos (by omega), hE]
    refine ⟨?_, hb⟩
    rw [h4 _ (by rw [show k + 2 = k + 1 + 1 from rfl, hE2]; omega), show k + 2 = k + 1 + 1 from rfl, joinT, if_pos (by omega), ← hE]
    rw [bt_left (by rw [ByteArray.size_append]; show _ < _ + 1; omega)]
    have := bt_right (joinT fs (k + 1)) (⟨#[32]⟩ : ByteArray) 0
    exact this.trans rfl
  have hlast : k + 1 = n → beg fs k + (fs k).size = (joinT fs n).size := by
    rintro rfl; rw [hE]
  refine ⟨ha, by omega, ?_, hnx, hlast⟩
  by_cases e : k + 1 = n
  · exact .inl (hlast e)
  · exact .inr (hnx (by omega)).1

/-- Tokens that are joined come back. -/
theorem lex_join {l : List (Int × ByteArray)} (hl : l.length ≤ 500) (hok : ∀ i, i < l.length → tokOk (tk l i) (ts l i) = true) : lexF (joinT (ts l) l.length) 0 [] = (l, -1) := by
  have key : ∀ k, k ≤ l.length → lexF (joinT (ts l) l.length) 0 [] = lexF (joinT (ts l) l.length) (if k < l.length then beg (ts l) k else (joinT (ts l) l.length).size) (l.take k) := by
    intro k
    induction k with
    | zero =>
      intro _
      by_cases h0 : 0 < l.length
      · rw [if_pos h0]; rfl
      · have : l = [] := by cases l with
          | nil => rfl
          | cons => simp at h0
        subst this; rfl
    | succ k ih =>
      intro hk
      have hkl : k < l.length := by omega
      rw [ih (by omega), if_pos hkl]
      obtain ⟨ha, hle, hend, hnx, hlast⟩ := join_at (fs := ts l) hkl
      have hlt : (l.take k).length ≠ 500 := by rw [List.length_take]; omega
      rw [lex_one (hok k hkl) ha hle hend hlt]
      have ht : l.take k ++ [(tk l k, ts l k)] = l.take (k + 1) := by
        rw [List.take_add_one, List.getElem?_eq_getElem hkl]
        unfold tk ts
        have h2 : l.getD k (0, ⟨#[]⟩) = l[k] := by simp [List.getD, List.getElem?_eq_getElem hkl]
        rw [h2]; rfl
      rw [ht]
      by_cases e : k + 1 < l.length
      · obtain ⟨h3, h4⟩ := hnx e
        rw [if_pos e, h4]
        refine lexF_blank ?_ (by rw [h3]; rfl)
        rcases Nat.lt_or_ge (beg (ts l) k + (ts l k).size) (joinT (ts l) l.length).size with h5 | h5
        · exact h5
        · unfold bt at h3; rw [dif_neg (by omega)] at h3; cases h3
      · rw [if_neg e, hlast (by omega)]
  rw [key l.length (Nat.le_refl _), if_neg (Nat.lt_irrefl _), List.take_length]
  exact lexF_end (Nat.lt_irrefl _)
end Go.Proofs.YtjoimkfpenbkmabGreatDoor

/-
  A table's text, plainly.
-/
namespace Go.Proofs.YtjoimkfpenbkmabGreatDoor
open Go.RowKit
set_option maxRecDepth 4000

def typeW (t : Int) : ByteArray := if t = 1 then ⟨#[105, 110, 116]⟩ else if t = 2 then ⟨#[110, 117, 109]⟩ else if t = 3 then ⟨#[116, 101, 120, 116]⟩ else if t = 4 then ⟨#[98, 111, 111, 108]⟩ else ⟨#[]⟩
/-- The text of the first k parts. -/
def partsT (col : Nat → PCol) (f : Nat → PBy) : Nat → ByteArray
  | 0 => ⟨#[]⟩
  | k + 1 =>
    let s := (if 0 < k then partsT col f k ++ (⟨#[44, 32]⟩ : ByteArray) else partsT col f k) ++ (col (f k).col.toNat).name
    if (f k).desc then s ++ (⟨#[32, 100, 101, 115, 99]⟩ : ByteArray) else s
/-- The text as far as the first k columns. -/
def colsT (name : ByteArray) (col : Nat → PCol) : Nat → ByteArray
  | 0 => (⟨#[116, 97, 98, 108, 101, 32]⟩ : ByteArray) ++ name ++ (⟨#[32, 123, 32]⟩ : ByteArray)
  | k + 1 =>
    let s := colsT name col k ++ (col k).name ++ (⟨#[32]⟩ : ByteArray) ++ typeW (col k).type
    (if (col k).null then s ++ (⟨#[32, 110, 117, 108, 108]⟩ : ByteArray) else s) ++ (⟨#[59, 32]⟩ : ByteArray)
def partsE (col : Nat → PCol) (n : Nat) (f : Nat → PBy) : ByteArray := partsT col f n ++ (⟨#[59, 32]⟩ : ByteArray)
/-- .. and the first k indexes. -/
def idxT (D : PDef) : Nat → ByteArray
  | 0 => colsT D.name D.col D.nc ++ ((⟨#[112, 114, 105, 109, 97, 114, 121, 32]⟩ : ByteArray) ++ partsE D.col D.np D.pri)
  | k + 1 => idxT D k ++ (if (D.idx k).uniq then (⟨#[117, 110, 105, 113, 117, 101, 32]⟩ : ByteArray) else (⟨#[105, 110, 100, 101, 120, 32]⟩ : ByteArray)) ++ (D.idx k).name ++ (⟨#[32]⟩ : ByteArray) ++ partsE D.col (D.idx k).n (D.idx k).part
/-- The text of a table that nothing is wrong with. -/
def textG (D : PDef) : ByteArray := idxT D D.ni ++ (⟨#[125]⟩ : ByteArray)
def defText (D : PDef) : ByteArray := if checkF D = 0 then textG D else ⟨#[]⟩
end Go.Proofs.YtjoimkfpenbkmabGreatDoor

