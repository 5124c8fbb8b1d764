/-
  Together: TextImpl9, PartsText9, IdxText9, Info, BuildWrite, BuildKeep, Jumps, TView, TokBox, LexRow, TokMore, LexBytes, LexImpl, JoinPlain
-/
import Derived.Test.YtfjlmkphnciglatGreatDoorPack3
import Derived.Test.YtfjlmkphnciglatGreatDoorPack2
import Derived.Test.YtfjlmkphnciglatGreatDoorPack1
import Derived.Test.YtfjlmkphnciglatGreatDoorShelf
import Derived.Deep.LoopGhost
import Derived.Deep.QuietTactic
import Derived.Deep.RegionHeld3
import Derived.BigQuiet
import Derived.Test.YtfjlmkphnciglatGreatDoorChecked
import Derived.Shelf.Strings.Builder1
import Derived.Scope
import Derived.WalkMore
/-
  The program's colText, partsText, indexText.
-/
namespace Go.Proofs.YtfjlmkphnciglatGreatDoor
open Go.RowKit
set_option maxRecDepth 4000

/-- The program's table of the types' words. -/
def TyN (w : World) : Prop := ∀ i : Nat, i < 5 → w.cell? ⟨1, i, none⟩ = some (.string (typeW i))
theorem TyN.lt {w : World} (h : TyN w) : 1 < w.heap.size := World.block_lt_of_cell? _ _ (h 0 (by decide))
theorem TyN.below {w w' : World} (h : TyN w) (hb : Below w.heap.size w w') : TyN w' := fun i hi => (hb.cell (p := ⟨1, i, none⟩) h.lt).trans (h i hi)

/-- A column's text. -/
def colT (s : ByteArray) (t : Int) (nul : Bool) : ByteArray :=
  (if nul then s ++ (⟨#[32]⟩ : ByteArray) ++ typeW t ++ (⟨#[32, 110, 117, 108, 108]⟩ : ByteArray) else s ++ (⟨#[32]⟩ : ByteArray) ++ typeW t) ++ (⟨#[59, 32]⟩ : ByteArray)
theorem colsT_colT (name : ByteArray) (col : Nat → PCol) (k : Nat) : colsT name col (k + 1) = colsT name col k ++ colT (col k).name (col k).type (col k).null := by
  rw [colsT]
  unfold colT
  cases (col k).null <;> simp only [if_true, if_false, Bool.false_eq_true, ByteArray.append_assoc]

set_option maxHeartbeats 2000000 in
theorem colText_any (s : ByteArray) (t : Int) (nul : Bool) (w : World) (h1 : 1 ≤ t) (h4 : t ≤ 4) (hs : s.size ≤ 1048576) (hT : TyN w) :
    Calls Tryz.prog 30 #[.agg #[.string s, .int .i64 t, .bool nul]] w fun e w' => e = .returned (.string (colT s t nul)) ∧ Below w.heap.size w w' := by
  obtain ⟨m, rfl⟩ := Int.eq_ofNat_of_zero_le (show 0 ≤ t by omega)
  have hm5 : m < 5 := by omega
  have hc := hT m hm5
  have hlt := hT.lt
  have HN : Hid (colT s m nul = (if nul then s ++ (⟨#[32]⟩ : ByteArray) ++ typeW m ++ (⟨#[32, 110, 117, 108, 108]⟩ : ByteArray) else s ++ (⟨#[32]⟩ : ByteArray) ++ typeW m) ++ (⟨#[59, 32]⟩ : ByteArray)) := rfl
  have htz := typeW_size m
  obtain ⟨ty, hty⟩ : ∃ s, Hid (typeW (m : Int) = s) := ⟨_, rfl⟩
  rw [hty.out] at HN htz hc
  have hb0 : Below w.heap.size w (w.alloc (.cells #[.string s, .int .i64 (m : Int), .bool nul] 43)) := (Below.refl _ _).alloc (Nat.le_refl _) _
  have hc' : (w.alloc (.cells #[.string s, .int .i64 (m : Int), .bool nul] 43)).cell? ⟨1, m, none⟩ = some (.string ty) := (hb0.cell (p := ⟨1, m, none⟩) hlt).trans hc
  have HB : Hid (Below w.heap.size w (w.alloc (.cells #[.string s, .int .i64 (m : Int), .bool nul] 43))) := hb0
  have e1 : (⟨#[32]⟩ : ByteArray).size = 1 := rfl
  have e2 : (⟨#[32, 110, 117, 108, 108]⟩ : ByteArray).size = 5 := rfl
  have e3 : (⟨#[59, 32]⟩ : ByteArray).size = 2 := rfl
  have s1 : ¬ (s.size + 1 > 9223372036854775807) := by omega
  have s2 : (s ++ (⟨#[32]⟩ : ByteArray)).size = s.size + 1 := by rw [ByteArray.size_append]; rfl
  have s3 : ¬ (s.size + 1 + ty.size > 9223372036854775807) := by omega
  have s4 : (s ++ (⟨#[32]⟩ : ByteArray) ++ ty).size = s.size + 1 + ty.size := by rw [ByteArray.size_append, s2]
  have s5 : ¬ (s.size + 1 + ty.size + 5 > 9223372036854775807) := by omega
  have s6 : (s ++ (⟨#[32]⟩ : ByteArray) ++ ty ++ (⟨#[32, 110, 117, 108, 108]⟩ : ByteArray)).size = s.size + 1 + ty.size + 5 := by rw [ByteArray.size_append, s4]; rfl
  have s7 : ¬ (s.size + 1 + ty.size + 5 + 2 > 9223372036854775807) := by omega
  have s8 : ¬ (s.size + 1 + ty.size + 2 > 9223372036854775807) := by omega
  have hmz : (m : Int) < 5 := by omega
  clear hT hc hlt hb0 h1 h4
  go_enter Tryz.func30, Tryz.ntmps30
  go_wp2_with fail
  go_quiet (fail)
  cases nul with
  | true =>
    have HN' : Hid (colT s m true = s ++ (⟨#[32]⟩ : ByteArray) ++ ty ++ (⟨#[32, 110, 117, 108, 108]⟩ : ByteArray) ++ (⟨#[59, 32]⟩ : ByteArray)) := HN.out
    clear HN
    go_wp2
    go_ret
    exact ⟨by rw [HN'.out]; rfl, HB.out.trans ⟨rfl, rfl, rfl, Nat.le_refl _, fun _ _ => rfl⟩⟩
  | false =>
    have HN' : Hid (colT s m false = s ++ (⟨#[32]⟩ : ByteArray) ++ ty ++ (⟨#[59, 32]⟩ : ByteArray)) := HN.out
    clear HN
    go_wp2
    go_ret
    exact ⟨by rw [HN'.out]; rfl, HB.out.trans ⟨rfl, rfl, rfl, Nat.le_refl _, fun _ _ => rfl⟩⟩

/-- A part's text. -/
def partT (col : Nat → PCol) (f : Nat → PBy) (k : Nat) : ByteArray := if (f k).desc then (col (f k).col.toNat).name ++ (⟨#[32, 100, 101, 115, 99]⟩ : ByteArray) else (col (f k).col.toNat).name
theorem partsE_join (col : Nat → PCol) (n : Nat) (f : Nat → PBy) (h1 : 1 ≤ n) (h2 : n ≤ 2) :
    partsE col n f = (⟨(Lib.join (((List.range n).map (partT col f)).map (·.data.toList)) (⟨#[44, 32]⟩ : ByteArray).data.toList).toArray⟩ : ByteArray) ++ (⟨#[59, 32]⟩ : ByteArray) := by
  unfold partsE
  congr 1
  have key : ∀ a : ByteArray, (⟨a.data.toList.toArray⟩ : ByteArray) = a := fun a => by simp
  have hn : n = 1 ∨ n = 2 := by omega
  rcases hn with rfl | rfl
  · show _ = (⟨(Lib.join [(partT col f 0).data.toList] _).toArray⟩ : ByteArray)
    rw [Lib.join_one, key]
    apply ByteArray.ext
    apply Array.ext'
    unfold partT
    cases e0 : (f 0).desc <;> simp [partsT, e0]
  · show _ = (⟨(Lib.join [(partT col f 0).data.toList, (partT col f 1).data.toList] _).toArray⟩ : ByteArray)
    apply ByteArray.ext
    apply Array.ext'
    unfold partT
    cases e0 : (f 0).desc <;> cases e1 : (f 1).desc <;> simp [partsT, e0, e1, Lib.join, List.intercalate]
end Go.Proofs.YtfjlmkphnciglatGreatDoor

/-
  The program's partsText, indexText.
-/
namespace Go.Proofs.YtfjlmkphnciglatGreatDoor
open Go.RowKit
set_option maxRecDepth 4000

theorem partT_size {col : Nat → PCol} {f : Nat → PBy} {k : Nat} (h : (col (f k).col.toNat).name.size ≤ 1048576) : (partT col f k).size ≤ 1048581 := by
  unfold partT
  split
  · rw [ByteArray.size_append]; have : (⟨#[32, 100, 101, 115, 99]⟩ : ByteArray).size = 5 := rfl; omega
  · omega

set_option maxHeartbeats 4000000 in
theorem partsText_any (ac : Option Addr) (nc cc : Nat) (col : Nat → PCol) (a : Option Addr) (n cap : Nat) (f : Nat → PBy) (w : World) (hcv : CView w ac nc cc col) (h : BView w a n cap f) (h1 : 1 ≤ n) (h2 : n ≤ 2) (hnc : nc ≤ 1048576) (hin : ∀ i, i < n → 0 ≤ (f i).col ∧ (f i).col < nc) (hz : ∀ i, i < nc → (col i).name.size ≤ 1048576) :
    Calls Tryz.prog 31 #[.slice ac nc cc, .slice a n cap] w fun e w' => e = .returned (.string (partsE col n f)) ∧ Below w.heap.size w w' := by
  obtain ⟨i0, hi, hz0, hz1, hz2⟩ := infoStr
  have HE : Hid (partsE col n f = (⟨(Lib.join (((List.range n).map (partT col f)).map (·.data.toList)) (⟨#[44, 32]⟩ : ByteArray).data.toList).toArray⟩ : ByteArray) ++ (⟨#[59, 32]⟩ : ByteArray)) := partsE_join col n f h1 h2
  have hpz := partsE_size (B := 1048576) (col := col) (f := f) (n := n) (fun i hi => hz _ (by have := hin i hi; omega)) h2
  have HIN : Hid (∀ i, i < n → 0 ≤ (f i).col ∧ (f i).col < nc) := hin
  have HZ : Hid (∀ i, i < nc → (col i).name.size ≤ 1048576) := hz
  obtain ⟨z, hzz⟩ : ∃ z, Hid (partsE col n f = z) := ⟨_, rfl⟩
  rw [hzz.out] at HE hpz ⊢
  clear hin hz hzz
  have hbE : Below w.heap.size w (w.alloc (.cells #[] 9)) := (Below.refl _ _).alloc (Nat.le_refl _) _
  have hO0 : (w.alloc (.cells #[] 9)).ownsRow w.heap.size 9 1 (.slice (some ⟨w.heap.size, 0, none⟩) 0 0) 0 (rowG (encS (partT col f)) 0) := by
    have := World.ownsRow_lit (base := w.heap.size) (e := 9) (size := 1) w #[] 0 (Nat.le_refl _) (Nat.zero_le _) rfl
    simpa [rowG] using this
  go_enter Tryz.func31, Tryz.ntmps31
  go_wp2
  go_loopg [12, 5] n (fun q i s wr => ∃ k : Nat, k ≤ n ∧ q = n - k ∧ i = .int .i64 k ∧ (∃ g c, s = .slice (some ⟨g, 0, none⟩) k c) ∧ wr.ownsRow w.heap.size 9 1 s k (rowG (encS (partT col f)) k) ∧ Below w.heap.size w wr)
  case atStart => exact ⟨0, Nat.zero_le _, rfl, rfl, ⟨_, _, rfl⟩, hO0, hbE⟩
  case round =>
    clear hO0 hbE
    obtain ⟨k, hk, rfl, rfl, ⟨sa, sc, rfl⟩, hO, hB⟩ := hrel
    by_cases hlt : k < n
    · have hkz : (k : Int) < (n : Int) := by omega
      obtain ⟨q0, q1⟩ := HIN.out k hlt
      obtain ⟨m, hm⟩ := Int.eq_ofNat_of_zero_le q0
      obtain ⟨b1, o1, rfl, hb1, hcs⟩ := (h.below hB).cells (by omega)
      obtain ⟨x0, x1⟩ := hcs k hlt
      rw [hm] at x0 q1
      obtain ⟨b2, o2, rfl, hb2, hcc⟩ := (hcv.below hB).cells (by omega)
      obtain ⟨y0, -, -⟩ := hcc m (by omega)
      have hsz := hB.size
      have hnz := HZ.out m (by omega)
      have HN : Hid (rowG (encS (partT col f)) (k + 1) = rowG (encS (partT col f)) k ++ [.string (partT col f k)]) := rfl
      have HPT : Hid (partT col f k = if (f k).desc then (col m).name ++ (⟨#[32, 100, 101, 115, 99]⟩ : ByteArray) else (col m).name) := by show _ = _; unfold partT; rw [hm]; rfl
      have HB : Hid (Below w.heap.size w wr) := hB
      obtain ⟨s0, hs0⟩ : ∃ x, Hid ((col m).name = x) := ⟨_, rfl⟩
      obtain ⟨ds, hds⟩ : ∃ x, Hid ((f k).desc = x) := ⟨_, rfl⟩
      obtain ⟨R, hR⟩ : ∃ x, Hid (rowG (encS (partT col f)) k = x) := ⟨_, rfl⟩
      rw [hs0.out] at y0 hnz HPT
      rw [hds.out] at x1 HPT
      rw [hR.out] at HN hO
      have hmz : (m : Int) < (nc : Int) := q1
      have e5 : (⟨#[32, 100, 101, 115, 99]⟩ : ByteArray).size = 5 := rfl
      have s5 : ¬ (s0.size + 5 > 9223372036854775807) := by omega
      clear hcs hcc h hcv hB hm q0 q1
      have y0' : (wr.alloc (.cells #[.int .i64 (m : Int), .bool ds] 45)).cell? ⟨b2, o2 + m * 3, none⟩ = some (.string s0) := by rw [World.cell?_alloc_lt _ _ _ hb2]; exact y0
      cases ds with
      | true =>
        have hpt : Hid (partT col f k = s0 ++ (⟨#[32, 100, 101, 115, 99]⟩ : ByteArray)) := HPT.out
        rw [hpt.out] at HN
        clear HPT hpt
        have hb3 : Below wr.heap.size wr ((wr.alloc (.cells #[.int .i64 (m : Int), .bool true] 45)).alloc (.cells #[.string (s0 ++ (⟨#[32, 100, 101, 115, 99]⟩ : ByteArray))] 9)) := ((Below.refl _ _).alloc (Nat.le_refl _) _).alloc (by simp) _
        have hO2 := own_belowG hO hb3
        have hcl : ∀ j u, [Value.string (s0 ++ (⟨#[32, 100, 101, 115, 99]⟩ : ByteArray))][j]? = some u → ((wr.alloc (.cells #[.int .i64 (m : Int), .bool true] 45)).alloc (.cells #[.string (s0 ++ (⟨#[32, 100, 101, 115, 99]⟩ : ByteArray))] 9)).cell? ((⟨wr.heap.size + 1, 0, none⟩ : Addr).add j) = some u := by
          intro j u hj
          match j, hj with
          | 0, hj => simp at hj; subst hj; simp [Addr.add]
        have HBB : Hid (Below wr.heap.size wr ((wr.alloc (.cells #[.int .i64 (m : Int), .bool true] 45)).alloc (.cells #[.string (s0 ++ (⟨#[32, 100, 101, 115, 99]⟩ : ByteArray))] 9))) := hb3
        have HOW := own_ge9 hO
        clear hb3
        go_wp2_with (at_builtin; refine wpList_append_own _ rfl (.tmp 26) (.tmp 28) 99 rfl w.heap.size 9 i0 (.string ⟨#[]⟩) 1 16 Tryz.underlying99 hi hz0 hz1 hz2 rfl (by decide) _ _ _ rfl hO2 ⟨wr.heap.size + 1, 0, none⟩ 1 1 [.string (s0 ++ (⟨#[32, 100, 101, 115, 99]⟩ : ByteArray))] rfl rfl hcl (by intro u hu; simp at hu; subst hu; rfl) (by unfold maxLen; omega) (by omega) (by simp; omega) ?_)
        intro v5 w2 hown5 hgr hnil
        obtain ⟨g', cap', rfl⟩ := own_succ9 hown5
        have HR : Hid (w2.ownsRow w.heap.size 9 1 (.slice (some ⟨g', 0, none⟩) (k + 1) cap') (k + 1) (rowG (encS (partT col f)) (k + 1)) ∧ Below w.heap.size w w2) := by
          refine ⟨?_, ?_⟩
          · rw [HN.out]; exact hown5
          · exact (HB.out.trans (HBB.out.mono hsz)).grown hgr (by simp; omega) HOW
        clear hown5 hgr hnil hO hO2 hcl HOW y0 y0' x0 x1
        go_wp2
        go_roundg (n - (k + 1))
        case measure => omega
        case rel => exact ⟨k + 1, by omega, rfl, by go_num, ⟨_, _, rfl⟩, HR.out.1, HR.out.2⟩
      | false =>
        have hpt : Hid (partT col f k = s0) := HPT.out
        rw [hpt.out] at HN
        clear HPT hpt
        have hb3 : Below wr.heap.size wr ((wr.alloc (.cells #[.int .i64 (m : Int), .bool false] 45)).alloc (.cells #[.string (s0)] 9)) := ((Below.refl _ _).alloc (Nat.le_refl _) _).alloc (by simp) _
        have hO2 := own_belowG hO hb3
        have hcl : ∀ j u, [Value.string (s0)][j]? = some u → ((wr.alloc (.cells #[.int .i64 (m : Int), .bool false] 45)).alloc (.cells #[.string (s0)] 9)).cell? ((⟨wr.heap.size + 1, 0, none⟩ : Addr).add j) = some u := by
          intro j u hj
          match j, hj with
          | 0, hj => simp at hj; subst hj; simp [Addr.add]
        have HBB : Hid (Below wr.heap.size wr ((wr.alloc (.cells #[.int .i64 (m : Int), .bool false] 45)).alloc (.cells #[.string (s0)] 9))) := hb3
        have HOW := own_ge9 hO
        clear hb3
        go_wp2_with (at_builtin; refine wpList_append_own _ rfl (.tmp 26) (.tmp 28) 99 rfl w.heap.size 9 i0 (.string ⟨#[]⟩) 1 16 Tryz.underlying99 hi hz0 hz1 hz2 rfl (by decide) _ _ _ rfl hO2 ⟨wr.heap.size + 1, 0, none⟩ 1 1 [.string (s0)] rfl rfl hcl (by intro u hu; simp at hu; subst hu; rfl) (by unfold maxLen; omega) (by omega) (by simp; omega) ?_)
        intro v5 w2 hown5 hgr hnil
        obtain ⟨g', cap', rfl⟩ := own_succ9 hown5
        have HR : Hid (w2.ownsRow w.heap.size 9 1 (.slice (some ⟨g', 0, none⟩) (k + 1) cap') (k + 1) (rowG (encS (partT col f)) (k + 1)) ∧ Below w.heap.size w w2) := by
          refine ⟨?_, ?_⟩
          · rw [HN.out]; exact hown5
          · exact (HB.out.trans (HBB.out.mono hsz)).grown hgr (by simp; omega) HOW
        clear hown5 hgr hnil hO hO2 hcl HOW y0 y0' x0 x1
        go_wp2
        go_roundg (n - (k + 1))
        case measure => omega
        case rel => exact ⟨k + 1, by omega, rfl, by go_num, ⟨_, _, rfl⟩, HR.out.1, HR.out.2⟩
    · have hkz : ¬ (k : Int) < (n : Int) := by omega
      obtain rfl : k = n := by omega
      have hV := sview_of_row hO
      obtain ⟨b1, o1, eb, hb1, hcs⟩ := hV.cells (by omega)
      cases eb
      have hJL : (Lib.join (((List.range k).map (partT col f)).map (·.data.toList)) (⟨#[44, 32]⟩ : ByteArray).data.toList).length ≤ 2097168 := by
        have : z.size = (Lib.join (((List.range k).map (partT col f)).map (·.data.toList)) (⟨#[44, 32]⟩ : ByteArray).data.toList).length + 2 := by
          rw [HE.out, ByteArray.size_append]
          show (_ : List UInt8).toArray.size + 2 = _
          rw [List.size_toArray]
        omega
      have hJ := Tryz.strings_Join sa 0 sc ((List.range k).map (partT col f)) ⟨#[44, 32]⟩ wr (fun j x hj => by
        have hj' : j < k := by
          have := (List.getElem?_eq_some_iff.1 hj).1
          simpa using this
        have e : x = partT col f j := by simpa [hj'] using hj.symm
        rw [e]
        exact hcs j hj') hb1 (by simp; omega) (by simpa using hV.le) (by omega)
      rw [List.length_map, List.length_range] at hJ
      have HB : Hid (Below w.heap.size w wr) := hB
      have hjs : (⟨(Lib.join (((List.range k).map (partT col f)).map (·.data.toList)) (⟨#[44, 32]⟩ : ByteArray).data.toList).toArray⟩ : ByteArray).size ≤ 2097168 := by
        show (_ : List UInt8).toArray.size ≤ _
        rw [List.size_toArray]; exact hJL
      have hsz := hB.size
      obtain ⟨J, hJJ⟩ : ∃ J, Hid ((⟨(Lib.join (((List.range k).map (partT col f)).map (·.data.toList)) (⟨#[44, 32]⟩ : ByteArray).data.toList).toArray⟩ : ByteArray) = J) := ⟨_, rfl⟩
      rw [hJJ.out] at hJ HE hjs
      have e2 : (⟨#[59, 32]⟩ : ByteArray).size = 2 := rfl
      have s2 : ¬ (J.size + 2 > 9223372036854775807) := by omega
      clear h hcv hO hV hcs hB hJL hJJ
      go_wp2_with fail
      refine hJ.mono ?_
      rintro e w2 ⟨rfl, hb2⟩
      have HR : Hid (Below w.heap.size w w2) := HB.out.trans (hb2.mono hsz)
      clear hJ hb2
      go_wp2
      go_ret
      exact ⟨by rw [HE.out]; rfl, HR.out⟩
end Go.Proofs.YtfjlmkphnciglatGreatDoor

/-
  The program's indexText.
-/
namespace Go.Proofs.YtfjlmkphnciglatGreatDoor
open Go.RowKit
set_option maxRecDepth 4000

/-- An index's text. -/
def idxE (col : Nat → PCol) (x : PIdx) : ByteArray := (if x.uniq then (⟨#[117, 110, 105, 113, 117, 101, 32]⟩ : ByteArray) else (⟨#[105, 110, 100, 101, 120, 32]⟩ : ByteArray)) ++ x.name ++ (⟨#[32]⟩ : ByteArray) ++ partsE col x.n x.part
theorem idxT_idxE (D : PDef) (k : Nat) : idxT D (k + 1) = idxT D k ++ idxE D.col (D.idx k) := by
  rw [idxT]
  unfold idxE
  simp only [ByteArray.append_assoc]

set_option maxHeartbeats 4000000 in
theorem indexText_any (ac : Option Addr) (nc cc : Nat) (col : Nat → PCol) (x : PIdx) (a2 : Option Addr) (c2 : Nat) (w : World) (hcv : CView w ac nc cc col) (h : BView w a2 x.n c2 x.part) (h1 : 1 ≤ x.n) (h2 : x.n ≤ 2) (hnc : nc ≤ 1048576) (hin : ∀ i, i < x.n → 0 ≤ (x.part i).col ∧ (x.part i).col < nc) (hz : ∀ i, i < nc → (col i).name.size ≤ 1048576) (hxn : x.name.size ≤ 1048576) :
    Calls Tryz.prog 32 #[.slice ac nc cc, .agg #[.string x.name, .bool x.uniq, .slice a2 x.n c2]] w fun e w' => e = .returned (.string (idxE col x)) ∧ Below w.heap.size w w' := by
  have hP := fun W (hb : Below w.heap.size w W) => partsText_any ac nc cc col a2 x.n c2 x.part W (hcv.below hb) (h.below hb) h1 h2 hnc hin hz
  have hpz := partsE_size (B := 1048576) (col := col) (f := x.part) (n := x.n) (fun i hi => hz _ (by have := hin i hi; omega)) h2
  have HN : Hid (idxE col x = (if x.uniq then (⟨#[117, 110, 105, 113, 117, 101, 32]⟩ : ByteArray) else (⟨#[105, 110, 100, 101, 120, 32]⟩ : ByteArray)) ++ x.name ++ (⟨#[32]⟩ : ByteArray) ++ partsE col x.n x.part) := rfl
  clear hcv h h1 h2 hin hz
  obtain ⟨z, hzz⟩ : ∃ z, Hid (idxE col x = z) := ⟨_, rfl⟩
  rw [hzz.out] at HN ⊢
  clear hzz
  generalize partsE col x.n x.part = q at *
  obtain ⟨s0, u, n2, pp⟩ := x
  simp only at *
  have hb0 : Below w.heap.size w (w.alloc (.cells #[.string s0, .bool u, .slice a2 n2 c2] 62)) := (Below.refl _ _).alloc (Nat.le_refl _) _
  have hs0 : w.heap.size < (w.alloc (.cells #[.string s0, .bool u, .slice a2 n2 c2] 62)).heap.size := by simp
  have x0 : (w.alloc (.cells #[.string s0, .bool u, .slice a2 n2 c2] 62)).cell? ⟨w.heap.size, 0, none⟩ = some (.string s0) := by simp
  have x1 : (w.alloc (.cells #[.string s0, .bool u, .slice a2 n2 c2] 62)).cell? ⟨w.heap.size, 1, none⟩ = some (.bool u) := by simp [go_sem]
  have x2 : (w.alloc (.cells #[.string s0, .bool u, .slice a2 n2 c2] 62)).cell? ⟨w.heap.size, 2, none⟩ = some (.slice a2 n2 c2) := by simp [go_sem]
  have k7 : (⟨#[117, 110, 105, 113, 117, 101, 32]⟩ : ByteArray).size = 7 := rfl
  have k6 : (⟨#[105, 110, 100, 101, 120, 32]⟩ : ByteArray).size = 6 := rfl
  have k1 : (⟨#[32]⟩ : ByteArray).size = 1 := rfl
  cases u with
  | true =>
    have HZ : Hid (z = (⟨#[117, 110, 105, 113, 117, 101, 32]⟩ : ByteArray) ++ s0 ++ (⟨#[32]⟩ : ByteArray) ++ q) := HN.out
    have t1 : ¬ (7 + s0.size > 9223372036854775807) := by omega
    have t2 : ((⟨#[117, 110, 105, 113, 117, 101, 32]⟩ : ByteArray) ++ s0).size = 7 + s0.size := by rw [ByteArray.size_append]; rfl
    have t3 : ¬ (7 + s0.size + 1 > 9223372036854775807) := by omega
    have t4 : ((⟨#[117, 110, 105, 113, 117, 101, 32]⟩ : ByteArray) ++ s0 ++ (⟨#[32]⟩ : ByteArray)).size = 7 + s0.size + 1 := by rw [ByteArray.size_append, t2]; rfl
    have t5 : ¬ (7 + s0.size + 1 + q.size > 9223372036854775807) := by omega
    clear HN
    go_enter Tryz.func32, Tryz.ntmps32
    go_wp2_with fail
    obtain ⟨w0, hw0⟩ : ∃ w0, Hid (w0 = w.alloc (.cells #[.string s0, .bool true, .slice a2 n2 c2] 62)) := ⟨_, rfl⟩
    rw [← hw0.out] at hb0 hs0 x0 x1 x2 ⊢
    have HWK : Hid (∀ W, Below w0.heap.size w0 W → W.cell? ⟨w.heap.size, 0, none⟩ = some (.string s0) ∧ W.cell? ⟨w.heap.size, 1, none⟩ = some (.bool true) ∧ W.cell? ⟨w.heap.size, 2, none⟩ = some (.slice a2 n2 c2)) := by
      intro W hb
      refine ⟨?_, ?_, ?_⟩ <;> (rw [hb.cell hs0]; assumption)
    have HP : Hid (∀ W, Below w0.heap.size w0 W → Below w.heap.size w W) := fun W hb => hb0.trans (hb.mono hb0.size)
    clear hb0
    go_region_held3 (fun WW => WW.cell? ⟨w.heap.size, 0, none⟩ = some (.string s0) ∧ WW.cell? ⟨w.heap.size, 1, none⟩ = some (.bool true) ∧ WW.cell? ⟨w.heap.size, 2, none⟩ = some (.slice a2 n2 c2)) (first | assumption | go_keep) (first | (go_at_call 31; refine (hP _ (HP.out _ (by repeat (first | exact Below.refl _ _ | refine Below.drew ?_)))).mono ?_; rintro e w2 ⟨rfl, hB2⟩; have hcells : w2.cell? ⟨w.heap.size, 0, none⟩ = some (.string s0) ∧ w2.cell? ⟨w.heap.size, 1, none⟩ = some (.bool true) ∧ w2.cell? ⟨w.heap.size, 2, none⟩ = some (.slice a2 n2 c2) := HWK.out _ (Below.trans (by repeat (first | exact Below.refl _ _ | refine Below.drew ?_)) hB2)))
    all_goals
      have HR : Hid (Below w.heap.size w w2) := HP.out _ (Below.trans (by repeat (first | exact Below.refl _ _ | refine Below.drew ?_)) hB2)
      clear hcells HWK HP hP hB2
      go_wp2
      go_ret
      exact ⟨by rw [HZ.out]; rfl, by first | exact HR.out | exact HR.out.drew⟩
  | false =>
    have HZ : Hid (z = (⟨#[105, 110, 100, 101, 120, 32]⟩ : ByteArray) ++ s0 ++ (⟨#[32]⟩ : ByteArray) ++ q) := HN.out
    have t1 : ¬ (6 + s0.size > 9223372036854775807) := by omega
    have t2 : ((⟨#[105, 110, 100, 101, 120, 32]⟩ : ByteArray) ++ s0).size = 6 + s0.size := by rw [ByteArray.size_append]; rfl
    have t3 : ¬ (6 + s0.size + 1 > 9223372036854775807) := by omega
    have t4 : ((⟨#[105, 110, 100, 101, 120, 32]⟩ : ByteArray) ++ s0 ++ (⟨#[32]⟩ : ByteArray)).size = 6 + s0.size + 1 := by rw [ByteArray.size_append, t2]; rfl
    have t5 : ¬ (6 + s0.size + 1 + q.size > 9223372036854775807) := by omega
    clear HN
    go_enter Tryz.func32, Tryz.ntmps32
    go_wp2_with fail
    obtain ⟨w0, hw0⟩ : ∃ w0, Hid (w0 = w.alloc (.cells #[.string s0, .bool false, .slice a2 n2 c2] 62)) := ⟨_, rfl⟩
    rw [← hw0.out] at hb0 hs0 x0 x1 x2 ⊢
    have HWK : Hid (∀ W, Below w0.heap.size w0 W → W.cell? ⟨w.heap.size, 0, none⟩ = some (.string s0) ∧ W.cell? ⟨w.heap.size, 1, none⟩ = some (.bool false) ∧ W.cell? ⟨w.heap.size, 2, none⟩ = some (.slice a2 n2 c2)) := by
      intro W hb
      refine ⟨?_, ?_, ?_⟩ <;> (rw [hb.cell hs0]; assumption)
    have HP : Hid (∀ W, Below w0.heap.size w0 W → Below w.heap.size w W) := fun W hb => hb0.trans (hb.mono hb0.size)
    clear hb0
    go_region_held3 (fun WW => WW.cell? ⟨w.heap.size, 0, none⟩ = some (.string s0) ∧ WW.cell? ⟨w.heap.size, 1, none⟩ = some (.bool false) ∧ WW.cell? ⟨w.heap.size, 2, none⟩ = some (.slice a2 n2 c2)) (first | assumption | go_keep) (first | (go_at_call 31; refine (hP _ (HP.out _ (by repeat (first | exact Below.refl _ _ | refine Below.drew ?_)))).mono ?_; rintro e w2 ⟨rfl, hB2⟩; have hcells : w2.cell? ⟨w.heap.size, 0, none⟩ = some (.string s0) ∧ w2.cell? ⟨w.heap.size, 1, none⟩ = some (.bool false) ∧ w2.cell? ⟨w.heap.size, 2, none⟩ = some (.slice a2 n2 c2) := HWK.out _ (Below.trans (by repeat (first | exact Below.refl _ _ | refine Below.drew ?_)) hB2)))
    all_goals
      have HR : Hid (Below w.heap.size w w2) := HP.out _ (Below.trans (by repeat (first | exact Below.refl _ _ | refine Below.drew ?_)) hB2)
      clear hcells HWK HP hP hB2
      go_wp2
      go_ret
      exact ⟨by rw [HZ.out]; rfl, by first | exact HR.out | exact HR.out.drew⟩
end Go.Proofs.YtfjlmkphnciglatGreatDoor

/-
  What the table of the types says of the bytes.
-/
namespace Go.Proofs.YtfjlmkphnciglatGreatDoor
open Go.RowKit
set_option maxRecDepth 4000

theorem Tryz.info5 : (Tryz.prog.info? 5).map (fun i => (i.zero, i.size, i.bytes)) = some (some (.int .u8 0), 1, 1) := by kernel_rfl

end Go.Proofs.YtfjlmkphnciglatGreatDoor

/-
  A strings.Builder of the call's own: what is written comes behind what it holds.
-/
namespace Go.Proofs.YtfjlmkphnciglatGreatDoor
open Go.RowKit
set_option maxRecDepth 4000

theorem builder_info : ∃ j, Tryz.prog.info? 66 = some j ∧ j.size = 2 := by
  have h : (Tryz.prog.info? 66).map (fun i => i.size) = some 2 := by kernel_rfl
  exact Option.map_eq_some_iff.1 h
theorem builder_lies : liesAt Tryz.prog Tryz.prog.depth 66 (2 / Tryz.prog.cellsOf 66) 0 66 1 = true := by kernel_rfl
theorem byte_info : ∃ i, Tryz.prog.info? 5 = some i ∧ i.zero = some (.int .u8 0) ∧ i.size = 1 ∧ i.bytes = 1 := by
  have h : (Tryz.prog.info? 5).map (fun i => (i.zero, i.size, i.bytes)) = some (some (.int .u8 0), 1, 1) := by kernel_rfl
  obtain ⟨i, hi, hz⟩ := Option.map_eq_some_iff.1 h
  simp only [Prod.mk.injEq] at hz
  exact ⟨i, hi, hz.1, hz.2.1, hz.2.2⟩

set_option maxHeartbeats 1000000 in
/-- copyCheck: the builder knows its own place behind it. -/
theorem copyCheck_any (B b : Nat) (bs : List Value) (w : World) (h : Lib.IsBuilder 66 5 B b bs w) :
    Calls Tryz.prog 60 #[.pointer (some ⟨b, 0, none⟩)] w fun e w' => e = .returned (.tuple #[]) ∧ Lib.BuilderAt 66 5 B b (.pointer (some ⟨b, 0, none⟩)) bs w' ∧ Below B w w' ∧ ∀ i, i ≠ b → w'.heap[i]? = w.heap[i]? := by
  obtain ⟨j, hj, hj2⟩ := builder_info
  rcases h with h | h
  · have c0 := h.cell0
    have f0 := h.frozen0
    have sh := h.shape
    have HR : Hid (Lib.BuilderAt 66 5 B b (.pointer (some ⟨b, 0, none⟩)) bs (w.setCell ⟨b, 0, none⟩ (.pointer (some ⟨b, 0, none⟩))) ∧ Below B w (w.setCell ⟨b, 0, none⟩ (.pointer (some ⟨b, 0, none⟩))) ∧ ∀ i, i ≠ b → (w.setCell ⟨b, 0, none⟩ (.pointer (some ⟨b, 0, none⟩))).heap[i]? = w.heap[i]?) := ⟨h.used _, (Below.refl B w).setCell (p := ⟨b, 0, none⟩) h.1 _, fun i hi => Below.heap_setCell _ _ _ _ hi⟩
    have q1 : (convert 63 86 (.pointer (some ⟨b, 0, none⟩))).run Tryz.prog w = .ok (.pointer (some ⟨b, 0, none⟩)) w :=
      Lib.run_to_unsafe w ⟨b, 0, none⟩ Tryz.underlying63 Tryz.underlying86 hj (by rw [hj2]; decide) sh (Nat.zero_lt_succ 1)
    have q2 : (convert 86 63 (.pointer (some ⟨b, 0, none⟩))).run Tryz.prog w = .ok (.pointer (some ⟨b, 0, none⟩)) w :=
      Lib.run_from_unsafe w ⟨b, 0, none⟩ Tryz.underlying86 Tryz.underlying63 hj sh builder_lies
    have q3 : (callFunc 76 #[.pointer (some ⟨b, 0, none⟩)]).run Tryz.prog w = _ := run_callFunc_extern (P := Tryz.prog) Tryz.func76 (by kernel_rfl) (by kernel_rfl) (by kernel_rfl) (e := Extern.AbiNoEscape.same) (by kernel_rfl) _ w
    rw [Lib.run_noEscape] at q3
    have q4 := fun W => Lib.run_neq_ptr_same W ⟨b, 0, none⟩ Tryz.underlying63 hj
    clear h sh
    go_enter Tryz.func60, Tryz.ntmps60
    go_wp2
    go_end0
    exact ⟨rfl, HR.out⟩
  · have c0 := h.cell0
    have q : (binOp .neq 63 (.pointer (some ⟨b, 0, none⟩)) (.pointer (some ⟨b, 0, none⟩))).run Tryz.prog w = .ok (.bool false) w := Lib.run_neq_ptr_same w _ Tryz.underlying63 hj
    have HR : Hid (Lib.BuilderAt 66 5 B b (.pointer (some ⟨b, 0, none⟩)) bs w) := h
    clear h
    go_enter Tryz.func60, Tryz.ntmps60
    go_wp2
    go_end0
    exact ⟨rfl, HR.out, Below.refl _ _, fun _ _ => rfl⟩

set_option maxHeartbeats 2000000 in
/-- WriteString: the text behind what is there. -/
theorem writeString_any (B b : Nat) (bs : List Value) (s : ByteArray) (w : World) (h : Lib.IsBuilder 66 5 B b bs w) (hlen : bs.length + s.size ≤ 140737488355328) (hBw : B ≤ w.heap.size) :
    Calls Tryz.prog 29 #[.pointer (some ⟨b, 0, none⟩), .string s] w fun e w' => e = .returned (.tuple #[.int .i64 s.size, .nilIface]) ∧ Lib.IsBuilder 66 5 B b (bs ++ Lib.strCells s) w' ∧ Below B w w' := by
  obtain ⟨i0, hi, hz0, hz1, hz2⟩ := byte_info
  have hC := copyCheck_any B b bs w h
  clear h
  go_enter Tryz.func29, Tryz.ntmps29
  go_wp2_with fail
  refine hC.mono ?_
  rintro e w1 ⟨rfl, hA, hb1, hk1⟩
  clear hC
  have hlt := hA.lt
  obtain ⟨hB, v, hbk, hown, hne⟩ := hA
  have c1 : w1.cell? ⟨b, 1, none⟩ = some v := by rw [Lib.cell_of_heap hbk]; rfl
  have hs1 := hb1.size
  go_wp2_with (at_builtin; refine Lib.wpList_append_own_string _ rfl (.tmp 12) (.tmp 13) 64 9 rfl B 5 i0 Tryz.underlying64 Tryz.underlying9 hi hz0 hz1 hz2 v _ _ rfl hown s rfl (by unfold maxLen; omega) (by omega) (by omega) ?_)
  intro v5 w2 hown5 hgr hnil
  have hb2 : w2.heap[b]? = some (.cells #[.pointer (some ⟨b, 0, none⟩), v] 66 (0, 0)) := by
    rw [hgr.block b hlt (fun e => hne e.symm)]
    exact hbk
  have f1 : w2.frozen? ⟨b, 1, none⟩ = false := Lib.frozen_of_heap hb2 1
  have d1 : w2.cell? ⟨b, 1, none⟩ = some v := by rw [Lib.cell_of_heap hb2]; rfl
  have HA : Hid (Lib.BuilderAt 66 5 B b (.pointer (some ⟨b, 0, none⟩)) (bs ++ Lib.strCells s) (w2.setCell ⟨b, 1, none⟩ v5) ∧ Below B w (w2.setCell ⟨b, 1, none⟩ v5)) :=
    ⟨Lib.BuilderAt.put hB hb2 (bs' := bs ++ Lib.strCells s) (by simpa [Lib.strCells_length] using hown5) (by decide), (hb1.grown hgr (by omega) (fun k hk => (hown.lt k hk).1)).setCell (p := ⟨b, 1, none⟩) hB _⟩
  obtain ⟨a', n', cap', rfl⟩ : ∃ a n' cap, v5 = .slice a n' cap := by
    rcases hown5.2 with ⟨hv, _⟩ | ⟨g, cap, cur, hv, _⟩
    · exact ⟨_, _, _, hv⟩
    · exact ⟨_, _, _, hv⟩
  clear hown hown5 hgr hnil hbk hb2 c1 hk1
  go_wp2
  go_ret2
  exact ⟨rfl, Or.inr HA.out.1, HA.out.2⟩
end Go.Proofs.YtfjlmkphnciglatGreatDoor

/-
  A builder stays while nothing of what lay is turned.
-/
namespace Go.Proofs.YtfjlmkphnciglatGreatDoor
open Go.RowKit
set_option maxRecDepth 4000

theorem builder_below {T e : TypeId} {B b : Nat} {bs : List Value} {w w' : World} (h : Lib.IsBuilder T e B b bs w) (hb : Below w.heap.size w w') : Lib.IsBuilder T e B b bs w' := by
  have key : ∀ p, Lib.BuilderAt T e B b p bs w → Lib.BuilderAt T e B b p bs w' := by
    intro p h
    have hlt := h.lt
    obtain ⟨hB, v, hbk, hown, hne⟩ := h
    refine ⟨hB, v, by rw [hb.block b hlt]; exact hbk, hown.kept (row := none) ⟨hb.os, hb.tape, hb.output, hb.size, fun k hk _ => hb.block k hk⟩ ?_, hne⟩
    cases hv : v.ownBlock with
    | none => exact Or.inl rfl
    | some k => exact Or.inr (fun e => by cases e)
  rcases h with h | h
  · exact Or.inl (key _ h)
  · exact Or.inr (key _ h)

end Go.Proofs.YtfjlmkphnciglatGreatDoor

/-
  A scope in which the run jumps from label to label: what holds at every jump, and a measure that every pass lowers.
-/
namespace Go.Proofs.YtfjlmkphnciglatGreatDoor
open Go.RowKit
set_option maxRecDepth 4000

/-- As Q; by a goto to label l: J l. -/
def jumps (J : Nat → Act → World → Prop) (Q : Exit → Act → World → Prop) : Exit → Act → World → Prop
  | .goto l, a, w => J l a w
  | e, a, w => Q e a w
theorem jumps_normal {J : Nat → Act → World → Prop} {Q : Exit → Act → World → Prop} {a : Act} {w : World} : jumps J Q .normal a w = Q .normal a w := rfl
theorem jumps_ret {J : Nat → Act → World → Prop} {Q : Exit → Act → World → Prop} {a : Act} {w : World} : jumps J Q .ret a w = Q .ret a w := rfl
theorem jumps_exit {J : Nat → Act → World → Prop} {Q : Exit → Act → World → Prop} {i : Nat} {a : Act} {w : World} : jumps J Q (.exit i) a w = Q (.exit i) a w := rfl
theorem jumps_goto {J : Nat → Act → World → Prop} {Q : Exit → Act → World → Prop} {l : Nat} {a : Act} {w : World} : jumps J Q (.goto l) a w = J l a w := rfl

theorem wp_scope_labels {P : Program} {a : Act} {w : World} {Q : Exit → Act → World → Prop} {c : Code} (R : Nat → Code) (J : Nat → Act → World → Prop) (μ : Nat → Act → World → Nat)
    (hf : ∀ l a w, J l a w → findLabel c l = some (R l)) (first : c.wp P (jumps J Q) a w)
    (pass : ∀ l a w, J l a w → (R l).wp P (jumps (fun l' a' w' => J l' a' w' ∧ μ l' a' w' < μ l a w) Q) a w) : (Code.scope c).wp P Q a w := by
  intro b k cs
  have key : ∀ n l a w, μ l a w = n → J l a w → ∃ e a' w', Q e a' w' ∧ Arrives P (lone (b.at a (.code (R l) :: .inScope c :: k)) cs w) b k cs e a' w' := by
    intro n
    induction n using Nat.strongRecOn with
    | _ n ih =>
      intro l a w hn hJ
      obtain ⟨e, a₁, w₁, hq, harr⟩ := pass l a w hJ b (.inScope c :: k) cs
      cases e with
      | normal => exact ⟨.normal, a₁, w₁, hq, Steps.trans harr (.one step_inScope)⟩
      | exit id => exact ⟨.exit id, a₁, w₁, hq, fun k' hk => harr k' (by simp [exitTo, hk])⟩
      | goto l' =>
        obtain ⟨hJ', hlt⟩ := hq
        obtain ⟨e₂, a₂, w₂, hq₂, harr₂⟩ := ih _ (by omega) l' a₁ w₁ rfl hJ'
        have hg : gotoIn l' (.inScope c :: k) = some (.code (R l') :: .inScope c :: k) := by simp [gotoIn, hf l' a₁ w₁ hJ']
        exact ⟨e₂, a₂, w₂, hq₂, .of_steps (harr _ hg) harr₂⟩
      | ret => exact ⟨_, a₁, w₁, hq, harr⟩
      | panic ch => exact ⟨_, a₁, w₁, hq, harr⟩
      | outgrown => exact ⟨_, a₁, w₁, hq, harr⟩
  obtain ⟨e, a₁, w₁, hq, harr⟩ := first b (.inScope c :: k) cs
  cases e with
  | normal => exact ⟨.normal, a₁, w₁, hq, .head step_scope (Steps.trans harr (.one step_inScope))⟩
  | exit id => exact ⟨.exit id, a₁, w₁, hq, fun k' hk => .head step_scope (harr k' (by simp [exitTo, hk]))⟩
  | goto l' =>
    have hJ' : J l' a₁ w₁ := hq
    obtain ⟨e₂, a₂, w₂, hq₂, harr₂⟩ := key _ l' a₁ w₁ rfl hJ'
    have hg : gotoIn l' (.inScope c :: k) = some (.code (R l') :: .inScope c :: k) := by simp [gotoIn, hf l' a₁ w₁ hJ']
    exact ⟨e₂, a₂, w₂, hq₂, .of_steps (.head step_scope (harr _ hg)) harr₂⟩
  | ret => exact ⟨_, a₁, w₁, hq, .of_steps (.one step_scope) harr⟩
  | panic ch => exact ⟨_, a₁, w₁, hq, .of_steps (.one step_scope) harr⟩
  | outgrown => exact ⟨_, a₁, w₁, hq, .of_steps (.one step_scope) harr⟩

/-- The same, the code behind a label named where it is wanted; the way into the scope may run on into a label. -/
theorem wp_scope_goto {P : Program} {a : Act} {w : World} {Q : Exit → Act → World → Prop} {c : Code} (J : Nat → Act → World → Prop) (μ : Nat → Act → World → Nat)
    (hf : ∀ l a w, J l a w → ∃ X, findLabel c l = some (.seq .skip X))
    (pass : ∀ (T : Nat → Act → World → Prop) l a w X, findLabel c l = some (.seq .skip X) → J l a w → (∀ l' a' w', J l' a' w' → μ l' a' w' < μ l a w → T l' a' w') → X.wp P (jumps T Q) a w)
    (first : (∀ l a w X, findLabel c l = some (.seq .skip X) → J l a w → X.wp P (jumps J Q) a w) → c.wp P (jumps J Q) a w) : (Code.scope c).wp P Q a w := by
  refine wp_scope_labels (fun l => (findLabel c l).getD .skip) J μ (fun l a w h => ?_) (first (fun l a w X hr h => pass J l a w X hr h (fun _ _ _ h' _ => h'))) (fun l a w h => ?_)
  · obtain ⟨X, hr⟩ := hf l a w h
    rw [hr]; rfl
  · obtain ⟨X, hr⟩ := hf l a w h
    rw [hr]
    exact wp_seq (wp_skip (pass _ l a w X hr h (fun l' a' w' h1 h2 => ⟨h1, h2⟩)))
end Go.Proofs.YtfjlmkphnciglatGreatDoor

/-
  A slice of tokens that reads, by a function of the index, and how that is carried from one world to the next.
-/
namespace Go.Proofs.YtfjlmkphnciglatGreatDoor
open Go.RowKit
set_option maxRecDepth 4000

/-- The slice value '.slice ao n cap' reads, in the world w, as the n tokens f 0 up to f (n - 1). -/
structure TView (w : World) (ao : Option Addr) (n cap : Nat) (fk : Nat → Int) (fs : Nat → ByteArray) : Prop where
  le : n ≤ cap
  cells : 0 < n → ∃ b off, ao = some ⟨b, off, none⟩ ∧ b < w.heap.size ∧ ∀ i, i < n → w.cell? ⟨b, off + i * 2, none⟩ = some (.int .i64 (fk i)) ∧ w.cell? ⟨b, off + i * 2 + 1, none⟩ = some (.string (fs i))

theorem TView.below {w w' : World} {ao : Option Addr} {n cap : Nat} {fk : Nat → Int} {fs : Nat → ByteArray} (h : TView w ao n cap fk fs) (hb : Below w.heap.size w w') : TView w' ao n cap fk fs := by
  refine ⟨h.le, fun hn => ?_⟩
  obtain ⟨b, off, e, hlt, hc⟩ := h.cells hn
  refine ⟨b, off, e, Nat.lt_of_lt_of_le hlt hb.size, fun i hi => ?_⟩
  rw [hb.cell (p := ⟨b, off + i * 2, none⟩) hlt, hb.cell (p := ⟨b, off + i * 2 + 1, none⟩) hlt]
  exact hc i hi
theorem TView.but {w w' : World} {g : Nat} {ao : Option Addr} {n cap : Nat} {fk : Nat → Int} {fs : Nat → ByteArray} (h : TView w ao n cap fk fs) (hb : But g w w') (hne : ∀ a, ao = some a → a.block ≠ g) : TView w' ao n cap fk fs := by
  refine ⟨h.le, fun hn => ?_⟩
  obtain ⟨b, off, e, hlt, hc⟩ := h.cells hn
  refine ⟨b, off, e, Nat.lt_of_lt_of_le hlt hb.size, fun i hi => ?_⟩
  rw [World.cell?_of_block (w := w) (a := ⟨b, off + i * 2, none⟩) (hb.block b hlt (hne _ e)), World.cell?_of_block (w := w) (a := ⟨b, off + i * 2 + 1, none⟩) (hb.block b hlt (hne _ e))]
  exact hc i hi
theorem TView.congr {w : World} {ao : Option Addr} {n cap : Nat} {fk gk : Nat → Int} {fs gs : Nat → ByteArray} (h : TView w ao n cap fk fs) (e : ∀ i, i < n → fk i = gk i ∧ fs i = gs i) : TView w ao n cap gk gs := by
  refine ⟨h.le, fun hn => ?_⟩
  obtain ⟨b, off, ea, hlt, hc⟩ := h.cells hn
  exact ⟨b, off, ea, hlt, fun i hi => by rw [← (e i hi).1, ← (e i hi).2]; exact hc i hi⟩

/-- The cells of the first k tokens. -/
def rowK (gk : Nat → Int) (gs : Nat → ByteArray) : Nat → List Value
  | 0 => []
  | k + 1 => rowK gk gs k ++ [.int .i64 (gk k), .string (gs k)]
theorem rowK_len (gk : Nat → Int) (gs : Nat → ByteArray) : ∀ k, (rowK gk gs k).length = k * 2
  | 0 => rfl
  | k + 1 => by rw [rowK, List.length_append, rowK_len gk gs k]; simp; omega
theorem rowK_get (gk : Nat → Int) (gs : Nat → ByteArray) : ∀ k i, i < k → (rowK gk gs k)[i * 2]? = some (.int .i64 (gk i)) ∧ (rowK gk gs k)[i * 2 + 1]? = some (.string (gs i))
  | k + 1, i, hi => by
    have hl := rowK_len gk gs k
    by_cases e : i < k
    · obtain ⟨h1, h2⟩ := rowK_get gk gs k i e
      rw [rowK, List.getElem?_append_left (by omega), List.getElem?_append_left (by omega)]
      exact ⟨h1, h2⟩
    · obtain rfl : i = k := by omega
      rw [rowK, List.getElem?_append_right (by omega), List.getElem?_append_right (by omega), hl]
      simp [show i * 2 + 1 - i * 2 = 1 by omega]
theorem rowK_congr {gk : Nat → Int} {gs : Nat → ByteArray} {hk : Nat → Int} {hs : Nat → ByteArray} : ∀ {k : Nat}, (∀ i, i < k → gk i = hk i ∧ gs i = hs i) → rowK gk gs k = rowK hk hs k
  | 0, _ => rfl
  | k + 1, e => by
    obtain ⟨h1, h3⟩ := e k (by omega)
    rw [rowK, rowK, rowK_congr (fun i hi => e i (by omega)), h1, h3]

/-- A row of tokens of the call's own reads. -/
theorem tview_of_own {w : World} {base : Nat} {v : Value} {N : Nat} {gk : Nat → Int} {gs : Nat → ByteArray} (h : w.ownsRow base 132 2 v N (rowK gk gs N)) : ∃ a c, v = .slice a N c ∧ TView w a N c gk gs ∧ (v ≠ .slice none 0 0 → ∃ g, a = some ⟨g, 0, none⟩ ∧ base ≤ g) := by
  obtain ⟨hl, h⟩ := h
  rcases h with ⟨rfl, h0⟩ | ⟨g, c, cur, rfl, hb, hg, hnc, _, hcs, ht⟩
  · have hN : N = 0 := by have := h0; have := rowK_len gk gs N; omega
    subst hN
    exact ⟨none, 0, rfl, ⟨Nat.le_refl _, fun hn => absurd hn (Nat.lt_irrefl _)⟩, fun hne => absurd rfl hne⟩
  · refine ⟨_, c, rfl, ⟨hnc, fun hn => ⟨g, 0, rfl, ?_, fun i hi => ?_⟩⟩, fun _ => ⟨g, rfl, hb⟩⟩
    · exact (Array.getElem?_eq_some_iff.1 hg).1
    · have key : ∀ j x, j < N * 2 → (rowK gk gs N)[j]? = some x → w.cell? ⟨g, 0 + j, none⟩ = some x := by
        intro j x hj hx
        rw [← ht, List.getElem?_take, if_pos hj] at hx
        simp only [World.cell?, hg, Nat.zero_add]
        simpa using hx
      obtain ⟨h1, h2⟩ := rowK_get gk gs N i hi
      have k0 := key _ _ (by omega) h1
      have k1 := key _ _ (by omega) h2
      simp only [Nat.zero_add] at k0 k1 ⊢
      exact ⟨k0, k1⟩
end Go.Proofs.YtfjlmkphnciglatGreatDoor

/-
  A token in a variable of the call's own; a row of tokens grows by one.
-/
namespace Go.Proofs.YtfjlmkphnciglatGreatDoor
open Go.RowKit
set_option maxRecDepth 4000

/-- The two cells of a token. -/
def tokC (k : Int) (s : ByteArray) : Nat → Value
  | 0 => .int .i64 k
  | _ => .string s

/-- A token in a variable of the call's own. -/
def TBox (w : World) (B : Nat) (k : Int) (s : ByteArray) : Prop := w.rowIs B 132 2 (tokC k s)
theorem TBox.new (w : World) (k : Int) (s : ByteArray) : TBox (w.alloc (.cells #[.int .i64 k, .string s] 132)) w.heap.size k s :=
  World.rowIs_alloc w _ 132 (tokC k s) (fun j hj => by match j, hj with | 0, _ => rfl | 1, _ => rfl)
theorem TBox.cells {w : World} {B : Nat} {k : Int} {s : ByteArray} (h : TBox w B k s) : w.cell? ⟨B, 0, none⟩ = some (.int .i64 k) ∧ w.cell? ⟨B, 1, none⟩ = some (.string s) :=
  ⟨h.cell (i := 0) (by decide), h.cell (i := 1) (by decide)⟩
theorem TBox.frozen {w : World} {B : Nat} {k : Int} {s : ByteArray} (h : TBox w B k s) : w.frozen? ⟨B, 0, none⟩ = false ∧ w.frozen? ⟨B, 1, none⟩ = false :=
  ⟨World.rowIs.frozen h 0, World.rowIs.frozen h 1⟩
theorem TBox.lt {w : World} {B : Nat} {k : Int} {s : ByteArray} (h : TBox w B k s) : B < w.heap.size := World.rowIs.lt h
theorem TBox.below {w w' : World} {B : Nat} {k : Int} {s : ByteArray} (h : TBox w B k s) (hb : Below w.heap.size w w') : TBox w' B k s := h.of_block (hb.block B h.lt)
theorem TBox.but {w w' : World} {B g : Nat} {k : Int} {s : ByteArray} (h : TBox w B k s) (hb : But g w w') (hne : B ≠ g) : TBox w' B k s := h.of_block (hb.block B h.lt hne)
theorem TBox.set0 {w : World} {B : Nat} {k : Int} {s : ByteArray} (h : TBox w B k s) (x : Int) : TBox (w.setCell ⟨B, 0, none⟩ (.int .i64 x)) B x s :=
  (World.rowIs.set h 0 _).congr (fun j hj => by match j, hj with | 0, _ => rfl | 1, _ => rfl)
theorem TBox.set1 {w : World} {B : Nat} {k : Int} {s : ByteArray} (h : TBox w B k s) (t : ByteArray) : TBox (w.setCell ⟨B, 1, none⟩ (.string t)) B k t :=
  (World.rowIs.set h 1 _).congr (fun j hj => by match j, hj with | 0, _ => rfl | 1, _ => rfl)
theorem TBox.other {w : World} {B D i : Nat} {k : Int} {s : ByteArray} (h : TBox w B k s) (hne : B ≠ D) (u : Value) : TBox (w.setCell ⟨D, i, none⟩ u) B k s := h.of_block (Below.heap_setCell _ _ _ _ hne)

theorem infoTok2 : ∃ i, Tryz.prog.info? 132 = some i ∧ i.zero = some (.agg #[.int .i64 0, .string ⟨#[]⟩]) ∧ i.size = 2 ∧ i.bytes = 24 := by
  have h : (Tryz.prog.info? 132).map (fun i => (i.zero, i.size, i.bytes)) = some (some (.agg #[.int .i64 0, .string ⟨#[]⟩]), 2, 24) := by kernel_rfl
  obtain ⟨i, hi, hz⟩ := Option.map_eq_some_iff.1 h
  simp only [Prod.mk.injEq] at hz
  exact ⟨i, hi, hz.1, hz.2.1, hz.2.2⟩

/-- The cells of a new row of one token. -/
theorem cells_tok (W : World) (k : Int) (s : ByteArray) : ∀ j u, [Value.int .i64 k, .string s][j]? = some u → (W.alloc (.cells #[.int .i64 k, .string s] 132)).cell? ((⟨W.heap.size, 0, none⟩ : Addr).add j) = some u := by
  intro j u h
  obtain ⟨c0, c1⟩ := (TBox.new W k s).cells
  have ea : ∀ j, (⟨W.heap.size, 0, none⟩ : Addr).add j = ⟨W.heap.size, 0 + j, none⟩ := fun j => by unfold Addr.add; split <;> simp_all
  match j, h with
  | 0, h => cases h; rw [ea]; exact c0
  | 1, h => cases h; rw [ea]; exact c1
  | j + 2, h => simp at h
theorem one_tok (k : Int) (s : ByteArray) : ∀ u ∈ [Value.int .i64 k, .string s], u.oneCell' = true := by
  intro u hu
  simp at hu
  rcases hu with rfl | rfl <;> rfl
theorem own_below2 {w w' : World} {base : Nat} {t : TypeId} {v : Value} {n : Nat} {l : List Value} (h : w.ownsRow base t 2 v n l) (hb : Below w.heap.size w w') : w'.ownsRow base t 2 v n l := by
  refine h.kept (row := none) ⟨hb.os, hb.tape, hb.output, hb.size, fun k hk _ => hb.block k hk⟩ ?_
  cases hv : v.ownBlock with
  | none => exact Or.inl rfl
  | some k => exact Or.inr (fun e => by cases e)
end Go.Proofs.YtfjlmkphnciglatGreatDoor

/-
  What Lex comes to: tokens in a row of the call's own, and a place.
-/
namespace Go.Proofs.YtfjlmkphnciglatGreatDoor
open Go.RowKit
set_option maxRecDepth 4000

def tk (l : List (Int × ByteArray)) (i : Nat) : Int := (l.getD i (0, ⟨#[]⟩)).1
def ts (l : List (Int × ByteArray)) (i : Nat) : ByteArray := (l.getD i (0, ⟨#[]⟩)).2
/-- The cells of a list of tokens. -/
def rowL (l : List (Int × ByteArray)) : List Value := l.flatMap (fun t => [.int .i64 t.1, .string t.2])
theorem rowL_snoc (l : List (Int × ByteArray)) (t : Int × ByteArray) : rowL (l ++ [t]) = rowL l ++ [.int .i64 t.1, .string t.2] := by simp [rowL]
theorem tk_left {l m : List (Int × ByteArray)} {i : Nat} (h : i < l.length) : tk (l ++ m) i = tk l i ∧ ts (l ++ m) i = ts l i := by
  unfold tk ts; simp [List.getD, List.getElem?_append_left h]
theorem rowL_K : ∀ l : List (Int × ByteArray), rowL l = rowK (tk l) (ts l) l.length := by
  have key : ∀ (l : List (Int × ByteArray)) (k : Nat), k ≤ l.length → rowL (l.take k) = rowK (tk l) (ts l) k := by
    intro l k
    induction k with
    | zero => intro _; rfl
    | succ k ih =>
      intro hk
      have h1 : l.take (k + 1) = l.take k ++ [l[k]] := by rw [List.take_add_one, List.getElem?_eq_getElem (by omega)]; rfl
      have h2 : l.getD k (0, ⟨#[]⟩) = l[k] := by simp [List.getD, List.getElem?_eq_getElem (show k < l.length by omega)]
      rw [h1, rowL_snoc, ih (by omega), rowK]
      unfold tk ts
      rw [h2]
  intro l
  have := key l l.length (Nat.le_refl _)
  rw [List.take_length] at this
  exact this
/-- What Lex comes to. -/
def LexTo (w : World) (r : List (Int × ByteArray) × Int) (e : Ending) (w' : World) : Prop :=
  ∃ v, e = .returned (.tuple #[v, .int .i64 r.2]) ∧ v ≠ .slice none 0 0 ∧ w'.ownsRow w.heap.size 132 2 v r.1.length (rowL r.1) ∧ Below w.heap.size w w'
end Go.Proofs.YtfjlmkphnciglatGreatDoor

/-
  Names and marks in a text, plainly.
-/
namespace Go.Proofs.YtfjlmkphnciglatGreatDoor
open Go.RowKit
set_option maxRecDepth 4000

theorem endN_in {s : ByteArray} {p j : Nat} (h1 : p ≤ j) (h2 : j < endN s p) : inName (bt s j) = true := by
  by_cases h : p < s.size ∧ inName (bt s p) = true
  · by_cases e : p = j
    · subst e; exact h.2
    · rw [endN_step h.1 h.2] at h2
      exact endN_in (p := p + 1) (by omega) h2
  · rw [endN_stop h] at h2; omega
  termination_by s.size - p
  decreasing_by omega
/-- A name in a text is right just if it is not too long. -/
theorem name_ok {s : ByteArray} {i : Nat} (hi : i < s.size) (hsm : small (bt s i) = true) : nameOk (s.extract i (endN s (i + 1))) = decide (endN s (i + 1) - i ≤ 8) := by
  have hge := endN_ge s (i + 1)
  have hle := endN_le s (i + 1) (by omega)
  have hsz : (s.extract i (endN s (i + 1))).size = endN s (i + 1) - i := by rw [ByteArray.size_extract]; omega
  unfold nameOk
  rw [hsz, bt_extract hle (by omega), Nat.add_zero]
  by_cases h8 : endN s (i + 1) - i ≤ 8
  · rw [decide_eq_true h8]
    refine decide_eq_true ⟨by omega, h8, hsm, fun j hj => ?_⟩
    rw [bt_extract hle (by omega)]
    by_cases h0 : j = 0
    · subst h0; rw [Nat.add_zero]; unfold inName; rw [hsm]; rfl
    · exact endN_in (p := i + 1) (by omega) (by omega)
  · rw [decide_eq_false h8]
    exact decide_eq_false (fun h => h8 h.2.1)
theorem mark_ok {s : ByteArray} {i : Nat} (hi : i < s.size) : markOk (s.extract i (i + 1)) = markC (bt s i) := by
  have hsz : (s.extract i (i + 1)).size = 1 := by rw [ByteArray.size_extract]; omega
  unfold markOk
  rw [hsz, bt_extract (by omega) (by omega), Nat.add_zero]
  simp
theorem small_kind {s : ByteArray} {i : Nat} (h : small (bt s i) = true) : kindAt s i = 1 ∧ stopAt s i = endN s (i + 1) := by unfold kindAt stopAt; rw [h]; exact ⟨rfl, rfl⟩
theorem other_kind {s : ByteArray} {i : Nat} (h : small (bt s i) = false) : kindAt s i = 2 ∧ stopAt s i = i + 1 := by unfold kindAt stopAt; rw [h]; exact ⟨rfl, rfl⟩
theorem mark_not {c : Int} (h : markC c = true) : small c = false ∧ blank c = false := by
  unfold markC at h
  unfold small blank
  simp only [decide_eq_true_eq] at h
  exact ⟨decide_eq_false (by omega), decide_eq_false (by omega)⟩
theorem small_not {c : Int} (h : small c = true) : blank c = false := by
  unfold small at h
  unfold blank
  simp only [decide_eq_true_eq] at h
  exact decide_eq_false (by omega)
end Go.Proofs.YtfjlmkphnciglatGreatDoor

/-
  What the program asks of one byte; a text cloned.
-/
namespace Go.Proofs.YtfjlmkphnciglatGreatDoor
open Go.RowKit
set_option maxRecDepth 4000

set_option maxHeartbeats 1000000 in
theorem isBlank_any (c : Int) (w : World) : Calls Tryz.prog 86 #[.int .u8 c] w fun e w' => e = .returned (.bool (blank c)) ∧ w = w' := by
  have HB : Hid (blank c = (c == 32 || c == 9 || c == 10 || c == 13)) := by show _ = _; unfold blank; rw [Bool.eq_iff_iff]; simp [or_assoc]
  go_enter Tryz.func86, Tryz.ntmps86
  go_wp2
  all_goals
    go_ret
    exact ⟨by rw [HB.out]; simp [*], rfl⟩
set_option maxHeartbeats 1000000 in
theorem isMark_any (c : Int) (w : World) : Calls Tryz.prog 88 #[.int .u8 c] w fun e w' => e = .returned (.bool (markC c)) ∧ w = w' := by
  have HB : Hid (markC c = (c == 123 || c == 125 || c == 44 || c == 59)) := by show _ = _; unfold markC; rw [Bool.eq_iff_iff]; simp [or_assoc]
  go_enter Tryz.func88, Tryz.ntmps88
  go_wp2
  all_goals
    go_ret
    exact ⟨by rw [HB.out]; simp [*], rfl⟩
set_option maxHeartbeats 1000000 in
theorem isLetter_any (c : Int) (w : World) (h0 : 0 ≤ c) (h1 : c ≤ 255) : Calls Tryz.prog 87 #[.int .u8 c] w fun e w' => e = .returned (.bool (small c)) ∧ w = w' := by
  have HB : Hid (small c = (decide (97 ≤ c) && decide (c ≤ 122))) := by show _ = _; unfold small; simp
  by_cases h : 97 ≤ c
  · go_enter Tryz.func87, Tryz.ntmps87
    go_wp2
    go_ret
    exact ⟨by rw [HB.out]; simp [h], rfl⟩
  · go_enter Tryz.func87, Tryz.ntmps87
    go_wp2
    go_ret
    exact ⟨by rw [HB.out]; simp; omega, rfl⟩
set_option maxHeartbeats 1000000 in
theorem isDigit_any (c : Int) (w : World) (h0 : 0 ≤ c) (h1 : c ≤ 255) : Calls Tryz.prog 89 #[.int .u8 c] w fun e w' => e = .returned (.bool (digit c)) ∧ w = w' := by
  have HB : Hid (digit c = (decide (48 ≤ c) && decide (c ≤ 57))) := by show _ = _; unfold digit; simp
  by_cases h : 48 ≤ c
  · go_enter Tryz.func89, Tryz.ntmps89
    go_wp2
    go_ret
    exact ⟨by rw [HB.out]; simp [h], rfl⟩
  · go_enter Tryz.func89, Tryz.ntmps89
    go_wp2
    go_ret
    exact ⟨by rw [HB.out]; simp; omega, rfl⟩
theorem strClone_tok (s : ByteArray) (w : World) (hs : s.size ≤ 281474976710656) :
    Calls Tryz.prog 90 #[.string s] w fun e w' => e = .returned (.string s) ∧ Below w.heap.size w w' := by
  go_enter Tryz.func90, Tryz.ntmps90
  go_wp2_with (go_at_call 96; refine (Tryz.stringslite_Clone s _ hs).mono ?_; rintro e w2 ⟨rfl, hB⟩)
  go_ret
  exact ⟨rfl, hB⟩
end Go.Proofs.YtfjlmkphnciglatGreatDoor

/-
  The program's Lex: from state to state.
-/
namespace Go.Proofs.YtfjlmkphnciglatGreatDoor
open Go.RowKit
set_option maxRecDepth 4000

/-- What holds between two tokens. -/
structure Inv (s : ByteArray) (w : World) (r : List (Int × ByteArray) × Int) (i : Nat) (l : List (Int × ByteArray)) (v : Value) (W : World) : Prop where
  le : i ≤ s.size
  ne : v ≠ .slice none 0 0
  few : l.length ≤ 500
  lex : lexF s i l = r
  own : W.ownsRow w.heap.size 132 2 v l.length (rowL l)
  below : Below w.heap.size w W
def jLex (s : ByteArray) (w : World) (r : List (Int × ByteArray) × Int) : Nat → Act → World → Prop
  | 0, a, W => ∃ (i : Nat) (l : List (Int × ByteArray)) (v : Value), (∃ u5 u7 u8 u9 u10 u11 u12 u13 u14 u15 u16 u17 u18 u19 u20 u21 u22 u23 u24 u25 u26 u27 u28 u29 u30 u31 u32 u33 u34 u35 u36 u37 u38 u39 u40 u41 u42 u43 u44 u45 u46 u47 u48 u49 u50 u51 u52 u53 u54 u55 u56 u57 u58 u59 u60 u61 u62 u63 u64 u65 u66 u67 u68 u69 u70 u71 u72 u73 u74 u75 u76 : Value, a = { tmps := #[.string s, undef, .slice none 0 0, .int .i64 0, v, u5, .int .i64 i, u7, u8, u9, u10, u11, u12, u13, u14, u15, u16, u17, u18, u19, u20, u21, u22, u23, u24, u25, u26, u27, u28, u29, u30, u31, u32, u33, u34, u35, u36, u37, u38, u39, u40, u41, u42, u43, u44, u45, u46, u47, u48, u49, u50, u51, u52, u53, u54, u55, u56, u57, u58, u59, u60, u61, u62, u63, u64, u65, u66, u67, u68, u69, u70, u71, u72, u73, u74, u75, u76], defers := [] }) ∧ Inv s w r i l v W
  | 1, a, W => ∃ (i : Nat), (∃ u4 u6 u7 u8 u9 u10 u11 u12 u13 u14 u15 u16 u17 u18 u19 u20 u21 u22 u23 u24 u25 u26 u27 u28 u29 u30 u31 u32 u33 u34 u35 u36 u37 u38 u39 u40 u41 u42 u43 u44 u45 u46 u47 u48 u49 u50 u51 u52 u53 u54 u55 u56 u57 u58 u59 u60 u61 u62 u63 u64 u65 u66 u67 u68 u69 u70 u71 u72 u73 u74 u75 u76 : Value, a = { tmps := #[.string s, undef, .slice none 0 0, .int .i64 0, u4, .int .i64 i, u6, u7, u8, u9, u10, u11, u12, u13, u14, u15, u16, u17, u18, u19, u20, u21, u22, u23, u24, u25, u26, u27, u28, u29, u30, u31, u32, u33, u34, u35, u36, u37, u38, u39, u40, u41, u42, u43, u44, u45, u46, u47, u48, u49, u50, u51, u52, u53, u54, u55, u56, u57, u58, u59, u60, u61, u62, u63, u64, u65, u66, u67, u68, u69, u70, u71, u72, u73, u74, u75, u76], defers := [] }) ∧ r = ([], (i : Int)) ∧ Below w.heap.size w W
  | 2, a, W => ∃ (i j : Nat) (l : List (Int × ByteArray)) (v : Value), (∃ u7 u8 u9 u10 u11 u12 u13 u14 u15 u16 u17 u18 u19 u20 u21 u22 u23 u24 u25 u26 u27 u28 u29 u30 u31 u32 u33 u34 u35 u36 u37 u38 u39 u40 u41 u42 u43 u44 u45 u46 u47 u48 u49 u50 u51 u52 u53 u54 u55 u56 u57 u58 u59 u60 u61 u62 u63 u64 u65 u66 u67 u68 u69 u70 u71 u72 u73 u74 u75 u76 : Value, a = { tmps := #[.string s, undef, .slice none 0 0, .int .i64 0, v, .int .i64 i, .int .i64 j, u7, u8, u9, u10, u11, u12, u13, u14, u15, u16, u17, u18, u19, u20, u21, u22, u23, u24, u25, u26, u27, u28, u29, u30, u31, u32, u33, u34, u35, u36, u37, u38, u39, u40, u41, u42, u43, u44, u45, u46, u47, u48, u49, u50, u51, u52, u53, u54, u55, u56, u57, u58, u59, u60, u61, u62, u63, u64, u65, u66, u67, u68, u69, u70, u71, u72, u73, u74, u75, u76], defers := [] }) ∧ Inv s w r i l v W ∧ l.length ≠ 500 ∧ small (bt s i) = true ∧ i < j ∧ j ≤ s.size ∧ endN s j = endN s (i + 1)
  | 3, a, W => ∃ (i j : Nat) (l : List (Int × ByteArray)) (v : Value), (∃ u7 u8 u9 u10 u11 u12 u13 u14 u15 u16 u17 u18 u19 u20 u21 u22 u23 u24 u25 u26 u27 u28 u29 u30 u31 u32 u33 u34 u35 u36 u37 u38 u39 u40 u41 u42 u43 u44 u45 u46 u47 u48 u49 u50 u51 u52 u53 u54 u55 u56 u57 u58 u59 u60 u61 u62 u63 u64 u65 u66 u67 u68 u69 u70 u71 u72 u73 u74 u75 u76 : Value, a = { tmps := #[.string s, undef, .slice none 0 0, .int .i64 0, v, .int .i64 i, .int .i64 j, u7, u8, u9, u10, u11, u12, u13, u14, u15, u16, u17, u18, u19, u20, u21, u22, u23, u24, u25, u26, u27, u28, u29, u30, u31, u32, u33, u34, u35, u36, u37, u38, u39, u40, u41, u42, u43, u44, u45, u46, u47, u48, u49, u50, u51, u52, u53, u54, u55, u56, u57, u58, u59, u60, u61, u62, u63, u64, u65, u66, u67, u68, u69, u70, u71, u72, u73, u74, u75, u76], defers := [] }) ∧ Inv s w r i l v W ∧ l.length ≠ 500 ∧ markC (bt s i) = true ∧ j = i + 1 ∧ j ≤ s.size
  | _, _, _ => False
def muLex (s : ByteArray) (l : Nat) (a : Act) (_ : World) : Nat := if l = 1 then 0 else 4 * (s.size - (intOf (a.tmps.getD 6 undef)).toNat) + (if l = 0 then 1 else 2)

set_option maxRecDepth 100000 in
set_option maxHeartbeats 4000000 in
theorem implLex_any (s : ByteArray) (w : World) (hs : s.size ≤ 281474976710656) :
    Calls Tryz.prog 80 #[.string s] w (LexTo w (lexF s 0 [])) := by
  obtain ⟨i0, hi, hz0, hz1, hz2⟩ := infoTok2
  obtain ⟨r, hr⟩ : ∃ r, Hid (lexF s 0 [] = r) := ⟨_, rfl⟩
  rw [hr.out]
  have hO0 := World.ownsRow_lit (base := w.heap.size) (e := 132) (size := 2) w #[] 0 (Nat.le_refl _) (Nat.zero_le _) rfl
  have hB0 : Below w.heap.size w (w.alloc (.cells #[] 132)) := (Below.refl _ _).alloc (Nat.le_refl _) _
  have HI0 : Hid (Inv s w r 0 [] (.slice (some ⟨w.heap.size, 0, none⟩) 0 0) (w.alloc (.cells #[] 132))) := ⟨Nat.zero_le _, by simp, by simp, hr.out, hO0, hB0⟩
  clear hO0 hB0
  go_enter Tryz.func80, Tryz.ntmps80
  go_wp2
  refine wp_scope_goto (jLex s w r) (muLex s) ?lab ?pass ?first
  case lab =>
    rintro l a W h
    match l, h with
    | 0, _ => exact ⟨_, rfl⟩
    | 1, _ => exact ⟨_, rfl⟩
    | 2, _ => exact ⟨_, rfl⟩
    | 3, _ => exact ⟨_, rfl⟩
    | n + 4, h => exact h.elim
  case first =>
    intro F
    go_wp2
    refine wp_label ?_
    next K h => exact h _ _ (F 0 _ _ _ rfl ⟨0, [], _, ⟨_, _, _, _, _, _, _, _, _, _, _, _, _, _, _, _, _, _, _, _, _, _, _, _, _, _, _, _, _, _, _, _, _, _, _, _, _, _, _, _, _, _, _, _, _, _, _, _, _, _, _, _, _, _, _, _, _, _, _, _, _, _, _, _, _, _, _, _, _, _, _, rfl⟩, HI0.out⟩)
  case pass =>
    clear HI0
    rintro T l a W X hX hJ hT
    match l, hJ with
    | 0, hJ =>
      obtain ⟨i, l, v, ⟨u5, u7, u8, u9, u10, u11, u12, u13, u14, u15, u16, u17, u18, u19, u20, u21, u22, u23, u24, u25, u26, u27, u28, u29, u30, u31, u32, u33, u34, u35, u36, u37, u38, u39, u40, u41, u42, u43, u44, u45, u46, u47, u48, u49, u50, u51, u52, u53, u54, u55, u56, u57, u58, u59, u60, u61, u62, u63, u64, u65, u66, u67, u68, u69, u70, u71, u72, u73, u74, u75, u76, rfl⟩, hI⟩ := hJ
      obtain rfl := (Code.seq.inj (Option.some.inj hX)).2
      clear hX
      have HT : Hid (∀ l' a' w', jLex s w r l' a' w' → muLex s l' a' w' < muLex s 0 { tmps := #[.string s, undef, .slice none 0 0, .int .i64 0, v, u5, .int .i64 i, u7, u8, u9, u10, u11, u12, u13, u14, u15, u16, u17, u18, u19, u20, u21, u22, u23, u24, u25, u26, u27, u28, u29, u30, u31, u32, u33, u34, u35, u36, u37, u38, u39, u40, u41, u42, u43, u44, u45, u46, u47, u48, u49, u50, u51, u52, u53, u54, u55, u56, u57, u58, u59, u60, u61, u62, u63, u64, u65, u66, u67, u68, u69, u70, u71, u72, u73, u74, u75, u76], defers := [] } W → T l' a' w') := hT
      clear hT
      by_cases hlt : i < s.size
      · have hiz : ((i : Int) == (s.size : Int)) = false := by simp; omega
        have hiz2 : (i : Int) < (s.size : Int) := by omega
        have hc := bt_at hlt
        have hbd := bt_bd s i
        obtain ⟨c, hcc⟩ : ∃ c, Hid (bt s i = c) := ⟨_, rfl⟩
        rw [hcc.out] at hc hbd
        have hS1 := isBlank_any c W
        have hS2 := isLetter_any c W hbd.1 hbd.2
        have hS3 := isMark_any c W
        go_wp2_with (rw [hc])
        refine hS1.mono ?_
        rintro e _ ⟨rfl, rfl⟩
        clear hS1
        cases hb : blank c with
        | true =>
          have HN : Hid (Inv s w r (i + 1) l v W) := ⟨by have := hI.le; omega, hI.ne, hI.few, (lexF_blank hlt (by rw [hcc.out]; exact hb)).symm.trans hI.lex, hI.own, hI.below⟩
          clear hI hS2 hS3
          go_wp2
          go_step3
          refine HT.out 0 _ _ ⟨i + 1, l, v, ⟨_, _, _, _, _, _, _, _, _, _, _, _, _, _, _, _, _, _, _, _, _, _, _, _, _, _, _, _, _, _, _, _, _, _, _, _, _, _, _, _, _, _, _, _, _, _, _, _, _, _, _, _, _, _, _, _, _, _, _, _, _, _, _, _, _, _, _, _, _, _, _, rfl⟩, HN.out⟩ ?_
          simp [muLex, intOf]
          omega
        | false =>
          obtain ⟨a5, c5, rfl⟩ : ∃ a5 c5, v = .slice a5 l.length c5 := by
            rcases hI.own.2 with ⟨e, _⟩ | ⟨g, c', cur, e, _⟩
            · exact absurd e hI.ne
            · exact ⟨_, _, e⟩
          by_cases hl : l.length = 500
          · have hlz : ((l.length : Int) == 500) = true := by simp; omega
            have HR : Hid (r = ([], (i : Int)) ∧ Below w.heap.size w W) := by
              refine ⟨?_, hI.below⟩
              have e := hI.lex
              rw [lexF_no hlt (by rw [hcc.out]; exact hb) (fun h => h.2 hl)] at e
              exact e.symm
            clear hI hS2 hS3 hl
            go_wp2
            go_step3
            refine HT.out 1 _ _ ⟨i, ⟨_, _, _, _, _, _, _, _, _, _, _, _, _, _, _, _, _, _, _, _, _, _, _, _, _, _, _, _, _, _, _, _, _, _, _, _, _, _, _, _, _, _, _, _, _, _, _, _, _, _, _, _, _, _, _, _, _, _, _, _, _, _, _, _, _, _, _, _, _, _, _, _, rfl⟩, HR.out⟩ ?_
            simp [muLex, intOf]
          · have hlz : ((l.length : Int) == 500) = false := by simp; omega
            have HL : Hid (l.length ≠ 500) := hl
            clear hl
            go_wp2_with (rw [hc])
            refine hS2.mono ?_
            rintro e _ ⟨rfl, rfl⟩
            clear hS2
            cases hsm : small c with
            | true =>
              have HM : Hid (small (bt s i) = true) := by show _ = _; rw [hcc.out]; exact hsm
              have HI : Hid (Inv s w r i l (.slice a5 l.length c5) W) := hI
              clear hI hS3
              go_wp2
              go_step3
              refine HT.out 2 _ _ ⟨i, i + 1, l, .slice a5 l.length c5, ⟨_, _, _, _, _, _, _, _, _, _, _, _, _, _, _, _, _, _, _, _, _, _, _, _, _, _, _, _, _, _, _, _, _, _, _, _, _, _, _, _, _, _, _, _, _, _, _, _, _, _, _, _, _, _, _, _, _, _, _, _, _, _, _, _, _, _, _, _, _, _, rfl⟩, HI.out, HL.out, HM.out, by omega, by omega, rfl⟩ ?_
              simp [muLex, intOf]
              omega
            | false =>
              go_wp2_with (rw [hc])
              refine hS3.mono ?_
              rintro e _ ⟨rfl, rfl⟩
              clear hS3
              cases hm : markC c with
              | true =>
                have HM : Hid (markC (bt s i) = true) := by show _ = _; rw [hcc.out]; exact hm
                have HI : Hid (Inv s w r i l (.slice a5 l.length c5) W) := hI
                clear hI
                go_wp2
                go_step3
                refine HT.out 3 _ _ ⟨i, i + 1, l, .slice a5 l.length c5, ⟨_, _, _, _, _, _, _, _, _, _, _, _, _, _, _, _, _, _, _, _, _, _, _, _, _, _, _, _, _, _, _, _, _, _, _, _, _, _, _, _, _, _, _, _, _, _, _, _, _, _, _, _, _, _, _, _, _, _, _, _, _, _, _, _, _, _, _, _, _, _, rfl⟩, HI.out, HL.out, HM.out, rfl, by omega⟩ ?_
                simp [muLex, intOf]
                omega
              | false =>
                have HR : Hid (r = ([], (i : Int)) ∧ Below w.heap.size w W) := by
                  refine ⟨?_, hI.below⟩
                  have e := hI.lex
                  rw [lexF_no hlt (by rw [hcc.out]; exact hb) (fun h => by
                    have h1 := h.1
                    have hk := other_kind (s := s) (i := i) (by rw [hcc.out]; exact hsm)
                    rw [hk.1, hk.2] at h1
                    have h2 : markOk (s.extract i (i + 1)) = true := h1
                    rw [mark_ok hlt, hcc.out, hm] at h2
                    cases h2)] at e
                  exact e.symm
                clear hI
                go_wp2
                go_step3
                refine HT.out 1 _ _ ⟨i, ⟨_, _, _, _, _, _, _, _, _, _, _, _, _, _, _, _, _, _, _, _, _, _, _, _, _, _, _, _, _, _, _, _, _, _, _, _, _, _, _, _, _, _, _, _, _, _, _, _, _, _, _, _, _, _, _, _, _, _, _, _, _, _, _, _, _, _, _, _, _, _, _, _, rfl⟩, HR.out⟩ ?_
                simp [muLex, intOf]
      · have hiz : ((i : Int) == (s.size : Int)) = true := by have := hI.le; simp; omega
        have HR : Hid (LexTo w r (.returned (.tuple #[v, .int .i64 (-1)])) W) := by
          have e := hI.lex
          rw [lexF_end hlt] at e
          rw [← e]
          exact ⟨v, rfl, hI.ne, hI.own, hI.below⟩
        clear hI HT
        go_wp2
        rw [jumps_ret]
        exact bodyPost_ret (v := .tuple #[v, .int .i64 (-1)]) (by simp [results, Tryz.results80, go_sem]) rfl HR.out
    | 1, hJ =>
      obtain ⟨i, ⟨u4, u6, u7, u8, u9, u10, u11, u12, u13, u14, u15, u16, u17, u18, u19, u20, u21, u22, u23, u24, u25, u26, u27, u28, u29, u30, u31, u32, u33, u34, u35, u36, u37, u38, u39, u40, u41, u42, u43, u44, u45, u46, u47, u48, u49, u50, u51, u52, u53, u54, u55, u56, u57, u58, u59, u60, u61, u62, u63, u64, u65, u66, u67, u68, u69, u70, u71, u72, u73, u74, u75, u76, rfl⟩, hr1, hB⟩ := hJ
      obtain rfl := (Code.seq.inj (Option.some.inj hX)).2
      clear hX hT
      have HR : Hid (LexTo w r (.returned (.tuple #[.slice (some ⟨W.heap.size, 0, none⟩) 0 0, .int .i64 (i : Int)])) (W.alloc (.cells #[] 132))) := by
        rw [hr1]
        exact ⟨_, rfl, by simp, World.ownsRow_lit (base := w.heap.size) (e := 132) (size := 2) W #[] 0 hB.size (Nat.zero_le _) rfl, hB.alloc hB.size _⟩
      clear hr1 hB hr
      go_wp2
      rw [jumps_ret]
      exact bodyPost_ret (v := .tuple #[.slice (some ⟨W.heap.size, 0, none⟩) 0 0, .int .i64 (i : Int)]) (by simp [results, Tryz.results80, go_sem]) rfl HR.out
    | 2, hJ =>
      obtain ⟨i, j, l, v, ⟨u7, u8, u9, u10, u11, u12, u13, u14, u15, u16, u17, u18, u19, u20, u21, u22, u23, u24, u25, u26, u27, u28, u29, u30, u31, u32, u33, u34, u35, u36, u37, u38, u39, u40, u41, u42, u43, u44, u45, u46, u47, u48, u49, u50, u51, u52, u53, u54, u55, u56, u57, u58, u59, u60, u61, u62, u63, u64, u65, u66, u67, u68, u69, u70, u71, u72, u73, u74, u75, u76, rfl⟩, hI, hl, hsm, hij0, hjs, hend⟩ := hJ
      obtain rfl := (Code.seq.inj (Option.some.inj hX)).2
      clear hX
      have HT : Hid (∀ l' a' w', jLex s w r l' a' w' → muLex s l' a' w' < muLex s 2 { tmps := #[.string s, undef, .slice none 0 0, .int .i64 0, v, .int .i64 i, .int .i64 j, u7, u8, u9, u10, u11, u12, u13, u14, u15, u16, u17, u18, u19, u20, u21, u22, u23, u24, u25, u26, u27, u28, u29, u30, u31, u32, u33, u34, u35, u36, u37, u38, u39, u40, u41, u42, u43, u44, u45, u46, u47, u48, u49, u50, u51, u52, u53, u54, u55, u56, u57, u58, u59, u60, u61, u62, u63, u64, u65, u66, u67, u68, u69, u70, u71, u72, u73, u74, u75, u76], defers := [] } W → T l' a' w') := hT
      clear hT
      have hlt : i < s.size := by omega
      have HNB : Hid (blank (bt s i) = false) := small_not hsm
      have HSM : Hid (small (bt s i) = true) := hsm
      have HKS : Hid (kindAt s i = 1 ∧ stopAt s i = endN s (i + 1)) := small_kind hsm
      have HEN : Hid (endN s j = endN s (i + 1)) := hend
      clear hsm hend
      have FIN : Hid (endN s (i + 1) = j → tokOk 1 (s.extract i j) = decide (j - i ≤ 8)) := by
        intro e
        have := name_ok hlt HSM.out
        rw [e] at this
        exact this
      by_cases hjl : j < s.size
      · have hjl2 : (j : Int) < (s.size : Int) := by omega
        have hd := bt_at hjl
        have hdb := bt_bd s j
        obtain ⟨d, hdd⟩ : ∃ d, Hid (bt s j = d) := ⟨_, rfl⟩
        rw [hdd.out] at hd hdb
        have hS := isLetter_any d W hdb.1 hdb.2
        have hD := isDigit_any d W hdb.1 hdb.2
        go_wp2_with (rw [hd])
        refine hS.mono ?_
        rintro e _ ⟨rfl, rfl⟩
        clear hS
        cases hs2 : small d with
        | true =>
          have HN : Hid (endN s (j + 1) = endN s (i + 1)) := by show _ = _; rw [← HEN.out]; exact (endN_step hjl (by rw [hdd.out]; unfold inName; rw [hs2]; rfl)).symm
          have HI : Hid (Inv s w r i l v W) := hI
          have HL : Hid (l.length ≠ 500) := hl
          clear hI hD hl FIN
          go_wp2
          go_step3
          refine HT.out 2 _ _ ⟨i, j + 1, l, v, ⟨_, _, _, _, _, _, _, _, _, _, _, _, _, _, _, _, _, _, _, _, _, _, _, _, _, _, _, _, _, _, _, _, _, _, _, _, _, _, _, _, _, _, _, _, _, _, _, _, _, _, _, _, _, _, _, _, _, _, _, _, _, _, _, _, _, _, _, _, _, _, rfl⟩, HI.out, HL.out, HSM.out, by omega, by omega, HN.out⟩ ?_
          simp [muLex, intOf]
          omega
        | false =>
          go_wp2_with (rw [hd])
          refine hD.mono ?_
          rintro e _ ⟨rfl, rfl⟩
          clear hD
          cases hd2 : digit d with
          | true =>
            have HN : Hid (endN s (j + 1) = endN s (i + 1)) := by show _ = _; rw [← HEN.out]; exact (endN_step hjl (by rw [hdd.out]; unfold inName; rw [hd2]; simp)).symm
            have HI : Hid (Inv s w r i l v W) := hI
            have HL : Hid (l.length ≠ 500) := hl
            clear hI hl FIN
            go_wp2
            go_step3
            refine HT.out 2 _ _ ⟨i, j + 1, l, v, ⟨_, _, _, _, _, _, _, _, _, _, _, _, _, _, _, _, _, _, _, _, _, _, _, _, _, _, _, _, _, _, _, _, _, _, _, _, _, _, _, _, _, _, _, _, _, _, _, _, _, _, _, _, _, _, _, _, _, _, _, _, _, _, _, _, _, _, _, _, _, _, rfl⟩, HI.out, HL.out, HSM.out, by omega, by omega, HN.out⟩ ?_
            simp [muLex, intOf]
            omega
          | false =>
            have HE : Hid (endN s (i + 1) = j) := by show _ = _; rw [← HEN.out]; exact endN_stop (fun h => by have := h.2; rw [hdd.out] at this; unfold inName at this; rw [hs2, hd2] at this; cases this)
            clear hs2 hd2
            have HOK0 : Hid (tokOk 1 (s.extract i j) = decide (j - i ≤ 8)) := FIN.out HE.out
            rw [HE.out] at HKS
            clear FIN HEN
            by_cases h8 : j - i ≤ 8
            · have h8z : ¬ (8 : Int) < (j : Int) - (i : Int) := by omega
              have HOK : Hid (tokOk 1 (s.extract i j) = true) := by show _ = _; rw [HOK0.out]; exact decide_eq_true h8
              clear HOK0
              have HNX : Hid (lexF s j (l ++ [(1, s.extract i j)]) = r) := by
                show _ = _
                rw [← hI.lex, lexF_tok hlt HNB.out (by rw [HKS.out.1, HKS.out.2]; exact HOK.out) hl, HKS.out.1, HKS.out.2]
              have hij : (i : Int) ≤ (j : Int) := by omega
              have hjz : (j : Int) ≤ (s.size : Int) := by omega
              have hsub : (s.extract i j).size ≤ 281474976710656 := by rw [ByteArray.size_extract]; omega
              obtain ⟨sub, hsb⟩ : ∃ sub, Hid (s.extract i j = sub) := ⟨_, rfl⟩
              rw [hsb.out] at hsub HOK HNX
              have hC := strClone_tok sub W hsub
              have hown := hI.own
              have hB := hI.below
              have HNE : Hid (v ≠ .slice none 0 0) := hI.ne
              have HL5 : Hid (l.length < 500) := by show _ < _; have := hI.few; omega
              obtain ⟨a5, c5, rfl⟩ : ∃ a5 c5, v = .slice a5 l.length c5 := by
                rcases hown.2 with ⟨e, _⟩ | ⟨g, c', cur, e, _⟩
                · exact absurd e HNE.out
                · exact ⟨_, _, e⟩
              clear hI HOK
              go_wp2_with (rw [hsb.out])
              refine hC.mono ?_
              rintro e w4 ⟨rfl, hb4⟩
              have hown4 := own_below2 hown hb4
              have hB4 := hB.trans (hb4.mono hB.size)
              have hcl := cells_tok w4 1 sub
              have hs4 := hB4.size
              have hl5 := HL5.out
              clear hC hown hB hb4 hl
              go_wp2_with (at_builtin; refine wpList_append_own _ rfl (.tmp 57) (.tmp 64) 143 rfl w.heap.size 132 i0 (.agg #[.int .i64 0, .string ⟨#[]⟩]) 2 24 Tryz.underlying143 hi hz0 hz1 hz2 rfl (by decide) (.slice a5 l.length c5) _ _ rfl (own_below2 hown4 ((Below.refl _ _).alloc (Nat.le_refl _) _)) ⟨w4.heap.size, 0, none⟩ 1 1 [.int .i64 1, .string sub] rfl rfl hcl (one_tok _ _) (by unfold maxLen; omega) (by omega) (by simp; omega) ?_; intro v5 w5 hown5 hgr5 hnil5)
              have hb5 : Below w4.heap.size w4 (w4.alloc (.cells #[.int .i64 1, .string sub] 132)) := (Below.refl _ _).alloc (Nat.le_refl _) _
              have HI5 : Hid (Inv s w r j (l ++ [((1 : Int), sub)]) v5 w5) := by
                refine ⟨by omega, fun e => HNE.out (hnil5.1 e).1, by rw [List.length_append]; simp; omega, HNX.out, by rw [rowL_snoc, List.length_append]; exact hown5, ?_⟩
                exact (hB4.trans (hb5.mono hs4)).grown hgr5 (by have := (hB4.trans (hb5.mono hs4)).size; exact this) (fun j e => ((own_below2 hown4 hb5).lt j e).1)
              clear hown4 hown5 hgr5 hnil5 hcl hB4 hb5
              go_wp2
              go_step3
              refine HT.out 0 _ _ ⟨j, l ++ [(1, sub)], v5, ⟨_, _, _, _, _, _, _, _, _, _, _, _, _, _, _, _, _, _, _, _, _, _, _, _, _, _, _, _, _, _, _, _, _, _, _, _, _, _, _, _, _, _, _, _, _, _, _, _, _, _, _, _, _, _, _, _, _, _, _, _, _, _, _, _, _, _, _, _, _, _, _, rfl⟩, HI5.out⟩ ?_
              simp [muLex, intOf]
            · have h8z : (8 : Int) < (j : Int) - (i : Int) := by omega
              have HR : Hid (r = ([], (i : Int)) ∧ Below w.heap.size w W) := by
                refine ⟨?_, hI.below⟩
                have e := hI.lex
                rw [lexF_no hlt HNB.out (fun h => by have h1 := h.1; rw [HKS.out.1, HKS.out.2, HOK0.out] at h1; exact h8 (of_decide_eq_true h1))] at e
                exact e.symm
              clear hI HOK0 hl
              go_wp2
              go_step3
              refine HT.out 1 _ _ ⟨i, ⟨_, _, _, _, _, _, _, _, _, _, _, _, _, _, _, _, _, _, _, _, _, _, _, _, _, _, _, _, _, _, _, _, _, _, _, _, _, _, _, _, _, _, _, _, _, _, _, _, _, _, _, _, _, _, _, _, _, _, _, _, _, _, _, _, _, _, _, _, _, _, _, _, rfl⟩, HR.out⟩ ?_
              simp [muLex, intOf]
      · have hjl2 : ¬ (j : Int) < (s.size : Int) := by omega
        have HE : Hid (endN s (i + 1) = j) := by show _ = _; rw [← HEN.out]; exact endN_stop (fun h => hjl h.1)
        have HOK0 : Hid (tokOk 1 (s.extract i j) = decide (j - i ≤ 8)) := FIN.out HE.out
        rw [HE.out] at HKS
        clear FIN HEN
        by_cases h8 : j - i ≤ 8
        · have h8z : ¬ (8 : Int) < (j : Int) - (i : Int) := by omega
          have HOK : Hid (tokOk 1 (s.extract i j) = true) := by show _ = _; rw [HOK0.out]; exact decide_eq_true h8
          clear HOK0
          have HNX : Hid (lexF s j (l ++ [(1, s.extract i j)]) = r) := by
            show _ = _
            rw [← hI.lex, lexF_tok hlt HNB.out (by rw [HKS.out.1, HKS.out.2]; exact HOK.out) hl, HKS.out.1, HKS.out.2]
          have hij : (i : Int) ≤ (j : Int) := by omega
          have hjz : (j : Int) ≤ (s.size : Int) := by omega
          have hsub : (s.extract i j).size ≤ 281474976710656 := by rw [ByteArray.size_extract]; omega
          obtain ⟨sub, hsb⟩ : ∃ sub, Hid (s.extract i j = sub) := ⟨_, rfl⟩
          rw [hsb.out] at hsub HOK HNX
          have hC := strClone_tok sub W hsub
          have hown := hI.own
          have hB := hI.below
          have HNE : Hid (v ≠ .slice none 0 0) := hI.ne
          have HL5 : Hid (l.length < 500) := by show _ < _; have := hI.few; omega
          obtain ⟨a5, c5, rfl⟩ : ∃ a5 c5, v = .slice a5 l.length c5 := by
            rcases hown.2 with ⟨e, _⟩ | ⟨g, c', cur, e, _⟩
            · exact absurd e HNE.out
            · exact ⟨_, _, e⟩
          clear hI HOK
          go_wp2_with (rw [hsb.out])
          refine hC.mono ?_
          rintro e w4 ⟨rfl, hb4⟩
          have hown4 := own_below2 hown hb4
          have hB4 := hB.trans (hb4.mono hB.size)
          have hcl := cells_tok w4 1 sub
          have hs4 := hB4.size
          have hl5 := HL5.out
          clear hC hown hB hb4 hl
          go_wp2_with (at_builtin; refine wpList_append_own _ rfl (.tmp 57) (.tmp 64) 143 rfl w.heap.size 132 i0 (.agg #[.int .i64 0, .string ⟨#[]⟩]) 2 24 Tryz.underlying143 hi hz0 hz1 hz2 rfl (by decide) (.slice a5 l.length c5) _ _ rfl (own_below2 hown4 ((Below.refl _ _).alloc (Nat.le_refl _) _)) ⟨w4.heap.size, 0, none⟩ 1 1 [.int .i64 1, .string sub] rfl rfl hcl (one_tok _ _) (by unfold maxLen; omega) (by omega) (by simp; omega) ?_; intro v5 w5 hown5 hgr5 hnil5)
          have hb5 : Below w4.heap.size w4 (w4.alloc (.cells #[.int .i64 1, .string sub] 132)) := (Below.refl _ _).alloc (Nat.le_refl _) _
          have HI5 : Hid (Inv s w r j (l ++ [((1 : Int), sub)]) v5 w5) := by
            refine ⟨by omega, fun e => HNE.out (hnil5.1 e).1, by rw [List.length_append]; simp; omega, HNX.out, by rw [rowL_snoc, List.length_append]; exact hown5, ?_⟩
            exact (hB4.trans (hb5.mono hs4)).grown hgr5 (by have := (hB4.trans (hb5.mono hs4)).size; exact this) (fun j e => ((own_below2 hown4 hb5).lt j e).1)
          clear hown4 hown5 hgr5 hnil5 hcl hB4 hb5
          go_wp2
          go_step3
          refine HT.out 0 _ _ ⟨j, l ++ [(1, sub)], v5, ⟨_, _, _, _, _, _, _, _, _, _, _, _, _, _, _, _, _, _, _, _, _, _, _, _, _, _, _, _, _, _, _, _, _, _, _, _, _, _, _, _, _, _, _, _, _, _, _, _, _, _, _, _, _, _, _, _, _, _, _, _, _, _, _, _, _, _, _, _, _, _, _, rfl⟩, HI5.out⟩ ?_
          simp [muLex, intOf]
        · have h8z : (8 : Int) < (j : Int) - (i : Int) := by omega
          have HR : Hid (r = ([], (i : Int)) ∧ Below w.heap.size w W) := by
            refine ⟨?_, hI.below⟩
            have e := hI.lex
            rw [lexF_no hlt HNB.out (fun h => by have h1 := h.1; rw [HKS.out.1, HKS.out.2, HOK0.out] at h1; exact h8 (of_decide_eq_true h1))] at e
            exact e.symm
          clear hI HOK0 hl
          go_wp2
          go_step3
          refine HT.out 1 _ _ ⟨i, ⟨_, _, _, _, _, _, _, _, _, _, _, _, _, _, _, _, _, _, _, _, _, _, _, _, _, _, _, _, _, _, _, _, _, _, _, _, _, _, _, _, _, _, _, _, _, _, _, _, _, _, _, _, _, _, _, _, _, _, _, _, _, _, _, _, _, _, _, _, _, _, _, _, rfl⟩, HR.out⟩ ?_
          simp [muLex, intOf]
    | 3, hJ =>
      obtain ⟨i, j, l, v, ⟨u7, u8, u9, u10, u11, u12, u13, u14, u15, u16, u17, u18, u19, u20, u21, u22, u23, u24, u25, u26, u27, u28, u29, u30, u31, u32, u33, u34, u35, u36, u37, u38, u39, u40, u41, u42, u43, u44, u45, u46, u47, u48, u49, u50, u51, u52, u53, u54, u55, u56, u57, u58, u59, u60, u61, u62, u63, u64, u65, u66, u67, u68, u69, u70, u71, u72, u73, u74, u75, u76, rfl⟩, hI, hl, hmk, hji, hjs⟩ := hJ
      obtain rfl := (Code.seq.inj (Option.some.inj hX)).2
      clear hX
      have HT : Hid (∀ l' a' w', jLex s w r l' a' w' → muLex s l' a' w' < muLex s 3 { tmps := #[.string s, undef, .slice none 0 0, .int .i64 0, v, .int .i64 i, .int .i64 j, u7, u8, u9, u10, u11, u12, u13, u14, u15, u16, u17, u18, u19, u20, u21, u22, u23, u24, u25, u26, u27, u28, u29, u30, u31, u32, u33, u34, u35, u36, u37, u38, u39, u40, u41, u42, u43, u44, u45, u46, u47, u48, u49, u50, u51, u52, u53, u54, u55, u56, u57, u58, u59, u60, u61, u62, u63, u64, u65, u66, u67, u68, u69, u70, u71, u72, u73, u74, u75, u76], defers := [] } W → T l' a' w') := hT
      clear hT
      have hlt : i < s.size := by omega
      obtain ⟨hns, hnb⟩ := mark_not hmk
      have HNB : Hid (blank (bt s i) = false) := hnb
      have HKS : Hid (kindAt s i = 2 ∧ stopAt s i = j) := by rw [hji]; exact other_kind hns
      have HOK : Hid (tokOk 2 (s.extract i j) = true) := by rw [hji]; exact (mark_ok hlt).trans hmk
      have hj1 : i < j := by omega
      clear hns hnb hmk hji
      have HNX : Hid (lexF s j (l ++ [(2, s.extract i j)]) = r) := by
        show _ = _
        rw [← hI.lex, lexF_tok hlt HNB.out (by rw [HKS.out.1, HKS.out.2]; exact HOK.out) hl, HKS.out.1, HKS.out.2]
      have hij : (i : Int) ≤ (j : Int) := by omega
      have hjz : (j : Int) ≤ (s.size : Int) := by omega
      have hsub : (s.extract i j).size ≤ 281474976710656 := by rw [ByteArray.size_extract]; omega
      obtain ⟨sub, hsb⟩ : ∃ sub, Hid (s.extract i j = sub) := ⟨_, rfl⟩
      rw [hsb.out] at hsub HOK HNX
      have hC := strClone_tok sub W hsub
      have hown := hI.own
      have hB := hI.below
      have HNE : Hid (v ≠ .slice none 0 0) := hI.ne
      have HL5 : Hid (l.length < 500) := by show _ < _; have := hI.few; omega
      obtain ⟨a5, c5, rfl⟩ : ∃ a5 c5, v = .slice a5 l.length c5 := by
        rcases hown.2 with ⟨e, _⟩ | ⟨g, c', cur, e, _⟩
        · exact absurd e HNE.out
        · exact ⟨_, _, e⟩
      clear hI HOK
      go_wp2_with (rw [hsb.out])
      refine hC.mono ?_
      rintro e w4 ⟨rfl, hb4⟩
      have hown4 := own_below2 hown hb4
      have hB4 := hB.trans (hb4.mono hB.size)
      have hcl := cells_tok w4 2 sub
      have hs4 := hB4.size
      have hl5 := HL5.out
      clear hC hown hB hb4 hl
      go_wp2_with (at_builtin; refine wpList_append_own _ rfl (.tmp 66) (.tmp 73) 143 rfl w.heap.size 132 i0 (.agg #[.int .i64 0, .string ⟨#[]⟩]) 2 24 Tryz.underlying143 hi hz0 hz1 hz2 rfl (by decide) (.slice a5 l.length c5) _ _ rfl (own_below2 hown4 ((Below.refl _ _).alloc (Nat.le_refl _) _)) ⟨w4.heap.size, 0, none⟩ 1 1 [.int .i64 2, .string sub] rfl rfl hcl (one_tok _ _) (by unfold maxLen; omega) (by omega) (by simp; omega) ?_; intro v5 w5 hown5 hgr5 hnil5)
      have hb5 : Below w4.heap.size w4 (w4.alloc (.cells #[.int .i64 2, .string sub] 132)) := (Below.refl _ _).alloc (Nat.le_refl _) _
      have HI5 : Hid (Inv s w r j (l ++ [((2 : Int), sub)]) v5 w5) := by
        refine ⟨by omega, fun e => HNE.out (hnil5.1 e).1, by rw [List.length_append]; simp; omega, HNX.out, by rw [rowL_snoc, List.length_append]; exact hown5, ?_⟩
        exact (hB4.trans (hb5.mono hs4)).grown hgr5 (by have := (hB4.trans (hb5.mono hs4)).size; exact this) (fun j e => ((own_below2 hown4 hb5).lt j e).1)
      clear hown4 hown5 hgr5 hnil5 hcl hB4 hb5
      go_wp2
      go_step3
      refine HT.out 0 _ _ ⟨j, l ++ [(2, sub)], v5, ⟨_, _, _, _, _, _, _, _, _, _, _, _, _, _, _, _, _, _, _, _, _, _, _, _, _, _, _, _, _, _, _, _, _, _, _, _, _, _, _, _, _, _, _, _, _, _, _, _, _, _, _, _, _, _, _, _, _, _, _, _, _, _, _, _, _, _, _, _, _, _, _, rfl⟩, HI5.out⟩ ?_
      simp [muLex, intOf]
    | n + 4, h => exact h.elim
end Go.Proofs.YtfjlmkphnciglatGreatDoor

/-
  Texts joined, a blank between, plainly.
-/
namespace Go.Proofs.YtfjlmkphnciglatGreatDoor
open Go.RowKit
set_option maxRecDepth 4000

/-- The texts of the first k tokens, a blank between. -/
def joinT (fs : Nat → ByteArray) : Nat → ByteArray
  | 0 => ⟨#[]⟩
  | k + 1 => (if 0 < k then joinT fs k ++ (⟨#[32]⟩ : ByteArray) else joinT fs k) ++ fs k
theorem joinT_size {fs : Nat → ByteArray} {B n : Nat} (h : ∀ i, i < n → (fs i).size ≤ B) : ∀ k, k ≤ n → (joinT fs k).size ≤ k * (B + 1)
  | 0, _ => Nat.zero_le _
  | k + 1, hk => by
    have ih := joinT_size h k (by omega)
    have h1 := h k (by omega)
    have h2 : (⟨#[32]⟩ : ByteArray).size = 1 := rfl
    rw [joinT, ByteArray.size_append]
    have h3 : (k + 1) * (B + 1) = k * (B + 1) + (B + 1) := by rw [Nat.add_mul]; omega
    split
    · rw [ByteArray.size_append]; omega
    · omega
theorem joinT_congr {fs gs : Nat → ByteArray} : ∀ {n : Nat}, (∀ i, i < n → fs i = gs i) → joinT fs n = joinT gs n
  | 0, _ => rfl
  | n + 1, h => by rw [joinT, joinT, joinT_congr (fun i hi => h i (by omega)), h n (by omega)]

end Go.Proofs.YtfjlmkphnciglatGreatDoor

