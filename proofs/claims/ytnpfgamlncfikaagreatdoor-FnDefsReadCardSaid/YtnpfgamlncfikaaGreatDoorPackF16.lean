/-
  Together: ConcatImpl, TextSize, TextImpl9, IType, IPlace
-/
import Derived.Test.YtnpfgamlncfikaaGreatDoorPackF15
import Derived.Test.YtnpfgamlncfikaaGreatDoorPackF12
import Derived.Test.YtnpfgamlncfikaaGreatDoorPackF5
import Derived.Test.YtnpfgamlncfikaaGreatDoorPackF4
import Derived.Test.YtnpfgamlncfikaaGreatDoorShelf
import Derived.Deep.LoopGhost
import Derived.Deep.QuietTactic
import Derived.Deep.RegionHeld3
import Derived.BigQuiet
/-
  slices.Concat of three rows of texts: a row of the call's own, one behind the other.
-/
namespace Go.Proofs.YtnpfgamlncfikaaGreatDoor
open Go.RowKit
set_option maxRecDepth 4000

theorem rowS_len (f : Nat → ByteArray) (n : Nat) : (rowG (encS f) n).length = n := by
  rw [rowG_len (c := 1) (fun _ => rfl)]; omega
theorem rowS_get {f : Nat → ByteArray} {n j : Nat} {u : Value} (h : (rowG (encS f) n)[j]? = some u) : j < n ∧ u = .string (f j) := by
  have hj : j < n := by
    have := (List.getElem?_eq_some_iff.1 h).1
    rwa [rowS_len] at this
  have h1 := rowG_get (enc := encS f) (c := 1) (fun _ => rfl) n j 0 hj (by decide)
  rw [Nat.mul_one, Nat.add_zero, h] at h1
  exact ⟨hj, (Option.some.inj h1)⟩
theorem rowS_one {f : Nat → ByteArray} {n : Nat} : ∀ u ∈ rowG (encS f) n, u.oneCell' = true := by
  intro u hu
  obtain ⟨j, hj⟩ := List.mem_iff_getElem?.1 hu
  obtain ⟨_, rfl⟩ := rowS_get hj
  rfl
/-- What is appended, where it lies. -/
theorem sview_cells {W : World} {g n c : Nat} {f : Nat → ByteArray} (h : SView W (some ⟨g, 0, none⟩) n c f) : ∀ j u, (rowG (encS f) n)[j]? = some u → W.cell? ((⟨g, 0, none⟩ : Addr).add j) = some u := by
  intro j u hj
  obtain ⟨hlt, rfl⟩ := rowS_get hj
  obtain ⟨b, off, e, _, hc⟩ := h.cells (by omega)
  cases e
  have := hc j hlt
  have e : (⟨g, 0, none⟩ : Addr).add j = ⟨g, 0 + j, none⟩ := by unfold Addr.add; split <;> simp_all
  rw [e]; exact this
theorem sview_of_row {W : World} {base g n c : Nat} {f : Nat → ByteArray} (h : W.ownsRow base 9 1 (.slice (some ⟨g, 0, none⟩) n c) n (rowG (encS f) n)) : SView W (some ⟨g, 0, none⟩) n c f := by
  obtain ⟨a, k, e, hv, _⟩ := sview_of_own h
  cases e
  exact hv

/-- Two rows, one behind the other. -/
def catF (f0 : Nat → ByteArray) (n0 : Nat) (f1 : Nat → ByteArray) (i : Nat) : ByteArray := if i < n0 then f0 i else f1 (i - n0)
theorem rowS_cat (f0 : Nat → ByteArray) (n0 : Nat) (f1 : Nat → ByteArray) : ∀ n1, rowG (encS f0) n0 ++ rowG (encS f1) n1 = rowG (encS (catF f0 n0 f1)) (n0 + n1)
  | 0 => by
    rw [rowG, List.append_nil]
    exact rowG_congr (fun i hi => by simp [encS, catF, hi])
  | n1 + 1 => by
    rw [rowG, ← List.append_assoc, rowS_cat f0 n0 f1 n1]
    show _ = rowG (encS (catF f0 n0 f1)) (n0 + n1) ++ encS (catF f0 n0 f1) (n0 + n1)
    simp [encS, catF, show ¬ n0 + n1 < n0 by omega]
/-- A row that was put behind a row of the call's own. -/
theorem grown9 {w W W' : World} {T c n m g k : Nat} {v : Value} {xs ys : List Value} (hb : Below w.heap.size w W) (hO : W.ownsRow w.heap.size T c (.slice (some ⟨g, 0, none⟩) n k) n xs) (hO2 : W'.ownsRow w.heap.size T c v m ys) (hgr : W.grownBy W' (Value.slice (some ⟨g, 0, none⟩) n k).ownBlock)
    (hnil : ¬ v = .slice none 0 0) : (∃ g' k', v = .slice (some ⟨g', 0, none⟩) m k') ∧ Below w.heap.size w W' := by
  refine ⟨?_, hb.grown hgr hb.size (own_ge9 hO)⟩
  rcases hO2.2 with ⟨e, _⟩ | ⟨g', k', _, e, _⟩
  · exact absurd e hnil
  · exact ⟨g', k', e⟩

set_option maxHeartbeats 4000000 in
theorem concat3_any (B g0 n0 c0 g1 n1 c1 g2 n2 c2 : Nat) (f0 f1 f2 : Nat → ByteArray) (w : World)
    (x0 : w.cell? ⟨B, 0, none⟩ = some (.slice (some ⟨g0, 0, none⟩) n0 c0)) (x1 : w.cell? ⟨B, 1, none⟩ = some (.slice (some ⟨g1, 0, none⟩) n1 c1)) (x2 : w.cell? ⟨B, 2, none⟩ = some (.slice (some ⟨g2, 0, none⟩) n2 c2)) (hB : B < w.heap.size)
    (v0 : SView w (some ⟨g0, 0, none⟩) n0 c0 f0) (v1 : SView w (some ⟨g1, 0, none⟩) n1 c1 f1) (v2 : SView w (some ⟨g2, 0, none⟩) n2 c2 f2) (h0 : 0 < n0) (l0 : n0 ≤ 1048576) (l1 : n1 ≤ 1048576) (l2 : n2 ≤ 1048576) :
    Calls Tryz.prog 105 #[.slice (some ⟨B, 0, none⟩) 3 3] w fun e w' => ∃ g c, e = .returned (.slice (some ⟨g, 0, none⟩) (n0 + n1 + n2) c) ∧ w'.ownsRow w.heap.size 9 1 (.slice (some ⟨g, 0, none⟩) (n0 + n1 + n2) c) (n0 + n1 + n2) (rowG (encS f0) n0 ++ rowG (encS f1) n1 ++ rowG (encS f2) n2) ∧ Below w.heap.size w w' := by
  obtain ⟨i0, hi, hz0, hz1, hz2⟩ := infoStr
  have hG := growStr_any (n0 + n1 + n2) w (by omega) (by omega)
  have e1 : ((n0 + n1 + n2 : Nat) : Int) = (n0 : Int) + n1 + n2 := by omega
  rw [e1] at hG
  have k1 : ¬ ((0 : Int) + n0 < 0) := by omega
  have k2 : ¬ ((n0 : Int) + n1 < 0) := by omega
  have k3 : ¬ ((n0 : Int) + n1 + n2 < 0) := by omega
  go_enter Tryz.func105, Tryz.ntmps105
  go_wp2
  refine wp_loop_rounds 4 ?_
  rw [rounds_succ]
  go_wp2
  rw [rounds_succ]
  go_wp2
  rw [rounds_succ]
  go_wp2
  rw [rounds_succ]
  go_wp2_with fail
  refine hG.mono ?_
  rintro e w1 ⟨g, c, rfl, hO1, hb1⟩
  have s1 := hb1.size
  rw [← hb1.cell (p := ⟨B, 0, none⟩) hB] at x0
  rw [← hb1.cell (p := ⟨B, 1, none⟩) hB] at x1
  rw [← hb1.cell (p := ⟨B, 2, none⟩) hB] at x2
  have HX : Hid (w1.cell? ⟨B, 1, none⟩ = some (.slice (some ⟨g1, 0, none⟩) n1 c1) ∧ w1.cell? ⟨B, 2, none⟩ = some (.slice (some ⟨g2, 0, none⟩) n2 c2)) := ⟨x1, x2⟩
  have hV0 := sview_cells (v0.below hb1)
  clear hG k1 k2 k3 x1 x2
  go_wp2
  refine wp_loop_rounds 4 ?_
  rw [rounds_succ]
  go_wp2_with (at_builtin; refine wpList_append_own _ rfl (.tmp 31) (.tmp 32) 61 rfl w.heap.size 9 i0 (.string ⟨#[]⟩) 1 16 Tryz.underlying61 hi hz0 hz1 hz2 rfl (by decide) _ _ _ rfl hO1 ⟨g0, 0, none⟩ n0 c0 (rowG (encS f0) n0) rfl (by rw [rowS_len]; omega) hV0 rowS_one (by unfold maxLen; omega) (by omega) (by omega) ?_)
  intro u2 w2 hO2 hgr2 hnil2
  obtain ⟨⟨g2', k2', rfl⟩, hb2⟩ := grown9 hb1 hO1 hO2 hgr2 hnil2
  have s2 := hb2.size
  have x1 : w2.cell? ⟨B, 1, none⟩ = some (.slice (some ⟨g1, 0, none⟩) n1 c1) := by rw [hb2.cell (p := ⟨B, 1, none⟩) hB, ← hb1.cell (p := ⟨B, 1, none⟩) hB]; exact HX.out.1
  have hV1 := sview_cells (v1.below hb2)
  have HX2 : Hid (w.cell? ⟨B, 2, none⟩ = some (.slice (some ⟨g2, 0, none⟩) n2 c2)) := by
    have := HX.out.2
    rw [hb1.cell (p := ⟨B, 2, none⟩) hB] at this
    exact this
  clear hV0 hO1 hgr2 hnil2 x0 HX hb1 s1 v0 v1
  go_wp2
  rw [rounds_succ]
  go_wp2_with (at_builtin; refine wpList_append_own _ rfl (.tmp 31) (.tmp 32) 61 rfl w.heap.size 9 i0 (.string ⟨#[]⟩) 1 16 Tryz.underlying61 hi hz0 hz1 hz2 rfl (by decide) _ _ _ rfl hO2 ⟨g1, 0, none⟩ n1 c1 (rowG (encS f1) n1) rfl (by rw [rowS_len]; omega) hV1 rowS_one (by unfold maxLen; omega) (by omega) (by omega) ?_)
  intro u3 w3 hO3 hgr3 hnil3
  obtain ⟨⟨g3', k3', rfl⟩, hb3⟩ := grown9 hb2 hO2 hO3 hgr3 hnil3
  have s3 := hb3.size
  have x2 : w3.cell? ⟨B, 2, none⟩ = some (.slice (some ⟨g2, 0, none⟩) n2 c2) := by rw [hb3.cell (p := ⟨B, 2, none⟩) hB]; exact HX2.out
  have hV2 := sview_cells (v2.below hb3)
  clear hV1 hO2 hgr3 hnil3 x1 HX2 hb2 s2 v2
  go_wp2
  rw [rounds_succ]
  go_wp2_with (at_builtin; refine wpList_append_own _ rfl (.tmp 31) (.tmp 32) 61 rfl w.heap.size 9 i0 (.string ⟨#[]⟩) 1 16 Tryz.underlying61 hi hz0 hz1 hz2 rfl (by decide) _ _ _ rfl hO3 ⟨g2, 0, none⟩ n2 c2 (rowG (encS f2) n2) rfl (by rw [rowS_len]; omega) hV2 rowS_one (by unfold maxLen; omega) (by omega) (by omega) ?_)
  intro u4 w4 hO4 hgr4 hnil4
  obtain ⟨⟨g4', k4', rfl⟩, hb4⟩ := grown9 hb3 hO3 hO4 hgr4 hnil4
  have HR : Hid (w4.ownsRow w.heap.size 9 1 (.slice (some ⟨g4', 0, none⟩) (n0 + n1 + n2) k4') (n0 + n1 + n2) (rowG (encS f0) n0 ++ rowG (encS f1) n1 ++ rowG (encS f2) n2) ∧ Below w.heap.size w w4) := ⟨by rw [List.append_assoc]; exact hO4, hb4⟩
  clear hV2 hO3 hO4 hgr4 hnil4 x2 hb3 hb4 s3
  go_wp2
  rw [rounds_succ]
  go_wp2
  go_ret
  exact ⟨_, _, rfl, HR.out.1, HR.out.2⟩
end Go.Proofs.YtnpfgamlncfikaaGreatDoor

/-
  A table's text is not long.
-/
namespace Go.Proofs.YtnpfgamlncfikaaGreatDoor
open Go.RowKit
set_option maxRecDepth 4000

theorem partsT_size {col : Nat → PCol} {f : Nat → PBy} {n B : Nat} (h : ∀ i, i < n → (col (f i).col.toNat).name.size ≤ B) : ∀ k, k ≤ n → (partsT col f k).size ≤ k * (B + 7)
  | 0, _ => Nat.zero_le _
  | k + 1, hk => by
    have ih := partsT_size h k (by omega)
    have h1 := h k (by omega)
    have e1 : (⟨#[44, 32]⟩ : ByteArray).size = 2 := rfl
    have e2 : (⟨#[32, 100, 101, 115, 99]⟩ : ByteArray).size = 5 := rfl
    have h3 : (k + 1) * (B + 7) = k * (B + 7) + (B + 7) := by rw [Nat.add_mul]; omega
    rw [partsT]
    split <;> split <;> simp only [ByteArray.size_append] <;> omega
theorem typeW_size (t : Int) : (typeW t).size ≤ 4 := by
  unfold typeW
  split
  · exact Nat.le_succ _
  split
  · exact Nat.le_succ _
  split
  · exact Nat.le_refl _
  split
  · exact Nat.le_refl _
  · exact Nat.zero_le _
theorem colsT_size {name : ByteArray} {col : Nat → PCol} {n B : Nat} (hn : name.size ≤ B) (h : ∀ i, i < n → (col i).name.size ≤ B) : ∀ k, k ≤ n → (colsT name col k).size ≤ (k + 1) * (B + 12)
  | 0, _ => by
    have e1 : (⟨#[116, 97, 98, 108, 101, 32]⟩ : ByteArray).size = 6 := rfl
    have e2 : (⟨#[32, 123, 32]⟩ : ByteArray).size = 3 := rfl
    rw [colsT]
    simp only [ByteArray.size_append]
    omega
  | k + 1, hk => by
    have ih := colsT_size hn h k (by omega)
    have h1 := h k (by omega)
    have e1 : (⟨#[32]⟩ : ByteArray).size = 1 := rfl
    have e2 : (⟨#[32, 110, 117, 108, 108]⟩ : ByteArray).size = 5 := rfl
    have e3 : (⟨#[59, 32]⟩ : ByteArray).size = 2 := rfl
    have e4 := typeW_size (col k).type
    have h3 : (k + 1 + 1) * (B + 12) = (k + 1) * (B + 12) + (B + 12) := by rw [Nat.add_mul (k + 1)]; omega
    rw [colsT]
    split <;> simp only [ByteArray.size_append] <;> omega
theorem partsE_size {col : Nat → PCol} {f : Nat → PBy} {n B : Nat} (h : ∀ i, i < n → (col (f i).col.toNat).name.size ≤ B) (hn : n ≤ 2) : (partsE col n f).size ≤ 2 * B + 16 := by
  have h1 := partsT_size h n (Nat.le_refl _)
  have h2 : n * (B + 7) ≤ 2 * (B + 7) := Nat.mul_le_mul_right _ hn
  have e3 : (⟨#[59, 32]⟩ : ByteArray).size = 2 := rfl
  unfold partsE
  rw [ByteArray.size_append]
  omega
theorem idxT_size {D : PDef} {B : Nat} (hn : D.name.size ≤ B) (hc : ∀ i, i < D.nc → (D.col i).name.size ≤ B) (hnc : D.nc ≤ 6) (hp : (partsE D.col D.np D.pri).size ≤ 2 * B + 16) (hi : ∀ i, i < D.ni → (D.idx i).name.size ≤ B ∧ (partsE D.col (D.idx i).n (D.idx i).part).size ≤ 2 * B + 16) :
    ∀ k, k ≤ D.ni → (idxT D k).size ≤ 9 * B + 108 + k * (3 * B + 24)
  | 0, _ => by
    have h1 := colsT_size hn hc D.nc (Nat.le_refl _)
    have h2 : (D.nc + 1) * (B + 12) ≤ 7 * (B + 12) := Nat.mul_le_mul_right _ (by omega)
    have e1 : (⟨#[112, 114, 105, 109, 97, 114, 121, 32]⟩ : ByteArray).size = 8 := rfl
    rw [idxT]
    simp only [ByteArray.size_append]
    omega
  | k + 1, hk => by
    have ih := idxT_size hn hc hnc hp hi k (by omega)
    obtain ⟨h1, h2⟩ := hi k (by omega)
    have e1 : (⟨#[32]⟩ : ByteArray).size = 1 := rfl
    have e2 : (⟨#[117, 110, 105, 113, 117, 101, 32]⟩ : ByteArray).size = 7 := rfl
    have e3 : (⟨#[105, 110, 100, 101, 120, 32]⟩ : ByteArray).size = 6 := rfl
    have h3 : (k + 1) * (3 * B + 24) = k * (3 * B + 24) + (3 * B + 24) := by rw [Nat.add_mul]; omega
    rw [idxT]
    split <;> simp only [ByteArray.size_append] <;> omega
end Go.Proofs.YtnpfgamlncfikaaGreatDoor

/-
  The program's colText, partsText, indexText.
-/
namespace Go.Proofs.YtnpfgamlncfikaaGreatDoor
open Go.RowKit
set_option maxRecDepth 4000

/-- The program's table of the types' words. -/
def TyN (w : World) : Prop := ∀ i : Nat, i < 5 → w.cell? ⟨1, i, none⟩ = some (.string (typeW i))
theorem TyN.lt {w : World} (h : TyN w) : 1 < w.heap.size := World.block_lt_of_cell? _ _ (h 0 (by decide))
theorem TyN.below {w w' : World} (h : TyN w) (hb : Below w.heap.size w w') : TyN w' := fun i hi => (hb.cell (p := ⟨1, i, none⟩) h.lt).trans (h i hi)

/-- A column's text. -/
def colT (s : ByteArray) (t : Int) (nul : Bool) : ByteArray :=
  (if nul then s ++ (⟨#[32]⟩ : ByteArray) ++ typeW t ++ (⟨#[32, 110, 117, 108, 108]⟩ : ByteArray) else s ++ (⟨#[32]⟩ : ByteArray) ++ typeW t) ++ (⟨#[59, 32]⟩ : ByteArray)
theorem colsT_colT (name : ByteArray) (col : Nat → PCol) (k : Nat) : colsT name col (k + 1) = colsT name col k ++ colT (col k).name (col k).type (col k).null := by
  rw [colsT]
  unfold colT
  cases (col k).null <;> simp only [if_true, if_false, Bool.false_eq_true, ByteArray.append_assoc]

set_option maxHeartbeats 2000000 in
theorem colText_any (s : ByteArray) (t : Int) (nul : Bool) (w : World) (h1 : 1 ≤ t) (h4 : t ≤ 4) (hs : s.size ≤ 1048576) (hT : TyN w) :
    Calls Tryz.prog 62 #[.agg #[.string s, .int .i64 t, .bool nul]] w fun e w' => e = .returned (.string (colT s t nul)) ∧ Below w.heap.size w w' := by
  obtain ⟨m, rfl⟩ := Int.eq_ofNat_of_zero_le (show 0 ≤ t by omega)
  have hm5 : m < 5 := by omega
  have hc := hT m hm5
  have hlt := hT.lt
  have HN : Hid (colT s m nul = (if nul then s ++ (⟨#[32]⟩ : ByteArray) ++ typeW m ++ (⟨#[32, 110, 117, 108, 108]⟩ : ByteArray) else s ++ (⟨#[32]⟩ : ByteArray) ++ typeW m) ++ (⟨#[59, 32]⟩ : ByteArray)) := rfl
  have htz := typeW_size m
  obtain ⟨ty, hty⟩ : ∃ s, Hid (typeW (m : Int) = s) := ⟨_, rfl⟩
  rw [hty.out] at HN htz hc
  have hb0 : Below w.heap.size w (w.alloc (.cells #[.string s, .int .i64 (m : Int), .bool nul] 67)) := (Below.refl _ _).alloc (Nat.le_refl _) _
  have hc' : (w.alloc (.cells #[.string s, .int .i64 (m : Int), .bool nul] 67)).cell? ⟨1, m, none⟩ = some (.string ty) := (hb0.cell (p := ⟨1, m, none⟩) hlt).trans hc
  have HB : Hid (Below w.heap.size w (w.alloc (.cells #[.string s, .int .i64 (m : Int), .bool nul] 67))) := hb0
  have e1 : (⟨#[32]⟩ : ByteArray).size = 1 := rfl
  have e2 : (⟨#[32, 110, 117, 108, 108]⟩ : ByteArray).size = 5 := rfl
  have e3 : (⟨#[59, 32]⟩ : ByteArray).size = 2 := rfl
  have s1 : ¬ (s.size + 1 > 9223372036854775807) := by omega
  have s2 : (s ++ (⟨#[32]⟩ : ByteArray)).size = s.size + 1 := by rw [ByteArray.size_append]; rfl
  have s3 : ¬ (s.size + 1 + ty.size > 9223372036854775807) := by omega
  have s4 : (s ++ (⟨#[32]⟩ : ByteArray) ++ ty).size = s.size + 1 + ty.size := by rw [ByteArray.size_append, s2]
  have s5 : ¬ (s.size + 1 + ty.size + 5 > 9223372036854775807) := by omega
  have s6 : (s ++ (⟨#[32]⟩ : ByteArray) ++ ty ++ (⟨#[32, 110, 117, 108, 108]⟩ : ByteArray)).size = s.size + 1 + ty.size + 5 := by rw [ByteArray.size_append, s4]; rfl
  have s7 : ¬ (s.size + 1 + ty.size + 5 + 2 > 9223372036854775807) := by omega
  have s8 : ¬ (s.size + 1 + ty.size + 2 > 9223372036854775807) := by omega
  have hmz : (m : Int) < 5 := by omega
  clear hT hc hlt hb0 h1 h4
  go_enter Tryz.func62, Tryz.ntmps62
  go_wp2_with fail
  go_quiet (fail)
  cases nul with
  | true =>
    have HN' : Hid (colT s m true = s ++ (⟨#[32]⟩ : ByteArray) ++ ty ++ (⟨#[32, 110, 117, 108, 108]⟩ : ByteArray) ++ (⟨#[59, 32]⟩ : ByteArray)) := HN.out
    clear HN
    go_wp2
    go_ret
    exact ⟨by rw [HN'.out]; rfl, HB.out.trans ⟨rfl, rfl, rfl, Nat.le_refl _, fun _ _ => rfl⟩⟩
  | false =>
    have HN' : Hid (colT s m false = s ++ (⟨#[32]⟩ : ByteArray) ++ ty ++ (⟨#[59, 32]⟩ : ByteArray)) := HN.out
    clear HN
    go_wp2
    go_ret
    exact ⟨by rw [HN'.out]; rfl, HB.out.trans ⟨rfl, rfl, rfl, Nat.le_refl _, fun _ _ => rfl⟩⟩

/-- A part's text. -/
def partT (col : Nat → PCol) (f : Nat → PBy) (k : Nat) : ByteArray := if (f k).desc then (col (f k).col.toNat).name ++ (⟨#[32, 100, 101, 115, 99]⟩ : ByteArray) else (col (f k).col.toNat).name
theorem partsE_join (col : Nat → PCol) (n : Nat) (f : Nat → PBy) (h1 : 1 ≤ n) (h2 : n ≤ 2) :
    partsE col n f = (⟨(Lib.join (((List.range n).map (partT col f)).map (·.data.toList)) (⟨#[44, 32]⟩ : ByteArray).data.toList).toArray⟩ : ByteArray) ++ (⟨#[59, 32]⟩ : ByteArray) := by
  unfold partsE
  congr 1
  have key : ∀ a : ByteArray, (⟨a.data.toList.toArray⟩ : ByteArray) = a := fun a => by simp
  have hn : n = 1 ∨ n = 2 := by omega
  rcases hn with rfl | rfl
  · show _ = (⟨(Lib.join [(partT col f 0).data.toList] _).toArray⟩ : ByteArray)
    rw [Lib.join_one, key]
    apply ByteArray.ext
    apply Array.ext'
    unfold partT
    cases e0 : (f 0).desc <;> simp [partsT, e0]
  · show _ = (⟨(Lib.join [(partT col f 0).data.toList, (partT col f 1).data.toList] _).toArray⟩ : ByteArray)
    apply ByteArray.ext
    apply Array.ext'
    unfold partT
    cases e0 : (f 0).desc <;> cases e1 : (f 1).desc <;> simp [partsT, e0, e1, Lib.join, List.intercalate]
end Go.Proofs.YtnpfgamlncfikaaGreatDoor

/-
  The program's typeOf, placeOf, walked.
-/
namespace Go.Proofs.YtnpfgamlncfikaaGreatDoor
open Go.RowKit
set_option maxRecDepth 4000

/-- The place of a word among the words of the types, from the k-th on. -/
def typeFrom (s : ByteArray) : Nat → Nat → Option Int
  | 0, _ => none
  | m + 1, k => if typeW k = s then some (k : Int) else typeFrom s m (k + 1)
theorem typeFrom_is (s : ByteArray) : typeFrom s 5 0 = typeI s := by
  unfold typeI
  simp only [typeFrom]
  have e0 : typeW ((0 : Nat) : Int) = ⟨#[]⟩ := rfl
  by_cases h0 : s = ⟨#[]⟩
  · subst h0; rfl
  · rw [if_neg h0, if_neg (by rw [e0]; exact fun e => h0 e.symm)]
    by_cases h1 : s = typeW 1
    · rw [if_pos h1, if_pos (by rw [h1]; rfl)]; rfl
    · rw [if_neg h1, if_neg (fun e => h1 e.symm)]
      by_cases h2 : s = typeW 2
      · rw [if_pos h2, if_pos (by rw [h2]; rfl)]; rfl
      · rw [if_neg h2, if_neg (fun e => h2 e.symm)]
        by_cases h3 : s = typeW 3
        · rw [if_pos h3, if_pos (by rw [h3]; rfl)]; rfl
        · rw [if_neg h3, if_neg (fun e => h3 e.symm)]
          by_cases h4 : s = typeW 4
          · rw [if_pos h4, if_pos (by rw [h4]; rfl)]; rfl
          · rw [if_neg h4, if_neg (fun e => h4 e.symm)]

theorem idx5 (y0 y1 y2 y3 y4 : ByteArray) (i : Nat) (y : ByteArray) (h : (#[Value.string y0, .string y1, .string y2, .string y3, .string y4] : Array Value)[i]? = some (.string y)) (w : World) :
    (Instr.index 134 (.agg #[.string y0, .string y1, .string y2, .string y3, .string y4]) (.int .i64 i)).run Tryz.prog w = .ok (.string y) w := by
  have hi : i < 5 := by
    have := (Array.getElem?_eq_some_iff.1 h).1
    simpa using this
  match i, hi with
  | 0, _ => simp at h; subst h; simp [Instr.index, go_sem]
  | 1, _ => simp at h; subst h; simp [Instr.index, go_sem]
  | 2, _ => simp at h; subst h; simp [Instr.index, go_sem]
  | 3, _ => simp at h; subst h; simp [Instr.index, go_sem]
  | 4, _ => simp at h; subst h; simp [Instr.index, go_sem]

set_option maxHeartbeats 2000000 in
theorem typeOf_any (s : ByteArray) (w : World) (hty : TyN w) (hu : ErrU w) :
    Calls Tryz.prog 149 #[.string s] w fun e w' => w' = w ∧ ((∃ t, typeI s = some t ∧ e = .returned (.int .i64 t)) ∨ (typeI s = none ∧ Gave e)) := by
  have t0 := hty 0 (by decide)
  have t1 := hty 1 (by decide)
  have t2 := hty 2 (by decide)
  have t3 := hty 3 (by decide)
  have t4 := hty 4 (by decide)
  obtain ⟨u, pv, hx⟩ := hu
  have HT : Hid (typeFrom s 5 0 = typeI s) := typeFrom_is s
  obtain ⟨T, hT⟩ : ∃ x, Hid (typeI s = x) := ⟨_, rfl⟩
  rw [hT.out] at HT ⊢
  have HA : Hid (∀ i : Nat, i < 5 → (#[Value.string (typeW ((0 : Nat) : Int)), .string (typeW ((1 : Nat) : Int)), .string (typeW ((2 : Nat) : Int)), .string (typeW ((3 : Nat) : Int)), .string (typeW ((4 : Nat) : Int))] : Array Value)[i]? = some (.string (typeW i))) := by
    intro i hi
    match i, hi with
    | 0, _ => rfl
    | 1, _ => rfl
    | 2, _ => rfl
    | 3, _ => rfl
    | 4, _ => rfl
  obtain ⟨y0, e0⟩ : ∃ x, Hid (typeW ((0 : Nat) : Int) = x) := ⟨_, rfl⟩
  obtain ⟨y1, e1⟩ : ∃ x, Hid (typeW ((1 : Nat) : Int) = x) := ⟨_, rfl⟩
  obtain ⟨y2, e2⟩ : ∃ x, Hid (typeW ((2 : Nat) : Int) = x) := ⟨_, rfl⟩
  obtain ⟨y3, e3⟩ : ∃ x, Hid (typeW ((3 : Nat) : Int) = x) := ⟨_, rfl⟩
  obtain ⟨y4, e4⟩ : ∃ x, Hid (typeW ((4 : Nat) : Int) = x) := ⟨_, rfl⟩
  rw [e0.out] at t0
  rw [e1.out] at t1
  rw [e2.out] at t2
  rw [e3.out] at t3
  rw [e4.out] at t4
  rw [e0.out, e1.out, e2.out, e3.out, e4.out] at HA
  clear hty e0 e1 e2 e3 e4
  go_enter Tryz.func149, Tryz.ntmps149
  go_wp2
  go_loopg [6] 5 (fun q i wr => ∃ k : Nat, k ≤ 5 ∧ q = 5 - k ∧ i = .int .i64 k ∧ wr = w ∧ Hid (T = typeFrom s (5 - k) k))
  case atStart => exact ⟨0, by omega, rfl, rfl, rfl, HT.out.symm⟩
  case round =>
    clear HT
    obtain ⟨k, hk, rfl, rfl, rfl, HI⟩ := hrel
    by_cases hlt : k < 5
    · have hkz : (k : Int) < 5 := by omega
      have hix := fun W => idx5 y0 y1 y2 y3 y4 k (typeW k) (HA.out k hlt) W
      have HU : Hid (typeFrom s (5 - k) k = if typeW k = s then some (k : Int) else typeFrom s (4 - k) (k + 1)) := by
        show _ = _
        rw [show 5 - k = (4 - k) + 1 by omega, typeFrom]
      obtain ⟨y, hy⟩ : ∃ x, Hid (typeW (k : Int) = x) := ⟨_, rfl⟩
      simp only [hy.out] at hix HU
      by_cases hs : y = s
      · have hq := bytes_eq hs
        have HR : Hid (T = some (k : Int)) := by show _ = _; rw [HI.out, HU.out, if_pos hs]
        clear HI HU HA
        go_wp2
        go_ret
        exact ⟨rfl, .inl ⟨k, HR.out, rfl⟩⟩
      · have hq := bytes_ne hs
        have HR : Hid (T = typeFrom s (5 - (k + 1)) (k + 1)) := by show _ = _; rw [HI.out, HU.out, if_neg hs, show 5 - (k + 1) = 4 - k by omega]
        clear HI HU HA
        go_wp2
        go_roundg (5 - (k + 1))
        case measure => omega
        case rel => exact ⟨k + 1, by omega, rfl, by go_num, rfl, HR⟩
    · have hkz : ¬ (k : Int) < 5 := by omega
      obtain rfl : k = 5 := by omega
      have HR : Hid (T = none) := HI.out
      clear HI HA
      go_wp2
      exact ⟨rfl, rfl, .inr ⟨HR.out, u, pv, rfl⟩⟩
end Go.Proofs.YtnpfgamlncfikaaGreatDoor

/-
  The program's placeOf, walked.
-/
namespace Go.Proofs.YtnpfgamlncfikaaGreatDoor
open Go.RowKit
set_option maxRecDepth 4000

set_option maxHeartbeats 1000000 in
theorem placeFn_any (s : ByteArray) (t : Int) (z : Bool) (n : ByteArray) (B : Nat) (w : World) (hc : w.cell? ⟨B, 0, none⟩ = some (.string n)) :
    Calls Tryz.prog 162 #[.agg #[.string s, .int .i64 t, .bool z], .pointer (some ⟨B, 0, none⟩)] w fun e w' => e = .returned (.bool (decide (s = n))) ∧ Below w.heap.size w w' := by
  have hlt := World.block_lt_of_cell? _ _ hc
  have hc' : (w.alloc (.cells #[.string s, .int .i64 t, .bool z] 67)).cell? ⟨B, 0, none⟩ = some (.string n) := by
    rw [((Below.refl w.heap.size w).alloc (Nat.le_refl _) _).cell (by exact hlt)]; exact hc
  by_cases h : s = n
  · have hq := bytes_eq h
    go_enter Tryz.func162, Tryz.ntmps162
    go_wp2
    go_ret
    exact ⟨rfl, (Below.refl _ _).alloc (Nat.le_refl _) _⟩
  · have hq := bytes_ne h
    go_enter Tryz.func162, Tryz.ntmps162
    go_wp2
    go_ret
    exact ⟨rfl, (Below.refl _ _).alloc (Nat.le_refl _) _⟩

set_option maxHeartbeats 2000000 in
theorem indexPlace_any (a : Option Addr) (n cap : Nat) (f : Nat → PCol) (x : ByteArray) (B : Nat) (w : World) (h : CView w a n cap f) (hn : n ≤ 4194304) (hx : w.cell? ⟨B, 0, none⟩ = some (.string x)) :
    Calls Tryz.prog 143 #[.slice a n cap, .func (.func 162) #[] #[.pointer (some ⟨B, 0, none⟩)]] w fun e w' => e = .returned (.int .i64 (colAt f n x)) ∧ Below w.heap.size w w' := by
  have hBl := World.block_lt_of_cell? _ _ hx
  have HX : Hid (∀ W, Below w.heap.size w W → W.cell? ⟨B, 0, none⟩ = some (.string x)) := fun W hb => by rw [hb.cell (by exact hBl)]; exact hx
  clear hx
  go_enter Tryz.func143, Tryz.ntmps143
  go_wp2
  go_loopg [8] n (fun q i wr => ∃ k : Nat, k ≤ n ∧ q = n - k ∧ i = .int .i64 k ∧ Below w.heap.size w wr ∧ Hid (colAt f n x = colFrom f x (n - k) k))
  case atStart => exact ⟨0, Nat.zero_le _, rfl, rfl, Below.refl _ _, rfl⟩
  case round =>
    obtain ⟨k, hk, rfl, rfl, hB, HA⟩ := hrel
    by_cases hlt : k < n
    · have hkz : (k : Int) < (n : Int) := by omega
      obtain ⟨b1, o1, rfl, hb1, hcs⟩ := (h.below hB).cells (by omega)
      obtain ⟨x0, x1, x2⟩ := hcs k hlt
      have hV := placeFn_any (f k).name (f k).type (f k).null x B wr (HX.out wr hB)
      have HB : Hid (Below w.heap.size w wr) := hB
      have HU : Hid (colFrom f x (n - k) k = if (f k).name = x then (k : Int) else colFrom f x (n - (k + 1)) (k + 1)) := by
        show _ = _
        rw [show n - k = (n - (k + 1)) + 1 by omega, colFrom]
      obtain ⟨o, ho⟩ : ∃ o, Hid (decide ((f k).name = x) = o) := ⟨_, rfl⟩
      have HO : Hid (o = true ↔ (f k).name = x) := by show _ ↔ _; rw [← ho.out]; exact decide_eq_true_iff
      simp only [ho.out] at hV
      clear ho
      obtain ⟨s0, hs0⟩ : ∃ s, Hid ((f k).name = s) := ⟨_, rfl⟩
      obtain ⟨s1, hs1⟩ : ∃ s, Hid ((f k).type = s) := ⟨_, rfl⟩
      obtain ⟨s2, hs2⟩ : ∃ s, Hid ((f k).null = s) := ⟨_, rfl⟩
      rw [hs0.out] at x0 HU HO
      rw [hs1.out] at x1
      rw [hs2.out] at x2
      simp only [hs0.out, hs1.out, hs2.out] at hV
      clear hcs h hB
      go_wp2_with fail
      refine hV.mono ?_
      rintro e w2 ⟨rfl, hB2⟩
      have HB3 : Hid (Below w.heap.size w w2) := HB.out.trans (hB2.mono (by have := HB.out.size; first | exact this | (simp; omega)))
      clear hB2 hV x0 x1 x2 HB
      cases o with
      | true =>
        have HR : Hid (colAt f n x = k) := by show _ = _; rw [HA.out, HU.out, if_pos (HO.out.1 rfl)]
        clear HO HA HU
        go_wp2
        go_ret
        exact ⟨by rw [HR.out]; rfl, HB3.out⟩
      | false =>
        have hne : ¬ s0 = x := fun e => by have := HO.out.2 e; cases this
        have HN : Hid (colAt f n x = colFrom f x (n - (k + 1)) (k + 1)) := by show _ = _; rw [HA.out, HU.out, if_neg hne]
        clear HO HA HU hne
        go_wp2
        go_roundg (n - (k + 1))
        case measure => omega
        case rel => exact ⟨k + 1, by omega, rfl, by go_num, HB3.out, HN⟩
    · have hkz : ¬ (k : Int) < (n : Int) := by omega
      obtain rfl : k = n := by omega
      have HR : Hid (colAt f k x = -1) := by show _ = _; rw [HA.out, Nat.sub_self]; rfl
      clear h HA
      go_wp2
      go_ret
      exact ⟨by rw [HR.out]; rfl, hB⟩

set_option maxHeartbeats 2000000 in
theorem placeOf_any (a : Option Addr) (cap : Nat) (cs : List PCol) (x : ByteArray) (w : World) (h : CView w a cs.length cap (mkCol cs)) (hn : cs.length ≤ 4194304) (hu : ErrU w) :
    Calls Tryz.prog 156 #[.slice a cs.length cap, .string x] w fun e w' => Below w.heap.size w w' ∧ ((∃ k, placeI cs x = some k ∧ e = .returned (.int .i64 k)) ∨ (placeI cs x = none ∧ Gave e)) := by
  have hmf : ∀ (fn : Fn) (first cap : Array Value) (w : World), (Instr.makeFunc fn first cap).run Tryz.prog w = .ok (.func fn first cap) w := fun _ _ _ _ => rfl
  have hbA : Below w.heap.size w (w.alloc (.cells #[.string x] 9)) := (Below.refl _ _).alloc (Nat.le_refl _) _
  have hI := indexPlace_any a cs.length cap (mkCol cs) x w.heap.size (w.alloc (.cells #[.string x] 9)) (h.below hbA) hn (by simp)
  have HP : Hid (placeI cs x = if colAt (mkCol cs) cs.length x = -1 then none else some (colAt (mkCol cs) cs.length x)) := rfl
  obtain ⟨k, hk⟩ : ∃ k, Hid (colAt (mkCol cs) cs.length x = k) := ⟨_, rfl⟩
  rw [hk.out] at hI HP
  obtain ⟨N, hN⟩ : ∃ x', Hid (cs.length = x') := ⟨_, rfl⟩
  rw [hN.out] at hI ⊢
  clear h
  go_enter Tryz.func156, Tryz.ntmps156
  go_wp2_with fail
  refine hI.mono ?_
  rintro e w2 ⟨rfl, hb2⟩
  have hB2 : Below w.heap.size w w2 := hbA.trans (hb2.mono (by simp))
  obtain ⟨u, pv, hx⟩ := hu.below hB2
  have HB2 : Hid (Below w.heap.size w w2) := hB2
  clear hI hb2 hbA hB2
  by_cases hz : k = -1
  · subst hz
    have HR : Hid (placeI cs x = none) := HP.out
    clear HP
    go_wp2
    exact ⟨rfl, HB2.out, .inr ⟨HR.out, u, pv, rfl⟩⟩
  · have hz' : (k == -1) = false := by simpa using hz
    have HR : Hid (placeI cs x = some k) := by show _ = _; rw [HP.out, if_neg hz]
    clear HP
    go_wp2
    go_ret
    exact ⟨HB2.out, .inl ⟨k, HR.out, rfl⟩⟩
end Go.Proofs.YtnpfgamlncfikaaGreatDoor

