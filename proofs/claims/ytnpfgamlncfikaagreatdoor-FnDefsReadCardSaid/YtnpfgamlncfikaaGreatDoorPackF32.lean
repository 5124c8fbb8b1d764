/-
  Together: DefsPlain10, Draw, DrawBut, DrawKit9, DrawOnce, Draw9Two, DrawInt
-/
import Derived.Test.YtnpfgamlncfikaaGreatDoorPackF21
import Derived.Test.YtnpfgamlncfikaaGreatDoorPackF15
import Derived.Test.YtnpfgamlncfikaaGreatDoorPackF1
import Derived.Test.YtnpfgamlncfikaaGreatDoorPackF2
import Derived.WalkSpells
import Derived.Test.YtnpfgamlncfikaaGreatDoorPackF4
import Derived.Test.YtnpfgamlncfikaaGreatDoorPackF9
import Derived.Deep.RegionHeld3
/-
  Tables that are right come back of their text, plainly.
-/
namespace Go.Proofs.YtnpfgamlncfikaaGreatDoor
open Go.RowKit
set_option maxRecDepth 4000

theorem off_col (D : PDef) {i : Nat} (h : i < D.nc) : (offD D).col i = D.col i := offC_at D h
theorem off_nc (D : PDef) : (offD D).nc = D.nc := offC_len D
theorem off_pri (D : PDef) {i : Nat} (h : i < D.np) : (offD D).pri i = D.pri i := offP_at D.np D.pri h
theorem off_np (D : PDef) : (offD D).np = D.np := offP_len _ _
theorem off_ni (D : PDef) : (offD D).ni = D.ni := offI_len D
theorem off_idx (D : PDef) {i : Nat} (h : i < D.ni) : (offD D).idx i = ⟨(D.idx i).name, (D.idx i).uniq, (D.idx i).n, mkBy (offP (D.idx i).n (D.idx i).part)⟩ := by
  have he : (offI D).getD i (⟨#[]⟩, false, []) = ((D.idx i).name, (D.idx i).uniq, offP (D.idx i).n (D.idx i).part) := by simp [offI, List.getD, h]
  show mkIdx (offI D) i = _
  unfold mkIdx
  rw [he]
  simp only [offP_len]
theorem partsF_congr {nc n : Nat} {f g : Nat → PBy} (h : ∀ i, i < n → f i = g i) : partsF nc n f = partsF nc n g := by
  unfold partsF
  rw [decide_eq_decide]
  constructor
  · rintro ⟨h1, h2, h3⟩
    exact ⟨fun i hi => by rw [← h i hi, ← h 0 (by omega)]; exact h1 i hi, h2, h3⟩
  · rintro ⟨h1, h2, h3⟩
    exact ⟨fun i hi => by rw [h i hi, h 0 (by omega)]; exact h1 i hi, h2, h3⟩
/-- A right table as lists is right. -/
theorem check_off {D : PDef} (h : checkF D = 0) : checkF (offD D) = 0 := by
  obtain ⟨h1, h2, h3, h4, h5, h6⟩ := checkF_good h
  have g1 : namesF (offD D) = true := by
    unfold namesF at h1 ⊢
    obtain ⟨a, b, c⟩ := of_decide_eq_true h1
    refine decide_eq_true ⟨fun i hi => ?_, fun i hi => ?_, c⟩
    · rw [off_nc] at hi; rw [off_col D hi]; exact a i hi
    · rw [off_ni] at hi; rw [off_idx D hi]; exact b i hi
  have g2 : typesF (offD D) = true := by
    unfold typesF at h2 ⊢
    obtain ⟨a, b, c⟩ := of_decide_eq_true h2
    refine decide_eq_true ⟨fun i hi => ?_, by rw [off_nc]; exact b, by rw [off_nc]; exact c⟩
    rw [off_nc] at hi; rw [off_col D hi]; exact a i hi
  have g3 : onceF (offD D) = true := by
    unfold onceF at h3 ⊢
    obtain ⟨a, b⟩ := of_decide_eq_true h3
    refine decide_eq_true ⟨fun i hi j hj => ?_, fun i hi j hj => ?_⟩
    · rw [off_nc] at hi; rw [off_col D hi, off_col D (by omega)]; exact a i hi j hj
    · rw [off_ni] at hi; rw [off_idx D hi, off_idx D (by omega)]; exact b i hi j hj
  have g5 : allPartsF (offD D) = true := by
    unfold allPartsF at h5 ⊢
    obtain ⟨a, b⟩ := of_decide_eq_true h5
    refine decide_eq_true ⟨fun i hi => ?_, ?_⟩
    · rw [off_ni] at hi
      rw [off_idx D hi, off_nc]
      show partsF D.nc (D.idx i).n (mkBy (offP (D.idx i).n (D.idx i).part)) = true
      rw [show partsF D.nc (D.idx i).n (mkBy (offP (D.idx i).n (D.idx i).part)) = partsF D.nc (D.idx i).n (D.idx i).part from partsF_congr (fun j hj => offP_at _ _ hj)]
      exact a i hi
    · rw [off_nc, off_np, partsF_congr (g := D.pri) (fun j hj => off_pri D hj)]
      exact b
  have g6 : nullF (offD D) = false := by
    unfold nullF at h6 ⊢
    have h6' := of_decide_eq_false h6
    unfold allPartsF at h5
    obtain ⟨-, hp⟩ := of_decide_eq_true h5
    refine decide_eq_false ?_
    rintro ⟨i, hi, e⟩
    rw [off_np] at hi
    have hin := partsF_in hp hi
    rw [off_pri D hi, off_col D (by omega)] at e
    exact h6' ⟨i, hi, e⟩
  unfold checkF
  rw [g1, g2, g3, g5, g6, off_ni]
  simp
  omega
theorem defsK_long (f : Nat → PDef) : ∀ n, n ≤ (defsK f n).length
  | 0 => Nat.le_refl _
  | n + 1 => by
    have := defsK_long f n
    obtain ⟨r, e⟩ := defK_cons (f n)
    rw [defsK, List.length_append, e, List.length_cons]; omega
/-- The tables as they are read. -/
def backL (f : Nat → PDef) (n : Nat) : List PDef := (List.range n).map (fun i => offD (f i))
theorem backL_len (f : Nat → PDef) (n : Nat) : (backL f n).length = n := by simp [backL]
theorem backL_at (f : Nat → PDef) {n i : Nat} (h : i < n) : atD (backL f n) i = offD (f i) := by simp [backL, atD, List.getD, h]
theorem parse_hit {f : Nat → PDef} {n : Nat} (h : firstF f n = -1) : parseF (defsT f n) = some (backL f n) := by
  obtain ⟨h3, hg, hn⟩ := firstF_none h
  have hl := lex_defs h
  unfold parseF
  rw [hl, if_pos rfl]
  unfold tabsF
  rw [show defsR ((defsK f n).length + 1) (defsK f n) = some (backL f n) by
    rw [defsK_off]
    exact defsR_hit (List.range n) _ (by have := defsK_long f n; rw [defsK_off] at this; rw [List.length_range]; omega) (fun i hi => hg i (List.mem_range.1 hi))]
  show (if firstF (atD (backL f n)) (backL f n).length = -1 then some (backL f n) else none) = _
  rw [if_pos ?_]
  rw [backL_len]
  refine firstF_no (fun i hi => badF_no ?_ (by omega) (fun k hk => ?_))
  · rw [backL_at f hi]; exact check_off (hg i hi)
  · rw [backL_at f hi, backL_at f (show k < n by omega)]; exact hn i hi k hk
theorem first_in {f : Nat → PDef} {n : Nat} (h : firstF f n ≠ -1) : 0 ≤ firstF f n ∧ firstF f n < n := by
  have key : ∀ (m k : Nat), badFrom f m k = -1 ∨ (0 ≤ badFrom f m k ∧ badFrom f m k < (k + m : Nat)) := by
    intro m
    induction m with
    | zero => intro k; left; rfl
    | succ m ih =>
      intro k
      rw [badFrom]
      split
      · right; omega
      · rcases ih (k + 1) with h | h
        · left; exact h
        · right; omega
  rcases key n 0 with h1 | h1
  · exact absurd h1 h
  · unfold firstF; omega
end Go.Proofs.YtnpfgamlncfikaaGreatDoor

/-
  The cursor that the draws go by: what each draw comes to, as far as a law leans on it: a number within its bounds, bytes of their own; nothing turns but the cursor.
-/
namespace Go.Proofs.YtnpfgamlncfikaaGreatDoor
open Go.RowKit
set_option maxRecDepth 4000

theorem i64_and255 (n : Int) : bits .and .i64 n 255 = n % 256 := by
  have h255 : (BitVec.ofInt 64 255).toNat = 2 ^ 8 - 1 := by decide
  have key : (BitVec.ofInt 64 n &&& BitVec.ofInt 64 255).toNat = (n % ((2 ^ 64 : Nat) : Int)).toNat % 2 ^ 8 := by
    rw [BitVec.toNat_and, BitVec.toNat_ofInt, h255, Nat.and_two_pow_sub_one_eq_mod]
  show IntKind.i64.wrap ((BitVec.ofInt 64 n &&& BitVec.ofInt 64 255).toNat : Nat) = n % 256
  rw [key, IntKind.wrap_i64]
  omega

theorem Only.trans {b : Nat} {w w1 w2 : World} (h : Only b w w1) (k : Only b w1 w2) : Only b w w2 :=
  ⟨k.os.trans h.os, k.tape.trans h.tape, k.output.trans h.output, k.size.trans h.size, fun i hi => (k.block i hi).trans (h.block i hi)⟩

/-- The three cells of a cursor. -/
def curF (ao : Option Addr) (n cap : Nat) (i h : Int) : Nat → Value
  | 0 => .slice ao n cap
  | 1 => .int .i64 i
  | _ => .int .i64 h

structure Cur (w : World) (g : Nat) (ao : Option Addr) (n cap : Nat) (f : Nat → Int) : Prop where
  cells : ∃ i h : Int, w.rowIs g 95 3 (curF ao n cap i h) ∧ 0 ≤ i ∧ i ≤ n
  view : View w ao n cap f
  apart : ∀ a, ao = some a → 0 < n → a.block ≠ g

theorem Cur.lt {w : World} {g : Nat} {ao : Option Addr} {n cap : Nat} {f : Nat → Int} (h : Cur w g ao n cap f) : g < w.heap.size := by
  obtain ⟨i, k, hr, _⟩ := h.cells
  exact hr.lt

theorem Cur.below {w w' : World} {g : Nat} {ao : Option Addr} {n cap : Nat} {f : Nat → Int} (h : Cur w g ao n cap f) (hb : Below w.heap.size w w') : Cur w' g ao n cap f := by
  obtain ⟨i, k, hr, h0, h1⟩ := h.cells
  exact ⟨⟨i, k, hr.of_block (hb.block g hr.lt), h0, h1⟩, h.view.below hb, h.apart⟩

set_option maxHeartbeats 2000000 in
theorem l1Byte_any (g : Nat) (ao : Option Addr) (n cap : Nat) (f : Nat → Int) (w : World) (hn : n ≤ 1048576) (hC : Cur w g ao n cap f) :
    Calls Tryz.prog 76 #[.pointer (some ⟨g, 0, none⟩)] w fun e w' => ∃ x : Int, e = .returned (.int .i64 x) ∧ 0 ≤ x ∧ x ≤ 255 ∧ Cur w' g ao n cap f ∧ Only g w w' := by
  obtain ⟨i, h, hr, hi0, hi1⟩ := hC.cells
  have c0 : w.cell? ⟨g, 0, none⟩ = some (.slice ao n cap) := hr.cell (by decide)
  have c1 : w.cell? ⟨g, 1, none⟩ = some (.int .i64 i) := hr.cell (by decide)
  have c2 : w.cell? ⟨g, 2, none⟩ = some (.int .i64 h) := hr.cell (by decide)
  have z1 := hr.frozen 1
  have z2 := hr.frozen 2
  have hA : ∀ z : Int, bits .and .i64 z 255 = z % 256 := i64_and255
  by_cases hlt : i < n
  · have hv := hC.view
    obtain ⟨b, off, rfl, hb, hc⟩ := hv.cells (by omega)
    have hne : b ≠ g := hC.apart _ rfl (by omega)
    obtain ⟨k, rfl⟩ := Int.eq_ofNat_of_zero_le hi0
    have hbk := hv.byte k (by omega)
    have hck := hc k (by omega)
    clear hc
    go_enter Tryz.func76, Tryz.ntmps76
    go_wp2
    go_region
    all_goals go_wp2
    all_goals go_region
    all_goals go_wp2
    all_goals go_region
    all_goals go_wp2
    go_ret
    have hO : Only g w ((w.setCell ⟨g, 2, none⟩ (.int .i64 (wrap64 (wrap64 (h * 6364136223846793005) + 1442695040888963407)))).setCell ⟨g, 1, none⟩ (.int .i64 ((k : Int) + 1))) := ((Only.refl _ _).setCell _).setCell _
    have hR := ((hr.set 2 (.int .i64 (wrap64 (wrap64 (h * 6364136223846793005) + 1442695040888963407)))).set 1 (.int .i64 ((k : Int) + 1))).congr (g := curF (some ⟨b, off, none⟩) n cap ((k : Int) + 1) (wrap64 (wrap64 (h * 6364136223846793005) + 1442695040888963407)))
      (fun j hj => by match j, hj with | 0, _ => rfl | 1, _ => rfl | 2, _ => rfl)
    exact ⟨_, rfl, by omega, by omega, ⟨⟨_, _, hR, by omega, by omega⟩, (hO.view hv (fun a ha => hC.apart a ha (by omega))).drew.drew.drew, hC.apart⟩, hO.os, hO.tape, hO.output, hO.size, hO.block⟩
  · go_enter Tryz.func76, Tryz.ntmps76
    go_wp2
    go_region
    all_goals go_wp2
    all_goals go_region
    all_goals go_wp2
    go_ret
    have hO : Only g w (w.setCell ⟨g, 2, none⟩ (.int .i64 (wrap64 (wrap64 (h * 6364136223846793005) + 1442695040888963407)))) := (Only.refl _ _).setCell _
    have hR := (hr.set 2 (.int .i64 (wrap64 (wrap64 (h * 6364136223846793005) + 1442695040888963407)))).congr (g := curF ao n cap i (wrap64 (wrap64 (h * 6364136223846793005) + 1442695040888963407)))
      (fun j hj => by match j, hj with | 0, _ => rfl | 1, _ => rfl | 2, _ => rfl)
    have hV : View (w.setCell ⟨g, 2, none⟩ (.int .i64 (wrap64 (wrap64 (h * 6364136223846793005) + 1442695040888963407)))) ao n cap f := by
      by_cases h0 : 0 < n
      · exact hO.view hC.view (fun a ha => hC.apart a ha h0)
      · exact ⟨hC.view.le, hC.view.byte, fun h => absurd h h0⟩
    exact ⟨_, rfl, by omega, by omega, ⟨⟨_, _, hR, hi0, hi1⟩, hV.drew.drew, hC.apart⟩, hO.os, hO.tape, hO.output, hO.size, hO.block⟩

set_option maxHeartbeats 1000000 in
theorem l1Below_any (g : Nat) (ao : Option Addr) (n cap : Nat) (f : Nat → Int) (m : Int) (w : World) (hn : n ≤ 1048576) (hm : 0 < m) (hm1 : m ≤ 16777216) (hC : Cur w g ao n cap f) :
    Calls Tryz.prog 40 #[.pointer (some ⟨g, 0, none⟩), .int .i64 m] w fun e w' => ∃ x : Int, e = .returned (.int .i64 x) ∧ 0 ≤ x ∧ x < m ∧ Cur w' g ao n cap f ∧ Only g w w' := by
  by_cases h256 : m ≤ 256
  · go_enter Tryz.func40, Tryz.ntmps40
    go_wp2_with fail
    refine (l1Byte_any g ao n cap f w hn hC).mono ?_
    rintro e w1 ⟨x, rfl, hx0, hx1, hC1, hO1⟩
    go_wp2
    go_ret
    exact ⟨_, rfl, Int.emod_nonneg _ (by omega), Int.emod_lt_of_pos _ hm, hC1, hO1⟩
  · go_enter Tryz.func40, Tryz.ntmps40
    go_wp2_with fail
    refine (l1Byte_any g ao n cap f w hn hC).mono ?_
    rintro e w1 ⟨x, rfl, hx0, hx1, hC1, hO1⟩
    go_wp2_with fail
    refine (l1Byte_any g ao n cap f w1 hn hC1).mono ?_
    rintro e w2 ⟨y, rfl, hy0, hy1, hC2, hO2⟩
    go_wp2_with fail
    refine (l1Byte_any g ao n cap f w2 hn hC2).mono ?_
    rintro e w3 ⟨z, rfl, hz0, hz1, hC3, hO3⟩
    go_wp2
    go_ret
    exact ⟨_, rfl, Int.emod_nonneg _ (by omega), Int.emod_lt_of_pos _ hm, hC3, (hO1.trans hO2).trans hO3⟩

set_option maxHeartbeats 1000000 in
theorem l1New_any (ao : Option Addr) (n cap : Nat) (f : Nat → Int) (w : World) (hn : n ≤ 1048576) (hv : View w ao n cap f) :
    Calls Tryz.prog 24 #[.slice ao n cap] w fun e w' => e = .returned (.pointer (some ⟨w.heap.size, 0, none⟩)) ∧ Cur w' w.heap.size ao n cap f ∧ Below w.heap.size w w' := by
  go_enter Tryz.func24, Tryz.ntmps24
  go_wp2
  go_loopg [3, 4] n (fun q s i wr => w = wr ∧ ∃ (k : Nat) (h : Int), k ≤ n ∧ q = n - k ∧ s = .int .i64 h ∧ i = .int .i64 k)
  case atStart => exact ⟨rfl, 0, _, Nat.zero_le _, rfl, rfl, rfl⟩
  case round =>
    obtain ⟨rfl, k, h, hk, rfl, rfl, rfl⟩ := hrel
    by_cases hlt : k < n
    · obtain ⟨b, off, rfl, hb, hc⟩ := hv.cells (by omega)
      have hkz : (k : Int) < (n : Int) := by omega
      have hc1 := hc k hlt
      have hbk := hv.byte k hlt
      by_cases h4 : k < 4000
      · have hz4 : (k : Int) < 4000 := by omega
        clear hc
        go_wp2
        go_roundg (n - (k + 1))
        case measure => omega
        case rel => exact ⟨rfl, k + 1, _, by omega, rfl, rfl, by go_num⟩
      · have hz4 : ¬ (k : Int) < 4000 := by omega
        clear h4
        clear hc
        go_wp2
        go_ret
        refine ⟨rfl, ⟨⟨0, _, World.rowIs_alloc w _ 95 (curF (some ⟨b, off, none⟩) n cap 0 h) (fun j hj => ?_), by omega, by omega⟩, hv.below ((Below.refl _ _).alloc (Nat.le_refl _) _), fun a ha _ => ?_⟩, (Below.refl _ _).alloc (Nat.le_refl _) _⟩
        · match j, hj with | 0, _ => rfl | 1, _ => rfl | 2, _ => rfl
        · cases ha; show b ≠ w.heap.size; omega
    · have hkz : (n : Int) ≤ (k : Int) := by omega
      go_wp2
      go_ret
      refine ⟨rfl, ⟨⟨0, _, World.rowIs_alloc w _ 95 (curF ao n cap 0 h) (fun j hj => ?_), by omega, by omega⟩, hv.below ((Below.refl _ _).alloc (Nat.le_refl _) _), fun a ha h0 => ?_⟩, (Below.refl _ _).alloc (Nat.le_refl _) _⟩
      · match j, hj with | 0, _ => rfl | 1, _ => rfl | 2, _ => rfl
      · obtain ⟨b, off, e, hb, _⟩ := hv.cells h0
        rw [e] at ha; cases ha; show b ≠ w.heap.size; omega
end Go.Proofs.YtnpfgamlncfikaaGreatDoor

/-
  What turns but the cursor: how it is carried.
-/
namespace Go.Proofs.YtnpfgamlncfikaaGreatDoor
open Go.RowKit
set_option maxRecDepth 4000

theorem Cur.grown {w w' : World} {g : Nat} {ao : Option Addr} {n cap : Nat} {f : Nat → Int} {row : Option Nat} (h : Cur w g ao n cap f) (hg : w.grownBy w' row) (h1 : row ≠ some g) (h2 : ∀ a, ao = some a → 0 < n → row ≠ some a.block) : Cur w' g ao n cap f := by
  obtain ⟨i, k, hr, h0, hi⟩ := h.cells
  refine ⟨⟨i, k, hr.of_block (hg.block g hr.lt (fun e => h1 e.symm)), h0, hi⟩, ⟨h.view.le, h.view.byte, fun hn => ?_⟩, h.apart⟩
  obtain ⟨b', off, e, hlt, hc⟩ := h.view.cells hn
  refine ⟨b', off, e, Nat.lt_of_lt_of_le hlt hg.size, fun j hj => ?_⟩
  rw [World.cell?_of_block (w := w) (hg.block b' hlt (fun e' => h2 _ e hn e'.symm))]
  exact hc j hj
theorem Cur.code {w : World} {g : Nat} {ao : Option Addr} {n cap : Nat} {f : Nat → Int} (h : Cur w g ao n cap f) : ∀ a, ao = some a → 0 < n → a.block < w.heap.size := by
  rintro a rfl hn
  obtain ⟨b, off, e, hlt, _⟩ := h.view.cells hn
  cases e
  exact hlt

end Go.Proofs.YtnpfgamlncfikaaGreatDoor

/-
  What the draws of tables turn besides: the cursor.
-/
namespace Go.Proofs.YtnpfgamlncfikaaGreatDoor
open Go.RowKit
set_option maxRecDepth 4000

/-- The cursor, and what has turned since w: it alone, of what was there. -/
structure Cr (w : World) (g : Nat) (ao : Option Addr) (n cap : Nat) (f : Nat → Int) (W : World) : Prop where
  cur : Cur W g ao n cap f
  but : But g w W
  lt : g < w.heap.size
  code : ∀ a, ao = some a → 0 < n → a.block < w.heap.size
theorem Cr.start {w : World} {g : Nat} {ao : Option Addr} {n cap : Nat} {f : Nat → Int} (h : Cur w g ao n cap f) : Cr w g ao n cap f w := ⟨h, But.refl _ _, h.lt, h.code⟩
theorem Cr.next {w : World} {g : Nat} {ao : Option Addr} {n cap : Nat} {f : Nat → Int} {W W' : World} (h : Cr w g ao n cap f W) (hc : Cur W' g ao n cap f) (hb : But g W W') : Cr w g ao n cap f W' := ⟨hc, h.but.trans hb, h.lt, h.code⟩
theorem Cr.eff {w : World} {g : Nat} {ao : Option Addr} {n cap : Nat} {f : Nat → Int} {T : TypeId} {W W' : World} (h : Cr w g ao n cap f W) (e : Eff w T W W') : Cr w g ao n cap f W' := by
  have hs := h.but.size
  have hg := h.lt
  refine ⟨?_, ⟨e.os.trans h.but.os, e.tape.trans h.but.tape, e.output.trans h.but.output, Nat.le_trans hs e.size, fun k hk hne => (e.old k hk (by omega)).trans (h.but.block k hk hne)⟩, h.lt, h.code⟩
  obtain ⟨i, k, hr, h0, hi⟩ := h.cur.cells
  refine ⟨⟨i, k, hr.of_block (e.old g hg (by omega)), h0, hi⟩, ⟨h.cur.view.le, h.cur.view.byte, fun hn => ?_⟩, h.cur.apart⟩
  obtain ⟨b', off, ea, hlt, hc⟩ := h.cur.view.cells hn
  have hb' := h.code _ ea hn
  refine ⟨b', off, ea, Nat.lt_of_lt_of_le hlt e.size, fun j hj => ?_⟩
  rw [World.cell?_of_block (w := W) (e.old b' hb' hlt)]
  exact hc j hj
theorem Cr.size {w : World} {g : Nat} {ao : Option Addr} {n cap : Nat} {f : Nat → Int} {W : World} (h : Cr w g ao n cap f W) : w.heap.size ≤ W.heap.size := h.but.size
end Go.Proofs.YtnpfgamlncfikaaGreatDoor

/-
  A draw of yes or no.
-/
namespace Go.Proofs.YtnpfgamlncfikaaGreatDoor
open Go.RowKit
set_option maxRecDepth 4000

set_option maxHeartbeats 1000000 in
theorem l1Once_any (g : Nat) (ao : Option Addr) (n cap : Nat) (f : Nat → Int) (m : Int) (w : World) (hn : n ≤ 1048576) (hm : 0 < m) (hm1 : m ≤ 16777216) (hC : Cur w g ao n cap f) :
    Calls Tryz.prog 75 #[.pointer (some ⟨g, 0, none⟩), .int .i64 m] w fun e w' => ∃ b : Bool, e = .returned (.bool b) ∧ Cur w' g ao n cap f ∧ Only g w w' := by
  go_enter Tryz.func75, Tryz.ntmps75
  go_wp2_with fail
  refine (l1Below_any g ao n cap f m w hn hm hm1 hC).mono ?_
  rintro e w1 ⟨x, rfl, hx0, hx1, hC1, hO1⟩
  go_wp2
  go_ret
  exact ⟨_, rfl, hC1, hO1⟩
end Go.Proofs.YtnpfgamlncfikaaGreatDoor

/-
  The draw of one or two parts.
-/
namespace Go.Proofs.YtnpfgamlncfikaaGreatDoor
open Go.RowKit
set_option maxRecDepth 4000

/-- One part in a new row. -/
theorem own_by1 {w W : World} (hw : w.heap.size ≤ W.heap.size) (c : Int) (d : Bool) : (W.alloc (.cells #[.int .i64 c, .bool d] 70)).ownsRow w.heap.size 70 2 (.slice (some ⟨W.heap.size, 0, none⟩) 1 1) 1 (rowG (encB (fun _ => ⟨c, d⟩)) 1) := by
  have := World.ownsRow_lit (base := w.heap.size) (e := 70) (size := 2) W #[.int .i64 c, .bool d] 1 hw (by unfold maxLen; omega) rfl
  simpa [rowG, encB] using this

/-- One or two parts that were drawn. -/
def Drew2 (w : World) (g : Nat) (ao : Option Addr) (n cap : Nat) (f : Nat → Int) (b c N : Nat) (w' : World) : Prop :=
  ∃ h : Nat → PBy, (1 ≤ N ∧ N ≤ 2) ∧ w'.ownsRow w.heap.size 70 2 (.slice (some ⟨b, 0, none⟩) N c) N (rowG (encB h) N) ∧ Cur w' g ao n cap f ∧ But g w w'

set_option maxHeartbeats 4000000 in
theorem l9Draw2_any (g : Nat) (ao : Option Addr) (n cap : Nat) (f : Nat → Int) (m : Int) (w : World) (hn : n ≤ 1048576) (hm : 0 < m) (hm1 : m ≤ 1000) (hC : Cur w g ao n cap f) :
    Calls Tryz.prog 96 #[.pointer (some ⟨g, 0, none⟩), .int .i64 m] w fun e w' => ∃ (b c N : Nat), e = .returned (.slice (some ⟨b, 0, none⟩) N c) ∧ Drew2 w g ao n cap f b c N w' := by
  obtain ⟨i0, hi, hz0, hz1, hz2⟩ := infoBy9
  have hR := Cr.start hC
  have hg := hR.lt
  clear hC
  go_enter Tryz.func96, Tryz.ntmps96
  go_wp2_with fail
  refine (l1Below_any g ao n cap f m _ hn hm (by omega) hR.cur).mono ?_
  rintro e w1 ⟨a, rfl, ha0, ha1, hC1, hO1⟩
  replace hR := hR.next hC1 (But.ofOnly hO1)
  clear hC1 hO1
  go_wp2_with fail
  refine (l1Once_any g ao n cap f 2 w1 hn (by omega) (by omega) hR.cur).mono ?_
  rintro e w2 ⟨o, rfl, hC2, hO2⟩
  replace hR := hR.next hC2 (But.ofOnly hO2)
  clear hC2 hO2
  have hO := own_by1 (w := w) (W := w2) hR.size a o
  have hE := Eff.alloc w 70 w2 (.cells #[.int .i64 a, .bool o] 70)
  replace hR := hR.eff hE
  clear hE
  by_cases h1 : m > 1
  · go_wp2_with fail
    obtain ⟨w3, hw3⟩ : ∃ w3, Hid (w3 = w2.alloc (.cells #[.int .i64 a, .bool o] 70)) := ⟨_, rfl⟩
    obtain ⟨b, hb⟩ : ∃ b, Hid (b = w2.heap.size) := ⟨_, rfl⟩
    rw [← hw3.out, ← hb.out] at hO ⊢
    rw [← hw3.out] at hR
    refine (l1Once_any g ao n cap f 3 w3 hn (by omega) (by omega) hR.cur).mono ?_
    rintro e w4 ⟨p, rfl, hC4, hO4⟩
    replace hO := own_but9 hO (But.ofOnly hO4) hg
    replace hR := hR.next hC4 (But.ofOnly hO4)
    clear hC4 hO4 hw3 hb
    cases p with
    | false =>
      have HR : Hid (w4.ownsRow w.heap.size 70 2 (.slice (some ⟨b, 0, none⟩) 1 1) 1 (rowG (encB (fun _ => ⟨a, o⟩)) 1) ∧ Cr w g ao n cap f w4) := ⟨hO, hR⟩
      clear hO hR
      go_wp2
      go_ret
      exact ⟨b, 1, 1, rfl, _, by omega, HR.out.1, HR.out.2.cur, HR.out.2.but⟩
    | true =>
      go_wp2_with fail
      have e1 : wrap64 (a + 1) = a + 1 := by unfold wrap64; omega
      have e2 : IntKind.i64.wrap (a + 1) = a + 1 := by rw [IntKind.wrap_i64]; omega
      have e3 : ¬ (m = 0) := by omega
      refine wp_region_held_drew (S := fun _ => True) (by kernel_rfl) trivial (fun hHeld => ?_)
      have hbd : Below w4.heap.size w4 w4.drew := (Below.refl _ _).drew
      replace hO := own_belowG9 hO hbd
      replace hR := hR.eff (T := 35) (Eff.ofBelow hbd)
      obtain ⟨wd, hwd⟩ : ∃ wd, Hid (wd = w4.drew) := ⟨_, rfl⟩
      rw [← hwd.out] at hO hR ⊢
      clear hbd
      refine' wpAnyH_take (i := 0) (v := _) rfl (by kernel_rfl) (by kernel_rfl) (by kernel_rfl) (fun _ _ _ h => h) (Or.inl ⟨by kernel_rfl, ?hda1⟩) (by assumption) ?rda1
      case hda1 => intro W hW; go_simp; all_goals with_reducible rfl
      change wpAnyH _ _ _ _ _ _ _ (Act.put _ (some 21) _) _
      simp only [Act.put, List.setIfInBounds_toArray, List.set_cons_zero, List.set_cons_succ]
      refine' wpAnyH_take (i := 1) (v := _) rfl (by kernel_rfl) (by kernel_rfl) (by kernel_rfl) (fun _ _ _ h => h) (Or.inl ⟨by kernel_rfl, ?hda2⟩) (by assumption) ?rda2
      case hda2 => intro W hW; go_simp; all_goals with_reducible rfl
      change wpAnyH _ _ _ _ _ _ _ (Act.put _ (some 22) _) _
      simp only [Act.put, List.setIfInBounds_toArray, List.set_cons_zero, List.set_cons_succ]
      refine' wpAnyH_take (i := 2) (v := _) rfl (by kernel_rfl) (by kernel_rfl) (by kernel_rfl) (fun _ _ _ h => h) (Or.inl ⟨by kernel_rfl, ?hda3⟩) (by assumption) ?rda3
      case hda3 => intro W hW; go_simp; all_goals with_reducible rfl
      change wpAnyH _ _ _ _ _ _ _ (Act.put _ (some 23) _) _
      simp only [Act.put, List.setIfInBounds_toArray, List.set_cons_zero, List.set_cons_succ]
      refine' wpAnyH_take (i := 3) (v := _) rfl (by kernel_rfl) (by kernel_rfl) (by kernel_rfl) (fun _ _ _ h => h) (Or.inl ⟨by kernel_rfl, ?hda4⟩) (by assumption) ?rda4
      case hda4 => intro W hW; go_simp; all_goals with_reducible rfl
      change wpAnyH _ _ _ _ _ _ _ (Act.put _ (some 24) _) _
      simp only [Act.put, List.setIfInBounds_toArray, List.set_cons_zero, List.set_cons_succ]
      refine' wpAnyH_take (i := 4) (v := _) rfl (by kernel_rfl) (by kernel_rfl) (by kernel_rfl) (fun _ _ _ h => h) (Or.inl ⟨by kernel_rfl, ?hda5⟩) (by assumption) ?rda5
      case hda5 => intro W hW; go_simp; all_goals with_reducible rfl
      change wpAnyH _ _ _ _ _ _ _ (Act.put _ (some 25) _) _
      simp only [Act.put, List.setIfInBounds_toArray, List.set_cons_zero, List.set_cons_succ]
      refine' wpAnyH_take (i := 5) (v := _) rfl (by kernel_rfl) (by kernel_rfl) (by kernel_rfl) (fun _ _ _ h => h) (Or.inl ⟨by kernel_rfl, ?hda6⟩) (by assumption) ?rda6
      case hda6 => intro W hW; go_simp; all_goals with_reducible rfl
      change wpAnyH _ _ _ _ _ _ _ (Act.put _ (some 26) _) _
      simp only [Act.put, List.setIfInBounds_toArray, List.set_cons_zero, List.set_cons_succ]
      refine wpAnyH_ready (rs := [6]) (by kernel_rfl) (by simp) ?_
      refine AllReadyH.cons rfl (fun KK hK => ?_) AllReadyH.nil
      go_simp
      refine (l1Once_any g ao n cap f 2 _ hn (by omega) (by omega) hR.cur).mono ?_
      rintro e w5 ⟨q, rfl, hC5, hO5⟩
      replace hO := own_but9 hO (But.ofOnly hO5) hg
      replace hR := hR.next hC5 (But.ofOnly hO5)
      clear hC5 hO5
      go_wp2_with fail
      refine hK.out _ _ trivial (fun hHeld => ?_)
      clear hK KK
      try simp only [Act.put, List.setIfInBounds_toArray, List.set_cons_zero, List.set_cons_succ]
      refine' wpAnyH_take (i := 7) (v := _) rfl (by kernel_rfl) (by kernel_rfl) (by kernel_rfl) (fun _ _ _ h => h) (Or.inl ⟨by kernel_rfl, ?hda7⟩) (by assumption) ?rda7
      case hda7 => intro W hW; go_simp; all_goals with_reducible rfl
      change wpAnyH _ _ _ _ _ _ _ (Act.put _ (some 28) _) _
      simp only [Act.put, List.setIfInBounds_toArray, List.set_cons_zero, List.set_cons_succ]
      refine wpAnyH_ready (rs := [8]) (by kernel_rfl) (by simp) ?_
      refine AllReadyH.cons rfl (fun KK hK => ?_) AllReadyH.nil
      go_simp
      have hcl := cells_by9 w5 (Int.tmod (a + 1) m) q
      have hbA : Below w5.heap.size w5 (w5.alloc (.cells #[.int .i64 (Int.tmod (a + 1) m), .bool q] 70)) := (Below.refl _ _).alloc (Nat.le_refl _) _
      replace hO := own_belowG9 hO hbA
      replace hR := hR.eff (T := 35) (Eff.ofBelow hbA)
      have hsz := hR.size
      refine hK.out _ _ trivial (fun hHeld => ?_)
      clear hK KK
      try simp only [Act.put, List.setIfInBounds_toArray, List.set_cons_zero, List.set_cons_succ]
      refine wpAnyH_ready (rs := [9]) (by kernel_rfl) (by simp) ?_
      refine AllReadyH.cons rfl (fun KK hK => ?_) AllReadyH.nil
      rw [if_pos (by kernel_rfl)]
      refine wp_append_own _ (.tmp 21) (.tmp 29) 32 rfl w.heap.size 70 i0 (.agg #[.int .i64 0, .bool false]) 2 16 Tryz.underlying32 hi hz0 hz1 hz2 rfl (by decide) _ _ _ rfl hO ⟨w5.heap.size, 0, none⟩ 1 1 [.int .i64 (Int.tmod (a + 1) m), .bool q] rfl rfl hcl (one_by9 _ _) (by unfold maxLen; omega) (by omega) (by omega) ?_
      intro v6 w6 hO6 hgr6 hnil6
      have hE := Eff.grown hO hgr6
      replace hR := hR.eff hE
      obtain ⟨b6, c6, rfl⟩ := own_succG hO6
      have hO7 : w6.ownsRow w.heap.size 70 2 (.slice (some ⟨b6, 0, none⟩) 2 c6) 2 (rowG (encB (upd (fun _ => ⟨a, o⟩) 1 ⟨Int.tmod (a + 1) m, q⟩)) 2) := by rw [rowG_updB]; exact hO6
      clear hE hO hO6 hgr6 hnil6 hcl hbA
      refine hK.out _ _ trivial (fun hHeld => ?_)
      clear hK KK
      change wpAnyH _ _ _ _ _ _ _ (Act.put _ (some 30) _) _
      try simp only [Act.put, List.setIfInBounds_toArray, List.set_cons_zero, List.set_cons_succ]
      refine' wpAnyH_take (i := 10) (v := _) rfl (by kernel_rfl) (by kernel_rfl) (by kernel_rfl) (fun _ _ _ h => h) (Or.inl ⟨by kernel_rfl, ?hda8⟩) (by assumption) ?rda8
      case hda8 => intro W hW; go_simp; all_goals with_reducible rfl
      change wpAnyH _ _ _ _ _ _ _ (Act.put _ (some 6) _) _
      simp only [Act.put, List.setIfInBounds_toArray, List.set_cons_zero, List.set_cons_succ]
      refine wpAnyH_done (by kernel_rfl) ?_ _
      have HR : Hid (w6.ownsRow w.heap.size 70 2 (.slice (some ⟨b6, 0, none⟩) 2 c6) 2 (rowG (encB (upd (fun _ => ⟨a, o⟩) 1 ⟨Int.tmod (a + 1) m, q⟩)) 2) ∧ Cr w g ao n cap f w6) := ⟨hO7, hR⟩
      clear hO7 hR
      go_wp2
      go_ret
      exact ⟨b6, c6, 2, rfl, _, by omega, HR.out.1, HR.out.2.cur, HR.out.2.but⟩
  · have HR : Hid ((w2.alloc (.cells #[.int .i64 a, .bool o] 70)).ownsRow w.heap.size 70 2 (.slice (some ⟨w2.heap.size, 0, none⟩) 1 1) 1 (rowG (encB (fun _ => ⟨a, o⟩)) 1) ∧ Cr w g ao n cap f (w2.alloc (.cells #[.int .i64 a, .bool o] 70))) := ⟨hO, hR⟩
    clear hO hR
    go_wp2
    go_ret
    exact ⟨w2.heap.size, 1, 1, rfl, _, by omega, HR.out.1, HR.out.2.cur, HR.out.2.but⟩
end Go.Proofs.YtnpfgamlncfikaaGreatDoor

/-
  One of a row of numbers, as it is drawn.
-/
namespace Go.Proofs.YtnpfgamlncfikaaGreatDoor
open Go.RowKit
set_option maxRecDepth 4000

set_option maxHeartbeats 1000000 in
theorem l1Int_any (g : Nat) (ao : Option Addr) (n cap : Nat) (f : Nat → Int) (b m : Nat) (z : Nat → Int) (w : World) (hn : n ≤ 1048576) (hm : 0 < m) (hm1 : m ≤ 16777216) (hz : ∀ i, i < m → w.cell? ⟨b, i, none⟩ = some (.int .i64 (z i))) (hbg : b ≠ g) (hC : Cur w g ao n cap f) :
    Calls Tryz.prog 98 #[.pointer (some ⟨g, 0, none⟩), .slice (some ⟨b, 0, none⟩) m m] w fun e w' => ∃ j : Nat, j < m ∧ e = .returned (.int .i64 (z j)) ∧ Cur w' g ao n cap f ∧ Only g w w' := by
  go_enter Tryz.func98, Tryz.ntmps98
  go_wp2_with fail
  refine (l1Below_any g ao n cap f m w hn (by omega) (by omega) hC).mono ?_
  rintro e w1 ⟨x, rfl, hx0, hx1, hC1, hO1⟩
  obtain ⟨j, rfl⟩ := Int.eq_ofNat_of_zero_le hx0
  have hj : w1.cell? ⟨b, j, none⟩ = some (.int .i64 (z j)) := by
    rw [World.cell?_of_block (w := w) (hO1.block b hbg)]; exact hz j (by omega)
  go_wp2
  go_ret
  exact ⟨j, by omega, rfl, hC1, hO1⟩
end Go.Proofs.YtnpfgamlncfikaaGreatDoor

