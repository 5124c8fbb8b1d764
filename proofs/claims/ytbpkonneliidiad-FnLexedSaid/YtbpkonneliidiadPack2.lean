/-
  Together: Draw, DrawBut, DrawStrOf, DrawOnce, DrawNew, DrawToks, DrawLexes, Big, Jumps, TokMore
-/
import Derived.Test.YtbpkonneliidiadPack1
import Derived.WalkSpells
import Derived.Scope
import Derived.WalkMore
/-
  The cursor that the draws go by: what each draw comes to, as far as a law leans on it: a number within its bounds, bytes of their own; nothing turns but the cursor.
-/
namespace Go.Proofs.Ytbpkonneliidiad
open Go.RowKit
set_option maxRecDepth 4000

theorem i64_and255 (n : Int) : bits .and .i64 n 255 = n % 256 := by
  have h255 : (BitVec.ofInt 64 255).toNat = 2 ^ 8 - 1 := by decide
  have key : (BitVec.ofInt 64 n &&& BitVec.ofInt 64 255).toNat = (n % ((2 ^ 64 : Nat) : Int)).toNat % 2 ^ 8 := by
    rw [BitVec.toNat_and, BitVec.toNat_ofInt, h255, Nat.and_two_pow_sub_one_eq_mod]
  show IntKind.i64.wrap ((BitVec.ofInt 64 n &&& BitVec.ofInt 64 255).toNat : Nat) = n % 256
  rw [key, IntKind.wrap_i64]
  omega

theorem Only.trans {b : Nat} {w w1 w2 : World} (h : Only b w w1) (k : Only b w1 w2) : Only b w w2 :=
  ⟨k.os.trans h.os, k.tape.trans h.tape, k.output.trans h.output, k.size.trans h.size, fun i hi => (k.block i hi).trans (h.block i hi)⟩

/-- The three cells of a cursor. -/
def curF (ao : Option Addr) (n cap : Nat) (i h : Int) : Nat → Value
  | 0 => .slice ao n cap
  | 1 => .int .i64 i
  | _ => .int .i64 h

structure Cur (w : World) (g : Nat) (ao : Option Addr) (n cap : Nat) (f : Nat → Int) : Prop where
  cells : ∃ i h : Int, w.rowIs g 82 3 (curF ao n cap i h) ∧ 0 ≤ i ∧ i ≤ n
  view : View w ao n cap f
  apart : ∀ a, ao = some a → 0 < n → a.block ≠ g

theorem Cur.lt {w : World} {g : Nat} {ao : Option Addr} {n cap : Nat} {f : Nat → Int} (h : Cur w g ao n cap f) : g < w.heap.size := by
  obtain ⟨i, k, hr, _⟩ := h.cells
  exact hr.lt

theorem Cur.below {w w' : World} {g : Nat} {ao : Option Addr} {n cap : Nat} {f : Nat → Int} (h : Cur w g ao n cap f) (hb : Below w.heap.size w w') : Cur w' g ao n cap f := by
  obtain ⟨i, k, hr, h0, h1⟩ := h.cells
  exact ⟨⟨i, k, hr.of_block (hb.block g hr.lt), h0, h1⟩, h.view.below hb, h.apart⟩

set_option maxHeartbeats 2000000 in
theorem l1Byte_any (g : Nat) (ao : Option Addr) (n cap : Nat) (f : Nat → Int) (w : World) (hn : n ≤ 1048576) (hC : Cur w g ao n cap f) :
    Calls Try.prog 85 #[.pointer (some ⟨g, 0, none⟩)] w fun e w' => ∃ x : Int, e = .returned (.int .i64 x) ∧ 0 ≤ x ∧ x ≤ 255 ∧ Cur w' g ao n cap f ∧ Only g w w' := by
  obtain ⟨i, h, hr, hi0, hi1⟩ := hC.cells
  have c0 : w.cell? ⟨g, 0, none⟩ = some (.slice ao n cap) := hr.cell (by decide)
  have c1 : w.cell? ⟨g, 1, none⟩ = some (.int .i64 i) := hr.cell (by decide)
  have c2 : w.cell? ⟨g, 2, none⟩ = some (.int .i64 h) := hr.cell (by decide)
  have z1 := hr.frozen 1
  have z2 := hr.frozen 2
  have hA : ∀ z : Int, bits .and .i64 z 255 = z % 256 := i64_and255
  by_cases hlt : i < n
  · have hv := hC.view
    obtain ⟨b, off, rfl, hb, hc⟩ := hv.cells (by omega)
    have hne : b ≠ g := hC.apart _ rfl (by omega)
    obtain ⟨k, rfl⟩ := Int.eq_ofNat_of_zero_le hi0
    have hbk := hv.byte k (by omega)
    have hck := hc k (by omega)
    clear hc
    go_enter Try.func85, Try.ntmps85
    go_wp2
    go_region
    all_goals go_wp2
    all_goals go_region
    all_goals go_wp2
    all_goals go_region
    all_goals go_wp2
    go_ret
    have hO : Only g w ((w.setCell ⟨g, 2, none⟩ (.int .i64 (wrap64 (wrap64 (h * 6364136223846793005) + 1442695040888963407)))).setCell ⟨g, 1, none⟩ (.int .i64 ((k : Int) + 1))) := ((Only.refl _ _).setCell _).setCell _
    have hR := ((hr.set 2 (.int .i64 (wrap64 (wrap64 (h * 6364136223846793005) + 1442695040888963407)))).set 1 (.int .i64 ((k : Int) + 1))).congr (g := curF (some ⟨b, off, none⟩) n cap ((k : Int) + 1) (wrap64 (wrap64 (h * 6364136223846793005) + 1442695040888963407)))
      (fun j hj => by match j, hj with | 0, _ => rfl | 1, _ => rfl | 2, _ => rfl)
    exact ⟨_, rfl, by omega, by omega, ⟨⟨_, _, hR, by omega, by omega⟩, (hO.view hv (fun a ha => hC.apart a ha (by omega))).drew.drew.drew, hC.apart⟩, hO.os, hO.tape, hO.output, hO.size, hO.block⟩
  · go_enter Try.func85, Try.ntmps85
    go_wp2
    go_region
    all_goals go_wp2
    all_goals go_region
    all_goals go_wp2
    go_ret
    have hO : Only g w (w.setCell ⟨g, 2, none⟩ (.int .i64 (wrap64 (wrap64 (h * 6364136223846793005) + 1442695040888963407)))) := (Only.refl _ _).setCell _
    have hR := (hr.set 2 (.int .i64 (wrap64 (wrap64 (h * 6364136223846793005) + 1442695040888963407)))).congr (g := curF ao n cap i (wrap64 (wrap64 (h * 6364136223846793005) + 1442695040888963407)))
      (fun j hj => by match j, hj with | 0, _ => rfl | 1, _ => rfl | 2, _ => rfl)
    have hV : View (w.setCell ⟨g, 2, none⟩ (.int .i64 (wrap64 (wrap64 (h * 6364136223846793005) + 1442695040888963407)))) ao n cap f := by
      by_cases h0 : 0 < n
      · exact hO.view hC.view (fun a ha => hC.apart a ha h0)
      · exact ⟨hC.view.le, hC.view.byte, fun h => absurd h h0⟩
    exact ⟨_, rfl, by omega, by omega, ⟨⟨_, _, hR, hi0, hi1⟩, hV.drew.drew, hC.apart⟩, hO.os, hO.tape, hO.output, hO.size, hO.block⟩

set_option maxHeartbeats 1000000 in
theorem l1Below_any (g : Nat) (ao : Option Addr) (n cap : Nat) (f : Nat → Int) (m : Int) (w : World) (hn : n ≤ 1048576) (hm : 0 < m) (hm1 : m ≤ 16777216) (hC : Cur w g ao n cap f) :
    Calls Try.prog 51 #[.pointer (some ⟨g, 0, none⟩), .int .i64 m] w fun e w' => ∃ x : Int, e = .returned (.int .i64 x) ∧ 0 ≤ x ∧ x < m ∧ Cur w' g ao n cap f ∧ Only g w w' := by
  by_cases h256 : m ≤ 256
  · go_enter Try.func51, Try.ntmps51
    go_wp2_with fail
    refine (l1Byte_any g ao n cap f w hn hC).mono ?_
    rintro e w1 ⟨x, rfl, hx0, hx1, hC1, hO1⟩
    go_wp2
    go_ret
    exact ⟨_, rfl, Int.emod_nonneg _ (by omega), Int.emod_lt_of_pos _ hm, hC1, hO1⟩
  · go_enter Try.func51, Try.ntmps51
    go_wp2_with fail
    refine (l1Byte_any g ao n cap f w hn hC).mono ?_
    rintro e w1 ⟨x, rfl, hx0, hx1, hC1, hO1⟩
    go_wp2_with fail
    refine (l1Byte_any g ao n cap f w1 hn hC1).mono ?_
    rintro e w2 ⟨y, rfl, hy0, hy1, hC2, hO2⟩
    go_wp2_with fail
    refine (l1Byte_any g ao n cap f w2 hn hC2).mono ?_
    rintro e w3 ⟨z, rfl, hz0, hz1, hC3, hO3⟩
    go_wp2
    go_ret
    exact ⟨_, rfl, Int.emod_nonneg _ (by omega), Int.emod_lt_of_pos _ hm, hC3, (hO1.trans hO2).trans hO3⟩

set_option maxHeartbeats 1000000 in
theorem l1New_any (ao : Option Addr) (n cap : Nat) (f : Nat → Int) (w : World) (hn : n ≤ 1048576) (hv : View w ao n cap f) :
    Calls Try.prog 20 #[.slice ao n cap] w fun e w' => e = .returned (.pointer (some ⟨w.heap.size, 0, none⟩)) ∧ Cur w' w.heap.size ao n cap f ∧ Below w.heap.size w w' := by
  go_enter Try.func20, Try.ntmps20
  go_wp2
  go_loopg [3, 4] n (fun q s i wr => w = wr ∧ ∃ (k : Nat) (h : Int), k ≤ n ∧ q = n - k ∧ s = .int .i64 h ∧ i = .int .i64 k)
  case atStart => exact ⟨rfl, 0, _, Nat.zero_le _, rfl, rfl, rfl⟩
  case round =>
    obtain ⟨rfl, k, h, hk, rfl, rfl, rfl⟩ := hrel
    by_cases hlt : k < n
    · obtain ⟨b, off, rfl, hb, hc⟩ := hv.cells (by omega)
      have hkz : (k : Int) < (n : Int) := by omega
      have hc1 := hc k hlt
      have hbk := hv.byte k hlt
      by_cases h4 : k < 4000
      · have hz4 : (k : Int) < 4000 := by omega
        clear hc
        go_wp2
        go_roundg (n - (k + 1))
        case measure => omega
        case rel => exact ⟨rfl, k + 1, _, by omega, rfl, rfl, by go_num⟩
      · have hz4 : ¬ (k : Int) < 4000 := by omega
        clear h4
        clear hc
        go_wp2
        go_ret
        refine ⟨rfl, ⟨⟨0, _, World.rowIs_alloc w _ 82 (curF (some ⟨b, off, none⟩) n cap 0 h) (fun j hj => ?_), by omega, by omega⟩, hv.below ((Below.refl _ _).alloc (Nat.le_refl _) _), fun a ha _ => ?_⟩, (Below.refl _ _).alloc (Nat.le_refl _) _⟩
        · match j, hj with | 0, _ => rfl | 1, _ => rfl | 2, _ => rfl
        · cases ha; show b ≠ w.heap.size; omega
    · have hkz : (n : Int) ≤ (k : Int) := by omega
      go_wp2
      go_ret
      refine ⟨rfl, ⟨⟨0, _, World.rowIs_alloc w _ 82 (curF ao n cap 0 h) (fun j hj => ?_), by omega, by omega⟩, hv.below ((Below.refl _ _).alloc (Nat.le_refl _) _), fun a ha h0 => ?_⟩, (Below.refl _ _).alloc (Nat.le_refl _) _⟩
      · match j, hj with | 0, _ => rfl | 1, _ => rfl | 2, _ => rfl
      · obtain ⟨b, off, e, hb, _⟩ := hv.cells h0
        rw [e] at ha; cases ha; show b ≠ w.heap.size; omega
end Go.Proofs.Ytbpkonneliidiad

/-
  What turns but the cursor: how it is carried.
-/
namespace Go.Proofs.Ytbpkonneliidiad
open Go.RowKit
set_option maxRecDepth 4000

theorem Cur.grown {w w' : World} {g : Nat} {ao : Option Addr} {n cap : Nat} {f : Nat → Int} {row : Option Nat} (h : Cur w g ao n cap f) (hg : w.grownBy w' row) (h1 : row ≠ some g) (h2 : ∀ a, ao = some a → 0 < n → row ≠ some a.block) : Cur w' g ao n cap f := by
  obtain ⟨i, k, hr, h0, hi⟩ := h.cells
  refine ⟨⟨i, k, hr.of_block (hg.block g hr.lt (fun e => h1 e.symm)), h0, hi⟩, ⟨h.view.le, h.view.byte, fun hn => ?_⟩, h.apart⟩
  obtain ⟨b', off, e, hlt, hc⟩ := h.view.cells hn
  refine ⟨b', off, e, Nat.lt_of_lt_of_le hlt hg.size, fun j hj => ?_⟩
  rw [World.cell?_of_block (w := w) (hg.block b' hlt (fun e' => h2 _ e hn e'.symm))]
  exact hc j hj
theorem Cur.code {w : World} {g : Nat} {ao : Option Addr} {n cap : Nat} {f : Nat → Int} (h : Cur w g ao n cap f) : ∀ a, ao = some a → 0 < n → a.block < w.heap.size := by
  rintro a rfl hn
  obtain ⟨b, off, e, hlt, _⟩ := h.view.cells hn
  cases e
  exact hlt

end Go.Proofs.Ytbpkonneliidiad

/-
  One of a list of texts, as a law leans on it.
-/
namespace Go.Proofs.Ytbpkonneliidiad
open Go.RowKit
set_option maxRecDepth 4000

set_option maxHeartbeats 1000000 in
theorem l1Str_any (g : Nat) (ao : Option Addr) (n cap : Nat) (f : Nat → Int) (b m : Nat) (z : Nat → ByteArray) (w : World) (hn : n ≤ 1048576) (hm : 0 < m) (hm1 : m ≤ 16777216) (hz : ∀ i, i < m → w.cell? ⟨b, i, none⟩ = some (.string (z i))) (hbg : b ≠ g) (hC : Cur w g ao n cap f) :
    Calls Try.prog 50 #[.pointer (some ⟨g, 0, none⟩), .slice (some ⟨b, 0, none⟩) m m] w fun e w' => ∃ j : Nat, j < m ∧ e = .returned (.string (z j)) ∧ Cur w' g ao n cap f ∧ Only g w w' := by
  go_enter Try.func50, Try.ntmps50
  go_wp2_with fail
  refine (l1Below_any g ao n cap f m w hn (by omega) (by omega) hC).mono ?_
  rintro e w1 ⟨x, rfl, hx0, hx1, hC1, hO1⟩
  obtain ⟨j, rfl⟩ := Int.eq_ofNat_of_zero_le hx0
  have hj : w1.cell? ⟨b, j, none⟩ = some (.string (z j)) := by
    rw [World.cell?_of_block (w := w) (hO1.block b hbg)]; exact hz j (by omega)
  go_wp2
  go_ret
  exact ⟨j, by omega, rfl, hC1, hO1⟩

/-- The cells of a list of texts that is laid anew. -/
theorem newStrs (w : World) (l : List ByteArray) (t : TypeId) : ∀ i, i < l.length → (w.alloc (.cells (l.map Value.string).toArray t)).cell? ⟨w.heap.size, i, none⟩ = some (.string (l.getD i ⟨#[]⟩)) := by
  intro i hi
  rw [World.cell?, show (w.alloc (.cells (l.map Value.string).toArray t)).heap[w.heap.size]? = some (.cells (l.map Value.string).toArray t) from Deep.blk_alloc_new _ _]
  simp [hi]

/-- One of a list of texts that is laid anew. -/
theorem l1Str_mem (g : Nat) (ao : Option Addr) (n cap : Nat) (f : Nat → Int) (l : List ByteArray) (A : Nat) (w : World) (hA : A = w.heap.size) (hn : n ≤ 1048576) (h0 : 0 < l.length) (h1 : l.length ≤ 1000) (hC : Cur w g ao n cap f) :
    Calls Try.prog 50 #[.pointer (some ⟨g, 0, none⟩), .slice (some ⟨A, 0, none⟩) l.length l.length] (w.alloc (.cells (l.map Value.string).toArray 9)) fun e w' => ∃ z : ByteArray, e = .returned (.string z) ∧ z ∈ l ∧ Cur w' g ao n cap f ∧ But g w w' := by
  subst hA
  have hb : Below w.heap.size w (w.alloc (.cells (l.map Value.string).toArray 9)) := (Below.refl _ _).alloc (Nat.le_refl _) _
  have hg := hC.lt
  refine (l1Str_any g ao n cap f w.heap.size l.length (fun i => l.getD i ⟨#[]⟩) _ hn h0 (by omega) (newStrs w l 9) (by omega) (hC.below hb)).mono ?_
  rintro e w' ⟨j, hj, rfl, hC2, hO2⟩
  exact ⟨_, rfl, by simp [hj], hC2, (But.ofBelow hb).trans (But.ofOnly hO2)⟩
end Go.Proofs.Ytbpkonneliidiad

/-
  A draw of yes or no.
-/
namespace Go.Proofs.Ytbpkonneliidiad
open Go.RowKit
set_option maxRecDepth 4000

set_option maxHeartbeats 1000000 in
theorem l1Once_any (g : Nat) (ao : Option Addr) (n cap : Nat) (f : Nat → Int) (m : Int) (w : World) (hn : n ≤ 1048576) (hm : 0 < m) (hm1 : m ≤ 16777216) (hC : Cur w g ao n cap f) :
    Calls Try.prog 24 #[.pointer (some ⟨g, 0, none⟩), .int .i64 m] w fun e w' => ∃ b : Bool, e = .returned (.bool b) ∧ Cur w' g ao n cap f ∧ Only g w w' := by
  go_enter Try.func24, Try.ntmps24
  go_wp2_with fail
  refine (l1Below_any g ao n cap f m w hn hm hm1 hC).mono ?_
  rintro e w1 ⟨x, rfl, hx0, hx1, hC1, hO1⟩
  go_wp2
  go_ret
  exact ⟨_, rfl, hC1, hO1⟩
end Go.Proofs.Ytbpkonneliidiad

/-
  A new cursor, at an address that is named.
-/
namespace Go.Proofs.Ytbpkonneliidiad
open Go.RowKit
set_option maxRecDepth 4000

theorem l1New_at (A : Nat) (ao : Option Addr) (n cap : Nat) (f : Nat → Int) (w : World) (hA : A = w.heap.size) (hn : n ≤ 1048576) (hv : View w ao n cap f) :
    Calls Try.prog 20 #[.slice ao n cap] w fun e w' => e = .returned (.pointer (some ⟨A, 0, none⟩)) ∧ Cur w' A ao n cap f ∧ Below w.heap.size w w' := by
  subst hA
  exact l1New_any ao n cap f w hn hv
end Go.Proofs.Ytbpkonneliidiad

/-
  The draws of tokens, as far as a law leans on them.
-/
namespace Go.Proofs.Ytbpkonneliidiad
open Go.RowKit
set_option maxRecDepth 4000

theorem scT_other (W : World) (B i j : Nat) (v : Value) (h : i ≠ j) : (W.setCell ⟨B, i, none⟩ v).cell? ⟨B, j, none⟩ = W.cell? ⟨B, j, none⟩ :=
  World.cell?_setCell_other W _ _ v (by intro e; exact h (congrArg Addr.off e))
theorem scT_same {W : World} {B i : Nat} {v u : Value} (h : W.cell? ⟨B, i, none⟩ = some u) : (W.setCell ⟨B, i, none⟩ v).cell? ⟨B, i, none⟩ = some v := World.cell?_setCell_same W _ v h
/-- A token that is put into the result's variable. -/
theorem stored2 {W : World} {B : Nat} {x0 x1 : Value} (a b : Value) (c0 : W.cell? ⟨B, 0, none⟩ = some x0) (c1 : W.cell? ⟨B, 1, none⟩ = some x1) :
    ((W.setCell ⟨B, 0, none⟩ a).setCell ⟨B, 1, none⟩ b).cell? ⟨B, 0, none⟩ = some a ∧ ((W.setCell ⟨B, 0, none⟩ a).setCell ⟨B, 1, none⟩ b).cell? ⟨B, 1, none⟩ = some b := by
  refine ⟨?_, ?_⟩
  · rw [scT_other _ _ 1 0 _ (by decide), scT_same c0]
  · rw [scT_same (u := x1) (by rw [scT_other _ _ 0 1 _ (by decide)]; exact c1)]
theorem But.setNewT {g B i : Nat} {w w' : World} (h : But g w w') (hB : w.heap.size ≤ B) (u : Value) : But g w (w'.setCell ⟨B, i, none⟩ u) :=
  ⟨h.os, h.tape, h.output, by simpa using h.size, fun k hk hg => by rw [Below.heap_setCell _ _ _ _ (by show k ≠ B; omega)]; exact h.block k hk hg⟩
theorem Cur.setNewT {w : World} {g : Nat} {ao : Option Addr} {n cap : Nat} {f : Nat → Int} (h : Cur w g ao n cap f) {B i : Nat} (u : Value) (hg : g ≠ B) (hc : ∀ a, ao = some a → 0 < n → a.block ≠ B) : Cur (w.setCell ⟨B, i, none⟩ u) g ao n cap f := by
  obtain ⟨j, k, hr, h0, hi⟩ := h.cells
  refine ⟨⟨j, k, hr.of_block (Below.heap_setCell _ _ _ _ hg), h0, hi⟩, ⟨h.view.le, h.view.byte, fun hn => ?_⟩, h.apart⟩
  obtain ⟨b', off, e, hlt, hcc⟩ := h.view.cells hn
  refine ⟨b', off, e, by simpa using hlt, fun j hj => ?_⟩
  rw [World.cell?_of_block (w := w) (Below.heap_setCell _ _ _ _ (hc _ e hn))]
  exact hcc j hj

theorem tokOk_few {k : Int} {s : ByteArray} (h : tokOk k s = true) : s.size ≤ 8 := by
  unfold tokOk at h
  by_cases c1 : k = 1
  · rw [if_pos c1] at h
    unfold nameOk at h
    simp only [decide_eq_true_eq] at h
    exact h.2.1
  · rw [if_neg c1] at h
    by_cases c2 : k = 2
    · rw [if_pos c2] at h
      unfold markOk at h
      simp only [decide_eq_true_eq] at h
      omega
    · rw [if_neg c2] at h; cases h
def marksL : List ByteArray := [⟨#[123]⟩, ⟨#[125]⟩, ⟨#[44]⟩, ⟨#[59]⟩]
def namesL : List ByteArray := [⟨#[97]⟩, ⟨#[116, 97, 98, 108, 101]⟩, ⟨#[120, 49]⟩, ⟨#[101, 105, 103, 104, 116, 108, 101, 116]⟩, ⟨#[110, 117, 108, 108]⟩]
theorem marksL_ok : ∀ z ∈ marksL, tokOk 2 z = true := by
  intro z hz
  simp only [marksL, List.mem_cons, List.not_mem_nil, or_false] at hz
  rcases hz with rfl | rfl | rfl | rfl <;> decide
theorem namesL_ok : ∀ z ∈ namesL, tokOk 1 z = true := by
  intro z hz
  simp only [namesL, List.mem_cons, List.not_mem_nil, or_false] at hz
  rcases hz with rfl | rfl | rfl | rfl | rfl <;> decide

set_option maxHeartbeats 2000000 in
theorem l8Token_any (g : Nat) (ao : Option Addr) (n cap : Nat) (f : Nat → Int) (w : World) (hn : n ≤ 1048576) (hC : Cur w g ao n cap f) :
    Calls Try.prog 54 #[.pointer (some ⟨g, 0, none⟩)] w fun e w' => ∃ (k : Int) (s : ByteArray), e = .returned (.agg #[.int .i64 k, .string s]) ∧ tokOk k s = true ∧ Cur w' g ao n cap f ∧ But g w w' := by
  have hgl := hC.lt
  have HC : Hid (∀ a, ao = some a → 0 < n → a.block < w.heap.size) := hC.code
  have hb0 : Below w.heap.size w (w.alloc (.cells #[.int .i64 0, .string ⟨#[]⟩] 40)) := (Below.refl _ _).alloc (Nat.le_refl _) _
  have hR0 := TBox.new w 0 ⟨#[]⟩
  have hC0 := hC.below hb0
  have hB0 : But g w (w.alloc (.cells #[.int .i64 0, .string ⟨#[]⟩] 40)) := But.ofBelow hb0
  clear hb0 hC
  go_enter Try.func54, Try.ntmps54
  go_wp2_with fail
  refine (l1Once_any g ao n cap f 2 _ hn (by omega) (by omega) hC0).mono ?_
  rintro e w1 ⟨o, rfl, hC1, hO1⟩
  have hB1 := hB0.trans (But.ofOnly hO1)
  have hR1 := hR0.but (But.ofOnly hO1) (by omega)
  clear hC0 hO1 hR0 hB0
  cases o with
  | true =>
    have hS := l1Str_mem g ao n cap f marksL w1.heap.size w1 rfl hn (by decide) (by decide) hC1
    have HM : Hid (∀ z ∈ marksL, tokOk 2 z = true) := marksL_ok
    unfold marksL at hS
    go_wp2_with fail
    refine hS.mono ?_
    rintro e w2 ⟨z, rfl, hz, hC2, hB2⟩
    have HZ : Hid (tokOk 2 z = true) := HM.out z hz
    have hR2 := hR1.but hB2 (by omega)
    have hB3 := hB1.trans hB2
    obtain ⟨c0, c1⟩ := hR2.cells
    obtain ⟨f0, f1⟩ := hR2.frozen
    have hgs := stored2 (.int .i64 2) (.string z) c0 c1
    have HF : Hid (Cur ((w2.setCell ⟨w.heap.size, 0, none⟩ (.int .i64 2)).setCell ⟨w.heap.size, 1, none⟩ (.string z)) g ao n cap f ∧ But g w ((w2.setCell ⟨w.heap.size, 0, none⟩ (.int .i64 2)).setCell ⟨w.heap.size, 1, none⟩ (.string z))) :=
      ⟨(hC2.setNewT _ (by omega) (fun a ha h0 => by have := HC.out a ha h0; omega)).setNewT _ (by omega) (fun a ha h0 => by have := HC.out a ha h0; omega), (hB3.setNewT (Nat.le_refl _) _).setNewT (Nat.le_refl _) _⟩
    clear hS hz HM hC2 hB2 hB3 hR1 hR2 hC1 hB1
    go_wp2
    exact bodyPost_ret (v := .agg #[_, _]) (by simp [results, Try.results54, go_sem, hgs]) rfl ⟨2, z, rfl, HZ.out, HF.out.1, HF.out.2⟩
  | false =>
    have hS := l1Str_mem g ao n cap f namesL w1.heap.size w1 rfl hn (by decide) (by decide) hC1
    have HM : Hid (∀ z ∈ namesL, tokOk 1 z = true) := namesL_ok
    unfold namesL at hS
    go_wp2_with fail
    refine hS.mono ?_
    rintro e w2 ⟨z, rfl, hz, hC2, hB2⟩
    have HZ : Hid (tokOk 1 z = true) := HM.out z hz
    have hR2 := hR1.but hB2 (by omega)
    have hB3 := hB1.trans hB2
    obtain ⟨c0, c1⟩ := hR2.cells
    obtain ⟨f0, f1⟩ := hR2.frozen
    have hgs := stored2 (.int .i64 1) (.string z) c0 c1
    have HF : Hid (Cur ((w2.setCell ⟨w.heap.size, 0, none⟩ (.int .i64 1)).setCell ⟨w.heap.size, 1, none⟩ (.string z)) g ao n cap f ∧ But g w ((w2.setCell ⟨w.heap.size, 0, none⟩ (.int .i64 1)).setCell ⟨w.heap.size, 1, none⟩ (.string z))) :=
      ⟨(hC2.setNewT _ (by omega) (fun a ha h0 => by have := HC.out a ha h0; omega)).setNewT _ (by omega) (fun a ha h0 => by have := HC.out a ha h0; omega), (hB3.setNewT (Nat.le_refl _) _).setNewT (Nat.le_refl _) _⟩
    clear hS hz HM hC2 hB2 hB3 hR1 hR2 hC1 hB1
    go_wp2
    exact bodyPost_ret (v := .agg #[_, _]) (by simp [results, Try.results54, go_sem, hgs]) rfl ⟨1, z, rfl, HZ.out, HF.out.1, HF.out.2⟩

/-- Right tokens that were drawn, in a row of the call's own. -/
structure DrewToks (w : World) (g : Nat) (ao : Option Addr) (n cap : Nat) (f : Nat → Int) (v : Value) (l : List (Int × ByteArray)) (w' : World) : Prop where
  ok : ∀ i, i < l.length → tokOk (tk l i) (ts l i) = true
  some : v ≠ .slice none 0 0
  own : w'.ownsRow w.heap.size 40 2 v l.length (rowL l)
  cur : Cur w' g ao n cap f
  but : But g w w'

set_option maxHeartbeats 4000000 in
theorem l8Tokens_any (g : Nat) (ao : Option Addr) (n cap : Nat) (f : Nat → Int) (most : Nat) (w : World) (hn : n ≤ 1048576) (hm : 0 < most) (hm1 : most ≤ 100) (hC : Cur w g ao n cap f) :
    Calls Try.prog 40 #[.pointer (some ⟨g, 0, none⟩), .int .i64 most] w fun e w' => ∃ v l, e = .returned v ∧ l.length < most ∧ DrewToks w g ao n cap f v l w' := by
  obtain ⟨i0, hi, hz0, hz1, hz2⟩ := infoTok2
  have hgl := hC.lt
  have HC : Hid (∀ a, ao = some a → 0 < n → a.block < w.heap.size) := hC.code
  have hb0 : Below w.heap.size w (w.alloc (.cells #[] 40)) := (Below.refl _ _).alloc (Nat.le_refl _) _
  have hO0 := World.ownsRow_lit (base := w.heap.size) (e := 40) (size := 2) w #[] 0 (Nat.le_refl _) (Nat.zero_le _) rfl
  have hC0 := hC.below hb0
  have hB0 : But g w (w.alloc (.cells #[] 40)) := But.ofBelow hb0
  clear hC hb0
  go_enter Try.func40, Try.ntmps40
  go_wp2_with fail
  refine (l1Below_any g ao n cap f most _ hn (by omega) (by omega) hC0).mono ?_
  rintro e w1 ⟨x, rfl, hx0, hx1, hC1, hO1⟩
  obtain ⟨X, rfl⟩ := Int.eq_ofNat_of_zero_le hx0
  have hown1 := hO0.kept hO1.grown (Or.inr (fun e => by have := (hO0.lt g e).1; omega))
  have hB1 := hB0.trans (But.ofOnly hO1)
  clear hO0 hC0 hO1 hB0
  go_wp2
  go_loopg [5, 6] X (fun q v i wr => ∃ (k : Nat) (l : List (Int × ByteArray)), k + l.length = X ∧ k = q ∧ i = .int .i64 k ∧ DrewToks w g ao n cap f v l wr)
  case atStart => exact ⟨X, [], rfl, rfl, rfl, ⟨fun i hi => absurd hi (Nat.not_lt_zero _), by simp, hown1, hC1, hB1⟩⟩
  case round =>
    clear hown1 hC1 hB1
    obtain ⟨k, l, hkl, hq, rfl, hD⟩ := hrel
    subst hq
    by_cases hk : 0 < k
    · have hkz : (0 : Int) < (k : Int) := by omega
      have HD : Hid (DrewToks w g ao n cap f u5 l wr) := hD
      have hCr := hD.cur
      have hown := hD.own
      clear hD
      go_wp2_with fail
      refine (l8Token_any g ao n cap f wr hn hCr).mono ?_
      rintro e w4 ⟨kd, s, rfl, hok, hC4, hB4'⟩
      have hown4 := hown.kept hB4'.grown (Or.inr (fun e => by have := (hown.lt g e).1; omega))
      have hB4 : But g w w4 := HD.out.but.trans hB4'
      have hs4 : w.heap.size ≤ w4.heap.size := hB4.size
      have hcl := cells_tok w4 kd s
      have HOK : Hid (tokOk kd s = true) := hok
      clear hCr hok
      go_wp2_with (at_builtin; refine wpList_append_own _ rfl (.tmp 15) (.tmp 18) 33 rfl w.heap.size 40 i0 (.agg #[.int .i64 0, .string ⟨#[]⟩]) 2 24 Try.underlying33 hi hz0 hz1 hz2 rfl (by decide) u5 _ _ rfl (own_below2 hown4 ((Below.refl _ _).alloc (Nat.le_refl _) _)) ⟨w4.heap.size, 0, none⟩ 1 1 [.int .i64 kd, .string s] rfl rfl hcl (one_tok _ _) (by unfold maxLen; omega) (by omega) (by simp; omega) ?_; intro v5 w5 hown5 hgr5 hnil5)
      have hb5 : Below w4.heap.size w4 (w4.alloc (.cells #[.int .i64 kd, .string s] 40)) := (Below.refl _ _).alloc (Nat.le_refl _) _
      have hB5 : But g w w5 := by
        refine ⟨hgr5.os.trans hB4.os, hgr5.tape.trans hB4.tape, hgr5.output.trans hB4.output, Nat.le_trans hs4 (Nat.le_trans (by simp) hgr5.size), fun j hj hg => ?_⟩
        rw [hgr5.block j (by simp; omega) (fun e => by have := (hown.lt j e.symm).1; omega), Below.heap_alloc _ _ _ (by omega)]
        exact hB4.block j hj hg
      have hC5 : Cur w5 g ao n cap f := (hC4.below hb5).grown hgr5 (fun e => by have := (hown.lt g e).1; omega) (fun a ha h0 e => by have := (hown.lt _ e).1; have := HC.out a ha h0; omega)
      have HD5 : Hid (DrewToks w g ao n cap f v5 (l ++ [(kd, s)]) w5) := by
        refine ⟨fun i hi => ?_, fun e => HD.out.some (hnil5.1 e).1, ?_, hC5, hB5⟩
        · rw [List.length_append] at hi
          by_cases e : i < l.length
          · rw [(tk_left e).1, (tk_left e).2]; exact HD.out.ok i e
          · obtain rfl : i = l.length := by simp at hi; omega
            unfold tk ts
            have e2 : (l ++ [(kd, s)]).getD l.length (0, ⟨#[]⟩) = (kd, s) := by simp [List.getD]
            rw [e2]; exact HOK.out
        · rw [rowL_snoc, List.length_append]; exact hown5
      have HLn : Hid (k - 1 + (l ++ [(kd, s)]).length = X) := by show _ = _; rw [List.length_append]; simp; omega
      have hk1 : ((k - 1 : Nat) : Int) = (k : Int) - 1 := by omega
      clear hown hown4 hown5 hgr5 hnil5 hcl hC5 hB5 hb5 hB4 hC4 HD hB4'
      go_wp2
      go_roundg (k - 1)
      case measure => omega
      case rel => exact ⟨k - 1, l ++ [(kd, s)], HLn.out, rfl, by rw [hk1], HD5.out⟩
    · have hkz : ¬ (0 : Int) < (k : Int) := by omega
      have HD : Hid (DrewToks w g ao n cap f u5 l wr) := hD
      have HLn : Hid (l.length < most) := by show _ < _; omega
      clear hD
      go_wp2
      go_ret
      exact ⟨u5, rfl, l, HLn.out, HD.out⟩

/-- What is drawn for JoinTokens. -/
theorem drawJoin_any (ao : Option Addr) (n cap : Nat) (f : Nat → Int) (w : World) (hn : n ≤ 1048576) (hv : View w ao n cap f) :
    Calls Try.prog 12 #[.slice ao n cap] w fun e w' => ∃ a l c, e = .returned (.slice a l.length c) ∧ l.length < 12 ∧ (∀ i, i < l.length → tokOk (tk l i) (ts l i) = true) ∧ TView w' a l.length c (tk l) (ts l) ∧ Below w.heap.size w w' := by
  obtain ⟨A, hA⟩ : ∃ A, A = w.heap.size := ⟨_, rfl⟩
  have HA : Hid (A = w.heap.size) := hA
  go_enter Try.func12, Try.ntmps12
  go_wp2_with fail
  refine (l1New_at A ao n cap f w hA hn hv).mono ?_
  rintro e w1 ⟨rfl, hC1, hb1⟩
  have hAl := hC1.lt
  clear hA hv
  go_wp2_with fail
  refine (l8Tokens_any A ao n cap f 12 w1 hn (by omega) (by omega) hC1).mono ?_
  rintro e w2 ⟨v, l, rfl, hl, hD⟩
  have hown := hD.own
  rw [rowL_K] at hown
  obtain ⟨a, c, rfl, hT, -⟩ := tview_of_own hown
  have HF : Hid (l.length < 12 ∧ (∀ i, i < l.length → tokOk (tk l i) (ts l i) = true) ∧ TView w2 a l.length c (tk l) (ts l) ∧ Below w.heap.size w w2) :=
    ⟨hl, hD.ok, hT, hb1.trans (hD.but.below (by have := HA.out; omega) hb1.size)⟩
  clear hD hT hown hC1 hb1 hl
  go_wp2
  go_ret
  exact ⟨a, l, c, rfl, HF.out.1, HF.out.2.1, HF.out.2.2.1, HF.out.2.2.2⟩
end Go.Proofs.Ytbpkonneliidiad

/-
  The draws of texts for Lex and of tokens for TokenOk, as far as a law leans on them.
-/
namespace Go.Proofs.Ytbpkonneliidiad
open Go.RowKit
set_option maxRecDepth 4000

def tailsL : List ByteArray := [⟨#[32, 49, 97]⟩, ⟨#[32, 65]⟩, ⟨#[255]⟩, ⟨#[32, 110, 105, 110, 101, 108, 101, 116, 116, 101]⟩, ⟨#[97, 123, 98, 125]⟩, ⟨#[9, 13, 10]⟩, ⟨#[40]⟩, ⟨#[97, 49, 32, 44, 59]⟩]
theorem tailsL_few : ∀ z ∈ tailsL, z.size ≤ 10 := by
  intro z hz
  simp only [tailsL, List.mem_cons, List.not_mem_nil, or_false] at hz
  rcases hz with rfl | rfl | rfl | rfl | rfl | rfl | rfl | rfl <;> decide

set_option maxHeartbeats 4000000 in
theorem drawLex_any (ao : Option Addr) (n cap : Nat) (f : Nat → Int) (w : World) (hn : n ≤ 1048576) (hv : View w ao n cap f) :
    Calls Try.prog 15 #[.slice ao n cap] w fun e w' => ∃ s : ByteArray, e = .returned (.string s) ∧ s.size ≤ 1000 ∧ Below w.heap.size w w' := by
  obtain ⟨A, hA⟩ : ∃ A, A = w.heap.size := ⟨_, rfl⟩
  have HA : Hid (A = w.heap.size) := hA
  go_enter Try.func15, Try.ntmps15
  go_wp2_with fail
  refine (l1New_at A ao n cap f w hA hn hv).mono ?_
  rintro e w1 ⟨rfl, hC1, hb1⟩
  have hAl := hC1.lt
  clear hA hv
  go_wp2_with fail
  refine (l8Tokens_any A ao n cap f 8 w1 hn (by omega) (by omega) hC1).mono ?_
  rintro e w2 ⟨v, l, rfl, hl, hD⟩
  have hown := hD.own
  rw [rowL_K] at hown
  obtain ⟨a, c, rfl, hT, -⟩ := tview_of_own hown
  have hfew : ∀ i, i < l.length → (ts l i).size ≤ 8 := fun i hi => tokOk_few (hD.ok i hi)
  have hJ := specJoin_any a l.length c (tk l) (ts l) w2 hT (by omega) (fun i hi => by have := hfew i hi; omega)
  have hjs := joinT_size (B := 8) hfew l.length (Nat.le_refl _)
  have hC2 := hD.cur
  have hB2 : Below w.heap.size w w2 := hb1.trans (hD.but.below (by have := HA.out; omega) hb1.size)
  obtain ⟨s, hs⟩ : ∃ s, Hid (joinT (ts l) l.length = s) := ⟨_, rfl⟩
  rw [hs.out] at hJ hjs
  have hs63 : s.size ≤ 63 := by omega
  clear hD hown hT hfew hC1 hb1 hjs
  go_wp2_with fail
  refine hJ.mono ?_
  rintro e _ ⟨rfl, rfl⟩
  clear hJ
  go_wp2_with fail
  refine (l1Once_any A ao n cap f 3 w2 hn (by omega) (by omega) hC2).mono ?_
  rintro e w3 ⟨o, rfl, hC3, hO3⟩
  have hB3 : Below w.heap.size w w3 := hB2.trans (hO3.below (by have := HA.out; omega))
  clear hC2 hO3 hB2
  cases o with
  | true =>
    have hS := l1Str_mem A ao n cap f tailsL w3.heap.size w3 rfl hn (by decide) (by decide) hC3
    have HM : Hid (∀ z ∈ tailsL, z.size ≤ 10) := tailsL_few
    unfold tailsL at hS
    go_wp2_with fail
    refine hS.mono ?_
    rintro e w4 ⟨z, rfl, hz, hC4, hB4'⟩
    have hz10 := HM.out z hz
    have hB4 : Below w.heap.size w w4 := hB3.trans (hB4'.below (by have := HA.out; omega) hB3.size)
    have hs2 : ¬ (s.size + z.size > 9223372036854775807) := by omega
    obtain ⟨s2, hss⟩ : ∃ s2, Hid (s ++ z = s2) := ⟨_, rfl⟩
    have hs80 : s2.size ≤ 80 := by rw [← hss.out, ByteArray.size_append]; omega
    clear hS hz HM hC3 hB3 hB4'
    go_wp2_with (rw [hss.out])
    refine (l1Once_any A ao n cap f 200 w4 hn (by omega) (by omega) hC4).mono ?_
    rintro e w5 ⟨o, rfl, hC5, hO5⟩
    have hB5 : Below w.heap.size w w5 := hB4.trans (hO5.below (by have := HA.out; omega))
    clear hC4 hO5 hB4 hs2
    cases o with
    | false =>
      go_wp2
      go_ret
      exact ⟨s2, rfl, by omega, hB5⟩
    | true =>
      go_wp2
      go_loopg [4, 5] 502 (fun q sv i wr => ∃ (k : Nat) (r : ByteArray), k ≤ 501 ∧ q = 502 - k ∧ sv = .string r ∧ r.size = k ∧ i = .int .i64 k ∧ Cur wr A ao n cap f ∧ Below w.heap.size w wr)
      case atStart => exact ⟨0, _, by omega, rfl, rfl, rfl, rfl, hC5, hB5⟩
      case round =>
        clear hC5 hB5
        obtain ⟨k, r, hk, rfl, rfl, hrk, rfl, hCr, hBr⟩ := hrel
        go_wp2_with fail
        refine (l1Below_any A ao n cap f 2 wr hn (by omega) (by omega) hCr).mono ?_
        rintro e w6 ⟨x, rfl, hx0, hx1, hC6, hO6⟩
        have hB6 : Below w.heap.size w w6 := hBr.trans (hO6.below (by have := HA.out; omega))
        clear hCr hBr hO6
        by_cases hlt : (k : Int) < 500 + x
        · have hs2 : ¬ (r.size + 1 > 9223372036854775807) := by omega
          have HZ : Hid ((r ++ (⟨#[59]⟩ : ByteArray)).size = k + 1) := by show _ = _; rw [ByteArray.size_append, hrk]; rfl
          go_wp2
          go_roundg (502 - (k + 1))
          case measure => omega
          case rel => exact ⟨k + 1, _, by omega, rfl, rfl, HZ.out, by go_num, hC6, hB6⟩
        · go_wp2
          go_ret
          exact ⟨r, rfl, by omega, hB6⟩
  | false =>
    go_wp2_with fail
    refine (l1Once_any A ao n cap f 200 w3 hn (by omega) (by omega) hC3).mono ?_
    rintro e w5 ⟨o, rfl, hC5, hO5⟩
    have hB5 : Below w.heap.size w w5 := hB3.trans (hO5.below (by have := HA.out; omega))
    clear hC3 hO5 hB3
    cases o with
    | false =>
      go_wp2
      go_ret
      exact ⟨s, rfl, by omega, hB5⟩
    | true =>
      go_wp2
      go_loopg [4, 5] 502 (fun q sv i wr => ∃ (k : Nat) (r : ByteArray), k ≤ 501 ∧ q = 502 - k ∧ sv = .string r ∧ r.size = k ∧ i = .int .i64 k ∧ Cur wr A ao n cap f ∧ Below w.heap.size w wr)
      case atStart => exact ⟨0, _, by omega, rfl, rfl, rfl, rfl, hC5, hB5⟩
      case round =>
        clear hC5 hB5
        obtain ⟨k, r, hk, rfl, rfl, hrk, rfl, hCr, hBr⟩ := hrel
        go_wp2_with fail
        refine (l1Below_any A ao n cap f 2 wr hn (by omega) (by omega) hCr).mono ?_
        rintro e w6 ⟨x, rfl, hx0, hx1, hC6, hO6⟩
        have hB6 : Below w.heap.size w w6 := hBr.trans (hO6.below (by have := HA.out; omega))
        clear hCr hBr hO6
        by_cases hlt : (k : Int) < 500 + x
        · have hs2 : ¬ (r.size + 1 > 9223372036854775807) := by omega
          have HZ : Hid ((r ++ (⟨#[59]⟩ : ByteArray)).size = k + 1) := by show _ = _; rw [ByteArray.size_append, hrk]; rfl
          go_wp2
          go_roundg (502 - (k + 1))
          case measure => omega
          case rel => exact ⟨k + 1, _, by omega, rfl, rfl, HZ.out, by go_num, hC6, hB6⟩
        · go_wp2
          go_ret
          exact ⟨r, rfl, by omega, hB6⟩

def badsL : List ByteArray := [⟨#[]⟩, ⟨#[65]⟩, ⟨#[49, 97]⟩, ⟨#[40]⟩, ⟨#[110, 105, 110, 101, 108, 101, 116, 116, 101]⟩]
theorem badsL_few : ∀ z ∈ badsL, z.size ≤ 10 := by
  intro z hz
  simp only [badsL, List.mem_cons, List.not_mem_nil, or_false] at hz
  rcases hz with rfl | rfl | rfl | rfl | rfl <;> decide

set_option maxHeartbeats 4000000 in
theorem drawTokenOk_any (ao : Option Addr) (n cap : Nat) (f : Nat → Int) (w : World) (hn : n ≤ 1048576) (hv : View w ao n cap f) :
    Calls Try.prog 17 #[.slice ao n cap] w fun e w' => ∃ (k : Int) (s : ByteArray), e = .returned (.agg #[.int .i64 k, .string s]) ∧ s.size ≤ 10 ∧ Below w.heap.size w w' := by
  have hb0 : Below w.heap.size w (w.alloc (.cells #[.int .i64 0, .string ⟨#[]⟩] 40)) := (Below.refl _ _).alloc (Nat.le_refl _) _
  have hR0 := TBox.new w 0 ⟨#[]⟩
  have hv0 := hv.below hb0
  obtain ⟨R, hR⟩ : ∃ R, Hid (w.heap.size = R) := ⟨_, rfl⟩
  obtain ⟨W0, hW0⟩ : ∃ W0, Hid (w.alloc (.cells #[.int .i64 0, .string ⟨#[]⟩] 40) = W0) := ⟨_, rfl⟩
  rw [hW0.out] at hb0 hR0 hv0
  rw [hR.out] at hR0
  have hRl := hR0.lt
  obtain ⟨A, hA⟩ : ∃ A, A = W0.heap.size := ⟨_, rfl⟩
  have hRA : R < A := by rw [hA]; exact hRl
  have HwR : Hid (w.heap.size ≤ R) := by rw [← hR.out]; exact Nat.le_refl _
  clear hv
  go_enter Try.func17, Try.ntmps17
  go_wp2_with (rw [hW0.out, hR.out])
  refine (l1New_at A ao n cap f W0 hA hn hv0).mono ?_
  rintro e w1 ⟨rfl, hC1, hb1⟩
  have hR1 := hR0.below hb1
  have hB1 : Below w.heap.size w w1 := hb0.trans (hb1.mono hb0.size)
  have hwA : w.heap.size ≤ A := by have := HwR.out; omega
  have hAl := hC1.lt
  clear hv0 hR0 hb0 hb1 hRl hA
  go_wp2_with fail
  refine (l8Token_any A ao n cap f w1 hn hC1).mono ?_
  rintro e w2 ⟨k, s, rfl, hok, hC2, hB2'⟩
  have hs8 := tokOk_few hok
  have hR2 := hR1.but hB2' (by omega)
  have hB2 : Below w.heap.size w w2 := hB1.trans (hB2'.below hwA hB1.size)
  have hT2 := TBox.new w2 k s
  have hb3 : Below w2.heap.size w2 (w2.alloc (.cells #[.int .i64 k, .string s] 40)) := (Below.refl _ _).alloc (Nat.le_refl _) _
  have hR3 := hR2.below hb3
  have hC3 := hC2.below hb3
  have hB3 := hB2.trans (hb3.mono hB2.size)
  have hA2 := hC2.lt
  obtain ⟨T, hT⟩ : ∃ T, Hid (w2.heap.size = T) := ⟨_, rfl⟩
  obtain ⟨W3, hW3⟩ : ∃ W3, Hid (w2.alloc (.cells #[.int .i64 k, .string s] 40) = W3) := ⟨_, rfl⟩
  rw [hW3.out] at hT2 hR3 hC3 hB3
  rw [hT.out] at hT2 hA2
  clear hok hC1 hC2 hB2' hR1 hR2 hB1 hB2 hb3
  go_wp2_with (rw [hW3.out, hT.out])
  refine (l1Below_any A ao n cap f 4 W3 hn (by omega) (by omega) hC3).mono ?_
  rintro e w4 ⟨x, rfl, hx0, hx1, hC4, hO4⟩
  have hR4 := hR3.but (But.ofOnly hO4) (by omega)
  have hT4 := hT2.but (But.ofOnly hO4) (by omega)
  have hB4 : Below w.heap.size w w4 := hB3.trans (hO4.below hwA)
  clear hR3 hT2 hB3 hC3 hO4
  by_cases h0 : x = 0
  · subst h0
    go_wp2_with fail
    refine (l1Below_any A ao n cap f 4 w4 hn (by omega) (by omega) hC4).mono ?_
    rintro e w5 ⟨y, rfl, hy0, hy1, hC5, hO5⟩
    have hR5 := hR4.but (But.ofOnly hO5) (by omega)
    have hT5 := hT4.but (But.ofOnly hO5) (by omega)
    have hB5 : Below w.heap.size w w5 := hB4.trans (hO5.below hwA)
    clear hR4 hT4 hB4 hC4 hO5 hC5
    obtain ⟨z0, z1⟩ := hT5.cells
    obtain ⟨f0, f1⟩ := hT5.frozen
    have hR6 : TBox (w5.setCell ⟨T, 0, none⟩ (.int .i64 y)) R 0 ⟨#[]⟩ := hR5.other (by omega) _
    have hT6 := hT5.set0 y
    have hB6 : Below w.heap.size w (w5.setCell ⟨T, 0, none⟩ (.int .i64 y)) := hB5.setCell (p := ⟨T, 0, none⟩) (by show _ ≤ T; omega) _
    obtain ⟨W6, hW6⟩ : ∃ W6, Hid (w5.setCell ⟨T, 0, none⟩ (.int .i64 y) = W6) := ⟨_, rfl⟩
    rw [hW6.out] at hR6 hT6 hB6
    obtain ⟨t0, t1⟩ := hT6.cells
    obtain ⟨c0, c1⟩ := hR6.cells
    obtain ⟨e0, e1⟩ := hR6.frozen
    have hgs := stored2 (.int .i64 y) (.string s) c0 c1
    have HF : Hid (Below w.heap.size w ((W6.setCell ⟨R, 0, none⟩ (.int .i64 y)).setCell ⟨R, 1, none⟩ (.string s))) := (hB6.setCell (p := ⟨R, 0, none⟩) HwR.out _).setCell (p := ⟨R, 1, none⟩) HwR.out _
    clear hR5 hT5 hB5 hR6 hT6 hB6
    go_wp2_with (rw [hW6.out])
    exact bodyPost_ret (v := .agg #[_, _]) (by simp [results, Try.results17, go_sem, hgs]) rfl ⟨y, s, rfl, by omega, HF.out⟩
  by_cases h1 : x = 1
  · subst h1
    have hS := l1Str_mem A ao n cap f badsL w4.heap.size w4 rfl hn (by decide) (by decide) hC4
    have HM : Hid (∀ z ∈ badsL, z.size ≤ 10) := badsL_few
    unfold badsL at hS
    go_wp2_with fail
    refine hS.mono ?_
    rintro e w5 ⟨z, rfl, hz, hC5, hB5'⟩
    have hz10 := HM.out z hz
    have hR5 := hR4.but hB5' (by omega)
    have hT5 := hT4.but hB5' (by omega)
    have hB5 : Below w.heap.size w w5 := hB4.trans (hB5'.below hwA hB4.size)
    clear hR4 hT4 hB4 hC4 hB5' hC5 hS hz HM
    obtain ⟨z0, z1⟩ := hT5.cells
    obtain ⟨f0, f1⟩ := hT5.frozen
    have hR6 : TBox (w5.setCell ⟨T, 1, none⟩ (.string z)) R 0 ⟨#[]⟩ := hR5.other (by omega) _
    have hT6 := hT5.set1 z
    have hB6 : Below w.heap.size w (w5.setCell ⟨T, 1, none⟩ (.string z)) := hB5.setCell (p := ⟨T, 1, none⟩) (by show _ ≤ T; omega) _
    obtain ⟨W6, hW6⟩ : ∃ W6, Hid (w5.setCell ⟨T, 1, none⟩ (.string z) = W6) := ⟨_, rfl⟩
    rw [hW6.out] at hR6 hT6 hB6
    obtain ⟨t0, t1⟩ := hT6.cells
    obtain ⟨c0, c1⟩ := hR6.cells
    obtain ⟨e0, e1⟩ := hR6.frozen
    have hgs := stored2 (.int .i64 k) (.string z) c0 c1
    have HF : Hid (Below w.heap.size w ((W6.setCell ⟨R, 0, none⟩ (.int .i64 k)).setCell ⟨R, 1, none⟩ (.string z))) := (hB6.setCell (p := ⟨R, 0, none⟩) HwR.out _).setCell (p := ⟨R, 1, none⟩) HwR.out _
    clear hR5 hT5 hB5 hR6 hT6 hB6
    go_wp2_with (rw [hW6.out])
    exact bodyPost_ret (v := .agg #[_, _]) (by simp [results, Try.results17, go_sem, hgs]) rfl ⟨k, z, rfl, hz10, HF.out⟩
  · have q0 : (x == 0) = false := by simpa using h0
    have q1 : (x == 1) = false := by simpa using h1
    obtain ⟨t0, t1⟩ := hT4.cells
    obtain ⟨c0, c1⟩ := hR4.cells
    obtain ⟨e0, e1⟩ := hR4.frozen
    have hgs := stored2 (.int .i64 k) (.string s) c0 c1
    have HF : Hid (Below w.heap.size w ((w4.setCell ⟨R, 0, none⟩ (.int .i64 k)).setCell ⟨R, 1, none⟩ (.string s))) := (hB4.setCell (p := ⟨R, 0, none⟩) HwR.out _).setCell (p := ⟨R, 1, none⟩) HwR.out _
    clear hR4 hT4 hB4 hC4
    go_wp2
    exact bodyPost_ret (v := .agg #[_, _]) (by simp [results, Try.results17, go_sem, hgs]) rfl ⟨k, s, rfl, by omega, HF.out⟩
end Go.Proofs.Ytbpkonneliidiad

/-
  Whether a code is too long.
-/
namespace Go.Proofs.Ytbpkonneliidiad
open Go.RowKit
set_option maxRecDepth 4000

theorem big_any (ao : Option Addr) (n cap : Nat) (w : World) (_hn : n ≤ 9223372036854775807) :
    Calls Try.prog 5 #[.slice ao n cap] w fun e w' => e = .returned (.bool (decide ((1048576 : Int) < (n : Int)))) ∧ w = w' := by
  go_enter Try.func5, Try.ntmps5
  go_wp2
  go_ret
  exact ⟨rfl, rfl⟩

end Go.Proofs.Ytbpkonneliidiad

/-
  A scope in which the run jumps from label to label: what holds at every jump, and a measure that every pass lowers.
-/
namespace Go.Proofs.Ytbpkonneliidiad
open Go.RowKit
set_option maxRecDepth 4000

/-- As Q; by a goto to label l: J l. -/
def jumps (J : Nat → Act → World → Prop) (Q : Exit → Act → World → Prop) : Exit → Act → World → Prop
  | .goto l, a, w => J l a w
  | e, a, w => Q e a w
theorem jumps_normal {J : Nat → Act → World → Prop} {Q : Exit → Act → World → Prop} {a : Act} {w : World} : jumps J Q .normal a w = Q .normal a w := rfl
theorem jumps_ret {J : Nat → Act → World → Prop} {Q : Exit → Act → World → Prop} {a : Act} {w : World} : jumps J Q .ret a w = Q .ret a w := rfl
theorem jumps_exit {J : Nat → Act → World → Prop} {Q : Exit → Act → World → Prop} {i : Nat} {a : Act} {w : World} : jumps J Q (.exit i) a w = Q (.exit i) a w := rfl
theorem jumps_goto {J : Nat → Act → World → Prop} {Q : Exit → Act → World → Prop} {l : Nat} {a : Act} {w : World} : jumps J Q (.goto l) a w = J l a w := rfl

theorem wp_scope_labels {P : Program} {a : Act} {w : World} {Q : Exit → Act → World → Prop} {c : Code} (R : Nat → Code) (J : Nat → Act → World → Prop) (μ : Nat → Act → World → Nat)
    (hf : ∀ l a w, J l a w → findLabel c l = some (R l)) (first : c.wp P (jumps J Q) a w)
    (pass : ∀ l a w, J l a w → (R l).wp P (jumps (fun l' a' w' => J l' a' w' ∧ μ l' a' w' < μ l a w) Q) a w) : (Code.scope c).wp P Q a w := by
  intro b k cs
  have key : ∀ n l a w, μ l a w = n → J l a w → ∃ e a' w', Q e a' w' ∧ Arrives P (lone (b.at a (.code (R l) :: .inScope c :: k)) cs w) b k cs e a' w' := by
    intro n
    induction n using Nat.strongRecOn with
    | _ n ih =>
      intro l a w hn hJ
      obtain ⟨e, a₁, w₁, hq, harr⟩ := pass l a w hJ b (.inScope c :: k) cs
      cases e with
      | normal => exact ⟨.normal, a₁, w₁, hq, Steps.trans harr (.one step_inScope)⟩
      | exit id => exact ⟨.exit id, a₁, w₁, hq, fun k' hk => harr k' (by simp [exitTo, hk])⟩
      | goto l' =>
        obtain ⟨hJ', hlt⟩ := hq
        obtain ⟨e₂, a₂, w₂, hq₂, harr₂⟩ := ih _ (by omega) l' a₁ w₁ rfl hJ'
        have hg : gotoIn l' (.inScope c :: k) = some (.code (R l') :: .inScope c :: k) := by simp [gotoIn, hf l' a₁ w₁ hJ']
        exact ⟨e₂, a₂, w₂, hq₂, .of_steps (harr _ hg) harr₂⟩
      | ret => exact ⟨_, a₁, w₁, hq, harr⟩
      | panic ch => exact ⟨_, a₁, w₁, hq, harr⟩
      | outgrown => exact ⟨_, a₁, w₁, hq, harr⟩
  obtain ⟨e, a₁, w₁, hq, harr⟩ := first b (.inScope c :: k) cs
  cases e with
  | normal => exact ⟨.normal, a₁, w₁, hq, .head step_scope (Steps.trans harr (.one step_inScope))⟩
  | exit id => exact ⟨.exit id, a₁, w₁, hq, fun k' hk => .head step_scope (harr k' (by simp [exitTo, hk]))⟩
  | goto l' =>
    have hJ' : J l' a₁ w₁ := hq
    obtain ⟨e₂, a₂, w₂, hq₂, harr₂⟩ := key _ l' a₁ w₁ rfl hJ'
    have hg : gotoIn l' (.inScope c :: k) = some (.code (R l') :: .inScope c :: k) := by simp [gotoIn, hf l' a₁ w₁ hJ']
    exact ⟨e₂, a₂, w₂, hq₂, .of_steps (.head step_scope (harr _ hg)) harr₂⟩
  | ret => exact ⟨_, a₁, w₁, hq, .of_steps (.one step_scope) harr⟩
  | panic ch => exact ⟨_, a₁, w₁, hq, .of_steps (.one step_scope) harr⟩
  | outgrown => exact ⟨_, a₁, w₁, hq, .of_steps (.one step_scope) harr⟩

/-- The same, the code behind a label named where it is wanted; the way into the scope may run on into a label. -/
theorem wp_scope_goto {P : Program} {a : Act} {w : World} {Q : Exit → Act → World → Prop} {c : Code} (J : Nat → Act → World → Prop) (μ : Nat → Act → World → Nat)
    (hf : ∀ l a w, J l a w → ∃ X, findLabel c l = some (.seq .skip X))
    (pass : ∀ (T : Nat → Act → World → Prop) l a w X, findLabel c l = some (.seq .skip X) → J l a w → (∀ l' a' w', J l' a' w' → μ l' a' w' < μ l a w → T l' a' w') → X.wp P (jumps T Q) a w)
    (first : (∀ l a w X, findLabel c l = some (.seq .skip X) → J l a w → X.wp P (jumps J Q) a w) → c.wp P (jumps J Q) a w) : (Code.scope c).wp P Q a w := by
  refine wp_scope_labels (fun l => (findLabel c l).getD .skip) J μ (fun l a w h => ?_) (first (fun l a w X hr h => pass J l a w X hr h (fun _ _ _ h' _ => h'))) (fun l a w h => ?_)
  · obtain ⟨X, hr⟩ := hf l a w h
    rw [hr]; rfl
  · obtain ⟨X, hr⟩ := hf l a w h
    rw [hr]
    exact wp_seq (wp_skip (pass _ l a w X hr h (fun l' a' w' h1 h2 => ⟨h1, h2⟩)))
end Go.Proofs.Ytbpkonneliidiad

/-
  Names and marks in a text, plainly.
-/
namespace Go.Proofs.Ytbpkonneliidiad
open Go.RowKit
set_option maxRecDepth 4000

theorem endN_in {s : ByteArray} {p j : Nat} (h1 : p ≤ j) (h2 : j < endN s p) : inName (bt s j) = true := by
  by_cases h : p < s.size ∧ inName (bt s p) = true
  · by_cases e : p = j
    · subst e; exact h.2
    · rw [endN_step h.1 h.2] at h2
      exact endN_in (p := p + 1) (by omega) h2
  · rw [endN_stop h] at h2; omega
  termination_by s.size - p
  decreasing_by omega
/-- A name in a text is right just if it is not too long. -/
theorem name_ok {s : ByteArray} {i : Nat} (hi : i < s.size) (hsm : small (bt s i) = true) : nameOk (s.extract i (endN s (i + 1))) = decide (endN s (i + 1) - i ≤ 8) := by
  have hge := endN_ge s (i + 1)
  have hle := endN_le s (i + 1) (by omega)
  have hsz : (s.extract i (endN s (i + 1))).size = endN s (i + 1) - i := by rw [ByteArray.size_extract]; omega
  unfold nameOk
  rw [hsz, bt_extract hle (by omega), Nat.add_zero]
  by_cases h8 : endN s (i + 1) - i ≤ 8
  · rw [decide_eq_true h8]
    refine decide_eq_true ⟨by omega, h8, hsm, fun j hj => ?_⟩
    rw [bt_extract hle (by omega)]
    by_cases h0 : j = 0
    · subst h0; rw [Nat.add_zero]; unfold inName; rw [hsm]; rfl
    · exact endN_in (p := i + 1) (by omega) (by omega)
  · rw [decide_eq_false h8]
    exact decide_eq_false (fun h => h8 h.2.1)
theorem mark_ok {s : ByteArray} {i : Nat} (hi : i < s.size) : markOk (s.extract i (i + 1)) = markC (bt s i) := by
  have hsz : (s.extract i (i + 1)).size = 1 := by rw [ByteArray.size_extract]; omega
  unfold markOk
  rw [hsz, bt_extract (by omega) (by omega), Nat.add_zero]
  simp
theorem small_kind {s : ByteArray} {i : Nat} (h : small (bt s i) = true) : kindAt s i = 1 ∧ stopAt s i = endN s (i + 1) := by unfold kindAt stopAt; rw [h]; exact ⟨rfl, rfl⟩
theorem other_kind {s : ByteArray} {i : Nat} (h : small (bt s i) = false) : kindAt s i = 2 ∧ stopAt s i = i + 1 := by unfold kindAt stopAt; rw [h]; exact ⟨rfl, rfl⟩
theorem mark_not {c : Int} (h : markC c = true) : small c = false ∧ blank c = false := by
  unfold markC at h
  unfold small blank
  simp only [decide_eq_true_eq] at h
  exact ⟨decide_eq_false (by omega), decide_eq_false (by omega)⟩
theorem small_not {c : Int} (h : small c = true) : blank c = false := by
  unfold small at h
  unfold blank
  simp only [decide_eq_true_eq] at h
  exact decide_eq_false (by omega)
end Go.Proofs.Ytbpkonneliidiad

