/-
  Together: Draw, DrawBut, DrawKit9, DrawOnce, DrawInt, DrawStrOf, Draw11Row
-/
import Derived.Test.YtkakkjnbhklfpaaGreatDoorPackR1
import Derived.WalkSpells
import Derived.Test.YtkakkjnbhklfpaaGreatDoorPackR3
import Derived.Test.YtkakkjnbhklfpaaGreatDoorPackR6
import Derived.Test.YtkakkjnbhklfpaaGreatDoorPackR4
import Derived.Deep.LoopGhost
/-
  The cursor that the draws go by: what each draw comes to, as far as a law leans on it: a number within its bounds, bytes of their own; nothing turns but the cursor.
-/
namespace Go.Proofs.YtkakkjnbhklfpaaGreatDoor
open Go.RowKit
set_option maxRecDepth 4000

theorem i64_and255 (n : Int) : bits .and .i64 n 255 = n % 256 := by
  have h255 : (BitVec.ofInt 64 255).toNat = 2 ^ 8 - 1 := by decide
  have key : (BitVec.ofInt 64 n &&& BitVec.ofInt 64 255).toNat = (n % ((2 ^ 64 : Nat) : Int)).toNat % 2 ^ 8 := by
    rw [BitVec.toNat_and, BitVec.toNat_ofInt, h255, Nat.and_two_pow_sub_one_eq_mod]
  show IntKind.i64.wrap ((BitVec.ofInt 64 n &&& BitVec.ofInt 64 255).toNat : Nat) = n % 256
  rw [key, IntKind.wrap_i64]
  omega

theorem Only.trans {b : Nat} {w w1 w2 : World} (h : Only b w w1) (k : Only b w1 w2) : Only b w w2 :=
  ⟨k.os.trans h.os, k.tape.trans h.tape, k.output.trans h.output, k.size.trans h.size, fun i hi => (k.block i hi).trans (h.block i hi)⟩

/-- The three cells of a cursor. -/
def curF (ao : Option Addr) (n cap : Nat) (i h : Int) : Nat → Value
  | 0 => .slice ao n cap
  | 1 => .int .i64 i
  | _ => .int .i64 h

structure Cur (w : World) (g : Nat) (ao : Option Addr) (n cap : Nat) (f : Nat → Int) : Prop where
  cells : ∃ i h : Int, w.rowIs g 93 3 (curF ao n cap i h) ∧ 0 ≤ i ∧ i ≤ n
  view : View w ao n cap f
  apart : ∀ a, ao = some a → 0 < n → a.block ≠ g

theorem Cur.lt {w : World} {g : Nat} {ao : Option Addr} {n cap : Nat} {f : Nat → Int} (h : Cur w g ao n cap f) : g < w.heap.size := by
  obtain ⟨i, k, hr, _⟩ := h.cells
  exact hr.lt

theorem Cur.below {w w' : World} {g : Nat} {ao : Option Addr} {n cap : Nat} {f : Nat → Int} (h : Cur w g ao n cap f) (hb : Below w.heap.size w w') : Cur w' g ao n cap f := by
  obtain ⟨i, k, hr, h0, h1⟩ := h.cells
  exact ⟨⟨i, k, hr.of_block (hb.block g hr.lt), h0, h1⟩, h.view.below hb, h.apart⟩

set_option maxHeartbeats 2000000 in
theorem l1Byte_any (g : Nat) (ao : Option Addr) (n cap : Nat) (f : Nat → Int) (w : World) (hn : n ≤ 1048576) (hC : Cur w g ao n cap f) :
    Calls Tryz.prog 56 #[.pointer (some ⟨g, 0, none⟩)] w fun e w' => ∃ x : Int, e = .returned (.int .i64 x) ∧ 0 ≤ x ∧ x ≤ 255 ∧ Cur w' g ao n cap f ∧ Only g w w' := by
  obtain ⟨i, h, hr, hi0, hi1⟩ := hC.cells
  have c0 : w.cell? ⟨g, 0, none⟩ = some (.slice ao n cap) := hr.cell (by decide)
  have c1 : w.cell? ⟨g, 1, none⟩ = some (.int .i64 i) := hr.cell (by decide)
  have c2 : w.cell? ⟨g, 2, none⟩ = some (.int .i64 h) := hr.cell (by decide)
  have z1 := hr.frozen 1
  have z2 := hr.frozen 2
  have hA : ∀ z : Int, bits .and .i64 z 255 = z % 256 := i64_and255
  by_cases hlt : i < n
  · have hv := hC.view
    obtain ⟨b, off, rfl, hb, hc⟩ := hv.cells (by omega)
    have hne : b ≠ g := hC.apart _ rfl (by omega)
    obtain ⟨k, rfl⟩ := Int.eq_ofNat_of_zero_le hi0
    have hbk := hv.byte k (by omega)
    have hck := hc k (by omega)
    clear hc
    go_enter Tryz.func56, Tryz.ntmps56
    go_wp2
    go_region
    all_goals go_wp2
    all_goals go_region
    all_goals go_wp2
    all_goals go_region
    all_goals go_wp2
    go_ret
    have hO : Only g w ((w.setCell ⟨g, 2, none⟩ (.int .i64 (wrap64 (wrap64 (h * 6364136223846793005) + 1442695040888963407)))).setCell ⟨g, 1, none⟩ (.int .i64 ((k : Int) + 1))) := ((Only.refl _ _).setCell _).setCell _
    have hR := ((hr.set 2 (.int .i64 (wrap64 (wrap64 (h * 6364136223846793005) + 1442695040888963407)))).set 1 (.int .i64 ((k : Int) + 1))).congr (g := curF (some ⟨b, off, none⟩) n cap ((k : Int) + 1) (wrap64 (wrap64 (h * 6364136223846793005) + 1442695040888963407)))
      (fun j hj => by match j, hj with | 0, _ => rfl | 1, _ => rfl | 2, _ => rfl)
    exact ⟨_, rfl, by omega, by omega, ⟨⟨_, _, hR, by omega, by omega⟩, (hO.view hv (fun a ha => hC.apart a ha (by omega))).drew.drew.drew, hC.apart⟩, hO.os, hO.tape, hO.output, hO.size, hO.block⟩
  · go_enter Tryz.func56, Tryz.ntmps56
    go_wp2
    go_region
    all_goals go_wp2
    all_goals go_region
    all_goals go_wp2
    go_ret
    have hO : Only g w (w.setCell ⟨g, 2, none⟩ (.int .i64 (wrap64 (wrap64 (h * 6364136223846793005) + 1442695040888963407)))) := (Only.refl _ _).setCell _
    have hR := (hr.set 2 (.int .i64 (wrap64 (wrap64 (h * 6364136223846793005) + 1442695040888963407)))).congr (g := curF ao n cap i (wrap64 (wrap64 (h * 6364136223846793005) + 1442695040888963407)))
      (fun j hj => by match j, hj with | 0, _ => rfl | 1, _ => rfl | 2, _ => rfl)
    have hV : View (w.setCell ⟨g, 2, none⟩ (.int .i64 (wrap64 (wrap64 (h * 6364136223846793005) + 1442695040888963407)))) ao n cap f := by
      by_cases h0 : 0 < n
      · exact hO.view hC.view (fun a ha => hC.apart a ha h0)
      · exact ⟨hC.view.le, hC.view.byte, fun h => absurd h h0⟩
    exact ⟨_, rfl, by omega, by omega, ⟨⟨_, _, hR, hi0, hi1⟩, hV.drew.drew, hC.apart⟩, hO.os, hO.tape, hO.output, hO.size, hO.block⟩

set_option maxHeartbeats 1000000 in
theorem l1Below_any (g : Nat) (ao : Option Addr) (n cap : Nat) (f : Nat → Int) (m : Int) (w : World) (hn : n ≤ 1048576) (hm : 0 < m) (hm1 : m ≤ 16777216) (hC : Cur w g ao n cap f) :
    Calls Tryz.prog 25 #[.pointer (some ⟨g, 0, none⟩), .int .i64 m] w fun e w' => ∃ x : Int, e = .returned (.int .i64 x) ∧ 0 ≤ x ∧ x < m ∧ Cur w' g ao n cap f ∧ Only g w w' := by
  by_cases h256 : m ≤ 256
  · go_enter Tryz.func25, Tryz.ntmps25
    go_wp2_with fail
    refine (l1Byte_any g ao n cap f w hn hC).mono ?_
    rintro e w1 ⟨x, rfl, hx0, hx1, hC1, hO1⟩
    go_wp2
    go_ret
    exact ⟨_, rfl, Int.emod_nonneg _ (by omega), Int.emod_lt_of_pos _ hm, hC1, hO1⟩
  · go_enter Tryz.func25, Tryz.ntmps25
    go_wp2_with fail
    refine (l1Byte_any g ao n cap f w hn hC).mono ?_
    rintro e w1 ⟨x, rfl, hx0, hx1, hC1, hO1⟩
    go_wp2_with fail
    refine (l1Byte_any g ao n cap f w1 hn hC1).mono ?_
    rintro e w2 ⟨y, rfl, hy0, hy1, hC2, hO2⟩
    go_wp2_with fail
    refine (l1Byte_any g ao n cap f w2 hn hC2).mono ?_
    rintro e w3 ⟨z, rfl, hz0, hz1, hC3, hO3⟩
    go_wp2
    go_ret
    exact ⟨_, rfl, Int.emod_nonneg _ (by omega), Int.emod_lt_of_pos _ hm, hC3, (hO1.trans hO2).trans hO3⟩

set_option maxHeartbeats 1000000 in
theorem l1New_any (ao : Option Addr) (n cap : Nat) (f : Nat → Int) (w : World) (hn : n ≤ 1048576) (hv : View w ao n cap f) :
    Calls Tryz.prog 23 #[.slice ao n cap] w fun e w' => e = .returned (.pointer (some ⟨w.heap.size, 0, none⟩)) ∧ Cur w' w.heap.size ao n cap f ∧ Below w.heap.size w w' := by
  go_enter Tryz.func23, Tryz.ntmps23
  go_wp2
  go_loopg [3, 4] n (fun q s i wr => w = wr ∧ ∃ (k : Nat) (h : Int), k ≤ n ∧ q = n - k ∧ s = .int .i64 h ∧ i = .int .i64 k)
  case atStart => exact ⟨rfl, 0, _, Nat.zero_le _, rfl, rfl, rfl⟩
  case round =>
    obtain ⟨rfl, k, h, hk, rfl, rfl, rfl⟩ := hrel
    by_cases hlt : k < n
    · obtain ⟨b, off, rfl, hb, hc⟩ := hv.cells (by omega)
      have hkz : (k : Int) < (n : Int) := by omega
      have hc1 := hc k hlt
      have hbk := hv.byte k hlt
      by_cases h4 : k < 4000
      · have hz4 : (k : Int) < 4000 := by omega
        clear hc
        go_wp2
        go_roundg (n - (k + 1))
        case measure => omega
        case rel => exact ⟨rfl, k + 1, _, by omega, rfl, rfl, by go_num⟩
      · have hz4 : ¬ (k : Int) < 4000 := by omega
        clear h4
        clear hc
        go_wp2
        go_ret
        refine ⟨rfl, ⟨⟨0, _, World.rowIs_alloc w _ 93 (curF (some ⟨b, off, none⟩) n cap 0 h) (fun j hj => ?_), by omega, by omega⟩, hv.below ((Below.refl _ _).alloc (Nat.le_refl _) _), fun a ha _ => ?_⟩, (Below.refl _ _).alloc (Nat.le_refl _) _⟩
        · match j, hj with | 0, _ => rfl | 1, _ => rfl | 2, _ => rfl
        · cases ha; show b ≠ w.heap.size; omega
    · have hkz : (n : Int) ≤ (k : Int) := by omega
      go_wp2
      go_ret
      refine ⟨rfl, ⟨⟨0, _, World.rowIs_alloc w _ 93 (curF ao n cap 0 h) (fun j hj => ?_), by omega, by omega⟩, hv.below ((Below.refl _ _).alloc (Nat.le_refl _) _), fun a ha h0 => ?_⟩, (Below.refl _ _).alloc (Nat.le_refl _) _⟩
      · match j, hj with | 0, _ => rfl | 1, _ => rfl | 2, _ => rfl
      · obtain ⟨b, off, e, hb, _⟩ := hv.cells h0
        rw [e] at ha; cases ha; show b ≠ w.heap.size; omega
end Go.Proofs.YtkakkjnbhklfpaaGreatDoor

/-
  What turns but the cursor: how it is carried.
-/
namespace Go.Proofs.YtkakkjnbhklfpaaGreatDoor
open Go.RowKit
set_option maxRecDepth 4000

theorem Cur.grown {w w' : World} {g : Nat} {ao : Option Addr} {n cap : Nat} {f : Nat → Int} {row : Option Nat} (h : Cur w g ao n cap f) (hg : w.grownBy w' row) (h1 : row ≠ some g) (h2 : ∀ a, ao = some a → 0 < n → row ≠ some a.block) : Cur w' g ao n cap f := by
  obtain ⟨i, k, hr, h0, hi⟩ := h.cells
  refine ⟨⟨i, k, hr.of_block (hg.block g hr.lt (fun e => h1 e.symm)), h0, hi⟩, ⟨h.view.le, h.view.byte, fun hn => ?_⟩, h.apart⟩
  obtain ⟨b', off, e, hlt, hc⟩ := h.view.cells hn
  refine ⟨b', off, e, Nat.lt_of_lt_of_le hlt hg.size, fun j hj => ?_⟩
  rw [World.cell?_of_block (w := w) (hg.block b' hlt (fun e' => h2 _ e hn e'.symm))]
  exact hc j hj
theorem Cur.code {w : World} {g : Nat} {ao : Option Addr} {n cap : Nat} {f : Nat → Int} (h : Cur w g ao n cap f) : ∀ a, ao = some a → 0 < n → a.block < w.heap.size := by
  rintro a rfl hn
  obtain ⟨b, off, e, hlt, _⟩ := h.view.cells hn
  cases e
  exact hlt

end Go.Proofs.YtkakkjnbhklfpaaGreatDoor

/-
  What the draws of tables turn besides: the cursor.
-/
namespace Go.Proofs.YtkakkjnbhklfpaaGreatDoor
open Go.RowKit
set_option maxRecDepth 4000

/-- The cursor, and what has turned since w: it alone, of what was there. -/
structure Cr (w : World) (g : Nat) (ao : Option Addr) (n cap : Nat) (f : Nat → Int) (W : World) : Prop where
  cur : Cur W g ao n cap f
  but : But g w W
  lt : g < w.heap.size
  code : ∀ a, ao = some a → 0 < n → a.block < w.heap.size
theorem Cr.start {w : World} {g : Nat} {ao : Option Addr} {n cap : Nat} {f : Nat → Int} (h : Cur w g ao n cap f) : Cr w g ao n cap f w := ⟨h, But.refl _ _, h.lt, h.code⟩
theorem Cr.next {w : World} {g : Nat} {ao : Option Addr} {n cap : Nat} {f : Nat → Int} {W W' : World} (h : Cr w g ao n cap f W) (hc : Cur W' g ao n cap f) (hb : But g W W') : Cr w g ao n cap f W' := ⟨hc, h.but.trans hb, h.lt, h.code⟩
theorem Cr.eff {w : World} {g : Nat} {ao : Option Addr} {n cap : Nat} {f : Nat → Int} {T : TypeId} {W W' : World} (h : Cr w g ao n cap f W) (e : Eff w T W W') : Cr w g ao n cap f W' := by
  have hs := h.but.size
  have hg := h.lt
  refine ⟨?_, ⟨e.os.trans h.but.os, e.tape.trans h.but.tape, e.output.trans h.but.output, Nat.le_trans hs e.size, fun k hk hne => (e.old k hk (by omega)).trans (h.but.block k hk hne)⟩, h.lt, h.code⟩
  obtain ⟨i, k, hr, h0, hi⟩ := h.cur.cells
  refine ⟨⟨i, k, hr.of_block (e.old g hg (by omega)), h0, hi⟩, ⟨h.cur.view.le, h.cur.view.byte, fun hn => ?_⟩, h.cur.apart⟩
  obtain ⟨b', off, ea, hlt, hc⟩ := h.cur.view.cells hn
  have hb' := h.code _ ea hn
  refine ⟨b', off, ea, Nat.lt_of_lt_of_le hlt e.size, fun j hj => ?_⟩
  rw [World.cell?_of_block (w := W) (e.old b' hb' hlt)]
  exact hc j hj
theorem Cr.size {w : World} {g : Nat} {ao : Option Addr} {n cap : Nat} {f : Nat → Int} {W : World} (h : Cr w g ao n cap f W) : w.heap.size ≤ W.heap.size := h.but.size
end Go.Proofs.YtkakkjnbhklfpaaGreatDoor

/-
  A draw of yes or no.
-/
namespace Go.Proofs.YtkakkjnbhklfpaaGreatDoor
open Go.RowKit
set_option maxRecDepth 4000

set_option maxHeartbeats 1000000 in
theorem l1Once_any (g : Nat) (ao : Option Addr) (n cap : Nat) (f : Nat → Int) (m : Int) (w : World) (hn : n ≤ 1048576) (hm : 0 < m) (hm1 : m ≤ 16777216) (hC : Cur w g ao n cap f) :
    Calls Tryz.prog 55 #[.pointer (some ⟨g, 0, none⟩), .int .i64 m] w fun e w' => ∃ b : Bool, e = .returned (.bool b) ∧ Cur w' g ao n cap f ∧ Only g w w' := by
  go_enter Tryz.func55, Tryz.ntmps55
  go_wp2_with fail
  refine (l1Below_any g ao n cap f m w hn hm hm1 hC).mono ?_
  rintro e w1 ⟨x, rfl, hx0, hx1, hC1, hO1⟩
  go_wp2
  go_ret
  exact ⟨_, rfl, hC1, hO1⟩
end Go.Proofs.YtkakkjnbhklfpaaGreatDoor

/-
  One of a row of numbers, as it is drawn.
-/
namespace Go.Proofs.YtkakkjnbhklfpaaGreatDoor
open Go.RowKit
set_option maxRecDepth 4000

set_option maxHeartbeats 1000000 in
theorem l1Int_any (g : Nat) (ao : Option Addr) (n cap : Nat) (f : Nat → Int) (b m : Nat) (z : Nat → Int) (w : World) (hn : n ≤ 1048576) (hm : 0 < m) (hm1 : m ≤ 16777216) (hz : ∀ i, i < m → w.cell? ⟨b, i, none⟩ = some (.int .i64 (z i))) (hbg : b ≠ g) (hC : Cur w g ao n cap f) :
    Calls Tryz.prog 48 #[.pointer (some ⟨g, 0, none⟩), .slice (some ⟨b, 0, none⟩) m m] w fun e w' => ∃ j : Nat, j < m ∧ e = .returned (.int .i64 (z j)) ∧ Cur w' g ao n cap f ∧ Only g w w' := by
  go_enter Tryz.func48, Tryz.ntmps48
  go_wp2_with fail
  refine (l1Below_any g ao n cap f m w hn (by omega) (by omega) hC).mono ?_
  rintro e w1 ⟨x, rfl, hx0, hx1, hC1, hO1⟩
  obtain ⟨j, rfl⟩ := Int.eq_ofNat_of_zero_le hx0
  have hj : w1.cell? ⟨b, j, none⟩ = some (.int .i64 (z j)) := by
    rw [World.cell?_of_block (w := w) (hO1.block b hbg)]; exact hz j (by omega)
  go_wp2
  go_ret
  exact ⟨j, by omega, rfl, hC1, hO1⟩
end Go.Proofs.YtkakkjnbhklfpaaGreatDoor

/-
  One of a list of texts, as a law leans on it.
-/
namespace Go.Proofs.YtkakkjnbhklfpaaGreatDoor
open Go.RowKit
set_option maxRecDepth 4000

set_option maxHeartbeats 1000000 in
theorem l1Str_any (g : Nat) (ao : Option Addr) (n cap : Nat) (f : Nat → Int) (b m : Nat) (z : Nat → ByteArray) (w : World) (hn : n ≤ 1048576) (hm : 0 < m) (hm1 : m ≤ 16777216) (hz : ∀ i, i < m → w.cell? ⟨b, i, none⟩ = some (.string (z i))) (hbg : b ≠ g) (hC : Cur w g ao n cap f) :
    Calls Tryz.prog 82 #[.pointer (some ⟨g, 0, none⟩), .slice (some ⟨b, 0, none⟩) m m] w fun e w' => ∃ j : Nat, j < m ∧ e = .returned (.string (z j)) ∧ Cur w' g ao n cap f ∧ Only g w w' := by
  go_enter Tryz.func82, Tryz.ntmps82
  go_wp2_with fail
  refine (l1Below_any g ao n cap f m w hn (by omega) (by omega) hC).mono ?_
  rintro e w1 ⟨x, rfl, hx0, hx1, hC1, hO1⟩
  obtain ⟨j, rfl⟩ := Int.eq_ofNat_of_zero_le hx0
  have hj : w1.cell? ⟨b, j, none⟩ = some (.string (z j)) := by
    rw [World.cell?_of_block (w := w) (hO1.block b hbg)]; exact hz j (by omega)
  go_wp2
  go_ret
  exact ⟨j, by omega, rfl, hC1, hO1⟩

/-- The cells of a list of texts that is laid anew. -/
theorem newStrs (w : World) (l : List ByteArray) (t : TypeId) : ∀ i, i < l.length → (w.alloc (.cells (l.map Value.string).toArray t)).cell? ⟨w.heap.size, i, none⟩ = some (.string (l.getD i ⟨#[]⟩)) := by
  intro i hi
  rw [World.cell?, show (w.alloc (.cells (l.map Value.string).toArray t)).heap[w.heap.size]? = some (.cells (l.map Value.string).toArray t) from Deep.blk_alloc_new _ _]
  simp [hi]

/-- One of a list of texts that is laid anew. -/
theorem l1Str_mem (g : Nat) (ao : Option Addr) (n cap : Nat) (f : Nat → Int) (l : List ByteArray) (A : Nat) (w : World) (hA : A = w.heap.size) (hn : n ≤ 1048576) (h0 : 0 < l.length) (h1 : l.length ≤ 1000) (hC : Cur w g ao n cap f) :
    Calls Tryz.prog 82 #[.pointer (some ⟨g, 0, none⟩), .slice (some ⟨A, 0, none⟩) l.length l.length] (w.alloc (.cells (l.map Value.string).toArray 9)) fun e w' => ∃ z : ByteArray, e = .returned (.string z) ∧ z ∈ l ∧ Cur w' g ao n cap f ∧ But g w w' := by
  subst hA
  have hb : Below w.heap.size w (w.alloc (.cells (l.map Value.string).toArray 9)) := (Below.refl _ _).alloc (Nat.le_refl _) _
  have hg := hC.lt
  refine (l1Str_any g ao n cap f w.heap.size l.length (fun i => l.getD i ⟨#[]⟩) _ hn h0 (by omega) (newStrs w l 9) (by omega) (hC.below hb)).mono ?_
  rintro e w' ⟨j, hj, rfl, hC2, hO2⟩
  exact ⟨_, rfl, by simp [hj], hC2, (But.ofBelow hb).trans (But.ofOnly hO2)⟩
end Go.Proofs.YtkakkjnbhklfpaaGreatDoor

/-
  The model's l11Short and l11Row: a row of short values that fit a table's columns.
-/
namespace Go.Proofs.YtkakkjnbhklfpaaGreatDoor
open Go.RowKit
set_option maxRecDepth 4000

/-- A short value of a column. -/
def ShortV (t : Int) (nl : Bool) (k n : Int) (s : ByteArray) : Prop := (k = 0 ∧ n = 0 ∧ s = ⟨#[]⟩ ∧ nl = true) ∨ (k = t ∧ s.size ≤ 2 ∧ (t = 3 → n = 0) ∧ (t ≠ 3 → s = ⟨#[]⟩) ∧ (t = 4 → 0 ≤ n ∧ n ≤ 1) ∧ -1 ≤ n ∧ n ≤ 5)
def shortL : List ByteArray := [⟨#[]⟩, ⟨#[97]⟩, ⟨#[98]⟩, ⟨#[97, 98]⟩, ⟨#[0]⟩]
theorem short_few : ∀ z ∈ shortL, z.size ≤ 2 := by
  intro z hz
  simp only [shortL, List.mem_cons, List.not_mem_nil, or_false] at hz
  rcases hz with rfl | rfl | rfl | rfl | rfl <;> decide

theorem Cr.setHigh {w : World} {g : Nat} {ao : Option Addr} {n cap : Nat} {f : Nat → Int} {W : World} (h : Cr w g ao n cap f W) {B i : Nat} (u : Value) (hB : w.heap.size ≤ B) : Cr w g ao n cap f (W.setCell ⟨B, i, none⟩ u) := by
  have hg := h.lt
  have ho : ∀ k, k < w.heap.size → (W.setCell ⟨B, i, none⟩ u).heap[k]? = W.heap[k]? := fun k hk => Below.heap_setCell _ _ _ _ (show k ≠ B by omega)
  refine ⟨?_, ⟨h.but.os, h.but.tape, h.but.output, by simpa using h.but.size, fun k hk hne => (ho k hk).trans (h.but.block k hk hne)⟩, h.lt, h.code⟩
  obtain ⟨i', k, hr, h0, hi⟩ := h.cur.cells
  refine ⟨⟨i', k, hr.of_block (ho g hg), h0, hi⟩, ⟨h.cur.view.le, h.cur.view.byte, fun hn => ?_⟩, h.cur.apart⟩
  obtain ⟨b', off, ea, hlt, hc⟩ := h.cur.view.cells hn
  have hb' := h.code _ ea hn
  refine ⟨b', off, ea, by simpa using hlt, fun j hj => ?_⟩
  rw [World.cell?_of_block (w := W) (ho b' hb')]
  exact hc j hj

set_option maxRecDepth 20000 in
set_option maxHeartbeats 8000000 in
theorem l11Short_any (g : Nat) (ao : Option Addr) (n cap : Nat) (f : Nat → Int) (nm : ByteArray) (t : Int) (nl : Bool) (w : World) (hn : n ≤ 1048576) (ht : 1 ≤ t ∧ t ≤ 4) (hC : Cur w g ao n cap f) :
    Calls Tryz.prog 57 #[.pointer (some ⟨g, 0, none⟩), .agg #[.string nm, .int .i64 t, .bool nl]] w fun e w' => ∃ (k x : Int) (s : ByteArray), e = .returned (.agg #[.int .i64 k, .int .i64 x, .string s]) ∧ ShortV t nl k x s ∧ Cr w g ao n cap f w' := by
  have hR := Cr.start hC
  have hg := hR.lt
  clear hC
  have hc := V3.new w 90 (.string nm) (.int .i64 t) (.bool nl)
  have hE0 := Eff.alloc w 93 w (.cells #[.string nm, .int .i64 t, .bool nl] 90)
  replace hR := hR.eff hE0
  have hr := V3.new (w.alloc (.cells #[.string nm, .int .i64 t, .bool nl] 90)) 58 (.int .i64 0) (.int .i64 0) (.string ⟨#[]⟩)
  have hbE : Below (w.alloc (.cells #[.string nm, .int .i64 t, .bool nl] 90)).heap.size (w.alloc (.cells #[.string nm, .int .i64 t, .bool nl] 90)) ((w.alloc (.cells #[.string nm, .int .i64 t, .bool nl] 90)).alloc (.cells #[.int .i64 0, .int .i64 0, .string ⟨#[]⟩] 58)) := (Below.refl _ _).alloc (Nat.le_refl _) _
  replace hR := hR.eff (T := 93) (Eff.ofBelow hbE)
  replace hc := hc.below hbE
  simp only [alloc_size9] at hr
  obtain ⟨W0, hW0⟩ : ∃ W, Hid ((w.alloc (.cells #[.string nm, .int .i64 t, .bool nl] 90)).alloc (.cells #[.int .i64 0, .int .i64 0, .string ⟨#[]⟩] 58) = W) := ⟨_, rfl⟩
  rw [hW0.out] at hR hc hr
  clear hE0 hbE
  go_enter Tryz.func57, Tryz.ntmps57
  obtain ⟨c0, c1, c2⟩ := hc.cells
  obtain ⟨r0, r1, r2⟩ := hr.cells
  obtain ⟨s0, s1, s2⟩ := hr.fz
  have hlt := hr.lt
  cases nl with
  | true =>
    have hOn := l1Once_any g ao n cap f 4 W0 hn (by omega) (by omega) hR.cur
    go_wp2_with (rw [hW0.out])
    refine hOn.mono ?_
    rintro e W1 ⟨b, rfl, hC1, hO1⟩
    replace hR := hR.next hC1 (But.ofOnly hO1)
    replace hr := hr.block ((But.ofOnly hO1).block _ hr.lt (by omega))
    replace hc := hc.block ((But.ofOnly hO1).block _ hc.lt (by omega))
    clear hOn hC1 hO1 c0 c1 c2 r0 r1 r2 s0 s1 s2
    cases b with
    | true =>
      obtain ⟨r0, r1, r2⟩ := hr.cells
      obtain ⟨s0, s1, s2⟩ := hr.fz
      have hr5 := ((hr.set0 (.int .i64 0)).set1 (.int .i64 0)).set2 (.string ⟨#[]⟩)
      obtain ⟨g0, g1, g2⟩ := hr5.cells
      have HR : Hid (Cr w g ao n cap f (((W1.setCell ⟨w.heap.size + 1, 0, none⟩ (.int .i64 0)).setCell ⟨w.heap.size + 1, 1, none⟩ (.int .i64 0)).setCell ⟨w.heap.size + 1, 2, none⟩ (.string ⟨#[]⟩))) := ((hR.setHigh (B := w.heap.size + 1) (i := 0) _ (by omega)).setHigh (B := w.heap.size + 1) (i := 1) _ (by omega)).setHigh (B := w.heap.size + 1) (i := 2) _ (by omega)
      clear hr hc hR hr5
      go_wp2
      exact bodyPost_ret (v := .agg #[.int .i64 0, .int .i64 0, .string ⟨#[]⟩]) (by simp [results, Tryz.results57, go_sem, g0, g1, g2]) rfl ⟨_, _, _, rfl, .inl ⟨rfl, rfl, rfl, rfl⟩, HR.out⟩
    | false =>
      obtain ⟨c0, c1, c2⟩ := hc.cells
      have hv := V3.new W1 58 (.int .i64 t) (.int .i64 0) (.string ⟨#[]⟩)
      have hbV : Below W1.heap.size W1 (W1.alloc (.cells #[.int .i64 t, .int .i64 0, .string ⟨#[]⟩] 58)) := (Below.refl _ _).alloc (Nat.le_refl _) _
      have hc2 := hc.below hbV
      have hr2 := hr.below hbV
      have hR2 := hR.eff (T := 93) (Eff.ofBelow hbV)
      obtain ⟨V, hV⟩ : ∃ x, Hid (W1.heap.size = x) := ⟨_, rfl⟩
      have hVw : w.heap.size + 1 < V := by rw [← hV.out]; exact hr.lt
      obtain ⟨W2, hW2⟩ : ∃ W, Hid (W1.alloc (.cells #[.int .i64 t, .int .i64 0, .string ⟨#[]⟩] 58) = W) := ⟨_, rfl⟩
      rw [hW2.out] at hv hc2 hr2 hR2
      rw [hV.out] at hv
      clear hc hr hR hbV
      obtain ⟨d0, d1, d2⟩ := hc2.cells
      have hRg : w.heap.size + 1 ≠ g := by omega
      have hVg : V ≠ g := by omega
      by_cases h3 : t = 3
      · subst h3
        have hbS : Below W2.heap.size W2 (W2.alloc (.cells #[.string ⟨#[]⟩, .string ⟨#[97]⟩, .string ⟨#[98]⟩, .string ⟨#[97, 98]⟩, .string ⟨#[0]⟩] 9)) := (Below.refl _ _).alloc (Nat.le_refl _) _
        have hSt := l1Str_mem g ao n cap f shortL W2.heap.size W2 rfl hn (by decide) (by decide) hR2.cur
        unfold shortL at hSt
        simp only [List.map_cons, List.map_nil, List.length_cons, List.length_nil, Nat.zero_add] at hSt
        go_wp2_with (first | rw [hV.out, hW2.out] | rw [hW2.out])
        refine hSt.mono ?_
        rintro e W3 ⟨z, rfl, hz, hC3, hB3⟩
        have hzs := short_few z (by unfold shortL; exact hz)
        have hR3 := hR2.next hC3 hB3
        have hv3 := hv.block (hB3.block V hv.lt hVg)
        have hr3 := hr2.block (hB3.block _ hr2.lt hRg)
        obtain ⟨v0, v1, v2⟩ := hv3.cells
        obtain ⟨z0, z1, z2⟩ := hv3.fz
        have hv4 := hv3.set2 (.string z)
        have hr4 := hr3.other (C := V) (i := 2) (u := (.string z)) (by omega)
        obtain ⟨W4, hW4⟩ : ∃ W, Hid (W3.setCell ⟨V, 2, none⟩ (.string z) = W) := ⟨_, rfl⟩
        have hR4 := hR3.setHigh (B := V) (i := 2) (.string z) (by omega)
        rw [hW4.out] at hv4 hr4 hR4
        obtain ⟨y0, y1, y2⟩ := hv4.cells
        obtain ⟨p0, p1, p2⟩ := hr4.cells
        obtain ⟨q0, q1, q2⟩ := hr4.fz
        have hr5 := ((hr4.set0 (.int .i64 3)).set1 (.int .i64 0)).set2 (.string z)
        obtain ⟨g0, g1, g2⟩ := hr5.cells
        have HR : Hid (Cr w g ao n cap f (((W4.setCell ⟨w.heap.size + 1, 0, none⟩ (.int .i64 3)).setCell ⟨w.heap.size + 1, 1, none⟩ (.int .i64 0)).setCell ⟨w.heap.size + 1, 2, none⟩ (.string z))) := ((hR4.setHigh (B := w.heap.size + 1) (i := 0) _ (by omega)).setHigh (B := w.heap.size + 1) (i := 1) _ (by omega)).setHigh (B := w.heap.size + 1) (i := 2) _ (by omega)
        clear hSt hC3 hB3 hR3 hv3 hr3 hv4 hr4 hR4 hr5 hv hc2 hr2 hR2
        go_wp2_with (rw [hW4.out])
        exact bodyPost_ret (v := .agg #[.int .i64 3, .int .i64 0, .string z]) (by simp [results, Tryz.results57, go_sem, g0, g1, g2]) rfl ⟨_, _, _, rfl, .inr ⟨rfl, hzs, fun _ => rfl, fun h => absurd rfl h, fun h => by omega, by omega, by omega⟩, HR.out⟩
      · by_cases h4 : t = 4
        · subst h4
          have hBl := l1Below_any g ao n cap f 2 W2 hn (by omega) (by omega) hR2.cur
          go_wp2_with (first | rw [hV.out, hW2.out] | rw [hW2.out])
          refine hBl.mono ?_
          rintro e W3 ⟨x, rfl, hx0, hx1, hC3, hO3⟩
          have hB3 := But.ofOnly hO3
          have hR3 := hR2.next hC3 hB3
          have hv3 := hv.block (hB3.block V hv.lt hVg)
          have hr3 := hr2.block (hB3.block _ hr2.lt hRg)
          obtain ⟨v0, v1, v2⟩ := hv3.cells
          obtain ⟨z0, z1, z2⟩ := hv3.fz
          have hv4 := hv3.set1 (.int .i64 x)
          have hr4 := hr3.other (C := V) (i := 1) (u := (.int .i64 x)) (by omega)
          obtain ⟨W4, hW4⟩ : ∃ W, Hid (W3.setCell ⟨V, 1, none⟩ (.int .i64 x) = W) := ⟨_, rfl⟩
          have hR4 := hR3.setHigh (B := V) (i := 1) (.int .i64 x) (by omega)
          rw [hW4.out] at hv4 hr4 hR4
          obtain ⟨y0, y1, y2⟩ := hv4.cells
          obtain ⟨p0, p1, p2⟩ := hr4.cells
          obtain ⟨q0, q1, q2⟩ := hr4.fz
          have hr5 := ((hr4.set0 (.int .i64 4)).set1 (.int .i64 x)).set2 (.string ⟨#[]⟩)
          obtain ⟨g0, g1, g2⟩ := hr5.cells
          have HR : Hid (Cr w g ao n cap f (((W4.setCell ⟨w.heap.size + 1, 0, none⟩ (.int .i64 4)).setCell ⟨w.heap.size + 1, 1, none⟩ (.int .i64 x)).setCell ⟨w.heap.size + 1, 2, none⟩ (.string ⟨#[]⟩))) := ((hR4.setHigh (B := w.heap.size + 1) (i := 0) _ (by omega)).setHigh (B := w.heap.size + 1) (i := 1) _ (by omega)).setHigh (B := w.heap.size + 1) (i := 2) _ (by omega)
          clear hBl hO3 hC3 hB3 hR3 hv3 hr3 hv4 hr4 hR4 hr5 hv hc2 hr2 hR2
          go_wp2_with (rw [hW4.out])
          exact bodyPost_ret (v := .agg #[.int .i64 4, .int .i64 x, .string ⟨#[]⟩]) (by simp [results, Tryz.results57, go_sem, g0, g1, g2]) rfl ⟨_, _, _, rfl, .inr ⟨rfl, by decide, fun h => by omega, fun _ => rfl, fun _ => by omega, by omega, by omega⟩, HR.out⟩
        · have hbI : Below W2.heap.size W2 (W2.alloc (.cells #[.int .i64 0, .int .i64 1, .int .i64 2, .int .i64 3, .int .i64 4, .int .i64 5, .int .i64 (-1)] 3)) := (Below.refl _ _).alloc (Nat.le_refl _) _
          have hz : ∀ i, i < 7 → (W2.alloc (.cells #[.int .i64 0, .int .i64 1, .int .i64 2, .int .i64 3, .int .i64 4, .int .i64 5, .int .i64 (-1)] 3)).cell? ⟨W2.heap.size, i, none⟩ = some (.int .i64 ([(0 : Int), 1, 2, 3, 4, 5, -1].getD i 0)) := by
            intro i hi
            have : i = 0 ∨ i = 1 ∨ i = 2 ∨ i = 3 ∨ i = 4 ∨ i = 5 ∨ i = 6 := by omega
            rcases this with rfl | rfl | rfl | rfl | rfl | rfl | rfl <;> simp [go_sem]
          have hRb := hR2.eff (T := 93) (Eff.ofBelow hbI)
          have hI := l1Int_any g ao n cap f W2.heap.size 7 _ _ hn (by omega) (by omega) hz (by have := hR2.size; omega) hRb.cur
          have hvb := hv.below hbI
          have hrb := hr2.below hbI
          have h3q : (t == 3) = false := by simpa using h3
          have h4q : (t == 4) = false := by simpa using h4
          clear hz
          go_wp2_with (first | rw [hV.out, hW2.out] | rw [hW2.out])
          refine hI.mono ?_
          rintro e W3 ⟨q, hq, rfl, hC3, hO3⟩
          obtain ⟨x, hx⟩ : ∃ x, Hid (([(0 : Int), 1, 2, 3, 4, 5, -1].getD q 0) = x) := ⟨_, rfl⟩
          have hxr : -1 ≤ x ∧ x ≤ 5 := by
            rw [← hx.out]
            have : q = 0 ∨ q = 1 ∨ q = 2 ∨ q = 3 ∨ q = 4 ∨ q = 5 ∨ q = 6 := by omega
            rcases this with rfl | rfl | rfl | rfl | rfl | rfl | rfl <;> decide
          rw [hx.out]
          have hB3 := But.ofOnly hO3
          have hR3 := hRb.next hC3 hB3
          have hv3 := hvb.block (hB3.block V hvb.lt hVg)
          have hr3 := hrb.block (hB3.block _ hrb.lt hRg)
          obtain ⟨v0, v1, v2⟩ := hv3.cells
          obtain ⟨z0, z1, z2⟩ := hv3.fz
          have hv4 := hv3.set1 (.int .i64 x)
          have hr4 := hr3.other (C := V) (i := 1) (u := (.int .i64 x)) (by omega)
          obtain ⟨W4, hW4⟩ : ∃ W, Hid (W3.setCell ⟨V, 1, none⟩ (.int .i64 x) = W) := ⟨_, rfl⟩
          have hR4 := hR3.setHigh (B := V) (i := 1) (.int .i64 x) (by omega)
          rw [hW4.out] at hv4 hr4 hR4
          obtain ⟨y0, y1, y2⟩ := hv4.cells
          obtain ⟨p0, p1, p2⟩ := hr4.cells
          obtain ⟨q0, q1, q2⟩ := hr4.fz
          have hr5 := ((hr4.set0 (.int .i64 t)).set1 (.int .i64 x)).set2 (.string ⟨#[]⟩)
          obtain ⟨g0, g1, g2⟩ := hr5.cells
          have HR : Hid (Cr w g ao n cap f (((W4.setCell ⟨w.heap.size + 1, 0, none⟩ (.int .i64 t)).setCell ⟨w.heap.size + 1, 1, none⟩ (.int .i64 x)).setCell ⟨w.heap.size + 1, 2, none⟩ (.string ⟨#[]⟩))) := ((hR4.setHigh (B := w.heap.size + 1) (i := 0) _ (by omega)).setHigh (B := w.heap.size + 1) (i := 1) _ (by omega)).setHigh (B := w.heap.size + 1) (i := 2) _ (by omega)
          clear hI hO3 hvb hrb hRb hC3 hB3 hR3 hv3 hr3 hv4 hr4 hR4 hr5 hv hc2 hr2 hR2
          go_wp2_with (rw [hW4.out])
          exact bodyPost_ret (v := .agg #[.int .i64 t, .int .i64 x, .string ⟨#[]⟩]) (by simp [results, Tryz.results57, go_sem, g0, g1, g2]) rfl ⟨_, _, _, rfl, .inr ⟨rfl, by decide, fun h => absurd h h3, fun _ => rfl, fun h => absurd h h4, hxr.1, hxr.2⟩, HR.out⟩
  | false =>
    clear r0 r1 r2 s0 s1 s2
    obtain ⟨c0, c1, c2⟩ := hc.cells
    have hv := V3.new W0 58 (.int .i64 t) (.int .i64 0) (.string ⟨#[]⟩)
    have hbV : Below W0.heap.size W0 (W0.alloc (.cells #[.int .i64 t, .int .i64 0, .string ⟨#[]⟩] 58)) := (Below.refl _ _).alloc (Nat.le_refl _) _
    have hc2 := hc.below hbV
    have hr2 := hr.below hbV
    have hR2 := hR.eff (T := 93) (Eff.ofBelow hbV)
    obtain ⟨V, hV⟩ : ∃ x, Hid (W0.heap.size = x) := ⟨_, rfl⟩
    have hVw : w.heap.size + 1 < V := by rw [← hV.out]; exact hr.lt
    obtain ⟨W2, hW2⟩ : ∃ W, Hid (W0.alloc (.cells #[.int .i64 t, .int .i64 0, .string ⟨#[]⟩] 58) = W) := ⟨_, rfl⟩
    rw [hW2.out] at hv hc2 hr2 hR2
    rw [hV.out] at hv
    clear hc hr hR hbV
    obtain ⟨d0, d1, d2⟩ := hc2.cells
    have hRg : w.heap.size + 1 ≠ g := by omega
    have hVg : V ≠ g := by omega
    by_cases h3 : t = 3
    · subst h3
      have hbS : Below W2.heap.size W2 (W2.alloc (.cells #[.string ⟨#[]⟩, .string ⟨#[97]⟩, .string ⟨#[98]⟩, .string ⟨#[97, 98]⟩, .string ⟨#[0]⟩] 9)) := (Below.refl _ _).alloc (Nat.le_refl _) _
      have hSt := l1Str_mem g ao n cap f shortL W2.heap.size W2 rfl hn (by decide) (by decide) hR2.cur
      unfold shortL at hSt
      simp only [List.map_cons, List.map_nil, List.length_cons, List.length_nil, Nat.zero_add] at hSt
      go_wp2_with (first | rw [hW0.out] | rw [hV.out, hW2.out] | rw [hW2.out])
      refine hSt.mono ?_
      rintro e W3 ⟨z, rfl, hz, hC3, hB3⟩
      have hzs := short_few z (by unfold shortL; exact hz)
      have hR3 := hR2.next hC3 hB3
      have hv3 := hv.block (hB3.block V hv.lt hVg)
      have hr3 := hr2.block (hB3.block _ hr2.lt hRg)
      obtain ⟨v0, v1, v2⟩ := hv3.cells
      obtain ⟨z0, z1, z2⟩ := hv3.fz
      have hv4 := hv3.set2 (.string z)
      have hr4 := hr3.other (C := V) (i := 2) (u := (.string z)) (by omega)
      obtain ⟨W4, hW4⟩ : ∃ W, Hid (W3.setCell ⟨V, 2, none⟩ (.string z) = W) := ⟨_, rfl⟩
      have hR4 := hR3.setHigh (B := V) (i := 2) (.string z) (by omega)
      rw [hW4.out] at hv4 hr4 hR4
      obtain ⟨y0, y1, y2⟩ := hv4.cells
      obtain ⟨p0, p1, p2⟩ := hr4.cells
      obtain ⟨q0, q1, q2⟩ := hr4.fz
      have hr5 := ((hr4.set0 (.int .i64 3)).set1 (.int .i64 0)).set2 (.string z)
      obtain ⟨g0, g1, g2⟩ := hr5.cells
      have HR : Hid (Cr w g ao n cap f (((W4.setCell ⟨w.heap.size + 1, 0, none⟩ (.int .i64 3)).setCell ⟨w.heap.size + 1, 1, none⟩ (.int .i64 0)).setCell ⟨w.heap.size + 1, 2, none⟩ (.string z))) := ((hR4.setHigh (B := w.heap.size + 1) (i := 0) _ (by omega)).setHigh (B := w.heap.size + 1) (i := 1) _ (by omega)).setHigh (B := w.heap.size + 1) (i := 2) _ (by omega)
      clear hSt hC3 hB3 hR3 hv3 hr3 hv4 hr4 hR4 hr5 hv hc2 hr2 hR2
      go_wp2_with (rw [hW4.out])
      exact bodyPost_ret (v := .agg #[.int .i64 3, .int .i64 0, .string z]) (by simp [results, Tryz.results57, go_sem, g0, g1, g2]) rfl ⟨_, _, _, rfl, .inr ⟨rfl, hzs, fun _ => rfl, fun h => absurd rfl h, fun h => by omega, by omega, by omega⟩, HR.out⟩
    · by_cases h4 : t = 4
      · subst h4
        have hBl := l1Below_any g ao n cap f 2 W2 hn (by omega) (by omega) hR2.cur
        go_wp2_with (first | rw [hW0.out] | rw [hV.out, hW2.out] | rw [hW2.out])
        refine hBl.mono ?_
        rintro e W3 ⟨x, rfl, hx0, hx1, hC3, hO3⟩
        have hB3 := But.ofOnly hO3
        have hR3 := hR2.next hC3 hB3
        have hv3 := hv.block (hB3.block V hv.lt hVg)
        have hr3 := hr2.block (hB3.block _ hr2.lt hRg)
        obtain ⟨v0, v1, v2⟩ := hv3.cells
        obtain ⟨z0, z1, z2⟩ := hv3.fz
        have hv4 := hv3.set1 (.int .i64 x)
        have hr4 := hr3.other (C := V) (i := 1) (u := (.int .i64 x)) (by omega)
        obtain ⟨W4, hW4⟩ : ∃ W, Hid (W3.setCell ⟨V, 1, none⟩ (.int .i64 x) = W) := ⟨_, rfl⟩
        have hR4 := hR3.setHigh (B := V) (i := 1) (.int .i64 x) (by omega)
        rw [hW4.out] at hv4 hr4 hR4
        obtain ⟨y0, y1, y2⟩ := hv4.cells
        obtain ⟨p0, p1, p2⟩ := hr4.cells
        obtain ⟨q0, q1, q2⟩ := hr4.fz
        have hr5 := ((hr4.set0 (.int .i64 4)).set1 (.int .i64 x)).set2 (.string ⟨#[]⟩)
        obtain ⟨g0, g1, g2⟩ := hr5.cells
        have HR : Hid (Cr w g ao n cap f (((W4.setCell ⟨w.heap.size + 1, 0, none⟩ (.int .i64 4)).setCell ⟨w.heap.size + 1, 1, none⟩ (.int .i64 x)).setCell ⟨w.heap.size + 1, 2, none⟩ (.string ⟨#[]⟩))) := ((hR4.setHigh (B := w.heap.size + 1) (i := 0) _ (by omega)).setHigh (B := w.heap.size + 1) (i := 1) _ (by omega)).setHigh (B := w.heap.size + 1) (i := 2) _ (by omega)
        clear hBl hO3 hC3 hB3 hR3 hv3 hr3 hv4 hr4 hR4 hr5 hv hc2 hr2 hR2
        go_wp2_with (rw [hW4.out])
        exact bodyPost_ret (v := .agg #[.int .i64 4, .int .i64 x, .string ⟨#[]⟩]) (by simp [results, Tryz.results57, go_sem, g0, g1, g2]) rfl ⟨_, _, _, rfl, .inr ⟨rfl, by decide, fun h => by omega, fun _ => rfl, fun _ => by omega, by omega, by omega⟩, HR.out⟩
      · have hbI : Below W2.heap.size W2 (W2.alloc (.cells #[.int .i64 0, .int .i64 1, .int .i64 2, .int .i64 3, .int .i64 4, .int .i64 5, .int .i64 (-1)] 3)) := (Below.refl _ _).alloc (Nat.le_refl _) _
        have hz : ∀ i, i < 7 → (W2.alloc (.cells #[.int .i64 0, .int .i64 1, .int .i64 2, .int .i64 3, .int .i64 4, .int .i64 5, .int .i64 (-1)] 3)).cell? ⟨W2.heap.size, i, none⟩ = some (.int .i64 ([(0 : Int), 1, 2, 3, 4, 5, -1].getD i 0)) := by
          intro i hi
          have : i = 0 ∨ i = 1 ∨ i = 2 ∨ i = 3 ∨ i = 4 ∨ i = 5 ∨ i = 6 := by omega
          rcases this with rfl | rfl | rfl | rfl | rfl | rfl | rfl <;> simp [go_sem]
        have hRb := hR2.eff (T := 93) (Eff.ofBelow hbI)
        have hI := l1Int_any g ao n cap f W2.heap.size 7 _ _ hn (by omega) (by omega) hz (by have := hR2.size; omega) hRb.cur
        have hvb := hv.below hbI
        have hrb := hr2.below hbI
        have h3q : (t == 3) = false := by simpa using h3
        have h4q : (t == 4) = false := by simpa using h4
        clear hz
        go_wp2_with (first | rw [hW0.out] | rw [hV.out, hW2.out] | rw [hW2.out])
        refine hI.mono ?_
        rintro e W3 ⟨q, hq, rfl, hC3, hO3⟩
        obtain ⟨x, hx⟩ : ∃ x, Hid (([(0 : Int), 1, 2, 3, 4, 5, -1].getD q 0) = x) := ⟨_, rfl⟩
        have hxr : -1 ≤ x ∧ x ≤ 5 := by
          rw [← hx.out]
          have : q = 0 ∨ q = 1 ∨ q = 2 ∨ q = 3 ∨ q = 4 ∨ q = 5 ∨ q = 6 := by omega
          rcases this with rfl | rfl | rfl | rfl | rfl | rfl | rfl <;> decide
        rw [hx.out]
        have hB3 := But.ofOnly hO3
        have hR3 := hRb.next hC3 hB3
        have hv3 := hvb.block (hB3.block V hvb.lt hVg)
        have hr3 := hrb.block (hB3.block _ hrb.lt hRg)
        obtain ⟨v0, v1, v2⟩ := hv3.cells
        obtain ⟨z0, z1, z2⟩ := hv3.fz
        have hv4 := hv3.set1 (.int .i64 x)
        have hr4 := hr3.other (C := V) (i := 1) (u := (.int .i64 x)) (by omega)
        obtain ⟨W4, hW4⟩ : ∃ W, Hid (W3.setCell ⟨V, 1, none⟩ (.int .i64 x) = W) := ⟨_, rfl⟩
        have hR4 := hR3.setHigh (B := V) (i := 1) (.int .i64 x) (by omega)
        rw [hW4.out] at hv4 hr4 hR4
        obtain ⟨y0, y1, y2⟩ := hv4.cells
        obtain ⟨p0, p1, p2⟩ := hr4.cells
        obtain ⟨q0, q1, q2⟩ := hr4.fz
        have hr5 := ((hr4.set0 (.int .i64 t)).set1 (.int .i64 x)).set2 (.string ⟨#[]⟩)
        obtain ⟨g0, g1, g2⟩ := hr5.cells
        have HR : Hid (Cr w g ao n cap f (((W4.setCell ⟨w.heap.size + 1, 0, none⟩ (.int .i64 t)).setCell ⟨w.heap.size + 1, 1, none⟩ (.int .i64 x)).setCell ⟨w.heap.size + 1, 2, none⟩ (.string ⟨#[]⟩))) := ((hR4.setHigh (B := w.heap.size + 1) (i := 0) _ (by omega)).setHigh (B := w.heap.size + 1) (i := 1) _ (by omega)).setHigh (B := w.heap.size + 1) (i := 2) _ (by omega)
        clear hI hO3 hvb hrb hRb hC3 hB3 hR3 hv3 hr3 hv4 hr4 hR4 hr5 hv hc2 hr2 hR2
        go_wp2_with (rw [hW4.out])
        exact bodyPost_ret (v := .agg #[.int .i64 t, .int .i64 x, .string ⟨#[]⟩]) (by simp [results, Tryz.results57, go_sem, g0, g1, g2]) rfl ⟨_, _, _, rfl, .inr ⟨rfl, by decide, fun h => absurd h h3, fun _ => rfl, fun h => absurd h h4, hxr.1, hxr.2⟩, HR.out⟩
end Go.Proofs.YtkakkjnbhklfpaaGreatDoor

