/-
  Together: Draw, DrawBut, DrawKit9, DrawOnce, Draw9Two, DrawInt, DrawStrOf
-/
import Derived.Test.YtjoimkfpenbkmaaGreatDoorPackP1
import Derived.Test.YtjoimkfpenbkmaaGreatDoorPackP2
import Derived.WalkSpells
import Derived.Test.YtjoimkfpenbkmaaGreatDoorPackP19
import Derived.Test.YtjoimkfpenbkmaaGreatDoorPackP8
import Derived.Deep.RegionHeld3
/-
  The cursor that the draws go by: what each draw comes to, as far as a law leans on it: a number within its bounds, bytes of their own; nothing turns but the cursor.
-/
namespace Go.Proofs.YtjoimkfpenbkmaaGreatDoor
open Go.RowKit
set_option maxRecDepth 4000

theorem i64_and255 (n : Int) : bits .and .i64 n 255 = n % 256 := by
  have h255 : (BitVec.ofInt 64 255).toNat = 2 ^ 8 - 1 := by decide
  have key : (BitVec.ofInt 64 n &&& BitVec.ofInt 64 255).toNat = (n % ((2 ^ 64 : Nat) : Int)).toNat % 2 ^ 8 := by
    rw [BitVec.toNat_and, BitVec.toNat_ofInt, h255, Nat.and_two_pow_sub_one_eq_mod]
  show IntKind.i64.wrap ((BitVec.ofInt 64 n &&& BitVec.ofInt 64 255).toNat : Nat) = n % 256
  rw [key, IntKind.wrap_i64]
  omega

theorem Only.trans {b : Nat} {w w1 w2 : World} (h : Only b w w1) (k : Only b w1 w2) : Only b w w2 :=
  ⟨k.os.trans h.os, k.tape.trans h.tape, k.output.trans h.output, k.size.trans h.size, fun i hi => (k.block i hi).trans (h.block i hi)⟩

/-- The three cells of a cursor. -/
def curF (ao : Option Addr) (n cap : Nat) (i h : Int) : Nat → Value
  | 0 => .slice ao n cap
  | 1 => .int .i64 i
  | _ => .int .i64 h

structure Cur (w : World) (g : Nat) (ao : Option Addr) (n cap : Nat) (f : Nat → Int) : Prop where
  cells : ∃ i h : Int, w.rowIs g 129 3 (curF ao n cap i h) ∧ 0 ≤ i ∧ i ≤ n
  view : View w ao n cap f
  apart : ∀ a, ao = some a → 0 < n → a.block ≠ g

theorem Cur.lt {w : World} {g : Nat} {ao : Option Addr} {n cap : Nat} {f : Nat → Int} (h : Cur w g ao n cap f) : g < w.heap.size := by
  obtain ⟨i, k, hr, _⟩ := h.cells
  exact hr.lt

theorem Cur.below {w w' : World} {g : Nat} {ao : Option Addr} {n cap : Nat} {f : Nat → Int} (h : Cur w g ao n cap f) (hb : Below w.heap.size w w') : Cur w' g ao n cap f := by
  obtain ⟨i, k, hr, h0, h1⟩ := h.cells
  exact ⟨⟨i, k, hr.of_block (hb.block g hr.lt), h0, h1⟩, h.view.below hb, h.apart⟩

set_option maxHeartbeats 2000000 in
theorem l1Byte_any (g : Nat) (ao : Option Addr) (n cap : Nat) (f : Nat → Int) (w : World) (hn : n ≤ 1048576) (hC : Cur w g ao n cap f) :
    Calls Tryz.prog 101 #[.pointer (some ⟨g, 0, none⟩)] w fun e w' => ∃ x : Int, e = .returned (.int .i64 x) ∧ 0 ≤ x ∧ x ≤ 255 ∧ Cur w' g ao n cap f ∧ Only g w w' := by
  obtain ⟨i, h, hr, hi0, hi1⟩ := hC.cells
  have c0 : w.cell? ⟨g, 0, none⟩ = some (.slice ao n cap) := hr.cell (by decide)
  have c1 : w.cell? ⟨g, 1, none⟩ = some (.int .i64 i) := hr.cell (by decide)
  have c2 : w.cell? ⟨g, 2, none⟩ = some (.int .i64 h) := hr.cell (by decide)
  have z1 := hr.frozen 1
  have z2 := hr.frozen 2
  have hA : ∀ z : Int, bits .and .i64 z 255 = z % 256 := i64_and255
  by_cases hlt : i < n
  · have hv := hC.view
    obtain ⟨b, off, rfl, hb, hc⟩ := hv.cells (by omega)
    have hne : b ≠ g := hC.apart _ rfl (by omega)
    obtain ⟨k, rfl⟩ := Int.eq_ofNat_of_zero_le hi0
    have hbk := hv.byte k (by omega)
    have hck := hc k (by omega)
    clear hc
    go_enter Tryz.func101, Tryz.ntmps101
    go_wp2
    go_region
    all_goals go_wp2
    all_goals go_region
    all_goals go_wp2
    all_goals go_region
    all_goals go_wp2
    go_ret
    have hO : Only g w ((w.setCell ⟨g, 2, none⟩ (.int .i64 (wrap64 (wrap64 (h * 6364136223846793005) + 1442695040888963407)))).setCell ⟨g, 1, none⟩ (.int .i64 ((k : Int) + 1))) := ((Only.refl _ _).setCell _).setCell _
    have hR := ((hr.set 2 (.int .i64 (wrap64 (wrap64 (h * 6364136223846793005) + 1442695040888963407)))).set 1 (.int .i64 ((k : Int) + 1))).congr (g := curF (some ⟨b, off, none⟩) n cap ((k : Int) + 1) (wrap64 (wrap64 (h * 6364136223846793005) + 1442695040888963407)))
      (fun j hj => by match j, hj with | 0, _ => rfl | 1, _ => rfl | 2, _ => rfl)
    exact ⟨_, rfl, by omega, by omega, ⟨⟨_, _, hR, by omega, by omega⟩, (hO.view hv (fun a ha => hC.apart a ha (by omega))).drew.drew.drew, hC.apart⟩, hO.os, hO.tape, hO.output, hO.size, hO.block⟩
  · go_enter Tryz.func101, Tryz.ntmps101
    go_wp2
    go_region
    all_goals go_wp2
    all_goals go_region
    all_goals go_wp2
    go_ret
    have hO : Only g w (w.setCell ⟨g, 2, none⟩ (.int .i64 (wrap64 (wrap64 (h * 6364136223846793005) + 1442695040888963407)))) := (Only.refl _ _).setCell _
    have hR := (hr.set 2 (.int .i64 (wrap64 (wrap64 (h * 6364136223846793005) + 1442695040888963407)))).congr (g := curF ao n cap i (wrap64 (wrap64 (h * 6364136223846793005) + 1442695040888963407)))
      (fun j hj => by match j, hj with | 0, _ => rfl | 1, _ => rfl | 2, _ => rfl)
    have hV : View (w.setCell ⟨g, 2, none⟩ (.int .i64 (wrap64 (wrap64 (h * 6364136223846793005) + 1442695040888963407)))) ao n cap f := by
      by_cases h0 : 0 < n
      · exact hO.view hC.view (fun a ha => hC.apart a ha h0)
      · exact ⟨hC.view.le, hC.view.byte, fun h => absurd h h0⟩
    exact ⟨_, rfl, by omega, by omega, ⟨⟨_, _, hR, hi0, hi1⟩, hV.drew.drew, hC.apart⟩, hO.os, hO.tape, hO.output, hO.size, hO.block⟩

set_option maxHeartbeats 1000000 in
theorem l1Below_any (g : Nat) (ao : Option Addr) (n cap : Nat) (f : Nat → Int) (m : Int) (w : World) (hn : n ≤ 1048576) (hm : 0 < m) (hm1 : m ≤ 16777216) (hC : Cur w g ao n cap f) :
    Calls Tryz.prog 54 #[.pointer (some ⟨g, 0, none⟩), .int .i64 m] w fun e w' => ∃ x : Int, e = .returned (.int .i64 x) ∧ 0 ≤ x ∧ x < m ∧ Cur w' g ao n cap f ∧ Only g w w' := by
  by_cases h256 : m ≤ 256
  · go_enter Tryz.func54, Tryz.ntmps54
    go_wp2_with fail
    refine (l1Byte_any g ao n cap f w hn hC).mono ?_
    rintro e w1 ⟨x, rfl, hx0, hx1, hC1, hO1⟩
    go_wp2
    go_ret
    exact ⟨_, rfl, Int.emod_nonneg _ (by omega), Int.emod_lt_of_pos _ hm, hC1, hO1⟩
  · go_enter Tryz.func54, Tryz.ntmps54
    go_wp2_with fail
    refine (l1Byte_any g ao n cap f w hn hC).mono ?_
    rintro e w1 ⟨x, rfl, hx0, hx1, hC1, hO1⟩
    go_wp2_with fail
    refine (l1Byte_any g ao n cap f w1 hn hC1).mono ?_
    rintro e w2 ⟨y, rfl, hy0, hy1, hC2, hO2⟩
    go_wp2_with fail
    refine (l1Byte_any g ao n cap f w2 hn hC2).mono ?_
    rintro e w3 ⟨z, rfl, hz0, hz1, hC3, hO3⟩
    go_wp2
    go_ret
    exact ⟨_, rfl, Int.emod_nonneg _ (by omega), Int.emod_lt_of_pos _ hm, hC3, (hO1.trans hO2).trans hO3⟩

set_option maxHeartbeats 1000000 in
theorem l1New_any (ao : Option Addr) (n cap : Nat) (f : Nat → Int) (w : World) (hn : n ≤ 1048576) (hv : View w ao n cap f) :
    Calls Tryz.prog 42 #[.slice ao n cap] w fun e w' => e = .returned (.pointer (some ⟨w.heap.size, 0, none⟩)) ∧ Cur w' w.heap.size ao n cap f ∧ Below w.heap.size w w' := by
  go_enter Tryz.func42, Tryz.ntmps42
  go_wp2
  go_loopg [3, 4] n (fun q s i wr => w = wr ∧ ∃ (k : Nat) (h : Int), k ≤ n ∧ q = n - k ∧ s = .int .i64 h ∧ i = .int .i64 k)
  case atStart => exact ⟨rfl, 0, _, Nat.zero_le _, rfl, rfl, rfl⟩
  case round =>
    obtain ⟨rfl, k, h, hk, rfl, rfl, rfl⟩ := hrel
    by_cases hlt : k < n
    · obtain ⟨b, off, rfl, hb, hc⟩ := hv.cells (by omega)
      have hkz : (k : Int) < (n : Int) := by omega
      have hc1 := hc k hlt
      have hbk := hv.byte k hlt
      by_cases h4 : k < 4000
      · have hz4 : (k : Int) < 4000 := by omega
        clear hc
        go_wp2
        go_roundg (n - (k + 1))
        case measure => omega
        case rel => exact ⟨rfl, k + 1, _, by omega, rfl, rfl, by go_num⟩
      · have hz4 : ¬ (k : Int) < 4000 := by omega
        clear h4
        clear hc
        go_wp2
        go_ret
        refine ⟨rfl, ⟨⟨0, _, World.rowIs_alloc w _ 129 (curF (some ⟨b, off, none⟩) n cap 0 h) (fun j hj => ?_), by omega, by omega⟩, hv.below ((Below.refl _ _).alloc (Nat.le_refl _) _), fun a ha _ => ?_⟩, (Below.refl _ _).alloc (Nat.le_refl _) _⟩
        · match j, hj with | 0, _ => rfl | 1, _ => rfl | 2, _ => rfl
        · cases ha; show b ≠ w.heap.size; omega
    · have hkz : (n : Int) ≤ (k : Int) := by omega
      go_wp2
      go_ret
      refine ⟨rfl, ⟨⟨0, _, World.rowIs_alloc w _ 129 (curF ao n cap 0 h) (fun j hj => ?_), by omega, by omega⟩, hv.below ((Below.refl _ _).alloc (Nat.le_refl _) _), fun a ha h0 => ?_⟩, (Below.refl _ _).alloc (Nat.le_refl _) _⟩
      · match j, hj with | 0, _ => rfl | 1, _ => rfl | 2, _ => rfl
      · obtain ⟨b, off, e, hb, _⟩ := hv.cells h0
        rw [e] at ha; cases ha; show b ≠ w.heap.size; omega
end Go.Proofs.YtjoimkfpenbkmaaGreatDoor

/-
  What turns but the cursor: how it is carried.
-/
namespace Go.Proofs.YtjoimkfpenbkmaaGreatDoor
open Go.RowKit
set_option maxRecDepth 4000

theorem Cur.grown {w w' : World} {g : Nat} {ao : Option Addr} {n cap : Nat} {f : Nat → Int} {row : Option Nat} (h : Cur w g ao n cap f) (hg : w.grownBy w' row) (h1 : row ≠ some g) (h2 : ∀ a, ao = some a → 0 < n → row ≠ some a.block) : Cur w' g ao n cap f := by
  obtain ⟨i, k, hr, h0, hi⟩ := h.cells
  refine ⟨⟨i, k, hr.of_block (hg.block g hr.lt (fun e => h1 e.symm)), h0, hi⟩, ⟨h.view.le, h.view.byte, fun hn => ?_⟩, h.apart⟩
  obtain ⟨b', off, e, hlt, hc⟩ := h.view.cells hn
  refine ⟨b', off, e, Nat.lt_of_lt_of_le hlt hg.size, fun j hj => ?_⟩
  rw [World.cell?_of_block (w := w) (hg.block b' hlt (fun e' => h2 _ e hn e'.symm))]
  exact hc j hj
theorem Cur.code {w : World} {g : Nat} {ao : Option Addr} {n cap : Nat} {f : Nat → Int} (h : Cur w g ao n cap f) : ∀ a, ao = some a → 0 < n → a.block < w.heap.size := by
  rintro a rfl hn
  obtain ⟨b, off, e, hlt, _⟩ := h.view.cells hn
  cases e
  exact hlt

end Go.Proofs.YtjoimkfpenbkmaaGreatDoor

/-
  What the draws of tables turn besides: the cursor.
-/
namespace Go.Proofs.YtjoimkfpenbkmaaGreatDoor
open Go.RowKit
set_option maxRecDepth 4000

/-- The cursor, and what has turned since w: it alone, of what was there. -/
structure Cr (w : World) (g : Nat) (ao : Option Addr) (n cap : Nat) (f : Nat → Int) (W : World) : Prop where
  cur : Cur W g ao n cap f
  but : But g w W
  lt : g < w.heap.size
  code : ∀ a, ao = some a → 0 < n → a.block < w.heap.size
theorem Cr.start {w : World} {g : Nat} {ao : Option Addr} {n cap : Nat} {f : Nat → Int} (h : Cur w g ao n cap f) : Cr w g ao n cap f w := ⟨h, But.refl _ _, h.lt, h.code⟩
theorem Cr.next {w : World} {g : Nat} {ao : Option Addr} {n cap : Nat} {f : Nat → Int} {W W' : World} (h : Cr w g ao n cap f W) (hc : Cur W' g ao n cap f) (hb : But g W W') : Cr w g ao n cap f W' := ⟨hc, h.but.trans hb, h.lt, h.code⟩
theorem Cr.eff {w : World} {g : Nat} {ao : Option Addr} {n cap : Nat} {f : Nat → Int} {T : TypeId} {W W' : World} (h : Cr w g ao n cap f W) (e : Eff w T W W') : Cr w g ao n cap f W' := by
  have hs := h.but.size
  have hg := h.lt
  refine ⟨?_, ⟨e.os.trans h.but.os, e.tape.trans h.but.tape, e.output.trans h.but.output, Nat.le_trans hs e.size, fun k hk hne => (e.old k hk (by omega)).trans (h.but.block k hk hne)⟩, h.lt, h.code⟩
  obtain ⟨i, k, hr, h0, hi⟩ := h.cur.cells
  refine ⟨⟨i, k, hr.of_block (e.old g hg (by omega)), h0, hi⟩, ⟨h.cur.view.le, h.cur.view.byte, fun hn => ?_⟩, h.cur.apart⟩
  obtain ⟨b', off, ea, hlt, hc⟩ := h.cur.view.cells hn
  have hb' := h.code _ ea hn
  refine ⟨b', off, ea, Nat.lt_of_lt_of_le hlt e.size, fun j hj => ?_⟩
  rw [World.cell?_of_block (w := W) (e.old b' hb' hlt)]
  exact hc j hj
theorem Cr.size {w : World} {g : Nat} {ao : Option Addr} {n cap : Nat} {f : Nat → Int} {W : World} (h : Cr w g ao n cap f W) : w.heap.size ≤ W.heap.size := h.but.size
end Go.Proofs.YtjoimkfpenbkmaaGreatDoor

/-
  A draw of yes or no.
-/
namespace Go.Proofs.YtjoimkfpenbkmaaGreatDoor
open Go.RowKit
set_option maxRecDepth 4000

set_option maxHeartbeats 1000000 in
theorem l1Once_any (g : Nat) (ao : Option Addr) (n cap : Nat) (f : Nat → Int) (m : Int) (w : World) (hn : n ≤ 1048576) (hm : 0 < m) (hm1 : m ≤ 16777216) (hC : Cur w g ao n cap f) :
    Calls Tryz.prog 100 #[.pointer (some ⟨g, 0, none⟩), .int .i64 m] w fun e w' => ∃ b : Bool, e = .returned (.bool b) ∧ Cur w' g ao n cap f ∧ Only g w w' := by
  go_enter Tryz.func100, Tryz.ntmps100
  go_wp2_with fail
  refine (l1Below_any g ao n cap f m w hn hm hm1 hC).mono ?_
  rintro e w1 ⟨x, rfl, hx0, hx1, hC1, hO1⟩
  go_wp2
  go_ret
  exact ⟨_, rfl, hC1, hO1⟩
end Go.Proofs.YtjoimkfpenbkmaaGreatDoor

/-
  The draw of one or two parts.
-/
namespace Go.Proofs.YtjoimkfpenbkmaaGreatDoor
open Go.RowKit
set_option maxRecDepth 4000

/-- One part in a new row. -/
theorem own_by1 {w W : World} (hw : w.heap.size ≤ W.heap.size) (c : Int) (d : Bool) : (W.alloc (.cells #[.int .i64 c, .bool d] 78)).ownsRow w.heap.size 78 2 (.slice (some ⟨W.heap.size, 0, none⟩) 1 1) 1 (rowG (encB (fun _ => ⟨c, d⟩)) 1) := by
  have := World.ownsRow_lit (base := w.heap.size) (e := 78) (size := 2) W #[.int .i64 c, .bool d] 1 hw (by unfold maxLen; omega) rfl
  simpa [rowG, encB] using this

/-- One or two parts that were drawn. -/
def Drew2 (w : World) (g : Nat) (ao : Option Addr) (n cap : Nat) (f : Nat → Int) (b c N : Nat) (w' : World) : Prop :=
  ∃ h : Nat → PBy, (1 ≤ N ∧ N ≤ 2) ∧ w'.ownsRow w.heap.size 78 2 (.slice (some ⟨b, 0, none⟩) N c) N (rowG (encB h) N) ∧ Cur w' g ao n cap f ∧ But g w w'

set_option maxHeartbeats 4000000 in
theorem l9Draw2_any (g : Nat) (ao : Option Addr) (n cap : Nat) (f : Nat → Int) (m : Int) (w : World) (hn : n ≤ 1048576) (hm : 0 < m) (hm1 : m ≤ 1000) (hC : Cur w g ao n cap f) :
    Calls Tryz.prog 92 #[.pointer (some ⟨g, 0, none⟩), .int .i64 m] w fun e w' => ∃ (b c N : Nat), e = .returned (.slice (some ⟨b, 0, none⟩) N c) ∧ Drew2 w g ao n cap f b c N w' := by
  obtain ⟨i0, hi, hz0, hz1, hz2⟩ := infoBy9
  have hR := Cr.start hC
  have hg := hR.lt
  clear hC
  go_enter Tryz.func92, Tryz.ntmps92
  go_wp2_with fail
  refine (l1Below_any g ao n cap f m _ hn hm (by omega) hR.cur).mono ?_
  rintro e w1 ⟨a, rfl, ha0, ha1, hC1, hO1⟩
  replace hR := hR.next hC1 (But.ofOnly hO1)
  clear hC1 hO1
  go_wp2_with fail
  refine (l1Once_any g ao n cap f 2 w1 hn (by omega) (by omega) hR.cur).mono ?_
  rintro e w2 ⟨o, rfl, hC2, hO2⟩
  replace hR := hR.next hC2 (But.ofOnly hO2)
  clear hC2 hO2
  have hO := own_by1 (w := w) (W := w2) hR.size a o
  have hE := Eff.alloc w 78 w2 (.cells #[.int .i64 a, .bool o] 78)
  replace hR := hR.eff hE
  clear hE
  by_cases h1 : m > 1
  · go_wp2_with fail
    obtain ⟨w3, hw3⟩ : ∃ w3, Hid (w3 = w2.alloc (.cells #[.int .i64 a, .bool o] 78)) := ⟨_, rfl⟩
    obtain ⟨b, hb⟩ : ∃ b, Hid (b = w2.heap.size) := ⟨_, rfl⟩
    rw [← hw3.out, ← hb.out] at hO ⊢
    rw [← hw3.out] at hR
    refine (l1Once_any g ao n cap f 3 w3 hn (by omega) (by omega) hR.cur).mono ?_
    rintro e w4 ⟨p, rfl, hC4, hO4⟩
    replace hO := own_but9 hO (But.ofOnly hO4) hg
    replace hR := hR.next hC4 (But.ofOnly hO4)
    clear hC4 hO4 hw3 hb
    cases p with
    | false =>
      have HR : Hid (w4.ownsRow w.heap.size 78 2 (.slice (some ⟨b, 0, none⟩) 1 1) 1 (rowG (encB (fun _ => ⟨a, o⟩)) 1) ∧ Cr w g ao n cap f w4) := ⟨hO, hR⟩
      clear hO hR
      go_wp2
      go_ret
      exact ⟨b, 1, 1, rfl, _, by omega, HR.out.1, HR.out.2.cur, HR.out.2.but⟩
    | true =>
      go_wp2_with fail
      have e1 : wrap64 (a + 1) = a + 1 := by unfold wrap64; omega
      have e2 : IntKind.i64.wrap (a + 1) = a + 1 := by rw [IntKind.wrap_i64]; omega
      have e3 : ¬ (m = 0) := by omega
      refine wp_region_held_drew (S := fun _ => True) (by kernel_rfl) trivial (fun hHeld => ?_)
      have hbd : Below w4.heap.size w4 w4.drew := (Below.refl _ _).drew
      replace hO := own_belowG9 hO hbd
      replace hR := hR.eff (T := 28) (Eff.ofBelow hbd)
      obtain ⟨wd, hwd⟩ : ∃ wd, Hid (wd = w4.drew) := ⟨_, rfl⟩
      rw [← hwd.out] at hO hR ⊢
      clear hbd
      refine' wpAnyH_take (i := 0) (v := _) rfl (by kernel_rfl) (by kernel_rfl) (by kernel_rfl) (fun _ _ _ h => h) (Or.inl ⟨by kernel_rfl, ?hda1⟩) (by assumption) ?rda1
      case hda1 => intro W hW; go_simp; all_goals with_reducible rfl
      change wpAnyH _ _ _ _ _ _ _ (Act.put _ (some 21) _) _
      simp only [Act.put, List.setIfInBounds_toArray, List.set_cons_zero, List.set_cons_succ]
      refine' wpAnyH_take (i := 1) (v := _) rfl (by kernel_rfl) (by kernel_rfl) (by kernel_rfl) (fun _ _ _ h => h) (Or.inl ⟨by kernel_rfl, ?hda2⟩) (by assumption) ?rda2
      case hda2 => intro W hW; go_simp; all_goals with_reducible rfl
      change wpAnyH _ _ _ _ _ _ _ (Act.put _ (some 22) _) _
      simp only [Act.put, List.setIfInBounds_toArray, List.set_cons_zero, List.set_cons_succ]
      refine' wpAnyH_take (i := 2) (v := _) rfl (by kernel_rfl) (by kernel_rfl) (by kernel_rfl) (fun _ _ _ h => h) (Or.inl ⟨by kernel_rfl, ?hda3⟩) (by assumption) ?rda3
      case hda3 => intro W hW; go_simp; all_goals with_reducible rfl
      change wpAnyH _ _ _ _ _ _ _ (Act.put _ (some 23) _) _
      simp only [Act.put, List.setIfInBounds_toArray, List.set_cons_zero, List.set_cons_succ]
      refine' wpAnyH_take (i := 3) (v := _) rfl (by kernel_rfl) (by kernel_rfl) (by kernel_rfl) (fun _ _ _ h => h) (Or.inl ⟨by kernel_rfl, ?hda4⟩) (by assumption) ?rda4
      case hda4 => intro W hW; go_simp; all_goals with_reducible rfl
      change wpAnyH _ _ _ _ _ _ _ (Act.put _ (some 24) _) _
      simp only [Act.put, List.setIfInBounds_toArray, List.set_cons_zero, List.set_cons_succ]
      refine' wpAnyH_take (i := 4) (v := _) rfl (by kernel_rfl) (by kernel_rfl) (by kernel_rfl) (fun _ _ _ h => h) (Or.inl ⟨by kernel_rfl, ?hda5⟩) (by assumption) ?rda5
      case hda5 => intro W hW; go_simp; all_goals with_reducible rfl
      change wpAnyH _ _ _ _ _ _ _ (Act.put _ (some 25) _) _
      simp only [Act.put, List.setIfInBounds_toArray, List.set_cons_zero, List.set_cons_succ]
      refine' wpAnyH_take (i := 5) (v := _) rfl (by kernel_rfl) (by kernel_rfl) (by kernel_rfl) (fun _ _ _ h => h) (Or.inl ⟨by kernel_rfl, ?hda6⟩) (by assumption) ?rda6
      case hda6 => intro W hW; go_simp; all_goals with_reducible rfl
      change wpAnyH _ _ _ _ _ _ _ (Act.put _ (some 26) _) _
      simp only [Act.put, List.setIfInBounds_toArray, List.set_cons_zero, List.set_cons_succ]
      refine wpAnyH_ready (rs := [6]) (by kernel_rfl) (by simp) ?_
      refine AllReadyH.cons rfl (fun KK hK => ?_) AllReadyH.nil
      go_simp
      refine (l1Once_any g ao n cap f 2 _ hn (by omega) (by omega) hR.cur).mono ?_
      rintro e w5 ⟨q, rfl, hC5, hO5⟩
      replace hO := own_but9 hO (But.ofOnly hO5) hg
      replace hR := hR.next hC5 (But.ofOnly hO5)
      clear hC5 hO5
      go_wp2_with fail
      refine hK.out _ _ trivial (fun hHeld => ?_)
      clear hK KK
      try simp only [Act.put, List.setIfInBounds_toArray, List.set_cons_zero, List.set_cons_succ]
      refine' wpAnyH_take (i := 7) (v := _) rfl (by kernel_rfl) (by kernel_rfl) (by kernel_rfl) (fun _ _ _ h => h) (Or.inl ⟨by kernel_rfl, ?hda7⟩) (by assumption) ?rda7
      case hda7 => intro W hW; go_simp; all_goals with_reducible rfl
      change wpAnyH _ _ _ _ _ _ _ (Act.put _ (some 28) _) _
      simp only [Act.put, List.setIfInBounds_toArray, List.set_cons_zero, List.set_cons_succ]
      refine wpAnyH_ready (rs := [8]) (by kernel_rfl) (by simp) ?_
      refine AllReadyH.cons rfl (fun KK hK => ?_) AllReadyH.nil
      go_simp
      have hcl := cells_by9 w5 (Int.tmod (a + 1) m) q
      have hbA : Below w5.heap.size w5 (w5.alloc (.cells #[.int .i64 (Int.tmod (a + 1) m), .bool q] 78)) := (Below.refl _ _).alloc (Nat.le_refl _) _
      replace hO := own_belowG9 hO hbA
      replace hR := hR.eff (T := 28) (Eff.ofBelow hbA)
      have hsz := hR.size
      refine hK.out _ _ trivial (fun hHeld => ?_)
      clear hK KK
      try simp only [Act.put, List.setIfInBounds_toArray, List.set_cons_zero, List.set_cons_succ]
      refine wpAnyH_ready (rs := [9]) (by kernel_rfl) (by simp) ?_
      refine AllReadyH.cons rfl (fun KK hK => ?_) AllReadyH.nil
      rw [if_pos (by kernel_rfl)]
      refine wp_append_own _ (.tmp 21) (.tmp 29) 25 rfl w.heap.size 78 i0 (.agg #[.int .i64 0, .bool false]) 2 16 Tryz.underlying25 hi hz0 hz1 hz2 rfl (by decide) _ _ _ rfl hO ⟨w5.heap.size, 0, none⟩ 1 1 [.int .i64 (Int.tmod (a + 1) m), .bool q] rfl rfl hcl (one_by9 _ _) (by unfold maxLen; omega) (by omega) (by omega) ?_
      intro v6 w6 hO6 hgr6 hnil6
      have hE := Eff.grown hO hgr6
      replace hR := hR.eff hE
      obtain ⟨b6, c6, rfl⟩ := own_succG hO6
      have hO7 : w6.ownsRow w.heap.size 78 2 (.slice (some ⟨b6, 0, none⟩) 2 c6) 2 (rowG (encB (upd (fun _ => ⟨a, o⟩) 1 ⟨Int.tmod (a + 1) m, q⟩)) 2) := by rw [rowG_updB]; exact hO6
      clear hE hO hO6 hgr6 hnil6 hcl hbA
      refine hK.out _ _ trivial (fun hHeld => ?_)
      clear hK KK
      change wpAnyH _ _ _ _ _ _ _ (Act.put _ (some 30) _) _
      try simp only [Act.put, List.setIfInBounds_toArray, List.set_cons_zero, List.set_cons_succ]
      refine' wpAnyH_take (i := 10) (v := _) rfl (by kernel_rfl) (by kernel_rfl) (by kernel_rfl) (fun _ _ _ h => h) (Or.inl ⟨by kernel_rfl, ?hda8⟩) (by assumption) ?rda8
      case hda8 => intro W hW; go_simp; all_goals with_reducible rfl
      change wpAnyH _ _ _ _ _ _ _ (Act.put _ (some 6) _) _
      simp only [Act.put, List.setIfInBounds_toArray, List.set_cons_zero, List.set_cons_succ]
      refine wpAnyH_done (by kernel_rfl) ?_ _
      have HR : Hid (w6.ownsRow w.heap.size 78 2 (.slice (some ⟨b6, 0, none⟩) 2 c6) 2 (rowG (encB (upd (fun _ => ⟨a, o⟩) 1 ⟨Int.tmod (a + 1) m, q⟩)) 2) ∧ Cr w g ao n cap f w6) := ⟨hO7, hR⟩
      clear hO7 hR
      go_wp2
      go_ret
      exact ⟨b6, c6, 2, rfl, _, by omega, HR.out.1, HR.out.2.cur, HR.out.2.but⟩
  · have HR : Hid ((w2.alloc (.cells #[.int .i64 a, .bool o] 78)).ownsRow w.heap.size 78 2 (.slice (some ⟨w2.heap.size, 0, none⟩) 1 1) 1 (rowG (encB (fun _ => ⟨a, o⟩)) 1) ∧ Cr w g ao n cap f (w2.alloc (.cells #[.int .i64 a, .bool o] 78))) := ⟨hO, hR⟩
    clear hO hR
    go_wp2
    go_ret
    exact ⟨w2.heap.size, 1, 1, rfl, _, by omega, HR.out.1, HR.out.2.cur, HR.out.2.but⟩
end Go.Proofs.YtjoimkfpenbkmaaGreatDoor

/-
  One of a row of numbers, as it is drawn.
-/
namespace Go.Proofs.YtjoimkfpenbkmaaGreatDoor
open Go.RowKit
set_option maxRecDepth 4000

set_option maxHeartbeats 1000000 in
theorem l1Int_any (g : Nat) (ao : Option Addr) (n cap : Nat) (f : Nat → Int) (b m : Nat) (z : Nat → Int) (w : World) (hn : n ≤ 1048576) (hm : 0 < m) (hm1 : m ≤ 16777216) (hz : ∀ i, i < m → w.cell? ⟨b, i, none⟩ = some (.int .i64 (z i))) (hbg : b ≠ g) (hC : Cur w g ao n cap f) :
    Calls Tryz.prog 44 #[.pointer (some ⟨g, 0, none⟩), .slice (some ⟨b, 0, none⟩) m m] w fun e w' => ∃ j : Nat, j < m ∧ e = .returned (.int .i64 (z j)) ∧ Cur w' g ao n cap f ∧ Only g w w' := by
  go_enter Tryz.func44, Tryz.ntmps44
  go_wp2_with fail
  refine (l1Below_any g ao n cap f m w hn (by omega) (by omega) hC).mono ?_
  rintro e w1 ⟨x, rfl, hx0, hx1, hC1, hO1⟩
  obtain ⟨j, rfl⟩ := Int.eq_ofNat_of_zero_le hx0
  have hj : w1.cell? ⟨b, j, none⟩ = some (.int .i64 (z j)) := by
    rw [World.cell?_of_block (w := w) (hO1.block b hbg)]; exact hz j (by omega)
  go_wp2
  go_ret
  exact ⟨j, by omega, rfl, hC1, hO1⟩
end Go.Proofs.YtjoimkfpenbkmaaGreatDoor

/-
  One of a list of texts, as a law leans on it.
-/
namespace Go.Proofs.YtjoimkfpenbkmaaGreatDoor
open Go.RowKit
set_option maxRecDepth 4000

set_option maxHeartbeats 1000000 in
theorem l1Str_any (g : Nat) (ao : Option Addr) (n cap : Nat) (f : Nat → Int) (b m : Nat) (z : Nat → ByteArray) (w : World) (hn : n ≤ 1048576) (hm : 0 < m) (hm1 : m ≤ 16777216) (hz : ∀ i, i < m → w.cell? ⟨b, i, none⟩ = some (.string (z i))) (hbg : b ≠ g) (hC : Cur w g ao n cap f) :
    Calls Tryz.prog 91 #[.pointer (some ⟨g, 0, none⟩), .slice (some ⟨b, 0, none⟩) m m] w fun e w' => ∃ j : Nat, j < m ∧ e = .returned (.string (z j)) ∧ Cur w' g ao n cap f ∧ Only g w w' := by
  go_enter Tryz.func91, Tryz.ntmps91
  go_wp2_with fail
  refine (l1Below_any g ao n cap f m w hn (by omega) (by omega) hC).mono ?_
  rintro e w1 ⟨x, rfl, hx0, hx1, hC1, hO1⟩
  obtain ⟨j, rfl⟩ := Int.eq_ofNat_of_zero_le hx0
  have hj : w1.cell? ⟨b, j, none⟩ = some (.string (z j)) := by
    rw [World.cell?_of_block (w := w) (hO1.block b hbg)]; exact hz j (by omega)
  go_wp2
  go_ret
  exact ⟨j, by omega, rfl, hC1, hO1⟩

/-- The cells of a list of texts that is laid anew. -/
theorem newStrs (w : World) (l : List ByteArray) (t : TypeId) : ∀ i, i < l.length → (w.alloc (.cells (l.map Value.string).toArray t)).cell? ⟨w.heap.size, i, none⟩ = some (.string (l.getD i ⟨#[]⟩)) := by
  intro i hi
  rw [World.cell?, show (w.alloc (.cells (l.map Value.string).toArray t)).heap[w.heap.size]? = some (.cells (l.map Value.string).toArray t) from Deep.blk_alloc_new _ _]
  simp [hi]

/-- One of a list of texts that is laid anew. -/
theorem l1Str_mem (g : Nat) (ao : Option Addr) (n cap : Nat) (f : Nat → Int) (l : List ByteArray) (A : Nat) (w : World) (hA : A = w.heap.size) (hn : n ≤ 1048576) (h0 : 0 < l.length) (h1 : l.length ≤ 1000) (hC : Cur w g ao n cap f) :
    Calls Tryz.prog 91 #[.pointer (some ⟨g, 0, none⟩), .slice (some ⟨A, 0, none⟩) l.length l.length] (w.alloc (.cells (l.map Value.string).toArray 9)) fun e w' => ∃ z : ByteArray, e = .returned (.string z) ∧ z ∈ l ∧ Cur w' g ao n cap f ∧ But g w w' := by
  subst hA
  have hb : Below w.heap.size w (w.alloc (.cells (l.map Value.string).toArray 9)) := (Below.refl _ _).alloc (Nat.le_refl _) _
  have hg := hC.lt
  refine (l1Str_any g ao n cap f w.heap.size l.length (fun i => l.getD i ⟨#[]⟩) _ hn h0 (by omega) (newStrs w l 9) (by omega) (hC.below hb)).mono ?_
  rintro e w' ⟨j, hj, rfl, hC2, hO2⟩
  exact ⟨_, rfl, by simp [hj], hC2, (But.ofBelow hb).trans (But.ofOnly hO2)⟩
end Go.Proofs.YtjoimkfpenbkmaaGreatDoor

