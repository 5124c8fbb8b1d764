/-
  Together: MarkVals, Vals, ValHelp, RowCopy, RowVMore, EqBytes, Mark, PView, PartRow, StrRow
-/
import Derived.Test.YtjoimkfpenbkmabGreatDoorPackK4
import Derived.Test.YtjoimkfpenbkmabGreatDoorPackK5
import Derived.Test.YtjoimkfpenbkmabGreatDoorPackK1
import Derived.Deep.LoopGhost
import Derived.Deep.RegionHeld3
import Derived.Deep.Strs
import Derived.Test.YtjoimkfpenbkmabGreatDoorPackK3
import Derived.Test.YtjoimkfpenbkmabGreatDoorProg
/-
  What the law's own helpers markValS and heldValS come to: the one writes counts into a row of values of the call's own, the other finds them there.
-/
namespace Go.Proofs.YtjoimkfpenbkmabGreatDoor
open Go.RowKit
set_option maxRecDepth 4000

/-- Block b is a row of values of the call's own, none frozen; its first cells are F 0, F 1 .. (three a value). -/
def RowV (w : World) (b n : Nat) (F : Nat → Value) : Prop :=
  ∃ c : Array Value, w.heap[b]? = some (.cells c 62 (0, 0)) ∧ n * 3 ≤ c.size ∧ ∀ i, i < n * 3 → c[i]? = some (F i)
namespace RowV
variable {w w' : World} {b n : Nat} {F G : Nat → Value}
theorem cell (h : RowV w b n F) {i : Nat} (hi : i < n * 3) : w.cell? ⟨b, i, none⟩ = some (F i) := by
  obtain ⟨c, hb, _, hc⟩ := h
  simp [World.cell?, hb, hc i hi]
theorem frozen (h : RowV w b n F) (i : Nat) : w.frozen? ⟨b, i, none⟩ = false := by
  obtain ⟨c, hb, _, _⟩ := h
  simp [World.frozen?, hb]
theorem lt (h : RowV w b n F) : b < w.heap.size := by
  obtain ⟨c, hb, _, _⟩ := h
  exact (Array.getElem?_eq_some_iff.1 hb).1
theorem of_block (h : RowV w b n F) (e : w'.heap[b]? = w.heap[b]?) : RowV w' b n F := by
  obtain ⟨c, hb, r⟩ := h
  exact ⟨c, e.trans hb, r⟩
theorem congr (h : RowV w b n F) (e : ∀ i, i < n * 3 → F i = G i) : RowV w b n G := by
  obtain ⟨c, h1, h2, h3⟩ := h
  exact ⟨c, h1, h2, fun i hi => by rw [h3 i hi, e i hi]⟩
theorem set (h : RowV w b n F) (i : Nat) (u : Value) : RowV (w.setCell ⟨b, i, none⟩ u) b n (fun j => if j = i then u else F j) := by
  obtain ⟨c, hb, hs, hc⟩ := h
  refine ⟨c.setIfInBounds i u, ?_, by simpa using hs, fun j hj => ?_⟩
  · simp [World.setCell, Array.getElem?_modify, hb]
  · rw [Array.getElem?_setIfInBounds]
    by_cases e : j = i
    · subst e
      have : j < c.size := by omega
      simp [this]
    · rw [if_neg (fun h => e h.symm)]
      show c[j]? = some (if j = i then u else F j)
      rw [if_neg e]
      exact hc j hj
/-- A row of the call's own that is no nil slice. -/
theorem ofOwn {base : Nat} {v : Value} {xs : List Value} (h : w.ownsRow base 62 3 v n xs) (hne : v ≠ .slice none 0 0) : ∃ b c, v = .slice (some ⟨b, 0, none⟩) n c ∧ base ≤ b ∧ n ≤ c ∧ RowV w b n (fun i => xs.getD i .nilFunc) := by
  obtain ⟨hl, h⟩ := h
  rcases h with ⟨h0, _⟩ | ⟨g, c, cur, rfl, hb, hg, hnc, hcm, hcs, ht⟩
  · exact absurd h0 hne
  · refine ⟨g, c, rfl, hb, hnc, cur, hg, by rw [hcs]; omega, fun i hi => ?_⟩
    have hx : xs[i]? = some (xs.getD i .nilFunc) := by
      have : i < xs.length := by omega
      simp [this]
    rw [← ht, List.getElem?_take, if_pos hi] at hx
    rw [← ht]
    simpa using hx
end RowV

/-- What is written into a cell. -/
def markV (k : Int) (i : Nat) : Value := if i % 3 = 2 then .string (markT (k + i)) else .int .i64 (k + i)

structure MarkedV (w wr : World) (b n : Nat) (F : Nat → Value) (k : Int) (j : Nat) : Prop where
  but : But b w wr
  row : RowV wr b n (fun i => if i < j * 3 then markV k i else F i)
theorem MarkedV.put {w wr : World} {b n : Nat} {F : Nat → Value} {k : Int} {j : Nat} (h : MarkedV w wr b n F k j) {wr2 : World} (hb : Below wr.heap.size ((wr.setCell ⟨b, j * 3, none⟩ (.int .i64 (k + 3 * j))).setCell ⟨b, j * 3 + 1, none⟩ (.int .i64 (k + 3 * j + 1))) wr2) :
    MarkedV w (wr2.setCell ⟨b, j * 3 + 2, none⟩ (.string (markT (k + 3 * j + 1 + 1)))) b n F k (j + 1) := by
  have hs : ∀ (W : World) (a : Addr) (u : Value), (W.setCell a u).heap.size = W.heap.size := fun W a u => by simp
  have o1 : Only b wr ((wr.setCell ⟨b, j * 3, none⟩ (.int .i64 (k + 3 * j))).setCell ⟨b, j * 3 + 1, none⟩ (.int .i64 (k + 3 * j + 1))) := ((Only.refl _ _).setCell _).setCell _
  have hlt := h.row.lt
  have hbut2 : But b wr wr2 := (But.ofOnly o1).trans (But.ofBelow (by rw [hs, hs]; exact hb))
  have hr2 : RowV wr2 b n _ := ((h.row.set (j * 3) (.int .i64 (k + 3 * j))).set (j * 3 + 1) (.int .i64 (k + 3 * j + 1))).of_block (hb.block b hlt)
  refine ⟨(h.but.trans hbut2).trans (But.ofOnly ((Only.refl _ _).setCell _)), (hr2.set (j * 3 + 2) _).congr (fun i _ => ?_)⟩
  by_cases e2 : i = j * 3 + 2
  · subst e2
    rw [if_pos rfl, if_pos (by omega)]
    unfold markV
    rw [if_pos (by omega)]
    congr 2
    push_cast
    omega
  by_cases e1 : i = j * 3 + 1
  · subst e1
    rw [if_neg (by omega), if_pos rfl, if_pos (by omega)]
    unfold markV
    rw [if_neg (by omega)]
    congr 1
    push_cast
    omega
  by_cases e0 : i = j * 3
  · subst e0
    rw [if_neg (by omega), if_neg (by omega), if_pos rfl, if_pos (by omega)]
    unfold markV
    rw [if_neg (by omega)]
    congr 1
    push_cast
    omega
  · rw [if_neg e2, if_neg e1, if_neg e0]
    by_cases hlt : i < j * 3
    · rw [if_pos hlt, if_pos (by omega)]
    · rw [if_neg hlt, if_neg (by omega)]

set_option maxHeartbeats 2000000 in
theorem markValS_any (b n cap : Nat) (F : Nat → Value) (k : Int) (w : World) (hr : RowV w b n F) (hk : 0 ≤ k) (hk1 : k + 3 * n ≤ 4611686018427387904) :
    Calls Tryz.prog 16 #[.slice (some ⟨b, 0, none⟩) n cap, .int .i64 k] w fun e w' => e = .returned (.int .i64 (k + 3 * n)) ∧ RowV w' b n (markV k) ∧ But b w w' := by
  go_enter Tryz.func16, Tryz.ntmps16
  go_wp2
  go_loopg [1, 5] n (fun g s i wr => ∃ j : Nat, j ≤ n ∧ g = n - j ∧ s = .int .i64 (k + 3 * j) ∧ i = .int .i64 j ∧ MarkedV w wr b n F k j)
  case atStart => exact ⟨0, Nat.zero_le _, rfl, by simp, rfl, But.refl _ _, hr.congr (fun i _ => by simp)⟩
  case round =>
    obtain ⟨j, hj, rfl, rfl, rfl, hM⟩ := hrel
    clear hr
    by_cases hlt : j < n
    · have hjz : (j : Int) < (n : Int) := by omega
      have z0 := hM.row.cell (i := j * 3) (by omega)
      have z1 := hM.row.cell (i := j * 3 + 1) (by omega)
      have f0 := hM.row.frozen (j * 3)
      have f1 := hM.row.frozen (j * 3 + 1)
      have hbl := hM.row.lt
      have hr2 := (hM.row.set (j * 3) (.int .i64 (k + 3 * j))).set (j * 3 + 1) (.int .i64 (k + 3 * j + 1))
      go_wp2_with fail
      refine (markText_any _ _ (by omega)).mono ?_
      rintro e w2 ⟨rfl, hb⟩
      have hb' : Below wr.heap.size ((wr.setCell ⟨b, j * 3, none⟩ (.int .i64 (k + 3 * j))).setCell ⟨b, j * 3 + 1, none⟩ (.int .i64 (k + 3 * j + 1))) w2 := by
        have e : ((wr.setCell ⟨b, j * 3, none⟩ (.int .i64 (k + 3 * j))).setCell ⟨b, j * 3 + 1, none⟩ (.int .i64 (k + 3 * j + 1))).heap.size = wr.heap.size := by simp
        rw [e] at hb
        exact hb
      have hr3 := hr2.of_block (hb'.block b hbl)
      have z2 := hr3.cell (i := j * 3 + 2) (by omega)
      have f2 := hr3.frozen (j * 3 + 2)
      have hS : Hid (MarkedV w (w2.setCell ⟨b, j * 3 + 2, none⟩ (.string (markT (k + 3 * j + 1 + 1)))) b n F k (j + 1)) := hM.put hb'
      clear hM hb hb' hr2 hr3 z0 z1 f0 f1
      go_wp2
      go_roundg (n - (j + 1))
      case measure => omega
      case rel => exact ⟨j + 1, by omega, rfl, by go_num, by go_num, hS.out⟩
    · obtain rfl : j = n := by omega
      have hF : Hid (RowV wr b j (markV k)) := hM.row.congr (fun i hi => by rw [if_pos hi])
      have hO := hM.but
      clear hM
      go_wp2
      go_ret
      exact ⟨rfl, hF.out, hO⟩

/-- A row that was marked reads so. -/
theorem RowV.marked {w : World} {b n c : Nat} {k : Int} (h : RowV w b n (markV k)) (hc : n ≤ c) : VView w (some ⟨b, 0, none⟩) n c (fun i => k + 3 * i) (fun i => k + 3 * i + 1) (fun i => markT (k + 3 * i + 1 + 1)) := by
  refine ⟨hc, fun _ => ⟨b, 0, rfl, h.lt, fun i hi => ?_⟩⟩
  have c0 := h.cell (i := i * 3) (by omega)
  have c1 := h.cell (i := i * 3 + 1) (by omega)
  have c2 := h.cell (i := i * 3 + 2) (by omega)
  unfold markV at c0 c1 c2
  rw [if_neg (by omega)] at c0 c1
  rw [if_pos (by omega)] at c2
  simp only [Nat.zero_add]
  refine ⟨?_, ?_, ?_⟩
  · rw [c0]; congr 2; push_cast; omega
  · rw [c1]; congr 2; push_cast; omega
  · rw [c2]; congr 3; push_cast; omega
end Go.Proofs.YtjoimkfpenbkmabGreatDoor

/-
  What the frame of a row hands over of a slice of values that came in.
-/
namespace Go.Proofs.YtjoimkfpenbkmabGreatDoor
open Go.RowKit Go.Deep

/-- What the frame of a row hands over of a slice of values that came in. -/
theorem valsIn {H : Type} {enc : TypeId × Value → H} {W : World} {sp : Nat → Bool} {a : Option Addr} {len cap : Nat} {d : DataW H} {p : List MemPlace} {T : TypeId}
    (ht : Tryz.prog.underlying T = some (.slice 51)) (h : DataW.Trod enc Tryz.prog W 0 sp true T (.slice a len cap) d p) :
    ∃ fk fn fs, VView W a len cap fk fn fs ∧ (∀ i, i < len → (fs i).size ≤ maxLen) ∧ cap ≤ maxLen := by
  obtain ⟨fuel, hf⟩ := h
  have c3 : Tryz.prog.cellsOf 51 = 3 := by kernel_rfl
  rcases DataW.trod_slice ht hf with ⟨hcs, _⟩ | ⟨x, l, c, elems, rest, n, _, hcs, _, _, hl, hm, hlen, hel, _, _⟩
  · simp [Value.cells] at hcs
    obtain ⟨rfl, rfl, rfl⟩ := hcs
    exact ⟨fun _ => 0, fun _ => 0, fun _ => ⟨#[]⟩, ⟨Nat.le_refl _, fun h => absurd h (Nat.lt_irrefl _)⟩, fun i hi => absurd hi (Nat.not_lt_zero _), Nat.zero_le _⟩
  · simp [Value.cells] at hcs
    obtain ⟨rfl, rfl, rfl⟩ := hcs
    have each : ∀ i, i < len → ∃ (k m : Int) (s : ByteArray), W.cell? (x.add (i * 3)) = some (.int .i64 k) ∧ W.cell? ((x.add (i * 3)).add 1) = some (.int .i64 m) ∧ W.cell? ((x.add (i * 3)).add 2) = some (.string s) ∧ s.size ≤ maxLen := by
      intro i hi
      have h1 := hel i hi
      rw [c3] at h1
      have h2 : elems[i]? = some elems[i] := List.getElem?_eq_getElem (by omega)
      rw [h2] at h1
      obtain ⟨cs, hcs, htr⟩ := Option.bind_eq_some_iff.1 h1
      obtain ⟨_, hl3, hcell⟩ := World.cells?_some hcs
      obtain ⟨y0, y1, y2, m, _, _, t0, t1, t2⟩ := trod_struct3 Tryz.underlying51 htr
      have o1 : Tryz.prog.cellsOf 3 = 1 := by kernel_rfl
      have o2 : Tryz.prog.cellsOf 9 = 1 := by kernel_rfl
      simp only [o1, o2] at t0 t1 t2
      match cs, hl3 with
      | [c0, c1, c2], _ =>
        simp only [List.drop_zero, List.drop_succ_cons, List.take_succ_cons, List.take_zero] at t0 t1 t2
        obtain ⟨k, e0, _, _⟩ := DataW.trod_int Tryz.underlying3 t0
        obtain ⟨m, e1, _, _⟩ := DataW.trod_int Tryz.underlying3 t1
        obtain ⟨s, e2, _, hs⟩ := DataW.trod_string Tryz.underlying9 t2
        simp only [List.cons.injEq, and_true] at e0 e1 e2
        subst e0 e1 e2
        refine ⟨k, m, s, ?_, ?_, ?_, hs⟩
        · have := hcell 0 (by omega)
          simpa [Addr.add] using this
        · exact hcell 1 (by omega)
        · exact hcell 2 (by omega)
    refine ⟨fun i => if h : i < len then (each i h).choose else 0, fun i => if h : i < len then (each i h).choose_spec.choose else 0, fun i => if h : i < len then (each i h).choose_spec.choose_spec.choose else ⟨#[]⟩, ⟨hl, fun hn => ?_⟩, fun i hi => ?_, hm⟩
    · obtain ⟨b, off, spot⟩ := x
      obtain ⟨k0, m0, s0, h0, _⟩ := each 0 hn
      have hs : spot = none := by simpa [Addr.add] using World.cell?_spot h0
      subst hs
      refine ⟨b, off, rfl, World.block_lt_of_cell? _ _ h0, fun i hi => ?_⟩
      have hsp := (each i hi).choose_spec.choose_spec.choose_spec
      have ea : (⟨b, off, none⟩ : Addr).add (i * 3) = ⟨b, off + i * 3, none⟩ := by unfold Addr.add; split <;> simp_all
      have eb : ∀ j, (⟨b, off + i * 3, none⟩ : Addr).add j = ⟨b, off + i * 3 + j, none⟩ := fun j => by unfold Addr.add; split <;> simp_all
      have e1 : (⟨b, off + i * 3 + 1, none⟩ : Addr) = ((⟨b, off, none⟩ : Addr).add (i * 3)).add 1 := by rw [ea, eb]
      have e2 : (⟨b, off + i * 3 + 2, none⟩ : Addr) = ((⟨b, off, none⟩ : Addr).add (i * 3)).add 2 := by rw [ea, eb]
      simp only [dif_pos hi]
      exact ⟨by rw [← ea]; exact hsp.1, by rw [e1]; exact hsp.2.1, by rw [e2]; exact hsp.2.2.1⟩
    · simp only [dif_pos hi]
      exact (each i hi).choose_spec.choose_spec.choose_spec.2.2.2
end Go.Proofs.YtjoimkfpenbkmabGreatDoor

/-
  What the law's own helpers over values come to.
-/
namespace Go.Proofs.YtjoimkfpenbkmabGreatDoor
open Go.RowKit
set_option maxRecDepth 4000

set_option maxHeartbeats 1000000 in
theorem szVal_small (k n : Int) (s : ByteArray) (left : Int) (w : World) (h : (s.size : Int) ≤ left) (hl : left ≤ 1048576) :
    Calls Tryz.prog 24 #[.agg #[.int .i64 k, .int .i64 n, .string s], .int .i64 left] w fun e w' => e = .returned (.int .i64 (left - s.size)) ∧ Below w.heap.size w w' := by
  have h1 : ¬ left - (s.size : Int) < 0 := by omega
  go_enter Tryz.func24, Tryz.ntmps24
  go_wp2
  go_ret
  exact ⟨rfl, (Below.refl _ _).alloc (Nat.le_refl _) _⟩

set_option maxHeartbeats 1000000 in
theorem szVal_big (k n : Int) (s : ByteArray) (left : Int) (w : World) (h : left < (s.size : Int)) (h0 : 0 ≤ left) (hs : s.size ≤ maxLen) :
    Calls Tryz.prog 24 #[.agg #[.int .i64 k, .int .i64 n, .string s], .int .i64 left] w fun e w' => e = .returned (.int .i64 (-1)) ∧ Below w.heap.size w w' := by
  have h1 : left - (s.size : Int) < 0 := by omega
  have hs : (s.size : Int) ≤ 9223372036854775807 := by unfold maxLen at hs; omega
  go_enter Tryz.func24, Tryz.ntmps24
  go_wp2
  go_ret
  exact ⟨rfl, (Below.refl _ _).alloc (Nat.le_refl _) _⟩

set_option maxHeartbeats 1000000 in
theorem toVal_any (k n : Int) (s : ByteArray) (w : World) :
    Calls Tryz.prog 30 #[.agg #[.int .i64 k, .int .i64 n, .string s]] w fun e w' => e = .returned (.agg #[.int .i64 k, .int .i64 n, .string s]) ∧ Below w.heap.size w w' := by
  go_enter Tryz.func30, Tryz.ntmps30
  go_wp2
  refine bodyPost_ret (v := valAgg k n s) (by simp [results, Tryz.results30, go_sem, valAgg]) rfl ⟨rfl, ?_⟩
  repeat (first | exact Below.refl _ _ | refine Below.alloc ?_ (by simp <;> omega) _ | refine Below.drew ?_)
end Go.Proofs.YtjoimkfpenbkmabGreatDoor

/-
  A row of values copied into a new one, as the law does it.
-/
namespace Go.Proofs.YtjoimkfpenbkmabGreatDoor
open Go.RowKit
set_option maxRecDepth 4000

def cellF (fk fn : Nat → Int) (fs : Nat → ByteArray) (j : Nat) : Value := if j % 3 = 0 then .int .i64 (fk (j / 3)) else if j % 3 = 1 then .int .i64 (fn (j / 3)) else .string (fs (j / 3))
def zeroF (j : Nat) : Value := if j % 3 = 0 then .int .i64 0 else if j % 3 = 1 then .int .i64 0 else .string ⟨#[]⟩

theorem Tryz.infoVal : (Tryz.prog.info? 62).map (fun i => (i.zero, i.size, i.bytes)) = some (some (.agg #[.int .i64 0, .int .i64 0, .string ⟨#[]⟩]), 3, 32) := by kernel_rfl

theorem make_vals (n : Nat) (h : n ≤ 1048576) (w : World) : (Instr.makeSlice 30 (.int .i64 (n : Int)) (.int .i64 (n : Int))).run Tryz.prog w = .ok (.slice (some ⟨w.heap.size, 0, none⟩) n n) (w.alloc (.cells (madeCells #[.int .i64 0, .int .i64 0, .string ⟨#[]⟩] (n * 3)) 62)) := by
  obtain ⟨i, hi, hzz⟩ := Option.map_eq_some_iff.1 Tryz.infoVal
  simp only [Prod.mk.injEq] at hzz
  obtain ⟨hz, hs, hb⟩ := hzz
  have hr := run_make (P := Tryz.prog) w 30 62 i _ Tryz.underlying30 hi hz .i64 .i64 n n (by omega) (Int.le_refl _) (by rw [hb]; omega) (by omega)
  simp only [Int.toNat_natCast, hs] at hr
  exact hr

/-- k of the n values are copied into the new row. -/
structure CopiedV (w wr : World) (n : Nat) (fk fn : Nat → Int) (fs : Nat → ByteArray) (k : Nat) : Prop where
  below : Below w.heap.size w wr
  size : w.heap.size < wr.heap.size
  row : wr.rowIs w.heap.size 62 (n * 3) (fun j => if j < k * 3 then cellF fk fn fs j else zeroF j)

theorem copiedV_start (w : World) (n : Nat) (fk fn : Nat → Int) (fs : Nat → ByteArray) : CopiedV w (w.alloc (.cells (madeCells #[.int .i64 0, .int .i64 0, .string ⟨#[]⟩] (n * 3)) 62)) n fk fn fs 0 := by
  have hr := World.rowIs_alloc w (madeCells #[.int .i64 0, .int .i64 0, .string ⟨#[]⟩] (n * 3)) 62 zeroF (fun i hi => by
    rw [size_madeCells] at hi
    simp [madeCells, hi, zeroF]
    have h3 : i % 3 = 0 ∨ i % 3 = 1 ∨ i % 3 = 2 := by omega
    rcases h3 with h | h | h <;> simp [h])
  rw [size_madeCells] at hr
  exact ⟨(Below.refl _ _).alloc (Nat.le_refl _) _, by simp, hr.congr (fun i _ => by simp)⟩

theorem rowIs_below {w w' : World} {b : Nat} {t : TypeId} {m : Nat} {f : Nat → Value} (h : w.rowIs b t m f) (hb : Below w.heap.size w w') (hlt : b < w.heap.size) : w'.rowIs b t m f := by
  obtain ⟨c, h1, h2, h3⟩ := h
  exact ⟨c, by rw [hb.block b hlt]; exact h1, h2, h3⟩

theorem CopiedV.step {w wr w2 : World} {n : Nat} {fk fn : Nat → Int} {fs : Nat → ByteArray} {k : Nat} (h : CopiedV w wr n fk fn fs k) (hb : Below wr.heap.size wr w2) : CopiedV w w2 n fk fn fs k :=
  ⟨h.below.trans (hb.mono h.below.size), Nat.lt_of_lt_of_le h.size hb.size, rowIs_below h.row hb h.size⟩

theorem CopiedV.put {w wr : World} {n : Nat} {fk fn : Nat → Int} {fs : Nat → ByteArray} {k : Nat} (h : CopiedV w wr n fk fn fs k) :
    CopiedV w (((wr.setCell ⟨w.heap.size, k * 3, none⟩ (.int .i64 (fk k))).setCell ⟨w.heap.size, k * 3 + 1, none⟩ (.int .i64 (fn k))).setCell ⟨w.heap.size, k * 3 + 2, none⟩ (.string (fs k))) n fk fn fs (k + 1) := by
  refine ⟨((h.below.setCell (Nat.le_refl _) _).setCell (Nat.le_refl _) _).setCell (Nat.le_refl _) _, by simpa using h.size, ((((h.row.set _ _).set _ _).set _ _).congr (fun i _ => ?_))⟩
  by_cases e2 : i = k * 3 + 2
  · subst e2
    have : (k * 3 + 2) % 3 = 2 := by omega
    have d : (k * 3 + 2) / 3 = k := by omega
    simp [cellF, this, d, show k * 3 + 2 < (k + 1) * 3 by omega]
  by_cases e1 : i = k * 3 + 1
  · subst e1
    have : (k * 3 + 1) % 3 = 1 := by omega
    have d : (k * 3 + 1) / 3 = k := by omega
    simp [cellF, this, d, show k * 3 + 1 < (k + 1) * 3 by omega]
  by_cases e0 : i = k * 3
  · subst e0
    have : (k * 3) % 3 = 0 := by omega
    have d : (k * 3) / 3 = k := by omega
    simp [cellF, this, d, show k * 3 < (k + 1) * 3 by omega]
  · simp only [e0, e1, e2, if_false]
    by_cases hlt : i < k * 3
    · rw [if_pos hlt, if_pos (by omega)]
    · rw [if_neg hlt, if_neg (by omega)]

theorem CopiedV.view {w wr : World} {n : Nat} {fk fn : Nat → Int} {fs : Nat → ByteArray} (h : CopiedV w wr n fk fn fs n) : VView wr (some ⟨w.heap.size, 0, none⟩) n n fk fn fs := by
  refine ⟨Nat.le_refl _, fun _ => ⟨_, 0, rfl, h.size, fun i hi => ?_⟩⟩
  have c0 := h.row.cell (i := i * 3) (by omega)
  have c1 := h.row.cell (i := i * 3 + 1) (by omega)
  have c2 := h.row.cell (i := i * 3 + 2) (by omega)
  simp only [show i * 3 < n * 3 by omega, show i * 3 + 1 < n * 3 by omega, show i * 3 + 2 < n * 3 by omega, if_true, cellF] at c0 c1 c2
  have m0 : (i * 3) % 3 = 0 := by omega
  have m1 : (i * 3 + 1) % 3 = 1 := by omega
  have m2 : (i * 3 + 2) % 3 = 2 := by omega
  have d0 : (i * 3) / 3 = i := by omega
  have d1 : (i * 3 + 1) / 3 = i := by omega
  have d2 : (i * 3 + 2) / 3 = i := by omega
  simp only [m0, m1, m2, d0, d1, d2] at c0 c1 c2
  rw [Nat.zero_add]
  exact ⟨by simpa using c0, by simpa using c1, by simpa using c2⟩

set_option maxHeartbeats 2000000 in
theorem toValS_row (a : Option Addr) (n cap : Nat) (fk fn : Nat → Int) (fs : Nat → ByteArray) (w : World) (h : VView w a n cap fk fn fs) (hn : n ≤ 1048576) :
    Calls Tryz.prog 10 #[.slice a n cap] w fun e w' => e = .returned (.slice (some ⟨w.heap.size, 0, none⟩) n n) ∧ CopiedV w w' n fk fn fs n := by
  have hmk := fun W => make_vals n hn W
  go_enter Tryz.func10, Tryz.ntmps10
  go_wp2
  clear hmk
  go_loopg [4] n (fun q i wr => ∃ k : Nat, k ≤ n ∧ q = n - k ∧ i = .int .i64 k ∧ CopiedV w wr n fk fn fs k)
  case atStart => exact ⟨0, Nat.zero_le _, rfl, rfl, copiedV_start w n fk fn fs⟩
  case round =>
    obtain ⟨k, hk, rfl, rfl, hC⟩ := hrel
    by_cases hlt : k < n
    · obtain ⟨b1, o1, rfl, hb1, hc1⟩ := (h.below hC.below).cells (by omega)
      obtain ⟨x0, x1, x2⟩ := hc1 k hlt
      have hkz : (k : Int) < (n : Int) := by omega
      have hV := fun W => toVal_any (fk k) (fn k) (fs k) W
      go_wp2_with fail
      refine (hV _).mono ?_
      rintro e w2 ⟨rfl, hB2⟩
      have hC2 := hC.step hB2
      have hS : Hid _ := hC2.put
      have z0 := hC2.row.cell (i := k * 3) (by omega)
      have z1 := hC2.row.cell (i := k * 3 + 1) (by omega)
      have z2 := hC2.row.cell (i := k * 3 + 2) (by omega)
      have f0 := hC2.row.frozen (k * 3)
      have f1 := hC2.row.frozen (k * 3 + 1)
      have f2 := hC2.row.frozen (k * 3 + 2)
      clear hc1 hC hC2 hB2 hV x0 x1 x2 h
      go_wp2
      go_roundg (n - (k + 1))
      case measure => omega
      case rel => exact ⟨k + 1, by omega, rfl, by go_num, hS.out⟩
    · have hkn : k = n := by omega
      have hkz : ¬ (k : Int) < (n : Int) := by omega
      rw [hkn] at hC
      have hS : Hid (CopiedV w wr n fk fn fs n) := hC
      clear hC
      go_wp2
      go_ret
      exact ⟨rfl, hS.out⟩

theorem toValS_any (a : Option Addr) (n cap : Nat) (fk fn : Nat → Int) (fs : Nat → ByteArray) (w : World) (h : VView w a n cap fk fn fs) (hn : n ≤ 1048576) :
    Calls Tryz.prog 10 #[.slice a n cap] w fun e w' => e = .returned (.slice (some ⟨w.heap.size, 0, none⟩) n n) ∧ VView w' (some ⟨w.heap.size, 0, none⟩) n n fk fn fs ∧ Below w.heap.size w w' :=
  (toValS_row a n cap fk fn fs w h hn).mono (fun _ _ h => ⟨h.1, h.2.view, h.2.below⟩)
end Go.Proofs.YtjoimkfpenbkmabGreatDoor

/-
  Rows of values of the call's own: how they read, how they are carried.
-/
namespace Go.Proofs.YtjoimkfpenbkmabGreatDoor
open Go.RowKit
set_option maxRecDepth 4000

theorem RowV.belowAll {w w' : World} {b n : Nat} {F : Nat → Value} (h : RowV w b n F) (hb : Below w.heap.size w w') : RowV w' b n F := h.of_block (hb.block b h.lt)
theorem RowV.but {w w' : World} {g b n : Nat} {F : Nat → Value} (h : RowV w b n F) (hb : But g w w') (hne : b ≠ g) : RowV w' b n F := h.of_block (hb.block b h.lt hne)
theorem RowV.vview {w : World} {b n c : Nat} {gk gn : Nat → Int} {gs : Nat → ByteArray} (h : RowV w b n (fun i => (rowC gk gn gs n).getD i .nilFunc)) (hc : n ≤ c) : VView w (some ⟨b, 0, none⟩) n c gk gn gs := by
  refine ⟨hc, fun _ => ⟨b, 0, rfl, h.lt, fun i hi => ?_⟩⟩
  have c0 := h.cell (i := i * 3) (by omega)
  have c1 := h.cell (i := i * 3 + 1) (by omega)
  have c2 := h.cell (i := i * 3 + 2) (by omega)
  obtain ⟨g0, g1, g2⟩ := rowC_get gk gn gs n i hi
  simp only [List.getD, g0, g1, g2, Option.getD_some] at c0 c1 c2
  simp only [Nat.zero_add]
  exact ⟨c0, c1, c2⟩
theorem RowV.ofIs {w : World} {b n : Nat} {F : Nat → Value} (h : w.rowIs b 62 (n * 3) F) : RowV w b n F := by
  obtain ⟨c, hb, hn, hc⟩ := h
  exact ⟨c, hb, by omega, hc⟩
end Go.Proofs.YtjoimkfpenbkmabGreatDoor

/-
  What the law's own helper eqByteS comes to on rows that are alike.
-/
namespace Go.Proofs.YtjoimkfpenbkmabGreatDoor
open Go.RowKit
set_option maxRecDepth 4000

/-- Two slices that read alike: true. -/
theorem eqByteS_same (a1 a2 : Option Addr) (n c1 c2 : Nat) (f g : Nat → Int) (w : World) (h1 : View w a1 n c1 f) (h2 : View w a2 n c2 g) (hn : n ≤ 281474976710656) (he : ∀ i, i < n → f i = g i) :
    Calls Tryz.prog 12 #[.slice a1 n c1, .slice a2 n c2] w fun e w' => e = .returned (.bool true) ∧ Below w.heap.size w w' := by
  go_enter Tryz.func12, Tryz.ntmps12
  go_wp2
  go_loopg [5] n (fun q i wr => ∃ k : Nat, k ≤ n ∧ q = n - k ∧ i = .int .i64 k ∧ Below w.heap.size w wr)
  case atStart => exact ⟨0, Nat.zero_le _, rfl, rfl, Below.refl _ _⟩
  case round =>
    obtain ⟨k, hk, rfl, rfl, hB⟩ := hrel
    by_cases hlt : k < n
    · obtain ⟨b1, o1, rfl, hb1, hc1⟩ := h1.cells (by omega)
      obtain ⟨b2, o2, rfl, hb2, hc2⟩ := h2.cells (by omega)
      have hkz : (k : Int) < (n : Int) := by omega
      have e1 : wr.cell? ⟨b1, o1 + k, none⟩ = some (.int .u8 (f k)) := by rw [hB.cell (p := ⟨b1, o1 + k, none⟩) hb1]; exact hc1 k hlt
      have e2 : wr.cell? ⟨b2, o2 + k, none⟩ = some (.int .u8 (f k)) := by rw [hB.cell (p := ⟨b2, o2 + k, none⟩) hb2, he k hlt]; exact hc2 k hlt
      clear hc1 hc2 he
      go_wp2
      go_region
      all_goals go_wp2
      all_goals
        go_roundg (n - (k + 1))
        case measure => omega
        case rel => exact ⟨k + 1, by omega, rfl, by go_num, by first | exact hB.drew | exact hB⟩
    · go_wp2
      go_ret
      exact ⟨rfl, hB⟩
end Go.Proofs.YtjoimkfpenbkmabGreatDoor

/-
  What the law's own helpers markByteS and heldByteS come to: the one writes a count into a row of the call's own, the other finds it there.
-/
namespace Go.Proofs.YtjoimkfpenbkmabGreatDoor
open Go.RowKit
set_option maxRecDepth 4000

structure Marked (w wr : World) (b n : Nat) (f : Nat → Int) (k : Int) (j : Nat) : Prop where
  only : Only b w wr
  row : Row 5 wr b n (fun i => if i < j then (k + i) % 256 else f i)

theorem marked_step {w wr : World} {b n : Nat} {f : Nat → Int} {k : Int} {j : Nat} (h : Marked w wr b n f k j) : Marked w (wr.setCell ⟨b, j, none⟩ (.int .u8 ((k + j) % 256))) b n f k (j + 1) := by
  refine ⟨h.only.setCell _, (h.row.set j _).congr (fun i _ => ?_)⟩
  by_cases e : i = j
  · subst e; simp
  · rw [if_neg e]
    by_cases hlt : i < j
    · rw [if_pos hlt, if_pos (by omega)]
    · rw [if_neg hlt, if_neg (by omega)]

set_option maxHeartbeats 400000 in
theorem mark_any (b n cap : Nat) (f : Nat → Int) (k : Int) (w : World) (hr : Row 5 w b n f) (hk : 0 ≤ k) (hk1 : k + n ≤ 4611686018427387904) :
    Calls Tryz.prog 17 #[.slice (some ⟨b, 0, none⟩) n cap, .int .i64 k] w fun e w' => e = .returned (.int .i64 (k + n)) ∧ Row 5 w' b n (fun i => (k + i) % 256) ∧ Only b w w' := by
  go_enter Tryz.func17, Tryz.ntmps17
  go_wp2
  go_loopg [1, 5] n (fun g s i wr => ∃ j : Nat, j ≤ n ∧ g = n - j ∧ s = .int .i64 (k + j) ∧ i = .int .i64 j ∧ Marked w wr b n f k j)
  case atStart => exact ⟨0, Nat.zero_le _, rfl, by simp, rfl, Only.refl _ _, hr.congr (fun i _ => by simp)⟩
  case round =>
    obtain ⟨j, hj, rfl, rfl, rfl, hM⟩ := hrel
    clear hr
    by_cases hlt : j < n
    · have hjz : (j : Int) < (n : Int) := by omega
      have hc := hM.row.cell hlt
      have hf := hM.row.frozen j
      have hS : Hid (Marked w (wr.setCell ⟨b, j, none⟩ (.int .u8 ((k + j) % 256))) b n f k (j + 1)) := marked_step hM
      have hw : ∀ x : Int, IntKind.u8.wrap x = x % 256 := u8_wrap
      clear hM
      go_wp2
      go_roundg (n - (j + 1))
      case measure => omega
      case rel => exact ⟨j + 1, by omega, rfl, by go_num, by go_num, hS.out⟩
    · obtain rfl : j = n := by omega
      have hF : Hid (Row 5 wr b j (fun i => (k + i) % 256)) := hM.row.congr (fun i hi => by rw [if_pos (by omega)])
      have hO := hM.only
      clear hM
      go_wp2
      go_ret
      exact ⟨rfl, hF.out, hO⟩

set_option maxHeartbeats 400000 in
theorem held_any (ao : Option Addr) (n cap : Nat) (f : Nat → Int) (k : Int) (w : World) (hv : View w ao n cap f) (he : ∀ i, i < n → f i = (k + i) % 256) (hk : 0 ≤ k) (hk1 : k + n ≤ 4611686018427387904) :
    Calls Tryz.prog 18 #[.slice ao n cap, .int .i64 k] w fun e w' => e = .returned (.int .i64 (k + n)) ∧ Below w.heap.size w w' := by
  go_enter Tryz.func18, Tryz.ntmps18
  go_wp2
  go_loopg [1, 5] n (fun g s i wr => ∃ j : Nat, j ≤ n ∧ g = n - j ∧ s = .int .i64 (k + j) ∧ i = .int .i64 j ∧ Below w.heap.size w wr)
  case atStart => exact ⟨0, Nat.zero_le _, rfl, by simp, rfl, Below.refl _ _⟩
  case round =>
    obtain ⟨j, hj, rfl, rfl, rfl, hB⟩ := hrel
    by_cases hlt : j < n
    · obtain ⟨b, off, rfl, hb, hc⟩ := hv.cells (by omega)
      have hjz : (j : Int) < (n : Int) := by omega
      have hc1 : wr.cell? ⟨b, off + j, none⟩ = some (.int .u8 ((k + j) % 256)) := by rw [hB.cell (p := ⟨b, off + j, none⟩) hb, ← he j hlt]; exact hc j hlt
      have hw : ∀ x : Int, IntKind.u8.wrap x = x % 256 := u8_wrap
      clear hc he
      go_wp2
      all_goals
        go_roundg (n - (j + 1))
        case measure => omega
        case rel => exact ⟨j + 1, by omega, rfl, by go_num, by go_num, by first | exact hB.drew | exact hB⟩
    · obtain rfl : j = n := by omega
      go_wp2
      go_ret
      exact ⟨rfl, hB⟩
end Go.Proofs.YtjoimkfpenbkmabGreatDoor

/-
  A slice of parts that reads, by functions of the index, and how that is carried from one world to the next.
-/
namespace Go.Proofs.YtjoimkfpenbkmabGreatDoor
open Go.RowKit
set_option maxRecDepth 4000

/-- The slice value '.slice ao n cap' reads, in the world w, as n parts. -/
structure PView (w : World) (ao : Option Addr) (n cap : Nat) (fc ft : Nat → Int) (fu fd : Nat → Bool) : Prop where
  le : n ≤ cap
  cells : 0 < n → ∃ b off, ao = some ⟨b, off, none⟩ ∧ b < w.heap.size ∧ ∀ i, i < n → w.cell? ⟨b, off + i * 4, none⟩ = some (.int .i64 (fc i)) ∧ w.cell? ⟨b, off + i * 4 + 1, none⟩ = some (.int .i64 (ft i)) ∧ w.cell? ⟨b, off + i * 4 + 2, none⟩ = some (.bool (fu i)) ∧ w.cell? ⟨b, off + i * 4 + 3, none⟩ = some (.bool (fd i))

theorem PView.below {w w' : World} {ao : Option Addr} {n cap : Nat} {fc ft : Nat → Int} {fu fd : Nat → Bool} (h : PView w ao n cap fc ft fu fd) (hb : Below w.heap.size w w') : PView w' ao n cap fc ft fu fd := by
  refine ⟨h.le, fun hn => ?_⟩
  obtain ⟨b, off, e, hlt, hc⟩ := h.cells hn
  refine ⟨b, off, e, Nat.lt_of_lt_of_le hlt hb.size, fun i hi => ?_⟩
  rw [hb.cell (p := ⟨b, off + i * 4, none⟩) hlt, hb.cell (p := ⟨b, off + i * 4 + 1, none⟩) hlt, hb.cell (p := ⟨b, off + i * 4 + 2, none⟩) hlt, hb.cell (p := ⟨b, off + i * 4 + 3, none⟩) hlt]
  exact hc i hi
end Go.Proofs.YtjoimkfpenbkmabGreatDoor

/-
  Rows of parts of the call's own, that grow by one part at a time.
-/
namespace Go.Proofs.YtjoimkfpenbkmabGreatDoor
open Go.RowKit
set_option maxRecDepth 4000

/-- The cells of the first k parts. -/
def rowP (gc gt : Nat → Int) (gu gd : Nat → Bool) : Nat → List Value
  | 0 => []
  | k + 1 => rowP gc gt gu gd k ++ [.int .i64 (gc k), .int .i64 (gt k), .bool (gu k), .bool (gd k)]
theorem rowP_len (gc gt : Nat → Int) (gu gd : Nat → Bool) : ∀ k, (rowP gc gt gu gd k).length = k * 4
  | 0 => rfl
  | k + 1 => by rw [rowP, List.length_append, rowP_len gc gt gu gd k]; simp; omega
theorem rowP_get (gc gt : Nat → Int) (gu gd : Nat → Bool) : ∀ k i, i < k → (rowP gc gt gu gd k)[i * 4]? = some (.int .i64 (gc i)) ∧ (rowP gc gt gu gd k)[i * 4 + 1]? = some (.int .i64 (gt i)) ∧ (rowP gc gt gu gd k)[i * 4 + 2]? = some (.bool (gu i)) ∧ (rowP gc gt gu gd k)[i * 4 + 3]? = some (.bool (gd i))
  | k + 1, i, hi => by
    have hl := rowP_len gc gt gu gd k
    by_cases e : i < k
    · obtain ⟨h1, h2, h3, h4⟩ := rowP_get gc gt gu gd k i e
      rw [rowP, List.getElem?_append_left (by omega), List.getElem?_append_left (by omega), List.getElem?_append_left (by omega), List.getElem?_append_left (by omega)]
      exact ⟨h1, h2, h3, h4⟩
    · obtain rfl : i = k := by omega
      rw [rowP, List.getElem?_append_right (by omega), List.getElem?_append_right (by omega), List.getElem?_append_right (by omega), List.getElem?_append_right (by omega), hl]
      simp [show i * 4 + 1 - i * 4 = 1 by omega, show i * 4 + 2 - i * 4 = 2 by omega, show i * 4 + 3 - i * 4 = 3 by omega]
theorem rowP_congr {gc gt : Nat → Int} {gu gd : Nat → Bool} {hc ht : Nat → Int} {hu hd : Nat → Bool} : ∀ {k : Nat}, (∀ i, i < k → gc i = hc i ∧ gt i = ht i ∧ gu i = hu i ∧ gd i = hd i) → rowP gc gt gu gd k = rowP hc ht hu hd k
  | 0, _ => rfl
  | k + 1, e => by
    obtain ⟨h1, h2, h3, h4⟩ := e k (by omega)
    rw [rowP, rowP, rowP_congr (fun i hi => e i (by omega)), h1, h2, h3, h4]

/-- A row of parts of the call's own reads. -/
theorem pview_of_own {w : World} {base : Nat} {v : Value} {N : Nat} {gc gt : Nat → Int} {gu gd : Nat → Bool} (h : w.ownsRow base 91 4 v N (rowP gc gt gu gd N)) : ∃ a c, v = .slice a N c ∧ PView w a N c gc gt gu gd ∧ (v ≠ .slice none 0 0 → ∃ g, a = some ⟨g, 0, none⟩ ∧ base ≤ g) := by
  obtain ⟨hl, h⟩ := h
  rcases h with ⟨rfl, h0⟩ | ⟨g, c, cur, rfl, hb, hg, hnc, _, hcs, ht⟩
  · have hN : N = 0 := by have := h0; have := rowP_len gc gt gu gd N; omega
    subst hN
    exact ⟨none, 0, rfl, ⟨Nat.le_refl _, fun hn => absurd hn (Nat.lt_irrefl _)⟩, fun hne => absurd rfl hne⟩
  · refine ⟨_, c, rfl, ⟨hnc, fun hn => ⟨g, 0, rfl, ?_, fun i hi => ?_⟩⟩, fun _ => ⟨g, rfl, hb⟩⟩
    · exact (Array.getElem?_eq_some_iff.1 hg).1
    · have key : ∀ j x, j < N * 4 → (rowP gc gt gu gd N)[j]? = some x → w.cell? ⟨g, 0 + j, none⟩ = some x := by
        intro j x hj hx
        rw [← ht, List.getElem?_take, if_pos hj] at hx
        simp only [World.cell?, hg, Nat.zero_add]
        simpa using hx
      obtain ⟨h1, h2, h3, h4⟩ := rowP_get gc gt gu gd N i hi
      have k0 := key _ _ (by omega) h1
      have k1 := key _ _ (by omega) h2
      have k2 := key _ _ (by omega) h3
      have k3 := key _ _ (by omega) h4
      simp only [Nat.zero_add] at k0 k1 k2 k3 ⊢
      exact ⟨k0, k1, k2, k3⟩
end Go.Proofs.YtjoimkfpenbkmabGreatDoor

/-
  Rows of texts: one that reads, one of the call's own.
-/
namespace Go.Proofs.YtjoimkfpenbkmabGreatDoor
open Go.RowKit
set_option maxRecDepth 4000

/-- The slice value '.slice ao n cap' reads as n texts. -/
structure SView (w : World) (ao : Option Addr) (n cap : Nat) (f : Nat → ByteArray) : Prop where
  le : n ≤ cap
  cells : 0 < n → ∃ b off, ao = some ⟨b, off, none⟩ ∧ b < w.heap.size ∧ ∀ i, i < n → w.cell? ⟨b, off + i, none⟩ = some (.string (f i))
theorem SView.below {w w' : World} {ao : Option Addr} {n cap : Nat} {f : Nat → ByteArray} (h : SView w ao n cap f) (hb : Below w.heap.size w w') : SView w' ao n cap f := by
  refine ⟨h.le, fun hn => ?_⟩
  obtain ⟨b, off, e, hlt, hc⟩ := h.cells hn
  refine ⟨b, off, e, Nat.lt_of_lt_of_le hlt hb.size, fun i hi => ?_⟩
  rw [hb.cell (p := ⟨b, off + i, none⟩) hlt]
  exact hc i hi
def encS (f : Nat → ByteArray) (i : Nat) : List Value := [.string (f i)]
theorem sview_of_own {w : World} {base N : Nat} {v : Value} {f : Nat → ByteArray} (h : w.ownsRow base 9 1 v N (rowG (encS f) N)) : ∃ a k, v = .slice a N k ∧ SView w a N k f ∧ (0 < N → ∃ g, a = some ⟨g, 0, none⟩ ∧ base ≤ g ∧ v.ownBlock = some g) := by
  obtain ⟨a, k, e, hk, h1⟩ := own_cells (c := 1) (fun _ => rfl) h
  refine ⟨a, k, e, ⟨hk, fun hn => ?_⟩, fun hn => ?_⟩
  · obtain ⟨g, ea, -, -, hg, hc⟩ := h1 hn
    exact ⟨g, 0, ea, hg, fun i hi => by simpa using hc i 0 _ hi rfl⟩
  · obtain ⟨g, ea, hb, ho, -⟩ := h1 hn
    exact ⟨g, ea, hb, ho⟩
theorem infoStr : ∃ i, Tryz.prog.info? 9 = some i ∧ i.zero = some (.string ⟨#[]⟩) ∧ i.size = 1 ∧ i.bytes = 16 := by
  have h : (Tryz.prog.info? 9).map (fun i => (i.zero, i.size, i.bytes)) = some (some (.string ⟨#[]⟩), 1, 16) := by kernel_rfl
  obtain ⟨i, hi, hz⟩ := Option.map_eq_some_iff.1 h
  simp only [Prod.mk.injEq] at hz
  exact ⟨i, hi, hz.1, hz.2.1, hz.2.2⟩
/-- A row of the call's own stays while nothing of what lay is turned. -/
theorem own_belowG {W W' : World} {base T c N : Nat} {v : Value} {xs : List Value} (h : W.ownsRow base T c v N xs) (hb : Below W.heap.size W W') : W'.ownsRow base T c v N xs := by
  refine ⟨h.1, ?_⟩
  rcases h.2 with ⟨e, h0⟩ | ⟨g, k, cur, e, hb0, hg, hr⟩
  · exact .inl ⟨e, h0⟩
  · exact .inr ⟨g, k, cur, e, hb0, (hb.block g (Array.getElem?_eq_some_iff.1 hg).1).trans hg, hr⟩
theorem own_base {W : World} {base base' T c N : Nat} {v : Value} {xs : List Value} (h : W.ownsRow base T c v N xs) (hb : base' ≤ base) : W.ownsRow base' T c v N xs := by
  refine ⟨h.1, ?_⟩
  rcases h.2 with ⟨e, h0⟩ | ⟨g, k, cur, e, hb0, hr⟩
  · exact .inl ⟨e, h0⟩
  · exact .inr ⟨g, k, cur, e, Nat.le_trans hb hb0, hr⟩
end Go.Proofs.YtjoimkfpenbkmabGreatDoor

