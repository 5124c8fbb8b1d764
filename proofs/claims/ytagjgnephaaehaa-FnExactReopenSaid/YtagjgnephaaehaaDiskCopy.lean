/-
  Rows of a disk copied into new ones, as the law does it.
-/
import Derived.Test.YtagjgnephaaehaaDiskOwn
import Derived.Test.YtagjgnephaaehaaSlices
import Derived.Deep.LoopGhost
namespace Go.Proofs.Ytagjgnephaaehaa
open Go.RowKit
set_option maxRecDepth 4000

theorem RL.ofIs {T : TypeId} {w : World} {B g n : Nat} {f : Nat → Value} {xs : List Value} (h : w.rowIs g T n f) (hB : B ≤ g) (hx : ∀ i u, xs[i]? = some u → i < n ∧ f i = u) : RL T w B (some ⟨g, 0, none⟩) xs := by
  obtain ⟨c, hb, hn, hc⟩ := h
  exact .inr ⟨g, c, rfl, hB, hb, fun i u hi => by rw [hc i (hx i u hi).1, (hx i u hi).2]⟩
theorem rowIsBelow {w w' : World} {b : Nat} {t : TypeId} {m : Nat} {f : Nat → Value} (h : w.rowIs b t m f) (hb : Below w.heap.size w w') : w'.rowIs b t m f := h.of_block (hb.block b h.lt)
theorem take_one {α : Type} {l : List α} {k : Nat} (h : k < l.length) : l.take (k + 1) = l.take k ++ [l[k]] := by
  rw [List.take_add_one, List.getElem?_eq_getElem h]; rfl

theorem infoSec : ∃ i, Try.prog.info? 49 = some i ∧ i.zero = some (.slice none 0 0) ∧ i.size = 1 ∧ i.bytes = 24 := by
  have h : (Try.prog.info? 49).map (fun i => (i.zero, i.size, i.bytes)) = some (some (.slice none 0 0), 1, 24) := by kernel_rfl
  obtain ⟨i, hi, hz⟩ := Option.map_eq_some_iff.1 h
  simp only [Prod.mk.injEq] at hz
  exact ⟨i, hi, hz.1, hz.2.1, hz.2.2⟩
theorem makeSecs (n : Nat) (h : n ≤ 1048576) (w : World) : (Instr.makeSlice 22 (.int .i64 (n : Int)) (.int .i64 (n : Int))).run Try.prog w = .ok (.slice (some ⟨w.heap.size, 0, none⟩) n n) (w.alloc (.cells (madeCells #[.slice none 0 0] n) 49)) := by
  obtain ⟨i, hi, hz, hs, hb⟩ := infoSec
  have hr := run_make (P := Try.prog) w 22 49 i _ Try.underlying22 hi hz .i64 .i64 n n (by omega) (Int.le_refl _) (by rw [hb]; omega) (by omega)
  simp only [Int.toNat_natCast, hs, Nat.mul_one] at hr
  exact hr

/-- k of the sectors are copied into the new row. -/
structure CopS (w wr : World) (l : List (List Int)) (ss : List Value) (k : Nat) : Prop where
  below : Below w.heap.size w wr
  size : w.heap.size < wr.heap.size
  len : ss.length = k
  row : wr.rowIs w.heap.size 49 l.length (fun j => ss.getD j (.slice none 0 0))
  bytes : Bs wr (w.heap.size + 1) ss (l.take k)
theorem copS_start (w : World) (l : List (List Int)) : CopS w (w.alloc (.cells (madeCells #[.slice none 0 0] l.length) 49)) l [] 0 := by
  have hr := World.rowIs_alloc w (madeCells #[.slice none 0 0] l.length) 49 (fun _ => .slice none 0 0) (fun i hi => by
    rw [size_madeCells] at hi
    simp [madeCells, hi, Nat.mod_one])
  rw [size_madeCells] at hr
  exact ⟨(Below.refl _ _).alloc (Nat.le_refl _) _, by simp, rfl, hr.congr (fun i _ => by simp), Bs.nil _ _⟩
theorem CopS.put {w wr w2 : World} {l : List (List Int)} {ss : List Value} {k : Nat} (h : CopS w wr l ss k) (hk : k < l.length) (hb : Below wr.heap.size wr w2) {u : Value} (hu : OB w2 wr.heap.size u l[k]) (hg : u.ownBlock = some wr.heap.size) (hs : wr.heap.size < w2.heap.size) :
    CopS w (w2.setCell ⟨w.heap.size, k, none⟩ u) l (ss ++ [u]) (k + 1) := by
  have hsz := h.size
  have hlen := h.len
  refine ⟨(h.below.trans (hb.mono h.below.size)).setCell (Nat.le_refl _) _, by simp; omega, by simp [h.len], ((rowIsBelow h.row hb).set k u).congr (fun i hi => ?_), ?_⟩
  · by_cases e : i = k
    · subst e; simp [List.getD, hlen]
    · rw [if_neg e]
      by_cases e2 : i < k
      · simp [List.getD, List.getElem?_append_left (show i < ss.length by omega)]
      · simp [List.getD, List.getElem?_eq_none (show ss.length ≤ i by omega), List.getElem?_eq_none (show (ss ++ [u]).length ≤ i by simp; omega)]
  · have hu' : Up (w.heap.size + 1) w2 (w2.setCell ⟨w.heap.size, k, none⟩ u) := Up.set (by omega)
    rw [take_one hk]
    refine ((h.bytes.up (Up.ofBelow hb)).up hu').push ((hu.mono (by omega)).up hu') (fun g e => ?_)
    rw [hg] at e; cases e
    exact ⟨⟨by omega, by simpa using hs⟩, h.bytes.newer (Nat.le_refl _)⟩

set_option maxHeartbeats 2000000 in
theorem toByteSS_any (a : Option Addr) (cap : Nat) (l : List (List Int)) (w : World) (h : SView w a cap l) (hn : l.length ≤ 1048576) (hz : ∀ i (h : i < l.length), (l[i]).length ≤ 1048576) :
    Calls Try.prog 21 #[.slice a l.length cap] w fun e w' => e = .returned (.slice (some ⟨w.heap.size, 0, none⟩) l.length l.length) ∧ Below w.heap.size w w' ∧ w.heap.size < w'.heap.size ∧ ∃ ss, ss.length = l.length ∧ RL 49 w' w.heap.size (some ⟨w.heap.size, 0, none⟩) ss ∧ Bs w' w.heap.size ss l := by
  have hmk := fun W => makeSecs l.length hn W
  go_enter Try.func21, Try.ntmps21
  go_wp2
  clear hmk
  go_loopg [4] l.length (fun q i wr => ∃ (k : Nat) (ss : List Value), k ≤ l.length ∧ q = l.length - k ∧ i = .int .i64 k ∧ CopS w wr l ss k)
  case atStart => exact ⟨0, [], Nat.zero_le _, rfl, rfl, copS_start w l⟩
  case round =>
    obtain ⟨k, ss, hk, rfl, rfl, hC⟩ := hrel
    by_cases hlt : k < l.length
    · obtain ⟨b1, o1, a', c', rfl, hb1, x0, v0, -⟩ := sview_at (sview_below h hC.below) hlt
      have hkz : (k : Int) < (l.length : Int) := by omega
      have hV := toByteS_any a' (l[k]).length c' (bf l[k]) wr v0 (by have := hz k hlt; omega)
      have HOB : Hid (∀ i, i < (l[k]).length → 0 ≤ bf l[k] i ∧ bf l[k] i ≤ 255) := v0.byte
      have HC : Hid (CopS w wr l ss k) := hC
      have hsz := hC.size
      clear hz h hC v0
      obtain ⟨p0, hp0⟩ := hidEx (l[k]).length
      obtain ⟨p1, hp1⟩ := hidEx (bf l[k])
      rw [hp1.out] at hV
      rw [hp0.out] at x0 hV
      go_wp2_with fail
      refine hV.mono ?_
      rintro e w2 ⟨rfl, hr2, hb2, hs2⟩
      have hcp : CopS w (w2.setCell ⟨w.heap.size, k, none⟩ (.slice (some ⟨wr.heap.size, 0, none⟩) p0 p0)) l (ss ++ [.slice (some ⟨wr.heap.size, 0, none⟩) p0 p0]) (k + 1) := by
        refine HC.out.put hlt hb2 ?_ rfl (by omega)
        rw [← hp0.out]
        rw [← hp0.out, ← hp1.out] at hr2
        exact OB.ofIs hr2 (Nat.le_refl _) HOB.out
      have hrow := rowIsBelow HC.out.row hb2
      have z0 := hrow.cell (i := k) hlt
      have f0 := hrow.frozen k
      have hS : Hid (CopS w (w2.setCell ⟨w.heap.size, k, none⟩ (.slice (some ⟨wr.heap.size, 0, none⟩) p0 p0)) l (ss ++ [.slice (some ⟨wr.heap.size, 0, none⟩) p0 p0]) (k + 1)) := hcp
      clear hcp hrow hr2 hb2 hV x0 HOB HC
      go_wp2
      go_roundg (l.length - (k + 1))
      case measure => omega
      case rel => exact ⟨k + 1, _, by omega, rfl, by go_num, hS.out⟩
    · have hkn : k = l.length := by omega
      have hkz : ¬ (k : Int) < (l.length : Int) := by omega
      have hS : Hid (CopS w wr l ss k) := hC
      clear hC h hz
      go_wp2
      go_ret
      have hC := hS.out
      refine ⟨rfl, hC.below, hC.size, ss, by rw [hC.len, hkn], RL.ofIs hC.row (Nat.le_refl _) (fun i u hi => ?_), ?_⟩
      · have := (List.getElem?_eq_some_iff.1 hi).1
        have h2 := hC.len
        exact ⟨by omega, by simp [List.getD, hi]⟩
      · have := hC.bytes
        rw [hkn, List.take_length] at this
        exact this.mono (by omega)
end Go.Proofs.Ytagjgnephaaehaa
