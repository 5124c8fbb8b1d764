/-
  Together: DiskCopy, DiskCopy2, DiskSize, DiskMark2, DiskCopy3
-/
import Derived.Test.YtdhfbblameiloaaFF2
import Derived.Deep.LoopGhost
import Derived.Test.YtdhfbblameiloaaFF1
/-
  Rows of a disk copied into new ones, as the law does it.
-/
namespace Go.Proofs.Ytdhfbblameiloaa
open Go.RowKit
set_option maxRecDepth 4000

theorem RL.ofIs {T : TypeId} {w : World} {B g n : Nat} {f : Nat → Value} {xs : List Value} (h : w.rowIs g T n f) (hB : B ≤ g) (hx : ∀ i u, xs[i]? = some u → i < n ∧ f i = u) : RL T w B (some ⟨g, 0, none⟩) xs := by
  obtain ⟨c, hb, hn, hc⟩ := h
  exact .inr ⟨g, c, rfl, hB, hb, fun i u hi => by rw [hc i (hx i u hi).1, (hx i u hi).2]⟩
theorem rowIsBelow {w w' : World} {b : Nat} {t : TypeId} {m : Nat} {f : Nat → Value} (h : w.rowIs b t m f) (hb : Below w.heap.size w w') : w'.rowIs b t m f := h.of_block (hb.block b h.lt)
theorem take_one {α : Type} {l : List α} {k : Nat} (h : k < l.length) : l.take (k + 1) = l.take k ++ [l[k]] := by
  rw [List.take_add_one, List.getElem?_eq_getElem h]; rfl

theorem infoSec : ∃ i, Try.prog.info? 27 = some i ∧ i.zero = some (.slice none 0 0) ∧ i.size = 1 ∧ i.bytes = 24 := by
  have h : (Try.prog.info? 27).map (fun i => (i.zero, i.size, i.bytes)) = some (some (.slice none 0 0), 1, 24) := by kernel_rfl
  obtain ⟨i, hi, hz⟩ := Option.map_eq_some_iff.1 h
  simp only [Prod.mk.injEq] at hz
  exact ⟨i, hi, hz.1, hz.2.1, hz.2.2⟩
theorem makeSecs (n : Nat) (h : n ≤ 1048576) (w : World) : (Instr.makeSlice 22 (.int .i64 (n : Int)) (.int .i64 (n : Int))).run Try.prog w = .ok (.slice (some ⟨w.heap.size, 0, none⟩) n n) (w.alloc (.cells (madeCells #[.slice none 0 0] n) 27)) := by
  obtain ⟨i, hi, hz, hs, hb⟩ := infoSec
  have hr := run_make (P := Try.prog) w 22 27 i _ Try.underlying22 hi hz .i64 .i64 n n (by omega) (Int.le_refl _) (by rw [hb]; omega) (by omega)
  simp only [Int.toNat_natCast, hs, Nat.mul_one] at hr
  exact hr

/-- k of the sectors are copied into the new row. -/
structure CopS (w wr : World) (l : List (List Int)) (ss : List Value) (k : Nat) : Prop where
  below : Below w.heap.size w wr
  size : w.heap.size < wr.heap.size
  len : ss.length = k
  row : wr.rowIs w.heap.size 27 l.length (fun j => ss.getD j (.slice none 0 0))
  bytes : Bs wr (w.heap.size + 1) ss (l.take k)
theorem copS_start (w : World) (l : List (List Int)) : CopS w (w.alloc (.cells (madeCells #[.slice none 0 0] l.length) 27)) l [] 0 := by
  have hr := World.rowIs_alloc w (madeCells #[.slice none 0 0] l.length) 27 (fun _ => .slice none 0 0) (fun i hi => by
    rw [size_madeCells] at hi
    simp [madeCells, hi, Nat.mod_one])
  rw [size_madeCells] at hr
  exact ⟨(Below.refl _ _).alloc (Nat.le_refl _) _, by simp, rfl, hr.congr (fun i _ => by simp), Bs.nil _ _⟩
theorem CopS.put {w wr w2 : World} {l : List (List Int)} {ss : List Value} {k : Nat} (h : CopS w wr l ss k) (hk : k < l.length) (hb : Below wr.heap.size wr w2) {u : Value} (hu : OB w2 wr.heap.size u l[k]) (hg : u.ownBlock = some wr.heap.size) (hs : wr.heap.size < w2.heap.size) :
    CopS w (w2.setCell ⟨w.heap.size, k, none⟩ u) l (ss ++ [u]) (k + 1) := by
  have hsz := h.size
  have hlen := h.len
  refine ⟨(h.below.trans (hb.mono h.below.size)).setCell (Nat.le_refl _) _, by simp; omega, by simp [h.len], ((rowIsBelow h.row hb).set k u).congr (fun i hi => ?_), ?_⟩
  · by_cases e : i = k
    · subst e; simp [List.getD, hlen]
    · rw [if_neg e]
      by_cases e2 : i < k
      · simp [List.getD, List.getElem?_append_left (show i < ss.length by omega)]
      · simp [List.getD, List.getElem?_eq_none (show ss.length ≤ i by omega), List.getElem?_eq_none (show (ss ++ [u]).length ≤ i by simp; omega)]
  · have hu' : Up (w.heap.size + 1) w2 (w2.setCell ⟨w.heap.size, k, none⟩ u) := Up.set (by omega)
    rw [take_one hk]
    refine ((h.bytes.up (Up.ofBelow hb)).up hu').push ((hu.mono (by omega)).up hu') (fun g e => ?_)
    rw [hg] at e; cases e
    exact ⟨⟨by omega, by simpa using hs⟩, h.bytes.newer (Nat.le_refl _)⟩

set_option maxHeartbeats 2000000 in
theorem toByteSS_any (a : Option Addr) (cap : Nat) (l : List (List Int)) (w : World) (h : SView w a cap l) (hn : l.length ≤ 1048576) (hz : ∀ i (h : i < l.length), (l[i]).length ≤ 1048576) :
    Calls Try.prog 58 #[.slice a l.length cap] w fun e w' => e = .returned (.slice (some ⟨w.heap.size, 0, none⟩) l.length l.length) ∧ Below w.heap.size w w' ∧ w.heap.size < w'.heap.size ∧ ∃ ss, ss.length = l.length ∧ RL 27 w' w.heap.size (some ⟨w.heap.size, 0, none⟩) ss ∧ Bs w' w.heap.size ss l := by
  have hmk := fun W => makeSecs l.length hn W
  go_enter Try.func58, Try.ntmps58
  go_wp2
  clear hmk
  go_loopg [4] l.length (fun q i wr => ∃ (k : Nat) (ss : List Value), k ≤ l.length ∧ q = l.length - k ∧ i = .int .i64 k ∧ CopS w wr l ss k)
  case atStart => exact ⟨0, [], Nat.zero_le _, rfl, rfl, copS_start w l⟩
  case round =>
    obtain ⟨k, ss, hk, rfl, rfl, hC⟩ := hrel
    by_cases hlt : k < l.length
    · obtain ⟨b1, o1, a', c', rfl, hb1, x0, v0, -⟩ := sview_at (sview_below h hC.below) hlt
      have hkz : (k : Int) < (l.length : Int) := by omega
      have hV := toByteS_any a' (l[k]).length c' (bf l[k]) wr v0 (by have := hz k hlt; omega)
      have HOB : Hid (∀ i, i < (l[k]).length → 0 ≤ bf l[k] i ∧ bf l[k] i ≤ 255) := v0.byte
      have HC : Hid (CopS w wr l ss k) := hC
      have hsz := hC.size
      clear hz h hC v0
      obtain ⟨p0, hp0⟩ := hidEx (l[k]).length
      obtain ⟨p1, hp1⟩ := hidEx (bf l[k])
      rw [hp1.out] at hV
      rw [hp0.out] at x0 hV
      go_wp2_with fail
      refine hV.mono ?_
      rintro e w2 ⟨rfl, hr2, hb2, hs2⟩
      have hcp : CopS w (w2.setCell ⟨w.heap.size, k, none⟩ (.slice (some ⟨wr.heap.size, 0, none⟩) p0 p0)) l (ss ++ [.slice (some ⟨wr.heap.size, 0, none⟩) p0 p0]) (k + 1) := by
        refine HC.out.put hlt hb2 ?_ rfl (by omega)
        rw [← hp0.out]
        rw [← hp0.out, ← hp1.out] at hr2
        exact OB.ofIs hr2 (Nat.le_refl _) HOB.out
      have hrow := rowIsBelow HC.out.row hb2
      have z0 := hrow.cell (i := k) hlt
      have f0 := hrow.frozen k
      have hS : Hid (CopS w (w2.setCell ⟨w.heap.size, k, none⟩ (.slice (some ⟨wr.heap.size, 0, none⟩) p0 p0)) l (ss ++ [.slice (some ⟨wr.heap.size, 0, none⟩) p0 p0]) (k + 1)) := hcp
      clear hcp hrow hr2 hb2 hV x0 HOB HC
      go_wp2
      go_roundg (l.length - (k + 1))
      case measure => omega
      case rel => exact ⟨k + 1, _, by omega, rfl, by go_num, hS.out⟩
    · have hkn : k = l.length := by omega
      have hkz : ¬ (k : Int) < (l.length : Int) := by omega
      have hS : Hid (CopS w wr l ss k) := hC
      clear hC h hz
      go_wp2
      go_ret
      have hC := hS.out
      refine ⟨rfl, hC.below, hC.size, ss, by rw [hC.len, hkn], RL.ofIs hC.row (Nat.le_refl _) (fun i u hi => ?_), ?_⟩
      · have := (List.getElem?_eq_some_iff.1 hi).1
        have h2 := hC.len
        exact ⟨by omega, by simp [List.getD, hi]⟩
      · have := hC.bytes
        rw [hkn, List.take_length] at this
        exact this.mono (by omega)
end Go.Proofs.Ytdhfbblameiloaa

/-
  Writes and faults of a disk copied into new rows, as the law does it.
-/
namespace Go.Proofs.Ytdhfbblameiloaa
open Go.RowKit
set_option maxRecDepth 4000

theorem alloc_sizeK (W : World) (o : Obj) : (W.alloc o).heap.size = W.heap.size + 1 := by simp
set_option maxHeartbeats 1000000 in
theorem toWrite_any (x : Int) (a : Option Addr) (n cap : Nat) (f : Nat → Int) (w : World) (h : View w a n cap f) (hn : n ≤ 1048576) :
    Calls Try.prog 118 #[.agg #[.int .i64 x, .slice a n cap]] w fun e w' => e = .returned (.agg #[.int .i64 x, .slice (some ⟨w.heap.size + 3, 0, none⟩) n n]) ∧ w.heap.size + 3 < w'.heap.size ∧ w'.rowIs (w.heap.size + 3) 5 n (fun i => .int .u8 (f i)) ∧ Below w.heap.size w w' := by
  have hb0 : Below w.heap.size w (((w.alloc (.cells #[.int .i64 x, .slice a n cap] 123)).alloc (.cells #[.int .i64 0, .slice none 0 0] 51)).alloc (.cells #[.int .i64 x, .slice none 0 0] 51)) := (((Below.refl _ _).alloc (Nat.le_refl _) _).alloc (by simp) _).alloc (by simp; omega) _
  have hS := toByteS_any a n cap f _ (h.below hb0) (by omega)
  have V2 := VN.new ((w.alloc (.cells #[.int .i64 x, .slice a n cap] 123)).alloc (.cells #[.int .i64 0, .slice none 0 0] 51)) 51 [.int .i64 x, .slice none 0 0]
  have V1 := (VN.new (w.alloc (.cells #[.int .i64 x, .slice a n cap] 123)) 51 [.int .i64 0, .slice none 0 0]).below ((Below.refl _ _).alloc (Nat.le_refl _) (.cells #[.int .i64 x, .slice none 0 0] 51))
  simp only [alloc_sizeK] at V1 V2 hS
  clear h
  go_enter Try.func118, Try.ntmps118
  go_wp2_with fail
  refine hS.mono ?_
  rintro e w2 ⟨rfl, hv, hb2, hlt2⟩
  have V2' := V2.below (by simpa using hb2)
  have V1' := V1.below (by simpa using hb2)
  clear V1 V2 hS
  have c0 := V2'.cell 0
  have c1 := V2'.cell 1
  have q1 := V2'.fz 1
  obtain ⟨W3, hW3⟩ := hidEx (w2.setCell ⟨w.heap.size + 1 + 1, 1, none⟩ (.slice (some ⟨w.heap.size + 1 + 1 + 1, 0, none⟩) n n))
  have V2'' := V2'.set 1 (.slice (some ⟨w.heap.size + 1 + 1 + 1, 0, none⟩) n n)
  have V1'' := V1'.other (C := w.heap.size + 1 + 1) (i := 1) (u := .slice (some ⟨w.heap.size + 1 + 1 + 1, 0, none⟩) n n) (by omega)
  rw [hW3.out] at V1'' V2''
  have g0 := V2''.cell 0
  have g1 := V2''.cell 1
  have k0 := V1''.cell 0
  have k1 := V1''.cell 1
  have p0 := V1''.fz 0
  have p1 := V1''.fz 1
  have V1f := (V1''.set 0 (.int .i64 x)).set 1 (.slice (some ⟨w.heap.size + 1 + 1 + 1, 0, none⟩) n n)
  have r0 := V1f.cell 0
  have r1 := V1f.cell 1
  simp at c0 c1 g0 g1 k0 k1 r0 r1
  have HR : Hid (((W3.setCell ⟨w.heap.size + 1, 0, none⟩ (.int .i64 x)).setCell ⟨w.heap.size + 1, 1, none⟩ (.slice (some ⟨w.heap.size + 1 + 1 + 1, 0, none⟩) n n)).rowIs (w.heap.size + 1 + 1 + 1) 5 n (fun i => .int .u8 (f i)) ∧ Below w.heap.size w ((W3.setCell ⟨w.heap.size + 1, 0, none⟩ (.int .i64 x)).setCell ⟨w.heap.size + 1, 1, none⟩ (.slice (some ⟨w.heap.size + 1 + 1 + 1, 0, none⟩) n n)) ∧ w.heap.size + 1 + 1 + 1 < ((W3.setCell ⟨w.heap.size + 1, 0, none⟩ (.int .i64 x)).setCell ⟨w.heap.size + 1, 1, none⟩ (.slice (some ⟨w.heap.size + 1 + 1 + 1, 0, none⟩) n n)).heap.size) := by
    rw [← hW3.out]
    refine ⟨?_, ?_, by simp; omega⟩
    · exact ((hv.setOther (show w.heap.size + 1 + 1 + 1 ≠ w.heap.size + 1 + 1 by omega) _).setOther (show w.heap.size + 1 + 1 + 1 ≠ w.heap.size + 1 by omega) _).setOther (show w.heap.size + 1 + 1 + 1 ≠ w.heap.size + 1 by omega) _
    · have hb3 : Below w.heap.size w w2 := hb0.trans (hb2.mono (by omega))
      exact ((hb3.setCell (p := ⟨w.heap.size + 1 + 1, 1, none⟩) (by simp; omega) _).setCell (p := ⟨w.heap.size + 1, 0, none⟩) (by simp) _).setCell (p := ⟨w.heap.size + 1, 1, none⟩) (by simp) _
  clear V1f V1' V1'' V2' V2'' hv hb2 hb0 hlt2
  go_wp2_with (rw [hW3.out])
  refine bodyPost_ret (v := .agg #[.int .i64 x, .slice (some ⟨w.heap.size + 1 + 1 + 1, 0, none⟩) n n]) (by simp [results, Try.results118, go_sem, r0, r1]) rfl ⟨rfl, HR.out.2.2, HR.out.1, HR.out.2.1⟩

theorem infoWrite : ∃ i, Try.prog.info? 51 = some i ∧ i.zero = some (.agg #[.int .i64 0, .slice none 0 0]) ∧ i.size = 2 ∧ i.bytes = 32 := by
  have h : (Try.prog.info? 51).map (fun i => (i.zero, i.size, i.bytes)) = some (some (.agg #[.int .i64 0, .slice none 0 0]), 2, 32) := by kernel_rfl
  obtain ⟨i, hi, hz⟩ := Option.map_eq_some_iff.1 h
  simp only [Prod.mk.injEq] at hz
  exact ⟨i, hi, hz.1, hz.2.1, hz.2.2⟩
theorem makeWrites (n : Nat) (h : n ≤ 1048576) (w : World) : (Instr.makeSlice 29 (.int .i64 (n : Int)) (.int .i64 (n : Int))).run Try.prog w = .ok (.slice (some ⟨w.heap.size, 0, none⟩) n n) (w.alloc (.cells (madeCells #[.int .i64 0, .slice none 0 0] (n * 2)) 51)) := by
  obtain ⟨i, hi, hz, hs, hb⟩ := infoWrite
  have hr := run_make (P := Try.prog) w 29 51 i _ Try.underlying29 hi hz .i64 .i64 n n (by omega) (Int.le_refl _) (by rw [hb]; omega) (by omega)
  simp only [Int.toNat_natCast, hs] at hr
  exact hr
def zeroW (j : Nat) : Value := if j % 2 = 0 then .int .i64 0 else .slice none 0 0
theorem wcells_len {l : List (Int × List Int)} {cs : List Value} (h : cs.length = l.length) : (wcells l cs).length = l.length * 2 := by
  unfold wcells
  rw [flat_len wEl 2 (fun _ => rfl), List.length_zip, List.length_map, h, Nat.min_self]
theorem wcells_push {l : List (Int × List Int)} {cs : List Value} (h : cs.length = l.length) (x : Int × List Int) (v : Value) : wcells (l ++ [x]) (cs ++ [v]) = wcells l cs ++ [.int .i64 x.1, v] := by
  unfold wcells
  rw [List.map_append, List.zip_append (by simp [h]), List.flatMap_append]
  simp [wEl]
/-- k of the writes are copied into the new row. -/
structure CopW (w wr : World) (l : List (Int × List Int)) (cs : List Value) (k : Nat) : Prop where
  below : Below w.heap.size w wr
  size : w.heap.size < wr.heap.size
  len : cs.length = k
  row : wr.rowIs w.heap.size 51 (l.length * 2) (fun j => ((wcells (l.take k) cs)[j]?).getD (zeroW j))
  bytes : Bs wr (w.heap.size + 1) cs ((l.take k).map (·.2))
theorem copW_start (w : World) (l : List (Int × List Int)) : CopW w (w.alloc (.cells (madeCells #[.int .i64 0, .slice none 0 0] (l.length * 2)) 51)) l [] 0 := by
  have hr := World.rowIs_alloc w (madeCells #[.int .i64 0, .slice none 0 0] (l.length * 2)) 51 zeroW (fun i hi => by
    rw [size_madeCells] at hi
    simp [madeCells, hi, zeroW]
    have h3 : i % 2 = 0 ∨ i % 2 = 1 := by omega
    rcases h3 with h | h <;> simp [h])
  rw [size_madeCells] at hr
  exact ⟨(Below.refl _ _).alloc (Nat.le_refl _) _, by simp, rfl, hr.congr (fun i _ => by simp [wcells]), Bs.nil _ _⟩
theorem CopW.put {w wr w2 : World} {l : List (Int × List Int)} {cs : List Value} {k : Nat} (h : CopW w wr l cs k) (hk : k < l.length) (hb : Below wr.heap.size wr w2) {u : Value} {g : Nat} (hu : OB w2 wr.heap.size u (l[k]).2) (hg : u.ownBlock = some g) (hg0 : wr.heap.size ≤ g) (hs : g < w2.heap.size) :
    CopW w ((w2.setCell ⟨w.heap.size, k * 2, none⟩ (.int .i64 (l[k]).1)).setCell ⟨w.heap.size, k * 2 + 1, none⟩ u) l (cs ++ [u]) (k + 1) := by
  have hsz := h.size
  have hlen := h.len
  have htl : (l.take k).length = k := by simp; omega
  have hwl := wcells_len (l := l.take k) (cs := cs) (by omega)
  refine ⟨((h.below.trans (hb.mono h.below.size)).setCell (Nat.le_refl _) _).setCell (Nat.le_refl _) _, by simp; omega, by simp [h.len], (((rowIsBelow h.row hb).set _ _).set _ _).congr (fun i hi => ?_), ?_⟩
  · rw [take_one hk, wcells_push (by omega)]
    by_cases e : i < k * 2
    · rw [if_neg (by omega), if_neg (by omega), List.getElem?_append_left (by omega)]
    · by_cases e0 : i = k * 2
      · subst e0
        rw [if_neg (by omega), if_pos rfl, List.getElem?_append_right (by omega), hwl, htl]
        simp
      · by_cases e1 : i = k * 2 + 1
        · subst e1
          rw [if_pos rfl, List.getElem?_append_right (by omega), hwl, htl]
          simp
        · rw [if_neg e1, if_neg e0, List.getElem?_eq_none (by omega), List.getElem?_eq_none (by simp; omega)]
  · have hu' : Up (w.heap.size + 1) w2 ((w2.setCell ⟨w.heap.size, k * 2, none⟩ (.int .i64 (l[k]).1)).setCell ⟨w.heap.size, k * 2 + 1, none⟩ u) := (Up.set (by omega)).trans (Up.set (by omega))
    rw [take_one hk, List.map_append]
    refine ((h.bytes.up (Up.ofBelow hb)).up hu').push ((hu.mono (by omega)).up hu') (fun g' e => ?_)
    rw [hg] at e; cases e
    exact ⟨⟨by omega, by simpa using hs⟩, h.bytes.newer hg0⟩

set_option maxHeartbeats 2000000 in
theorem toWriteS_any (a : Option Addr) (cap : Nat) (l : List (Int × List Int)) (w : World) (h : WView w a cap l) (hn : l.length ≤ 1048576) (hz : ∀ i (h : i < l.length), (l[i]).2.length ≤ 1048576) :
    Calls Try.prog 59 #[.slice a l.length cap] w fun e w' => e = .returned (.slice (some ⟨w.heap.size, 0, none⟩) l.length l.length) ∧ Below w.heap.size w w' ∧ w.heap.size < w'.heap.size ∧ ∃ cs, cs.length = l.length ∧ RL 51 w' w.heap.size (some ⟨w.heap.size, 0, none⟩) (wcells l cs) ∧ Bs w' w.heap.size cs (l.map (·.2)) := by
  have hmk := fun W => makeWrites l.length hn W
  go_enter Try.func59, Try.ntmps59
  go_wp2
  clear hmk
  go_loopg [4] l.length (fun q i wr => ∃ (k : Nat) (cs : List Value), k ≤ l.length ∧ q = l.length - k ∧ i = .int .i64 k ∧ CopW w wr l cs k)
  case atStart => exact ⟨0, [], Nat.zero_le _, rfl, rfl, copW_start w l⟩
  case round =>
    obtain ⟨k, cs, hk, rfl, rfl, hC⟩ := hrel
    by_cases hlt : k < l.length
    · obtain ⟨b1, o1, a', c', rfl, hb1, x0, x1, v0, -⟩ := wview_at (wview_below h hC.below) hlt
      have hkz : (k : Int) < (l.length : Int) := by omega
      have hV := toWrite_any (l[k]).1 a' (l[k]).2.length c' (bf (l[k]).2) wr v0 (hz k hlt)
      have HOB : Hid (∀ i, i < (l[k]).2.length → 0 ≤ bf (l[k]).2 i ∧ bf (l[k]).2 i ≤ 255) := v0.byte
      have HC : Hid (CopW w wr l cs k) := hC
      have hsz := hC.size
      clear hz h hC v0
      obtain ⟨p0, hp0⟩ := hidEx (l[k]).2.length
      obtain ⟨p1, hp1⟩ := hidEx (bf (l[k]).2)
      obtain ⟨p2, hp2⟩ := hidEx (l[k]).1
      rw [hp1.out, hp2.out] at hV
      rw [hp0.out] at x1 hV
      rw [hp2.out] at x0
      go_wp2_with fail
      refine hV.mono ?_
      rintro e w2 ⟨rfl, hs2, hr2, hb2⟩
      have hcp : CopW w ((w2.setCell ⟨w.heap.size, k * 2, none⟩ (.int .i64 p2)).setCell ⟨w.heap.size, k * 2 + 1, none⟩ (.slice (some ⟨wr.heap.size + 3, 0, none⟩) p0 p0)) l (cs ++ [.slice (some ⟨wr.heap.size + 3, 0, none⟩) p0 p0]) (k + 1) := by
        rw [← hp2.out]
        refine HC.out.put (g := wr.heap.size + 3) hlt hb2 ?_ rfl (by omega) (by omega)
        rw [← hp0.out]
        rw [← hp0.out, ← hp1.out] at hr2
        exact OB.ofIs hr2 (by omega) HOB.out
      have hrow := rowIsBelow HC.out.row hb2
      have z0 := hrow.cell (i := k * 2) (by omega)
      have f0 := hrow.frozen (k * 2)
      have z1 := hrow.cell (i := k * 2 + 1) (by omega)
      have f1 := hrow.frozen (k * 2 + 1)
      have hS : Hid (CopW w ((w2.setCell ⟨w.heap.size, k * 2, none⟩ (.int .i64 p2)).setCell ⟨w.heap.size, k * 2 + 1, none⟩ (.slice (some ⟨wr.heap.size + 3, 0, none⟩) p0 p0)) l (cs ++ [.slice (some ⟨wr.heap.size + 3, 0, none⟩) p0 p0]) (k + 1)) := hcp
      clear hcp hrow hr2 hb2 hV x0 HOB HC
      go_wp2
      go_roundg (l.length - (k + 1))
      case measure => omega
      case rel => exact ⟨k + 1, _, by omega, rfl, by go_num, hS.out⟩
    · have hkn : k = l.length := by omega
      have hkz : ¬ (k : Int) < (l.length : Int) := by omega
      have hS : Hid (CopW w wr l cs k) := hC
      clear hC h hz
      go_wp2
      go_ret
      have hC := hS.out
      have hrow := hC.row
      have hby := hC.bytes
      have hlen : cs.length = l.length := by rw [hC.len, hkn]
      rw [hkn, List.take_length] at hrow hby
      refine ⟨rfl, hC.below, hC.size, cs, hlen, RL.ofIs hrow (Nat.le_refl _) (fun i u hi => ?_), hby.mono (by omega)⟩
      have := (List.getElem?_eq_some_iff.1 hi).1
      rw [wcells_len hlen] at this
      exact ⟨by omega, by simp [hi]⟩
end Go.Proofs.Ytdhfbblameiloaa

/-
  How much a disk holds, as the law counts it; where that is not too much, nothing of it is long.
-/
namespace Go.Proofs.Ytdhfbblameiloaa
open Go.RowKit
set_option maxRecDepth 4000

/-- What was put into a variable of five cells is there while nothing of it is written. -/
theorem box5 {w wr : World} {T : TypeId} {x0 x1 x2 x3 x4 : Value} (h : Below (w.heap.size + 1) (w.alloc (.cells #[x0, x1, x2, x3, x4] T)) wr) :
    wr.cell? ⟨w.heap.size, 0, none⟩ = some x0 ∧ wr.cell? ⟨w.heap.size, 1, none⟩ = some x1 ∧ wr.cell? ⟨w.heap.size, 2, none⟩ = some x2 ∧ wr.cell? ⟨w.heap.size, 3, none⟩ = some x3 ∧ wr.cell? ⟨w.heap.size, 4, none⟩ = some x4 := by
  refine ⟨?_, ?_, ?_, ?_, ?_⟩
  all_goals (rw [h.cell (by simp)]; simp [go_sem])
theorem box5_below {w wr : World} {o : Obj} (h : Below (w.heap.size + 1) (w.alloc o) wr) : Below w.heap.size w wr ∧ w.heap.size + 1 ≤ wr.heap.size := by
  refine ⟨((Below.refl _ _).alloc (Nat.le_refl _) _).trans (h.mono (by simp)), ?_⟩
  have := h.size
  simpa using this
theorem box5_start (w : World) (o : Obj) : Below (w.heap.size + 1) (w.alloc o) (w.alloc o) := Below.refl _ _
theorem box5_on {w wr w' : World} {o : Obj} (h : Below (w.heap.size + 1) (w.alloc o) wr) (h' : Below wr.heap.size wr w') : Below (w.heap.size + 1) (w.alloc o) w' := h.trans (h'.mono (box5_below h).2)

/-- Rows that a machine can have. -/
structure KLim (D : PDisk) : Prop where
  ns : D.secs.length ≤ maxLen
  sec : ∀ i (h : i < D.secs.length), (D.secs[i]).length ≤ maxLen
  nc : D.cache.length ≤ maxLen
  cache : ∀ i (h : i < D.cache.length), (D.cache[i]).2.length ≤ maxLen
  nf : D.faults.length ≤ maxLen

/-- What a count comes to: too much, or what is left. -/
def LeftK (w : World) (left : Int) (P : Prop) (e : Ending) (w' : World) : Prop := ∃ L : Int, e = .returned (.int .i64 L) ∧ Below w.heap.size w w' ∧ (L = -1 ∨ (0 ≤ L ∧ L ≤ left ∧ P))

set_option maxHeartbeats 1000000 in
theorem szByteS_fine (a : Option Addr) (n cap : Nat) (left : Int) (w : World) (hs : n ≤ maxLen) (h0 : 0 ≤ left) (hl : left ≤ 1048576) :
    Calls Try.prog 114 #[.slice a n cap, .int .i64 left] w (LeftK w left (n ≤ 1048576)) := by
  have hs' : (n : Int) ≤ 9223372036854775807 := by unfold maxLen at hs; omega
  by_cases hb : left - (n : Int) < 0
  · go_enter Try.func114, Try.ntmps114
    go_wp2
    go_ret
    exact ⟨_, rfl, Below.refl _ _, .inl rfl⟩
  · go_enter Try.func114, Try.ntmps114
    go_wp2
    go_ret
    exact ⟨_, rfl, Below.refl _ _, .inr ⟨by omega, by omega, by omega⟩⟩
set_option maxHeartbeats 1000000 in
theorem szFaultS_fine (a : Option Addr) (n cap : Nat) (left : Int) (w : World) (hs : n ≤ maxLen) (h0 : 0 ≤ left) (hl : left ≤ 1048576) :
    Calls Try.prog 54 #[.slice a n cap, .int .i64 left] w (LeftK w left (n ≤ 1048576)) := by
  have hs' : (n : Int) ≤ 9223372036854775807 := by unfold maxLen at hs; omega
  by_cases hb : left - (n : Int) < 0
  · go_enter Try.func54, Try.ntmps54
    go_wp2
    go_ret
    exact ⟨_, rfl, Below.refl _ _, .inl rfl⟩
  · go_enter Try.func54, Try.ntmps54
    go_wp2
    go_ret
    exact ⟨_, rfl, Below.refl _ _, .inr ⟨by omega, by omega, by omega⟩⟩
end Go.Proofs.Ytdhfbblameiloaa

/-
  The laws' markDisk and heldDisk, walked.
-/
namespace Go.Proofs.Ytdhfbblameiloaa
open Go.RowKit
set_option maxRecDepth 4000

set_option maxHeartbeats 2000000 in
theorem markByteSS_any (a : Option Addr) (cap B H : Nat) (ss cs : List Value) (l ms : List (List Int)) (k : Int) (w : World) (hR : RL 27 w B a ss) (hB : Bs w B (ss ++ cs) (l ++ ms)) (hl : ss.length = l.length) (hH : ∀ v, v ∈ ss → ∀ g, v.ownBlock = some g → g < H) (hn : l.length ≤ 1048576) (hk : 0 ≤ k) (hk1 : k + szS l ≤ 4611686018427387904) :
    Calls Try.prog 71 #[.slice a l.length cap, .int .i64 k] w fun e w' => e = .returned (.int .i64 (k + szS l)) ∧ Bs w' B (ss ++ cs) (l.mapIdx (fS k l) ++ ms) ∧ Out B H w w' ∧ w'.heap.size = w.heap.size ∧ Keep8 w w' := by
  go_enter Try.func71, Try.ntmps71
  go_wp2
  go_loopg [1, 5] l.length (fun q s i wr => ∃ j : Nat, j ≤ l.length ∧ q = l.length - j ∧ s = .int .i64 (k + szS (l.take j)) ∧ i = .int .i64 j ∧ Bs wr B (ss ++ cs) (upto (fS k l) l j ++ ms) ∧ Out B H w wr ∧ wr.heap.size = w.heap.size ∧ Keep8 w wr)
  case atStart => exact ⟨0, Nat.zero_le _, rfl, by simp [szS], rfl, by rw [upto_zero]; exact hB, Out.refl _ _ _, rfl, fun _ _ _ _ _ _ => rfl⟩
  case round =>
    clear hB
    obtain ⟨j, hj, rfl, rfl, rfl, hB, hO, hsz, ho⟩ := hrel
    by_cases hlt : j < l.length
    · have hjz : (j : Int) < (l.length : Int) := by omega
      have hR2 : RL 27 wr B a ss := hR.keep ho (by decide)
      obtain ⟨g, rfl, hg0, hg1, hgc⟩ := hR2.cell (by omega)
      have hv := List.getElem?_eq_getElem (l := ss) (i := j) (by omega)
      have hc := hgc j _ hv
      have hvs : (ss ++ cs)[j]? = some ss[j] := by rw [List.getElem?_append_left (by omega)]; exact hv
      have hls : (upto (fS k l) l j ++ ms)[j]? = some l[j] := by
        rw [List.getElem?_append_left (by rw [upto_len]; exact hlt), upto_get, List.getElem?_eq_getElem hlt]
        simp
      have hOB := hB.ob j _ _ hvs hls
      have hst := szS_take hlt
      have hsl := szS_le l (j + 1)
      have hV := markOB hOB (k + szS (l.take j)) (by omega) (by omega)
      have HS : Hid ((upto (fS k l) l j ++ ms).set j (mkB (k + szS (l.take j)) (l[j]).length) = upto (fS k l) l (j + 1) ++ ms) := by
        show _ = _
        rw [List.set_append_left _ _ (by rw [upto_len]; exact hlt)]
        rw [← upto_set _ _ _ hlt]
        rfl
      have HK : Hid (k + szS (l.take j) + (l[j]).length = k + szS (l.take (j + 1))) := by
        show _ = _
        rw [hst]; omega
      have HH : Hid (∀ g, ss[j].ownBlock = some g → B ≤ g ∧ g < H) := fun g e => ⟨(hB.lt _ (List.mem_of_getElem? hvs) g e).1, hH _ (List.mem_of_getElem? hv) g e⟩
      have HB : Hid (Bs wr B (ss ++ cs) (upto (fS k l) l j ++ ms) ∧ Out B H w wr ∧ Keep8 w wr ∧ (ss ++ cs)[j]? = some ss[j]) := ⟨hB, hO, ho, hvs⟩
      clear hB hO ho hvs hls hOB hst hsl hR hR2 hgc hv
      obtain ⟨k0, hk0⟩ := hidEx (k + (szS (l.take j) : Int))
      obtain ⟨k2, hk2⟩ := hidEx (k + (szS (l.take (j + 1)) : Int))
      obtain ⟨n0, hn0⟩ := hidEx (l[j]).length
      obtain ⟨v0, hv0⟩ := hidEx ss[j]
      rw [hv0.out] at hc hV HH HB
      rw [hn0.out, hk0.out] at hV HS
      rw [hn0.out, hk0.out, hk2.out] at HK
      have hHs := hH
      clear hH
      rw [hk0.out]
      go_wp2_with fail
      refine hV.mono ?_
      rintro e w2 ⟨rfl, hm, hov⟩
      have HR : Hid (Bs w2 B (ss ++ cs) (upto (fS k l) l (j + 1) ++ ms) ∧ Out B H w w2 ∧ w2.heap.size = w.heap.size ∧ Keep8 w w2) := by
        refine ⟨?_, HB.out.2.1.trans (Out.ofOnlyV hov HH.out), by rw [hov.size, hsz], HB.out.2.2.1.trans hov.keep⟩
        rw [← HS.out]
        exact HB.out.1.mark HB.out.2.2.2 hm hov
      rw [HK.out]
      clear hV hm hov HB HS HH HK
      go_wp2
      go_roundg (l.length - (j + 1))
      case measure => omega
      case rel => exact ⟨j + 1, by omega, rfl, by rw [hk2.out], by go_num, HR.out⟩
    · obtain rfl : j = l.length := by omega
      have hjz : ¬ (l.length : Int) < (l.length : Int) := by omega
      rw [List.take_length]
      have HB : Hid (Bs wr B (ss ++ cs) (l.mapIdx (fS k l) ++ ms)) := by
        show Bs _ _ _ _
        rw [← upto_all (fS k l) l l.length (Nat.le_refl _)]
        exact hB
      clear hB hR
      go_wp2
      go_ret
      exact ⟨rfl, HB.out, hO, hsz, ho⟩

set_option maxHeartbeats 2000000 in
theorem heldByteSS_any (a : Option Addr) (cap : Nat) (l : List (List Int)) (k : Int) (w : World) (h : SView w a cap (l.mapIdx (fS k l))) (hn : l.length ≤ 1048576) (hk : 0 ≤ k) (hk1 : k + szS l ≤ 4611686018427387904) :
    Calls Try.prog 74 #[.slice a l.length cap, .int .i64 k] w fun e w' => e = .returned (.int .i64 (k + szS l)) ∧ Below w.heap.size w w' := by
  go_enter Try.func74, Try.ntmps74
  go_wp2
  go_loopg [1, 5] l.length (fun q s i wr => ∃ j : Nat, j ≤ l.length ∧ q = l.length - j ∧ s = .int .i64 (k + szS (l.take j)) ∧ i = .int .i64 j ∧ Below w.heap.size w wr)
  case atStart => exact ⟨0, Nat.zero_le _, rfl, by simp [szS], rfl, Below.refl _ _⟩
  case round =>
    obtain ⟨j, hj, rfl, rfl, rfl, hB⟩ := hrel
    by_cases hlt : j < l.length
    · have hjz : (j : Int) < (l.length : Int) := by omega
      obtain ⟨b1, o1, a', c', rfl, hb1, x0, v0, -⟩ := sview_at (sview_below h hB) (i := j) (by simpa using hlt)
      have eL : (l.mapIdx (fS k l))[j]'(by simpa using hlt) = mkB (k + szS (l.take j)) (l[j]).length := by simp [fS]
      rw [eL, mkB_len] at x0 v0
      have hst := szS_take hlt
      have hsl := szS_le l (j + 1)
      have hV := held_any a' (l[j]).length c' _ (k + szS (l.take j)) wr v0 (fun i hi => mkB_get _ _ i hi) (by omega) (by omega)
      have HK : Hid (k + szS (l.take j) + (l[j]).length = k + szS (l.take (j + 1))) := by
        show _ = _
        rw [hst]; omega
      have hp : ¬ k + szS (l.take (j + 1)) < (0 : Int) := by omega
      clear h v0 eL hst hsl
      obtain ⟨k0, hk0⟩ := hidEx (k + (szS (l.take j) : Int))
      obtain ⟨k2, hk2⟩ := hidEx (k + (szS (l.take (j + 1)) : Int))
      obtain ⟨n0, hn0⟩ := hidEx (l[j]).length
      rw [hn0.out] at x0
      rw [hn0.out, hk0.out] at hV
      rw [hn0.out, hk0.out, hk2.out] at HK
      rw [hk2.out] at hp
      rw [hk0.out]
      go_wp2_with fail
      refine hV.mono ?_
      rintro e w2 ⟨rfl, hb2⟩
      have HB : Hid (Below w.heap.size w w2) := hB.trans (hb2.mono hB.size)
      rw [HK.out]
      clear hV hb2 HK hB
      go_wp2
      go_roundg (l.length - (j + 1))
      case measure => omega
      case rel => exact ⟨j + 1, by omega, rfl, by rw [hk2.out], by go_num, HB.out⟩
    · obtain rfl : j = l.length := by omega
      have hjz : ¬ (l.length : Int) < (l.length : Int) := by omega
      rw [List.take_length]
      clear h
      go_wp2
      go_ret
      exact ⟨rfl, hB⟩
end Go.Proofs.Ytdhfbblameiloaa

/-
  Faults of a disk, and the disk, copied, as the law does it.
-/
namespace Go.Proofs.Ytdhfbblameiloaa
open Go.RowKit
set_option maxRecDepth 4000

set_option maxHeartbeats 1000000 in
theorem toFault_any (c d f : Int) (w : World) :
    Calls Try.prog 119 #[.agg #[.int .i64 c, .int .i64 d, .int .i64 f]] w fun e w' => e = .returned (.agg #[.int .i64 c, .int .i64 d, .int .i64 f]) ∧ Below w.heap.size w w' := by
  go_enter Try.func119, Try.ntmps119
  go_wp2
  refine bodyPost_ret (v := .agg #[.int .i64 c, .int .i64 d, .int .i64 f]) (by simp [results, Try.results119, go_sem]) rfl ⟨rfl, ?_⟩
  repeat (first | exact Below.refl _ _ | refine Below.alloc ?_ (by simp <;> omega) _ | refine Below.drew ?_)

theorem infoFault : ∃ i, Try.prog.info? 79 = some i ∧ i.zero = some (.agg #[.int .i64 0, .int .i64 0, .int .i64 0]) ∧ i.size = 3 ∧ i.bytes = 24 := by
  have h : (Try.prog.info? 79).map (fun i => (i.zero, i.size, i.bytes)) = some (some (.agg #[.int .i64 0, .int .i64 0, .int .i64 0]), 3, 24) := by kernel_rfl
  obtain ⟨i, hi, hz⟩ := Option.map_eq_some_iff.1 h
  simp only [Prod.mk.injEq] at hz
  exact ⟨i, hi, hz.1, hz.2.1, hz.2.2⟩
theorem makeFaults (n : Nat) (h : n ≤ 1048576) (w : World) : (Instr.makeSlice 30 (.int .i64 (n : Int)) (.int .i64 (n : Int))).run Try.prog w = .ok (.slice (some ⟨w.heap.size, 0, none⟩) n n) (w.alloc (.cells (madeCells #[.int .i64 0, .int .i64 0, .int .i64 0] (n * 3)) 79)) := by
  obtain ⟨i, hi, hz, hs, hb⟩ := infoFault
  have hr := run_make (P := Try.prog) w 30 79 i _ Try.underlying30 hi hz .i64 .i64 n n (by omega) (Int.le_refl _) (by rw [hb]; omega) (by omega)
  simp only [Int.toNat_natCast, hs] at hr
  exact hr
theorem fcells_len (l : List PFault) : (fcells l).length = l.length * 3 := flat_len fEl 3 (fun _ => rfl) _
theorem fcells_push (l : List PFault) (x : PFault) : fcells (l ++ [x]) = fcells l ++ [.int .i64 x.pos, .int .i64 x.keep, .int .i64 x.cut] := by
  unfold fcells
  rw [List.flatMap_append]
  simp [fEl]
/-- k of the faults are copied into the new row. -/
structure CopF (w wr : World) (l : List PFault) (k : Nat) : Prop where
  below : Below w.heap.size w wr
  size : w.heap.size < wr.heap.size
  row : wr.rowIs w.heap.size 79 (l.length * 3) (fun j => ((fcells (l.take k))[j]?).getD (.int .i64 0))
theorem copF_start (w : World) (l : List PFault) : CopF w (w.alloc (.cells (madeCells #[.int .i64 0, .int .i64 0, .int .i64 0] (l.length * 3)) 79)) l 0 := by
  have hr := World.rowIs_alloc w (madeCells #[.int .i64 0, .int .i64 0, .int .i64 0] (l.length * 3)) 79 (fun _ => .int .i64 0) (fun i hi => by
    rw [size_madeCells] at hi
    simp [madeCells, hi]
    have h3 : i % 3 = 0 ∨ i % 3 = 1 ∨ i % 3 = 2 := by omega
    rcases h3 with h | h | h <;> simp [h])
  rw [size_madeCells] at hr
  exact ⟨(Below.refl _ _).alloc (Nat.le_refl _) _, by simp, hr.congr (fun i _ => by simp [fcells])⟩
theorem CopF.put {w wr w2 : World} {l : List PFault} {k : Nat} (h : CopF w wr l k) (hk : k < l.length) (hb : Below wr.heap.size wr w2) :
    CopF w (((w2.setCell ⟨w.heap.size, k * 3, none⟩ (.int .i64 (l[k]).pos)).setCell ⟨w.heap.size, k * 3 + 1, none⟩ (.int .i64 (l[k]).keep)).setCell ⟨w.heap.size, k * 3 + 2, none⟩ (.int .i64 (l[k]).cut)) l (k + 1) := by
  have hsz := h.size
  have htl : (l.take k).length = k := by simp; omega
  have hwl := fcells_len (l.take k)
  have hs2 := hb.size
  refine ⟨(((h.below.trans (hb.mono h.below.size)).setCell (Nat.le_refl _) _).setCell (Nat.le_refl _) _).setCell (Nat.le_refl _) _, by simp; omega, ((((rowIsBelow h.row hb).set _ _).set _ _).set _ _).congr (fun i hi => ?_)⟩
  rw [take_one hk, fcells_push]
  by_cases e : i < k * 3
  · rw [if_neg (by omega), if_neg (by omega), if_neg (by omega), List.getElem?_append_left (by omega)]
  by_cases e0 : i = k * 3
  · subst e0
    rw [if_neg (by omega), if_neg (by omega), if_pos rfl, List.getElem?_append_right (by omega), hwl, htl]
    simp
  by_cases e1 : i = k * 3 + 1
  · subst e1
    rw [if_neg (by omega), if_pos rfl, List.getElem?_append_right (by omega), hwl, htl]
    simp
  by_cases e2 : i = k * 3 + 2
  · subst e2
    rw [if_pos rfl, List.getElem?_append_right (by omega), hwl, htl]
    simp
  rw [if_neg e2, if_neg e1, if_neg e0, List.getElem?_eq_none (by omega), List.getElem?_eq_none (by simp; omega)]

set_option maxHeartbeats 2000000 in
theorem toFaultS_any (a : Option Addr) (cap : Nat) (l : List PFault) (w : World) (h : FView w a cap l) (hn : l.length ≤ 1048576) :
    Calls Try.prog 60 #[.slice a l.length cap] w fun e w' => e = .returned (.slice (some ⟨w.heap.size, 0, none⟩) l.length l.length) ∧ Below w.heap.size w w' ∧ w.heap.size < w'.heap.size ∧ RL 79 w' w.heap.size (some ⟨w.heap.size, 0, none⟩) (fcells l) := by
  have hmk := fun W => makeFaults l.length hn W
  go_enter Try.func60, Try.ntmps60
  go_wp2
  clear hmk
  go_loopg [4] l.length (fun q i wr => ∃ (k : Nat), k ≤ l.length ∧ q = l.length - k ∧ i = .int .i64 k ∧ CopF w wr l k)
  case atStart => exact ⟨0, Nat.zero_le _, rfl, rfl, copF_start w l⟩
  case round =>
    obtain ⟨k, hk, rfl, rfl, hC⟩ := hrel
    by_cases hlt : k < l.length
    · obtain ⟨b1, o1, rfl, hb1, x0, x1, x2⟩ := fview_at (fview_below h hC.below) hlt
      have hkz : (k : Int) < (l.length : Int) := by omega
      have HC : Hid (CopF w wr l k) := hC
      have hsz := hC.size
      clear h hC
      obtain ⟨p0, hp0⟩ := hidEx (l[k]).pos
      obtain ⟨p1, hp1⟩ := hidEx (l[k]).keep
      obtain ⟨p2, hp2⟩ := hidEx (l[k]).cut
      rw [hp0.out] at x0
      rw [hp1.out] at x1
      rw [hp2.out] at x2
      have hV := toFault_any p0 p1 p2 wr
      go_wp2_with fail
      refine hV.mono ?_
      rintro e w2 ⟨rfl, hb2⟩
      have hcp := HC.out.put hlt hb2
      rw [hp0.out, hp1.out, hp2.out] at hcp
      have hrow := rowIsBelow HC.out.row hb2
      have z0 := hrow.cell (i := k * 3) (by omega)
      have f0 := hrow.frozen (k * 3)
      have z1 := hrow.cell (i := k * 3 + 1) (by omega)
      have f1 := hrow.frozen (k * 3 + 1)
      have z2 := hrow.cell (i := k * 3 + 2) (by omega)
      have f2 := hrow.frozen (k * 3 + 2)
      have hS : Hid (CopF w (((w2.setCell ⟨w.heap.size, k * 3, none⟩ (.int .i64 p0)).setCell ⟨w.heap.size, k * 3 + 1, none⟩ (.int .i64 p1)).setCell ⟨w.heap.size, k * 3 + 2, none⟩ (.int .i64 p2)) l (k + 1)) := hcp
      clear hcp hrow hb2 hV x0 x1 x2 HC
      go_wp2
      go_roundg (l.length - (k + 1))
      case measure => omega
      case rel => exact ⟨k + 1, by omega, rfl, by go_num, hS.out⟩
    · have hkn : k = l.length := by omega
      have hkz : ¬ (k : Int) < (l.length : Int) := by omega
      have hS : Hid (CopF w wr l k) := hC
      clear hC h
      go_wp2
      go_ret
      have hC := hS.out
      have hrow := hC.row
      rw [hkn, List.take_length] at hrow
      refine ⟨rfl, hC.below, hC.size, RL.ofIs hrow (Nat.le_refl _) (fun i u hi => ?_)⟩
      have := (List.getElem?_eq_some_iff.1 hi).1
      rw [fcells_len] at this
      exact ⟨by omega, by simp [hi]⟩

/-- The three variables of toDisk: what came in, the answer, the new one. -/
structure TD (w W : World) (xs zs ys : List Value) : Prop where
  below : Below w.heap.size w W
  size : w.heap.size + 3 ≤ W.heap.size
  a : VN W w.heap.size 26 xs
  r : VN W (w.heap.size + 1) 32 zs
  o : VN W (w.heap.size + 1 + 1) 32 ys
theorem td_new (w : World) (xs zs ys : List Value) : TD w (((w.alloc (.cells ⟨xs⟩ 26)).alloc (.cells ⟨zs⟩ 32)).alloc (.cells ⟨ys⟩ 32)) xs zs ys := by
  have V0 := VN.new w 26 xs
  have V1 := VN.new (w.alloc (.cells ⟨xs⟩ 26)) 32 zs
  have V2 := VN.new ((w.alloc (.cells ⟨xs⟩ 26)).alloc (.cells ⟨zs⟩ 32)) 32 ys
  simp only [alloc_sizeK] at V1 V2
  refine ⟨(((Below.refl _ _).alloc (Nat.le_refl _) _).alloc (by simp) _).alloc (by simp; omega) _, by simp, (V0.below ((Below.refl _ _).alloc (Nat.le_refl _) _)).below ((Below.refl _ _).alloc (Nat.le_refl _) _), V1.below ((Below.refl _ _).alloc (Nat.le_refl _) _), V2⟩
theorem TD.on {w W W' : World} {xs zs ys : List Value} (h : TD w W xs zs ys) (hb : Below W.heap.size W W') : TD w W' xs zs ys :=
  ⟨h.below.trans (hb.mono h.below.size), Nat.le_trans h.size hb.size, h.a.below hb, h.r.below hb, h.o.below hb⟩
theorem TD.set {w W : World} {xs zs ys : List Value} (h : TD w W xs zs ys) (i : Nat) (u : Value) : TD w (W.setCell ⟨w.heap.size + 1 + 1, i, none⟩ u) xs zs (ys.set i u) :=
  ⟨h.below.setCell (p := ⟨w.heap.size + 1 + 1, i, none⟩) (by simp; omega) _, by simpa using h.size, h.a.other (by omega), h.r.other (by omega), h.o.set i u⟩
theorem TD.ret {w W : World} {xs zs ys : List Value} (h : TD w W xs zs ys) (i : Nat) (u : Value) : TD w (W.setCell ⟨w.heap.size + 1, i, none⟩ u) xs (zs.set i u) ys :=
  ⟨h.below.setCell (p := ⟨w.heap.size + 1, i, none⟩) (by simp) _, by simpa using h.size, h.a.other (by omega), h.r.set i u, h.o.other (by omega)⟩
theorem TD.cells {w W : World} {x0 x1 x2 x3 x4 : Value} {zs : List Value} {y0 y1 y2 y3 y4 : Value} (h : TD w W [x0, x1, x2, x3, x4] zs [y0, y1, y2, y3, y4]) :
    (W.cell? ⟨w.heap.size, 0, none⟩ = some x0 ∧ W.cell? ⟨w.heap.size, 1, none⟩ = some x1 ∧ W.cell? ⟨w.heap.size, 2, none⟩ = some x2 ∧ W.cell? ⟨w.heap.size, 3, none⟩ = some x3 ∧ W.cell? ⟨w.heap.size, 4, none⟩ = some x4)
    ∧ (W.cell? ⟨w.heap.size + 1 + 1, 0, none⟩ = some y0 ∧ W.cell? ⟨w.heap.size + 1 + 1, 1, none⟩ = some y1 ∧ W.cell? ⟨w.heap.size + 1 + 1, 2, none⟩ = some y2 ∧ W.cell? ⟨w.heap.size + 1 + 1, 3, none⟩ = some y3 ∧ W.cell? ⟨w.heap.size + 1 + 1, 4, none⟩ = some y4)
    ∧ ∀ i, W.frozen? ⟨w.heap.size + 1 + 1, i, none⟩ = false :=
  ⟨⟨h.a.cell 0, h.a.cell 1, h.a.cell 2, h.a.cell 3, h.a.cell 4⟩, ⟨h.o.cell 0, h.o.cell 1, h.o.cell 2, h.o.cell 3, h.o.cell 4⟩, fun i => h.o.fz i⟩
theorem TD.rcells {w W : World} {xs : List Value} {y0 y1 y2 y3 y4 : Value} {ys : List Value} (h : TD w W xs [y0, y1, y2, y3, y4] ys) :
    (W.cell? ⟨w.heap.size + 1, 0, none⟩ = some y0 ∧ W.cell? ⟨w.heap.size + 1, 1, none⟩ = some y1 ∧ W.cell? ⟨w.heap.size + 1, 2, none⟩ = some y2 ∧ W.cell? ⟨w.heap.size + 1, 3, none⟩ = some y3 ∧ W.cell? ⟨w.heap.size + 1, 4, none⟩ = some y4)
    ∧ ∀ i, W.frozen? ⟨w.heap.size + 1, i, none⟩ = false :=
  ⟨⟨h.r.cell 0, h.r.cell 1, h.r.cell 2, h.r.cell 3, h.r.cell 4⟩, fun i => h.r.fz i⟩

set_option maxHeartbeats 4000000 in
theorem toDisk_any (v : Value) (D : PDisk) (w : World) (h : KView w v D) (hf : KFine D) :
    Calls Try.prog 11 #[v] w fun e w' => ∃ v', e = .returned v' ∧ KOwn w' w.heap.size v' D ∧ Below w.heap.size w w' := by
  obtain ⟨sa, sc, ca, cc, fa, fc, rfl, hs, hc, hfv⟩ := h.is
  clear h
  have T0 := td_new w [.slice sa D.secs.length sc, .slice ca D.cache.length cc, .int .i64 D.ops, .slice fa D.faults.length fc, .bool D.down] [.slice none 0 0, .slice none 0 0, .int .i64 0, .slice none 0 0, .bool false] [.slice none 0 0, .slice none 0 0, .int .i64 0, .slice none 0 0, .bool false]
  obtain ⟨W0, hW0⟩ := hidEx (((w.alloc (.cells #[.slice sa D.secs.length sc, .slice ca D.cache.length cc, .int .i64 D.ops, .slice fa D.faults.length fc, .bool D.down] 26)).alloc (.cells #[.slice none 0 0, .slice none 0 0, .int .i64 0, .slice none 0 0, .bool false] 32)).alloc (.cells #[.slice none 0 0, .slice none 0 0, .int .i64 0, .slice none 0 0, .bool false] 32))
  have hz : W0.heap.size = w.heap.size + 1 + 1 + 1 := by rw [← hW0.out]; simp
  rw [hW0.out] at T0
  have hS := toByteSS_any sa sc D.secs W0 (sview_below hs T0.below) hf.ns (fun i h => hf.sec _ (List.getElem_mem h))
  obtain ⟨⟨x0, x1, x2, x3, x4⟩, ⟨y0, y1, y2, y3, y4⟩, q⟩ := T0.cells
  have HH : Hid (SView w sa sc D.secs ∧ WView w ca cc D.cache ∧ FView w fa fc D.faults ∧ KFine D) := ⟨hs, hc, hfv, hf⟩
  clear hs hc hfv hf
  go_enter Try.func11, Try.ntmps11
  go_wp2_with (rw [hW0.out])
  refine hS.mono ?_
  rintro e W1 ⟨rfl, hb1, hlt1, ss, hss, R1, B1⟩
  rw [hz] at R1 B1 hlt1 ⊢
  have T1 := T0.on hb1
  clear T0 hS hb1 x0 x1 x2 x3 x4 y0 y1 y2 y3 y4 q
  obtain ⟨⟨x0, x1, x2, x3, x4⟩, ⟨y0, y1, y2, y3, y4⟩, q⟩ := T1.cells
  have q0 := q 0
  have T2 := T1.set 0 (.slice (some ⟨w.heap.size + 1 + 1 + 1, 0, none⟩) D.secs.length D.secs.length)
  have U2 : Up (w.heap.size + 1 + 1 + 1) W1 (W1.setCell ⟨w.heap.size + 1 + 1, 0, none⟩ (.slice (some ⟨w.heap.size + 1 + 1 + 1, 0, none⟩) D.secs.length D.secs.length)) := Up.set (by omega)
  obtain ⟨W2, hW2⟩ := hidEx (W1.setCell ⟨w.heap.size + 1 + 1, 0, none⟩ (.slice (some ⟨w.heap.size + 1 + 1 + 1, 0, none⟩) D.secs.length D.secs.length))
  rw [hW2.out] at T2 U2
  simp only [List.set] at T2
  have R2 := R1.up U2
  have B2 := B1.up U2
  obtain ⟨⟨u0, u1, u2, u3, u4⟩, ⟨t0, t1, t2, t3, t4⟩, q'⟩ := T2.cells
  clear R1 B1 U2 T1 q
  have hS := toWriteS_any ca cc D.cache W2 (wview_below HH.out.2.1 T2.below) HH.out.2.2.2.nc (fun i h => HH.out.2.2.2.cache _ (List.getElem_mem h))
  go_wp2_with (rw [hW2.out])
  refine hS.mono ?_
  rintro e W3 ⟨rfl, hb3, hlt3, cs, hcs, C3, D3⟩
  obtain ⟨g2, hg2⟩ := hidEx W2.heap.size
  have hg2s : w.heap.size + 1 + 1 + 1 ≤ g2 := by rw [← hg2.out]; exact T2.size
  have HLT : Hid (∀ v, v ∈ ss → ∀ g, v.ownBlock = some g → g < g2) := fun v hv g hg => by rw [← hg2.out]; exact (B2.lt v hv g hg).2
  have T3 := T2.on hb3
  have R3 := R2.up (Up.ofBelow hb3)
  have B3 := B2.up (Up.ofBelow hb3)
  rw [hg2.out] at C3 D3 hlt3 ⊢
  clear T2 hS hb3 x0 x1 x2 x3 x4 y0 y1 y2 y3 y4 u0 u1 u2 u3 u4 t0 t1 t2 t3 t4 q' q0 R2 B2
  obtain ⟨⟨x0, x1, x2, x3, x4⟩, ⟨y0, y1, y2, y3, y4⟩, q⟩ := T3.cells
  have q1 := q 1
  have T4 := (T3.set 1 (.slice (some ⟨g2, 0, none⟩) D.cache.length D.cache.length))
  have U4 : Up (w.heap.size + 1 + 1 + 1) W3 (W3.setCell ⟨w.heap.size + 1 + 1, 1, none⟩ (.slice (some ⟨g2, 0, none⟩) D.cache.length D.cache.length)) := Up.set (by omega)
  have U4' : Up g2 W3 (W3.setCell ⟨w.heap.size + 1 + 1, 1, none⟩ (.slice (some ⟨g2, 0, none⟩) D.cache.length D.cache.length)) := Up.set (by omega)
  obtain ⟨W4, hW4⟩ := hidEx (W3.setCell ⟨w.heap.size + 1 + 1, 1, none⟩ (.slice (some ⟨g2, 0, none⟩) D.cache.length D.cache.length))
  rw [hW4.out] at T4 U4 U4'
  simp only [List.set] at T4
  have R4 := R3.up U4
  have B4 := B3.up U4
  have C4 := C3.up U4'
  have D4 := D3.up U4'
  clear R3 B3 C3 D3 U4 U4' T3 q
  obtain ⟨⟨u0, u1, u2, u3, u4⟩, ⟨t0, t1, t2, t3, t4⟩, q'⟩ := T4.cells
  have q2 := q' 2
  have T5 := (T4.set 2 (.int .i64 D.ops))
  have U5 : Up (w.heap.size + 1 + 1 + 1) W4 (W4.setCell ⟨w.heap.size + 1 + 1, 2, none⟩ (.int .i64 D.ops)) := Up.set (by omega)
  have U5' : Up g2 W4 (W4.setCell ⟨w.heap.size + 1 + 1, 2, none⟩ (.int .i64 D.ops)) := Up.set (by omega)
  obtain ⟨W5, hW5⟩ := hidEx (W4.setCell ⟨w.heap.size + 1 + 1, 2, none⟩ (.int .i64 D.ops))
  rw [hW5.out] at T5 U5 U5'
  simp only [List.set] at T5
  have R5 := R4.up U5
  have B5 := B4.up U5
  have C5 := C4.up U5'
  have D5 := D4.up U5'
  clear R4 B4 C4 D4 U5 U5' T4 q'
  obtain ⟨⟨k0, k1, k2, k3, k4⟩, ⟨l0, l1, l2, l3, l4⟩, q'⟩ := T5.cells
  have hS := toFaultS_any fa fc D.faults W5 (fview_below HH.out.2.2.1 T5.below) HH.out.2.2.2.nf
  go_wp2_with (first | rw [hW4.out] | rw [hW5.out])
  refine hS.mono ?_
  rintro e W6 ⟨rfl, hb6, hlt6, F6⟩
  obtain ⟨g5, hg5⟩ := hidEx W5.heap.size
  have hg5s : w.heap.size + 1 + 1 + 1 ≤ g5 := by rw [← hg5.out]; exact T5.size
  have T6 := T5.on hb6
  have R6 := R5.up (Up.ofBelow hb6)
  have B6 := B5.up (Up.ofBelow hb6)
  have C6 := C5.up (Up.ofBelow hb6)
  have D6 := D5.up (Up.ofBelow hb6)
  rw [hg5.out] at F6 hlt6 ⊢
  clear T5 hS hb6 x0 x1 x2 x3 x4 y0 y1 y2 y3 y4 u0 u1 u2 u3 u4 t0 t1 t2 t3 t4 q' q1 q2 R5 B5 C5 D5 k0 k1 k2 k3 k4 l0 l1 l2 l3 l4
  obtain ⟨⟨x0, x1, x2, x3, x4⟩, ⟨y0, y1, y2, y3, y4⟩, q⟩ := T6.cells
  have q3 := q 3
  have T7 := T6.set 3 (.slice (some ⟨g5, 0, none⟩) D.faults.length D.faults.length)
  obtain ⟨W7, hW7⟩ := hidEx (W6.setCell ⟨w.heap.size + 1 + 1, 3, none⟩ (.slice (some ⟨g5, 0, none⟩) D.faults.length D.faults.length))
  rw [hW7.out] at T7
  simp only [List.set] at T7
  obtain ⟨⟨u0, u1, u2, u3, u4⟩, ⟨t0, t1, t2, t3, t4⟩, q'⟩ := T7.cells
  have q4 := q' 4
  have T8 := T7.set 4 (.bool D.down)
  obtain ⟨W8, hW8⟩ := hidEx (W7.setCell ⟨w.heap.size + 1 + 1, 4, none⟩ (.bool D.down))
  rw [hW8.out] at T8
  simp only [List.set] at T8
  obtain ⟨-, ⟨k0, k1, k2, k3, k4⟩, -⟩ := T8.cells
  obtain ⟨⟨l0, l1, l2, l3, l4⟩, qr⟩ := T8.rcells
  have r0 := qr 0
  have r1 := qr 1
  have r2 := qr 2
  have r3 := qr 3
  have r4 := qr 4
  have T9 := ((((T8.ret 0 (.slice (some ⟨w.heap.size + 1 + 1 + 1, 0, none⟩) D.secs.length D.secs.length)).ret 1 (.slice (some ⟨g2, 0, none⟩) D.cache.length D.cache.length)).ret 2 (.int .i64 D.ops)).ret 3 (.slice (some ⟨g5, 0, none⟩) D.faults.length D.faults.length)).ret 4 (.bool D.down)
  simp only [List.set] at T9
  obtain ⟨⟨m0, m1, m2, m3, m4⟩, -⟩ := T9.rcells
  have UB : ∀ X, w.heap.size + 1 + 1 < X → Up X W6 (((((W8.setCell ⟨w.heap.size + 1, 0, none⟩ (.slice (some ⟨w.heap.size + 1 + 1 + 1, 0, none⟩) D.secs.length D.secs.length)).setCell ⟨w.heap.size + 1, 1, none⟩ (.slice (some ⟨g2, 0, none⟩) D.cache.length D.cache.length)).setCell ⟨w.heap.size + 1, 2, none⟩ (.int .i64 D.ops)).setCell ⟨w.heap.size + 1, 3, none⟩ (.slice (some ⟨g5, 0, none⟩) D.faults.length D.faults.length)).setCell ⟨w.heap.size + 1, 4, none⟩ (.bool D.down)) := by
    intro X hX
    rw [← hW8.out, ← hW7.out]
    exact (((((((Up.set (by omega)).trans (Up.set (by omega))).trans (Up.set (by omega))).trans (Up.set (by omega))).trans (Up.set (by omega))).trans (Up.set (by omega))).trans (Up.set (by omega)))
  have HR : Hid (KOwn (((((W8.setCell ⟨w.heap.size + 1, 0, none⟩ (.slice (some ⟨w.heap.size + 1 + 1 + 1, 0, none⟩) D.secs.length D.secs.length)).setCell ⟨w.heap.size + 1, 1, none⟩ (.slice (some ⟨g2, 0, none⟩) D.cache.length D.cache.length)).setCell ⟨w.heap.size + 1, 2, none⟩ (.int .i64 D.ops)).setCell ⟨w.heap.size + 1, 3, none⟩ (.slice (some ⟨g5, 0, none⟩) D.faults.length D.faults.length)).setCell ⟨w.heap.size + 1, 4, none⟩ (.bool D.down)) w.heap.size (dval D (some ⟨w.heap.size + 1 + 1 + 1, 0, none⟩) D.secs.length (some ⟨g2, 0, none⟩) D.cache.length (some ⟨g5, 0, none⟩) D.faults.length) D ∧ Below w.heap.size w (((((W8.setCell ⟨w.heap.size + 1, 0, none⟩ (.slice (some ⟨w.heap.size + 1 + 1 + 1, 0, none⟩) D.secs.length D.secs.length)).setCell ⟨w.heap.size + 1, 1, none⟩ (.slice (some ⟨g2, 0, none⟩) D.cache.length D.cache.length)).setCell ⟨w.heap.size + 1, 2, none⟩ (.int .i64 D.ops)).setCell ⟨w.heap.size + 1, 3, none⟩ (.slice (some ⟨g5, 0, none⟩) D.faults.length D.faults.length)).setCell ⟨w.heap.size + 1, 4, none⟩ (.bool D.down))) := by
    refine ⟨⟨_, _, _, _, _, _, ss, cs, rfl, ⟨Nat.le_refl _, (fun e => by cases e), Nat.le_refl _, (fun e => by cases e), Nat.le_refl _, (fun e => by cases e), hss, hcs, (R6.up (UB _ (by omega))).mono (by omega), (C6.up (UB _ (by omega))).mono (by omega), (F6.up (UB _ (by omega))).mono (by omega), ?_⟩⟩, T9.below⟩
    exact ((B6.up (UB _ (by omega))).app (D6.up (UB _ (by omega))) (by omega) HLT.out).mono (by omega)
  clear T6 T7 T8 T9 R6 B6 C6 D6 F6 UB HLT HH q q' qr
  go_wp2_with (first | rw [hW7.out] | rw [hW8.out])
  refine bodyPost_ret (v := dval D (some ⟨w.heap.size + 1 + 1 + 1, 0, none⟩) D.secs.length (some ⟨g2, 0, none⟩) D.cache.length (some ⟨g5, 0, none⟩) D.faults.length) (by simp [results, Try.results11, go_sem, m0, m1, m2, m3, m4, dval]) rfl ⟨_, rfl, HR.out.1, HR.out.2⟩
end Go.Proofs.Ytdhfbblameiloaa

