/-
  Writes and faults of a disk copied into new rows, as the law does it.
-/
import Derived.Test.YtagjgnephaaehaaDiskCopy
namespace Go.Proofs.Ytagjgnephaaehaa
open Go.RowKit
set_option maxRecDepth 4000

theorem alloc_sizeK (W : World) (o : Obj) : (W.alloc o).heap.size = W.heap.size + 1 := by simp
set_option maxHeartbeats 1000000 in
theorem toWrite_any (x : Int) (a : Option Addr) (n cap : Nat) (f : Nat → Int) (w : World) (h : View w a n cap f) (hn : n ≤ 1048576) :
    Calls Try.prog 43 #[.agg #[.int .i64 x, .slice a n cap]] w fun e w' => e = .returned (.agg #[.int .i64 x, .slice (some ⟨w.heap.size + 3, 0, none⟩) n n]) ∧ w.heap.size + 3 < w'.heap.size ∧ w'.rowIs (w.heap.size + 3) 5 n (fun i => .int .u8 (f i)) ∧ Below w.heap.size w w' := by
  have hb0 : Below w.heap.size w (((w.alloc (.cells #[.int .i64 x, .slice a n cap] 59)).alloc (.cells #[.int .i64 0, .slice none 0 0] 52)).alloc (.cells #[.int .i64 x, .slice none 0 0] 52)) := (((Below.refl _ _).alloc (Nat.le_refl _) _).alloc (by simp) _).alloc (by simp; omega) _
  have hS := toByteS_any a n cap f _ (h.below hb0) (by omega)
  have V2 := VN.new ((w.alloc (.cells #[.int .i64 x, .slice a n cap] 59)).alloc (.cells #[.int .i64 0, .slice none 0 0] 52)) 52 [.int .i64 x, .slice none 0 0]
  have V1 := (VN.new (w.alloc (.cells #[.int .i64 x, .slice a n cap] 59)) 52 [.int .i64 0, .slice none 0 0]).below ((Below.refl _ _).alloc (Nat.le_refl _) (.cells #[.int .i64 x, .slice none 0 0] 52))
  simp only [alloc_sizeK] at V1 V2 hS
  clear h
  go_enter Try.func43, Try.ntmps43
  go_wp2_with fail
  refine hS.mono ?_
  rintro e w2 ⟨rfl, hv, hb2, hlt2⟩
  have V2' := V2.below (by simpa using hb2)
  have V1' := V1.below (by simpa using hb2)
  clear V1 V2 hS
  have c0 := V2'.cell 0
  have c1 := V2'.cell 1
  have q1 := V2'.fz 1
  obtain ⟨W3, hW3⟩ := hidEx (w2.setCell ⟨w.heap.size + 1 + 1, 1, none⟩ (.slice (some ⟨w.heap.size + 1 + 1 + 1, 0, none⟩) n n))
  have V2'' := V2'.set 1 (.slice (some ⟨w.heap.size + 1 + 1 + 1, 0, none⟩) n n)
  have V1'' := V1'.other (C := w.heap.size + 1 + 1) (i := 1) (u := .slice (some ⟨w.heap.size + 1 + 1 + 1, 0, none⟩) n n) (by omega)
  rw [hW3.out] at V1'' V2''
  have g0 := V2''.cell 0
  have g1 := V2''.cell 1
  have k0 := V1''.cell 0
  have k1 := V1''.cell 1
  have p0 := V1''.fz 0
  have p1 := V1''.fz 1
  have V1f := (V1''.set 0 (.int .i64 x)).set 1 (.slice (some ⟨w.heap.size + 1 + 1 + 1, 0, none⟩) n n)
  have r0 := V1f.cell 0
  have r1 := V1f.cell 1
  simp at c0 c1 g0 g1 k0 k1 r0 r1
  have HR : Hid (((W3.setCell ⟨w.heap.size + 1, 0, none⟩ (.int .i64 x)).setCell ⟨w.heap.size + 1, 1, none⟩ (.slice (some ⟨w.heap.size + 1 + 1 + 1, 0, none⟩) n n)).rowIs (w.heap.size + 1 + 1 + 1) 5 n (fun i => .int .u8 (f i)) ∧ Below w.heap.size w ((W3.setCell ⟨w.heap.size + 1, 0, none⟩ (.int .i64 x)).setCell ⟨w.heap.size + 1, 1, none⟩ (.slice (some ⟨w.heap.size + 1 + 1 + 1, 0, none⟩) n n)) ∧ w.heap.size + 1 + 1 + 1 < ((W3.setCell ⟨w.heap.size + 1, 0, none⟩ (.int .i64 x)).setCell ⟨w.heap.size + 1, 1, none⟩ (.slice (some ⟨w.heap.size + 1 + 1 + 1, 0, none⟩) n n)).heap.size) := by
    rw [← hW3.out]
    refine ⟨?_, ?_, by simp; omega⟩
    · exact ((hv.setOther (show w.heap.size + 1 + 1 + 1 ≠ w.heap.size + 1 + 1 by omega) _).setOther (show w.heap.size + 1 + 1 + 1 ≠ w.heap.size + 1 by omega) _).setOther (show w.heap.size + 1 + 1 + 1 ≠ w.heap.size + 1 by omega) _
    · have hb3 : Below w.heap.size w w2 := hb0.trans (hb2.mono (by omega))
      exact ((hb3.setCell (p := ⟨w.heap.size + 1 + 1, 1, none⟩) (by simp; omega) _).setCell (p := ⟨w.heap.size + 1, 0, none⟩) (by simp) _).setCell (p := ⟨w.heap.size + 1, 1, none⟩) (by simp) _
  clear V1f V1' V1'' V2' V2'' hv hb2 hb0 hlt2
  go_wp2_with (rw [hW3.out])
  refine bodyPost_ret (v := .agg #[.int .i64 x, .slice (some ⟨w.heap.size + 1 + 1 + 1, 0, none⟩) n n]) (by simp [results, Try.results43, go_sem, r0, r1]) rfl ⟨rfl, HR.out.2.2, HR.out.1, HR.out.2.1⟩

theorem infoWrite : ∃ i, Try.prog.info? 52 = some i ∧ i.zero = some (.agg #[.int .i64 0, .slice none 0 0]) ∧ i.size = 2 ∧ i.bytes = 32 := by
  have h : (Try.prog.info? 52).map (fun i => (i.zero, i.size, i.bytes)) = some (some (.agg #[.int .i64 0, .slice none 0 0]), 2, 32) := by kernel_rfl
  obtain ⟨i, hi, hz⟩ := Option.map_eq_some_iff.1 h
  simp only [Prod.mk.injEq] at hz
  exact ⟨i, hi, hz.1, hz.2.1, hz.2.2⟩
theorem makeWrites (n : Nat) (h : n ≤ 1048576) (w : World) : (Instr.makeSlice 28 (.int .i64 (n : Int)) (.int .i64 (n : Int))).run Try.prog w = .ok (.slice (some ⟨w.heap.size, 0, none⟩) n n) (w.alloc (.cells (madeCells #[.int .i64 0, .slice none 0 0] (n * 2)) 52)) := by
  obtain ⟨i, hi, hz, hs, hb⟩ := infoWrite
  have hr := run_make (P := Try.prog) w 28 52 i _ Try.underlying28 hi hz .i64 .i64 n n (by omega) (Int.le_refl _) (by rw [hb]; omega) (by omega)
  simp only [Int.toNat_natCast, hs] at hr
  exact hr
def zeroW (j : Nat) : Value := if j % 2 = 0 then .int .i64 0 else .slice none 0 0
theorem wcells_len {l : List (Int × List Int)} {cs : List Value} (h : cs.length = l.length) : (wcells l cs).length = l.length * 2 := by
  unfold wcells
  rw [flat_len wEl 2 (fun _ => rfl), List.length_zip, List.length_map, h, Nat.min_self]
theorem wcells_push {l : List (Int × List Int)} {cs : List Value} (h : cs.length = l.length) (x : Int × List Int) (v : Value) : wcells (l ++ [x]) (cs ++ [v]) = wcells l cs ++ [.int .i64 x.1, v] := by
  unfold wcells
  rw [List.map_append, List.zip_append (by simp [h]), List.flatMap_append]
  simp [wEl]
/-- k of the writes are copied into the new row. -/
structure CopW (w wr : World) (l : List (Int × List Int)) (cs : List Value) (k : Nat) : Prop where
  below : Below w.heap.size w wr
  size : w.heap.size < wr.heap.size
  len : cs.length = k
  row : wr.rowIs w.heap.size 52 (l.length * 2) (fun j => ((wcells (l.take k) cs)[j]?).getD (zeroW j))
  bytes : Bs wr (w.heap.size + 1) cs ((l.take k).map (·.2))
theorem copW_start (w : World) (l : List (Int × List Int)) : CopW w (w.alloc (.cells (madeCells #[.int .i64 0, .slice none 0 0] (l.length * 2)) 52)) l [] 0 := by
  have hr := World.rowIs_alloc w (madeCells #[.int .i64 0, .slice none 0 0] (l.length * 2)) 52 zeroW (fun i hi => by
    rw [size_madeCells] at hi
    simp [madeCells, hi, zeroW]
    have h3 : i % 2 = 0 ∨ i % 2 = 1 := by omega
    rcases h3 with h | h <;> simp [h])
  rw [size_madeCells] at hr
  exact ⟨(Below.refl _ _).alloc (Nat.le_refl _) _, by simp, rfl, hr.congr (fun i _ => by simp [wcells]), Bs.nil _ _⟩
theorem CopW.put {w wr w2 : World} {l : List (Int × List Int)} {cs : List Value} {k : Nat} (h : CopW w wr l cs k) (hk : k < l.length) (hb : Below wr.heap.size wr w2) {u : Value} {g : Nat} (hu : OB w2 wr.heap.size u (l[k]).2) (hg : u.ownBlock = some g) (hg0 : wr.heap.size ≤ g) (hs : g < w2.heap.size) :
    CopW w ((w2.setCell ⟨w.heap.size, k * 2, none⟩ (.int .i64 (l[k]).1)).setCell ⟨w.heap.size, k * 2 + 1, none⟩ u) l (cs ++ [u]) (k + 1) := by
  have hsz := h.size
  have hlen := h.len
  have htl : (l.take k).length = k := by simp; omega
  have hwl := wcells_len (l := l.take k) (cs := cs) (by omega)
  refine ⟨((h.below.trans (hb.mono h.below.size)).setCell (Nat.le_refl _) _).setCell (Nat.le_refl _) _, by simp; omega, by simp [h.len], (((rowIsBelow h.row hb).set _ _).set _ _).congr (fun i hi => ?_), ?_⟩
  · rw [take_one hk, wcells_push (by omega)]
    by_cases e : i < k * 2
    · rw [if_neg (by omega), if_neg (by omega), List.getElem?_append_left (by omega)]
    · by_cases e0 : i = k * 2
      · subst e0
        rw [if_neg (by omega), if_pos rfl, List.getElem?_append_right (by omega), hwl, htl]
        simp
      · by_cases e1 : i = k * 2 + 1
        · subst e1
          rw [if_pos rfl, List.getElem?_append_right (by omega), hwl, htl]
          simp
        · rw [if_neg e1, if_neg e0, List.getElem?_eq_none (by omega), List.getElem?_eq_none (by simp; omega)]
  · have hu' : Up (w.heap.size + 1) w2 ((w2.setCell ⟨w.heap.size, k * 2, none⟩ (.int .i64 (l[k]).1)).setCell ⟨w.heap.size, k * 2 + 1, none⟩ u) := (Up.set (by omega)).trans (Up.set (by omega))
    rw [take_one hk, List.map_append]
    refine ((h.bytes.up (Up.ofBelow hb)).up hu').push ((hu.mono (by omega)).up hu') (fun g' e => ?_)
    rw [hg] at e; cases e
    exact ⟨⟨by omega, by simpa using hs⟩, h.bytes.newer hg0⟩

set_option maxHeartbeats 2000000 in
theorem toWriteS_any (a : Option Addr) (cap : Nat) (l : List (Int × List Int)) (w : World) (h : WView w a cap l) (hn : l.length ≤ 1048576) (hz : ∀ i (h : i < l.length), (l[i]).2.length ≤ 1048576) :
    Calls Try.prog 22 #[.slice a l.length cap] w fun e w' => e = .returned (.slice (some ⟨w.heap.size, 0, none⟩) l.length l.length) ∧ Below w.heap.size w w' ∧ w.heap.size < w'.heap.size ∧ ∃ cs, cs.length = l.length ∧ RL 52 w' w.heap.size (some ⟨w.heap.size, 0, none⟩) (wcells l cs) ∧ Bs w' w.heap.size cs (l.map (·.2)) := by
  have hmk := fun W => makeWrites l.length hn W
  go_enter Try.func22, Try.ntmps22
  go_wp2
  clear hmk
  go_loopg [4] l.length (fun q i wr => ∃ (k : Nat) (cs : List Value), k ≤ l.length ∧ q = l.length - k ∧ i = .int .i64 k ∧ CopW w wr l cs k)
  case atStart => exact ⟨0, [], Nat.zero_le _, rfl, rfl, copW_start w l⟩
  case round =>
    obtain ⟨k, cs, hk, rfl, rfl, hC⟩ := hrel
    by_cases hlt : k < l.length
    · obtain ⟨b1, o1, a', c', rfl, hb1, x0, x1, v0, -⟩ := wview_at (wview_below h hC.below) hlt
      have hkz : (k : Int) < (l.length : Int) := by omega
      have hV := toWrite_any (l[k]).1 a' (l[k]).2.length c' (bf (l[k]).2) wr v0 (hz k hlt)
      have HOB : Hid (∀ i, i < (l[k]).2.length → 0 ≤ bf (l[k]).2 i ∧ bf (l[k]).2 i ≤ 255) := v0.byte
      have HC : Hid (CopW w wr l cs k) := hC
      have hsz := hC.size
      clear hz h hC v0
      obtain ⟨p0, hp0⟩ := hidEx (l[k]).2.length
      obtain ⟨p1, hp1⟩ := hidEx (bf (l[k]).2)
      obtain ⟨p2, hp2⟩ := hidEx (l[k]).1
      rw [hp1.out, hp2.out] at hV
      rw [hp0.out] at x1 hV
      rw [hp2.out] at x0
      go_wp2_with fail
      refine hV.mono ?_
      rintro e w2 ⟨rfl, hs2, hr2, hb2⟩
      have hcp : CopW w ((w2.setCell ⟨w.heap.size, k * 2, none⟩ (.int .i64 p2)).setCell ⟨w.heap.size, k * 2 + 1, none⟩ (.slice (some ⟨wr.heap.size + 3, 0, none⟩) p0 p0)) l (cs ++ [.slice (some ⟨wr.heap.size + 3, 0, none⟩) p0 p0]) (k + 1) := by
        rw [← hp2.out]
        refine HC.out.put (g := wr.heap.size + 3) hlt hb2 ?_ rfl (by omega) (by omega)
        rw [← hp0.out]
        rw [← hp0.out, ← hp1.out] at hr2
        exact OB.ofIs hr2 (by omega) HOB.out
      have hrow := rowIsBelow HC.out.row hb2
      have z0 := hrow.cell (i := k * 2) (by omega)
      have f0 := hrow.frozen (k * 2)
      have z1 := hrow.cell (i := k * 2 + 1) (by omega)
      have f1 := hrow.frozen (k * 2 + 1)
      have hS : Hid (CopW w ((w2.setCell ⟨w.heap.size, k * 2, none⟩ (.int .i64 p2)).setCell ⟨w.heap.size, k * 2 + 1, none⟩ (.slice (some ⟨wr.heap.size + 3, 0, none⟩) p0 p0)) l (cs ++ [.slice (some ⟨wr.heap.size + 3, 0, none⟩) p0 p0]) (k + 1)) := hcp
      clear hcp hrow hr2 hb2 hV x0 HOB HC
      go_wp2
      go_roundg (l.length - (k + 1))
      case measure => omega
      case rel => exact ⟨k + 1, _, by omega, rfl, by go_num, hS.out⟩
    · have hkn : k = l.length := by omega
      have hkz : ¬ (k : Int) < (l.length : Int) := by omega
      have hS : Hid (CopW w wr l cs k) := hC
      clear hC h hz
      go_wp2
      go_ret
      have hC := hS.out
      have hrow := hC.row
      have hby := hC.bytes
      have hlen : cs.length = l.length := by rw [hC.len, hkn]
      rw [hkn, List.take_length] at hrow hby
      refine ⟨rfl, hC.below, hC.size, cs, hlen, RL.ofIs hrow (Nat.le_refl _) (fun i u hi => ?_), hby.mono (by omega)⟩
      have := (List.getElem?_eq_some_iff.1 hi).1
      rw [wcells_len hlen] at this
      exact ⟨by omega, by simp [hi]⟩
end Go.Proofs.Ytagjgnephaaehaa
