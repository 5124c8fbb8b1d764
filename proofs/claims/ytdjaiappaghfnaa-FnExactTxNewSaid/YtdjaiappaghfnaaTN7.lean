/-
  Together: DiskCopy3, DiskMark3, DiskMark4
-/
import Derived.Test.YtdjaiappaghfnaaTN6
/-
  Faults of a disk, and the disk, copied, as the law does it.
-/
namespace Go.Proofs.Ytdjaiappaghfnaa
open Go.RowKit
set_option maxRecDepth 4000

set_option maxHeartbeats 1000000 in
theorem toFault_any (c d f : Int) (w : World) :
    Calls Try.prog 43 #[.agg #[.int .i64 c, .int .i64 d, .int .i64 f]] w fun e w' => e = .returned (.agg #[.int .i64 c, .int .i64 d, .int .i64 f]) ∧ Below w.heap.size w w' := by
  go_enter Try.func43, Try.ntmps43
  go_wp2
  refine bodyPost_ret (v := .agg #[.int .i64 c, .int .i64 d, .int .i64 f]) (by simp [results, Try.results43, go_sem]) rfl ⟨rfl, ?_⟩
  repeat (first | exact Below.refl _ _ | refine Below.alloc ?_ (by simp <;> omega) _ | refine Below.drew ?_)

theorem infoFault : ∃ i, Try.prog.info? 70 = some i ∧ i.zero = some (.agg #[.int .i64 0, .int .i64 0, .int .i64 0]) ∧ i.size = 3 ∧ i.bytes = 24 := by
  have h : (Try.prog.info? 70).map (fun i => (i.zero, i.size, i.bytes)) = some (some (.agg #[.int .i64 0, .int .i64 0, .int .i64 0]), 3, 24) := by kernel_rfl
  obtain ⟨i, hi, hz⟩ := Option.map_eq_some_iff.1 h
  simp only [Prod.mk.injEq] at hz
  exact ⟨i, hi, hz.1, hz.2.1, hz.2.2⟩
theorem makeFaults (n : Nat) (h : n ≤ 1048576) (w : World) : (Instr.makeSlice 29 (.int .i64 (n : Int)) (.int .i64 (n : Int))).run Try.prog w = .ok (.slice (some ⟨w.heap.size, 0, none⟩) n n) (w.alloc (.cells (madeCells #[.int .i64 0, .int .i64 0, .int .i64 0] (n * 3)) 70)) := by
  obtain ⟨i, hi, hz, hs, hb⟩ := infoFault
  have hr := run_make (P := Try.prog) w 29 70 i _ Try.underlying29 hi hz .i64 .i64 n n (by omega) (Int.le_refl _) (by rw [hb]; omega) (by omega)
  simp only [Int.toNat_natCast, hs] at hr
  exact hr
theorem fcells_len (l : List PFault) : (fcells l).length = l.length * 3 := flat_len fEl 3 (fun _ => rfl) _
theorem fcells_push (l : List PFault) (x : PFault) : fcells (l ++ [x]) = fcells l ++ [.int .i64 x.pos, .int .i64 x.keep, .int .i64 x.cut] := by
  unfold fcells
  rw [List.flatMap_append]
  simp [fEl]
/-- k of the faults are copied into the new row. -/
structure CopF (w wr : World) (l : List PFault) (k : Nat) : Prop where
  below : Below w.heap.size w wr
  size : w.heap.size < wr.heap.size
  row : wr.rowIs w.heap.size 70 (l.length * 3) (fun j => ((fcells (l.take k))[j]?).getD (.int .i64 0))
theorem copF_start (w : World) (l : List PFault) : CopF w (w.alloc (.cells (madeCells #[.int .i64 0, .int .i64 0, .int .i64 0] (l.length * 3)) 70)) l 0 := by
  have hr := World.rowIs_alloc w (madeCells #[.int .i64 0, .int .i64 0, .int .i64 0] (l.length * 3)) 70 (fun _ => .int .i64 0) (fun i hi => by
    rw [size_madeCells] at hi
    simp [madeCells, hi]
    have h3 : i % 3 = 0 ∨ i % 3 = 1 ∨ i % 3 = 2 := by omega
    rcases h3 with h | h | h <;> simp [h])
  rw [size_madeCells] at hr
  exact ⟨(Below.refl _ _).alloc (Nat.le_refl _) _, by simp, hr.congr (fun i _ => by simp [fcells])⟩
theorem CopF.put {w wr w2 : World} {l : List PFault} {k : Nat} (h : CopF w wr l k) (hk : k < l.length) (hb : Below wr.heap.size wr w2) :
    CopF w (((w2.setCell ⟨w.heap.size, k * 3, none⟩ (.int .i64 (l[k]).pos)).setCell ⟨w.heap.size, k * 3 + 1, none⟩ (.int .i64 (l[k]).keep)).setCell ⟨w.heap.size, k * 3 + 2, none⟩ (.int .i64 (l[k]).cut)) l (k + 1) := by
  have hsz := h.size
  have htl : (l.take k).length = k := by simp; omega
  have hwl := fcells_len (l.take k)
  have hs2 := hb.size
  refine ⟨(((h.below.trans (hb.mono h.below.size)).setCell (Nat.le_refl _) _).setCell (Nat.le_refl _) _).setCell (Nat.le_refl _) _, by simp; omega, ((((rowIsBelow h.row hb).set _ _).set _ _).set _ _).congr (fun i hi => ?_)⟩
  rw [take_one hk, fcells_push]
  by_cases e : i < k * 3
  · rw [if_neg (by omega), if_neg (by omega), if_neg (by omega), List.getElem?_append_left (by omega)]
  by_cases e0 : i = k * 3
  · subst e0
    rw [if_neg (by omega), if_neg (by omega), if_pos rfl, List.getElem?_append_right (by omega), hwl, htl]
    simp
  by_cases e1 : i = k * 3 + 1
  · subst e1
    rw [if_neg (by omega), if_pos rfl, List.getElem?_append_right (by omega), hwl, htl]
    simp
  by_cases e2 : i = k * 3 + 2
  · subst e2
    rw [if_pos rfl, List.getElem?_append_right (by omega), hwl, htl]
    simp
  rw [if_neg e2, if_neg e1, if_neg e0, List.getElem?_eq_none (by omega), List.getElem?_eq_none (by simp; omega)]

set_option maxHeartbeats 2000000 in
theorem toFaultS_any (a : Option Addr) (cap : Nat) (l : List PFault) (w : World) (h : FView w a cap l) (hn : l.length ≤ 1048576) :
    Calls Try.prog 20 #[.slice a l.length cap] w fun e w' => e = .returned (.slice (some ⟨w.heap.size, 0, none⟩) l.length l.length) ∧ Below w.heap.size w w' ∧ w.heap.size < w'.heap.size ∧ RL 70 w' w.heap.size (some ⟨w.heap.size, 0, none⟩) (fcells l) := by
  have hmk := fun W => makeFaults l.length hn W
  go_enter Try.func20, Try.ntmps20
  go_wp2
  clear hmk
  go_loopg [4] l.length (fun q i wr => ∃ (k : Nat), k ≤ l.length ∧ q = l.length - k ∧ i = .int .i64 k ∧ CopF w wr l k)
  case atStart => exact ⟨0, Nat.zero_le _, rfl, rfl, copF_start w l⟩
  case round =>
    obtain ⟨k, hk, rfl, rfl, hC⟩ := hrel
    by_cases hlt : k < l.length
    · obtain ⟨b1, o1, rfl, hb1, x0, x1, x2⟩ := fview_at (fview_below h hC.below) hlt
      have hkz : (k : Int) < (l.length : Int) := by omega
      have HC : Hid (CopF w wr l k) := hC
      have hsz := hC.size
      clear h hC
      obtain ⟨p0, hp0⟩ := hidEx (l[k]).pos
      obtain ⟨p1, hp1⟩ := hidEx (l[k]).keep
      obtain ⟨p2, hp2⟩ := hidEx (l[k]).cut
      rw [hp0.out] at x0
      rw [hp1.out] at x1
      rw [hp2.out] at x2
      have hV := toFault_any p0 p1 p2 wr
      go_wp2_with fail
      refine hV.mono ?_
      rintro e w2 ⟨rfl, hb2⟩
      have hcp := HC.out.put hlt hb2
      rw [hp0.out, hp1.out, hp2.out] at hcp
      have hrow := rowIsBelow HC.out.row hb2
      have z0 := hrow.cell (i := k * 3) (by omega)
      have f0 := hrow.frozen (k * 3)
      have z1 := hrow.cell (i := k * 3 + 1) (by omega)
      have f1 := hrow.frozen (k * 3 + 1)
      have z2 := hrow.cell (i := k * 3 + 2) (by omega)
      have f2 := hrow.frozen (k * 3 + 2)
      have hS : Hid (CopF w (((w2.setCell ⟨w.heap.size, k * 3, none⟩ (.int .i64 p0)).setCell ⟨w.heap.size, k * 3 + 1, none⟩ (.int .i64 p1)).setCell ⟨w.heap.size, k * 3 + 2, none⟩ (.int .i64 p2)) l (k + 1)) := hcp
      clear hcp hrow hb2 hV x0 x1 x2 HC
      go_wp2
      go_roundg (l.length - (k + 1))
      case measure => omega
      case rel => exact ⟨k + 1, by omega, rfl, by go_num, hS.out⟩
    · have hkn : k = l.length := by omega
      have hkz : ¬ (k : Int) < (l.length : Int) := by omega
      have hS : Hid (CopF w wr l k) := hC
      clear hC h
      go_wp2
      go_ret
      have hC := hS.out
      have hrow := hC.row
      rw [hkn, List.take_length] at hrow
      refine ⟨rfl, hC.below, hC.size, RL.ofIs hrow (Nat.le_refl _) (fun i u hi => ?_)⟩
      have := (List.getElem?_eq_some_iff.1 hi).1
      rw [fcells_len] at this
      exact ⟨by omega, by simp [hi]⟩

/-- The three variables of toDisk: what came in, the answer, the new one. -/
structure TD (w W : World) (xs zs ys : List Value) : Prop where
  below : Below w.heap.size w W
  size : w.heap.size + 3 ≤ W.heap.size
  a : VN W w.heap.size 26 xs
  r : VN W (w.heap.size + 1) 31 zs
  o : VN W (w.heap.size + 1 + 1) 31 ys
theorem td_new (w : World) (xs zs ys : List Value) : TD w (((w.alloc (.cells ⟨xs⟩ 26)).alloc (.cells ⟨zs⟩ 31)).alloc (.cells ⟨ys⟩ 31)) xs zs ys := by
  have V0 := VN.new w 26 xs
  have V1 := VN.new (w.alloc (.cells ⟨xs⟩ 26)) 31 zs
  have V2 := VN.new ((w.alloc (.cells ⟨xs⟩ 26)).alloc (.cells ⟨zs⟩ 31)) 31 ys
  simp only [alloc_sizeK] at V1 V2
  refine ⟨(((Below.refl _ _).alloc (Nat.le_refl _) _).alloc (by simp) _).alloc (by simp; omega) _, by simp, (V0.below ((Below.refl _ _).alloc (Nat.le_refl _) _)).below ((Below.refl _ _).alloc (Nat.le_refl _) _), V1.below ((Below.refl _ _).alloc (Nat.le_refl _) _), V2⟩
theorem TD.on {w W W' : World} {xs zs ys : List Value} (h : TD w W xs zs ys) (hb : Below W.heap.size W W') : TD w W' xs zs ys :=
  ⟨h.below.trans (hb.mono h.below.size), Nat.le_trans h.size hb.size, h.a.below hb, h.r.below hb, h.o.below hb⟩
theorem TD.set {w W : World} {xs zs ys : List Value} (h : TD w W xs zs ys) (i : Nat) (u : Value) : TD w (W.setCell ⟨w.heap.size + 1 + 1, i, none⟩ u) xs zs (ys.set i u) :=
  ⟨h.below.setCell (p := ⟨w.heap.size + 1 + 1, i, none⟩) (by simp; omega) _, by simpa using h.size, h.a.other (by omega), h.r.other (by omega), h.o.set i u⟩
theorem TD.ret {w W : World} {xs zs ys : List Value} (h : TD w W xs zs ys) (i : Nat) (u : Value) : TD w (W.setCell ⟨w.heap.size + 1, i, none⟩ u) xs (zs.set i u) ys :=
  ⟨h.below.setCell (p := ⟨w.heap.size + 1, i, none⟩) (by simp) _, by simpa using h.size, h.a.other (by omega), h.r.set i u, h.o.other (by omega)⟩
theorem TD.cells {w W : World} {x0 x1 x2 x3 x4 : Value} {zs : List Value} {y0 y1 y2 y3 y4 : Value} (h : TD w W [x0, x1, x2, x3, x4] zs [y0, y1, y2, y3, y4]) :
    (W.cell? ⟨w.heap.size, 0, none⟩ = some x0 ∧ W.cell? ⟨w.heap.size, 1, none⟩ = some x1 ∧ W.cell? ⟨w.heap.size, 2, none⟩ = some x2 ∧ W.cell? ⟨w.heap.size, 3, none⟩ = some x3 ∧ W.cell? ⟨w.heap.size, 4, none⟩ = some x4)
    ∧ (W.cell? ⟨w.heap.size + 1 + 1, 0, none⟩ = some y0 ∧ W.cell? ⟨w.heap.size + 1 + 1, 1, none⟩ = some y1 ∧ W.cell? ⟨w.heap.size + 1 + 1, 2, none⟩ = some y2 ∧ W.cell? ⟨w.heap.size + 1 + 1, 3, none⟩ = some y3 ∧ W.cell? ⟨w.heap.size + 1 + 1, 4, none⟩ = some y4)
    ∧ ∀ i, W.frozen? ⟨w.heap.size + 1 + 1, i, none⟩ = false :=
  ⟨⟨h.a.cell 0, h.a.cell 1, h.a.cell 2, h.a.cell 3, h.a.cell 4⟩, ⟨h.o.cell 0, h.o.cell 1, h.o.cell 2, h.o.cell 3, h.o.cell 4⟩, fun i => h.o.fz i⟩
theorem TD.rcells {w W : World} {xs : List Value} {y0 y1 y2 y3 y4 : Value} {ys : List Value} (h : TD w W xs [y0, y1, y2, y3, y4] ys) :
    (W.cell? ⟨w.heap.size + 1, 0, none⟩ = some y0 ∧ W.cell? ⟨w.heap.size + 1, 1, none⟩ = some y1 ∧ W.cell? ⟨w.heap.size + 1, 2, none⟩ = some y2 ∧ W.cell? ⟨w.heap.size + 1, 3, none⟩ = some y3 ∧ W.cell? ⟨w.heap.size + 1, 4, none⟩ = some y4)
    ∧ ∀ i, W.frozen? ⟨w.heap.size + 1, i, none⟩ = false :=
  ⟨⟨h.r.cell 0, h.r.cell 1, h.r.cell 2, h.r.cell 3, h.r.cell 4⟩, fun i => h.r.fz i⟩

set_option maxHeartbeats 4000000 in
theorem toDisk_any (v : Value) (D : PDisk) (w : World) (h : KView w v D) (hf : KFine D) :
    Calls Try.prog 8 #[v] w fun e w' => ∃ v', e = .returned v' ∧ KOwn w' w.heap.size v' D ∧ Below w.heap.size w w' := by
  obtain ⟨sa, sc, ca, cc, fa, fc, rfl, hs, hc, hfv⟩ := h.is
  clear h
  have T0 := td_new w [.slice sa D.secs.length sc, .slice ca D.cache.length cc, .int .i64 D.ops, .slice fa D.faults.length fc, .bool D.down] [.slice none 0 0, .slice none 0 0, .int .i64 0, .slice none 0 0, .bool false] [.slice none 0 0, .slice none 0 0, .int .i64 0, .slice none 0 0, .bool false]
  obtain ⟨W0, hW0⟩ := hidEx (((w.alloc (.cells #[.slice sa D.secs.length sc, .slice ca D.cache.length cc, .int .i64 D.ops, .slice fa D.faults.length fc, .bool D.down] 26)).alloc (.cells #[.slice none 0 0, .slice none 0 0, .int .i64 0, .slice none 0 0, .bool false] 31)).alloc (.cells #[.slice none 0 0, .slice none 0 0, .int .i64 0, .slice none 0 0, .bool false] 31))
  have hz : W0.heap.size = w.heap.size + 1 + 1 + 1 := by rw [← hW0.out]; simp
  rw [hW0.out] at T0
  have hS := toByteSS_any sa sc D.secs W0 (sview_below hs T0.below) hf.ns (fun i h => hf.sec _ (List.getElem_mem h))
  obtain ⟨⟨x0, x1, x2, x3, x4⟩, ⟨y0, y1, y2, y3, y4⟩, q⟩ := T0.cells
  have HH : Hid (SView w sa sc D.secs ∧ WView w ca cc D.cache ∧ FView w fa fc D.faults ∧ KFine D) := ⟨hs, hc, hfv, hf⟩
  clear hs hc hfv hf
  go_enter Try.func8, Try.ntmps8
  go_wp2_with (rw [hW0.out])
  refine hS.mono ?_
  rintro e W1 ⟨rfl, hb1, hlt1, ss, hss, R1, B1⟩
  rw [hz] at R1 B1 hlt1 ⊢
  have T1 := T0.on hb1
  clear T0 hS hb1 x0 x1 x2 x3 x4 y0 y1 y2 y3 y4 q
  obtain ⟨⟨x0, x1, x2, x3, x4⟩, ⟨y0, y1, y2, y3, y4⟩, q⟩ := T1.cells
  have q0 := q 0
  have T2 := T1.set 0 (.slice (some ⟨w.heap.size + 1 + 1 + 1, 0, none⟩) D.secs.length D.secs.length)
  have U2 : Up (w.heap.size + 1 + 1 + 1) W1 (W1.setCell ⟨w.heap.size + 1 + 1, 0, none⟩ (.slice (some ⟨w.heap.size + 1 + 1 + 1, 0, none⟩) D.secs.length D.secs.length)) := Up.set (by omega)
  obtain ⟨W2, hW2⟩ := hidEx (W1.setCell ⟨w.heap.size + 1 + 1, 0, none⟩ (.slice (some ⟨w.heap.size + 1 + 1 + 1, 0, none⟩) D.secs.length D.secs.length))
  rw [hW2.out] at T2 U2
  simp only [List.set] at T2
  have R2 := R1.up U2
  have B2 := B1.up U2
  obtain ⟨⟨u0, u1, u2, u3, u4⟩, ⟨t0, t1, t2, t3, t4⟩, q'⟩ := T2.cells
  clear R1 B1 U2 T1 q
  have hS := toWriteS_any ca cc D.cache W2 (wview_below HH.out.2.1 T2.below) HH.out.2.2.2.nc (fun i h => HH.out.2.2.2.cache _ (List.getElem_mem h))
  go_wp2_with (rw [hW2.out])
  refine hS.mono ?_
  rintro e W3 ⟨rfl, hb3, hlt3, cs, hcs, C3, D3⟩
  obtain ⟨g2, hg2⟩ := hidEx W2.heap.size
  have hg2s : w.heap.size + 1 + 1 + 1 ≤ g2 := by rw [← hg2.out]; exact T2.size
  have HLT : Hid (∀ v, v ∈ ss → ∀ g, v.ownBlock = some g → g < g2) := fun v hv g hg => by rw [← hg2.out]; exact (B2.lt v hv g hg).2
  have T3 := T2.on hb3
  have R3 := R2.up (Up.ofBelow hb3)
  have B3 := B2.up (Up.ofBelow hb3)
  rw [hg2.out] at C3 D3 hlt3 ⊢
  clear T2 hS hb3 x0 x1 x2 x3 x4 y0 y1 y2 y3 y4 u0 u1 u2 u3 u4 t0 t1 t2 t3 t4 q' q0 R2 B2
  obtain ⟨⟨x0, x1, x2, x3, x4⟩, ⟨y0, y1, y2, y3, y4⟩, q⟩ := T3.cells
  have q1 := q 1
  have T4 := (T3.set 1 (.slice (some ⟨g2, 0, none⟩) D.cache.length D.cache.length))
  have U4 : Up (w.heap.size + 1 + 1 + 1) W3 (W3.setCell ⟨w.heap.size + 1 + 1, 1, none⟩ (.slice (some ⟨g2, 0, none⟩) D.cache.length D.cache.length)) := Up.set (by omega)
  have U4' : Up g2 W3 (W3.setCell ⟨w.heap.size + 1 + 1, 1, none⟩ (.slice (some ⟨g2, 0, none⟩) D.cache.length D.cache.length)) := Up.set (by omega)
  obtain ⟨W4, hW4⟩ := hidEx (W3.setCell ⟨w.heap.size + 1 + 1, 1, none⟩ (.slice (some ⟨g2, 0, none⟩) D.cache.length D.cache.length))
  rw [hW4.out] at T4 U4 U4'
  simp only [List.set] at T4
  have R4 := R3.up U4
  have B4 := B3.up U4
  have C4 := C3.up U4'
  have D4 := D3.up U4'
  clear R3 B3 C3 D3 U4 U4' T3 q
  obtain ⟨⟨u0, u1, u2, u3, u4⟩, ⟨t0, t1, t2, t3, t4⟩, q'⟩ := T4.cells
  have q2 := q' 2
  have T5 := (T4.set 2 (.int .i64 D.ops))
  have U5 : Up (w.heap.size + 1 + 1 + 1) W4 (W4.setCell ⟨w.heap.size + 1 + 1, 2, none⟩ (.int .i64 D.ops)) := Up.set (by omega)
  have U5' : Up g2 W4 (W4.setCell ⟨w.heap.size + 1 + 1, 2, none⟩ (.int .i64 D.ops)) := Up.set (by omega)
  obtain ⟨W5, hW5⟩ := hidEx (W4.setCell ⟨w.heap.size + 1 + 1, 2, none⟩ (.int .i64 D.ops))
  rw [hW5.out] at T5 U5 U5'
  simp only [List.set] at T5
  have R5 := R4.up U5
  have B5 := B4.up U5
  have C5 := C4.up U5'
  have D5 := D4.up U5'
  clear R4 B4 C4 D4 U5 U5' T4 q'
  obtain ⟨⟨k0, k1, k2, k3, k4⟩, ⟨l0, l1, l2, l3, l4⟩, q'⟩ := T5.cells
  have hS := toFaultS_any fa fc D.faults W5 (fview_below HH.out.2.2.1 T5.below) HH.out.2.2.2.nf
  go_wp2_with (first | rw [hW4.out] | rw [hW5.out])
  refine hS.mono ?_
  rintro e W6 ⟨rfl, hb6, hlt6, F6⟩
  obtain ⟨g5, hg5⟩ := hidEx W5.heap.size
  have hg5s : w.heap.size + 1 + 1 + 1 ≤ g5 := by rw [← hg5.out]; exact T5.size
  have T6 := T5.on hb6
  have R6 := R5.up (Up.ofBelow hb6)
  have B6 := B5.up (Up.ofBelow hb6)
  have C6 := C5.up (Up.ofBelow hb6)
  have D6 := D5.up (Up.ofBelow hb6)
  rw [hg5.out] at F6 hlt6 ⊢
  clear T5 hS hb6 x0 x1 x2 x3 x4 y0 y1 y2 y3 y4 u0 u1 u2 u3 u4 t0 t1 t2 t3 t4 q' q1 q2 R5 B5 C5 D5 k0 k1 k2 k3 k4 l0 l1 l2 l3 l4
  obtain ⟨⟨x0, x1, x2, x3, x4⟩, ⟨y0, y1, y2, y3, y4⟩, q⟩ := T6.cells
  have q3 := q 3
  have T7 := T6.set 3 (.slice (some ⟨g5, 0, none⟩) D.faults.length D.faults.length)
  obtain ⟨W7, hW7⟩ := hidEx (W6.setCell ⟨w.heap.size + 1 + 1, 3, none⟩ (.slice (some ⟨g5, 0, none⟩) D.faults.length D.faults.length))
  rw [hW7.out] at T7
  simp only [List.set] at T7
  obtain ⟨⟨u0, u1, u2, u3, u4⟩, ⟨t0, t1, t2, t3, t4⟩, q'⟩ := T7.cells
  have q4 := q' 4
  have T8 := T7.set 4 (.bool D.down)
  obtain ⟨W8, hW8⟩ := hidEx (W7.setCell ⟨w.heap.size + 1 + 1, 4, none⟩ (.bool D.down))
  rw [hW8.out] at T8
  simp only [List.set] at T8
  obtain ⟨-, ⟨k0, k1, k2, k3, k4⟩, -⟩ := T8.cells
  obtain ⟨⟨l0, l1, l2, l3, l4⟩, qr⟩ := T8.rcells
  have r0 := qr 0
  have r1 := qr 1
  have r2 := qr 2
  have r3 := qr 3
  have r4 := qr 4
  have T9 := ((((T8.ret 0 (.slice (some ⟨w.heap.size + 1 + 1 + 1, 0, none⟩) D.secs.length D.secs.length)).ret 1 (.slice (some ⟨g2, 0, none⟩) D.cache.length D.cache.length)).ret 2 (.int .i64 D.ops)).ret 3 (.slice (some ⟨g5, 0, none⟩) D.faults.length D.faults.length)).ret 4 (.bool D.down)
  simp only [List.set] at T9
  obtain ⟨⟨m0, m1, m2, m3, m4⟩, -⟩ := T9.rcells
  have UB : ∀ X, w.heap.size + 1 + 1 < X → Up X W6 (((((W8.setCell ⟨w.heap.size + 1, 0, none⟩ (.slice (some ⟨w.heap.size + 1 + 1 + 1, 0, none⟩) D.secs.length D.secs.length)).setCell ⟨w.heap.size + 1, 1, none⟩ (.slice (some ⟨g2, 0, none⟩) D.cache.length D.cache.length)).setCell ⟨w.heap.size + 1, 2, none⟩ (.int .i64 D.ops)).setCell ⟨w.heap.size + 1, 3, none⟩ (.slice (some ⟨g5, 0, none⟩) D.faults.length D.faults.length)).setCell ⟨w.heap.size + 1, 4, none⟩ (.bool D.down)) := by
    intro X hX
    rw [← hW8.out, ← hW7.out]
    exact (((((((Up.set (by omega)).trans (Up.set (by omega))).trans (Up.set (by omega))).trans (Up.set (by omega))).trans (Up.set (by omega))).trans (Up.set (by omega))).trans (Up.set (by omega)))
  have HR : Hid (KOwn (((((W8.setCell ⟨w.heap.size + 1, 0, none⟩ (.slice (some ⟨w.heap.size + 1 + 1 + 1, 0, none⟩) D.secs.length D.secs.length)).setCell ⟨w.heap.size + 1, 1, none⟩ (.slice (some ⟨g2, 0, none⟩) D.cache.length D.cache.length)).setCell ⟨w.heap.size + 1, 2, none⟩ (.int .i64 D.ops)).setCell ⟨w.heap.size + 1, 3, none⟩ (.slice (some ⟨g5, 0, none⟩) D.faults.length D.faults.length)).setCell ⟨w.heap.size + 1, 4, none⟩ (.bool D.down)) w.heap.size (dval D (some ⟨w.heap.size + 1 + 1 + 1, 0, none⟩) D.secs.length (some ⟨g2, 0, none⟩) D.cache.length (some ⟨g5, 0, none⟩) D.faults.length) D ∧ Below w.heap.size w (((((W8.setCell ⟨w.heap.size + 1, 0, none⟩ (.slice (some ⟨w.heap.size + 1 + 1 + 1, 0, none⟩) D.secs.length D.secs.length)).setCell ⟨w.heap.size + 1, 1, none⟩ (.slice (some ⟨g2, 0, none⟩) D.cache.length D.cache.length)).setCell ⟨w.heap.size + 1, 2, none⟩ (.int .i64 D.ops)).setCell ⟨w.heap.size + 1, 3, none⟩ (.slice (some ⟨g5, 0, none⟩) D.faults.length D.faults.length)).setCell ⟨w.heap.size + 1, 4, none⟩ (.bool D.down))) := by
    refine ⟨⟨_, _, _, _, _, _, ss, cs, rfl, ⟨Nat.le_refl _, (fun e => by cases e), Nat.le_refl _, (fun e => by cases e), Nat.le_refl _, (fun e => by cases e), hss, hcs, (R6.up (UB _ (by omega))).mono (by omega), (C6.up (UB _ (by omega))).mono (by omega), (F6.up (UB _ (by omega))).mono (by omega), ?_⟩⟩, T9.below⟩
    exact ((B6.up (UB _ (by omega))).app (D6.up (UB _ (by omega))) (by omega) HLT.out).mono (by omega)
  clear T6 T7 T8 T9 R6 B6 C6 D6 F6 UB HLT HH q q' qr
  go_wp2_with (first | rw [hW7.out] | rw [hW8.out])
  refine bodyPost_ret (v := dval D (some ⟨w.heap.size + 1 + 1 + 1, 0, none⟩) D.secs.length (some ⟨g2, 0, none⟩) D.cache.length (some ⟨g5, 0, none⟩) D.faults.length) (by simp [results, Try.results8, go_sem, m0, m1, m2, m3, m4, dval]) rfl ⟨_, rfl, HR.out.1, HR.out.2⟩
end Go.Proofs.Ytdjaiappaghfnaa

/-
  The laws' markWriteS, markFaultS, markDisk and what finds the marks, walked.
-/
namespace Go.Proofs.Ytdjaiappaghfnaa
open Go.RowKit
set_option maxRecDepth 4000

/-- Rows of types without P are as they were. -/
def KeepT (P : TypeId → Prop) (w w' : World) : Prop := ∀ (b : Nat) (c : Array Value) (t : TypeId) (z : Nat × Nat), w.heap[b]? = some (Obj.cells c t z) → ¬ P t → w'.heap[b]? = w.heap[b]?
theorem KeepT.refl (P : TypeId → Prop) (w : World) : KeepT P w w := fun _ _ _ _ _ _ => rfl
theorem KeepT.trans {P : TypeId → Prop} {a b c : World} (h : KeepT P a b) (k : KeepT P b c) : KeepT P a c := fun i x t z h1 h2 => (k i x t z ((h i x t z h1 h2).trans h1) h2).trans (h i x t z h1 h2)
theorem KeepT.of8 {P : TypeId → Prop} {a b : World} (h : Keep8 a b) (hP : P 5) : KeepT P a b := fun i x t z h1 h2 => h i x t z h1 (fun e => h2 (by rw [e]; exact hP))
theorem KeepT.set {P : TypeId → Prop} {T : TypeId} {w : World} {B g i : Nat} {xs : List Value} {u : Value} (h : RL T w B (some ⟨g, 0, none⟩) xs) (hx : 0 < xs.length) (hP : P T) : KeepT P w (w.setCell ⟨g, i, none⟩ u) := by
  intro b c t z hb ht
  refine Below.heap_setCell _ _ _ _ (fun e => ?_)
  rcases h with h | ⟨g', cur, ea, hb', hg, hc⟩
  · subst h; simp at hx
  · cases ea
    have e' : b = g := e
    rw [e', hg] at hb
    cases hb
    exact ht hP
theorem RL.keepT {P : TypeId → Prop} {T : TypeId} {w w' : World} {B : Nat} {a : Option Addr} {xs : List Value} (h : RL T w B a xs) (ho : KeepT P w w') (hT : ¬ P T) : RL T w' B a xs := by
  rcases h with h | ⟨g, cur, ea, hb, hg, hc⟩
  · exact .inl h
  · exact .inr ⟨g, cur, ea, hb, (ho g _ _ _ hg hT).trans hg, hc⟩
theorem Bs.keepT {P : TypeId → Prop} {w w' : World} {B : Nat} {vs : List Value} {ls : List (List Int)} (h : Bs w B vs ls) (ho : KeepT P w w') (hs : w.heap.size ≤ w'.heap.size) (hT : ¬ P 5) : Bs w' B vs ls := by
  refine ⟨h.len, fun q v l h1 h2 => ?_, fun v hv q hq => ?_, h.apt⟩
  · obtain ⟨a, c, rfl, k1, k2, k3, k4⟩ := (h.ob q v l h1 h2).is
    refine ⟨a, c, rfl, k1, k2, k3, ?_⟩
    rcases k4 with k4 | ⟨g1, rfl, hb, hr⟩
    · exact .inl k4
    · obtain ⟨c0, hb0, hn0, hc0⟩ := hr
      exact .inr ⟨g1, rfl, hb, c0, (ho g1 _ _ _ hb0 hT).trans hb0, hn0, hc0⟩
  · have := h.lt v hv q hq
    exact ⟨this.1, by omega⟩
theorem wcells_at {l : List (Int × List Int)} {cs : List Value} (i j : Nat) (hj : j < 2) : (wcells l cs)[i * 2 + j]? = (((l.map (·.1)).zip cs)[i]?).bind (fun x => (wEl x)[j]?) := flat_get wEl 2 (fun _ => rfl) _ i j hj
theorem wcells_set {l : List (Int × List Int)} {cs : List Value} (h : cs.length = l.length) {j : Nat} (hj : j < l.length) (x : Int) (y : List Int) : (wcells l cs).set (j * 2) (.int .i64 x) = wcells (l.set j (x, y)) cs := by
  have hw := wcells_len h
  refine List.ext_getElem? (fun q => ?_)
  rw [List.getElem?_set]
  have hz : ∀ i, j ≠ i → ((l.set j (x, y)).map (·.1)).zip cs = ((l.map (·.1)).set j x).zip cs := by intro i _; rw [List.map_set]
  have hq : q = q / 2 * 2 + q % 2 := by omega
  have hm : q % 2 < 2 := by omega
  by_cases e : j * 2 = q
  · rw [if_pos e, if_pos (by omega)]
    have e2 : q / 2 = j := by omega
    have e3 : q % 2 = 0 := by omega
    rw [hq, wcells_at _ _ hm, e2, e3]
    have : ((List.map (fun x => x.1) (l.set j (x, y))).zip cs)[j]? = some (x, cs[j]) := by
      simp [hj, h]
    rw [this]
    rfl
  · rw [if_neg e]
    rw [hq, wcells_at _ _ hm, wcells_at _ _ hm]
    by_cases e2 : q / 2 = j
    · have e3 : q % 2 = 1 := by omega
      rw [e2, e3]
      have a1 : ((List.map (fun x => x.1) (l.set j (x, y))).zip cs)[j]? = some (x, cs[j]) := by
        simp [hj, h]
      have a2 : ((List.map (fun x => x.1) l).zip cs)[j]? = some ((l[j]).1, cs[j]) := by
        simp [hj, h]
      rw [a1, a2]
      rfl
    · congr 1
      by_cases hi : q / 2 < l.length
      · simp [hi, h, Ne.symm e2]
      · rw [List.getElem?_eq_none (by simp [h]; omega), List.getElem?_eq_none (by simp [h]; omega)]

set_option maxHeartbeats 4000000 in
theorem markWriteS_any (a : Option Addr) (cap B H : Nat) (ss cs : List Value) (ms : List (List Int)) (l : List (Int × List Int)) (k : Int) (w : World) (hR : RL 79 w B a (wcells l cs)) (hB : Bs w B (ss ++ cs) (ms ++ l.map (·.2))) (hl : cs.length = l.length) (hss : ss.length = ms.length) (hH : ∀ v, v ∈ cs → ∀ g, v.ownBlock = some g → g < H) (hA : 0 < l.length → ∀ g, a = some ⟨g, 0, none⟩ → g < H) (hn : l.length ≤ 1048576) (hk : 0 ≤ k) (hk1 : k + szC l ≤ 4611686018427387904) :
    Calls Try.prog 35 #[.slice a l.length cap, .int .i64 k] w fun e w' => e = .returned (.int .i64 (k + szC l)) ∧ RL 79 w' B a (wcells (l.mapIdx (fC k l)) cs) ∧ Bs w' B (ss ++ cs) (ms ++ (l.mapIdx (fC k l)).map (·.2)) ∧ Out B H w w' ∧ w'.heap.size = w.heap.size ∧ KeepT (fun t => t = 5 ∨ t = 79) w w' := by
  go_enter Try.func35, Try.ntmps35
  go_wp2
  go_loopg [1, 5] l.length (fun q s i wr => ∃ j : Nat, j ≤ l.length ∧ q = l.length - j ∧ s = .int .i64 (k + szC (l.take j)) ∧ i = .int .i64 j ∧ RL 79 wr B a (wcells (upto (fC k l) l j) cs) ∧ Bs wr B (ss ++ cs) (ms ++ (upto (fC k l) l j).map (·.2)) ∧ Out B H w wr ∧ wr.heap.size = w.heap.size ∧ KeepT (fun t => t = 5 ∨ t = 79) w wr)
  case atStart => exact ⟨0, Nat.zero_le _, rfl, by simp [szC], rfl, by rw [upto_zero]; exact hR, by rw [upto_zero]; exact hB, Out.refl _ _ _, rfl, KeepT.refl _ _⟩
  case round =>
    clear hB hR
    obtain ⟨j, hj, rfl, rfl, rfl, hR, hB, hO, hsz, ho⟩ := hrel
    by_cases hlt : j < l.length
    · have hjz : (j : Int) < (l.length : Int) := by omega
      have hul := upto_len (fC k l) l j
      have hwl := wcells_len (l := upto (fC k l) l j) (cs := cs) (by omega)
      obtain ⟨g, rfl, hg0, hg1, hgc⟩ := hR.cell (by omega)
      have hgH := hA (by omega) g rfl
      have hv := List.getElem?_eq_getElem (l := cs) (i := j) (by omega)
      have hu : (upto (fC k l) l j)[j]? = some l[j] := by rw [upto_get, List.getElem?_eq_getElem hlt]; simp
      obtain ⟨w0, w1⟩ := wcells_get hu hv
      have c0 := hgc _ _ w0
      have c1 := hgc _ _ w1
      have q0 := hR.cellFz (by omega) (j * 2)
      obtain ⟨N, hN⟩ := hidEx (k + (szC (l.take j) : Int))
      obtain ⟨m, hm⟩ := hidEx (upto (fC k l) l j)
      rw [hm.out] at hul hwl hR hB hu hgc
      -- the number
      have R1 := hR.set (j * 2) (.int .i64 N) (by omega)
      rw [wcells_set (by omega) (by omega) N (l[j]).2] at R1
      have B1 : Bs (wr.setCell ⟨g, j * 2, none⟩ (.int .i64 N)) B (ss ++ cs) (ms ++ m.map (·.2)) := hB.other (i := j * 2) (u := .int .i64 N) hR (by omega) (by decide)
      have O1 : Out B H w (wr.setCell ⟨g, j * 2, none⟩ (.int .i64 N)) := hO.trans (Out.set ⟨hg0, hgH⟩)
      have K1 : KeepT (fun t => t = 5 ∨ t = 79) w (wr.setCell ⟨g, j * 2, none⟩ (.int .i64 N)) := ho.trans (KeepT.set hR (by omega) (.inr rfl))
      have S1 : (wr.setCell ⟨g, j * 2, none⟩ (.int .i64 N)).heap.size = w.heap.size := by simpa using hsz
      obtain ⟨W1, hW1⟩ := hidEx (wr.setCell ⟨g, j * 2, none⟩ (.int .i64 N))
      rw [hW1.out] at R1 B1 O1 K1 S1
      have hvs : (ss ++ cs)[ms.length + j]? = some cs[j] := by rw [← hss, List.getElem?_append_right (by omega), Nat.add_sub_cancel_left]; exact hv
      have hls : (ms ++ m.map (·.2))[ms.length + j]? = some (l[j]).2 := by rw [List.getElem?_append_right (by omega), Nat.add_sub_cancel_left]; simp [hu]
      have hOB := B1.ob _ _ _ hvs hls
      have hst := szC_take hlt
      have hsl := szC_le l (j + 1)
      have hNe := hN.out
      have hV := markOB hOB (N + 1) (by omega) (by omega)
      have d1 : W1.cell? ⟨g, j * 2 + 1, none⟩ = some cs[j] := by
        obtain ⟨g', e', -, -, hgc'⟩ := R1.cell (by rw [wcells_len (by simp; omega)]; simp; omega)
        cases e'
        have hu2 : (m.set j (N, (l[j]).2))[j]? = some (N, (l[j]).2) := by simp [show j < m.length by omega]
        exact hgc' _ _ (wcells_get hu2 hv).2
      have HS : Hid (m.set j (N, mkB (N + 1) (l[j]).2.length) = upto (fC k l) l (j + 1)) := by
        show _ = _
        rw [← hm.out, ← upto_set _ _ _ hlt, ← hN.out]
        rfl
      have HK : Hid (N + 1 + (l[j]).2.length = k + szC (l.take (j + 1))) := by
        show _ = _
        rw [hst, ← hNe]; omega
      have HH : Hid (∀ g, cs[j].ownBlock = some g → B ≤ g ∧ g < H) := fun g e => ⟨(B1.lt _ (List.mem_of_getElem? hvs) g e).1, hH _ (List.mem_of_getElem? hv) g e⟩
      have HB : Hid (RL 79 W1 B (some ⟨g, 0, none⟩) (wcells (m.set j (N, (l[j]).2)) cs) ∧ Bs W1 B (ss ++ cs) (ms ++ m.map (·.2)) ∧ Out B H w W1 ∧ KeepT (fun t => t = 5 ∨ t = 79) w W1 ∧ (ss ++ cs)[ms.length + j]? = some cs[j]) := ⟨R1, B1, O1, K1, hvs⟩
      have HW : Hid (wcells (m.set j (N, (l[j]).2)) cs = wcells (m.set j (N, mkB (N + 1) (l[j]).2.length)) cs) := by
        show _ = _
        rw [← wcells_set (by omega) (by omega), ← wcells_set (by omega) (by omega)]
      have HX : Hid ((ms ++ m.map (·.2)).set (ms.length + j) (mkB (N + 1) (l[j]).2.length) = ms ++ (m.set j (N, mkB (N + 1) (l[j]).2.length)).map (·.2)) := by
        show _ = _
        rw [List.set_append_right _ _ (by omega), Nat.add_sub_cancel_left, List.map_set]
      have hw1 : IntKind.i64.wrap (N + 1) = N + 1 := by rw [IntKind.wrap_i64]; omega
      clear hB hO ho hvs hls hOB hst hsl hR hgc hv R1 B1 O1 K1 w0 w1 hu
      obtain ⟨k2, hk2⟩ := hidEx (k + (szC (l.take (j + 1)) : Int))
      obtain ⟨n0, hn0⟩ := hidEx (l[j]).2.length
      obtain ⟨v0, hv0⟩ := hidEx cs[j]
      obtain ⟨n1, hn1⟩ := hidEx (l[j]).1
      rw [hn1.out] at c0
      rw [hv0.out] at c1 hV HH HB d1
      rw [hn0.out] at hV HS HW HX
      rw [hn0.out, hk2.out] at HK
      rw [hN.out]
      go_wp2_with (rw [hW1.out])
      refine hV.mono ?_
      rintro e w2 ⟨rfl, hmm, hov⟩
      have HR : Hid (RL 79 w2 B (some ⟨g, 0, none⟩) (wcells (upto (fC k l) l (j + 1)) cs) ∧ Bs w2 B (ss ++ cs) (ms ++ (upto (fC k l) l (j + 1)).map (·.2)) ∧ Out B H w w2 ∧ w2.heap.size = w.heap.size ∧ KeepT (fun t => t = 5 ∨ t = 79) w w2) := by
        refine ⟨?_, ?_, HB.out.2.2.1.trans (Out.ofOnlyV hov HH.out), by rw [hov.size, S1], HB.out.2.2.2.1.trans (KeepT.of8 hov.keep (.inl rfl))⟩
        · rw [← HS.out, ← HW.out]
          exact HB.out.1.keep hov.keep (by decide)
        · rw [← HS.out, ← HX.out]
          exact HB.out.2.1.mark HB.out.2.2.2.2 hmm hov
      rw [HK.out]
      clear hV hmm hov HB HS HH HK HW HX d1 c0 c1 q0
      go_wp2
      go_roundg (l.length - (j + 1))
      case measure => omega
      case rel => exact ⟨j + 1, by omega, rfl, by rw [hk2.out], by go_num, HR.out⟩
    · obtain rfl : j = l.length := by omega
      have hjz : ¬ (l.length : Int) < (l.length : Int) := by omega
      rw [List.take_length]
      have HB : Hid (RL 79 wr B a (wcells (l.mapIdx (fC k l)) cs) ∧ Bs wr B (ss ++ cs) (ms ++ (l.mapIdx (fC k l)).map (·.2))) := by
        show _ ∧ _
        rw [← upto_all (fC k l) l l.length (Nat.le_refl _)]
        exact ⟨hR, hB⟩
      clear hB hR
      go_wp2
      go_ret
      exact ⟨rfl, HB.out.1, HB.out.2, hO, hsz, ho⟩
end Go.Proofs.Ytdjaiappaghfnaa

/-
  Marks in faults and in a whole disk, and what finds them.
-/
namespace Go.Proofs.Ytdjaiappaghfnaa
open Go.RowKit
set_option maxRecDepth 4000

theorem fcells_at {l : List PFault} (i j : Nat) (hj : j < 3) : (fcells l)[i * 3 + j]? = (l[i]?).bind (fun x => (fEl x)[j]?) := flat_get fEl 3 (fun _ => rfl) _ i j hj
theorem fcells_set {l : List PFault} {j : Nat} (hj : j < l.length) (x : PFault) : (((fcells l).set (j * 3) (.int .i64 x.pos)).set (j * 3 + 1) (.int .i64 x.keep)).set (j * 3 + 2) (.int .i64 x.cut) = fcells (l.set j x) := by
  have hw := fcells_len l
  refine List.ext_getElem? (fun q => ?_)
  have hq : q = q / 3 * 3 + q % 3 := by omega
  have hm : q % 3 < 3 := by omega
  rw [List.getElem?_set, List.getElem?_set, List.getElem?_set]
  simp only [List.length_set]
  have R : (fcells (l.set j x))[q]? = ((l.set j x)[q / 3]?).bind (fun x => (fEl x)[q % 3]?) := by
    have := fcells_at (l := l.set j x) (q / 3) (q % 3) hm
    rw [← hq] at this; exact this
  rw [R, List.getElem?_set]
  by_cases e2 : j * 3 + 2 = q
  · rw [if_pos e2, if_pos (by omega), if_pos (by omega), if_pos (by omega), show q % 3 = 2 by omega]; rfl
  rw [if_neg e2]
  by_cases e1 : j * 3 + 1 = q
  · rw [if_pos e1, if_pos (by omega), if_pos (by omega), if_pos (by omega), show q % 3 = 1 by omega]; rfl
  rw [if_neg e1]
  by_cases e0 : j * 3 = q
  · rw [if_pos e0, if_pos (by omega), if_pos (by omega), if_pos (by omega), show q % 3 = 0 by omega]; rfl
  rw [if_neg e0, if_neg (by omega)]
  have := fcells_at (l := l) (q / 3) (q % 3) hm
  rw [← hq] at this; exact this

set_option maxHeartbeats 4000000 in
theorem markFaultS_any (a : Option Addr) (cap B H : Nat) (l : List PFault) (k : Int) (w : World) (hR : RL 70 w B a (fcells l)) (hA : 0 < l.length → ∀ g, a = some ⟨g, 0, none⟩ → g < H) (hn : l.length ≤ 1048576) (hk : 0 ≤ k) (hk1 : k + 3 * l.length ≤ 4611686018427387904) :
    Calls Try.prog 23 #[.slice a l.length cap, .int .i64 k] w fun e w' => e = .returned (.int .i64 (k + 3 * l.length)) ∧ RL 70 w' B a (fcells (l.mapIdx (fF k))) ∧ Out B H w w' ∧ w'.heap.size = w.heap.size ∧ KeepT (fun t => t = 70) w w' := by
  go_enter Try.func23, Try.ntmps23
  go_wp2
  go_loopg [1, 5] l.length (fun q s i wr => ∃ j : Nat, j ≤ l.length ∧ q = l.length - j ∧ s = .int .i64 (k + 3 * (j : Int)) ∧ i = .int .i64 j ∧ RL 70 wr B a (fcells (upto (fF k) l j)) ∧ Out B H w wr ∧ wr.heap.size = w.heap.size ∧ KeepT (fun t => t = 70) w wr)
  case atStart => exact ⟨0, Nat.zero_le _, rfl, by simp, rfl, by rw [upto_zero]; exact hR, Out.refl _ _ _, rfl, KeepT.refl _ _⟩
  case round =>
    clear hR
    obtain ⟨j, hj, rfl, rfl, rfl, hR, hO, hsz, ho⟩ := hrel
    by_cases hlt : j < l.length
    · have hjz : (j : Int) < (l.length : Int) := by omega
      have hul := upto_len (fF k) l j
      have hwl := fcells_len (upto (fF k) l j)
      obtain ⟨g, rfl, hg0, hg1, hgc⟩ := hR.cell (by omega)
      have hgH := hA (by omega) g rfl
      have hu : (upto (fF k) l j)[j]? = some l[j] := by rw [upto_get, List.getElem?_eq_getElem hlt]; simp
      obtain ⟨N, hN⟩ := hidEx (k + 3 * (j : Int))
      have hNe := hN.out
      have c0 := hgc (j * 3) (.int .i64 (l[j]).pos) (by have := fcells_get hu (j := 0) (by decide); simpa [fEl] using this)
      have c1 := hgc (j * 3 + 1) (.int .i64 (l[j]).keep) (by have := fcells_get hu (j := 1) (by decide); simpa [fEl] using this)
      have c2 := hgc (j * 3 + 2) (.int .i64 (l[j]).cut) (by have := fcells_get hu (j := 2) (by decide); simpa [fEl] using this)
      have q0 := hR.cellFz (by omega) (j * 3)
      have q1 := hR.cellFz (by omega) (j * 3 + 1)
      have q2 := hR.cellFz (by omega) (j * 3 + 2)
      have R1 := hR.set (j * 3) (.int .i64 N) (by omega)
      have K1 : KeepT (fun t => t = 70) w (wr.setCell ⟨g, j * 3, none⟩ (.int .i64 N)) := ho.trans (KeepT.set hR (by omega) rfl)
      have R2 := R1.set (j * 3 + 1) (.int .i64 (N + 1)) (by simp; omega)
      have K2 : KeepT (fun t => t = 70) w ((wr.setCell ⟨g, j * 3, none⟩ (.int .i64 N)).setCell ⟨g, j * 3 + 1, none⟩ (.int .i64 (N + 1))) := K1.trans (KeepT.set R1 (by simp; omega) rfl)
      have R3 := R2.set (j * 3 + 2) (.int .i64 (N + 2)) (by simp; omega)
      have K3 : KeepT (fun t => t = 70) w (((wr.setCell ⟨g, j * 3, none⟩ (.int .i64 N)).setCell ⟨g, j * 3 + 1, none⟩ (.int .i64 (N + 1))).setCell ⟨g, j * 3 + 2, none⟩ (.int .i64 (N + 2))) := K2.trans (KeepT.set R2 (by simp; omega) rfl)
      have O3 : Out B H w (((wr.setCell ⟨g, j * 3, none⟩ (.int .i64 N)).setCell ⟨g, j * 3 + 1, none⟩ (.int .i64 (N + 1))).setCell ⟨g, j * 3 + 2, none⟩ (.int .i64 (N + 2))) := ((hO.trans (Out.set ⟨hg0, hgH⟩)).trans (Out.set ⟨hg0, hgH⟩)).trans (Out.set ⟨hg0, hgH⟩)
      rw [fcells_set (x := ⟨N, N + 1, N + 2⟩) (by omega)] at R3
      have HS : (upto (fF k) l j).set j ⟨N, N + 1, N + 2⟩ = upto (fF k) l (j + 1) := by
        rw [← upto_set _ _ _ hlt, ← hN.out]
        rfl
      rw [HS] at R3
      have HR : Hid (RL 70 (((wr.setCell ⟨g, j * 3, none⟩ (.int .i64 N)).setCell ⟨g, j * 3 + 1, none⟩ (.int .i64 (N + 1))).setCell ⟨g, j * 3 + 2, none⟩ (.int .i64 (N + 2))) B (some ⟨g, 0, none⟩) (fcells (upto (fF k) l (j + 1))) ∧ Out B H w (((wr.setCell ⟨g, j * 3, none⟩ (.int .i64 N)).setCell ⟨g, j * 3 + 1, none⟩ (.int .i64 (N + 1))).setCell ⟨g, j * 3 + 2, none⟩ (.int .i64 (N + 2))) ∧ (((wr.setCell ⟨g, j * 3, none⟩ (.int .i64 N)).setCell ⟨g, j * 3 + 1, none⟩ (.int .i64 (N + 1))).setCell ⟨g, j * 3 + 2, none⟩ (.int .i64 (N + 2))).heap.size = w.heap.size ∧ KeepT (fun t => t = 70) w (((wr.setCell ⟨g, j * 3, none⟩ (.int .i64 N)).setCell ⟨g, j * 3 + 1, none⟩ (.int .i64 (N + 1))).setCell ⟨g, j * 3 + 2, none⟩ (.int .i64 (N + 2)))) := ⟨R3, O3, by simpa using hsz, K3⟩
      have hw1 : IntKind.i64.wrap (N + 1) = N + 1 := by rw [IntKind.wrap_i64]; omega
      have hw2 : IntKind.i64.wrap (N + 1 + 1) = N + 2 := by rw [IntKind.wrap_i64]; omega
      have hw3 : IntKind.i64.wrap (N + 2 + 1) = N + 3 := by rw [IntKind.wrap_i64]; omega
      have hw4 : IntKind.i64.wrap ((j : Int) + 1) = (j : Int) + 1 := by rw [IntKind.wrap_i64]; omega
      obtain ⟨n0, hn0⟩ := hidEx (l[j]).pos
      obtain ⟨n1, hn1⟩ := hidEx (l[j]).keep
      obtain ⟨n2, hn2⟩ := hidEx (l[j]).cut
      rw [hn0.out] at c0
      rw [hn1.out] at c1
      rw [hn2.out] at c2
      clear hR hO ho hgc hu R1 R2 R3 K1 K2 K3 O3 HS
      rw [hN.out]
      go_wp2
      go_roundg (l.length - (j + 1))
      case measure => omega
      case rel => exact ⟨j + 1, by omega, rfl, by go_num, by go_num, HR.out⟩
    · obtain rfl : j = l.length := by omega
      have hjz : ¬ (l.length : Int) < (l.length : Int) := by omega
      have HB : Hid (RL 70 wr B a (fcells (l.mapIdx (fF k)))) := by
        show RL _ _ _ _ _
        rw [← upto_all (fF k) l l.length (Nat.le_refl _)]
        exact hR
      clear hR
      go_wp2
      go_ret
      exact ⟨rfl, HB.out, hO, hsz, ho⟩

set_option maxHeartbeats 2000000 in
theorem heldWriteS_any (a : Option Addr) (cap : Nat) (l : List (Int × List Int)) (k : Int) (w : World) (h : WView w a cap (l.mapIdx (fC k l))) (hn : l.length ≤ 1048576) (hk : 0 ≤ k) (hk1 : k + szC l ≤ 4611686018427387904) :
    Calls Try.prog 49 #[.slice a l.length cap, .int .i64 k] w fun e w' => e = .returned (.int .i64 (k + szC l)) ∧ Below w.heap.size w w' := by
  go_enter Try.func49, Try.ntmps49
  go_wp2
  go_loopg [1, 5] l.length (fun q s i wr => ∃ j : Nat, j ≤ l.length ∧ q = l.length - j ∧ s = .int .i64 (k + szC (l.take j)) ∧ i = .int .i64 j ∧ Below w.heap.size w wr)
  case atStart => exact ⟨0, Nat.zero_le _, rfl, by simp [szC], rfl, Below.refl _ _⟩
  case round =>
    obtain ⟨j, hj, rfl, rfl, rfl, hB⟩ := hrel
    by_cases hlt : j < l.length
    · have hjz : (j : Int) < (l.length : Int) := by omega
      obtain ⟨b1, o1, a', c', rfl, hb1, x0, x1, v0, -⟩ := wview_at (wview_below h hB) (i := j) (by simpa using hlt)
      have eL : (l.mapIdx (fC k l))[j]'(by simpa using hlt) = (k + szC (l.take j), mkB (k + szC (l.take j) + 1) (l[j]).2.length) := by simp [fC]
      simp only [eL, mkB_len] at x0 x1 v0
      have hst := szC_take hlt
      have hsl := szC_le l (j + 1)
      have hV := held_any a' (l[j]).2.length c' _ (k + szC (l.take j) + 1) wr v0 (fun i hi => mkB_get _ _ i hi) (by omega) (by omega)
      have HK : Hid (k + szC (l.take j) + 1 + (l[j]).2.length = k + szC (l.take (j + 1))) := by
        show _ = _
        rw [hst]; omega
      have hp : ¬ k + szC (l.take (j + 1)) < (0 : Int) := by omega
      have hw1 : IntKind.i64.wrap (k + szC (l.take j) + 1) = k + szC (l.take j) + 1 := by rw [IntKind.wrap_i64]; omega
      clear h v0 eL hst hsl
      obtain ⟨k0, hk0⟩ := hidEx (k + (szC (l.take j) : Int))
      obtain ⟨k2, hk2⟩ := hidEx (k + (szC (l.take (j + 1)) : Int))
      obtain ⟨n0, hn0⟩ := hidEx (l[j]).2.length
      rw [hn0.out] at x1
      rw [hn0.out, hk0.out] at hV
      rw [hn0.out, hk0.out, hk2.out] at HK
      rw [hk2.out] at hp
      rw [hk0.out] at x0 hw1
      have hq : (k0 != k0) = false := bne_self_eq_false _
      rw [hk0.out]
      go_wp2_with fail
      refine hV.mono ?_
      rintro e w2 ⟨rfl, hb2⟩
      have HB : Hid (Below w.heap.size w w2) := hB.trans (hb2.mono hB.size)
      rw [HK.out]
      clear hV hb2 HK hB
      go_wp2
      go_roundg (l.length - (j + 1))
      case measure => omega
      case rel => exact ⟨j + 1, by omega, rfl, by rw [hk2.out], by go_num, HB.out⟩
    · obtain rfl : j = l.length := by omega
      have hjz : ¬ (l.length : Int) < (l.length : Int) := by omega
      rw [List.take_length]
      clear h
      go_wp2
      go_ret
      exact ⟨rfl, hB⟩

set_option maxHeartbeats 2000000 in
theorem heldFaultS_any (a : Option Addr) (cap : Nat) (l : List PFault) (k : Int) (w : World) (h : FView w a cap (l.mapIdx (fF k))) (hn : l.length ≤ 1048576) (hk : 0 ≤ k) (hk1 : k + 3 * l.length ≤ 4611686018427387904) :
    Calls Try.prog 50 #[.slice a l.length cap, .int .i64 k] w fun e w' => e = .returned (.int .i64 (k + 3 * l.length)) ∧ Below w.heap.size w w' := by
  go_enter Try.func50, Try.ntmps50
  go_wp2
  go_loopg [1, 5] l.length (fun q s i wr => ∃ j : Nat, j ≤ l.length ∧ q = l.length - j ∧ s = .int .i64 (k + 3 * (j : Int)) ∧ i = .int .i64 j ∧ Below w.heap.size w wr)
  case atStart => exact ⟨0, Nat.zero_le _, rfl, by simp, rfl, Below.refl _ _⟩
  case round =>
    obtain ⟨j, hj, rfl, rfl, rfl, hB⟩ := hrel
    by_cases hlt : j < l.length
    · have hjz : (j : Int) < (l.length : Int) := by omega
      obtain ⟨b1, o1, rfl, hb1, x0, x1, x2⟩ := fview_at (fview_below h hB) (i := j) (by simpa using hlt)
      have eL : (l.mapIdx (fF k))[j]'(by simpa using hlt) = ⟨k + 3 * (j : Int), k + 3 * (j : Int) + 1, k + 3 * (j : Int) + 2⟩ := by simp [fF]
      simp only [eL] at x0 x1 x2
      obtain ⟨N, hN⟩ := hidEx (k + 3 * (j : Int))
      have hNe := hN.out
      rw [hN.out] at x0 x1 x2
      have hw1 : IntKind.i64.wrap (N + 1) = N + 1 := by rw [IntKind.wrap_i64]; omega
      have hw2 : IntKind.i64.wrap (N + 1 + 1) = N + 2 := by rw [IntKind.wrap_i64]; omega
      have hw3 : IntKind.i64.wrap (N + 2 + 1) = N + 3 := by rw [IntKind.wrap_i64]; omega
      have hw4 : IntKind.i64.wrap ((j : Int) + 1) = (j : Int) + 1 := by rw [IntKind.wrap_i64]; omega
      have hq0 : (N != N) = false := bne_self_eq_false _
      have hq1 : (N + 1 != N + 1) = false := bne_self_eq_false _
      have hq2 : (N + 2 != N + 2) = false := bne_self_eq_false _
      clear h eL
      rw [hN.out]
      go_wp2
      go_roundg (l.length - (j + 1))
      case measure => omega
      case rel => exact ⟨j + 1, by omega, rfl, by go_num, by go_num, hB⟩
    · obtain rfl : j = l.length := by omega
      have hjz : ¬ (l.length : Int) < (l.length : Int) := by omega
      clear h
      go_wp2
      go_ret
      exact ⟨rfl, hB⟩

/-- A disk of the call's own whose rows lie from B on, below H. -/
def KIn (w : World) (B H : Nat) (v : Value) (D : PDisk) : Prop := ∃ sa sc ca cc fa fc ss cs, v = dval D sa sc ca cc fa fc ∧ KO w B sa sc ca cc fa fc ss cs D ∧ (∀ u, u ∈ ss ++ cs → ∀ g, u.ownBlock = some g → g < H) ∧ (0 < D.cache.length → ∀ g, ca = some ⟨g, 0, none⟩ → g < H) ∧ (0 < D.faults.length → ∀ g, fa = some ⟨g, 0, none⟩ → g < H)
theorem KOwn.kin {w : World} {B : Nat} {v : Value} {D : PDisk} (h : KOwn w B v D) : KIn w B w.heap.size v D := by
  obtain ⟨sa, sc, ca, cc, fa, fc, ss, cs, e, hk⟩ := h
  refine ⟨sa, sc, ca, cc, fa, fc, ss, cs, e, hk, fun u hu g hg => (hk.bytes.lt u hu g hg).2, fun hn g hg => ?_, fun hn g hg => ?_⟩
  · obtain ⟨g', e', -, hlt, -⟩ := hk.cache.cell (by rw [wcells_len hk.nc]; omega)
    rw [hg] at e'; cases e'; exact hlt
  · obtain ⟨g', e', -, hlt, -⟩ := hk.faults.cell (by rw [fcells_len]; omega)
    rw [hg] at e'; cases e'; exact hlt
theorem KIn.up {w w' : World} {B H : Nat} {v : Value} {D : PDisk} (h : KIn w B H v D) (hu : Up B w w') : KIn w' B H v D := by
  obtain ⟨sa, sc, ca, cc, fa, fc, ss, cs, e, hk, h1⟩ := h
  exact ⟨sa, sc, ca, cc, fa, fc, ss, cs, e, hk.up hu, h1⟩
theorem KIn.own {w : World} {B H : Nat} {v : Value} {D : PDisk} (h : KIn w B H v D) : KOwn w B v D := by
  obtain ⟨sa, sc, ca, cc, fa, fc, ss, cs, e, hk, h1⟩ := h
  exact ⟨sa, sc, ca, cc, fa, fc, ss, cs, e, hk⟩
theorem KFine.sum {D : PDisk} (h : KFine D) : szS D.secs ≤ 1099511627776 ∧ szC D.cache ≤ 1099512676352 ∧ D.faults.length ≤ 1048576 := ⟨szS_bound h.ns h.sec, szC_bound h.nc h.cache, h.nf⟩

set_option maxHeartbeats 4000000 in
theorem markDisk_any (v : Value) (D : PDisk) (B H : Nat) (k : Int) (w : World) (h : KIn w B H v D) (hf : KFine D) (hk : 0 ≤ k) (hk1 : k ≤ 1000000000) :
    Calls Try.prog 12 #[v, .int .i64 k] w fun e w' => e = .returned (.int .i64 (k + szD D)) ∧ KIn w' B H v (mkD k D) ∧ Out B H w w' := by
  obtain ⟨sa, sc, ca, cc, fa, fc, ss, cs, rfl, hk0, hH, hC, hF⟩ := h
  obtain ⟨z1, z2, z3⟩ := hf.sum
  unfold dval
  have hbA : Below w.heap.size w (w.alloc (.cells #[.slice sa D.secs.length sc, .slice ca D.cache.length cc, .int .i64 D.ops, .slice fa D.faults.length fc, .bool D.down] 31)) := (Below.refl _ _).alloc (Nat.le_refl _) _
  have V0 := VN.new w 31 [.slice sa D.secs.length sc, .slice ca D.cache.length cc, .int .i64 D.ops, .slice fa D.faults.length fc, .bool D.down]
  obtain ⟨W0, hW0⟩ := hidEx (w.alloc (.cells #[.slice sa D.secs.length sc, .slice ca D.cache.length cc, .int .i64 D.ops, .slice fa D.faults.length fc, .bool D.down] 31))
  have hk2 := hk0.up (Up.ofBelow hbA)
  rw [hW0.out] at hk2 hbA
  replace V0 : VN W0 w.heap.size 31 [.slice sa D.secs.length sc, .slice ca D.cache.length cc, .int .i64 D.ops, .slice fa D.faults.length fc, .bool D.down] := by rw [← hW0.out]; exact V0
  have hV := markByteSS_any sa sc B H ss cs D.secs (D.cache.map (·.2)) k W0 hk2.secs hk2.bytes hk2.ns (fun v hv => hH v (List.mem_append_left _ hv)) hf.ns hk (by omega)
  have x0 := V0.cell 0
  simp at x0
  go_enter Try.func12, Try.ntmps12
  go_wp2_with (rw [hW0.out])
  refine hV.mono ?_
  rintro e w1 ⟨rfl, B1, O1, S1, K1⟩
  have V1 := V0.block (K1 _ _ _ _ V0 (by decide))
  have x1 := V1.cell 1
  simp at x1
  have C1 := hk2.cache.keep K1 (by decide)
  have R1 := hk2.secs.keep K1 (by decide)
  have F1 := hk2.faults.keep K1 (by decide)
  obtain ⟨k1, hk1e⟩ := hidEx (k + (szS D.secs : Int))
  have hk1v := hk1e.out
  rw [hk1e.out]
  have hV := markWriteS_any ca cc B H ss cs (D.secs.mapIdx (fS k D.secs)) D.cache k1 w1 C1 B1 hk2.nc (by simp [hk2.ns]) (fun v hv => hH v (List.mem_append_right _ hv)) hC hf.nc (by omega) (by omega)
  go_wp2_with fail
  refine hV.mono ?_
  rintro e w2 ⟨rfl, C2, B2, O2, S2, K2⟩
  have V2 := V1.block (K2 _ _ _ _ V1 (by decide))
  have x3 := V2.cell 3
  simp at x3
  have R2 := R1.keepT K2 (by decide)
  have F2 := F1.keepT K2 (by decide)
  obtain ⟨k3, hk3e⟩ := hidEx (k1 + (szC D.cache : Int))
  have hk3v := hk3e.out
  rw [hk3e.out]
  have hV := markFaultS_any fa fc B H D.faults k3 w2 F2 hF hf.nf (by omega) (by omega)
  go_wp2_with fail
  refine hV.mono ?_
  rintro e w3 ⟨rfl, F3, O3, S3, K3⟩
  have R3 := R2.keepT K3 (by decide)
  have C3 := C2.keepT K3 (by decide)
  have B3 := B2.keepT K3 (by omega) (by decide)
  have HR : Hid (KIn w3 B H (dval D sa sc ca cc fa fc) (mkD k D) ∧ Out B H w w3) := by
    have hl1 : (D.secs.mapIdx (fS k D.secs)).length = D.secs.length := by simp
    have hl2 : (D.cache.mapIdx (fC k1 D.cache)).length = D.cache.length := by simp
    have hl3 : (D.faults.mapIdx (fF k3)).length = D.faults.length := by simp
    have em : mkD k D = ⟨D.secs.mapIdx (fS k D.secs), D.cache.mapIdx (fC k1 D.cache), D.ops, D.faults.mapIdx (fF k3), D.down⟩ := by
      unfold mkD
      rw [hk1v, hk3v]
    rw [em]
    refine ⟨⟨sa, sc, ca, cc, fa, fc, ss, cs, ?_, ⟨by simpa using hk2.sle, hk2.snil, by simpa using hk2.cle, hk2.cnil, by simpa using hk2.fle, hk2.fnil, by simpa using hk2.ns, by simpa using hk2.nc, R3, C3, F3, B3⟩, hH, by simpa using hC, by simpa using hF⟩, ((Out.ofBelow hbA).trans O1).trans (O2.trans O3)⟩
    unfold dval
    simp only [hl1, hl2, hl3]
  have hres : k3 + 3 * (D.faults.length : Int) = k + szD D := by
    unfold szD
    rw [← hk3v, ← hk1v]
    simp only [Int.natCast_add, Int.natCast_mul]
    omega
  rw [hres]
  clear hV R3 C3 B3 F3 R2 C2 F2 B2 R1 C1 F1 B1 K1 K2 K3 O1 O2 O3 hk2 hk0 hH hC hF V0 V1 V2 x0 x1 x3
  go_wp2
  go_ret
  exact ⟨rfl, HR.out.1, HR.out.2⟩

set_option maxHeartbeats 4000000 in
theorem heldDisk_any (v : Value) (D : PDisk) (k : Int) (w : World) (h : KView w v (mkD k D)) (hf : KFine D) (hk : 0 ≤ k) (hk1 : k ≤ 1000000000) :
    Calls Try.prog 24 #[v, .int .i64 k] w fun e w' => e = .returned (.int .i64 (k + szD D)) ∧ Below w.heap.size w w' := by
  obtain ⟨z1, z2, z3⟩ := hf.sum
  obtain ⟨sa, sc, ca, cc, fa, fc, rfl, hs, hc, hfv⟩ := h.is
  clear h
  have hl1 : (mkD k D).secs.length = D.secs.length := by simp [mkD]
  have hl2 : (mkD k D).cache.length = D.cache.length := by simp [mkD]
  have hl3 : (mkD k D).faults.length = D.faults.length := by simp [mkD]
  have hl4 : (mkD k D).ops = D.ops := rfl
  have hl5 : (mkD k D).down = D.down := rfl
  rw [hl1, hl2, hl3, hl4, hl5]
  have hB0 := box5_start w (.cells #[.slice sa D.secs.length sc, .slice ca D.cache.length cc, .int .i64 D.ops, .slice fa D.faults.length fc, .bool D.down] 31)
  obtain ⟨hBw0, -⟩ := box5_below hB0
  have hV := heldByteSS_any sa sc D.secs k _ (sview_below hs hBw0) hf.ns hk (by omega)
  go_enter Try.func24, Try.ntmps24
  go_wp2_with fail
  refine hV.mono ?_
  rintro e w1 ⟨rfl, hb1⟩
  have hB1 := box5_on hB0 hb1
  obtain ⟨hBw1, -⟩ := box5_below hB1
  obtain ⟨x0, x1, x2, x3, x4⟩ := box5 hB1
  clear hV hB0 hBw0 hb1
  obtain ⟨k1, hk1e⟩ := hidEx (k + (szS D.secs : Int))
  have hk1v := hk1e.out
  rw [hk1e.out]
  have hp1 : ¬ k1 < 0 := by omega
  have hV := heldWriteS_any ca cc D.cache k1 w1 (by rw [← hk1v]; exact wview_below hc hBw1) hf.nc (by omega) (by omega)
  go_wp2_with fail
  refine hV.mono ?_
  rintro e w2 ⟨rfl, hb2⟩
  have hB2 := box5_on hB1 hb2
  obtain ⟨hBw2, -⟩ := box5_below hB2
  clear x0 x1 x2 x3 x4
  obtain ⟨x0, x1, x2, x3, x4⟩ := box5 hB2
  clear hV hB1 hBw1 hb2
  obtain ⟨k3, hk3e⟩ := hidEx (k1 + (szC D.cache : Int))
  have hk3v := hk3e.out
  rw [hk3e.out]
  have hp3 : ¬ k3 < 0 := by omega
  have hV := heldFaultS_any fa fc D.faults k3 w2 (by rw [← hk3v, ← hk1v]; exact fview_below hfv hBw2) hf.nf (by omega) (by omega)
  go_wp2_with fail
  refine hV.mono ?_
  rintro e w3 ⟨rfl, hb3⟩
  have hB3 := box5_on hB2 hb3
  obtain ⟨hBw3, -⟩ := box5_below hB3
  clear x0 x1 x2 x3 x4
  have hres : k3 + 3 * (D.faults.length : Int) = k + szD D := by
    unfold szD
    rw [← hk3v, ← hk1v]
    simp only [Int.natCast_add, Int.natCast_mul]
    omega
  rw [hres]
  have hp4 : ¬ k + szD D < (0 : Int) := by omega
  clear hV hB2 hBw2 hb3 hs hc hfv hf
  go_wp2
  go_ret
  exact ⟨rfl, hBw3⟩
end Go.Proofs.Ytdjaiappaghfnaa

