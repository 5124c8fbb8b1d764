/-
  Faults of a disk, and the disk, copied, as the law does it.
-/
import Derived.Test.YtagjgnephaaehaaDiskCopy2
namespace Go.Proofs.Ytagjgnephaaehaa
open Go.RowKit
set_option maxRecDepth 4000

set_option maxHeartbeats 1000000 in
theorem toFault_any (c d f : Int) (w : World) :
    Calls Try.prog 44 #[.agg #[.int .i64 c, .int .i64 d, .int .i64 f]] w fun e w' => e = .returned (.agg #[.int .i64 c, .int .i64 d, .int .i64 f]) ∧ Below w.heap.size w w' := by
  go_enter Try.func44, Try.ntmps44
  go_wp2
  refine bodyPost_ret (v := .agg #[.int .i64 c, .int .i64 d, .int .i64 f]) (by simp [results, Try.results44, go_sem]) rfl ⟨rfl, ?_⟩
  repeat (first | exact Below.refl _ _ | refine Below.alloc ?_ (by simp <;> omega) _ | refine Below.drew ?_)

theorem infoFault : ∃ i, Try.prog.info? 63 = some i ∧ i.zero = some (.agg #[.int .i64 0, .int .i64 0, .int .i64 0]) ∧ i.size = 3 ∧ i.bytes = 24 := by
  have h : (Try.prog.info? 63).map (fun i => (i.zero, i.size, i.bytes)) = some (some (.agg #[.int .i64 0, .int .i64 0, .int .i64 0]), 3, 24) := by kernel_rfl
  obtain ⟨i, hi, hz⟩ := Option.map_eq_some_iff.1 h
  simp only [Prod.mk.injEq] at hz
  exact ⟨i, hi, hz.1, hz.2.1, hz.2.2⟩
theorem makeFaults (n : Nat) (h : n ≤ 1048576) (w : World) : (Instr.makeSlice 29 (.int .i64 (n : Int)) (.int .i64 (n : Int))).run Try.prog w = .ok (.slice (some ⟨w.heap.size, 0, none⟩) n n) (w.alloc (.cells (madeCells #[.int .i64 0, .int .i64 0, .int .i64 0] (n * 3)) 63)) := by
  obtain ⟨i, hi, hz, hs, hb⟩ := infoFault
  have hr := run_make (P := Try.prog) w 29 63 i _ Try.underlying29 hi hz .i64 .i64 n n (by omega) (Int.le_refl _) (by rw [hb]; omega) (by omega)
  simp only [Int.toNat_natCast, hs] at hr
  exact hr
theorem fcells_len (l : List PFault) : (fcells l).length = l.length * 3 := flat_len fEl 3 (fun _ => rfl) _
theorem fcells_push (l : List PFault) (x : PFault) : fcells (l ++ [x]) = fcells l ++ [.int .i64 x.pos, .int .i64 x.keep, .int .i64 x.cut] := by
  unfold fcells
  rw [List.flatMap_append]
  simp [fEl]
/-- k of the faults are copied into the new row. -/
structure CopF (w wr : World) (l : List PFault) (k : Nat) : Prop where
  below : Below w.heap.size w wr
  size : w.heap.size < wr.heap.size
  row : wr.rowIs w.heap.size 63 (l.length * 3) (fun j => ((fcells (l.take k))[j]?).getD (.int .i64 0))
theorem copF_start (w : World) (l : List PFault) : CopF w (w.alloc (.cells (madeCells #[.int .i64 0, .int .i64 0, .int .i64 0] (l.length * 3)) 63)) l 0 := by
  have hr := World.rowIs_alloc w (madeCells #[.int .i64 0, .int .i64 0, .int .i64 0] (l.length * 3)) 63 (fun _ => .int .i64 0) (fun i hi => by
    rw [size_madeCells] at hi
    simp [madeCells, hi]
    have h3 : i % 3 = 0 ∨ i % 3 = 1 ∨ i % 3 = 2 := by omega
    rcases h3 with h | h | h <;> simp [h])
  rw [size_madeCells] at hr
  exact ⟨(Below.refl _ _).alloc (Nat.le_refl _) _, by simp, hr.congr (fun i _ => by simp [fcells])⟩
theorem CopF.put {w wr w2 : World} {l : List PFault} {k : Nat} (h : CopF w wr l k) (hk : k < l.length) (hb : Below wr.heap.size wr w2) :
    CopF w (((w2.setCell ⟨w.heap.size, k * 3, none⟩ (.int .i64 (l[k]).pos)).setCell ⟨w.heap.size, k * 3 + 1, none⟩ (.int .i64 (l[k]).keep)).setCell ⟨w.heap.size, k * 3 + 2, none⟩ (.int .i64 (l[k]).cut)) l (k + 1) := by
  have hsz := h.size
  have htl : (l.take k).length = k := by simp; omega
  have hwl := fcells_len (l.take k)
  have hs2 := hb.size
  refine ⟨(((h.below.trans (hb.mono h.below.size)).setCell (Nat.le_refl _) _).setCell (Nat.le_refl _) _).setCell (Nat.le_refl _) _, by simp; omega, ((((rowIsBelow h.row hb).set _ _).set _ _).set _ _).congr (fun i hi => ?_)⟩
  rw [take_one hk, fcells_push]
  by_cases e : i < k * 3
  · rw [if_neg (by omega), if_neg (by omega), if_neg (by omega), List.getElem?_append_left (by omega)]
  by_cases e0 : i = k * 3
  · subst e0
    rw [if_neg (by omega), if_neg (by omega), if_pos rfl, List.getElem?_append_right (by omega), hwl, htl]
    simp
  by_cases e1 : i = k * 3 + 1
  · subst e1
    rw [if_neg (by omega), if_pos rfl, List.getElem?_append_right (by omega), hwl, htl]
    simp
  by_cases e2 : i = k * 3 + 2
  · subst e2
    rw [if_pos rfl, List.getElem?_append_right (by omega), hwl, htl]
    simp
  rw [if_neg e2, if_neg e1, if_neg e0, List.getElem?_eq_none (by omega), List.getElem?_eq_none (by simp; omega)]

set_option maxHeartbeats 2000000 in
theorem toFaultS_any (a : Option Addr) (cap : Nat) (l : List PFault) (w : World) (h : FView w a cap l) (hn : l.length ≤ 1048576) :
    Calls Try.prog 23 #[.slice a l.length cap] w fun e w' => e = .returned (.slice (some ⟨w.heap.size, 0, none⟩) l.length l.length) ∧ Below w.heap.size w w' ∧ w.heap.size < w'.heap.size ∧ RL 63 w' w.heap.size (some ⟨w.heap.size, 0, none⟩) (fcells l) := by
  have hmk := fun W => makeFaults l.length hn W
  go_enter Try.func23, Try.ntmps23
  go_wp2
  clear hmk
  go_loopg [4] l.length (fun q i wr => ∃ (k : Nat), k ≤ l.length ∧ q = l.length - k ∧ i = .int .i64 k ∧ CopF w wr l k)
  case atStart => exact ⟨0, Nat.zero_le _, rfl, rfl, copF_start w l⟩
  case round =>
    obtain ⟨k, hk, rfl, rfl, hC⟩ := hrel
    by_cases hlt : k < l.length
    · obtain ⟨b1, o1, rfl, hb1, x0, x1, x2⟩ := fview_at (fview_below h hC.below) hlt
      have hkz : (k : Int) < (l.length : Int) := by omega
      have HC : Hid (CopF w wr l k) := hC
      have hsz := hC.size
      clear h hC
      obtain ⟨p0, hp0⟩ := hidEx (l[k]).pos
      obtain ⟨p1, hp1⟩ := hidEx (l[k]).keep
      obtain ⟨p2, hp2⟩ := hidEx (l[k]).cut
      rw [hp0.out] at x0
      rw [hp1.out] at x1
      rw [hp2.out] at x2
      have hV := toFault_any p0 p1 p2 wr
      go_wp2_with fail
      refine hV.mono ?_
      rintro e w2 ⟨rfl, hb2⟩
      have hcp := HC.out.put hlt hb2
      rw [hp0.out, hp1.out, hp2.out] at hcp
      have hrow := rowIsBelow HC.out.row hb2
      have z0 := hrow.cell (i := k * 3) (by omega)
      have f0 := hrow.frozen (k * 3)
      have z1 := hrow.cell (i := k * 3 + 1) (by omega)
      have f1 := hrow.frozen (k * 3 + 1)
      have z2 := hrow.cell (i := k * 3 + 2) (by omega)
      have f2 := hrow.frozen (k * 3 + 2)
      have hS : Hid (CopF w (((w2.setCell ⟨w.heap.size, k * 3, none⟩ (.int .i64 p0)).setCell ⟨w.heap.size, k * 3 + 1, none⟩ (.int .i64 p1)).setCell ⟨w.heap.size, k * 3 + 2, none⟩ (.int .i64 p2)) l (k + 1)) := hcp
      clear hcp hrow hb2 hV x0 x1 x2 HC
      go_wp2
      go_roundg (l.length - (k + 1))
      case measure => omega
      case rel => exact ⟨k + 1, by omega, rfl, by go_num, hS.out⟩
    · have hkn : k = l.length := by omega
      have hkz : ¬ (k : Int) < (l.length : Int) := by omega
      have hS : Hid (CopF w wr l k) := hC
      clear hC h
      go_wp2
      go_ret
      have hC := hS.out
      have hrow := hC.row
      rw [hkn, List.take_length] at hrow
      refine ⟨rfl, hC.below, hC.size, RL.ofIs hrow (Nat.le_refl _) (fun i u hi => ?_)⟩
      have := (List.getElem?_eq_some_iff.1 hi).1
      rw [fcells_len] at this
      exact ⟨by omega, by simp [hi]⟩

/-- The three variables of toDisk: what came in, the answer, the new one. -/
structure TD (w W : World) (xs zs ys : List Value) : Prop where
  below : Below w.heap.size w W
  size : w.heap.size + 3 ≤ W.heap.size
  a : VN W w.heap.size 26 xs
  r : VN W (w.heap.size + 1) 31 zs
  o : VN W (w.heap.size + 1 + 1) 31 ys
theorem td_new (w : World) (xs zs ys : List Value) : TD w (((w.alloc (.cells ⟨xs⟩ 26)).alloc (.cells ⟨zs⟩ 31)).alloc (.cells ⟨ys⟩ 31)) xs zs ys := by
  have V0 := VN.new w 26 xs
  have V1 := VN.new (w.alloc (.cells ⟨xs⟩ 26)) 31 zs
  have V2 := VN.new ((w.alloc (.cells ⟨xs⟩ 26)).alloc (.cells ⟨zs⟩ 31)) 31 ys
  simp only [alloc_sizeK] at V1 V2
  refine ⟨(((Below.refl _ _).alloc (Nat.le_refl _) _).alloc (by simp) _).alloc (by simp; omega) _, by simp, (V0.below ((Below.refl _ _).alloc (Nat.le_refl _) _)).below ((Below.refl _ _).alloc (Nat.le_refl _) _), V1.below ((Below.refl _ _).alloc (Nat.le_refl _) _), V2⟩
theorem TD.on {w W W' : World} {xs zs ys : List Value} (h : TD w W xs zs ys) (hb : Below W.heap.size W W') : TD w W' xs zs ys :=
  ⟨h.below.trans (hb.mono h.below.size), Nat.le_trans h.size hb.size, h.a.below hb, h.r.below hb, h.o.below hb⟩
theorem TD.set {w W : World} {xs zs ys : List Value} (h : TD w W xs zs ys) (i : Nat) (u : Value) : TD w (W.setCell ⟨w.heap.size + 1 + 1, i, none⟩ u) xs zs (ys.set i u) :=
  ⟨h.below.setCell (p := ⟨w.heap.size + 1 + 1, i, none⟩) (by simp; omega) _, by simpa using h.size, h.a.other (by omega), h.r.other (by omega), h.o.set i u⟩
theorem TD.ret {w W : World} {xs zs ys : List Value} (h : TD w W xs zs ys) (i : Nat) (u : Value) : TD w (W.setCell ⟨w.heap.size + 1, i, none⟩ u) xs (zs.set i u) ys :=
  ⟨h.below.setCell (p := ⟨w.heap.size + 1, i, none⟩) (by simp) _, by simpa using h.size, h.a.other (by omega), h.r.set i u, h.o.other (by omega)⟩
theorem TD.cells {w W : World} {x0 x1 x2 x3 x4 : Value} {zs : List Value} {y0 y1 y2 y3 y4 : Value} (h : TD w W [x0, x1, x2, x3, x4] zs [y0, y1, y2, y3, y4]) :
    (W.cell? ⟨w.heap.size, 0, none⟩ = some x0 ∧ W.cell? ⟨w.heap.size, 1, none⟩ = some x1 ∧ W.cell? ⟨w.heap.size, 2, none⟩ = some x2 ∧ W.cell? ⟨w.heap.size, 3, none⟩ = some x3 ∧ W.cell? ⟨w.heap.size, 4, none⟩ = some x4)
    ∧ (W.cell? ⟨w.heap.size + 1 + 1, 0, none⟩ = some y0 ∧ W.cell? ⟨w.heap.size + 1 + 1, 1, none⟩ = some y1 ∧ W.cell? ⟨w.heap.size + 1 + 1, 2, none⟩ = some y2 ∧ W.cell? ⟨w.heap.size + 1 + 1, 3, none⟩ = some y3 ∧ W.cell? ⟨w.heap.size + 1 + 1, 4, none⟩ = some y4)
    ∧ ∀ i, W.frozen? ⟨w.heap.size + 1 + 1, i, none⟩ = false :=
  ⟨⟨h.a.cell 0, h.a.cell 1, h.a.cell 2, h.a.cell 3, h.a.cell 4⟩, ⟨h.o.cell 0, h.o.cell 1, h.o.cell 2, h.o.cell 3, h.o.cell 4⟩, fun i => h.o.fz i⟩
theorem TD.rcells {w W : World} {xs : List Value} {y0 y1 y2 y3 y4 : Value} {ys : List Value} (h : TD w W xs [y0, y1, y2, y3, y4] ys) :
    (W.cell? ⟨w.heap.size + 1, 0, none⟩ = some y0 ∧ W.cell? ⟨w.heap.size + 1, 1, none⟩ = some y1 ∧ W.cell? ⟨w.heap.size + 1, 2, none⟩ = some y2 ∧ W.cell? ⟨w.heap.size + 1, 3, none⟩ = some y3 ∧ W.cell? ⟨w.heap.size + 1, 4, none⟩ = some y4)
    ∧ ∀ i, W.frozen? ⟨w.heap.size + 1, i, none⟩ = false :=
  ⟨⟨h.r.cell 0, h.r.cell 1, h.r.cell 2, h.r.cell 3, h.r.cell 4⟩, fun i => h.r.fz i⟩

set_option maxHeartbeats 4000000 in
theorem toDisk_any (v : Value) (D : PDisk) (w : World) (h : KView w v D) (hf : KFine D) :
    Calls Try.prog 8 #[v] w fun e w' => ∃ v', e = .returned v' ∧ KOwn w' w.heap.size v' D ∧ Below w.heap.size w w' := by
  obtain ⟨sa, sc, ca, cc, fa, fc, rfl, hs, hc, hfv⟩ := h.is
  clear h
  have T0 := td_new w [.slice sa D.secs.length sc, .slice ca D.cache.length cc, .int .i64 D.ops, .slice fa D.faults.length fc, .bool D.down] [.slice none 0 0, .slice none 0 0, .int .i64 0, .slice none 0 0, .bool false] [.slice none 0 0, .slice none 0 0, .int .i64 0, .slice none 0 0, .bool false]
  obtain ⟨W0, hW0⟩ := hidEx (((w.alloc (.cells #[.slice sa D.secs.length sc, .slice ca D.cache.length cc, .int .i64 D.ops, .slice fa D.faults.length fc, .bool D.down] 26)).alloc (.cells #[.slice none 0 0, .slice none 0 0, .int .i64 0, .slice none 0 0, .bool false] 31)).alloc (.cells #[.slice none 0 0, .slice none 0 0, .int .i64 0, .slice none 0 0, .bool false] 31))
  have hz : W0.heap.size = w.heap.size + 1 + 1 + 1 := by rw [← hW0.out]; simp
  rw [hW0.out] at T0
  have hS := toByteSS_any sa sc D.secs W0 (sview_below hs T0.below) hf.ns (fun i h => hf.sec _ (List.getElem_mem h))
  obtain ⟨⟨x0, x1, x2, x3, x4⟩, ⟨y0, y1, y2, y3, y4⟩, q⟩ := T0.cells
  have HH : Hid (SView w sa sc D.secs ∧ WView w ca cc D.cache ∧ FView w fa fc D.faults ∧ KFine D) := ⟨hs, hc, hfv, hf⟩
  clear hs hc hfv hf
  go_enter Try.func8, Try.ntmps8
  go_wp2_with (rw [hW0.out])
  refine hS.mono ?_
  rintro e W1 ⟨rfl, hb1, hlt1, ss, hss, R1, B1⟩
  rw [hz] at R1 B1 hlt1 ⊢
  have T1 := T0.on hb1
  clear T0 hS hb1 x0 x1 x2 x3 x4 y0 y1 y2 y3 y4 q
  obtain ⟨⟨x0, x1, x2, x3, x4⟩, ⟨y0, y1, y2, y3, y4⟩, q⟩ := T1.cells
  have q0 := q 0
  have T2 := T1.set 0 (.slice (some ⟨w.heap.size + 1 + 1 + 1, 0, none⟩) D.secs.length D.secs.length)
  have U2 : Up (w.heap.size + 1 + 1 + 1) W1 (W1.setCell ⟨w.heap.size + 1 + 1, 0, none⟩ (.slice (some ⟨w.heap.size + 1 + 1 + 1, 0, none⟩) D.secs.length D.secs.length)) := Up.set (by omega)
  obtain ⟨W2, hW2⟩ := hidEx (W1.setCell ⟨w.heap.size + 1 + 1, 0, none⟩ (.slice (some ⟨w.heap.size + 1 + 1 + 1, 0, none⟩) D.secs.length D.secs.length))
  rw [hW2.out] at T2 U2
  simp only [List.set] at T2
  have R2 := R1.up U2
  have B2 := B1.up U2
  obtain ⟨⟨u0, u1, u2, u3, u4⟩, ⟨t0, t1, t2, t3, t4⟩, q'⟩ := T2.cells
  clear R1 B1 U2 T1 q
  have hS := toWriteS_any ca cc D.cache W2 (wview_below HH.out.2.1 T2.below) HH.out.2.2.2.nc (fun i h => HH.out.2.2.2.cache _ (List.getElem_mem h))
  go_wp2_with (rw [hW2.out])
  refine hS.mono ?_
  rintro e W3 ⟨rfl, hb3, hlt3, cs, hcs, C3, D3⟩
  obtain ⟨g2, hg2⟩ := hidEx W2.heap.size
  have hg2s : w.heap.size + 1 + 1 + 1 ≤ g2 := by rw [← hg2.out]; exact T2.size
  have HLT : Hid (∀ v, v ∈ ss → ∀ g, v.ownBlock = some g → g < g2) := fun v hv g hg => by rw [← hg2.out]; exact (B2.lt v hv g hg).2
  have T3 := T2.on hb3
  have R3 := R2.up (Up.ofBelow hb3)
  have B3 := B2.up (Up.ofBelow hb3)
  rw [hg2.out] at C3 D3 hlt3 ⊢
  clear T2 hS hb3 x0 x1 x2 x3 x4 y0 y1 y2 y3 y4 u0 u1 u2 u3 u4 t0 t1 t2 t3 t4 q' q0 R2 B2
  obtain ⟨⟨x0, x1, x2, x3, x4⟩, ⟨y0, y1, y2, y3, y4⟩, q⟩ := T3.cells
  have q1 := q 1
  have T4 := (T3.set 1 (.slice (some ⟨g2, 0, none⟩) D.cache.length D.cache.length))
  have U4 : Up (w.heap.size + 1 + 1 + 1) W3 (W3.setCell ⟨w.heap.size + 1 + 1, 1, none⟩ (.slice (some ⟨g2, 0, none⟩) D.cache.length D.cache.length)) := Up.set (by omega)
  have U4' : Up g2 W3 (W3.setCell ⟨w.heap.size + 1 + 1, 1, none⟩ (.slice (some ⟨g2, 0, none⟩) D.cache.length D.cache.length)) := Up.set (by omega)
  obtain ⟨W4, hW4⟩ := hidEx (W3.setCell ⟨w.heap.size + 1 + 1, 1, none⟩ (.slice (some ⟨g2, 0, none⟩) D.cache.length D.cache.length))
  rw [hW4.out] at T4 U4 U4'
  simp only [List.set] at T4
  have R4 := R3.up U4
  have B4 := B3.up U4
  have C4 := C3.up U4'
  have D4 := D3.up U4'
  clear R3 B3 C3 D3 U4 U4' T3 q
  obtain ⟨⟨u0, u1, u2, u3, u4⟩, ⟨t0, t1, t2, t3, t4⟩, q'⟩ := T4.cells
  have q2 := q' 2
  have T5 := (T4.set 2 (.int .i64 D.ops))
  have U5 : Up (w.heap.size + 1 + 1 + 1) W4 (W4.setCell ⟨w.heap.size + 1 + 1, 2, none⟩ (.int .i64 D.ops)) := Up.set (by omega)
  have U5' : Up g2 W4 (W4.setCell ⟨w.heap.size + 1 + 1, 2, none⟩ (.int .i64 D.ops)) := Up.set (by omega)
  obtain ⟨W5, hW5⟩ := hidEx (W4.setCell ⟨w.heap.size + 1 + 1, 2, none⟩ (.int .i64 D.ops))
  rw [hW5.out] at T5 U5 U5'
  simp only [List.set] at T5
  have R5 := R4.up U5
  have B5 := B4.up U5
  have C5 := C4.up U5'
  have D5 := D4.up U5'
  clear R4 B4 C4 D4 U5 U5' T4 q'
  obtain ⟨⟨k0, k1, k2, k3, k4⟩, ⟨l0, l1, l2, l3, l4⟩, q'⟩ := T5.cells
  have hS := toFaultS_any fa fc D.faults W5 (fview_below HH.out.2.2.1 T5.below) HH.out.2.2.2.nf
  go_wp2_with (first | rw [hW4.out] | rw [hW5.out])
  refine hS.mono ?_
  rintro e W6 ⟨rfl, hb6, hlt6, F6⟩
  obtain ⟨g5, hg5⟩ := hidEx W5.heap.size
  have hg5s : w.heap.size + 1 + 1 + 1 ≤ g5 := by rw [← hg5.out]; exact T5.size
  have T6 := T5.on hb6
  have R6 := R5.up (Up.ofBelow hb6)
  have B6 := B5.up (Up.ofBelow hb6)
  have C6 := C5.up (Up.ofBelow hb6)
  have D6 := D5.up (Up.ofBelow hb6)
  rw [hg5.out] at F6 hlt6 ⊢
  clear T5 hS hb6 x0 x1 x2 x3 x4 y0 y1 y2 y3 y4 u0 u1 u2 u3 u4 t0 t1 t2 t3 t4 q' q1 q2 R5 B5 C5 D5 k0 k1 k2 k3 k4 l0 l1 l2 l3 l4
  obtain ⟨⟨x0, x1, x2, x3, x4⟩, ⟨y0, y1, y2, y3, y4⟩, q⟩ := T6.cells
  have q3 := q 3
  have T7 := T6.set 3 (.slice (some ⟨g5, 0, none⟩) D.faults.length D.faults.length)
  obtain ⟨W7, hW7⟩ := hidEx (W6.setCell ⟨w.heap.size + 1 + 1, 3, none⟩ (.slice (some ⟨g5, 0, none⟩) D.faults.length D.faults.length))
  rw [hW7.out] at T7
  simp only [List.set] at T7
  obtain ⟨⟨u0, u1, u2, u3, u4⟩, ⟨t0, t1, t2, t3, t4⟩, q'⟩ := T7.cells
  have q4 := q' 4
  have T8 := T7.set 4 (.bool D.down)
  obtain ⟨W8, hW8⟩ := hidEx (W7.setCell ⟨w.heap.size + 1 + 1, 4, none⟩ (.bool D.down))
  rw [hW8.out] at T8
  simp only [List.set] at T8
  obtain ⟨-, ⟨k0, k1, k2, k3, k4⟩, -⟩ := T8.cells
  obtain ⟨⟨l0, l1, l2, l3, l4⟩, qr⟩ := T8.rcells
  have r0 := qr 0
  have r1 := qr 1
  have r2 := qr 2
  have r3 := qr 3
  have r4 := qr 4
  have T9 := ((((T8.ret 0 (.slice (some ⟨w.heap.size + 1 + 1 + 1, 0, none⟩) D.secs.length D.secs.length)).ret 1 (.slice (some ⟨g2, 0, none⟩) D.cache.length D.cache.length)).ret 2 (.int .i64 D.ops)).ret 3 (.slice (some ⟨g5, 0, none⟩) D.faults.length D.faults.length)).ret 4 (.bool D.down)
  simp only [List.set] at T9
  obtain ⟨⟨m0, m1, m2, m3, m4⟩, -⟩ := T9.rcells
  have UB : ∀ X, w.heap.size + 1 + 1 < X → Up X W6 (((((W8.setCell ⟨w.heap.size + 1, 0, none⟩ (.slice (some ⟨w.heap.size + 1 + 1 + 1, 0, none⟩) D.secs.length D.secs.length)).setCell ⟨w.heap.size + 1, 1, none⟩ (.slice (some ⟨g2, 0, none⟩) D.cache.length D.cache.length)).setCell ⟨w.heap.size + 1, 2, none⟩ (.int .i64 D.ops)).setCell ⟨w.heap.size + 1, 3, none⟩ (.slice (some ⟨g5, 0, none⟩) D.faults.length D.faults.length)).setCell ⟨w.heap.size + 1, 4, none⟩ (.bool D.down)) := by
    intro X hX
    rw [← hW8.out, ← hW7.out]
    exact (((((((Up.set (by omega)).trans (Up.set (by omega))).trans (Up.set (by omega))).trans (Up.set (by omega))).trans (Up.set (by omega))).trans (Up.set (by omega))).trans (Up.set (by omega)))
  have HR : Hid (KOwn (((((W8.setCell ⟨w.heap.size + 1, 0, none⟩ (.slice (some ⟨w.heap.size + 1 + 1 + 1, 0, none⟩) D.secs.length D.secs.length)).setCell ⟨w.heap.size + 1, 1, none⟩ (.slice (some ⟨g2, 0, none⟩) D.cache.length D.cache.length)).setCell ⟨w.heap.size + 1, 2, none⟩ (.int .i64 D.ops)).setCell ⟨w.heap.size + 1, 3, none⟩ (.slice (some ⟨g5, 0, none⟩) D.faults.length D.faults.length)).setCell ⟨w.heap.size + 1, 4, none⟩ (.bool D.down)) w.heap.size (dval D (some ⟨w.heap.size + 1 + 1 + 1, 0, none⟩) D.secs.length (some ⟨g2, 0, none⟩) D.cache.length (some ⟨g5, 0, none⟩) D.faults.length) D ∧ Below w.heap.size w (((((W8.setCell ⟨w.heap.size + 1, 0, none⟩ (.slice (some ⟨w.heap.size + 1 + 1 + 1, 0, none⟩) D.secs.length D.secs.length)).setCell ⟨w.heap.size + 1, 1, none⟩ (.slice (some ⟨g2, 0, none⟩) D.cache.length D.cache.length)).setCell ⟨w.heap.size + 1, 2, none⟩ (.int .i64 D.ops)).setCell ⟨w.heap.size + 1, 3, none⟩ (.slice (some ⟨g5, 0, none⟩) D.faults.length D.faults.length)).setCell ⟨w.heap.size + 1, 4, none⟩ (.bool D.down))) := by
    refine ⟨⟨_, _, _, _, _, _, ss, cs, rfl, ⟨Nat.le_refl _, (fun e => by cases e), Nat.le_refl _, (fun e => by cases e), Nat.le_refl _, (fun e => by cases e), hss, hcs, (R6.up (UB _ (by omega))).mono (by omega), (C6.up (UB _ (by omega))).mono (by omega), (F6.up (UB _ (by omega))).mono (by omega), ?_⟩⟩, T9.below⟩
    exact ((B6.up (UB _ (by omega))).app (D6.up (UB _ (by omega))) (by omega) HLT.out).mono (by omega)
  clear T6 T7 T8 T9 R6 B6 C6 D6 F6 UB HLT HH q q' qr
  go_wp2_with (first | rw [hW7.out] | rw [hW8.out])
  refine bodyPost_ret (v := dval D (some ⟨w.heap.size + 1 + 1 + 1, 0, none⟩) D.secs.length (some ⟨g2, 0, none⟩) D.cache.length (some ⟨g5, 0, none⟩) D.faults.length) (by simp [results, Try.results8, go_sem, m0, m1, m2, m3, m4, dval]) rfl ⟨_, rfl, HR.out.1, HR.out.2⟩
end Go.Proofs.Ytagjgnephaaehaa
