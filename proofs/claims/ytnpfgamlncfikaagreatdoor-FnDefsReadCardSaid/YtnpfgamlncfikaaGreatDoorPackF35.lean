/-
  Together: IdxText9, BuildWrite, BuildKeep
-/
import Derived.Test.YtnpfgamlncfikaaGreatDoorPackF34
import Derived.Test.YtnpfgamlncfikaaGreatDoorPackF1
import Derived.Test.YtnpfgamlncfikaaGreatDoorPackF2
import Derived.Test.YtnpfgamlncfikaaGreatDoorShelf
import Derived.Shelf.Strings.Builder1
/-
  The program's indexText.
-/
namespace Go.Proofs.YtnpfgamlncfikaaGreatDoor
open Go.RowKit
set_option maxRecDepth 4000

/-- An index's text. -/
def idxE (col : Nat → PCol) (x : PIdx) : ByteArray := (if x.uniq then (⟨#[117, 110, 105, 113, 117, 101, 32]⟩ : ByteArray) else (⟨#[105, 110, 100, 101, 120, 32]⟩ : ByteArray)) ++ x.name ++ (⟨#[32]⟩ : ByteArray) ++ partsE col x.n x.part
theorem idxT_idxE (D : PDef) (k : Nat) : idxT D (k + 1) = idxT D k ++ idxE D.col (D.idx k) := by
  rw [idxT]
  unfold idxE
  simp only [ByteArray.append_assoc]

set_option maxHeartbeats 4000000 in
theorem indexText_any (ac : Option Addr) (nc cc : Nat) (col : Nat → PCol) (x : PIdx) (a2 : Option Addr) (c2 : Nat) (w : World) (hcv : CView w ac nc cc col) (h : BView w a2 x.n c2 x.part) (h1 : 1 ≤ x.n) (h2 : x.n ≤ 2) (hnc : nc ≤ 1048576) (hin : ∀ i, i < x.n → 0 ≤ (x.part i).col ∧ (x.part i).col < nc) (hz : ∀ i, i < nc → (col i).name.size ≤ 1048576) (hxn : x.name.size ≤ 1048576) :
    Calls Tryz.prog 64 #[.slice ac nc cc, .agg #[.string x.name, .bool x.uniq, .slice a2 x.n c2]] w fun e w' => e = .returned (.string (idxE col x)) ∧ Below w.heap.size w w' := by
  have hP := fun W (hb : Below w.heap.size w W) => partsText_any ac nc cc col a2 x.n c2 x.part W (hcv.below hb) (h.below hb) h1 h2 hnc hin hz
  have hpz := partsE_size (B := 1048576) (col := col) (f := x.part) (n := x.n) (fun i hi => hz _ (by have := hin i hi; omega)) h2
  have HN : Hid (idxE col x = (if x.uniq then (⟨#[117, 110, 105, 113, 117, 101, 32]⟩ : ByteArray) else (⟨#[105, 110, 100, 101, 120, 32]⟩ : ByteArray)) ++ x.name ++ (⟨#[32]⟩ : ByteArray) ++ partsE col x.n x.part) := rfl
  clear hcv h h1 h2 hin hz
  obtain ⟨z, hzz⟩ : ∃ z, Hid (idxE col x = z) := ⟨_, rfl⟩
  rw [hzz.out] at HN ⊢
  clear hzz
  generalize partsE col x.n x.part = q at *
  obtain ⟨s0, u, n2, pp⟩ := x
  simp only at *
  have hb0 : Below w.heap.size w (w.alloc (.cells #[.string s0, .bool u, .slice a2 n2 c2] 73)) := (Below.refl _ _).alloc (Nat.le_refl _) _
  have hs0 : w.heap.size < (w.alloc (.cells #[.string s0, .bool u, .slice a2 n2 c2] 73)).heap.size := by simp
  have x0 : (w.alloc (.cells #[.string s0, .bool u, .slice a2 n2 c2] 73)).cell? ⟨w.heap.size, 0, none⟩ = some (.string s0) := by simp
  have x1 : (w.alloc (.cells #[.string s0, .bool u, .slice a2 n2 c2] 73)).cell? ⟨w.heap.size, 1, none⟩ = some (.bool u) := by simp [go_sem]
  have x2 : (w.alloc (.cells #[.string s0, .bool u, .slice a2 n2 c2] 73)).cell? ⟨w.heap.size, 2, none⟩ = some (.slice a2 n2 c2) := by simp [go_sem]
  have k7 : (⟨#[117, 110, 105, 113, 117, 101, 32]⟩ : ByteArray).size = 7 := rfl
  have k6 : (⟨#[105, 110, 100, 101, 120, 32]⟩ : ByteArray).size = 6 := rfl
  have k1 : (⟨#[32]⟩ : ByteArray).size = 1 := rfl
  cases u with
  | true =>
    have HZ : Hid (z = (⟨#[117, 110, 105, 113, 117, 101, 32]⟩ : ByteArray) ++ s0 ++ (⟨#[32]⟩ : ByteArray) ++ q) := HN.out
    have t1 : ¬ (7 + s0.size > 9223372036854775807) := by omega
    have t2 : ((⟨#[117, 110, 105, 113, 117, 101, 32]⟩ : ByteArray) ++ s0).size = 7 + s0.size := by rw [ByteArray.size_append]; rfl
    have t3 : ¬ (7 + s0.size + 1 > 9223372036854775807) := by omega
    have t4 : ((⟨#[117, 110, 105, 113, 117, 101, 32]⟩ : ByteArray) ++ s0 ++ (⟨#[32]⟩ : ByteArray)).size = 7 + s0.size + 1 := by rw [ByteArray.size_append, t2]; rfl
    have t5 : ¬ (7 + s0.size + 1 + q.size > 9223372036854775807) := by omega
    clear HN
    go_enter Tryz.func64, Tryz.ntmps64
    go_wp2_with fail
    obtain ⟨w0, hw0⟩ : ∃ w0, Hid (w0 = w.alloc (.cells #[.string s0, .bool true, .slice a2 n2 c2] 73)) := ⟨_, rfl⟩
    rw [← hw0.out] at hb0 hs0 x0 x1 x2 ⊢
    have HWK : Hid (∀ W, Below w0.heap.size w0 W → W.cell? ⟨w.heap.size, 0, none⟩ = some (.string s0) ∧ W.cell? ⟨w.heap.size, 1, none⟩ = some (.bool true) ∧ W.cell? ⟨w.heap.size, 2, none⟩ = some (.slice a2 n2 c2)) := by
      intro W hb
      refine ⟨?_, ?_, ?_⟩ <;> (rw [hb.cell hs0]; assumption)
    have HP : Hid (∀ W, Below w0.heap.size w0 W → Below w.heap.size w W) := fun W hb => hb0.trans (hb.mono hb0.size)
    clear hb0
    go_region_held3 (fun WW => WW.cell? ⟨w.heap.size, 0, none⟩ = some (.string s0) ∧ WW.cell? ⟨w.heap.size, 1, none⟩ = some (.bool true) ∧ WW.cell? ⟨w.heap.size, 2, none⟩ = some (.slice a2 n2 c2)) (first | assumption | go_keep) (first | (go_at_call 63; refine (hP _ (HP.out _ (by repeat (first | exact Below.refl _ _ | refine Below.drew ?_)))).mono ?_; rintro e w2 ⟨rfl, hB2⟩; have hcells : w2.cell? ⟨w.heap.size, 0, none⟩ = some (.string s0) ∧ w2.cell? ⟨w.heap.size, 1, none⟩ = some (.bool true) ∧ w2.cell? ⟨w.heap.size, 2, none⟩ = some (.slice a2 n2 c2) := HWK.out _ (Below.trans (by repeat (first | exact Below.refl _ _ | refine Below.drew ?_)) hB2)))
    all_goals
      have HR : Hid (Below w.heap.size w w2) := HP.out _ (Below.trans (by repeat (first | exact Below.refl _ _ | refine Below.drew ?_)) hB2)
      clear hcells HWK HP hP hB2
      go_wp2
      go_ret
      exact ⟨by rw [HZ.out]; rfl, by first | exact HR.out | exact HR.out.drew⟩
  | false =>
    have HZ : Hid (z = (⟨#[105, 110, 100, 101, 120, 32]⟩ : ByteArray) ++ s0 ++ (⟨#[32]⟩ : ByteArray) ++ q) := HN.out
    have t1 : ¬ (6 + s0.size > 9223372036854775807) := by omega
    have t2 : ((⟨#[105, 110, 100, 101, 120, 32]⟩ : ByteArray) ++ s0).size = 6 + s0.size := by rw [ByteArray.size_append]; rfl
    have t3 : ¬ (6 + s0.size + 1 > 9223372036854775807) := by omega
    have t4 : ((⟨#[105, 110, 100, 101, 120, 32]⟩ : ByteArray) ++ s0 ++ (⟨#[32]⟩ : ByteArray)).size = 6 + s0.size + 1 := by rw [ByteArray.size_append, t2]; rfl
    have t5 : ¬ (6 + s0.size + 1 + q.size > 9223372036854775807) := by omega
    clear HN
    go_enter Tryz.func64, Tryz.ntmps64
    go_wp2_with fail
    obtain ⟨w0, hw0⟩ : ∃ w0, Hid (w0 = w.alloc (.cells #[.string s0, .bool false, .slice a2 n2 c2] 73)) := ⟨_, rfl⟩
    rw [← hw0.out] at hb0 hs0 x0 x1 x2 ⊢
    have HWK : Hid (∀ W, Below w0.heap.size w0 W → W.cell? ⟨w.heap.size, 0, none⟩ = some (.string s0) ∧ W.cell? ⟨w.heap.size, 1, none⟩ = some (.bool false) ∧ W.cell? ⟨w.heap.size, 2, none⟩ = some (.slice a2 n2 c2)) := by
      intro W hb
      refine ⟨?_, ?_, ?_⟩ <;> (rw [hb.cell hs0]; assumption)
    have HP : Hid (∀ W, Below w0.heap.size w0 W → Below w.heap.size w W) := fun W hb => hb0.trans (hb.mono hb0.size)
    clear hb0
    go_region_held3 (fun WW => WW.cell? ⟨w.heap.size, 0, none⟩ = some (.string s0) ∧ WW.cell? ⟨w.heap.size, 1, none⟩ = some (.bool false) ∧ WW.cell? ⟨w.heap.size, 2, none⟩ = some (.slice a2 n2 c2)) (first | assumption | go_keep) (first | (go_at_call 63; refine (hP _ (HP.out _ (by repeat (first | exact Below.refl _ _ | refine Below.drew ?_)))).mono ?_; rintro e w2 ⟨rfl, hB2⟩; have hcells : w2.cell? ⟨w.heap.size, 0, none⟩ = some (.string s0) ∧ w2.cell? ⟨w.heap.size, 1, none⟩ = some (.bool false) ∧ w2.cell? ⟨w.heap.size, 2, none⟩ = some (.slice a2 n2 c2) := HWK.out _ (Below.trans (by repeat (first | exact Below.refl _ _ | refine Below.drew ?_)) hB2)))
    all_goals
      have HR : Hid (Below w.heap.size w w2) := HP.out _ (Below.trans (by repeat (first | exact Below.refl _ _ | refine Below.drew ?_)) hB2)
      clear hcells HWK HP hP hB2
      go_wp2
      go_ret
      exact ⟨by rw [HZ.out]; rfl, by first | exact HR.out | exact HR.out.drew⟩
end Go.Proofs.YtnpfgamlncfikaaGreatDoor

/-
  A strings.Builder of the call's own: what is written comes behind what it holds.
-/
namespace Go.Proofs.YtnpfgamlncfikaaGreatDoor
open Go.RowKit
set_option maxRecDepth 4000

theorem builder_info : ∃ j, Tryz.prog.info? 54 = some j ∧ j.size = 2 := by
  have h : (Tryz.prog.info? 54).map (fun i => i.size) = some 2 := by kernel_rfl
  exact Option.map_eq_some_iff.1 h
theorem builder_lies : liesAt Tryz.prog Tryz.prog.depth 54 (2 / Tryz.prog.cellsOf 54) 0 54 1 = true := by kernel_rfl
theorem byte_info : ∃ i, Tryz.prog.info? 5 = some i ∧ i.zero = some (.int .u8 0) ∧ i.size = 1 ∧ i.bytes = 1 := by
  have h : (Tryz.prog.info? 5).map (fun i => (i.zero, i.size, i.bytes)) = some (some (.int .u8 0), 1, 1) := by kernel_rfl
  obtain ⟨i, hi, hz⟩ := Option.map_eq_some_iff.1 h
  simp only [Prod.mk.injEq] at hz
  exact ⟨i, hi, hz.1, hz.2.1, hz.2.2⟩

set_option maxHeartbeats 1000000 in
/-- copyCheck: the builder knows its own place behind it. -/
theorem copyCheck_any (B b : Nat) (bs : List Value) (w : World) (h : Lib.IsBuilder 54 5 B b bs w) :
    Calls Tryz.prog 61 #[.pointer (some ⟨b, 0, none⟩)] w fun e w' => e = .returned (.tuple #[]) ∧ Lib.BuilderAt 54 5 B b (.pointer (some ⟨b, 0, none⟩)) bs w' ∧ Below B w w' ∧ ∀ i, i ≠ b → w'.heap[i]? = w.heap[i]? := by
  obtain ⟨j, hj, hj2⟩ := builder_info
  rcases h with h | h
  · have c0 := h.cell0
    have f0 := h.frozen0
    have sh := h.shape
    have HR : Hid (Lib.BuilderAt 54 5 B b (.pointer (some ⟨b, 0, none⟩)) bs (w.setCell ⟨b, 0, none⟩ (.pointer (some ⟨b, 0, none⟩))) ∧ Below B w (w.setCell ⟨b, 0, none⟩ (.pointer (some ⟨b, 0, none⟩))) ∧ ∀ i, i ≠ b → (w.setCell ⟨b, 0, none⟩ (.pointer (some ⟨b, 0, none⟩))).heap[i]? = w.heap[i]?) := ⟨h.used _, (Below.refl B w).setCell (p := ⟨b, 0, none⟩) h.1 _, fun i hi => Below.heap_setCell _ _ _ _ hi⟩
    have q1 : (convert 52 132 (.pointer (some ⟨b, 0, none⟩))).run Tryz.prog w = .ok (.pointer (some ⟨b, 0, none⟩)) w :=
      Lib.run_to_unsafe w ⟨b, 0, none⟩ Tryz.underlying52 Tryz.underlying132 hj (by rw [hj2]; decide) sh (Nat.zero_lt_succ 1)
    have q2 : (convert 132 52 (.pointer (some ⟨b, 0, none⟩))).run Tryz.prog w = .ok (.pointer (some ⟨b, 0, none⟩)) w :=
      Lib.run_from_unsafe w ⟨b, 0, none⟩ Tryz.underlying132 Tryz.underlying52 hj sh builder_lies
    have q3 : (callFunc 99 #[.pointer (some ⟨b, 0, none⟩)]).run Tryz.prog w = _ := run_callFunc_extern (P := Tryz.prog) Tryz.func99 (by kernel_rfl) (by kernel_rfl) (by kernel_rfl) (e := Extern.AbiNoEscape.same) (by kernel_rfl) _ w
    rw [Lib.run_noEscape] at q3
    have q4 := fun W => Lib.run_neq_ptr_same W ⟨b, 0, none⟩ Tryz.underlying52 hj
    clear h sh
    go_enter Tryz.func61, Tryz.ntmps61
    go_wp2
    go_end0
    exact ⟨rfl, HR.out⟩
  · have c0 := h.cell0
    have q : (binOp .neq 52 (.pointer (some ⟨b, 0, none⟩)) (.pointer (some ⟨b, 0, none⟩))).run Tryz.prog w = .ok (.bool false) w := Lib.run_neq_ptr_same w _ Tryz.underlying52 hj
    have HR : Hid (Lib.BuilderAt 54 5 B b (.pointer (some ⟨b, 0, none⟩)) bs w) := h
    clear h
    go_enter Tryz.func61, Tryz.ntmps61
    go_wp2
    go_end0
    exact ⟨rfl, HR.out, Below.refl _ _, fun _ _ => rfl⟩

set_option maxHeartbeats 2000000 in
/-- WriteString: the text behind what is there. -/
theorem writeString_any (B b : Nat) (bs : List Value) (s : ByteArray) (w : World) (h : Lib.IsBuilder 54 5 B b bs w) (hlen : bs.length + s.size ≤ 140737488355328) (hBw : B ≤ w.heap.size) :
    Calls Tryz.prog 26 #[.pointer (some ⟨b, 0, none⟩), .string s] w fun e w' => e = .returned (.tuple #[.int .i64 s.size, .nilIface]) ∧ Lib.IsBuilder 54 5 B b (bs ++ Lib.strCells s) w' ∧ Below B w w' := by
  obtain ⟨i0, hi, hz0, hz1, hz2⟩ := byte_info
  have hC := copyCheck_any B b bs w h
  clear h
  go_enter Tryz.func26, Tryz.ntmps26
  go_wp2_with fail
  refine hC.mono ?_
  rintro e w1 ⟨rfl, hA, hb1, hk1⟩
  clear hC
  have hlt := hA.lt
  obtain ⟨hB, v, hbk, hown, hne⟩ := hA
  have c1 : w1.cell? ⟨b, 1, none⟩ = some v := by rw [Lib.cell_of_heap hbk]; rfl
  have hs1 := hb1.size
  go_wp2_with (at_builtin; refine Lib.wpList_append_own_string _ rfl (.tmp 12) (.tmp 13) 22 9 rfl B 5 i0 Tryz.underlying22 Tryz.underlying9 hi hz0 hz1 hz2 v _ _ rfl hown s rfl (by unfold maxLen; omega) (by omega) (by omega) ?_)
  intro v5 w2 hown5 hgr hnil
  have hb2 : w2.heap[b]? = some (.cells #[.pointer (some ⟨b, 0, none⟩), v] 54 (0, 0)) := by
    rw [hgr.block b hlt (fun e => hne e.symm)]
    exact hbk
  have f1 : w2.frozen? ⟨b, 1, none⟩ = false := Lib.frozen_of_heap hb2 1
  have d1 : w2.cell? ⟨b, 1, none⟩ = some v := by rw [Lib.cell_of_heap hb2]; rfl
  have HA : Hid (Lib.BuilderAt 54 5 B b (.pointer (some ⟨b, 0, none⟩)) (bs ++ Lib.strCells s) (w2.setCell ⟨b, 1, none⟩ v5) ∧ Below B w (w2.setCell ⟨b, 1, none⟩ v5)) :=
    ⟨Lib.BuilderAt.put hB hb2 (bs' := bs ++ Lib.strCells s) (by simpa [Lib.strCells_length] using hown5) (by decide), (hb1.grown hgr (by omega) (fun k hk => (hown.lt k hk).1)).setCell (p := ⟨b, 1, none⟩) hB _⟩
  obtain ⟨a', n', cap', rfl⟩ : ∃ a n' cap, v5 = .slice a n' cap := by
    rcases hown5.2 with ⟨hv, _⟩ | ⟨g, cap, cur, hv, _⟩
    · exact ⟨_, _, _, hv⟩
    · exact ⟨_, _, _, hv⟩
  clear hown hown5 hgr hnil hbk hb2 c1 hk1
  go_wp2
  go_ret2
  exact ⟨rfl, Or.inr HA.out.1, HA.out.2⟩
end Go.Proofs.YtnpfgamlncfikaaGreatDoor

/-
  A builder stays while nothing of what lay is turned.
-/
namespace Go.Proofs.YtnpfgamlncfikaaGreatDoor
open Go.RowKit
set_option maxRecDepth 4000

theorem builder_below {T e : TypeId} {B b : Nat} {bs : List Value} {w w' : World} (h : Lib.IsBuilder T e B b bs w) (hb : Below w.heap.size w w') : Lib.IsBuilder T e B b bs w' := by
  have key : ∀ p, Lib.BuilderAt T e B b p bs w → Lib.BuilderAt T e B b p bs w' := by
    intro p h
    have hlt := h.lt
    obtain ⟨hB, v, hbk, hown, hne⟩ := h
    refine ⟨hB, v, by rw [hb.block b hlt]; exact hbk, hown.kept (row := none) ⟨hb.os, hb.tape, hb.output, hb.size, fun k hk _ => hb.block k hk⟩ ?_, hne⟩
    cases hv : v.ownBlock with
    | none => exact Or.inl rfl
    | some k => exact Or.inr (fun e => by cases e)
  rcases h with h | h
  · exact Or.inl (key _ h)
  · exact Or.inr (key _ h)

end Go.Proofs.YtnpfgamlncfikaaGreatDoor

