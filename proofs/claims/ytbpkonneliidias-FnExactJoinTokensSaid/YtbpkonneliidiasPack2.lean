/-
  Together: BuildWrite, JoinImpl, LawJoinTokens, TokIn
-/
import Derived.Test.YtbpkonneliidiasPack1
import Derived.Test.YtbpkonneliidiasShelf
import Derived.Shelf.Strings.Builder1
import Derived.Deep.LoopGhost
import Derived.Deep.Strs
import Derived.ChangeSame
/-
  A strings.Builder of the call's own: what is written comes behind what it holds.
-/
namespace Go.Proofs.Ytbpkonneliidias
open Go.RowKit
set_option maxRecDepth 4000

theorem builder_info : ∃ j, Try.prog.info? 92 = some j ∧ j.size = 2 := by
  have h : (Try.prog.info? 92).map (fun i => i.size) = some 2 := by kernel_rfl
  exact Option.map_eq_some_iff.1 h
theorem builder_lies : liesAt Try.prog Try.prog.depth 92 (2 / Try.prog.cellsOf 92) 0 92 1 = true := by kernel_rfl
theorem byte_info : ∃ i, Try.prog.info? 5 = some i ∧ i.zero = some (.int .u8 0) ∧ i.size = 1 ∧ i.bytes = 1 := by
  have h : (Try.prog.info? 5).map (fun i => (i.zero, i.size, i.bytes)) = some (some (.int .u8 0), 1, 1) := by kernel_rfl
  obtain ⟨i, hi, hz⟩ := Option.map_eq_some_iff.1 h
  simp only [Prod.mk.injEq] at hz
  exact ⟨i, hi, hz.1, hz.2.1, hz.2.2⟩

set_option maxHeartbeats 1000000 in
/-- copyCheck: the builder knows its own place behind it. -/
theorem copyCheck_any (B b : Nat) (bs : List Value) (w : World) (h : Lib.IsBuilder 92 5 B b bs w) :
    Calls Try.prog 99 #[.pointer (some ⟨b, 0, none⟩)] w fun e w' => e = .returned (.tuple #[]) ∧ Lib.BuilderAt 92 5 B b (.pointer (some ⟨b, 0, none⟩)) bs w' ∧ Below B w w' ∧ ∀ i, i ≠ b → w'.heap[i]? = w.heap[i]? := by
  obtain ⟨j, hj, hj2⟩ := builder_info
  rcases h with h | h
  · have c0 := h.cell0
    have f0 := h.frozen0
    have sh := h.shape
    have HR : Hid (Lib.BuilderAt 92 5 B b (.pointer (some ⟨b, 0, none⟩)) bs (w.setCell ⟨b, 0, none⟩ (.pointer (some ⟨b, 0, none⟩))) ∧ Below B w (w.setCell ⟨b, 0, none⟩ (.pointer (some ⟨b, 0, none⟩))) ∧ ∀ i, i ≠ b → (w.setCell ⟨b, 0, none⟩ (.pointer (some ⟨b, 0, none⟩))).heap[i]? = w.heap[i]?) := ⟨h.used _, (Below.refl B w).setCell (p := ⟨b, 0, none⟩) h.1 _, fun i hi => Below.heap_setCell _ _ _ _ hi⟩
    have q1 : (convert 90 123 (.pointer (some ⟨b, 0, none⟩))).run Try.prog w = .ok (.pointer (some ⟨b, 0, none⟩)) w :=
      Lib.run_to_unsafe w ⟨b, 0, none⟩ Try.underlying90 Try.underlying123 hj (by rw [hj2]; decide) sh (Nat.zero_lt_succ 1)
    have q2 : (convert 123 90 (.pointer (some ⟨b, 0, none⟩))).run Try.prog w = .ok (.pointer (some ⟨b, 0, none⟩)) w :=
      Lib.run_from_unsafe w ⟨b, 0, none⟩ Try.underlying123 Try.underlying90 hj sh builder_lies
    have q3 : (callFunc 110 #[.pointer (some ⟨b, 0, none⟩)]).run Try.prog w = _ := run_callFunc_extern (P := Try.prog) Try.func110 (by kernel_rfl) (by kernel_rfl) (by kernel_rfl) (e := Extern.AbiNoEscape.same) (by kernel_rfl) _ w
    rw [Lib.run_noEscape] at q3
    have q4 := fun W => Lib.run_neq_ptr_same W ⟨b, 0, none⟩ Try.underlying90 hj
    clear h sh
    go_enter Try.func99, Try.ntmps99
    go_wp2
    go_end0
    exact ⟨rfl, HR.out⟩
  · have c0 := h.cell0
    have q : (binOp .neq 90 (.pointer (some ⟨b, 0, none⟩)) (.pointer (some ⟨b, 0, none⟩))).run Try.prog w = .ok (.bool false) w := Lib.run_neq_ptr_same w _ Try.underlying90 hj
    have HR : Hid (Lib.BuilderAt 92 5 B b (.pointer (some ⟨b, 0, none⟩)) bs w) := h
    clear h
    go_enter Try.func99, Try.ntmps99
    go_wp2
    go_end0
    exact ⟨rfl, HR.out, Below.refl _ _, fun _ _ => rfl⟩

set_option maxHeartbeats 2000000 in
/-- WriteByte: the byte behind what is there. -/
theorem writeByte_any (B b : Nat) (bs : List Value) (c : Int) (w : World) (h : Lib.IsBuilder 92 5 B b bs w) (hlen : bs.length + 1 ≤ 140737488355328) (hBw : B ≤ w.heap.size) :
    Calls Try.prog 75 #[.pointer (some ⟨b, 0, none⟩), .int .u8 c] w fun e w' => e = .returned .nilIface ∧ Lib.IsBuilder 92 5 B b (bs ++ [.int .u8 c]) w' ∧ Below B w w' ∧ ∀ (i : Nat) (cs : Array Value) (T : TypeId) (fr : Nat × Nat), i ≠ b → T ≠ 5 → w.heap[i]? = some (.cells cs T fr) → w'.heap[i]? = some (.cells cs T fr) := by
  obtain ⟨i0, hi, hz0, hz1, hz2⟩ := byte_info
  have hC := copyCheck_any B b bs w h
  clear h
  go_enter Try.func75, Try.ntmps75
  go_wp2_with fail
  refine hC.mono ?_
  rintro e w1 ⟨rfl, hA, hb1, hk1⟩
  clear hC
  have hlt := hA.lt
  obtain ⟨hB, v, hbk, hown, hne⟩ := hA
  have c1 : w1.cell? ⟨b, 1, none⟩ = some v := by rw [Lib.cell_of_heap hbk]; rfl
  have hs1 := hb1.size
  have hcl : ∀ j u, [Value.int .u8 c][j]? = some u → (w1.alloc (.cells #[.int .u8 c] 5)).cell? ((⟨w1.heap.size, 0, none⟩ : Addr).add j) = some u := by
    intro j u hj
    match j, hj with
    | 0, hj => simp at hj; subst hj; simp [Addr.add]
  go_wp2_with (at_builtin; refine wpList_append_own _ rfl (.tmp 11) (.tmp 13) 34 rfl B 5 i0 (.int .u8 0) 1 1 Try.underlying34 hi hz0 hz1 hz2 rfl (by decide) v _ _ rfl (hown.alloc _) ⟨w1.heap.size, 0, none⟩ 1 1 [.int .u8 c] rfl rfl hcl (by intro u hu; simp at hu; subst hu; rfl) (by unfold maxLen; omega) (by omega) (by simp; omega) ?_)
  intro v5 w2 hown5 hgr hnil
  have hb2 : w2.heap[b]? = some (.cells #[.pointer (some ⟨b, 0, none⟩), v] 92 (0, 0)) := by
    rw [hgr.block b (by simp; omega) (fun e => hne e.symm), Lib.alloc_old w1 _ b hlt]
    exact hbk
  have f1 : w2.frozen? ⟨b, 1, none⟩ = false := Lib.frozen_of_heap hb2 1
  have d1 : w2.cell? ⟨b, 1, none⟩ = some v := by rw [Lib.cell_of_heap hb2]; rfl
  have HA : Hid (Lib.BuilderAt 92 5 B b (.pointer (some ⟨b, 0, none⟩)) (bs ++ [.int .u8 c]) (w2.setCell ⟨b, 1, none⟩ v5) ∧ Below B w (w2.setCell ⟨b, 1, none⟩ v5)) :=
    ⟨Lib.BuilderAt.put hB hb2 (bs' := bs ++ [.int .u8 c]) (by simpa using hown5) (by decide), ((hb1.alloc (by omega) _).grown hgr (by simp; omega) (fun k hk => (hown.lt k hk).1)).setCell (p := ⟨b, 1, none⟩) hB _⟩
  have HK : Hid (∀ (i : Nat) (cs : Array Value) (T : TypeId) (fr : Nat × Nat), i ≠ b → T ≠ 5 → w.heap[i]? = some (.cells cs T fr) → (w2.setCell ⟨b, 1, none⟩ v5).heap[i]? = some (.cells cs T fr)) := by
    intro i cs T fr hib hT hi
    have h1 := (hk1 i hib).trans hi
    have hlt1 : i < w1.heap.size := (Array.getElem?_eq_some_iff.1 h1).1
    rw [Below.heap_setCell _ _ _ _ hib, hgr.block i (by simp; omega) (fun e => Lib.ownBlock_ne hown h1 hT e.symm), Lib.alloc_old w1 _ i hlt1]
    exact h1
  obtain ⟨a', n', cap', rfl⟩ : ∃ a n' cap, v5 = .slice a n' cap := by
    rcases hown5.2 with ⟨hv, _⟩ | ⟨g, cap, cur, hv, _⟩
    · exact ⟨_, _, _, hv⟩
    · exact ⟨_, _, _, hv⟩
  clear hown hown5 hgr hnil hbk hb2 hcl c1 hk1
  go_wp2
  go_ret
  exact ⟨rfl, Or.inr HA.out.1, HA.out.2, HK.out⟩

set_option maxHeartbeats 2000000 in
/-- WriteString: the text behind what is there. -/
theorem writeString_any (B b : Nat) (bs : List Value) (s : ByteArray) (w : World) (h : Lib.IsBuilder 92 5 B b bs w) (hlen : bs.length + s.size ≤ 140737488355328) (hBw : B ≤ w.heap.size) :
    Calls Try.prog 76 #[.pointer (some ⟨b, 0, none⟩), .string s] w fun e w' => e = .returned (.tuple #[.int .i64 s.size, .nilIface]) ∧ Lib.IsBuilder 92 5 B b (bs ++ Lib.strCells s) w' ∧ Below B w w' := by
  obtain ⟨i0, hi, hz0, hz1, hz2⟩ := byte_info
  have hC := copyCheck_any B b bs w h
  clear h
  go_enter Try.func76, Try.ntmps76
  go_wp2_with fail
  refine hC.mono ?_
  rintro e w1 ⟨rfl, hA, hb1, hk1⟩
  clear hC
  have hlt := hA.lt
  obtain ⟨hB, v, hbk, hown, hne⟩ := hA
  have c1 : w1.cell? ⟨b, 1, none⟩ = some v := by rw [Lib.cell_of_heap hbk]; rfl
  have hs1 := hb1.size
  go_wp2_with (at_builtin; refine Lib.wpList_append_own_string _ rfl (.tmp 12) (.tmp 13) 34 9 rfl B 5 i0 Try.underlying34 Try.underlying9 hi hz0 hz1 hz2 v _ _ rfl hown s rfl (by unfold maxLen; omega) (by omega) (by omega) ?_)
  intro v5 w2 hown5 hgr hnil
  have hb2 : w2.heap[b]? = some (.cells #[.pointer (some ⟨b, 0, none⟩), v] 92 (0, 0)) := by
    rw [hgr.block b hlt (fun e => hne e.symm)]
    exact hbk
  have f1 : w2.frozen? ⟨b, 1, none⟩ = false := Lib.frozen_of_heap hb2 1
  have d1 : w2.cell? ⟨b, 1, none⟩ = some v := by rw [Lib.cell_of_heap hb2]; rfl
  have HA : Hid (Lib.BuilderAt 92 5 B b (.pointer (some ⟨b, 0, none⟩)) (bs ++ Lib.strCells s) (w2.setCell ⟨b, 1, none⟩ v5) ∧ Below B w (w2.setCell ⟨b, 1, none⟩ v5)) :=
    ⟨Lib.BuilderAt.put hB hb2 (bs' := bs ++ Lib.strCells s) (by simpa [Lib.strCells_length] using hown5) (by decide), (hb1.grown hgr (by omega) (fun k hk => (hown.lt k hk).1)).setCell (p := ⟨b, 1, none⟩) hB _⟩
  obtain ⟨a', n', cap', rfl⟩ : ∃ a n' cap, v5 = .slice a n' cap := by
    rcases hown5.2 with ⟨hv, _⟩ | ⟨g, cap, cur, hv, _⟩
    · exact ⟨_, _, _, hv⟩
    · exact ⟨_, _, _, hv⟩
  clear hown hown5 hgr hnil hbk hb2 c1 hk1
  go_wp2
  go_ret2
  exact ⟨rfl, Or.inr HA.out.1, HA.out.2⟩
end Go.Proofs.Ytbpkonneliidias

/-
  The program's JoinTokens: a builder is written, token by token.
-/
namespace Go.Proofs.Ytbpkonneliidias
open Go.RowKit
set_option maxRecDepth 4000

theorem builder_below {T e : TypeId} {B b : Nat} {bs : List Value} {w w' : World} (h : Lib.IsBuilder T e B b bs w) (hb : Below w.heap.size w w') : Lib.IsBuilder T e B b bs w' := by
  have key : ∀ p, Lib.BuilderAt T e B b p bs w → Lib.BuilderAt T e B b p bs w' := by
    intro p h
    have hlt := h.lt
    obtain ⟨hB, v, hbk, hown, hne⟩ := h
    refine ⟨hB, v, by rw [hb.block b hlt]; exact hbk, hown.kept (row := none) ⟨hb.os, hb.tape, hb.output, hb.size, fun k hk _ => hb.block k hk⟩ ?_, hne⟩
    cases hv : v.ownBlock with
    | none => exact Or.inl rfl
    | some k => exact Or.inr (fun e => by cases e)
  rcases h with h | h
  · exact Or.inl (key _ h)
  · exact Or.inr (key _ h)

set_option maxHeartbeats 2000000 in
theorem implJoin_any (a : Option Addr) (n cap : Nat) (fk : Nat → Int) (fs : Nat → ByteArray) (w : World) (h : TView w a n cap fk fs) (hn : n ≤ 1048576) (hz : ∀ i, i < n → (fs i).size ≤ 1048576) :
    Calls Try.prog 40 #[.slice a n cap] w fun e w' => e = .returned (.string (joinT fs n)) ∧ Below w.heap.size w w' := by
  have HZ : Hid (∀ k, k ≤ n → (joinT fs k).size ≤ 2199024304128) := fun k hk => by
    have := joinT_size (B := 1048576) hz k hk
    have h2 : k * (1048576 + 1) ≤ 1048576 * (1048576 + 1) := Nat.mul_le_mul_right _ (by omega)
    omega
  have HF : Hid (Lib.IsBuilder 92 5 w.heap.size w.heap.size (Lib.byteCells (joinT fs 0).data.toList) (w.alloc (.cells #[.pointer none, .slice none 0 0] 92))) := Lib.fresh_isBuilder _ _ w
  go_enter Try.func40, Try.ntmps40
  go_wp2
  go_loopg [8] n (fun q i wr => ∃ k : Nat, k ≤ n ∧ q = n - k ∧ i = .int .i64 k ∧ Hid (Lib.IsBuilder 92 5 w.heap.size w.heap.size (Lib.byteCells (joinT fs k).data.toList) wr) ∧ Below w.heap.size w wr)
  case atStart => exact ⟨0, Nat.zero_le _, rfl, rfl, HF, (Below.refl _ _).alloc (Nat.le_refl _) _⟩
  case round =>
    obtain ⟨k, hk, rfl, rfl, HB, hB⟩ := hrel
    have hs := hB.size
    by_cases hlt : k < n
    · have hkz : (k : Int) < (n : Int) := by omega
      obtain ⟨b1, o1, rfl, hb1, hc1⟩ := (h.below hB).cells (by omega)
      obtain ⟨x0, x1⟩ := hc1 k hlt
      have hzk := hz k hlt
      have hjz := HZ.out k hk
      obtain ⟨kk, hkk⟩ : ∃ kk, Hid (fk k = kk) := ⟨_, rfl⟩
      obtain ⟨p, hp⟩ : ∃ p, Hid (fs k = p) := ⟨_, rfl⟩
      rw [hkk.out] at x0
      rw [hp.out] at x1 hzk
      clear hc1 h hz
      have hA := builder_below HB.out ((Below.refl wr.heap.size wr).alloc (Nat.le_refl _) (.cells #[.int .i64 kk, .string p] 54))
      have hBA : Below w.heap.size w (wr.alloc (.cells #[.int .i64 kk, .string p] 54)) := hB.alloc hs _
      have hsA := hBA.size
      have hBlt : w.heap.size < wr.heap.size := by
        rcases HB.out with h | h
        · exact h.lt
        · exact h.lt
      have hlen : (Lib.byteCells (joinT fs k).data.toList).length = (joinT fs k).size := by rw [Lib.byteCells_length]; rfl
      by_cases h0 : 0 < k
      · have hkp : (0 : Int) < (k : Int) := by omega
        have HN : Hid (Lib.byteCells (joinT fs (k + 1)).data.toList = (Lib.byteCells (joinT fs k).data.toList ++ [.int .u8 32]) ++ Lib.strCells p) := by
          show _ = _
          rw [joinT, if_pos h0, hp.out, ByteArray.data_append, ByteArray.data_append, Array.toList_append, Array.toList_append, Lib.byteCells_append, Lib.byteCells_append, Lib.strCells_eq]
          rfl
        have hW := writeByte_any w.heap.size w.heap.size _ 32 _ hA (by rw [hlen]; omega) hsA
        have hbx := heap_alloc_new wr (.cells #[.int .i64 kk, .string p] 54)
        obtain ⟨bs, hbs⟩ : ∃ bs, Hid (Lib.byteCells (joinT fs k).data.toList = bs) := ⟨_, rfl⟩
        rw [hbs.out] at hW hlen HN
        clear hA HB
        go_wp2_with fail
        refine hW.mono ?_
        rintro e w2 ⟨rfl, hA2, hb2, hk2⟩
        have hbx2 := hk2 _ _ _ _ (by omega) (by decide) hbx
        have y1 : w2.cell? ⟨wr.heap.size, 1, none⟩ = some (.string p) := by rw [Lib.cell_of_heap hbx2]; rfl
        have hB2 := hBA.trans hb2
        have hs2 := hB2.size
        have hW2 := writeString_any w.heap.size w.heap.size _ p w2 hA2 (by rw [List.length_append, hlen]; simp; omega) hs2
        rw [← HN.out] at hW2
        clear hW hk2 hbx hbx2 hA2 hb2 hBA hB x0 x1
        go_wp2_with fail
        refine hW2.mono ?_
        rintro e w3 ⟨rfl, hA3, hb3⟩
        have HA3 : Hid (Lib.IsBuilder 92 5 w.heap.size w.heap.size (Lib.byteCells (joinT fs (k + 1)).data.toList) w3 ∧ Below w.heap.size w w3) := ⟨hA3, hB2.trans hb3⟩
        clear hW2 hA3 hb3 hB2 y1
        go_wp2
        go_roundg (n - (k + 1))
        case measure => omega
        case rel => exact ⟨k + 1, by omega, rfl, by go_num, HA3.out.1, HA3.out.2⟩
      · have hkp : ¬ (0 : Int) < (k : Int) := by omega
        have HN : Hid (Lib.byteCells (joinT fs (k + 1)).data.toList = Lib.byteCells (joinT fs k).data.toList ++ Lib.strCells p) := by
          show _ = _
          rw [joinT, if_neg h0, hp.out, ByteArray.data_append, Array.toList_append, Lib.byteCells_append, Lib.strCells_eq]
        have hW2 := writeString_any w.heap.size w.heap.size _ p _ hA (by rw [hlen]; omega) hsA
        rw [← HN.out] at hW2
        clear hA HB
        go_wp2_with fail
        refine hW2.mono ?_
        rintro e w3 ⟨rfl, hA3, hb3⟩
        have HA3 : Hid (Lib.IsBuilder 92 5 w.heap.size w.heap.size (Lib.byteCells (joinT fs (k + 1)).data.toList) w3 ∧ Below w.heap.size w w3) := ⟨hA3, hBA.trans hb3⟩
        clear hW2 hA3 hb3 hBA
        go_wp2
        go_roundg (n - (k + 1))
        case measure => omega
        case rel => exact ⟨k + 1, by omega, rfl, by go_num, HA3.out.1, HA3.out.2⟩
    · have hkz : ¬ (k : Int) < (n : Int) := by omega
      obtain rfl : k = n := by omega
      have hS := Try.Builder_String_any w.heap.size w.heap.size _ wr HB.out hs
      clear HB h
      go_wp2_with fail
      refine hS.mono ?_
      rintro e w2 ⟨rfl, hb2⟩
      have HR : Hid (Below w.heap.size w w2) := hB.trans hb2
      clear hS hb2 hB
      go_wp2
      go_ret
      exact ⟨rfl, HR.out⟩
end Go.Proofs.Ytbpkonneliidias

/-
  The law FnExactJoinTokens, walked.
-/
namespace Go.Proofs.Ytbpkonneliidias
open Go.RowKit
set_option maxRecDepth 4000

theorem neStr_runJ (s : ByteArray) (W : World) : (binOp .neq 9 (.string s) (.string s)).run Try.prog W = .ok (.bool false) W := by
  simp [go_sem, binOp, Op.stringOp]

set_option maxHeartbeats 2000000 in
theorem lawJoinTokens (a : Option Addr) (n cap : Nat) (fk : Nat → Int) (fs : Nat → ByteArray) (w : World) (h : TView w a n cap fk fs) (hM : n ≤ maxLen) (hz : ∀ i, i < n → (fs i).size ≤ maxLen) :
    Calls Try.prog 8 #[.slice a n cap] w fun e w' => e = .returned (.bool true) ∧ Below w.heap.size w w' := by
  have q2 := neStr_runJ (joinT fs n)
  go_enter Try.func8, Try.ntmps8
  go_wp2_with fail
  refine (szTokenS_fine a n cap fk fs 1048576 w h hM hz (by omega) (by omega)).mono ?_
  rintro e w1 ⟨L, rfl, hB1, hL⟩
  rcases hL with rfl | ⟨hL0, hL1, hfew⟩
  · clear h
    go_wp2
    go_ret
    exact ⟨rfl, hB1⟩
  have hLn : ¬ L < 0 := by omega
  have hn : n ≤ 1048576 := by omega
  have HF : Hid (∀ i, i < n → (fs i).size ≤ 1048576) := hfew
  have h1 := h.below hB1
  clear hfew hz hM
  go_wp2_with fail
  refine (toTokenS_any a n cap fk fs w1 h1 hn).mono ?_
  rintro e w2 ⟨rfl, hT2, hb2⟩
  have hB2 := hB1.trans (hb2.mono hB1.size)
  have hP := specJoin_any _ n n fk fs w2 hT2 hn HF.out
  obtain ⟨J, hJ⟩ : ∃ J, Hid (joinT fs n = J) := ⟨_, rfl⟩
  rw [hJ.out] at hP q2
  clear h1 hb2 hB1 hT2
  go_wp2_with fail
  refine hP.mono ?_
  rintro e _ ⟨rfl, rfl⟩
  clear hP
  go_wp2_with fail
  refine (toTokenS_any a n cap fk fs w2 (h.below hB2) hn).mono ?_
  rintro e w3 ⟨rfl, hT3, hb3⟩
  have hB3 := hB2.trans (hb3.mono hB2.size)
  have hI := implJoin_any _ n n fk fs w3 hT3 hn HF.out
  rw [hJ.out] at hI
  obtain ⟨X, hX⟩ : ∃ X, Hid (w2.heap.size = X) := ⟨_, rfl⟩
  rw [hX.out] at hT3 hI ⊢
  clear hb3 hB2
  go_wp2_with fail
  refine hI.mono ?_
  rintro e w4 ⟨rfl, hb4⟩
  have hT4 := hT3.below hb4
  have hB4 := hB3.trans (hb4.mono hB3.size)
  clear hI hT3 hb4 hB3
  go_wp2_with fail
  refine (toTokenS_any a n cap fk fs w4 (h.below hB4) hn).mono ?_
  rintro e w5 ⟨rfl, hT5, hb5⟩
  have hT6 := hT4.below hb5
  have hB5 := hB4.trans (hb5.mono hB4.size)
  clear hT4 hb5 hB4 h
  go_wp2_with fail
  refine (eqTokenS_same _ _ n n n fk fs w5 hT6 hT5 (by omega)).mono ?_
  rintro e w6 ⟨rfl, hb6⟩
  have HB : Hid (Below w.heap.size w w6) := hB5.trans (hb6.mono hB5.size)
  clear hT5 hT6 hb6 hB5
  go_wp2
  go_ret
  exact ⟨rfl, HB.out⟩
end Go.Proofs.Ytbpkonneliidias

/-
  What the frame of a row hands over of a slice of tokens that came in.
-/
namespace Go.Proofs.Ytbpkonneliidias
open Go.RowKit
set_option maxRecDepth 4000
open Go.Deep Go.ChangeShapes

/-- What the frame of a row hands over of a slice of tokens that came in. -/
theorem toksIn {H : Type} {enc : TypeId × Value → H} {W : World} {sp : Nat → Bool} {a : Option Addr} {len cap : Nat} {d : DataW H} {p : List MemPlace} {T : TypeId}
    (ht : Try.prog.underlying T = some (.slice 51)) (h : DataW.Trod enc Try.prog W 0 sp true T (.slice a len cap) d p) :
    ∃ fk fs, TView W a len cap fk fs ∧ (∀ i, i < len → (fs i).size ≤ maxLen) ∧ cap ≤ maxLen := by
  obtain ⟨fuel, hf⟩ := h
  have c3 : Try.prog.cellsOf 51 = 2 := by kernel_rfl
  rcases DataW.trod_slice ht hf with ⟨hcs, _⟩ | ⟨x, l, c, elems, rest, n, _, hcs, _, _, hl, hm, hlen, hel, _, _⟩
  · simp [Value.cells] at hcs
    obtain ⟨rfl, rfl, rfl⟩ := hcs
    exact ⟨fun _ => 0, fun _ => ⟨#[]⟩, ⟨Nat.le_refl _, fun h => absurd h (Nat.lt_irrefl _)⟩, fun i hi => absurd hi (Nat.not_lt_zero _), Nat.zero_le _⟩
  · simp [Value.cells] at hcs
    obtain ⟨rfl, rfl, rfl⟩ := hcs
    have each : ∀ i, i < len → ∃ (k : Int) (s : ByteArray), W.cell? (x.add (i * 2)) = some (.int .i64 k) ∧ W.cell? ((x.add (i * 2)).add 1) = some (.string s) ∧ s.size ≤ maxLen := by
      intro i hi
      have h1 := hel i hi
      rw [c3] at h1
      have h2 : elems[i]? = some elems[i] := List.getElem?_eq_getElem (by omega)
      rw [h2] at h1
      obtain ⟨cs, hcs, htr⟩ := Option.bind_eq_some_iff.1 h1
      obtain ⟨_, hl3, hcell⟩ := World.cells?_some hcs
      obtain ⟨y0, y1, m, _, _, t0, t1⟩ := trod_struct2 Try.underlying51 htr
      have o1 : Try.prog.cellsOf 3 = 1 := by kernel_rfl
      have o2 : Try.prog.cellsOf 9 = 1 := by kernel_rfl
      simp only [o1, o2] at t0 t1
      match cs, hl3 with
      | [c0, c1], _ =>
        simp only [List.drop_zero, List.drop_succ_cons, List.take_succ_cons, List.take_zero] at t0 t1
        obtain ⟨k, e0, _, _⟩ := DataW.trod_int Try.underlying3 t0
        obtain ⟨s, e1, _, hs⟩ := DataW.trod_string Try.underlying9 t1
        simp only [List.cons.injEq, and_true] at e0 e1
        subst e0 e1
        refine ⟨k, s, ?_, ?_, hs⟩
        · have := hcell 0 (by omega)
          simpa [Addr.add] using this
        · exact hcell 1 (by omega)
    refine ⟨fun i => if h : i < len then (each i h).choose else 0, fun i => if h : i < len then (each i h).choose_spec.choose else ⟨#[]⟩, ⟨hl, fun hn => ?_⟩, fun i hi => ?_, hm⟩
    · obtain ⟨b, off, spot⟩ := x
      obtain ⟨k0, s0, h0, _⟩ := each 0 hn
      have hs : spot = none := by simpa [Addr.add] using World.cell?_spot h0
      subst hs
      refine ⟨b, off, rfl, World.block_lt_of_cell? _ _ h0, fun i hi => ?_⟩
      have hsp := (each i hi).choose_spec.choose_spec
      have ea : (⟨b, off, none⟩ : Addr).add (i * 2) = ⟨b, off + i * 2, none⟩ := by unfold Addr.add; split <;> simp_all
      have eb : ∀ j, (⟨b, off + i * 2, none⟩ : Addr).add j = ⟨b, off + i * 2 + j, none⟩ := fun j => by unfold Addr.add; split <;> simp_all
      have e1 : (⟨b, off + i * 2 + 1, none⟩ : Addr) = ((⟨b, off, none⟩ : Addr).add (i * 2)).add 1 := by rw [ea, eb]
      simp only [dif_pos hi]
      exact ⟨by rw [← ea]; exact hsp.1, by rw [e1]; exact hsp.2.1⟩
    · simp only [dif_pos hi]
      exact (each i hi).choose_spec.choose_spec.2.2
end Go.Proofs.Ytbpkonneliidias

